/-
  What jalousieref16.Parse knows of the memory.
  What jalousieref16.Parse knows, beside what it has told so far.
-/
import Derived.Test.YtbgiliophmofgaaH06
import Derived.Test.YtbgiliophmofgaaH02
import Derived.Test.YtbgiliophmofgaaH03
import Derived.Test.YtbgiliophmofgaaH05
namespace Go.Proofs.Ytbgiliophmofgaa
open Go.RowKit
set_option linter.unusedVariables false

theorem Try.infoStr : (Try.prog.info? 9).map (fun i => (i.zero, i.size, i.bytes)) = some (some (.string ⟨#[]⟩), 1, 16) := by kernel_rfl
/-- A row of strings, of the call's own. -/
abbrev OwnSr (W : World) (B : Nat) (v : Value) (xs : List Str) : Prop := W.ownsRow B 9 1 v xs.length (xs.map strV)
theorem OwnSr.at {W : World} {B : Nat} {v : Value} {xs : List Str} (h : OwnSr W B v xs) : ∃ a cap, v = .slice a xs.length cap ∧ AtS W a xs ∧ xs.length ≤ cap ∧ cap ≤ maxLen ∧ (a = none → cap = 0) := by
  rcases h.2 with ⟨rfl, hn⟩ | ⟨g, cap, cur, rfl, hg, hh, hnc, hcm, hcs, ht⟩
  · have : xs = [] := List.eq_nil_of_length_eq_zero hn
    subst this
    exact ⟨none, 0, rfl, .inl rfl, Nat.le_refl _, Nat.zero_le _, fun _ => rfl⟩
  · refine ⟨_, cap, rfl, .inr ⟨g, 0, rfl, (Array.getElem?_eq_some_iff.1 hh).1, fun j hj => ?_⟩, hnc, hcm, fun h => by cases h⟩
    have := h.cells (g := g) rfl j (strV (xs[j]?.getD [])) (by rw [List.getElem?_map, List.getElem?_eq_getElem hj]; rfl)
    rwa [addr0_add] at this
/-- What Parse knows: the tokens, the project as far as it is laid, the nine rows (rv 0 .. rv 8, which lie in rb), the three of an arrow (rv 9), to which part each token belongs (rv 10). -/
structure PK (w W : World) (lv : Value) (T : List Tok) (pb rb : Nat) (vs ve va : Value) (rv : Nat → Value) (st ev : List Str) (ls : Nat → List Int) (A : List Arr) : Prop where
  bel : Below w.heap.size w W
  tk : OwnTk W w.heap.size lv T
  kp : Blk W pb 28 #[vs, ve, .int .i64 0, .int .i64 0, .slice none 0 0, va, .slice none 0 0, .slice none 0 0, .slice none 0 0, .slice none 0 0, .slice none 0 0]
  lp : w.heap.size + 1 + 1 < pb
  kr : Blk W rb 23 #[rv 0, rv 1, rv 2, rv 3, rv 4, rv 5, rv 6, rv 7, rv 8]
  lr : w.heap.size + 1 + 1 < rb
  os : OwnSr W w.heap.size vs st
  oe : OwnSr W w.heap.size ve ev
  oa : OwnA W w.heap.size va A
  rr : ∀ j, j < 11 → Own W w.heap.size (rv j) (ls j)
  ap : ∀ i j, i < 11 → j < 11 → i ≠ j → (rv i).ownBlock = none ∨ (rv i).ownBlock ≠ (rv j).ownBlock
  as_ : vs.ownBlock = none ∨ vs.ownBlock ≠ ve.ownBlock
  k2 : Blk W w.heap.size 28 #[.slice none 0 0, .slice none 0 0, .int .i64 0, .int .i64 0, .slice none 0 0, .slice none 0 0, .slice none 0 0, .slice none 0 0, .slice none 0 0, .slice none 0 0, .slice none 0 0]
  k3 : Blk W (w.heap.size + 1) 31 #[.int .i64 0, .int .i64 0]
  k4 : Blk W (w.heap.size + 1 + 1) 28 #[.slice none 0 0, .slice none 0 0, .int .i64 0, .int .i64 0, .slice none 0 0, .slice none 0 0, .slice none 0 0, .slice none 0 0, .slice none 0 0, .slice none 0 0, .slice none 0 0]
/-- A value's place among some is another one's. -/
def upd {α : Type} (f : Nat → α) (k : Nat) (x : α) : Nat → α := fun j => if j = k then x else f j
theorem upd_at {α : Type} (f : Nat → α) (k : Nat) (x : α) : upd f k x k = x := if_pos rfl
theorem upd_ne {α : Type} (f : Nat → α) {k j : Nat} (x : α) (h : j ≠ k) : upd f k x j = f j := if_neg h
theorem cells_type {a b : Array Value} {s t : TypeId} (h : some (Obj.cells a s (0, 0)) = some (Obj.cells b t (0, 0))) : s = t := by
  injection h with h
  injection h
theorem apart_symm {a b : Option Nat} (h : a = none ∨ a ≠ b) : b = none ∨ b ≠ a := by
  cases hb : b with
  | none => exact .inl rfl
  | some x =>
    refine .inr fun e => ?_
    rcases h with h | h
    · rw [h] at e; cases e
    · exact h (by rw [hb, e])
section
variable {w W : World} {lv : Value} {T : List Tok} {pb rb : Nat} {vs ve va : Value} {rv : Nat → Value} {st ev : List Str} {ls : Nat → List Int} {A : List Arr}
theorem PK.below {W' : World} (h : PK w W lv T pb rb vs ve va rv st ev ls A) (hb : Below W.heap.size W W') : PK w W' lv T pb rb vs ve va rv st ev ls A := by
  have own : ∀ {B s n : Nat} {e : TypeId} {v : Value} {xs : List Value}, W.ownsRow B e s v n xs → W'.ownsRow B e s v n xs := fun ho => own_same ho (fun k hk => hb.block k (World.ownsRow.lt ho k hk).2)
  exact ⟨h.bel.trans (hb.mono h.bel.size), own h.tk, h.kp.below hb h.kp.lt, h.lp, h.kr.below hb h.kr.lt, h.lr, own h.os, own h.oe, own h.oa, fun j hj => own (h.rr j hj), h.ap, h.as_, h.k2.below hb h.k2.lt, h.k3.below hb h.k3.lt, h.k4.below hb h.k4.lt⟩
theorem own_blk {V : World} {B s n b : Nat} {e t : TypeId} {v : Value} {xs : List Value} {cs : Array Value} (ho : V.ownsRow B e s v n xs) (hb : V.heap[b]? = some (.cells cs t (0, 0))) (he : t ≠ e) : v.ownBlock ≠ some b := fun hk => by
  obtain ⟨c2, h2⟩ := own_type ho hk
  rw [hb] at h2; cases h2; exact he rfl
theorem PK.state {W2 W3 : World} {vs' : Value} {x : Str} (h : PK w W lv T pb rb vs ve va rv st ev ls A) (hW3 : Below W.heap.size W W3) (o1 : OwnSr W2 w.heap.size vs' (st ++ [x])) (gr : W3.grownBy W2 vs.ownBlock) (n1 : vs'.ownBlock = vs.ownBlock ∨ vs'.ownBlock = some W3.heap.size) :
    Blk W2 pb 28 #[vs, ve, .int .i64 0, .int .i64 0, .slice none 0 0, va, .slice none 0 0, .slice none 0 0, .slice none 0 0, .slice none 0 0, .slice none 0 0] ∧ PK w (W2.setCell ⟨pb, 0, none⟩ vs') lv T pb rb vs' ve va rv (st ++ [x]) ev ls A := by
  have h3 := h.below hW3
  have key : ∀ q, q < W3.heap.size → vs.ownBlock ≠ some q → W2.heap[q]? = W3.heap[q]? := fun q hq hn => gr.block q hq (fun e => hn e.symm)
  have kp3 : W3.heap[pb]? = some (.cells #[vs, ve, .int .i64 0, .int .i64 0, .slice none 0 0, va, .slice none 0 0, .slice none 0 0, .slice none 0 0, .slice none 0 0, .slice none 0 0] 28 (0, 0)) := h3.kp
  have kr3 : W3.heap[rb]? = some (.cells #[rv 0, rv 1, rv 2, rv 3, rv 4, rv 5, rv 6, rv 7, rv 8] 23 (0, 0)) := h3.kr
  have kp2 : Blk W2 pb 28 #[vs, ve, .int .i64 0, .int .i64 0, .slice none 0 0, va, .slice none 0 0, .slice none 0 0, .slice none 0 0, .slice none 0 0, .slice none 0 0] := (key pb h3.kp.lt (own_blk h3.os kp3 (by decide))).trans kp3
  have kp2' : W2.heap[pb]? = some (.cells #[vs, ve, .int .i64 0, .int .i64 0, .slice none 0 0, va, .slice none 0 0, .slice none 0 0, .slice none 0 0, .slice none 0 0, .slice none 0 0] 28 (0, 0)) := kp2
  have nb : rb ≠ pb := fun e => by rw [e, kp3] at kr3; exact absurd (cells_type kr3) (by decide)
  have own : ∀ {B s n : Nat} {e : TypeId} {v : Value} {xs : List Value}, e ≠ 28 → (v.ownBlock = none ∨ v.ownBlock ≠ vs.ownBlock) → W3.ownsRow B e s v n xs → (W2.setCell ⟨pb, 0, none⟩ vs').ownsRow B e s v n xs := fun he hap ho => own_same ho (fun k hk => by
    have hq := (World.ownsRow.lt ho k hk).2
    have h1 : vs.ownBlock ≠ some k := by
      rcases hap with hap | hap
      · rw [hk] at hap; cases hap
      · rw [hk] at hap; exact fun e => hap e.symm
    rw [Below.heap_setCell _ _ _ _ (show k ≠ pb from fun e => own_blk ho kp3 (Ne.symm he) (by rw [hk, e])), key k hq h1])
  have ne : ∀ {B s n : Nat} {e : TypeId} {v : Value} {xs : List Value}, e ≠ 9 → W3.ownsRow B e s v n xs → (v.ownBlock = none ∨ v.ownBlock ≠ vs.ownBlock) := fun he ho => own_apart ho h3.os he
  have kb : ∀ {b : Nat} {t : TypeId} {cs : Array Value}, t ≠ 9 → b ≠ pb → Blk W3 b t cs → Blk (W2.setCell ⟨pb, 0, none⟩ vs') b t cs := fun {b t cs} ht hb hB => Blk.other ((key b hB.lt (own_blk h3.os (show W3.heap[b]? = _ from hB) ht)).trans hB) hb _
  have hlp := h.lp
  refine ⟨kp2, ?_, own (by decide) (ne (by decide) h3.tk) h3.tk, kp2.set 0 vs', h.lp, ?_, h.lr, ?_, ?_, ?_, fun j hj => own (by decide) (ne (by decide) (h3.rr j hj)) (h3.rr j hj), h.ap, ?_, kb (by decide) (by omega) h3.k2, kb (by decide) (by omega) h3.k3, kb (by decide) (by omega) h3.k4⟩
  · exact (h3.bel.grown gr h3.bel.size (fun j hj => (World.ownsRow.lt h3.os j hj).1)).setCell (p := ⟨pb, 0, none⟩) (show w.heap.size ≤ pb by omega) _
  · exact Blk.other ((key rb h3.kr.lt (own_blk h3.os kr3 (by decide))).trans kr3) nb _
  · exact own_same o1 (fun k hk => Below.heap_setCell _ _ _ _ (show k ≠ pb from fun e => own_blk o1 kp2' (by decide) (by rw [hk, e])))
  · exact own (by decide) (apart_symm h.as_) h3.oe
  · exact own (by decide) (ne (by decide) h3.oa) h3.oa
  · rcases n1 with e | e
    · rw [e]; exact h.as_
    · refine .inr (fun e2 => ?_)
      rw [e] at e2
      have := (World.ownsRow.lt h3.oe _ e2.symm).2
      omega
theorem PK.event {W2 W3 : World} {ve' : Value} {x : Str} (h : PK w W lv T pb rb vs ve va rv st ev ls A) (hW3 : Below W.heap.size W W3) (o1 : OwnSr W2 w.heap.size ve' (ev ++ [x])) (gr : W3.grownBy W2 ve.ownBlock) (n1 : ve'.ownBlock = ve.ownBlock ∨ ve'.ownBlock = some W3.heap.size) :
    Blk W2 pb 28 #[vs, ve, .int .i64 0, .int .i64 0, .slice none 0 0, va, .slice none 0 0, .slice none 0 0, .slice none 0 0, .slice none 0 0, .slice none 0 0] ∧ PK w (W2.setCell ⟨pb, 1, none⟩ ve') lv T pb rb vs ve' va rv st (ev ++ [x]) ls A := by
  have h3 := h.below hW3
  have key : ∀ q, q < W3.heap.size → ve.ownBlock ≠ some q → W2.heap[q]? = W3.heap[q]? := fun q hq hn => gr.block q hq (fun e => hn e.symm)
  have kp3 : W3.heap[pb]? = some (.cells #[vs, ve, .int .i64 0, .int .i64 0, .slice none 0 0, va, .slice none 0 0, .slice none 0 0, .slice none 0 0, .slice none 0 0, .slice none 0 0] 28 (0, 0)) := h3.kp
  have kr3 : W3.heap[rb]? = some (.cells #[rv 0, rv 1, rv 2, rv 3, rv 4, rv 5, rv 6, rv 7, rv 8] 23 (0, 0)) := h3.kr
  have kp2 : Blk W2 pb 28 #[vs, ve, .int .i64 0, .int .i64 0, .slice none 0 0, va, .slice none 0 0, .slice none 0 0, .slice none 0 0, .slice none 0 0, .slice none 0 0] := (key pb h3.kp.lt (own_blk h3.oe kp3 (by decide))).trans kp3
  have kp2' : W2.heap[pb]? = some (.cells #[vs, ve, .int .i64 0, .int .i64 0, .slice none 0 0, va, .slice none 0 0, .slice none 0 0, .slice none 0 0, .slice none 0 0, .slice none 0 0] 28 (0, 0)) := kp2
  have nb : rb ≠ pb := fun e => by rw [e, kp3] at kr3; exact absurd (cells_type kr3) (by decide)
  have own : ∀ {B s n : Nat} {e : TypeId} {v : Value} {xs : List Value}, e ≠ 28 → (v.ownBlock = none ∨ v.ownBlock ≠ ve.ownBlock) → W3.ownsRow B e s v n xs → (W2.setCell ⟨pb, 1, none⟩ ve').ownsRow B e s v n xs := fun he hap ho => own_same ho (fun k hk => by
    have hq := (World.ownsRow.lt ho k hk).2
    have h1 : ve.ownBlock ≠ some k := by
      rcases hap with hap | hap
      · rw [hk] at hap; cases hap
      · rw [hk] at hap; exact fun e => hap e.symm
    rw [Below.heap_setCell _ _ _ _ (show k ≠ pb from fun e => own_blk ho kp3 (Ne.symm he) (by rw [hk, e])), key k hq h1])
  have ne : ∀ {B s n : Nat} {e : TypeId} {v : Value} {xs : List Value}, e ≠ 9 → W3.ownsRow B e s v n xs → (v.ownBlock = none ∨ v.ownBlock ≠ ve.ownBlock) := fun he ho => own_apart ho h3.oe he
  have kb : ∀ {b : Nat} {t : TypeId} {cs : Array Value}, t ≠ 9 → b ≠ pb → Blk W3 b t cs → Blk (W2.setCell ⟨pb, 1, none⟩ ve') b t cs := fun {b t cs} ht hb hB => Blk.other ((key b hB.lt (own_blk h3.oe (show W3.heap[b]? = _ from hB) ht)).trans hB) hb _
  have hlp := h.lp
  refine ⟨kp2, ?_, own (by decide) (ne (by decide) h3.tk) h3.tk, kp2.set 1 ve', h.lp, ?_, h.lr, ?_, ?_, ?_, fun j hj => own (by decide) (ne (by decide) (h3.rr j hj)) (h3.rr j hj), h.ap, ?_, kb (by decide) (by omega) h3.k2, kb (by decide) (by omega) h3.k3, kb (by decide) (by omega) h3.k4⟩
  · exact (h3.bel.grown gr h3.bel.size (fun j hj => (World.ownsRow.lt h3.oe j hj).1)).setCell (p := ⟨pb, 1, none⟩) (show w.heap.size ≤ pb by omega) _
  · exact Blk.other ((key rb h3.kr.lt (own_blk h3.oe kr3 (by decide))).trans kr3) nb _
  · exact own (by decide) h.as_ h3.os
  · exact own_same o1 (fun k hk => Below.heap_setCell _ _ _ _ (show k ≠ pb from fun e => own_blk o1 kp2' (by decide) (by rw [hk, e])))
  · exact own (by decide) (ne (by decide) h3.oa) h3.oa
  · rcases n1 with e | e
    · rw [e]; exact h.as_
    · cases hv : vs.ownBlock with
      | none => exact .inl rfl
      | some b =>
        refine .inr (fun e2 => ?_)
        rw [e] at e2
        have e3 : b = W3.heap.size := by injection e2
        have := (World.ownsRow.lt h3.os _ hv).2
        omega
theorem PK.arrow {W2 W3 : World} {va' : Value} {x : Arr} (h : PK w W lv T pb rb vs ve va rv st ev ls A) (hW3 : Below W.heap.size W W3) (o1 : OwnA W2 w.heap.size va' (A ++ [x])) (gr : W3.grownBy W2 va.ownBlock) (n1 : va'.ownBlock = va.ownBlock ∨ va'.ownBlock = some W3.heap.size) :
    Blk W2 pb 28 #[vs, ve, .int .i64 0, .int .i64 0, .slice none 0 0, va, .slice none 0 0, .slice none 0 0, .slice none 0 0, .slice none 0 0, .slice none 0 0] ∧ PK w (W2.setCell ⟨pb, 5, none⟩ va') lv T pb rb vs ve va' rv st ev ls (A ++ [x]) := by
  have h3 := h.below hW3
  have key : ∀ q, q < W3.heap.size → va.ownBlock ≠ some q → W2.heap[q]? = W3.heap[q]? := fun q hq hn => gr.block q hq (fun e => hn e.symm)
  have kp3 : W3.heap[pb]? = some (.cells #[vs, ve, .int .i64 0, .int .i64 0, .slice none 0 0, va, .slice none 0 0, .slice none 0 0, .slice none 0 0, .slice none 0 0, .slice none 0 0] 28 (0, 0)) := h3.kp
  have kr3 : W3.heap[rb]? = some (.cells #[rv 0, rv 1, rv 2, rv 3, rv 4, rv 5, rv 6, rv 7, rv 8] 23 (0, 0)) := h3.kr
  have kp2 : Blk W2 pb 28 #[vs, ve, .int .i64 0, .int .i64 0, .slice none 0 0, va, .slice none 0 0, .slice none 0 0, .slice none 0 0, .slice none 0 0, .slice none 0 0] := (key pb h3.kp.lt (own_blk h3.oa kp3 (by decide))).trans kp3
  have kp2' : W2.heap[pb]? = some (.cells #[vs, ve, .int .i64 0, .int .i64 0, .slice none 0 0, va, .slice none 0 0, .slice none 0 0, .slice none 0 0, .slice none 0 0, .slice none 0 0] 28 (0, 0)) := kp2
  have nb : rb ≠ pb := fun e => by rw [e, kp3] at kr3; exact absurd (cells_type kr3) (by decide)
  have own : ∀ {B s n : Nat} {e : TypeId} {v : Value} {xs : List Value}, e ≠ 28 → (v.ownBlock = none ∨ v.ownBlock ≠ va.ownBlock) → W3.ownsRow B e s v n xs → (W2.setCell ⟨pb, 5, none⟩ va').ownsRow B e s v n xs := fun he hap ho => own_same ho (fun k hk => by
    have hq := (World.ownsRow.lt ho k hk).2
    have h1 : va.ownBlock ≠ some k := by
      rcases hap with hap | hap
      · rw [hk] at hap; cases hap
      · rw [hk] at hap; exact fun e => hap e.symm
    rw [Below.heap_setCell _ _ _ _ (show k ≠ pb from fun e => own_blk ho kp3 (Ne.symm he) (by rw [hk, e])), key k hq h1])
  have ne : ∀ {B s n : Nat} {e : TypeId} {v : Value} {xs : List Value}, e ≠ 60 → W3.ownsRow B e s v n xs → (v.ownBlock = none ∨ v.ownBlock ≠ va.ownBlock) := fun he ho => own_apart ho h3.oa he
  have kb : ∀ {b : Nat} {t : TypeId} {cs : Array Value}, t ≠ 60 → b ≠ pb → Blk W3 b t cs → Blk (W2.setCell ⟨pb, 5, none⟩ va') b t cs := fun {b t cs} ht hb hB => Blk.other ((key b hB.lt (own_blk h3.oa (show W3.heap[b]? = _ from hB) ht)).trans hB) hb _
  have hlp := h.lp
  refine ⟨kp2, ?_, own (by decide) (ne (by decide) h3.tk) h3.tk, kp2.set 5 va', h.lp, ?_, h.lr, ?_, ?_, ?_, fun j hj => own (by decide) (ne (by decide) (h3.rr j hj)) (h3.rr j hj), h.ap, ?_, kb (by decide) (by omega) h3.k2, kb (by decide) (by omega) h3.k3, kb (by decide) (by omega) h3.k4⟩
  · exact (h3.bel.grown gr h3.bel.size (fun j hj => (World.ownsRow.lt h3.oa j hj).1)).setCell (p := ⟨pb, 5, none⟩) (show w.heap.size ≤ pb by omega) _
  · exact Blk.other ((key rb h3.kr.lt (own_blk h3.oa kr3 (by decide))).trans kr3) nb _
  · exact own (by decide) (ne (by decide) h3.os) h3.os
  · exact own (by decide) (ne (by decide) h3.oe) h3.oe
  · exact own_same o1 (fun k hk => Below.heap_setCell _ _ _ _ (show k ≠ pb from fun e => own_blk o1 kp2' (by decide) (by rw [hk, e])))
  · exact h.as_
theorem PK.row {W2 W3 : World} {v' : Value} {x : Int} {k : Nat} (hk9 : k < 9) (h : PK w W lv T pb rb vs ve va rv st ev ls A) (hW3 : Below W.heap.size W W3) (o1 : Own W2 w.heap.size v' (ls k ++ [x])) (gr : W3.grownBy W2 (rv k).ownBlock) (n1 : v'.ownBlock = (rv k).ownBlock ∨ v'.ownBlock = some W3.heap.size) :
    Blk W2 rb 23 #[rv 0, rv 1, rv 2, rv 3, rv 4, rv 5, rv 6, rv 7, rv 8] ∧ PK w (W2.setCell ⟨rb, k, none⟩ v') lv T pb rb vs ve va (upd rv k v') st ev (upd ls k (ls k ++ [x])) A := by
  have h3 := h.below hW3
  have hro := h3.rr k (by omega)
  have key : ∀ q, q < W3.heap.size → (rv k).ownBlock ≠ some q → W2.heap[q]? = W3.heap[q]? := fun q hq hn => gr.block q hq (fun e => hn e.symm)
  have kp3 : W3.heap[pb]? = some (.cells #[vs, ve, .int .i64 0, .int .i64 0, .slice none 0 0, va, .slice none 0 0, .slice none 0 0, .slice none 0 0, .slice none 0 0, .slice none 0 0] 28 (0, 0)) := h3.kp
  have kr3 : W3.heap[rb]? = some (.cells #[rv 0, rv 1, rv 2, rv 3, rv 4, rv 5, rv 6, rv 7, rv 8] 23 (0, 0)) := h3.kr
  have kr2 : Blk W2 rb 23 #[rv 0, rv 1, rv 2, rv 3, rv 4, rv 5, rv 6, rv 7, rv 8] := (key rb h3.kr.lt (own_blk hro kr3 (by decide))).trans kr3
  have kr2' : W2.heap[rb]? = some (.cells #[rv 0, rv 1, rv 2, rv 3, rv 4, rv 5, rv 6, rv 7, rv 8] 23 (0, 0)) := kr2
  have nb : pb ≠ rb := fun e => by rw [← e, kp3] at kr3; exact absurd (cells_type kr3) (by decide)
  have kr4 : Blk (W2.setCell ⟨rb, k, none⟩ v') rb 23 #[(upd rv k v') 0, (upd rv k v') 1, (upd rv k v') 2, (upd rv k v') 3, (upd rv k v') 4, (upd rv k v') 5, (upd rv k v') 6, (upd rv k v') 7, (upd rv k v') 8] := by
    have h1 := kr2.set k v'
    have e : (#[rv 0, rv 1, rv 2, rv 3, rv 4, rv 5, rv 6, rv 7, rv 8] : Array Value).setIfInBounds k v' = #[(upd rv k v') 0, (upd rv k v') 1, (upd rv k v') 2, (upd rv k v') 3, (upd rv k v') 4, (upd rv k v') 5, (upd rv k v') 6, (upd rv k v') 7, (upd rv k v') 8] := by
      have : k = 0 ∨ k = 1 ∨ k = 2 ∨ k = 3 ∨ k = 4 ∨ k = 5 ∨ k = 6 ∨ k = 7 ∨ k = 8 := by omega
      rcases this with rfl | rfl | rfl | rfl | rfl | rfl | rfl | rfl | rfl <;> rfl
    rwa [e] at h1
  have own : ∀ {B s n : Nat} {e : TypeId} {v : Value} {xs : List Value}, e ≠ 23 → (v.ownBlock = none ∨ v.ownBlock ≠ (rv k).ownBlock) → W3.ownsRow B e s v n xs → (W2.setCell ⟨rb, k, none⟩ v').ownsRow B e s v n xs := fun he hap ho => own_same ho (fun q hk => by
    have hq := (World.ownsRow.lt ho q hk).2
    have h1 : (rv k).ownBlock ≠ some q := by
      rcases hap with hap | hap
      · rw [hk] at hap; cases hap
      · rw [hk] at hap; exact fun e => hap e.symm
    rw [Below.heap_setCell _ _ _ _ (show q ≠ rb from fun e => own_blk ho kr3 (Ne.symm he) (by rw [hk, e])), key q hq h1])
  have o1S : Own (W2.setCell ⟨rb, k, none⟩ v') w.heap.size v' (ls k ++ [x]) := own_same o1 (fun q hk => Below.heap_setCell _ _ _ _ (show q ≠ rb from fun e => own_blk o1 kr2' (by decide) (by rw [hk, e])))
  have kb : ∀ {b : Nat} {t : TypeId} {cs : Array Value}, t ≠ 3 → b ≠ rb → Blk W3 b t cs → Blk (W2.setCell ⟨rb, k, none⟩ v') b t cs := fun {b t cs} ht hb hB => Blk.other ((key b hB.lt (own_blk hro (show W3.heap[b]? = _ from hB) ht)).trans hB) hb _
  have hlr := h.lr
  have ne : ∀ {B s n : Nat} {e : TypeId} {v : Value} {xs : List Value}, e ≠ 3 → W3.ownsRow B e s v n xs → (v.ownBlock = none ∨ v.ownBlock ≠ (rv k).ownBlock) := fun he ho => own_apart ho hro he
  refine ⟨kr2, (h3.bel.grown gr h3.bel.size (fun j hj => (World.ownsRow.lt hro j hj).1)).setCell (p := ⟨rb, k, none⟩) (show w.heap.size ≤ rb by omega) _, own (by decide) (ne (by decide) h3.tk) h3.tk, Blk.other ((key pb h3.kp.lt (own_blk hro kp3 (by decide))).trans kp3) nb _, h.lp, kr4, h.lr, own (by decide) (ne (by decide) h3.os) h3.os, own (by decide) (ne (by decide) h3.oe) h3.oe, own (by decide) (ne (by decide) h3.oa) h3.oa, fun j hj => ?_, fun i j hi hj hij => ?_, h.as_, kb (by decide) (by omega) h3.k2, kb (by decide) (by omega) h3.k3, kb (by decide) (by omega) h3.k4⟩
  · by_cases e : j = k
    · subst e; rw [upd_at, upd_at]; exact o1S
    · rw [upd_ne _ _ e, upd_ne _ _ e]; exact own (by decide) (h.ap j k hj (by omega) e) (h3.rr j hj)
  · by_cases ei : i = k
    · subst ei
      rw [upd_at, upd_ne _ _ (Ne.symm hij)]
      rcases n1 with e | e
      · rw [e]; exact h.ap _ j hi hj hij
      · refine .inr (fun e2 => ?_)
        rw [e] at e2
        have := (World.ownsRow.lt (h3.rr j hj) _ e2.symm).2
        omega
    · rw [upd_ne _ _ ei]
      by_cases ej : j = k
      · subst ej
        rw [upd_at]
        rcases n1 with e | e
        · rw [e]; exact h.ap i _ hi hj hij
        · cases hv : (rv i).ownBlock with
          | none => exact .inl rfl
          | some b =>
            refine .inr (fun e2 => ?_)
            rw [e] at e2
            have e3 : b = W3.heap.size := by injection e2
            have := (World.ownsRow.lt (h3.rr i hi) _ hv).2
            omega
      · rw [upd_ne _ _ ej]; exact h.ap i j hi hj hij
theorem PK.three {W2 W3 : World} {v' : Value} {x : Int} (h : PK w W lv T pb rb vs ve va rv st ev ls A) (hW3 : Below W.heap.size W W3) (o1 : Own W2 w.heap.size v' (ls 9 ++ [x])) (gr : W3.grownBy W2 (rv 9).ownBlock) (n1 : v'.ownBlock = (rv 9).ownBlock ∨ v'.ownBlock = some W3.heap.size) :
    Blk W2 rb 23 #[rv 0, rv 1, rv 2, rv 3, rv 4, rv 5, rv 6, rv 7, rv 8] ∧ PK w W2 lv T pb rb vs ve va (upd rv 9 v') st ev (upd ls 9 (ls 9 ++ [x])) A := by
  have h3 := h.below hW3
  have hro := h3.rr 9 (by omega)
  have key : ∀ q, q < W3.heap.size → (rv 9).ownBlock ≠ some q → W2.heap[q]? = W3.heap[q]? := fun q hq hn => gr.block q hq (fun e => hn e.symm)
  have kp3 : W3.heap[pb]? = some (.cells #[vs, ve, .int .i64 0, .int .i64 0, .slice none 0 0, va, .slice none 0 0, .slice none 0 0, .slice none 0 0, .slice none 0 0, .slice none 0 0] 28 (0, 0)) := h3.kp
  have kr3 : W3.heap[rb]? = some (.cells #[rv 0, rv 1, rv 2, rv 3, rv 4, rv 5, rv 6, rv 7, rv 8] 23 (0, 0)) := h3.kr
  have kr2 : Blk W2 rb 23 #[rv 0, rv 1, rv 2, rv 3, rv 4, rv 5, rv 6, rv 7, rv 8] := (key rb h3.kr.lt (own_blk hro kr3 (by decide))).trans kr3
  have kr2' : W2.heap[rb]? = some (.cells #[rv 0, rv 1, rv 2, rv 3, rv 4, rv 5, rv 6, rv 7, rv 8] 23 (0, 0)) := kr2
  have nb : pb ≠ rb := fun e => by rw [← e, kp3] at kr3; exact absurd (cells_type kr3) (by decide)
  have kr4 : Blk W2 rb 23 #[(upd rv 9 v') 0, (upd rv 9 v') 1, (upd rv 9 v') 2, (upd rv 9 v') 3, (upd rv 9 v') 4, (upd rv 9 v') 5, (upd rv 9 v') 6, (upd rv 9 v') 7, (upd rv 9 v') 8] := kr2
  have own : ∀ {B s n : Nat} {e : TypeId} {v : Value} {xs : List Value}, e ≠ 23 → (v.ownBlock = none ∨ v.ownBlock ≠ (rv 9).ownBlock) → W3.ownsRow B e s v n xs → W2.ownsRow B e s v n xs := fun he hap ho => own_same ho (fun q hk => by
    have hq := (World.ownsRow.lt ho q hk).2
    have h1 : (rv 9).ownBlock ≠ some q := by
      rcases hap with hap | hap
      · rw [hk] at hap; cases hap
      · rw [hk] at hap; exact fun e => hap e.symm
    rw [key q hq h1])
  have o1S := o1
  have kb : ∀ {b : Nat} {t : TypeId} {cs : Array Value}, t ≠ 3 → b ≠ rb → Blk W3 b t cs → Blk W2 b t cs := fun {b t cs} ht hb hB => (key b hB.lt (own_blk hro (show W3.heap[b]? = _ from hB) ht)).trans hB
  have hlr := h.lr
  have ne : ∀ {B s n : Nat} {e : TypeId} {v : Value} {xs : List Value}, e ≠ 3 → W3.ownsRow B e s v n xs → (v.ownBlock = none ∨ v.ownBlock ≠ (rv 9).ownBlock) := fun he ho => own_apart ho hro he
  refine ⟨kr2, (h3.bel.grown gr h3.bel.size (fun j hj => (World.ownsRow.lt hro j hj).1)), own (by decide) (ne (by decide) h3.tk) h3.tk, (key pb h3.kp.lt (own_blk hro kp3 (by decide))).trans kp3, h.lp, kr4, h.lr, own (by decide) (ne (by decide) h3.os) h3.os, own (by decide) (ne (by decide) h3.oe) h3.oe, own (by decide) (ne (by decide) h3.oa) h3.oa, fun j hj => ?_, fun i j hi hj hij => ?_, h.as_, kb (by decide) (by omega) h3.k2, kb (by decide) (by omega) h3.k3, kb (by decide) (by omega) h3.k4⟩
  · by_cases e : j = 9
    · subst e; rw [upd_at, upd_at]; exact o1S
    · rw [upd_ne _ _ e, upd_ne _ _ e]; exact own (by decide) (h.ap j 9 hj (by omega) e) (h3.rr j hj)
  · by_cases ei : i = 9
    · subst ei
      rw [upd_at, upd_ne _ _ (Ne.symm hij)]
      rcases n1 with e | e
      · rw [e]; exact h.ap _ j hi hj hij
      · refine .inr (fun e2 => ?_)
        rw [e] at e2
        have := (World.ownsRow.lt (h3.rr j hj) _ e2.symm).2
        omega
    · rw [upd_ne _ _ ei]
      by_cases ej : j = 9
      · subst ej
        rw [upd_at]
        rcases n1 with e | e
        · rw [e]; exact h.ap i _ hi hj hij
        · cases hv : (rv i).ownBlock with
          | none => exact .inl rfl
          | some b =>
            refine .inr (fun e2 => ?_)
            rw [e] at e2
            have e3 : b = W3.heap.size := by injection e2
            have := (World.ownsRow.lt (h3.rr i hi) _ hv).2
            omega
      · rw [upd_ne _ _ ej]; exact h.ap i j hi hj hij
/-- An arrow is begun anew. -/
theorem PK.three0 (h : PK w W lv T pb rb vs ve va rv st ev ls A) : PK w W lv T pb rb vs ve va (upd rv 9 (.slice none 0 0)) st ev (upd ls 9 []) A := by
  refine ⟨h.bel, h.tk, h.kp, h.lp, h.kr, h.lr, h.os, h.oe, h.oa, fun j hj => ?_, fun i j hi hj hij => ?_, h.as_, h.k2, h.k3, h.k4⟩
  · by_cases e : j = 9
    · subst e; rw [upd_at, upd_at]; exact own_nil _ _
    · rw [upd_ne _ _ e, upd_ne _ _ e]; exact h.rr j hj
  · by_cases ei : i = 9
    · subst ei; rw [upd_at]; exact .inl rfl
    · rw [upd_ne _ _ ei]
      by_cases ej : j = 9
      · subst ej
        rw [upd_at]
        cases hv : (rv i).ownBlock with
        | none => exact .inl rfl
        | some b => exact .inr (fun e => by cases e)
      · rw [upd_ne _ _ ej]; exact h.ap i j hi hj hij
end

end Go.Proofs.Ytbgiliophmofgaa
namespace Go.Proofs.Ytbgiliophmofgaa
open Go.RowKit
set_option linter.unusedVariables false

/-- The rows of numbers: of the nine parts, the three of an arrow, to which part each token belongs. -/
def lsP (q : Ps) (ol : List Int) : Nat → List Int := fun j => if j = 9 then q.three else if j = 10 then ol else q.rows j
theorem lsP_nine (q : Ps) (ol : List Int) : lsP q ol 9 = q.three := rfl
theorem lsP_ten (q : Ps) (ol : List Int) : lsP q ol 10 = ol := rfl
theorem lsP_row (q : Ps) (ol : List Int) {k : Nat} (h : k < 9) : lsP q ol k = q.rows k := by
  unfold lsP; rw [if_neg (by omega), if_neg (by omega)]
theorem lsP_push (q : Ps) (ol : List Int) {k : Nat} (h : k < 9) (x : Int) : upd (lsP q ol) k (lsP q ol k ++ [x]) = lsP { q with rows := fun j => if j = k then q.rows k ++ [x] else q.rows j } ol := by
  funext j
  by_cases e : j = k
  · subst e
    rw [upd_at, lsP_row _ _ h, lsP_row _ _ h]
    show _ = if j = j then _ else _
    rw [if_pos rfl]
  · rw [upd_ne _ _ e]
    unfold lsP
    split
    · rfl
    · split
      · rfl
      · show _ = if j = k then _ else _
        rw [if_neg e]
theorem lsP_three (q : Ps) (ol l : List Int) (f : Nat) : upd (lsP q ol) 9 l = lsP { q with three := l, first := f } ol := by
  funext j
  by_cases e : j = 9
  · subst e; rw [upd_at]; rfl
  · rw [upd_ne _ _ e]
    unfold lsP
    rw [if_neg e, if_neg e]
theorem lsP_arr (q : Ps) (ol : List Int) (f : Nat) (A : List Arr) : upd (lsP q ol) 9 [] = lsP { q with three := [], first := f, arrows := A } ol := by
  funext j
  by_cases e : j = 9
  · subst e; rw [upd_at]; rfl
  · rw [upd_ne _ _ e]
    unfold lsP
    rw [if_neg e, if_neg e]
/-- At first. -/
def rv0 (ov : Value) : Nat → Value := fun j => if j = 10 then ov else .slice none 0 0
theorem PK.start {w W : World} {lv ov : Value} {T : List Tok} {ol : List Int} {pb rb : Nat} (hB : Below w.heap.size w W) (hT : OwnTk W w.heap.size lv T) (hO : Own W w.heap.size ov ol) (h2 : Blk W w.heap.size 28 #[.slice none 0 0, .slice none 0 0, .int .i64 0, .int .i64 0, .slice none 0 0, .slice none 0 0, .slice none 0 0, .slice none 0 0, .slice none 0 0, .slice none 0 0, .slice none 0 0]) (h3 : Blk W (w.heap.size + 1) 31 #[.int .i64 0, .int .i64 0]) (h4 : Blk W (w.heap.size + 1 + 1) 28 #[.slice none 0 0, .slice none 0 0, .int .i64 0, .int .i64 0, .slice none 0 0, .slice none 0 0, .slice none 0 0, .slice none 0 0, .slice none 0 0, .slice none 0 0, .slice none 0 0])
    (hp : Blk W pb 28 #[.slice none 0 0, .slice none 0 0, .int .i64 0, .int .i64 0, .slice none 0 0, .slice none 0 0, .slice none 0 0, .slice none 0 0, .slice none 0 0, .slice none 0 0, .slice none 0 0]) (lp : w.heap.size + 1 + 1 < pb) (hr : Blk W rb 23 #[.slice none 0 0, .slice none 0 0, .slice none 0 0, .slice none 0 0, .slice none 0 0, .slice none 0 0, .slice none 0 0, .slice none 0 0, .slice none 0 0]) (lr : w.heap.size + 1 + 1 < rb) :
    PK w W lv T pb rb (.slice none 0 0) (.slice none 0 0) (.slice none 0 0) (rv0 ov) [] [] (lsP ps0 ol) [] := by
  refine ⟨hB, hT, hp, lp, hr, lr, World.ownsRow_nil _ _ _ _, World.ownsRow_nil _ _ _ _, ownA_nil _ _, fun j hj => ?_, fun i j hi hj hij => ?_, .inl rfl, h2, h3, h4⟩
  · by_cases e : j = 10
    · subst e
      show Own W w.heap.size ov ol
      exact hO
    · have e1 : rv0 ov j = .slice none 0 0 := if_neg e
      have e2 : lsP ps0 ol j = [] := by
        unfold lsP
        by_cases h9 : j = 9
        · rw [if_pos h9]; rfl
        · rw [if_neg h9, if_neg e]; rfl
      rw [e1, e2]; exact own_nil _ _
  · by_cases e : i = 10
    · have e1 : rv0 ov j = .slice none 0 0 := if_neg (by omega)
      rw [e1]
      cases hv : (rv0 ov i).ownBlock with
      | none => exact .inl rfl
      | some b => exact .inr (fun h => by cases h)
    · have e1 : rv0 ov i = .slice none 0 0 := if_neg e
      rw [e1]; exact .inl rfl
theorem Try.infoIntsP : (Try.prog.info? 23).map (fun i => (i.zero, i.size, i.bytes)) = some (some (.slice none 0 0), 1, 24) := by kernel_rfl
theorem make9 (w : World) : (Instr.makeSlice 57 (.int .i64 9) (.int .i64 9)).run Try.prog w = .ok (.slice (some ⟨w.heap.size, 0, none⟩) 9 9) (w.alloc (.cells #[.slice none 0 0, .slice none 0 0, .slice none 0 0, .slice none 0 0, .slice none 0 0, .slice none 0 0, .slice none 0 0, .slice none 0 0, .slice none 0 0] 23)) := by
  obtain ⟨i0, hi, hz0, hz1, hz2⟩ := info_parts Try.infoIntsP
  have := run_make (P := Try.prog) w 57 23 i0 (.slice none 0 0) Try.underlying57 hi hz0 .i64 .i64 9 9 (by omega) (by omega) (by rw [hz2]; omega) (by omega)
  rw [hz1] at this
  have e : madeCells (Value.slice none 0 0).cells (Int.toNat 9 * 1) = #[.slice none 0 0, .slice none 0 0, .slice none 0 0, .slice none 0 0, .slice none 0 0, .slice none 0 0, .slice none 0 0, .slice none 0 0, .slice none 0 0] := by kernel_rfl
  rw [e] at this
  exact this
/-- Parts of names. -/
theorem ps_neg {q : Ps} {k : Int} (t : Tok) (h : k < 0) : psStep q k t = .ok q := by unfold psStep; rw [if_pos h]
theorem plcI_mem {l : List Str} {s : Str} : s ∈ l ↔ 0 ≤ plcI l s := by
  unfold plcI plcS
  cases hf : l.findIdx? (fun x => decide (x = s)) with
  | none =>
    rw [List.findIdx?_eq_none_iff] at hf
    constructor
    · intro h
      have := hf s h
      simp at this
    · intro h; exact absurd h (by show ¬ (0 : Int) ≤ -1; omega)
  | some n =>
    obtain ⟨h1, h2, -⟩ := List.findIdx?_eq_some_iff_getElem.1 hf
    constructor
    · intro _; show (0 : Int) ≤ (n : Int); omega
    · intro _
      have : l[n] = s := by simpa using h2
      rw [← this]; exact List.getElem_mem h1

theorem plcI_none {l : List Str} {s : Str} (h : ¬ 0 ≤ plcI l s) : plcS l s = none := by
  unfold plcI at h
  cases hf : plcS l s with
  | none => rfl
  | some n => rw [hf] at h; exact absurd (show (0 : Int) ≤ (n : Int) by omega) h
theorem plcI_some {l : List Str} {s : Str} (h : 0 ≤ plcI l s) : plcS l s = some (plcI l s).toNat ∧ (plcI l s).toNat < l.length := by
  unfold plcI at h ⊢
  cases hf : plcS l s with
  | none => rw [hf] at h; exact absurd h (by show ¬ (0 : Int) ≤ -1; omega)
  | some n =>
    refine ⟨by simp, ?_⟩
    unfold plcS at hf
    obtain ⟨h1, -, -⟩ := List.findIdx?_eq_some_iff_getElem.1 hf
    simpa using h1
section
variable {q : Ps} {t : Tok}
theorem ps_state_twice (h : t.text ∈ q.states) : psStep q 0 t = .error (5, t.pos) := by simp [psStep, psNames, h, Except.map]
theorem ps_state_many (h : t.text ∉ q.states) (h2 : 6 ≤ q.states.length) : psStep q 0 t = .error (1, t.pos) := by simp [psStep, psNames, h, h2, Except.map]
theorem ps_state_ok (h : t.text ∉ q.states) (h2 : ¬ 6 ≤ q.states.length) : psStep q 0 t = .ok { q with states := q.states ++ [t.text] } := by simp [psStep, psNames, h, h2, Except.map]
theorem ps_event_twice (h : t.text ∈ q.events) : psStep q 1 t = .error (5, t.pos) := by simp [psStep, psNames, h, Except.map]
theorem ps_event_many (h : t.text ∉ q.events) (h2 : 8 ≤ q.events.length) : psStep q 1 t = .error (1, t.pos) := by simp [psStep, psNames, h, h2, Except.map]
theorem ps_event_ok (h : t.text ∉ q.events) (h2 : ¬ 8 ≤ q.events.length) : psStep q 1 t = .ok { q with events := q.events ++ [t.text] } := by simp [psStep, psNames, h, h2, Except.map]
theorem ps_none {k : Int} (h2 : 2 ≤ k) (h : plcS (if k < 5 ∨ (k = 8 ∧ q.three.length = 1) then q.events else q.states) t.text = none) : psStep q k t = .error (4, t.pos) := by
  unfold psStep
  rw [if_neg (by omega), if_neg (by omega), if_neg (by omega), h]
theorem ps_row_twice {k : Int} {n : Nat} (h2 : 2 ≤ k) (h8 : k < 8) (h : plcS (if k < 5 ∨ (k = 8 ∧ q.three.length = 1) then q.events else q.states) t.text = some n) (hm : (n : Int) ∈ q.rows k.toNat) : psStep q k t = .error (5, t.pos) := by
  unfold psStep
  rw [if_neg (by omega), if_neg (by omega), if_neg (by omega), h]
  show (if k < 8 then (if (n : Int) ∈ q.rows k.toNat then _ else _) else _) = _
  rw [if_pos h8, if_pos hm]
theorem ps_row_ok {k : Int} {n : Nat} (h2 : 2 ≤ k) (h8 : k < 8) (h : plcS (if k < 5 ∨ (k = 8 ∧ q.three.length = 1) then q.events else q.states) t.text = some n) (hm : ¬ (n : Int) ∈ q.rows k.toNat) : psStep q k t = .ok { q with rows := fun j => if j = k.toNat then q.rows k.toNat ++ [(n : Int)] else q.rows j } := by
  unfold psStep
  rw [if_neg (by omega), if_neg (by omega), if_neg (by omega), h]
  show (if k < 8 then (if (n : Int) ∈ q.rows k.toNat then _ else _) else _) = _
  rw [if_pos h8, if_neg hm]
theorem ps_arr_go {n : Nat} (h : plcS (if (8 : Int) < 5 ∨ ((8 : Int) = 8 ∧ q.three.length = 1) then q.events else q.states) t.text = some n) : psStep q 8 t = psArr q (n : Int) t.pos := by
  unfold psStep
  rw [if_neg (by omega), if_neg (by omega), if_neg (by omega), h]
  rfl
end

end Go.Proofs.Ytbgiliophmofgaa
