/-
  Plain: one round of the search. No program, no model.
  Inner slices of integers of which nil has no room.
  What is said of a slice of places (two lists and a word each); the walk of jalousieref7.known.
  What the walk of jalousieref7.Places knows of the memory.
  The walk of jalousieref7.Places.
  The walks of jalousieref7.Without and jalousieref7.Within.
-/
import Derived.Test.YtbdkaobbfmgnhaaDoorG03
import Derived.Test.YtbdkaobbfmgnhaaDoorG06
import Derived.Test.YtbdkaobbfmgnhaaDoorG10
import Derived.Test.YtbdkaobbfmgnhaaDoorG22
import Derived.Deep.RegionHeld3
import Derived.Test.YtbdkaobbfmgnhaaDoorG14
import Derived.Test.YtbdkaobbfmgnhaaDoorG04
import Derived.Test.YtbdkaobbfmgnhaaDoorG18
import Derived.Test.YtbdkaobbfmgnhaaDoorCOnly
import Derived.Test.YtbdkaobbfmgnhaaDoorCRefMay
namespace Go.Proofs.YtbdkaobbfmgnhaaDoor
open Go.RowKit
set_option linter.unusedVariables false

theorem bfGo_next {σ : Type} [DecidableEq σ] {δ : σ → Nat → σ} {ev f k : Nat} {l : List (σ × List Int)} {x : σ × List Int} (h : l[k]? = some x) : bfGo δ ev (f + 1) k l = bfGo δ ev f (k + 1) (bfRow δ x l ev) := by rw [bfGo, h]
theorem bfGo_stop {σ : Type} [DecidableEq σ] {δ : σ → Nat → σ} {ev f k : Nat} {l : List (σ × List Int)} (h : ¬ k < l.length) : bfGo δ ev f k l = l := by
  cases f with
  | zero => rfl
  | succ f =>
    have : l[k]? = none := List.getElem?_eq_none_iff.2 (by omega)
    unfold bfGo; rw [this]

end Go.Proofs.YtbdkaobbfmgnhaaDoor
namespace Go.Proofs.YtbdkaobbfmgnhaaDoor
open Go.RowKit
set_option linter.unusedVariables false

/-- An inner slice, and nil has no room. -/
def InnW (n : Nat) (W : World) (x : Value) (xs : List Int) : Prop := InnN n W x xs ∧ ∀ (m c : Nat), x = .slice none m c → c = 0
theorem InnW.kept {n : Nat} {W W' : World} {x : Value} {xs : List Int} (h : InnW n W x xs) (hz : W.heap.size ≤ W'.heap.size) (h1 : ∀ j, j < n → W'.heap[j]? = W.heap[j]?) (h2 : ∀ (g : Nat) (cs : Array Value), W.heap[g]? = some (.cells cs 3 (0, 0)) → W'.heap[g]? = W.heap[g]?) : InnW n W' x xs := ⟨h.1.kept hz h1 h2, h.2⟩
theorem InnW.below {n : Nat} {W W' : World} {x : Value} {xs : List Int} (h : InnW n W x xs) (hb : Below W.heap.size W W') (hn : n ≤ W.heap.size) : InnW n W' x xs :=
  h.kept hb.size (fun j hj => hb.block j (by omega)) (fun g cs hg => hb.block g (Array.getElem?_eq_some_iff.1 hg).1)
theorem InnW.of_own {n : Nat} {W : World} {B : Nat} {v : Value} {xs : List Int} (h : Own W B v xs) : InnW n W v xs := by
  refine ⟨InnN.of_own h, fun m c e => ?_⟩
  obtain ⟨a, cap, e1, -, -, -, e2⟩ := h.at2
  rw [e1] at e
  cases e
  exact e2 rfl
theorem InnW.at {n : Nat} {W : World} {x : Value} {xs : List Int} (h : InnW n W x xs) : ∃ a c, x = .slice a xs.length c ∧ At W a xs ∧ xs.length ≤ maxLen ∧ (a = none → c = 0) := by
  obtain ⟨a, c, e, h1, h2⟩ := h.1.at
  exact ⟨a, c, e, h1, h2, fun hn => h.2 _ c (by rw [e, hn])⟩
theorem at_onew (W : World) (x : Int) : At (W.alloc (.cells #[.int .i64 x] 3)) (some ⟨W.heap.size, 0, none⟩) [x] := by
  refine .inr ⟨_, _, rfl, by simp, fun j hj => ?_⟩
  have : j = 0 := by simpa using hj
  subst this
  rw [World.cell?_alloc_at _ _ _ _ rfl]; rfl
theorem innW_at {w W : World} {a : Option Addr} {c : Nat} {xs : List Int} (h : At w a xs) (hl : xs.length ≤ maxLen) (hn : a = none → c = 0) (hb : Below w.heap.size w W) : InnW w.heap.size W (.slice a xs.length c) xs :=
  ⟨InnN.of_at h hl hb, fun m c' e => by cases e; exact hn rfl⟩
theorem innW_nil (n : Nat) (W : World) : InnW n W (.slice none 0 0) [] := ⟨⟨none, 0, rfl, Nat.zero_le _, .inl rfl⟩, fun m c e => by cases e; rfl⟩

end Go.Proofs.YtbdkaobbfmgnhaaDoor
namespace Go.Proofs.YtbdkaobbfmgnhaaDoor
open Go.RowKit
set_option linter.unusedVariables false

theorem Tryd.infoPlace : (Tryd.prog.info? 119).map (fun i => (i.zero, i.size, i.bytes)) = some (some (.agg #[.slice none 0 0, .slice none 0 0, .slice none 0 0]), 3, 72) := by kernel_rfl

/-- A place: where both may be, and a word that leads there. -/
abbrev Plc := (List Int × List Int) × List Int
def plcs : List Plc → List (List Int)
  | [] => []
  | p :: r => p.1.1 :: p.1.2 :: p.2 :: plcs r
theorem plcs_len : ∀ L : List Plc, (plcs L).length = L.length * 3
  | [] => rfl
  | a :: r => by simp only [plcs, List.length_cons, plcs_len r]; omega
theorem plcs_append : ∀ L M : List Plc, plcs (L ++ M) = plcs L ++ plcs M
  | [], M => rfl
  | a :: r, M => by simp only [List.cons_append, plcs, plcs_append r M]
theorem plcs_at : ∀ {L : List Plc} {k : Nat} {p : Plc}, L[k]? = some p → (plcs L)[k * 3]? = some p.1.1 ∧ (plcs L)[k * 3 + 1]? = some p.1.2 ∧ (plcs L)[k * 3 + 2]? = some p.2
  | [], k, p, h => by simp at h
  | a :: r, 0, p, h => by
    have : a = p := by simpa using h
    subst this; simp [plcs]
  | a :: r, k + 1, p, h => by
    have := plcs_at (L := r) (k := k) (p := p) (by simpa using h)
    rw [show (k + 1) * 3 = k * 3 + 1 + 1 + 1 by omega]
    simpa [plcs] using this

/-- The places' cells. -/
def CellsP (w : World) (b off : Nat) (L : List Plc) : Prop := ∀ (k : Nat) (p : Plc), L[k]? = some p → ∃ xa xc ya yc za zc,
  w.cell? ⟨b, off + k * 3, none⟩ = some (.slice xa p.1.1.length xc) ∧ w.cell? ⟨b, off + k * 3 + 1, none⟩ = some (.slice ya p.1.2.length yc) ∧ w.cell? ⟨b, off + k * 3 + 2, none⟩ = some (.slice za p.2.length zc) ∧
  At w xa p.1.1 ∧ p.1.1.length ≤ maxLen ∧ At w ya p.1.2 ∧ p.1.2.length ≤ maxLen ∧ At w za p.2 ∧ p.2.length ≤ maxLen

theorem knownB_hit {L : List Plc} {k : Nat} {p : Plc} {x y : List Int} (h : Hid (L[k]? = some p)) (h1 : Hid (sameB p.1.1 x = true)) (h2 : Hid (sameB p.1.2 y = true)) : true = knownB L (x, y) := by
  have h1 : p.1.1 = x := by have := h1.out; simpa [sameB] using this
  have h2 : p.1.2 = y := by have := h2.out; simpa [sameB] using this
  exact ((knownB_iff _ _).2 ⟨p, List.mem_of_getElem? h.out, by rw [← h1, ← h2]⟩).symm
/-- None of the first k is. -/
def nonePW (L : List Plc) (k : Nat) (x y : List Int) : Prop := ∀ (j : Nat) (p : Plc), j < k → L[j]? = some p → p.1 ≠ (x, y)
theorem nonePW_succ {L : List Plc} {k : Nat} {p : Plc} {x y : List Int} (h0 : Hid (nonePW L k x y)) (h : Hid (L[k]? = some p)) (h1 : Hid ((sameB p.1.1 x && sameB p.1.2 y) = false)) : Hid (nonePW L (k + 1) x y) := fun j q hj hq => by
  by_cases e : j < k
  · exact h0.out j q e hq
  · have : j = k := by omega
    subst this
    rw [h.out] at hq
    have := Option.some.inj hq
    subst this
    intro e
    have := h1.out
    simp [sameB, e] at this
theorem noneP_end {L : List Plc} {k : Nat} {x y : List Int} (h0 : Hid (nonePW L k x y)) (h : ¬ k < L.length) : false = knownB L (x, y) := by
  cases hk : knownB L (x, y) with
  | false => rfl
  | true =>
    obtain ⟨p, hp, e⟩ := (knownB_iff _ _).1 hk
    obtain ⟨i, hi⟩ := List.mem_iff_getElem?.1 hp
    exact absurd e (h0.out i p (Nat.lt_of_lt_of_le (List.getElem?_eq_some_iff.1 hi).1 (by omega)) hi)

set_option maxHeartbeats 2000000 in
theorem known_some (ba oa ca : Nat) (xa ya : Option Addr) (xc yc : Nat) (L : List Plc) (x y : List Int) (w : World) (hl : L.length ≤ 9223372036854775807) (hca : Hid (CellsP w ba oa L)) (hx : Hid (At w xa x)) (hxl : Hid (x.length ≤ maxLen)) (hy : Hid (At w ya y)) (hyl : Hid (y.length ≤ maxLen)) :
    Calls Tryd.prog 120 #[.slice (some ⟨ba, oa, none⟩) L.length ca, .slice xa x.length xc, .slice ya y.length yc] w fun e w' => e = .returned (.bool (knownB L (x, y))) ∧ ∃ q, w' = w.drewN q := by
  go_enter Tryd.func120, Tryd.ntmps120
  go_wp2
  go_loopw [7] (fun i wr => ∃ k q : Nat, k ≤ L.length ∧ i = .int .i64 k ∧ wr = w.drewN q ∧ Hid (nonePW L k x y)) (fun i _ => L.length - (intOf i).toNat)
  case atStart => exact ⟨0, 0, Nat.zero_le _, rfl, rfl, fun j p hj => by omega⟩
  case round =>
    obtain ⟨k, q, hk, rfl, rfl, he⟩ := hrel
    by_cases hlt : k < L.length
    · obtain ⟨p, HX⟩ : ∃ p, Hid (L[k]? = some p) := ⟨_, List.getElem?_eq_getElem hlt⟩
      obtain ⟨pa, pc, qa, qc, za, zc, c1, c2, -, a1, l1, a2, l2, -, -⟩ := hca.out k p HX.out
      obtain ⟨V, HV⟩ : ∃ V, Hid (V = w.drewN q) := ⟨_, rfl⟩
      replace c1 : V.cell? ⟨ba, oa + k * 3, none⟩ = some (.slice pa p.1.1.length pc) := by rw [HV.out]; exact c1
      have KEY : Hid (Calls Tryd.prog 22 #[.slice pa p.1.1.length pc, .slice xa x.length xc] V fun e w' => e = .returned (.bool (sameB p.1.1 x)) ∧ ∃ r, w' = V.drewN r) := by
        rw [HV.out]; exact same_any pa xa pc xc p.1.1 x _ (At.drewN a1 q) (At.drewN hx.out q) l1 hxl.out
      have KEY2 : Hid (∀ r, Calls Tryd.prog 22 #[.slice qa p.1.2.length qc, .slice ya y.length yc] (w.drewN r) fun e w' => e = .returned (.bool (sameB p.1.2 y)) ∧ ∃ r', w' = (w.drewN r).drewN r') := fun r => same_any qa ya qc yc p.1.2 y _ (At.drewN a2 r) (At.drewN hy.out r) l2 hyl.out
      rw [← HV.out]
      clear a1 l1 a2 l2
      have C2 := Hid.of c2
      clear c2
      go_wp2_with fail
      refine KEY.out.mono ?_
      rintro e V' ⟨rfl, r, rfl⟩
      have HVr : Hid (V.drewN r = w.drewN (q + r)) := by show _ = _; rw [HV.out, World.drewN_drewN]
      rw [HVr.out]
      clear KEY c1 HVr
      cases hxy : sameB p.1.1 x with
      | true =>
        have HXY := Hid.of hxy
        clear hxy
        have HV2 := HV
        clear HV2
        obtain ⟨V2, HV2⟩ : ∃ V2, Hid (V2 = w.drewN (q + r)) := ⟨_, rfl⟩
        have c2 : V2.cell? ⟨ba, oa + k * 3 + 1, none⟩ = some (.slice qa p.1.2.length qc) := by rw [HV2.out]; exact C2.out
        have KEY3 := Hid.of (KEY2.out (q + r))
        rw [← HV2.out] at KEY3 ⊢
        go_wp2_with fail
        refine KEY3.out.mono ?_
        rintro e V' ⟨rfl, r', rfl⟩
        have HVr : Hid (V2.drewN r' = w.drewN (q + r + r')) := by show _ = _; rw [HV2.out, World.drewN_drewN]
        rw [HVr.out]
        clear KEY3 KEY2 c2
        cases hxz : sameB p.1.2 y with
        | true =>
          have HXZ := Hid.of hxz
          clear hxz
          go_wp2
          go_ret
          exact ⟨ret_bool (knownB_hit HX HXY HXZ), _, rfl⟩
        | false =>
          have HXZ : Hid ((sameB p.1.1 x && sameB p.1.2 y) = false) := by show _ = _; rw [hxz, Bool.and_false]
          clear hxz
          go_wp2
          go_roundw
          case rel => exact ⟨k + 1, _, by omega, by go_num, rfl, nonePW_succ he HX HXZ⟩
          case measure => simp [intOf]; omega
      | false =>
        have HXZ : Hid ((sameB p.1.1 x && sameB p.1.2 y) = false) := by show _ = _; rw [hxy, Bool.false_and]
        clear hxy
        go_wp2
        go_roundw
        case rel => exact ⟨k + 1, _, by omega, by go_num, rfl, nonePW_succ he HX HXZ⟩
        case measure => simp [intOf]; omega
    · go_wp2
      go_ret
      exact ⟨ret_bool (noneP_end he hlt), q, rfl⟩

end Go.Proofs.YtbdkaobbfmgnhaaDoor
namespace Go.Proofs.YtbdkaobbfmgnhaaDoor
open Go.RowKit
set_option linter.unusedVariables false

/-- A slice of places of the call's own. -/
def OwnPl (n : Nat) (W : World) (B : Nat) (v : Value) (L : List Plc) : Prop := ∃ vs : List Value, W.ownsRow B 119 3 v L.length vs ∧ ∀ (j : Nat) (x : Value) (xs : List Int), vs[j]? = some x → (plcs L)[j]? = some xs → InnW n W x xs
theorem OwnPl.cells {n : Nat} {W : World} {B : Nat} {v : Value} {L : List Plc} (h : OwnPl n W B v L) (hL : 0 < L.length) : ∃ g cap, v = .slice (some ⟨g, 0, none⟩) L.length cap ∧ B ≤ g ∧ g < W.heap.size ∧ L.length ≤ maxLen ∧
    ∀ (k : Nat) (p : Plc), L[k]? = some p → ∃ x y z, W.cell? ⟨g, 0 + k * 3, none⟩ = some x ∧ W.cell? ⟨g, 0 + k * 3 + 1, none⟩ = some y ∧ W.cell? ⟨g, 0 + k * 3 + 2, none⟩ = some z ∧ InnW n W x p.1.1 ∧ InnW n W y p.1.2 ∧ InnW n W z p.2 := by
  obtain ⟨vs, ho, hi⟩ := h
  rcases ho.2 with ⟨rfl, hn⟩ | ⟨g, cap, cur, rfl, hg, hh, hnc, hcm, hcs, ht⟩
  · omega
  · refine ⟨g, cap, rfl, hg, (Array.getElem?_eq_some_iff.1 hh).1, Nat.le_trans hnc hcm, fun k p hp => ?_⟩
    have hk := (List.getElem?_eq_some_iff.1 hp).1
    have hl := ho.1
    obtain ⟨p1, p2, p3⟩ := plcs_at hp
    have hx := List.getElem?_eq_getElem (l := vs) (i := k * 3) (by omega)
    have hy := List.getElem?_eq_getElem (l := vs) (i := k * 3 + 1) (by omega)
    have hz := List.getElem?_eq_getElem (l := vs) (i := k * 3 + 2) (by omega)
    have c1 := ho.cells (g := g) rfl _ _ hx
    have c2 := ho.cells (g := g) rfl _ _ hy
    have c3 := ho.cells (g := g) rfl _ _ hz
    rw [addr0_add] at c1 c2 c3
    exact ⟨_, _, _, c1, c2, c3, hi _ _ _ hx p1, hi _ _ _ hy p2, hi _ _ _ hz p3⟩
theorem OwnPl.cellsP {n : Nat} {W : World} {B : Nat} {v : Value} {L : List Plc} (h : OwnPl n W B v L) (hL : 0 < L.length) : ∃ g cap, v = .slice (some ⟨g, 0, none⟩) L.length cap ∧ B ≤ g ∧ g < W.heap.size ∧ L.length ≤ maxLen ∧ CellsP W g 0 L := by
  obtain ⟨g, cap, e, h1, h2, h3, hc⟩ := h.cells hL
  refine ⟨g, cap, e, h1, h2, h3, fun k p hp => ?_⟩
  obtain ⟨x, y, z, c1, c2, c3, i1, i2, i3⟩ := hc k p hp
  obtain ⟨xa, xc, rfl, x1, x2, -⟩ := i1.at
  obtain ⟨ya, yc, rfl, y1, y2, -⟩ := i2.at
  obtain ⟨za, zc, rfl, z1, z2, -⟩ := i3.at
  exact ⟨xa, xc, ya, yc, za, zc, c1, c2, c3, x1, x2, y1, y2, z1, z2⟩
theorem OwnPl.below {n : Nat} {W W' : World} {B : Nat} {v : Value} {L : List Plc} (h : OwnPl n W B v L) (hb : Below W.heap.size W W') (hn : n ≤ W.heap.size) : OwnPl n W' B v L := by
  obtain ⟨vs, ho, hi⟩ := h
  exact ⟨vs, own_same ho (fun k hk => hb.block k (World.ownsRow.lt ho k hk).2), fun j x xs a b => (hi j x xs a b).below hb hn⟩

/-- What Places knows of the memory. -/
structure PLw (w W : World) (a b : Mach) (la lb : ML) (v : Value) (L : List Plc) : Prop where
  bel : Below w.heap.size w W
  ka : Blk W w.heap.size 25 (mcells a la)
  kb : Blk W (w.heap.size + 1) 25 (mcells b lb)
  ow : OwnPl w.heap.size W (w.heap.size + 2) v L
  hB : w.heap.size + 2 ≤ W.heap.size
section
variable {w W : World} {a b : Mach} {la lb : ML} {v : Value} {L : List Plc}
theorem PLw.below {W' : World} (h : PLw w W a b la lb v L) (hb : Below W.heap.size W W') : PLw w W' a b la lb v L :=
  ⟨h.bel.trans (hb.mono h.bel.size), h.ka.below hb h.ka.lt, h.kb.below hb h.kb.lt, h.ow.below hb h.bel.size, Nat.le_trans h.hB hb.size⟩
/-- One place more. -/
theorem PLw.push {W2 W3 : World} {v' x y z : Value} {p : Plc} {vs : List Value} (h : PLw w W a b la lb v L) (hW3 : Below W.heap.size W W3) (ho : W3.ownsRow (w.heap.size + 2) 119 3 v L.length vs) (hi : ∀ (j : Nat) (x : Value) (xs : List Int), vs[j]? = some x → (plcs L)[j]? = some xs → InnW w.heap.size W3 x xs) (hx : InnW w.heap.size W3 x p.1.1) (hy : InnW w.heap.size W3 y p.1.2) (hz : InnW w.heap.size W3 z p.2) (o1 : W2.ownsRow (w.heap.size + 2) 119 3 v' (L.length + 1) (vs ++ [x, y, z])) (g : W3.grownBy W2 v.ownBlock) :
    PLw w W2 a b la lb v' (L ++ [p]) := by
  have h3 := h.below hW3
  have low : ∀ j, j < w.heap.size + 2 → W2.heap[j]? = W3.heap[j]? := fun j hj => g.block j (Nat.lt_of_lt_of_le hj h3.hB) (fun e => by have := (World.ownsRow.lt ho j e.symm).1; omega)
  have hty : ∀ (q : Nat) (cs : Array Value) (t : TypeId), t ≠ 119 → W3.heap[q]? = some (.cells cs t (0, 0)) → W2.heap[q]? = W3.heap[q]? := fun q cs t ht hq => g.block q (Array.getElem?_eq_some_iff.1 hq).1 (fun e => by
    obtain ⟨c2, h2⟩ := own_type ho e.symm
    rw [hq] at h2; cases h2; exact ht rfl)
  have kp : ∀ {y : Value} {ys : List Int}, InnW w.heap.size W3 y ys → InnW w.heap.size W2 y ys := fun hy => hy.kept g.size (fun j hj => low j (by omega)) (fun q cs hq => hty q cs _ (by decide) hq)
  refine ⟨h3.bel.grown g h3.bel.size (fun j hj => Nat.le_trans (by omega) (World.ownsRow.lt ho j hj).1), (low _ (by omega)).trans h3.ka, (low _ (by omega)).trans h3.kb, ?_, Nat.le_trans h3.hB g.size⟩
  have hl : vs.length = L.length * 3 := ho.1
  refine ⟨vs ++ [x, y, z], by rw [List.length_append]; exact o1, fun j u us e1 e2 => ?_⟩
  rw [plcs_append] at e2
  have hl2 := plcs_len L
  by_cases hj : j < L.length * 3
  · rw [List.getElem?_append_left (by omega)] at e1
    rw [List.getElem?_append_left (by omega)] at e2
    exact kp (hi j u us e1 e2)
  · rw [List.getElem?_append_right (by omega)] at e1 e2
    rw [hl] at e1
    rw [hl2] at e2
    generalize j - L.length * 3 = i at e1 e2
    have e2' : [p.1.1, p.1.2, p.2][i]? = some us := e2
    match i, e1, e2' with
    | 0, e1, e2 =>
      have q1 : x = u := by simpa using e1
      have q2 : p.1.1 = us := by simpa using e2
      rw [← q1, ← q2]; exact kp hx
    | 1, e1, e2 =>
      have q1 : y = u := by simpa using e1
      have q2 : p.1.2 = us := by simpa using e2
      rw [← q1, ← q2]; exact kp hy
    | 2, e1, e2 =>
      have q1 : z = u := by simpa using e1
      have q2 : p.2 = us := by simpa using e2
      rw [← q1, ← q2]; exact kp hz
    | i + 3, e1, e2 => simp at e1
end

/-- What Places hands back. -/
def PlcPost (w : World) (L : List Plc) (e : Ending) (w' : World) : Prop := ∃ v, e = .returned v ∧ OwnPl w.heap.size w' (w.heap.size + 2) v L ∧ Below w.heap.size w w'

end Go.Proofs.YtbdkaobbfmgnhaaDoor
namespace Go.Proofs.YtbdkaobbfmgnhaaDoor
open Go.RowKit
set_option linter.unusedVariables false

set_option maxRecDepth 100000 in
set_option maxHeartbeats 8000000 in
theorem places_ok (st ev sb eb : Nat) (starts startsB : List Int) (ars arsB : List Arr) (ends endsB : List Int) (a1 : Option Addr) (c1 : Nat) (a2 : Option Addr) (c2 : Nat) (a3 : Option Addr) (c3 : Nat) (b1 : Option Addr) (d1 : Nat) (b2 : Option Addr) (d2 : Nat) (b3 : Option Addr) (d3 : Nat) (w : World) (h : Hid (MAt w ⟨(st : Int), (ev : Int), starts, ars, ends⟩ ⟨a1, c1, a2, c2, a3, c3⟩)) (h' : Hid (MAt w ⟨(sb : Int), (eb : Int), startsB, arsB, endsB⟩ ⟨b1, d1, b2, d2, b3, d3⟩)) (hm : Hid (mayB ⟨(st : Int), (ev : Int), starts, ars, ends⟩ = true)) (hm' : Hid (mayB ⟨(sb : Int), (eb : Int), startsB, arsB, endsB⟩ = true)) (z1 : Hid (st ≤ 6)) (z2 : Hid (sb ≤ 6)) :
    Calls Tryd.prog 90 #[mval ⟨(st : Int), (ev : Int), starts, ars, ends⟩ ⟨a1, c1, a2, c2, a3, c3⟩, mval ⟨(sb : Int), (eb : Int), startsB, arsB, endsB⟩ ⟨b1, d1, b2, d2, b3, d3⟩] w fun e w' => PlcPost w (plcAll ⟨(st : Int), (ev : Int), starts, ars, ends⟩ ⟨(sb : Int), (eb : Int), startsB, arsB, endsB⟩) e w' := by
  have hz := mayB_size hm.out
  have hzB := mayB_size hm'.out
  unfold sizeOk at hz hzB
  dsimp only at hz hzB
  have hev : ev ≤ 8 := by omega
  have hlen : Hid (ars.length ≤ 4096) := show _ ≤ _ by omega
  have hlenB : Hid (arsB.length ≤ 4096) := show _ ≤ _ by omega
  clear hz hzB
  have hBD : Hid (∀ (k n : Nat) (l : List Plc), BI (bothD ars arsB) (starts, startsB) ev k n l → l.length ≤ 4096) := fun k n l hI => plc_bound hm.out hm'.out (by have := z1.out; show (st : Int) ≤ 6; omega) (by have := z2.out; show (sb : Int) ≤ 6; omega) hI
  have hE0 : Hid (plcAll ⟨(st : Int), (ev : Int), starts, ars, ends⟩ ⟨(sb : Int), (eb : Int), startsB, arsB, endsB⟩ = bfGo (bothD ars arsB) ev 4097 0 [((starts, startsB), [])]) := by
    show plcAll ⟨(st : Int), (ev : Int), starts, ars, ends⟩ ⟨(sb : Int), (eb : Int), startsB, arsB, endsB⟩ = _
    unfold plcAll; simp only [Int.toNat_natCast]
  have hI0 : Hid (BI (bothD ars arsB) (starts, startsB) ev 0 0 [((starts, startsB), [])]) := bi_start _ _ _
  have bX : Below w.heap.size w (((w.alloc (.cells (mcells ⟨(st : Int), (ev : Int), starts, ars, ends⟩ ⟨a1, c1, a2, c2, a3, c3⟩) 25)).alloc (.cells (mcells ⟨(sb : Int), (eb : Int), startsB, arsB, endsB⟩ ⟨b1, d1, b2, d2, b3, d3⟩) 25)).alloc (.cells #[.slice a1 starts.length c1, .slice b1 startsB.length d1, .slice none 0 0] 119)) := (((Below.refl _ _).alloc (Nat.le_refl _) _).alloc (by simp) _).alloc (by simp; omega) _
  have HX : Hid (PLw w (((w.alloc (.cells (mcells ⟨(st : Int), (ev : Int), starts, ars, ends⟩ ⟨a1, c1, a2, c2, a3, c3⟩) 25)).alloc (.cells (mcells ⟨(sb : Int), (eb : Int), startsB, arsB, endsB⟩ ⟨b1, d1, b2, d2, b3, d3⟩) 25)).alloc (.cells #[.slice a1 starts.length c1, .slice b1 startsB.length d1, .slice none 0 0] 119)) ⟨(st : Int), (ev : Int), starts, ars, ends⟩ ⟨(sb : Int), (eb : Int), startsB, arsB, endsB⟩ ⟨a1, c1, a2, c2, a3, c3⟩ ⟨b1, d1, b2, d2, b3, d3⟩ (.slice (some ⟨w.heap.size + 1 + 1, 0, none⟩) 1 1) [((starts, startsB), [])]) := by
    refine ⟨bX, ((Blk.new w _ _).alloc _).alloc _, ?_, ?_, by simp⟩
    · have := (Blk.new (w.alloc (.cells (mcells ⟨(st : Int), (ev : Int), starts, ars, ends⟩ ⟨a1, c1, a2, c2, a3, c3⟩) 25)) 25 (mcells ⟨(sb : Int), (eb : Int), startsB, arsB, endsB⟩ ⟨b1, d1, b2, d2, b3, d3⟩)).alloc (.cells #[.slice a1 starts.length c1, .slice b1 startsB.length d1, .slice none 0 0] 119)
      rwa [World.size_alloc] at this
    · refine ⟨[.slice a1 starts.length c1, .slice b1 startsB.length d1, .slice none 0 0], ?_, fun j x xs e1 e2 => ?_⟩
      · have := World.ownsRow_lit ((w.alloc (.cells (mcells ⟨(st : Int), (ev : Int), starts, ars, ends⟩ ⟨a1, c1, a2, c2, a3, c3⟩) 25)).alloc (.cells (mcells ⟨(sb : Int), (eb : Int), startsB, arsB, endsB⟩ ⟨b1, d1, b2, d2, b3, d3⟩) 25)) (base := w.heap.size + 2) (e := 119) (size := 3) #[.slice a1 starts.length c1, .slice b1 startsB.length d1, .slice none 0 0] 1 (by simp) (by decide) rfl
        rwa [World.size_alloc, World.size_alloc] at this
      · have e2' : [starts, startsB, []][j]? = some xs := e2
        match j, e1, e2' with
        | 0, e1, e2 =>
          have q1 : Value.slice a1 starts.length c1 = x := by simpa using e1
          have q2 : starts = xs := by simpa using e2
          rw [← q1, ← q2]
          exact innW_at h.out.s (Nat.le_trans h.out.s1 h.out.s2) h.out.s3 bX
        | 1, e1, e2 =>
          have q1 : Value.slice b1 startsB.length d1 = x := by simpa using e1
          have q2 : startsB = xs := by simpa using e2
          rw [← q1, ← q2]
          exact innW_at h'.out.s (Nat.le_trans h'.out.s1 h'.out.s2) h'.out.s3 bX
        | 2, e1, e2 =>
          have q1 : Value.slice none 0 0 = x := by simpa using e1
          have q2 : [] = xs := by simpa using e2
          rw [← q1, ← q2]
          exact innW_nil _ _
        | j + 3, e1, e2 => simp at e1
  have x2 : ((w.alloc (.cells (mcells ⟨(st : Int), (ev : Int), starts, ars, ends⟩ ⟨a1, c1, a2, c2, a3, c3⟩) 25)).alloc (.cells (mcells ⟨(sb : Int), (eb : Int), startsB, arsB, endsB⟩ ⟨b1, d1, b2, d2, b3, d3⟩) 25)).cell? ⟨w.heap.size, 2, none⟩ = some (.slice a1 starts.length c1) := ((Blk.new w _ _).alloc _).cell 2 rfl
  have y2 : ((w.alloc (.cells (mcells ⟨(st : Int), (ev : Int), starts, ars, ends⟩ ⟨a1, c1, a2, c2, a3, c3⟩) 25)).alloc (.cells (mcells ⟨(sb : Int), (eb : Int), startsB, arsB, endsB⟩ ⟨b1, d1, b2, d2, b3, d3⟩) 25)).cell? ⟨w.heap.size + 1, 2, none⟩ = some (.slice b1 startsB.length d1) := by
    have := (Blk.new (w.alloc (.cells (mcells ⟨(st : Int), (ev : Int), starts, ars, ends⟩ ⟨a1, c1, a2, c2, a3, c3⟩) 25)) 25 (mcells ⟨(sb : Int), (eb : Int), startsB, arsB, endsB⟩ ⟨b1, d1, b2, d2, b3, d3⟩)).cell 2 rfl
    rwa [World.size_alloc] at this
  clear bX
  go_enter Tryd.func90, Tryd.ntmps90
  go_wp2
  clear x2 y2
  revert HX
  generalize ((w.alloc (.cells (mcells ⟨(st : Int), (ev : Int), starts, ars, ends⟩ ⟨a1, c1, a2, c2, a3, c3⟩) 25)).alloc (.cells (mcells ⟨(sb : Int), (eb : Int), startsB, arsB, endsB⟩ ⟨b1, d1, b2, d2, b3, d3⟩) 25)).alloc (.cells #[.slice a1 starts.length c1, .slice b1 startsB.length d1, .slice none 0 0] 119) = X
  intro HX
  obtain ⟨i0, hi, hz0, hz1, hz2⟩ := info_parts Tryd.infoPlace
  obtain ⟨k0, ki, kz0, kz1, kz2⟩ := info_parts Tryd.infoInt
  go_loopw [5, 6] (fun v i wr => ∃ (k : Nat) (L : List Plc), i = .int .i64 k ∧ k ≤ L.length ∧ Hid (PLw w wr ⟨(st : Int), (ev : Int), starts, ars, ends⟩ ⟨(sb : Int), (eb : Int), startsB, arsB, endsB⟩ ⟨a1, c1, a2, c2, a3, c3⟩ ⟨b1, d1, b2, d2, b3, d3⟩ v L) ∧ Hid (BI (bothD ars arsB) (starts, startsB) ev k 0 L) ∧ Hid (plcAll ⟨(st : Int), (ev : Int), starts, ars, ends⟩ ⟨(sb : Int), (eb : Int), startsB, arsB, endsB⟩ = bfGo (bothD ars arsB) ev (4097 - k) k L)) (fun _ i _ => 4097 - (intOf i).toNat)
  case atStart => exact ⟨0, _, rfl, Nat.zero_le _, HX, hI0, hE0⟩
  case round =>
    clear HX hI0 hE0
    obtain ⟨k, L, rfl, hk, HR, HI, HE⟩ := hrel
    have hpos : 0 < L.length := (List.getElem?_eq_some_iff.1 HI.out.hd).1
    have h4096 : L.length ≤ 4096 := hBD.out _ _ _ HI.out
    obtain ⟨g, cap, hv, -, -, -, -⟩ := HR.out.ow.cellsP hpos
    subst hv
    by_cases hlt : k < L.length
    · obtain ⟨p, HP⟩ : ∃ p, Hid (L[k]? = some p) := ⟨_, List.getElem?_eq_getElem hlt⟩
      go_wp2_with fail
      go_loopw [5, 7] (fun v i wr => ∃ (e : Nat), i = .int .i64 e ∧ e ≤ ev ∧ Hid (PLw w wr ⟨(st : Int), (ev : Int), starts, ars, ends⟩ ⟨(sb : Int), (eb : Int), startsB, arsB, endsB⟩ ⟨a1, c1, a2, c2, a3, c3⟩ ⟨b1, d1, b2, d2, b3, d3⟩ v (bfRow (bothD ars arsB) p L e))) (fun _ i _ => ev - (intOf i).toNat)
      case atStart => exact ⟨0, rfl, Nat.zero_le _, HR⟩
      case round =>
        clear HR
        obtain ⟨e, rfl, hee, HR⟩ := hrel
        have HIe := Hid.of (bi_row _ HI.out HP.out e hee)
        have HSuc : Hid (bfRow (bothD ars arsB) p L (e + 1) = bfStep (bothD ars arsB) p (bfRow (bothD ars arsB) p L e) e) := bfRow_succ _ _ _ _
        have HPe : Hid ((bfRow (bothD ars arsB) p L e)[k]? = some p) := by
          obtain ⟨t, ht⟩ := bfRow_pre (bothD ars arsB) p L e
          show _ = _
          rw [ht, List.getElem?_append_left hlt]; exact HP.out
        obtain ⟨L1, HL1⟩ : ∃ L1, Hid (L1 = bfRow (bothD ars arsB) p L e) := ⟨_, rfl⟩
        rw [← HL1.out] at HR HIe HSuc HPe
        have hk1 : k < L1.length := (List.getElem?_eq_some_iff.1 HPe.out).1
        have hl1 : L1.length ≤ 4096 := hBD.out _ _ _ HIe.out
        have hwl : Hid (p.2.length ≤ 4096) := by have := bi_wlen HIe.out k p HPe.out; show _ ≤ _; omega
        obtain ⟨g, cap, hv, hg, hgs, -, hcc⟩ := HR.out.ow.cells (by omega)
        subst hv
        obtain ⟨xv, yv, zv, cx, cy, cz, ix, iy, iz⟩ := hcc k p HPe.out
        obtain ⟨xa, xc, rfl, hxa, hxl, -⟩ := ix.at
        obtain ⟨ya, yc, rfl, hya, hyl, -⟩ := iy.at
        obtain ⟨za, zc, rfl, hza, hzl, hzn⟩ := iz.at
        have IZ := Hid.of iz
        clear hcc ix iy iz hza hzl
        rw [Nat.zero_add] at cx cy cz
        obtain ⟨x0, x1, x2, x3, x4⟩ := mcell_at HR.out.ka
        obtain ⟨y0, y1, y2, y3, y4⟩ := mcell_at HR.out.kb
        dsimp only at x0 x1 x2 x3 x4 y0 y1 y2 y3 y4
        by_cases hle : e < ev
        · have HG := Hid.of hgs
          have HZN := Hid.of hzn
          have HYA := Hid.of hya
          have HYL := Hid.of hyl
          have KEY : Hid (Calls Tryd.prog 53 #[mval ⟨(st : Int), (ev : Int), starts, ars, ends⟩ ⟨a1, c1, a2, c2, a3, c3⟩, .slice xa p.1.1.length xc, .int .i64 e] wr.drew fun r w' => GivesO wr.drew (stepL ars p.1.1 (e : Int)) r w') := refStep_own ⟨(st : Int), (ev : Int), starts, ars, ends⟩ ⟨a1, c1, a2, c2, a3, c3⟩ xa xc p.1.1 (e : Int) wr.drew (h.out.a.below HR.out.bel.drew (Nat.le_refl _)) (Nat.le_trans hlen.out (by decide)) (At.drewN hxa 1) hxl
          clear hxa hxl hya hyl hzn hg hgs
          have CY := Hid.of cy
          have CZ := Hid.of cz
          clear cy cz y0 y1 y2 y3 y4
          go_wp2_with fail
          go_region_held3 (fun w' => w'.cell? ⟨w.heap.size, 0, none⟩ = some (.int .i64 st) ∧ w'.cell? ⟨w.heap.size, 1, none⟩ = some (.int .i64 ev) ∧ w'.cell? ⟨w.heap.size, 2, none⟩ = some (.slice a1 starts.length c1) ∧ w'.cell? ⟨w.heap.size, 3, none⟩ = some (.slice a2 ars.length c2) ∧ w'.cell? ⟨w.heap.size, 4, none⟩ = some (.slice a3 ends.length c3) ∧ w'.cell? ⟨g, k * 3, none⟩ = some (.slice xa p.1.1.length xc)) (go_keep) (first | (go_at_call 53; refine KEY.out.mono ?_; rintro r wL ⟨v8, rfl, o8, b8⟩; have GL : Hid (Below wr.heap.size wr wL) := ((Below.refl _ wr).drew).trans b8; obtain ⟨xx0, xx1, xx2, xx3, xx4⟩ := mcell_at (HR.out.below GL.out).ka; dsimp only at xx0 xx1 xx2 xx3 xx4; have cc1 := (GL.out.cell (p := ⟨g, k * 3, none⟩) HG.out).trans cx; have O8 := Hid.of o8; clear b8 o8))
          clear KEY xx0 xx1 xx2 xx3 xx4 cc1 x0 x1 x2 x3 x4 cx
          have HRL := Hid.of (HR.out.below GL.out)
          have CYL : wL.cell? ⟨g, k * 3 + 1, none⟩ = some (.slice ya p.1.2.length yc) := (GL.out.cell (p := ⟨g, k * 3 + 1, none⟩) HG.out).trans CY.out
          have CZL : Hid (wL.cell? ⟨g, k * 3 + 2, none⟩ = some (.slice za p.2.length zc)) := (GL.out.cell (p := ⟨g, k * 3 + 2, none⟩) HG.out).trans CZ.out
          have IZL := Hid.of (IZ.out.below GL.out HR.out.bel.size)
          have HYL1 : Hid (At wL ya p.1.2) := HYA.out.below GL.out (Nat.le_refl _)
          have HGL : Hid (g < wL.heap.size) := Nat.lt_of_lt_of_le HG.out GL.out.size
          have I8 : Hid (InnW w.heap.size wL v8 (stepL ars p.1.1 (e : Int))) := InnW.of_own O8.out
          clear HR GL HG CY CZ IZ HYA O8
          obtain ⟨y0, y1, y2, y3, y4⟩ := mcell_at HRL.out.kb
          dsimp only at y0 y1 y2 y3 y4
          have KEY : Hid (Calls Tryd.prog 53 #[mval ⟨(sb : Int), (eb : Int), startsB, arsB, endsB⟩ ⟨b1, d1, b2, d2, b3, d3⟩, .slice ya p.1.2.length yc, .int .i64 e] wL.drew fun r w' => GivesO wL.drew (stepL arsB p.1.2 (e : Int)) r w') := refStep_own ⟨(sb : Int), (eb : Int), startsB, arsB, endsB⟩ ⟨b1, d1, b2, d2, b3, d3⟩ ya yc p.1.2 (e : Int) wL.drew (h'.out.a.below HRL.out.bel.drew (Nat.le_refl _)) (Nat.le_trans hlenB.out (by decide)) (At.drewN HYL1.out 1) HYL.out
          clear HYL1
          obtain ⟨xs, HXS⟩ : ∃ xs, Hid (xs = stepL ars p.1.1 (e : Int)) := ⟨_, rfl⟩
          rw [← HXS.out] at I8
          obtain ⟨xa, xc, rfl, -, -, -⟩ := I8.out.at
          go_wp2_with fail
          go_region_held3 (fun w' => w'.cell? ⟨w.heap.size + 1, 0, none⟩ = some (.int .i64 sb) ∧ w'.cell? ⟨w.heap.size + 1, 1, none⟩ = some (.int .i64 eb) ∧ w'.cell? ⟨w.heap.size + 1, 2, none⟩ = some (.slice b1 startsB.length d1) ∧ w'.cell? ⟨w.heap.size + 1, 3, none⟩ = some (.slice b2 arsB.length d2) ∧ w'.cell? ⟨w.heap.size + 1, 4, none⟩ = some (.slice b3 endsB.length d3) ∧ w'.cell? ⟨g, k * 3 + 1, none⟩ = some (.slice ya p.1.2.length yc)) (go_keep) (first | (go_at_call 53; refine KEY.out.mono ?_; rintro r wM ⟨v9, rfl, o9, b9⟩; have GL : Hid (Below wL.heap.size wL wM) := ((Below.refl _ wL).drew).trans b9; obtain ⟨xx0, xx1, xx2, xx3, xx4⟩ := mcell_at (HRL.out.below GL.out).kb; dsimp only at xx0 xx1 xx2 xx3 xx4; have cc1 := (GL.out.cell (p := ⟨g, k * 3 + 1, none⟩) HGL.out).trans CYL; have O9 := Hid.of o9; clear b9 o9))
          clear KEY xx0 xx1 xx2 xx3 xx4 cc1 y0 y1 y2 y3 y4 CYL
          have HRM := Hid.of (HRL.out.below GL.out)
          have CZM : Hid (wM.cell? ⟨g, k * 3 + 2, none⟩ = some (.slice za p.2.length zc)) := (GL.out.cell (p := ⟨g, k * 3 + 2, none⟩) HGL.out).trans CZL.out
          have IZM := Hid.of (IZL.out.below GL.out HRL.out.bel.size)
          have I8M := Hid.of (I8.out.below GL.out HRL.out.bel.size)
          obtain ⟨ys, HYS⟩ : ∃ ys, Hid (ys = stepL arsB p.1.2 (e : Int)) := ⟨_, rfl⟩
          rw [← HYS.out] at O9
          have I9M : Hid (InnW w.heap.size wM v9 ys) := InnW.of_own O9.out
          clear HRL GL HGL CZL IZL I8 O9
          have HST : Hid (bfStep (bothD ars arsB) p L1 e = if knownB L1 (xs, ys) = true then L1 else L1 ++ [((xs, ys), p.2 ++ [(e : Int)])]) := by
            show _ = _
            unfold bfStep bothD; rw [← HXS.out, ← HYS.out]
          obtain ⟨xa', xc', hxe, hxa, hxl, -⟩ := I8M.out.at
          cases hxe
          obtain ⟨yb, yd, rfl, hya, hyl, -⟩ := I9M.out.at
          obtain ⟨g', cap', hv, -, -, -, hcp⟩ := HRM.out.ow.cellsP (by omega)
          cases hv
          have KEYK : Hid (Calls Tryd.prog 120 #[.slice (some ⟨g, 0, none⟩) L1.length cap, .slice xa xs.length xc, .slice yb ys.length yd] wM fun r w' => r = .returned (.bool (knownB L1 (xs, ys))) ∧ ∃ q, w' = wM.drewN q) := known_some g 0 cap xa yb xc yd L1 xs ys wM (by omega) (Hid.of hcp) (Hid.of hxa) (Hid.of hxl) (Hid.of hya) (Hid.of hyl)
          clear hcp hxa hxl hya hyl
          go_wp2_with fail
          refine KEYK.out.mono ?_
          rintro r wF ⟨rfl, q, rfl⟩
          clear KEYK
          replace HRM : Hid (PLw w (wM.drewN q) ⟨(st : Int), (ev : Int), starts, ars, ends⟩ ⟨(sb : Int), (eb : Int), startsB, arsB, endsB⟩ ⟨a1, c1, a2, c2, a3, c3⟩ ⟨b1, d1, b2, d2, b3, d3⟩ (.slice (some ⟨g, 0, none⟩) L1.length cap) L1) := HRM.out.below (below_drewN (Below.refl _ _) q)
          replace IZM : Hid (InnW w.heap.size (wM.drewN q) (.slice za p.2.length zc) p.2) := IZM.out
          replace I8M : Hid (InnW w.heap.size (wM.drewN q) (.slice xa xs.length xc) xs) := I8M.out
          replace I9M : Hid (InnW w.heap.size (wM.drewN q) (.slice yb ys.length yd) ys) := I9M.out
          replace CZM : Hid ((wM.drewN q).cell? ⟨g, k * 3 + 2, none⟩ = some (.slice za p.2.length zc)) := CZM.out
          revert HRM IZM I8M I9M CZM
          generalize wM.drewN q = U
          intro HRM IZM I8M I9M CZM
          cases hkn : knownB L1 (xs, ys) with
          | true =>
            have HNX : Hid (bfRow (bothD ars arsB) p L (e + 1) = L1) := by show _ = _; rw [HSuc.out, HST.out, if_pos hkn]
            clear hkn
            go_wp2_with fail
            go_roundw
            case rel => exact ⟨e + 1, by go_num, by omega, (by show PLw _ _ _ _ _ _ _ _; rw [HNX.out]; exact HRM.out)⟩
            case measure => simp [intOf]; omega
          | false =>
            have HNX : Hid (bfRow (bothD ars arsB) p L (e + 1) = L1 ++ [((xs, ys), p.2 ++ [(e : Int)])]) := by show _ = _; rw [HSuc.out, HST.out, if_neg (by rw [hkn]; simp)]
            clear hkn
            have bU : Below U.heap.size U (U.alloc (.cells #[] 3)) := (Below.refl _ _).alloc (Nat.le_refl _) _
            have cz : (U.alloc (.cells #[] 3)).cell? ⟨g, k * 3 + 2, none⟩ = some (.slice za p.2.length zc) := by
              obtain ⟨g', cap', hv, -, hgU, -, -⟩ := HRM.out.ow.cellsP (by omega)
              exact (bU.cell (p := ⟨g, k * 3 + 2, none⟩) (by cases hv; exact hgU)).trans CZM.out
            have o0 := own_empty U
            have atz : At (U.alloc (.cells #[] 3)) za p.2 := by
              obtain ⟨za', zc', hze, hza, -, -⟩ := (IZM.out.below bU HRM.out.bel.size).at
              cases hze; exact hza
            have hw' := hwl.out
            have HBU := Hid.of HRM.out.hB
            have HSU : Hid (w.heap.size ≤ U.heap.size) := HRM.out.bel.size
            go_wp2_with (at_builtin; refine wpList_append_ints _ rfl (.tmp 50) (.tmp 55) 22 rfl U.heap.size k0 Tryd.underlying22 ki kz0 kz1 kz2 _ [] rfl o0 za zc p.2 rfl atz HZN.out (by simp only [List.length_nil]; omega) (by simp) ?_)
            intro v1 u1 o1 b1 s1
            replace o1 : Own u1 U.heap.size v1 p.2 := o1
            have bb1 : Below U.heap.size U u1 := bU.trans b1
            clear o0 cz atz b1 bU
            obtain ⟨va, vc, rfl, -, -, -, -⟩ := o1.at2
            have O1 := Hid.of o1
            have BB1 := Hid.of bb1
            clear o1 bb1
            go_wp2_with (at_builtin; refine wpList_append_ints _ rfl (.tmp 56) (.tmp 58) 22 rfl U.heap.size k0 Tryd.underlying22 ki kz0 kz1 kz2 _ p.2 rfl (World.ownsRow.alloc O1.out _) (some ⟨u1.heap.size, 0, none⟩) 1 [(e : Int)] rfl (at_onew u1 (e : Int)) (fun h => by cases h) (by simp only [List.length_cons, List.length_nil]; omega) (by simp; omega) ?_)
            intro v2 u2 o2 b2 s2
            have BB2 : Hid (Below U.heap.size U u2) := (BB1.out.alloc s1 _).trans b2
            clear b2 O1 BB1
            obtain ⟨va2, vc2, hv2, -, -, -, -⟩ := o2.at2
            have hl2 : (p.2 ++ [(e : Int)]).length = p.2.length + 1 := by simp
            rw [hl2] at hv2
            subst hv2
            have I2 : Hid (InnW w.heap.size u2 (.slice va2 (p.2.length + 1) vc2) (p.2 ++ [(e : Int)])) := InnW.of_own o2
            clear o2 hl2
            have HR2 := Hid.of (HRM.out.below BB2.out)
            have I82 := Hid.of (I8M.out.below BB2.out HSU.out)
            have I92 := Hid.of (I9M.out.below BB2.out HSU.out)
            clear HRM I8M I9M IZM CZM BB2 s1 s2
            obtain ⟨vs, ho, hin⟩ := HR2.out.ow
            have HO := Hid.of ho
            have HIN := Hid.of hin
            clear ho hin
            have hB2 := HR2.out.hB
            have bV : Below u2.heap.size u2 (u2.alloc (.cells #[.slice xa xs.length xc, .slice yb ys.length yd, .slice va2 (p.2.length + 1) vc2] 119)) := (Below.refl _ _).alloc (Nat.le_refl _) _
            have BV := Hid.of bV
            clear bV
            go_wp2_with (at_builtin; refine wpList_append_block _ rfl (.tmp 60) (.tmp 65) 116 rfl (w.heap.size + 2) 119 i0 (.agg #[.slice none 0 0, .slice none 0 0, .slice none 0 0]) 3 72 Tryd.underlying116 hi hz0 hz1 hz2 rfl (by decide) _ _ _ rfl (World.ownsRow.alloc HO.out _) ⟨u2.heap.size, 0, none⟩ 1 1 [.slice xa xs.length xc, .slice yb ys.length yd, .slice va2 (p.2.length + 1) vc2] rfl rfl (cell_three_new _ _ _ _ _) (by intro u hu; simp at hu; rcases hu with rfl | rfl | rfl <;> rfl) (by decide) (by unfold maxLen; omega) (by omega) (by simp; omega) ?_)
            intro v7 w7 o7 g7 n7
            have P1 := Hid.of (PLw.push (p := ((xs, ys), p.2 ++ [(e : Int)])) HR2.out BV.out (World.ownsRow.alloc HO.out _) (fun j x xs e1 e2 => (HIN.out j x xs e1 e2).below BV.out HR2.out.bel.size) (I82.out.below BV.out HR2.out.bel.size) (I92.out.below BV.out HR2.out.bel.size) (I2.out.below BV.out HR2.out.bel.size) o7 g7)
            clear o7 g7 n7 HO HIN HR2 I2 I82 I92 BV hB2
            go_wp2_with fail
            go_roundw
            case rel => exact ⟨e + 1, by go_num, by omega, (by show PLw _ _ _ _ _ _ _ _; rw [HNX.out]; exact P1.out)⟩
            case measure => simp [intOf]; omega
        · have he2 : ev = e := by omega
          subst he2
          have HIN := Hid.of (bi_next _ HI.out HP.out)
          rw [← HL1.out] at HIN
          have HEN : Hid (plcAll ⟨(st : Int), (ev : Int), starts, ars, ends⟩ ⟨(sb : Int), (eb : Int), startsB, arsB, endsB⟩ = bfGo (bothD ars arsB) ev (4097 - (k + 1)) (k + 1) L1) := by
            show _ = _
            rw [HE.out, show 4097 - k = (4097 - (k + 1)) + 1 by omega, bfGo_next HP.out, HL1.out]
          clear hxa hxl hya hyl hzn cx cy cz
          go_wp2_with fail
          go_roundw
          case rel => exact ⟨k + 1, L1, by go_num, by omega, HR, HIN, HEN⟩
          case measure => simp [intOf]; omega
    · have HF : Hid (plcAll ⟨(st : Int), (ev : Int), starts, ars, ends⟩ ⟨(sb : Int), (eb : Int), startsB, arsB, endsB⟩ = L) := by show _ = _; rw [HE.out, bfGo_stop hlt]
      go_wp2_with fail
      go_ret
      exact ⟨_, rfl, by rw [HF.out]; exact HR.out.ow, HR.out.bel⟩

end Go.Proofs.YtbdkaobbfmgnhaaDoor
namespace Go.Proofs.YtbdkaobbfmgnhaaDoor
open Go.RowKit
set_option linter.unusedVariables false

theorem plcs_any (a b : Mach) (la lb : ML) (w : World) (h : MAt w a la) (h' : MAt w b lb) (hm : mayB a = true) (hm' : mayB b = true) (z1 : a.st ≤ 6) (z2 : b.st ≤ 6) :
    Calls Tryd.prog 90 #[mval a la, mval b lb] w fun e w' => PlcPost w (plcAll a b) e w' := by
  have hz := mayB_size hm
  have hzB := mayB_size hm'
  obtain ⟨st, ev, starts, ars, ends⟩ := a
  obtain ⟨sb, eb, startsB, arsB, endsB⟩ := b
  obtain ⟨a1, c1, a2, c2, a3, c3⟩ := la
  obtain ⟨b1, d1, b2, d2, b3, d3⟩ := lb
  unfold sizeOk at hz hzB
  dsimp only at hz hzB z1 z2
  obtain ⟨s, rfl⟩ : ∃ s : Nat, st = (s : Int) := ⟨st.toNat, by omega⟩
  obtain ⟨v, rfl⟩ : ∃ v : Nat, ev = (v : Int) := ⟨ev.toNat, by omega⟩
  obtain ⟨s', rfl⟩ : ∃ s : Nat, sb = (s : Int) := ⟨sb.toNat, by omega⟩
  obtain ⟨v', rfl⟩ : ∃ v : Nat, eb = (v : Int) := ⟨eb.toNat, by omega⟩
  exact places_ok s v s' v' starts startsB ars arsB ends endsB a1 c1 a2 c2 a3 c3 b1 d1 b2 d2 b3 d3 w (Hid.of h) (Hid.of h') (Hid.of hm) (Hid.of hm') (show _ ≤ _ by omega) (show _ ≤ _ by omega)

theorem results_pairW {fn : Func} {u v : Tmp} (h : fn.results = #[.tmp u, .tmp v]) (tmps : Array Value) (P : Program) (w : World) : (results fn tmps).run P w = .ok (.tuple #[tmps.getD u undef, tmps.getD v undef]) w := by
  simp [results, h]
/-- What Without knows of the memory. -/
structure WO (w W : World) (a b : Mach) (la lb : ML) (v : Value) (L : List Plc) : Prop where
  bel : Below w.heap.size w W
  ka : Blk W w.heap.size 25 (mcells a la)
  kb : Blk W (w.heap.size + 1) 25 (mcells b lb)
  ow : OwnPl (w.heap.size + 2) W (w.heap.size + 4) v L
  hB : w.heap.size + 2 ≤ W.heap.size
theorem WO.below {w W W' : World} {a b : Mach} {la lb : ML} {v : Value} {L : List Plc} (h : WO w W a b la lb v L) (hb : Below W.heap.size W W') : WO w W' a b la lb v L :=
  ⟨h.bel.trans (hb.mono h.bel.size), h.ka.below hb h.ka.lt, h.kb.below hb h.kb.lt, h.ow.below hb h.hB, Nat.le_trans h.hB hb.size⟩
theorem plc_lens {a b : Mach} (ha : mayB a = true) (hb : mayB b = true) (za : a.st ≤ 6) (zb : b.st ≤ 6) {ev k n : Nat} {l : List Plc} (h : BI (bothD a.arrows b.arrows) (a.starts, b.starts) ev k n l) {p : Plc} (hp : p ∈ l) : p.1.1.length ≤ 4096 ∧ p.1.2.length ≤ 4096 := by
  obtain ⟨e1, e2⟩ := h.run p hp
  rw [bothD_run _ _ _ _ _ (fun e he => (e2 e he).1)] at e1
  have i1 := afterIn ha p.2 _ (may_starts ha)
  have i2 := afterIn hb p.2 _ (may_starts hb)
  rw [e1]
  have l1 := nodup_len 6 _ (inc_nodup i1.1) (fun x hx => by have := i1.2 x hx; omega)
  have l2 := nodup_len 6 _ (inc_nodup i2.1) (fun x hx => by have := i2.2 x hx; omega)
  dsimp only
  omega
/-- What Without leaves. -/
def OutPost (w : World) (o : Option (List Int)) (e : Ending) (w' : World) : Prop := ∃ va vc, e = .returned (.tuple #[.slice va (o.getD []).length vc, .bool o.isSome]) ∧ At w' va (o.getD []) ∧ (o.getD []).length ≤ maxLen ∧ Below w.heap.size w w'
theorem find_hit {α : Type} {f : α → Bool} {L : List α} {k : Nat} {p : α} {o : Option α} (h : o = (L.drop k).find? f) (hp : L[k]? = some p) (ht : f p = true) : o = some p := by
  rw [h, List.drop_eq_getElem_cons (List.getElem?_eq_some_iff.1 hp).1, (List.getElem?_eq_some_iff.1 hp).2, List.find?_cons_of_pos ht]
theorem find_miss {α : Type} {f : α → Bool} {L : List α} {k : Nat} {p : α} {o : Option α} (h : o = (L.drop k).find? f) (hp : L[k]? = some p) (ht : f p = false) : o = (L.drop (k + 1)).find? f := by
  rw [h, List.drop_eq_getElem_cons (List.getElem?_eq_some_iff.1 hp).1, (List.getElem?_eq_some_iff.1 hp).2, List.find?_cons_of_neg (by rw [ht]; simp)]
theorem outPost_none {w w' : World} {a b : Mach} {o : Option Plc} (h : o = none) (he : outW a b = o.map (·.2)) (hb : Below w.heap.size w w') : OutPost w (outW a b) (.returned (.tuple #[.slice none 0 0, .bool false])) w' := by
  rw [he, h]; exact ⟨none, 0, rfl, .inl rfl, Nat.zero_le _, hb⟩
theorem outPost_some {w w' : World} {a b : Mach} {o : Option Plc} {p : Plc} {va : Option Addr} {vc : Nat} (h : o = some p) (he : outW a b = o.map (·.2)) (hv : At w' va p.2) (hl : p.2.length ≤ maxLen) (hb : Below w.heap.size w w') : OutPost w (outW a b) (.returned (.tuple #[.slice va p.2.length vc, .bool true])) w' := by
  rw [he, h]; exact ⟨va, vc, rfl, hv, hl, hb⟩

set_option maxRecDepth 100000 in
set_option maxHeartbeats 8000000 in
theorem without_any (a b : Mach) (la lb : ML) (w : World) (h : Hid (MAt w a la)) (h' : Hid (MAt w b lb)) (hm : Hid (mayB a = true)) (hm' : Hid (mayB b = true)) (z1 : Hid (a.st ≤ 6)) (z2 : Hid (b.st ≤ 6)) :
    Calls Tryd.prog 43 #[mval a la, mval b lb] w fun e w' => OutPost w (outW a b) e w' := by
  have B0 : Hid (Below w.heap.size w ((w.alloc (.cells (mcells a la) 25)).alloc (.cells (mcells b lb) 25))) := ((Below.refl _ _).alloc (Nat.le_refl _) _).alloc (by simp) _
  have KA0 : Hid (Blk ((w.alloc (.cells (mcells a la) 25)).alloc (.cells (mcells b lb) 25)) w.heap.size 25 (mcells a la)) := (Blk.new w _ _).alloc _
  have KB0 : Hid (Blk ((w.alloc (.cells (mcells a la) 25)).alloc (.cells (mcells b lb) 25)) (w.heap.size + 1) 25 (mcells b lb)) := by
    have := Blk.new (w.alloc (.cells (mcells a la) 25)) 25 (mcells b lb)
    rwa [World.size_alloc] at this
  have HZ0 : Hid (((w.alloc (.cells (mcells a la) 25)).alloc (.cells (mcells b lb) 25)).heap.size = w.heap.size + 2) := by show _ = _; simp
  go_enter Tryd.func43, Tryd.ntmps43
  go_wp2_with fail
  refine (plcs_any a b la lb _ (h.out.below B0.out (Nat.le_refl _)) (h'.out.below B0.out (Nat.le_refl _)) hm.out hm'.out z1.out z2.out).mono ?_
  rintro r V ⟨v, rfl, ow, bV⟩
  rw [HZ0.out] at ow
  have HI := Hid.of (plc_all hm.out hm'.out z1.out z2.out)
  have HF0 : Hid ((plcAll a b).find? (outP a b) = ((plcAll a b).drop 0).find? (outP a b)) := by show _ = _; rw [List.drop_zero]
  have HOW : Hid (outW a b = ((plcAll a b).find? (outP a b)).map (·.2)) := rfl
  have HBD := Hid.of (plc_bound hm.out hm'.out z1.out z2.out HI.out)
  have HX : Hid (WO w V a b la lb v (plcAll a b)) := ⟨B0.out.trans (bV.mono B0.out.size), KA0.out.below bV KA0.out.lt, KB0.out.below bV KB0.out.lt, ow, Nat.le_trans (Nat.le_of_eq HZ0.out.symm) bV.size⟩
  have HPOS : Hid (0 < (plcAll a b).length) := (List.getElem?_eq_some_iff.1 HI.out.hd).1
  have HIN : Hid (∀ p ∈ plcAll a b, p.1.1.length ≤ 4096 ∧ p.1.2.length ≤ 4096) := fun p hp => plc_lens hm.out hm'.out z1.out z2.out HI.out hp
  clear ow bV HZ0 B0 KA0 KB0
  revert HI HF0 HOW HBD HX HPOS HIN
  generalize plcAll a b = L
  intro HI HF0 HOW HBD HX HPOS HIN
  have hbd := HBD.out
  obtain ⟨g, cap, hv, -, -, -, -⟩ := HX.out.ow.cellsP HPOS.out
  subst hv
  obtain ⟨O, HO⟩ : ∃ O, Hid (O = L.find? (outP a b)) := ⟨_, rfl⟩
  rw [← HO.out] at HF0 HOW
  obtain ⟨st, ev, starts, ars, ends⟩ := a
  obtain ⟨sb, eb, startsB, arsB, endsB⟩ := b
  obtain ⟨a1, c1, a2, c2, a3, c3⟩ := la
  obtain ⟨b1, d1, b2, d2, b3, d3⟩ := lb
  go_wp2_with fail
  go_loopw [7] (fun i wr => ∃ (k : Nat), i = .int .i64 k ∧ k ≤ L.length ∧ Hid (WO w wr ⟨st, ev, starts, ars, ends⟩ ⟨sb, eb, startsB, arsB, endsB⟩ ⟨a1, c1, a2, c2, a3, c3⟩ ⟨b1, d1, b2, d2, b3, d3⟩ (.slice (some ⟨g, 0, none⟩) L.length cap) L) ∧ Hid (O = (L.drop k).find? (outP ⟨st, ev, starts, ars, ends⟩ ⟨sb, eb, startsB, arsB, endsB⟩))) (fun i _ => L.length - (intOf i).toNat)
  case atStart => exact ⟨0, rfl, Nat.zero_le _, HX, HF0⟩
  case round =>
    clear HX HF0
    obtain ⟨k, rfl, hk, HR, HF⟩ := hrel
    by_cases hlt : k < L.length
    · obtain ⟨p, HP⟩ : ∃ p, Hid (L[k]? = some p) := ⟨_, List.getElem?_eq_getElem hlt⟩
      obtain ⟨g', cap', hv, hg, hgs, -, hcc⟩ := HR.out.ow.cells HPOS.out
      cases hv
      obtain ⟨xv, yv, zv, cx, cy, cz, ix, iy, iz⟩ := hcc k p HP.out
      obtain ⟨xa, xc, rfl, hxa, hxl, -⟩ := ix.at
      obtain ⟨ya, yc, rfl, hya, hyl, -⟩ := iy.at
      obtain ⟨za, zc, rfl, hza, hzl, -⟩ := iz.at
      rw [Nat.zero_add] at cx cy cz
      have IZ := Hid.of iz
      have IY := Hid.of iy
      have HG := Hid.of hgs
      have CY := Hid.of cy
      have CZ := Hid.of cz
      have HL1 := Hid.of (HIN.out p (List.mem_of_getElem? HP.out)).1
      have HL2 := Hid.of (HIN.out p (List.mem_of_getElem? HP.out)).2
      obtain ⟨x0, x1, x2, x3, x4⟩ := mcell_at HR.out.ka
      dsimp only at x0 x1 x2 x3 x4
      obtain ⟨xs, HXS⟩ : ∃ xs, Hid (xs = p.1.1.filter (fun n => hasB ends n == true)) := ⟨_, rfl⟩
      have KEY : Hid (Calls Tryd.prog 54 #[.slice xa p.1.1.length xc, .slice a3 ends.length c3, .bool true] wr.drew fun r w' => Gives wr.drew xs r w') := by
        rw [HXS.out]; exact only_any xa a3 xc c3 p.1.1 ends true wr.drew (At.drewN hxa 1) (Nat.le_trans HL1.out (by decide)) (h.out.e.below HR.out.bel.drew (Nat.le_refl _)) (Nat.le_trans h.out.e1 h.out.e2)
      clear hcc ix iy iz hxa hxl hya hyl hza hzl hg hgs cy cz x0 x1 x2 x3
      go_wp2_with fail
      go_region_held3 (fun w' => w'.cell? ⟨w.heap.size, 4, none⟩ = some (.slice a3 ends.length c3) ∧ w'.cell? ⟨g, k * 3, none⟩ = some (.slice xa p.1.1.length xc)) (go_keep) (first | (go_at_call 54; refine KEY.out.mono ?_; rintro r wL ⟨ra, rc, rfl, -, ol, b8⟩; have OL := Hid.of ol; have GL : Hid (Below wr.heap.size wr wL) := ((Below.refl _ wr).drew).trans b8; have xx4 : wL.cell? ⟨w.heap.size, 4, none⟩ = some (.slice a3 ends.length c3) := (HR.out.below GL.out).ka.cell 4 rfl; have cc1 := (GL.out.cell (p := ⟨g, k * 3, none⟩) HG.out).trans cx; clear b8 ol))
      clear KEY xx4 cc1 x4 cx
      have HRL := Hid.of (HR.out.below GL.out)
      have CYL : wL.cell? ⟨g, k * 3 + 1, none⟩ = some (.slice ya p.1.2.length yc) := (GL.out.cell (p := ⟨g, k * 3 + 1, none⟩) HG.out).trans CY.out
      have CZL : Hid (wL.cell? ⟨g, k * 3 + 2, none⟩ = some (.slice za p.2.length zc)) := (GL.out.cell (p := ⟨g, k * 3 + 2, none⟩) HG.out).trans CZ.out
      have IZL := Hid.of (IZ.out.below GL.out HR.out.hB)
      have IYL := Hid.of (IY.out.below GL.out HR.out.hB)
      have HGL : Hid (g < wL.heap.size) := Nat.lt_of_lt_of_le HG.out GL.out.size
      clear HR GL HG CY CZ IZ IY
      have x4 : wL.cell? ⟨w.heap.size + 1, 4, none⟩ = some (.slice b3 endsB.length d3) := HRL.out.kb.cell 4 rfl
      obtain ⟨ya', yc', hye, hya, hyl, -⟩ := IYL.out.at
      cases hye
      obtain ⟨ys, HYS⟩ : ∃ ys, Hid (ys = p.1.2.filter (fun n => hasB endsB n == true)) := ⟨_, rfl⟩
      have KEY : Hid (Calls Tryd.prog 54 #[.slice ya p.1.2.length yc, .slice b3 endsB.length d3, .bool true] wL.drew fun r w' => Gives wL.drew ys r w') := by
        rw [HYS.out]; exact only_any ya b3 yc d3 p.1.2 endsB true wL.drew (At.drewN hya 1) (Nat.le_trans HL2.out (by decide)) (h'.out.e.below HRL.out.bel.drew (Nat.le_refl _)) (Nat.le_trans h'.out.e1 h'.out.e2)
      clear hya hyl
      go_wp2_with fail
      go_region_held3 (fun w' => w'.cell? ⟨w.heap.size + 1, 4, none⟩ = some (.slice b3 endsB.length d3) ∧ w'.cell? ⟨g, k * 3 + 1, none⟩ = some (.slice ya p.1.2.length yc)) (go_keep) (first | (go_at_call 54; refine KEY.out.mono ?_; rintro r wM ⟨rb, rd, rfl, -, om, b9⟩; have OM := Hid.of om; have GL : Hid (Below wL.heap.size wL wM) := ((Below.refl _ wL).drew).trans b9; have xx4 : wM.cell? ⟨w.heap.size + 1, 4, none⟩ = some (.slice b3 endsB.length d3) := (HRL.out.below GL.out).kb.cell 4 rfl; have cc1 := (GL.out.cell (p := ⟨g, k * 3 + 1, none⟩) HGL.out).trans CYL; clear b9 om))
      clear KEY xx4 cc1 x4 CYL
      have HRM := Hid.of (HRL.out.below GL.out)
      have CZM : wM.cell? ⟨g, k * 3 + 2, none⟩ = some (.slice za p.2.length zc) := (GL.out.cell (p := ⟨g, k * 3 + 2, none⟩) HGL.out).trans CZL.out
      have IZM := Hid.of (IZL.out.below GL.out HRL.out.hB)
      clear HRL GL HGL CZL IZL IYL
      have HOP : Hid (outP ⟨st, ev, starts, ars, ends⟩ ⟨sb, eb, startsB, arsB, endsB⟩ p = (decide (0 < xs.length) && decide (ys.length = 0))) := by show _ = _; unfold outP; rw [HXS.out, HYS.out]
      by_cases hx : 0 < xs.length
      · by_cases hy : ys.length = 0
        · have HT := Hid.of (find_hit HF.out HP.out (by rw [HOP.out]; simp [hx, hy]))
          have dy : ((ys.length : Int) == 0) = true := by rw [hy]; rfl
          clear hy
          obtain ⟨za', zc', hze, hza, hzl, -⟩ := IZM.out.at
          cases hze
          have HZA := Hid.of hza
          have HZL := Hid.of hzl
          clear hza hzl
          go_wp2_with fail
          exact bodyPost_ret (results_pairW (u := 4) (v := 5) rfl _ _ _) rfl (outPost_some HT.out HOW.out HZA.out HZL.out HRM.out.bel)
        · have HT := Hid.of (find_miss HF.out HP.out (by rw [HOP.out]; simp [hy]))
          have dy : ((ys.length : Int) == 0) = false := by rw [beq_eq_false_iff_ne]; omega
          clear hy CZM
          go_wp2_with fail
          go_roundw
          case rel => exact ⟨k + 1, by go_num, by omega, HRM, HT⟩
          case measure => simp [intOf]; omega
      · have HT := Hid.of (find_miss HF.out HP.out (by rw [HOP.out]; simp; omega))
        clear CZM
        go_wp2_with fail
        go_roundw
        case rel => exact ⟨k + 1, by go_num, by omega, HRM, HT⟩
        case measure => simp [intOf]; omega
    · have HN : Hid (O = none) := by show _ = _; rw [HF.out, List.drop_eq_nil_of_le (by omega)]; rfl
      go_wp2_with fail
      exact bodyPost_ret (results_pairW (u := 4) (v := 5) rfl _ _ _) rfl (outPost_none HN.out HOW.out HR.out.bel)

end Go.Proofs.YtbdkaobbfmgnhaaDoor
