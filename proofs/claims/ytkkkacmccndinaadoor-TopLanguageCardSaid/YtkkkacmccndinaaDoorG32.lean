/-
  The walks of slices.Index, slices.Contains and row.Has: whether a list has a number.
  The walk of least.fold: the machine whose states are the kinds.
  The walk of least.fold.
  The walks of determine.meeting and determine.rows.
  What determine.Make leaves, and the reference's; what its walk knows of the memory.
-/
import Derived.Test.YtkkkacmccndinaaDoorG03
import Derived.Test.YtkkkacmccndinaaDoorG31
import Derived.Test.YtkkkacmccndinaaDoorG13
import Derived.Test.YtkkkacmccndinaaDoorG19
import Derived.Test.YtkkkacmccndinaaDoorCSetOps
import Derived.Test.YtkkkacmccndinaaDoorG05
import Derived.Test.YtkkkacmccndinaaDoorG07
import Derived.Test.YtkkkacmccndinaaDoorG29
namespace Go.Proofs.YtkkkacmccndinaaDoor
open Go.RowKit

/-- What slices.Index answers: the first place, or -1. -/
def idxFrom (n : Int) : Nat → List Int → Int
  | _, [] => -1
  | k, x :: r => if n = x then k else idxFrom n (k + 1) r

theorem idx_has (n : Int) : ∀ (xs : List Int) (k : Nat), decide (0 ≤ idxFrom n k xs) = hasB xs n
  | [], _ => rfl
  | x :: r, k => by
    unfold idxFrom
    by_cases h : n = x
    · rw [if_pos h]; subst h; simp [hasB]
    · rw [if_neg h, idx_has n r (k + 1)]
      have h1 : (n == x) = false := by simp [h]
      simp only [hasB, List.contains_cons, h1, Bool.false_or]
theorem idx_bd (n : Int) : ∀ (xs : List Int) (k : Nat), -1 ≤ idxFrom n k xs ∧ idxFrom n k xs ≤ k + xs.length
  | [], _ => by simp [idxFrom]
  | x :: r, k => by
    unfold idxFrom
    have := idx_bd n r (k + 1)
    split
    · simp; omega
    · simp only [List.length_cons]; omega
theorem idx_hit {xs : List Int} {k : Nat} {n x : Int} (h : k < xs.length) (e : Hid (idxFrom n 0 xs = idxFrom n k (xs.drop k))) (hv : Hid (x = xs[k]?.getD 0)) (hx : (n == x) = true) : (k : Int) = idxFrom n 0 xs := by
  have hx : n = x := by simpa using hx
  rw [e.out, drop_cons h, ← hv.out, idxFrom, if_pos hx]
theorem idx_miss {xs : List Int} {k : Nat} {n x : Int} (h : k < xs.length) (e : Hid (idxFrom n 0 xs = idxFrom n k (xs.drop k))) (hv : Hid (x = xs[k]?.getD 0)) (hx : (n == x) = false) : Hid (idxFrom n 0 xs = idxFrom n (k + 1) (xs.drop (k + 1))) := by
  have hx : ¬ n = x := by simpa using hx
  show idxFrom n 0 xs = _
  rw [e.out, drop_cons h, ← hv.out, idxFrom, if_neg hx]
theorem idx_end {xs : List Int} {k : Nat} {n : Int} (h : ¬ k < xs.length) (e : Hid (idxFrom n 0 xs = idxFrom n k (xs.drop k))) : -1 = idxFrom n 0 xs := by
  rw [e.out, List.drop_eq_nil_of_le (by omega)]; rfl

set_option maxHeartbeats 400000 in
theorem index_some (b off cap : Nat) (xs : List Int) (n : Int) (w : World) (hl : xs.length ≤ 9223372036854775807) (hc : Cells w b off xs) :
    Calls Tryd.prog 131 #[.slice (some ⟨b, off, none⟩) xs.length cap, .int .i64 n] w fun e w' => e = .returned (.int .i64 (idxFrom n 0 xs)) ∧ w' = w := by
  go_enter Tryd.func131, Tryd.ntmps131
  go_wp2
  go_loop [8] (fun i => ∃ k : Nat, k ≤ xs.length ∧ i = .int .i64 k ∧ Hid (idxFrom n 0 xs = idxFrom n k (xs.drop k))) (fun i => xs.length - (intOf i).toNat)
  case atStart => exact ⟨0, Nat.zero_le _, rfl, rfl⟩
  case round =>
    obtain ⟨k, hk, rfl, he⟩ := hrel
    by_cases hlt : k < xs.length
    · obtain ⟨x, HX, hcell⟩ := hc.at hlt
      go_wp2
      · go_ret
        exact ⟨ret_int (idx_hit hlt he HX (by assumption)), rfl⟩
      · go_round
        case rel => exact ⟨k + 1, by omega, by go_num, idx_miss hlt he HX (by assumption)⟩
        case measure => simp [intOf]; omega
    · go_wp2
      go_ret
      exact ⟨ret_int (idx_end hlt he), rfl⟩

set_option maxHeartbeats 400000 in
theorem index_nil (a : Option Addr) (cap : Nat) (n : Int) (w : World) :
    Calls Tryd.prog 131 #[.slice a 0 cap, .int .i64 n] w fun e w' => e = .returned (.int .i64 (-1)) ∧ w' = w := by
  go_enter Tryd.func131, Tryd.ntmps131
  go_wp2
  refine wp_loop_rounds 1 ?_
  rw [rounds_succ]
  go_wp2
  go_ret
  exact ⟨rfl, rfl⟩

theorem index_any (a : Option Addr) (cap : Nat) (xs : List Int) (n : Int) (w : World) (hs : At w a xs) (hl : xs.length ≤ maxLen) :
    Calls Tryd.prog 131 #[.slice a xs.length cap, .int .i64 n] w fun e w' => e = .returned (.int .i64 (idxFrom n 0 xs)) ∧ w' = w := by
  rcases hs with rfl | ⟨b, off, rfl, -, hc⟩
  · exact index_nil a cap n w
  · exact index_some b off cap xs n w hl hc

set_option maxHeartbeats 400000 in
theorem contains_any (a : Option Addr) (cap : Nat) (xs : List Int) (n : Int) (w : World) (hs : At w a xs) (hl : xs.length ≤ maxLen) :
    Calls Tryd.prog 123 #[.slice a xs.length cap, .int .i64 n] w fun e w' => e = .returned (.bool (hasB xs n)) ∧ w' = w := by
  go_enter Tryd.func123, Tryd.ntmps123
  go_wp2_with fail
  refine (index_any a cap xs n _ hs hl).mono ?_
  rintro e w' ⟨rfl, rfl⟩
  go_wp2
  go_ret
  exact ⟨ret_bool (idx_has n xs 0), rfl⟩

set_option maxHeartbeats 400000 in
theorem rowHas_any (a : Option Addr) (cap : Nat) (xs : List Int) (n : Int) (w : World) (hs : At w a xs) (hl : xs.length ≤ maxLen) :
    Calls Tryd.prog 92 #[.slice a xs.length cap, .int .i64 n] w fun e w' => e = .returned (.bool (hasB xs n)) ∧ w' = w := by
  go_enter Tryd.func92, Tryd.ntmps92
  go_wp2_with fail
  refine (contains_any a cap xs n _ hs hl).mono ?_
  rintro e w' ⟨rfl, rfl⟩
  go_wp2
  go_ret
  exact ⟨rfl, rfl⟩

end Go.Proofs.YtkkkacmccndinaaDoor
namespace Go.Proofs.YtkkkacmccndinaaDoor
open Go.RowKit
set_option linter.unusedVariables false

/-- What fold knows of the memory. -/
structure FO (w W : World) (m : Mach) (l : ML) (K : Int) (va ve : Value) (A : List Arr) (E : List Int) : Prop where
  low : Below w.heap.size w W
  kb : Blk W w.heap.size 25 (mcells m l)
  zb : Blk W (w.heap.size + 1) 25 zcells
  s0 : Blk W (w.heap.size + 2) 3 #[.int .i64 0]
  nb : Blk W (w.heap.size + 3) 25 (rcells K m.ev (w.heap.size + 2) va ve)
  ar : OwnA W (w.heap.size + 4) va A
  en : Own W (w.heap.size + 4) ve E
  hB : w.heap.size + 4 ≤ W.heap.size
section
variable {w W : World} {m : Mach} {l : ML} {K : Int} {va ve : Value} {A : List Arr} {E : List Int}
theorem FO.below {W' : World} (h : FO w W m l K va ve A E) (hb : Below W.heap.size W W') : FO w W' m l K va ve A E :=
  ⟨h.low.trans (hb.mono h.low.size), h.kb.below hb h.kb.lt, h.zb.below hb h.zb.lt, h.s0.below hb h.s0.lt, h.nb.below hb h.nb.lt, h.ar.kept hb (Nat.le_refl _), own_same h.en (fun k hk => hb.block k (World.ownsRow.lt h.en k hk).2), Nat.le_trans h.hB hb.size⟩
/-- One state more. -/
theorem FO.inc (h : FO w W m l K va ve A E) (K' : Int) : FO w (W.setCell ⟨w.heap.size + 3, 0, none⟩ (.int .i64 K')) m l K' va ve A E :=
  ⟨h.low.setCell (p := ⟨w.heap.size + 3, 0, none⟩) (show w.heap.size ≤ w.heap.size + 3 by omega) _, Blk.other h.kb (by omega) _, Blk.other h.zb (by omega) _, Blk.other h.s0 (by omega) _, h.nb.set 0 (.int .i64 K'), ownsRow_set h.ar (by omega) _, ownsRow_set h.en (by omega) _, by have := h.hB; simp [World.setCell]; omega⟩
/-- One arrow more. -/
theorem FO.pushA {W2 W3 : World} {va' : Value} {x : Arr} (h : FO w W m l K va ve A E) (hW3 : Below W.heap.size W W3) (o1 : OwnA W2 (w.heap.size + 4) va' (A ++ [x])) (g : W3.grownBy W2 va.ownBlock) :
    Blk W2 (w.heap.size + 3) 25 (rcells K m.ev (w.heap.size + 2) va ve) ∧ FO w (W2.setCell ⟨w.heap.size + 3, 3, none⟩ va') m l K va' ve (A ++ [x]) E := by
  have h3 := h.below hW3
  have hB := h3.hB
  have kp : ∀ j, j < W3.heap.size → va.ownBlock ≠ some j → W2.heap[j]? = W3.heap[j]? := fun j hj hn => g.block j hj (fun e => hn e.symm)
  have hi : ∀ j, j < w.heap.size + 4 → va.ownBlock ≠ some j := fun j hj e => by have := (World.ownsRow.lt h3.ar j e).1; omega
  have lo : ∀ j, j < w.heap.size + 4 → W2.heap[j]? = W3.heap[j]? := fun j hj => kp j (by omega) (hi j hj)
  have nb2 : Blk W2 (w.heap.size + 3) 25 (rcells K m.ev (w.heap.size + 2) va ve) := (lo _ (by omega)).trans h3.nb
  refine ⟨nb2, (h3.low.grown g (by omega) (fun j hj => Nat.le_trans (by omega) (World.ownsRow.lt h3.ar j hj).1)).setCell (p := ⟨w.heap.size + 3, 3, none⟩) (show w.heap.size ≤ w.heap.size + 3 by omega) _, Blk.other ((lo _ (by omega)).trans h3.kb) (by omega) _, Blk.other ((lo _ (by omega)).trans h3.zb) (by omega) _, Blk.other ((lo _ (by omega)).trans h3.s0) (by omega) _, nb2.set 3 va', ownsRow_set o1 (by omega) va', ownsRow_set (own_same h3.en (fun k hk => kp k (World.ownsRow.lt h3.en k hk).2 (fun e => ?_))) (by omega) va', ?_⟩
  · rcases own_apart h3.ar h3.en (by decide) with r | r
    · rw [r] at e; cases e
    · exact r (e.trans hk.symm)
  · have := g.size
    simp [World.setCell]; omega
/-- One end more. -/
theorem FO.pushE {W2 W3 : World} {ve' : Value} {t : Int} (h : FO w W m l K va ve A E) (hW3 : Below W.heap.size W W3) (o1 : Own W2 (w.heap.size + 4) ve' (E ++ [t])) (g : W3.grownBy W2 ve.ownBlock) :
    Blk W2 (w.heap.size + 3) 25 (rcells K m.ev (w.heap.size + 2) va ve) ∧ FO w (W2.setCell ⟨w.heap.size + 3, 4, none⟩ ve') m l K va ve' A (E ++ [t]) := by
  have h3 := h.below hW3
  have hB := h3.hB
  have kp : ∀ j, j < W3.heap.size → ve.ownBlock ≠ some j → W2.heap[j]? = W3.heap[j]? := fun j hj hn => g.block j hj (fun e => hn e.symm)
  have hi : ∀ j, j < w.heap.size + 4 → ve.ownBlock ≠ some j := fun j hj e => by have := (World.ownsRow.lt h3.en j e).1; omega
  have lo : ∀ j, j < w.heap.size + 4 → W2.heap[j]? = W3.heap[j]? := fun j hj => kp j (by omega) (hi j hj)
  have nb2 : Blk W2 (w.heap.size + 3) 25 (rcells K m.ev (w.heap.size + 2) va ve) := (lo _ (by omega)).trans h3.nb
  refine ⟨nb2, (h3.low.grown g (by omega) (fun j hj => Nat.le_trans (by omega) (World.ownsRow.lt h3.en j hj).1)).setCell (p := ⟨w.heap.size + 3, 4, none⟩) (show w.heap.size ≤ w.heap.size + 3 by omega) _, Blk.other ((lo _ (by omega)).trans h3.kb) (by omega) _, Blk.other ((lo _ (by omega)).trans h3.zb) (by omega) _, Blk.other ((lo _ (by omega)).trans h3.s0) (by omega) _, nb2.set 4 ve', ownsRow_set (own_same h3.ar (fun k hk => kp k (World.ownsRow.lt h3.ar k hk).2 (fun e => ?_))) (by omega) ve', ownsRow_set o1 (by omega) ve', ?_⟩
  · rcases own_apart h3.en h3.ar (by decide) with r | r
    · rw [r] at e; cases e
    · exact r (e.trans hk.symm)
  · have := g.size
    simp [World.setCell]; omega
/-- The machine that stands there. -/
theorem FO.mat {aa : Option Addr} {ac : Nat} {ea : Option Addr} {ec : Nat} (h : FO w W m l K (.slice aa A.length ac) (.slice ea E.length ec) A E) : MAt W ⟨K, m.ev, [0], A, E⟩ ⟨some ⟨w.heap.size + 2, 0, none⟩, 1, aa, ac, ea, ec⟩ ∧ FrM (w.heap.size + 2) ⟨K, m.ev, [0], A, E⟩ ⟨some ⟨w.heap.size + 2, 0, none⟩, 1, aa, ac, ea, ec⟩ := by
  obtain ⟨a1, q1, e1, k1, k2, k3, k4⟩ := h.ar.at
  obtain ⟨a2, q2, e2, j1, j2, j3, j4⟩ := Own.at2 h.en
  cases e1; cases e2
  refine ⟨⟨.inr ⟨w.heap.size + 2, 0, rfl, h.s0.lt, fun j hj => ?_⟩, k1, j1, by simp, (by unfold maxLen; simp), (fun h => by cases h), k2, k3, k4, j2, j3, j4⟩, .inr ⟨_, 0, rfl, Nat.le_refl _⟩, fr_mono h.ar.fr (by omega), fr_mono (Own.fr h.en) (by omega)⟩
  have hj : j = 0 := by simpa using hj
  subst hj
  exact h.s0.cell 0 rfl
end

end Go.Proofs.YtkkkacmccndinaaDoor
namespace Go.Proofs.YtkkkacmccndinaaDoor
open Go.RowKit
set_option linter.unusedVariables false

theorem arrF_len (D : List Arr) (c : Nat → Nat) (ev : Nat) : ∀ n, (arrF D c ev n).length ≤ n * ev
  | 0 => by simp [arrF]
  | n + 1 => by
    have := arrF_len D c ev n
    rw [show arrF D c ev (n + 1) = if c n = (reps c n).length then arrF D c ev n ++ rowF D c (c n) n ev else arrF D c ev n from rfl, Nat.succ_mul]
    split
    · rw [List.length_append, rowF_len]; omega
    · omega
theorem endF_len (E : List Int) (c : Nat → Nat) : ∀ n, (endF E c n).length ≤ n
  | 0 => by simp [endF]
  | n + 1 => by
    have := endF_len E c n
    rw [show endF E c (n + 1) = if c n = (reps c n).length ∧ hasB E (n : Int) = true then endF E c n ++ [((c n : Nat) : Int)] else endF E c n from rfl]
    split
    · rw [List.length_append, List.length_singleton]; omega
    · omega
theorem arrF_new {D : List Arr} {c : Nat → Nat} {ev n : Nat} (h : c n = (reps c n).length) : arrF D c ev (n + 1) = arrF D c ev n ++ rowF D c (c n) n ev ∧ (reps c (n + 1)).length = (reps c n).length + 1 := by
  refine ⟨by rw [show arrF D c ev (n + 1) = if c n = (reps c n).length then arrF D c ev n ++ rowF D c (c n) n ev else arrF D c ev n from rfl, if_pos h], ?_⟩
  rw [show reps c (n + 1) = if c n = (reps c n).length then reps c n ++ [n] else reps c n from rfl, if_pos h, List.length_append]; rfl
theorem endF_new {E : List Int} {c : Nat → Nat} {n : Nat} (h : c n = (reps c n).length) : endF E c (n + 1) = if hasB E (n : Int) = true then endF E c n ++ [((c n : Nat) : Int)] else endF E c n := by
  rw [show endF E c (n + 1) = if c n = (reps c n).length ∧ hasB E (n : Int) = true then endF E c n ++ [((c n : Nat) : Int)] else endF E c n from rfl]
  by_cases q : hasB E (n : Int) = true
  · rw [if_pos q, if_pos ⟨h, q⟩]
  · rw [if_neg q, if_neg (fun z => q z.2)]
theorem fold_old {D : List Arr} {E : List Int} {c : Nat → Nat} {ev n : Nat} (h : ¬ c n = (reps c n).length) : arrF D c ev (n + 1) = arrF D c ev n ∧ endF E c (n + 1) = endF E c n ∧ (reps c (n + 1)).length = (reps c n).length := by
  refine ⟨by rw [show arrF D c ev (n + 1) = if c n = (reps c n).length then arrF D c ev n ++ rowF D c (c n) n ev else arrF D c ev n from rfl, if_neg h], by rw [show endF E c (n + 1) = if c n = (reps c n).length ∧ hasB E (n : Int) = true then endF E c n ++ [((c n : Nat) : Int)] else endF E c n from rfl, if_neg (fun z => h z.1)], ?_⟩
  rw [show reps c (n + 1) = if c n = (reps c n).length then reps c n ++ [n] else reps c n from rfl, if_neg h]
/-- A piece of a slice of arrows. -/
theorem slice_piece (a : Option Addr) (len cap P Q : Nat) (h1 : P ≤ Q) (h2 : Q ≤ cap) : ∃ X Y, (∀ w : World, (Instr.slice 23 (.slice a len cap) (some (.int .i64 (P : Int))) (some (.int .i64 (Q : Int))) none).run Tryd.prog w = .ok (.slice X (Q - P) Y) w) ∧ (P < cap → ∀ b off, a = some ⟨b, off, none⟩ → X = some ⟨b, off + P * 3, none⟩) := by
  refine ⟨if cap = P then a else a.map (·.add (P * 3)), cap - P, fun w => ?_, fun hlt b off ha => ?_⟩
  · have := run_slice_lh (P := Tryd.prog) (w := w) 23 a len cap (by kernel_rfl) .i64 .i64 (P : Int) (Q : Int) (by omega) (by omega) (by omega)
    rw [this]
    go_simp
  · rw [if_neg (by omega), ha, Option.map_some]; simp [Addr.add]

/-- What fold leaves. -/
def FoldPost (w : World) (M : Mach) (e : Ending) (w' : World) : Prop := ∃ L, e = .returned (mval M L) ∧ MAt w' M L ∧ FrM w.heap.size M L ∧ Below w.heap.size w w'

set_option maxRecDepth 100000 in
set_option maxHeartbeats 4000000 in
theorem fold_any (N ev : Nat) (starts : List Int) (ars : List Arr) (ends : List Int) (a1 : Option Addr) (c1 : Nat) (a2 : Option Addr) (c2 : Nat) (a3 : Option Addr) (c3 : Nat) (gk : Nat) (c : Nat → Nat) (w : World) (hN : N ≤ 256) (hev : ev ≤ 8) (hal : Hid (ars.length = N * ev)) (h : Hid (MAt w ⟨(N : Int), (ev : Int), starts, ars, ends⟩ ⟨a1, c1, a2, c2, a3, c3⟩)) (hA : Hid (∀ f e : Nat, f < N → e < ev → ∃ t : Nat, ars[f * ev + e]? = some ⟨(f : Int), (e : Int), (t : Int)⟩ ∧ toI ars (f : Int) (e : Int) = (t : Int) ∧ t < N)) (hk : Hid (RowC w gk 3 N (fun x => .int .i64 ((c x : Nat) : Int)))) :
    Calls Tryd.prog 73 #[mval ⟨(N : Int), (ev : Int), starts, ars, ends⟩ ⟨a1, c1, a2, c2, a3, c3⟩, .slice (some ⟨gk, 0, none⟩) N N] w fun e w' => FoldPost w ⟨((reps c N).length : Int), (ev : Int), [0], arrF ars c ev N, endF ends c N⟩ e w' := by
  obtain ⟨i0, hi, hz0, hz1, hz2⟩ := info_parts Tryd.infoInt
  obtain ⟨j0, ji, jz0, jz1, jz2⟩ := info_parts Tryd.infoArrow
  have hgk := Hid.of hk.out.lt
  have F0 : Hid (FO w ((((w.alloc (.cells (mcells ⟨(N : Int), (ev : Int), starts, ars, ends⟩ ⟨a1, c1, a2, c2, a3, c3⟩) 25)).alloc (.cells zcells 25)).alloc (.cells #[.int .i64 0] 3)).alloc (.cells (rcells 0 (ev : Int) (w.heap.size + 1 + 1) (.slice none 0 0) (.slice none 0 0)) 25)) ⟨(N : Int), (ev : Int), starts, ars, ends⟩ ⟨a1, c1, a2, c2, a3, c3⟩ 0 (.slice none 0 0) (.slice none 0 0) [] []) := by
    refine ⟨((((Below.refl _ _).alloc (Nat.le_refl _) _).alloc (by simp) _).alloc (by simp; omega) _).alloc (by simp; omega) _, (((Blk.new w _ _).alloc _).alloc _).alloc _, ?_, ?_, ?_, ownA_nil _ _, own_nil _ _, by simp⟩
    · have := ((Blk.new (w.alloc (.cells (mcells ⟨(N : Int), (ev : Int), starts, ars, ends⟩ ⟨a1, c1, a2, c2, a3, c3⟩) 25)) 25 zcells).alloc (.cells #[.int .i64 0] 3)).alloc (.cells (rcells 0 (ev : Int) (w.heap.size + 1 + 1) (.slice none 0 0) (.slice none 0 0)) 25)
      rwa [World.size_alloc] at this
    · have := (Blk.new ((w.alloc (.cells (mcells ⟨(N : Int), (ev : Int), starts, ars, ends⟩ ⟨a1, c1, a2, c2, a3, c3⟩) 25)).alloc (.cells zcells 25)) 3 #[.int .i64 0]).alloc (.cells (rcells 0 (ev : Int) (w.heap.size + 1 + 1) (.slice none 0 0) (.slice none 0 0)) 25)
      rwa [World.size_alloc, World.size_alloc] at this
    · have := Blk.new (((w.alloc (.cells (mcells ⟨(N : Int), (ev : Int), starts, ars, ends⟩ ⟨a1, c1, a2, c2, a3, c3⟩) 25)).alloc (.cells zcells 25)).alloc (.cells #[.int .i64 0] 3)) 25 (rcells 0 (ev : Int) (w.heap.size + 1 + 1) (.slice none 0 0) (.slice none 0 0))
      rwa [World.size_alloc, World.size_alloc, World.size_alloc] at this
  have x1 : ((w.alloc (.cells (mcells ⟨(N : Int), (ev : Int), starts, ars, ends⟩ ⟨a1, c1, a2, c2, a3, c3⟩) 25)).alloc (.cells zcells 25)).cell? ⟨w.heap.size, 1, none⟩ = some (.int .i64 ev) := ((Blk.new w _ _).alloc _).cell 1 rfl
  go_enter Tryd.func73, Tryd.ntmps73
  go_wp2
  clear x1
  revert F0
  generalize (((w.alloc (.cells (mcells ⟨(N : Int), (ev : Int), starts, ars, ends⟩ ⟨a1, c1, a2, c2, a3, c3⟩) 25)).alloc (.cells zcells 25)).alloc (.cells #[.int .i64 0] 3)).alloc (.cells (rcells 0 (ev : Int) (w.heap.size + 1 + 1) (.slice none 0 0) (.slice none 0 0)) 25) = W0
  intro F0
  go_loopw [16] (fun i wr => ∃ (n : Nat) (K : Int) (va ve : Value), i = .int .i64 n ∧ n ≤ N ∧ Hid (K = ((reps c n).length : Int)) ∧ Hid (FO w wr ⟨(N : Int), (ev : Int), starts, ars, ends⟩ ⟨a1, c1, a2, c2, a3, c3⟩ K va ve (arrF ars c ev n) (endF ends c n))) (fun i _ => N - (intOf i).toNat)
  case atStart => exact ⟨0, 0, _, _, rfl, Nat.zero_le _, rfl, F0⟩
  case round =>
    clear F0
    obtain ⟨n, K, va, ve, rfl, hnn, HK, HF⟩ := hrel
    by_cases hlt : n < N
    · have y0 := (hk.out.below HF.out.low hgk.out).cell hlt
      have o0 : wr.cell? ⟨w.heap.size + 3, 0, none⟩ = some (.int .i64 K) := HF.out.nb.cell 0 rfl
      by_cases hnew : c n = (reps c n).length
      · have hKc : ((c n : Nat) : Int) = K := by rw [HK.out, hnew]
        obtain ⟨e1, e2⟩ := arrF_new (D := ars) (ev := ev) hnew
        have HE1 := Hid.of e1
        have HE2 := Hid.of e2
        have HE3 := Hid.of (endF_new (E := ends) hnew)
        have HKC := Hid.of hKc
        rw [hKc] at y0
        have hKb : 0 ≤ K ∧ K ≤ 256 := by have := reps_len c n; rw [HK.out]; omega
        have hwK : IntKind.i64.wrap (K + 1) = K + 1 := by rw [IntKind.wrap_i64]; omega
        obtain ⟨P, HP⟩ : ∃ P, Hid (P = n * ev) := ⟨_, rfl⟩
        obtain ⟨Q, HQ⟩ : ∃ Q, Hid (Q = (n + 1) * ev) := ⟨_, rfl⟩
        have hPQ : Q = P + ev := by rw [HQ.out, HP.out, Nat.succ_mul]
        have hQl : Q ≤ ars.length := by rw [HQ.out, hal.out]; exact Nat.mul_le_mul_right ev hlt
        have hal2 : ars.length ≤ 2048 := by rw [hal.out]; exact Nat.mul_le_mul hN hev
        have hw1 : IntKind.i64.wrap ((n : Int) * (ev : Int)) = (P : Int) := by rw [IntKind.wrap_i64, ← Int.natCast_mul, ← HP.out]; omega
        have hw3 : IntKind.i64.wrap (((n : Int) + 1) * (ev : Int)) = (Q : Int) := by rw [IntKind.wrap_i64, show ((n : Int) + 1) = ((n + 1 : Nat) : Int) by omega, ← Int.natCast_mul, ← HQ.out]; omega
        have hcl := h.out.a1
        dsimp only at hcl
        obtain ⟨X, Y, hsl, hX⟩ := slice_piece a2 ars.length c2 P Q (by omega) (by omega)
        rw [show Q - P = ev by omega] at hsl
        have HX := Hid.of hX
        have HPQ := Hid.of hPQ
        have HQL := Hid.of hQl
        have HCL := Hid.of hcl
        have HF1 := Hid.of (HF.out.inc (K + 1))
        have nf := HF.out.nb.frozen
        have x1 : wr.cell? ⟨w.heap.size, 1, none⟩ = some (.int .i64 ev) := HF.out.kb.cell 1 rfl
        have x3 : wr.cell? ⟨w.heap.size, 3, none⟩ = some (.slice a2 ars.length c2) := HF.out.kb.cell 3 rfl
        have hAL : Hid ((arrF ars c ev n).length + ev ≤ 2048) := show _ ≤ _ by
          have := arrF_len ars c ev n
          rw [← HP.out] at this
          omega
        have hEL : Hid ((endF ends c n).length ≤ 256) := Nat.le_trans (endF_len ends c n) (by omega)
        clear hnew e1 e2 hKc hX hPQ hQl hcl HF
        go_wp2_with fail
        clear o0 x1 x3 nf y0 hw1 hw3 hsl hwK
        revert HF1
        generalize wr.setCell ⟨w.heap.size + 3, 0, none⟩ (.int .i64 (K + 1)) = W1
        intro HF1
        go_loopw [42] (fun i wr => ∃ (e : Nat) (va : Value), i = .int .i64 e ∧ e ≤ ev ∧ Hid (FO w wr ⟨(N : Int), (ev : Int), starts, ars, ends⟩ ⟨a1, c1, a2, c2, a3, c3⟩ (K + 1) va ve (arrF ars c ev n ++ rowF ars c (c n) n e) (endF ends c n))) (fun i _ => ev - (intOf i).toNat)
        case atStart => exact ⟨0, va, rfl, Nat.zero_le _, (by show FO _ _ _ _ _ _ _ _ _; rw [show rowF ars c (c n) n 0 = [] from rfl, List.append_nil]; exact HF1.out)⟩
        case round =>
          clear HF1
          obtain ⟨e, va, rfl, hee, HF⟩ := hrel
          by_cases hle : e < ev
          · rcases (h.out.below HF.out.low (Nat.le_refl _)).a with h0 | ⟨b, off, ha0, hb, hc⟩
            · exfalso
              have h0 : ars = [] := h0
              have q1 := HPQ.out
              have q2 := HQL.out
              rw [h0] at q2
              simp at q2; omega
            have ha : a2 = some ⟨b, off, none⟩ := ha0
            have eX := HX.out (by have := HPQ.out; have := HQL.out; have := HCL.out; omega) b off ha
            obtain ⟨t, t1, t2, t3⟩ := hA.out n e hlt hle
            rw [← HP.out] at t1
            obtain ⟨a, HAa, y0, y1, y2⟩ := hc.at (k := P + e) (by have := HPQ.out; have := HQL.out; show P + e < ars.length; omega)
            have ea := HAa.out
            rw [show (Mach.mk (N : Int) (ev : Int) starts ars ends).arrows[P + e]? = some ⟨(n : Int), (e : Int), (t : Int)⟩ from t1, Option.getD_some] at ea
            subst ea
            dsimp only at y0 y1 y2
            rw [show off + (P + e) * 3 = off + P * 3 + e * 3 by omega] at y0 y1 y2
            subst eX
            have HNX : Hid (arrF ars c ev n ++ rowF ars c (c n) n (e + 1) = (arrF ars c ev n ++ rowF ars c (c n) n e) ++ [⟨K, (e : Int), ((c t : Nat) : Int)⟩]) := by
              show _ = _
              rw [rowF_succ, t2, Int.toNat_natCast, HKC.out, List.append_assoc]
            have hAl : (arrF ars c ev n ++ rowF ars c (c n) n e).length ≤ 2048 := by
              have := hAL.out
              rw [List.length_append, rowF_len]; omega
            obtain ⟨A, HAA⟩ : ∃ A, Hid (A = arrF ars c ev n ++ rowF ars c (c n) n e) := ⟨_, rfl⟩
            rw [← HAA.out] at HF HNX hAl
            obtain ⟨ct, HCT⟩ : ∃ ct, Hid (ct = c t) := ⟨_, rfl⟩
            rw [← HCT.out] at HNX
            obtain ⟨fa, fc, hfa, -, -, -⟩ := own_form2 HF.out.ar
            subst hfa
            have B1 : Below wr.heap.size wr (wr.alloc (.cells #[.int .i64 (n : Int), .int .i64 (e : Int), .int .i64 (t : Int)] 54)) := (Below.refl _ _).alloc (Nat.le_refl _) _
            have HF1 := Hid.of (HF.out.below B1)
            have z0 : (wr.alloc (.cells #[.int .i64 (n : Int), .int .i64 (e : Int), .int .i64 (t : Int)] 54)).cell? ⟨gk, t, none⟩ = some (.int .i64 (ct : Int)) := by rw [HCT.out]; exact ((hk.out.below HF.out.low hgk.out).below B1 (Nat.lt_of_lt_of_le hgk.out HF.out.low.size)).cell t3
            have NB : Hid (Blk (wr.alloc (.cells #[.int .i64 (n : Int), .int .i64 (e : Int), .int .i64 (t : Int)] 54)) wr.heap.size 54 #[.int .i64 (n : Int), .int .i64 (e : Int), .int .i64 (t : Int)]) := Blk.new wr _ _
            have Z0 := Hid.of z0
            have OLT : Hid (∀ k, (Value.slice fa A.length fc).ownBlock = some k → w.heap.size + 4 ≤ k ∧ k < wr.heap.size) := fun k hk => World.ownsRow.lt HF.out.ar k hk
            have hbB := HF.out.hB
            clear hc t1 t2 HAa HF B1 z0 hb ha ha0
            go_wp2_with fail
            clear y0 y1 y2
            revert HF1 NB Z0
            generalize wr.alloc (.cells #[.int .i64 (n : Int), .int .i64 (e : Int), .int .i64 (t : Int)] 54) = V
            intro HF1 NB Z0
            have HLT : Hid (∀ k, (Value.slice fa A.length fc).ownBlock = some k → w.heap.size + 4 ≤ k ∧ k < wr.heap.size) := fun k hk => OLT.out k hk
            refine wp_region_held_drew (S := fun w' => w'.cell? ⟨wr.heap.size, 1, none⟩ = some (.int .i64 (e : Int)) ∧ w'.cell? ⟨wr.heap.size, 2, none⟩ = some (.int .i64 (t : Int)) ∧ w'.cell? ⟨gk, t, none⟩ = some (.int .i64 (ct : Int))) (by kernel_rfl) ⟨NB.out.cell 1 rfl, NB.out.cell 2 rfl, Z0.out⟩ (fun hS => ?_)
            have HY := Hid.of (HF1.out.below (Below.refl _ V).drew)
            have NY := Hid.of (NB.out.below (Below.refl _ V).drew NB.out.lt)
            have ZY : Hid (V.drew.cell? ⟨gk, t, none⟩ = some (.int .i64 (ct : Int))) := Z0.out
            clear HF1 NB Z0
            revert hS HY NY ZY
            generalize V.drew = Y0
            intro hS HY NY ZY
            have SA : Hid (∀ W : World, W.heap[wr.heap.size]? = Y0.heap[wr.heap.size]? → W.heap[gk]? = Y0.heap[gk]? → W.cell? ⟨wr.heap.size, 1, none⟩ = some (.int .i64 (e : Int)) ∧ W.cell? ⟨wr.heap.size, 2, none⟩ = some (.int .i64 (t : Int)) ∧ W.cell? ⟨gk, t, none⟩ = some (.int .i64 (ct : Int))) := fun W h1 h2 => ⟨(World.cell?_of_block (w := Y0) h1).trans (NY.out.cell 1 rfl), (World.cell?_of_block (w := Y0) h1).trans (NY.out.cell 2 rfl), (World.cell?_of_block (w := Y0) h2).trans ZY.out⟩
            have hYB := HY.out.hB
            have hgkl := hgk.out
            have hwY := NY.out.lt
            have d3 : Y0.cell? ⟨w.heap.size + 3, 3, none⟩ = some (.slice fa A.length fc) := HY.out.nb.cell 3 rfl
            have d3a : ∀ o, (Y0.alloc o).cell? ⟨w.heap.size + 3, 3, none⟩ = some (.slice fa A.length fc) := fun o => (HY.out.nb.alloc o).cell 3 rfl
            refine wpAnyH_take (i := 0) (v := .pointer (some ⟨w.heap.size + 3, 3, none⟩)) rfl (by kernel_rfl) (by kernel_rfl) (by kernel_rfl) (fun _ _ _ h => h) (Or.inl ⟨by kernel_rfl, fun w' hw' => by obtain ⟨q0, q1, q2⟩ := hw'; go_simp⟩) hS ?_
            refine wpAnyH_take (i := 2) (v := .int .i64 K) rfl (by kernel_rfl) (by kernel_rfl) (by kernel_rfl) (fun _ _ _ h => h) (Or.inl ⟨by kernel_rfl, fun w' hw' => by obtain ⟨q0, q1, q2⟩ := hw'; go_simp⟩) hS ?_
            refine wpAnyH_take (i := 3) (v := .pointer (some ⟨wr.heap.size, 1, none⟩)) rfl (by kernel_rfl) (by kernel_rfl) (by kernel_rfl) (fun _ _ _ h => h) (Or.inl ⟨by kernel_rfl, fun w' hw' => by obtain ⟨q0, q1, q2⟩ := hw'; go_simp⟩) hS ?_
            refine wpAnyH_take (i := 4) (v := .int .i64 (e : Int)) rfl (by kernel_rfl) (by kernel_rfl) (by kernel_rfl) (fun _ _ _ h => h) (Or.inl ⟨by kernel_rfl, fun w' hw' => by obtain ⟨q0, q1, q2⟩ := hw'; go_simp⟩) hS ?_
            refine wpAnyH_take (i := 5) (v := .slice (some ⟨gk, 0, none⟩) N N) rfl (by kernel_rfl) (by kernel_rfl) (by kernel_rfl) (fun _ _ _ h => h) (Or.inl ⟨by kernel_rfl, fun w' hw' => by obtain ⟨q0, q1, q2⟩ := hw'; go_simp⟩) hS ?_
            refine wpAnyH_take (i := 6) (v := .pointer (some ⟨wr.heap.size, 2, none⟩)) rfl (by kernel_rfl) (by kernel_rfl) (by kernel_rfl) (fun _ _ _ h => h) (Or.inl ⟨by kernel_rfl, fun w' hw' => by obtain ⟨q0, q1, q2⟩ := hw'; go_simp⟩) hS ?_
            refine wpAnyH_take (i := 7) (v := .int .i64 (t : Int)) rfl (by kernel_rfl) (by kernel_rfl) (by kernel_rfl) (fun _ _ _ h => h) (Or.inl ⟨by kernel_rfl, fun w' hw' => by obtain ⟨q0, q1, q2⟩ := hw'; go_simp⟩) hS ?_
            refine wpAnyH_take (i := 8) (v := .pointer (some ⟨gk, t, none⟩)) rfl (by kernel_rfl) (by kernel_rfl) (by kernel_rfl) (fun _ _ _ h => h) (Or.inl ⟨by kernel_rfl, fun w' hw' => by obtain ⟨q0, q1, q2⟩ := hw'; go_simp⟩) hS ?_
            refine wpAnyH_take (i := 9) (v := .int .i64 (ct : Int)) rfl (by kernel_rfl) (by kernel_rfl) (by kernel_rfl) (fun _ _ _ h => h) (Or.inl ⟨by kernel_rfl, fun w' hw' => by obtain ⟨q0, q1, q2⟩ := hw'; go_simp⟩) hS ?_
            refine wpAnyH_take (i := 10) (v := .agg #[.int .i64 K, .int .i64 (e : Int), .int .i64 (ct : Int)]) rfl (by kernel_rfl) (by kernel_rfl) (by kernel_rfl) (fun _ _ _ h => h) (Or.inl ⟨by kernel_rfl, fun w' hw' => by obtain ⟨q0, q1, q2⟩ := hw'; go_simp⟩) hS ?_
            simp only [Act.put, List.setIfInBounds_toArray]
            refine wpAnyH_ready (rs := [1, 11]) (by kernel_rfl) (by simp) ?_
            refine AllReadyH.cons rfl (fun K' hK' => ?_) (AllReadyH.cons rfl (fun K' hK' => ?_) AllReadyH.nil)
            · go_simp
              refine hK'.out _ _ hS (fun hS1 => ?_)
              clear hK' K'
              refine wpAnyH_ready (rs := [11]) (by kernel_rfl) (by simp) ?_
              refine AllReadyH.cons rfl (fun K' hK' => ?_) AllReadyH.nil
              go_simp
              refine hK'.out _ _ (SA.out _ (Below.heap_alloc Y0 _ _ hwY) (Below.heap_alloc Y0 _ _ (by omega))) (fun hS2 => ?_)
              clear hK' K'
              refine wpAnyH_ready (rs := [12]) (by kernel_rfl) (by simp) ?_
              refine AllReadyH.cons rfl (fun K' hK' => ?_) AllReadyH.nil
              refine step_append_block rfl (.tmp 47) (.tmp 57) 23 rfl (w.heap.size + 4) 54 j0 (aval arr0) 3 24 Tryd.underlying23 ji jz0 jz1 jz2 rfl (by decide) _ A.length (aflat A) rfl (World.ownsRow.alloc HY.out.ar _) ⟨Y0.heap.size, 0, none⟩ 1 1 [.int .i64 K, .int .i64 (e : Int), .int .i64 (ct : Int)] rfl rfl (cells_three Y0 _ rfl _ _ _ _) (by intro u hu; simp at hu; rcases hu with rfl | rfl | rfl <;> rfl) (by decide) (by unfold maxLen; omega) (by omega) (Nat.le_trans hYB (by simp)) ?_
              intro v9 w9 o9 g9 n9
              obtain ⟨ga, gc, hv9, -, -, -⟩ := own_form2 o9
              subst hv9
              obtain ⟨e1, e2⟩ := HY.out.pushA ((Below.refl _ Y0).alloc (Nat.le_refl _) _) (own_arr (x := ⟨K, (e : Int), (ct : Int)⟩) o9) g9
              have z2 := e1.cell 3 rfl
              have zf := e1.frozen
              have E2 := Hid.of e2
              have hg1 : w9.heap[wr.heap.size]? = Y0.heap[wr.heap.size]? := (g9.block _ (by rw [World.size_alloc]; omega) (fun q => by have := HLT.out _ q.symm; omega)).trans (Below.heap_alloc Y0 _ _ hwY)
              have hg2 : w9.heap[gk]? = Y0.heap[gk]? := (g9.block _ (by rw [World.size_alloc]; omega) (fun q => by have := HLT.out _ q.symm; omega)).trans (Below.heap_alloc Y0 _ _ (by omega))
              refine hK'.out _ _ (SA.out _ hg1 hg2) (fun hS3 => ?_)
              clear hK' K' e1 e2 o9 g9 n9
              refine wpAnyH_take (i := 13) (v := .pointer (some ⟨w.heap.size + 3, 3, none⟩)) rfl (by kernel_rfl) (by kernel_rfl) (by kernel_rfl) (fun _ _ _ h => h) (Or.inl ⟨by kernel_rfl, fun w' hw' => by obtain ⟨q0, q1, q2⟩ := hw'; go_simp⟩) hS3 ?_
              simp only [Act.put, List.setIfInBounds_toArray]
              refine wpAnyH_ready (rs := [14]) (by kernel_rfl) (by simp) ?_
              refine AllReadyH.cons rfl (fun K' hK' => ?_) AllReadyH.nil
              go_simp
              refine hK'.out _ _ (SA.out _ ((Below.heap_setCell w9 ⟨w.heap.size + 3, 3, none⟩ _ _ (show wr.heap.size ≠ w.heap.size + 3 by omega)).trans hg1) ((Below.heap_setCell w9 ⟨w.heap.size + 3, 3, none⟩ _ _ (show gk ≠ w.heap.size + 3 by omega)).trans hg2)) (fun hS4 => ?_)
              clear hK' K' hS4 hS3
              refine wpAnyH_done (by kernel_rfl) ?_ _
              clear z2 zf hg1 hg2 SA d3 d3a HY NY ZY
              revert E2
              generalize w9.setCell ⟨w.heap.size + 3, 3, none⟩ (.slice ga (A.length + 1) gc) = Y1
              generalize Value.slice ga (A.length + 1) gc = va9
              intro E2
              go_wp2_with fail
              go_roundw
              case rel => exact ⟨e + 1, va9, by go_num, by omega, (by show FO _ _ _ _ _ _ _ _ _; rw [HNX.out]; exact E2.out)⟩
              case measure => simp [intOf]; omega
            · go_simp
              refine hK'.out _ _ (SA.out _ (Below.heap_alloc Y0 _ _ hwY) (Below.heap_alloc Y0 _ _ (by omega))) (fun hS2 => ?_)
              clear hK' K'
              refine wpAnyH_ready (rs := [1]) (by kernel_rfl) (by simp) ?_
              refine AllReadyH.cons rfl (fun K' hK' => ?_) AllReadyH.nil
              go_simp
              refine hK'.out _ _ hS2 (fun hS1 => ?_)
              clear hK' K'
              refine wpAnyH_ready (rs := [12]) (by kernel_rfl) (by simp) ?_
              refine AllReadyH.cons rfl (fun K' hK' => ?_) AllReadyH.nil
              refine step_append_block rfl (.tmp 47) (.tmp 57) 23 rfl (w.heap.size + 4) 54 j0 (aval arr0) 3 24 Tryd.underlying23 ji jz0 jz1 jz2 rfl (by decide) _ A.length (aflat A) rfl (World.ownsRow.alloc HY.out.ar _) ⟨Y0.heap.size, 0, none⟩ 1 1 [.int .i64 K, .int .i64 (e : Int), .int .i64 (ct : Int)] rfl rfl (cells_three Y0 _ rfl _ _ _ _) (by intro u hu; simp at hu; rcases hu with rfl | rfl | rfl <;> rfl) (by decide) (by unfold maxLen; omega) (by omega) (Nat.le_trans hYB (by simp)) ?_
              intro v9 w9 o9 g9 n9
              obtain ⟨ga, gc, hv9, -, -, -⟩ := own_form2 o9
              subst hv9
              obtain ⟨e1, e2⟩ := HY.out.pushA ((Below.refl _ Y0).alloc (Nat.le_refl _) _) (own_arr (x := ⟨K, (e : Int), (ct : Int)⟩) o9) g9
              have z2 := e1.cell 3 rfl
              have zf := e1.frozen
              have E2 := Hid.of e2
              have hg1 : w9.heap[wr.heap.size]? = Y0.heap[wr.heap.size]? := (g9.block _ (by rw [World.size_alloc]; omega) (fun q => by have := HLT.out _ q.symm; omega)).trans (Below.heap_alloc Y0 _ _ hwY)
              have hg2 : w9.heap[gk]? = Y0.heap[gk]? := (g9.block _ (by rw [World.size_alloc]; omega) (fun q => by have := HLT.out _ q.symm; omega)).trans (Below.heap_alloc Y0 _ _ (by omega))
              refine hK'.out _ _ (SA.out _ hg1 hg2) (fun hS3 => ?_)
              clear hK' K' e1 e2 o9 g9 n9
              refine wpAnyH_take (i := 13) (v := .pointer (some ⟨w.heap.size + 3, 3, none⟩)) rfl (by kernel_rfl) (by kernel_rfl) (by kernel_rfl) (fun _ _ _ h => h) (Or.inl ⟨by kernel_rfl, fun w' hw' => by obtain ⟨q0, q1, q2⟩ := hw'; go_simp⟩) hS3 ?_
              simp only [Act.put, List.setIfInBounds_toArray]
              refine wpAnyH_ready (rs := [14]) (by kernel_rfl) (by simp) ?_
              refine AllReadyH.cons rfl (fun K' hK' => ?_) AllReadyH.nil
              go_simp
              refine hK'.out _ _ (SA.out _ ((Below.heap_setCell w9 ⟨w.heap.size + 3, 3, none⟩ _ _ (show wr.heap.size ≠ w.heap.size + 3 by omega)).trans hg1) ((Below.heap_setCell w9 ⟨w.heap.size + 3, 3, none⟩ _ _ (show gk ≠ w.heap.size + 3 by omega)).trans hg2)) (fun hS4 => ?_)
              clear hK' K' hS4 hS3
              refine wpAnyH_done (by kernel_rfl) ?_ _
              clear z2 zf hg1 hg2 SA d3 d3a HY NY ZY
              revert E2
              generalize w9.setCell ⟨w.heap.size + 3, 3, none⟩ (.slice ga (A.length + 1) gc) = Y1
              generalize Value.slice ga (A.length + 1) gc = va9
              intro E2
              go_wp2_with fail
              go_roundw
              case rel => exact ⟨e + 1, va9, by go_num, by omega, (by show FO _ _ _ _ _ _ _ _ _; rw [HNX.out]; exact E2.out)⟩
              case measure => simp [intOf]; omega
          · have e2 : e = ev := by omega
            subst e2
            rw [← HE1.out] at HF
            have x4 : wr.cell? ⟨w.heap.size, 4, none⟩ = some (.slice a3 ends.length c3) := HF.out.kb.cell 4 rfl
            have hml := h.out.below HF.out.low (Nat.le_refl _)
            have KEY := Hid.of (rowHas_any a3 c3 ends (n : Int) wr hml.e (Nat.le_trans hml.e1 hml.e2))
            clear hml
            go_wp2_with fail
            refine KEY.out.mono ?_
            rintro r w1 ⟨rfl, rfl⟩
            clear KEY x4
            cases hh : hasB ends (n : Int) with
            | false =>
              have HEN : Hid (endF ends c (n + 1) = endF ends c n) := by show _ = _; rw [HE3.out, hh]; simp
              clear hh
              go_wp2_with fail
              go_roundw
              case rel => exact ⟨n + 1, K + 1, va, ve, by go_num, by omega, (by show K + 1 = _; rw [HE2.out, HK.out]; rfl), (by show FO _ _ _ _ _ _ _ _ _; rw [HEN.out]; exact HF.out)⟩
              case measure => simp [intOf]; omega
            | true =>
              have HEN : Hid (endF ends c (n + 1) = endF ends c n ++ [K]) := by show _ = _; rw [HE3.out, hh, if_pos rfl, HKC.out]
              clear hh
              obtain ⟨fa, fc, hfa, -, -, -⟩ := own_form2 HF.out.en
              subst hfa
              have d4 : w1.cell? ⟨w.heap.size + 3, 4, none⟩ = some (.slice fa (endF ends c n).length fc) := HF.out.nb.cell 4 rfl
              have hbB := HF.out.hB
              have hel := hEL.out
              go_wp2_with (at_builtin; refine wpList_append_block _ rfl (.tmp 66) (.tmp 68) 22 rfl (w.heap.size + 4) 3 i0 (.int .i64 0) 1 8 Tryd.underlying22 hi hz0 hz1 hz2 rfl (by decide) _ _ _ rfl (World.ownsRow.alloc HF.out.en _) ⟨w1.heap.size, 0, none⟩ 1 1 [.int .i64 K] rfl rfl (cell_one_new _ _ _) (by intro u hu; simp at hu; subst hu; rfl) (by decide) (by unfold maxLen; omega) (by omega) (by simp; omega) ?_)
              intro v9 w9 o9 g9 n9
              obtain ⟨ga, gc, hv9, -, -, -⟩ := own_form2 o9
              subst hv9
              obtain ⟨e1, e2⟩ := HF.out.pushE (t := K) ((Below.refl _ w1).alloc (Nat.le_refl _) _) (by unfold Own; rw [List.length_append, List.map_append]; exact o9) g9
              have z2 := e1.cell 4 rfl
              have zf := e1.frozen
              have E2 := Hid.of e2
              clear e1 e2 o9 g9 n9 d4 HF
              go_wp2_with fail
              go_roundw
              case rel => exact ⟨n + 1, K + 1, va, _, by go_num, by omega, (by show K + 1 = _; rw [HE2.out, HK.out]; rfl), (by show FO _ _ _ _ _ _ _ _ _; rw [HEN.out]; exact E2.out)⟩
              case measure => simp [intOf]; omega
      · have hKc : ¬ ((c n : Nat) : Int) = K := by rw [HK.out]; omega
        have hbe : (((c n : Nat) : Int) != K) = true := by simp [hKc]
        have hbe2 : (((c n : Nat) : Int) == K) = false := by simp [hKc]
        obtain ⟨e1, e2, e3⟩ := fold_old (D := ars) (E := ends) (ev := ev) hnew
        have HE1 := Hid.of e1
        have HE2 := Hid.of e2
        have HE3 := Hid.of e3
        clear hnew e1 e2 e3
        go_wp2_with fail
        go_roundw
        case rel => exact ⟨n + 1, K, va, ve, by go_num, by omega, (by show K = _; rw [HE3.out]; exact HK.out), (by show FO _ _ _ _ _ _ _ _ _; rw [HE1.out, HE2.out]; exact HF.out)⟩
        case measure => simp [intOf]; omega
    · have e2 : n = N := by omega
      subst e2
      obtain ⟨aa, ac, hva, -, -, -⟩ := own_form2 HF.out.ar
      obtain ⟨ea, ec, hve, -, -, -⟩ := own_form2 HF.out.en
      subst hva
      subst hve
      obtain ⟨p1, p2⟩ := HF.out.mat
      have HP1 := Hid.of p1
      have HP2 := Hid.of p2
      clear p1 p2
      have o0 : wr.cell? ⟨w.heap.size + 3, 0, none⟩ = some (.int .i64 K) := HF.out.nb.cell 0 rfl
      have o1 : wr.cell? ⟨w.heap.size + 3, 1, none⟩ = some (.int .i64 ev) := HF.out.nb.cell 1 rfl
      have o2 : wr.cell? ⟨w.heap.size + 3, 2, none⟩ = some (.slice (some ⟨w.heap.size + 2, 0, none⟩) 1 1) := HF.out.nb.cell 2 rfl
      have o3 : wr.cell? ⟨w.heap.size + 3, 3, none⟩ = some (.slice aa (arrF ars c ev n).length ac) := HF.out.nb.cell 3 rfl
      have o4 : wr.cell? ⟨w.heap.size + 3, 4, none⟩ = some (.slice ea (endF ends c n).length ec) := HF.out.nb.cell 4 rfl
      obtain ⟨r0, r1, r2, r3, r4⟩ := zcell_at HF.out.zb
      have rz := HF.out.zb.frozen
      have R1 := Hid.of (HF.out.zb.set5 (.int .i64 K) (.int .i64 ev) (.slice (some ⟨w.heap.size + 2, 0, none⟩) 1 1) (.slice aa (arrF ars c ev n).length ac) (.slice ea (endF ends c n).length ec))
      have B1 := Hid.of (below_set5 HF.out.low (b' := w.heap.size + 1) (by omega) (.int .i64 K) (.int .i64 ev) (.slice (some ⟨w.heap.size + 2, 0, none⟩) 1 1) (.slice aa (arrF ars c ev n).length ac) (.slice ea (endF ends c n).length ec))
      have M1 := Hid.of (HP1.out.set5 HP2.out (b := w.heap.size + 1) (by omega) (.int .i64 K) (.int .i64 ev) (.slice (some ⟨w.heap.size + 2, 0, none⟩) 1 1) (.slice aa (arrF ars c ev n).length ac) (.slice ea (endF ends c n).length ec))
      go_wp2_with fail
      refine bodyPost_ret (v := mval ⟨K, (ev : Int), [0], arrF ars c ev n, endF ends c n⟩ ⟨some ⟨w.heap.size + 2, 0, none⟩, 1, aa, ac, ea, ec⟩) ?_ rfl ?_
      · exact results_cell_row (g := w.heap.size + 1) (p := 4) rfl _ _ _ _ _ _ rfl R1.out Tryd.underlying25 rfl (by kernel_rfl)
      · unfold FoldPost
        rw [← HK.out]
        exact ⟨_, rfl, M1.out, ⟨fr_mono HP2.out.s (by omega), fr_mono HP2.out.a (by omega), fr_mono HP2.out.e (by omega)⟩, B1.out⟩

end Go.Proofs.YtkkkacmccndinaaDoor
namespace Go.Proofs.YtkkkacmccndinaaDoor
open Go.RowKit
set_option linter.unusedVariables false

/-- A set's row as an inner slice. -/
theorem innB_own {w : World} {B : Nat} {v : Value} {xs : List Int} (h : Own w B v xs) : InnB w v xs := by
  rcases h.2 with ⟨rfl, hn⟩ | ⟨g, cap, cur, rfl, hg, hh, hnc, hcm, hcs, ht⟩
  · have : xs = [] := List.eq_nil_of_length_eq_zero hn
    subst this
    exact ⟨none, 0, rfl, Nat.le_refl _, Nat.zero_le _, .inl rfl⟩
  · refine ⟨_, cap, rfl, hnc, hcm, .inr ⟨g, 0, cur, rfl, hh, fun j hj => ?_⟩⟩
    have := h.cells (g := g) rfl j (.int .i64 (xs.getD j 0)) (by rw [List.getElem?_map, List.getElem?_eq_getElem hj]; simp [List.getElem?_eq_getElem hj])
    rw [addr0_add] at this
    simpa [World.cell?, hh] using this

/-- The numbers of those sets that meet another one. -/
def meetFrom (T : Nat → Nat) : Nat → List (Nat → Nat) → List Int
  | _, [] => []
  | k, S :: r => if meetB S T = true then (k : Int) :: meetFrom T (k + 1) r else meetFrom T (k + 1) r
theorem meetFrom_snoc (T : Nat → Nat) : ∀ (L : List (Nat → Nat)) (k : Nat) (S : Nat → Nat), meetFrom T k (L ++ [S]) = meetFrom T k L ++ (if meetB S T = true then [((k + L.length : Nat) : Int)] else [])
  | [], k, S => by simp only [List.nil_append, meetFrom, List.length_nil, Nat.add_zero]
  | R :: r, k, S => by
    rw [List.cons_append]
    unfold meetFrom
    rw [meetFrom_snoc T r (k + 1) S, List.length_cons, show k + 1 + r.length = k + (r.length + 1) by omega]
    by_cases h : meetB R T = true
    · rw [if_pos h, if_pos h, List.cons_append]
    · rw [if_neg h, if_neg h]
theorem meetFrom_len (T : Nat → Nat) : ∀ (k : Nat) (L : List (Nat → Nat)), (meetFrom T k L).length ≤ L.length
  | _, [] => Nat.le_refl _
  | k, a :: r => by
    have := meetFrom_len T (k + 1) r
    unfold meetFrom; split <;> simp <;> omega
theorem meet_take {T : Nat → Nat} {L : List (Nat → Nat)} {k : Nat} {S : Nat → Nat} (h : L[k]? = some S) : meetFrom T 0 (L.take (k + 1)) = if meetB S T = true then meetFrom T 0 (L.take k) ++ [(k : Int)] else meetFrom T 0 (L.take k) := by
  have hk := (List.getElem?_eq_some_iff.1 h).1
  have e : L.take (k + 1) = L.take k ++ [S] := by rw [List.take_add_one, h]; rfl
  rw [e, meetFrom_snoc, List.length_take, Nat.min_eq_left (by omega), Nat.zero_add]
  split
  · rfl
  · rw [List.append_nil]
theorem meet_ends {T : Nat → Nat} {ends : List Int} (hT : Rep T ends) : ∀ {SL : List (Nat → Nat)} {L : List (List Int)} (k : Nat), RepL SL L → meetFrom T k SL = endsFrom ends k L
  | [], L, k, h => by
    have : L = [] := List.eq_nil_of_length_eq_zero h.len.symm
    subst this; rfl
  | S :: r, [], k, h => by have := h.len; simp at this
  | S :: r, l :: q, k, h => by
    obtain ⟨l', h1, h2, h3⟩ := h.rep 0 S rfl
    have e : l = l' := by simpa using h1
    subst e
    have hr : RepL r q := ⟨by have := h.len; simpa using this, fun j T' hj => by
      have := h.rep (j + 1) T' (by simpa using hj)
      simpa using this⟩
    unfold meetFrom endsFrom
    rw [meet_ends hT (k + 1) hr, meet_iff h2 hT]
    simp only [decide_eq_true_eq]

set_option maxRecDepth 100000 in
set_option maxHeartbeats 4000000 in
theorem meeting_any (B : Nat) (v : Value) (SL : List (Nat → Nat)) (T : Nat → Nat) (w : World) (hS : Hid (OwnS w B v SL)) (hl : SL.length ≤ 256) (hok : Hid (∀ S ∈ SL, okS S)) (hT : Hid (okS T)) :
    Calls Tryd.prog 65 #[v, sval T] w fun e w' => GivesO w (meetFrom T 0 SL) e w' := by
  obtain ⟨j0, ji, jz0, jz1, jz2⟩ := info_parts Tryd.infoInt
  obtain ⟨va, vc, hv, -, -, -⟩ := own_form2 hS.out
  subst hv
  have b0 : Hid (SB (w.alloc (.cells (scells T) 58)) w.heap.size T) := Blk.new w _ _
  have bel0 : Hid (Below w.heap.size w (w.alloc (.cells (scells T) 58))) := (Below.refl _ _).alloc (Nat.le_refl _) _
  have sz0 : Hid ((w.alloc (.cells (scells T) 58)).heap.size = w.heap.size + 1) := World.size_alloc _ _
  go_enter Tryd.func65, Tryd.ntmps65
  go_wp2
  revert b0 bel0 sz0
  generalize w.alloc (.cells (scells T) 58) = V
  intro b0 bel0 sz0
  go_loopw [5, 10] (fun v5 i wr => ∃ k : Nat, k ≤ SL.length ∧ i = .int .i64 k ∧ Hid (Own wr (w.heap.size + 1) v5 (meetFrom T 0 (SL.take k))) ∧ Hid (Below (w.heap.size + 1) V wr)) (fun _ i _ => SL.length - (intOf i).toNat)
  case atStart => exact ⟨0, Nat.zero_le _, rfl, own_nil _ _, Below.refl _ _⟩
  case round =>
    obtain ⟨k, hk, rfl, HO, HB⟩ := hrel
    have hbw : Hid (Below w.heap.size w wr) := bel0.out.trans (HB.out.mono (Nat.le_succ _))
    have hB1 : w.heap.size + 1 ≤ wr.heap.size := by have := HB.out.size; rw [sz0.out] at this; exact this
    by_cases hlt : k < SL.length
    · obtain ⟨S, HSk⟩ : ∃ S, Hid (SL[k]? = some S) := ⟨_, List.getElem?_eq_getElem hlt⟩
      obtain ⟨g, cap, hvg, hg1, hg2, c0, c1, c2, c3⟩ := hS.out.cell HSk.out
      cases hvg
      have d0 := (hbw.out.cell (p := ⟨g, k * 4, none⟩) hg2).trans c0
      have d1 := (hbw.out.cell (p := ⟨g, k * 4 + 1, none⟩) hg2).trans c1
      have d2 := (hbw.out.cell (p := ⟨g, k * 4 + 2, none⟩) hg2).trans c2
      have d3 := (hbw.out.cell (p := ⟨g, k * 4 + 3, none⟩) hg2).trans c3
      clear c0 c1 c2 c3
      have BT : Hid (SB wr w.heap.size T) := b0.out.below HB.out (Nat.lt_succ_self _)
      have NB1 : Hid (SB (wr.alloc (.cells (scells S) 58)) wr.heap.size S) := Blk.new wr _ _
      obtain ⟨n0, n1, n2, n3⟩ := SB.cells NB1.out
      obtain ⟨t0, t1, t2, t3⟩ := SB.cells (Blk.alloc BT.out (.cells (scells S) 58))
      have okS' := hok.out S (List.mem_of_getElem? HSk.out)
      have HTK := Hid.of (meet_take (T := T) HSk.out)
      have hml : (meetFrom T 0 (SL.take k)).length ≤ 256 := Nat.le_trans (meetFrom_len _ _ _) (by rw [List.length_take]; omega)
      go_wp2_with fail
      refine (meets_any S T _ okS' hT.out).mono ?_
      rintro e w1 ⟨rfl, hb1⟩
      have HO1 : Hid (Own w1 (w.heap.size + 1) u5 (meetFrom T 0 (SL.take k))) := own_same (own_same HO.out (fun j hj => Below.heap_alloc wr _ j (World.ownsRow.lt HO.out j hj).2)) (fun j hj => hb1.block j (by rw [World.size_alloc]; exact Nat.lt_succ_of_lt (World.ownsRow.lt HO.out j hj).2))
      have HB1 : Hid (Below (w.heap.size + 1) V w1) := (HB.out.alloc (by omega) _).trans (hb1.mono (by rw [World.size_alloc]; omega))
      have hz1 : w.heap.size + 1 ≤ w1.heap.size := by have := hb1.size; rw [World.size_alloc] at this; omega
      clear hb1 n0 n1 n2 n3 t0 t1 t2 t3 NB1 BT HO HB d0 d1 d2 d3 hbw
      cases hmt : meetB S T with
      | true =>
        rw [hmt, if_pos rfl] at HTK
        obtain ⟨fa, fc, hfa, -, -, -⟩ := own_form2 HO1.out
        subst hfa
        generalize meetFrom T 0 (SL.take k) = R at *
        go_wp2_with (at_builtin; refine wpList_append_block _ rfl (.tmp 18) (.tmp 20) 22 rfl (w.heap.size + 1) 3 j0 (.int .i64 0) 1 8 Tryd.underlying22 ji jz0 jz1 jz2 rfl (by decide) _ _ _ rfl (World.ownsRow.alloc HO1.out _) ⟨w1.heap.size, 0, none⟩ 1 1 [.int .i64 (k : Int)] rfl rfl (cell_one_new _ _ _) (by intro u hu; simp at hu; subst hu; rfl) (by decide) (by unfold maxLen; omega) (by omega) (by simp; omega) ?_)
        intro v9 w9 o9 g9 n9
        obtain ⟨q1, q2, q3⟩ := own_snoc HO1.out HB1.out hz1 o9 g9
        have Q1 := Hid.of q1
        have Q2 := Hid.of q2
        clear q1 q2 q3 o9 g9 n9 hmt
        go_wp2_with fail
        go_roundw
        case rel => exact ⟨k + 1, by omega, by go_num, (by show Own _ _ _ _; rw [HTK.out]; exact Q1.out), Q2⟩
        case measure => simp [intOf]; omega
      | false =>
        rw [hmt, if_neg (by simp)] at HTK
        clear hmt
        go_wp2_with fail
        go_roundw
        case rel => exact ⟨k + 1, by omega, by go_num, (by show Own _ _ _ _; rw [HTK.out]; exact HO1.out), HB1⟩
        case measure => simp [intOf]; omega
    · rw [List.take_of_length_le (by omega)] at HO
      go_wp2
      go_ret
      exact ⟨_, rfl, HO.out.low (Nat.le_succ _), hbw.out⟩

set_option maxRecDepth 100000 in
set_option maxHeartbeats 4000000 in
theorem rowsS_any (B : Nat) (v : Value) (SL : List (Nat → Nat)) (w : World) (hS : Hid (OwnS w B v SL)) (hl : SL.length ≤ 256) (hok : Hid (∀ S ∈ SL, okS S)) (hT : Hid (Tab w)) :
    Calls Tryd.prog 66 #[v] w fun e w' => ∃ v', e = .returned v' ∧ Own2 w' w.heap.size v' (SL.map rowS) ∧ Below w.heap.size w w' := by
  obtain ⟨i1, hi, hz0, hz1, hz2⟩ := info_parts Tryd.infoInts
  obtain ⟨va, vc, hv, -, -, -⟩ := own_form2 hS.out
  subst hv
  go_enter Tryd.func66, Tryd.ntmps66
  go_wp2
  go_loopw [3, 8] (fun v3 i wr => ∃ k : Nat, k ≤ SL.length ∧ i = .int .i64 k ∧ Hid (Own2 wr w.heap.size v3 ((SL.take k).map rowS)) ∧ Hid (Below w.heap.size w wr)) (fun _ i _ => SL.length - (intOf i).toNat)
  case atStart => exact ⟨0, Nat.zero_le _, rfl, own2_nil _ _, Below.refl _ _⟩
  case round =>
    obtain ⟨k, hk, rfl, HO, HB⟩ := hrel
    by_cases hlt : k < SL.length
    · obtain ⟨S, HSk⟩ : ∃ S, Hid (SL[k]? = some S) := ⟨_, List.getElem?_eq_getElem hlt⟩
      obtain ⟨g, cap, hvg, hg1, hg2, c0, c1, c2, c3⟩ := hS.out.cell HSk.out
      cases hvg
      have d0 := (HB.out.cell (p := ⟨g, k * 4, none⟩) hg2).trans c0
      have d1 := (HB.out.cell (p := ⟨g, k * 4 + 1, none⟩) hg2).trans c1
      have d2 := (HB.out.cell (p := ⟨g, k * 4 + 2, none⟩) hg2).trans c2
      have d3 := (HB.out.cell (p := ⟨g, k * 4 + 3, none⟩) hg2).trans c3
      clear c0 c1 c2 c3
      have NB1 : Hid (SB (wr.alloc (.cells (scells S) 58)) wr.heap.size S) := Blk.new wr _ _
      obtain ⟨n0, n1, n2, n3⟩ := SB.cells NB1.out
      have okS' := hok.out S (List.mem_of_getElem? HSk.out)
      have HTK : Hid ((SL.take (k + 1)).map rowS = (SL.take k).map rowS ++ [rowS S]) := by
        show _ = _
        rw [List.take_add_one, HSk.out, List.map_append]; rfl
      have hml : ((SL.take k).map rowS).length ≤ 256 := by rw [List.length_map, List.length_take]; omega
      have hTr : Tab (wr.alloc (.cells (scells S) 58)) := hT.out.below (HB.out.alloc HB.out.size _) hT.out.lt
      have hbz := HB.out.size
      go_wp2_with fail
      refine (rowO_any S _ okS' hTr).mono ?_
      rintro e w1 ⟨v1, rfl, o1, hb1⟩
      obtain ⟨s1, q1, rfl, -, -, -, -⟩ := o1.at2
      have HI1 := Hid.of (innB_own o1)
      have HO1 : Hid (Own2 w1 w.heap.size u3 ((SL.take k).map rowS)) := (HO.out.alloc _).below hb1
      have HB1 : Hid (Below w.heap.size w w1) := (HB.out.alloc HB.out.size _).trans (hb1.mono (by rw [World.size_alloc]; omega))
      have hz1' := HB1.out.size
      clear hb1 n0 n1 n2 n3 NB1 HO HB d0 d1 d2 d3 o1 hTr
      generalize (SL.take k).map rowS = R at *
      obtain ⟨vs, ho, hin⟩ := HO1.out
      have HO2 := Hid.of ho
      have HIN := Hid.of hin
      clear ho hin
      obtain ⟨fa, fc, hfa, -, -, -⟩ := own_form2 HO2.out
      subst hfa
      go_wp2_with (at_builtin; refine wpList_append_block _ rfl (.tmp 12) (.tmp 15) 43 rfl w.heap.size 22 i1 (.slice none 0 0) 1 24 Tryd.underlying43 hi hz0 hz1 hz2 rfl (by decide) _ _ _ rfl (World.ownsRow.alloc HO2.out _) ⟨w1.heap.size, 0, none⟩ 1 1 [.slice s1 (rowS S).length q1] rfl rfl (cell_one_new _ _ _) (by intro u hu; simp at hu; subst hu; rfl) (by decide) (by unfold maxLen; omega) (by omega) (by simp; omega) ?_)
      intro v9 w9 o9 g9 n9
      have Q1 : Hid (Own2 w9 w.heap.size v9 (R ++ [rowS S])) := Own2.snoc (World.ownsRow.alloc HO2.out _) (fun j x xs h1 h2 => (HIN.out j x xs h1 h2).below ((Below.refl _ _).alloc (Nat.le_refl _) _)) (HI1.out.below ((Below.refl _ _).alloc (Nat.le_refl _) _)) o9 g9
      have Q2 : Hid (Below w.heap.size w w9) := (HB1.out.alloc HB1.out.size _).grown g9 (by simp; omega) (fun j hj => (World.ownsRow.lt HO2.out j hj).1)
      clear o9 g9 n9 HO2 HIN HI1 HO1
      go_wp2_with fail
      go_roundw
      case rel => exact ⟨k + 1, by omega, by go_num, (by show Own2 _ _ _ _; rw [HTK.out]; exact Q1.out), Q2⟩
      case measure => simp [intOf]; omega
    · rw [List.take_of_length_le (by omega)] at HO
      go_wp2
      go_ret
      exact ⟨_, rfl, HO.out, HB.out⟩

end Go.Proofs.YtkkkacmccndinaaDoor
namespace Go.Proofs.YtkkkacmccndinaaDoor
open Go.RowKit
set_option linter.unusedVariables false

/-- What Make answers. -/
def detOut (m : Mach) : Mach × List (List Int) × Int :=
  if mayB m = false then (m0, [], 2) else match detS m with
    | none => (m0, [], 1)
    | some s => (detM m s, s.sets, 0)
/-- What Make leaves. -/
def MakePost (w : World) (m : Mach) (e : Ending) (w' : World) : Prop := ∃ L va vc, e = .returned (.tuple #[mval (detOut m).1 L, .slice va (detOut m).2.1.length vc, .int .i64 (detOut m).2.2]) ∧ MAt w' (detOut m).1 L ∧ At2 w' va (detOut m).2.1 ∧ (detOut m).2.1.length ≤ 256 ∧ Below w.heap.size w w'
theorem makePost_err {w w' : World} {m : Mach} {c : Int} (h : detOut m = (m0, [], c)) (hb : Below w.heap.size w w') : MakePost w m (.returned (.tuple #[mval m0 ml0, .slice none 0 0, .int .i64 c])) w' := by
  unfold MakePost
  rw [h]
  exact ⟨ml0, none, 0, rfl, mat0 _, .inl rfl, Nat.zero_le _, hb⟩
theorem detOut_bad {m : Mach} (h : mayB m = false) : detOut m = (m0, [], 2) := by unfold detOut; rw [if_pos h]
theorem detOut_none {m : Mach} (h : mayB m = true) (hd : detS m = none) : detOut m = (m0, [], 1) := by unfold detOut; rw [if_neg (by rw [h]; simp), hd]
theorem detOut_some {m : Mach} {s : DS} (h : mayB m = true) (hd : detS m = some s) : detOut m = (detM m s, s.sets, 0) := by unfold detOut; rw [if_neg (by rw [h]; simp), hd]

theorem InnB.setM {W : World} {b j : Nat} {v : Value} {xs : List Int} {cs : Array Value} (h : InnB W v xs) (hb : Blk W b 25 cs) (x : Value) : InnB (W.setCell ⟨b, j, none⟩ x) v xs :=
  h.kept fun g cs' hg => Below.heap_setCell W ⟨b, j, none⟩ x g (fun e => by
    have hb' : W.heap[b]? = some (.cells cs 25 (0, 0)) := hb
    have e' : g = b := e
    rw [e', hb'] at hg
    cases hg)
theorem Own2.setM {W : World} {B b j : Nat} {v : Value} {LL : List (List Int)} {cs : Array Value} (h : Own2 W B v LL) (hb : Blk W b 25 cs) (hB : b < B) (x : Value) : Own2 (W.setCell ⟨b, j, none⟩ x) B v LL := by
  obtain ⟨vs, ho, hi⟩ := h
  exact ⟨vs, ownsRow_set ho hB x, fun k y ys h1 h2 => (hi k y ys h1 h2).setM hb x⟩

theorem dleaf {w X : World} {M : Mach} {L : ML} {vr : Value} {LL : List (List Int)} (hb : Below w.heap.size w X) (hr : Blk X (w.heap.size + 1) 25 zcells) (hM : MAt X M L) (hF : FrM (w.heap.size + 2) M L) (hO : Own2 X (w.heap.size + 2) vr LL) :
    Blk (((((X.setCell ⟨w.heap.size + 1, 0, none⟩ (.int .i64 M.st)).setCell ⟨w.heap.size + 1, 1, none⟩ (.int .i64 M.ev)).setCell ⟨w.heap.size + 1, 2, none⟩ (.slice L.a1 M.starts.length L.c1)).setCell ⟨w.heap.size + 1, 3, none⟩ (.slice L.a2 M.arrows.length L.c2)).setCell ⟨w.heap.size + 1, 4, none⟩ (.slice L.a3 M.ends.length L.c3)) (w.heap.size + 1) 25 (mcells M L)
    ∧ MAt (((((X.setCell ⟨w.heap.size + 1, 0, none⟩ (.int .i64 M.st)).setCell ⟨w.heap.size + 1, 1, none⟩ (.int .i64 M.ev)).setCell ⟨w.heap.size + 1, 2, none⟩ (.slice L.a1 M.starts.length L.c1)).setCell ⟨w.heap.size + 1, 3, none⟩ (.slice L.a2 M.arrows.length L.c2)).setCell ⟨w.heap.size + 1, 4, none⟩ (.slice L.a3 M.ends.length L.c3)) M L
    ∧ Own2 (((((X.setCell ⟨w.heap.size + 1, 0, none⟩ (.int .i64 M.st)).setCell ⟨w.heap.size + 1, 1, none⟩ (.int .i64 M.ev)).setCell ⟨w.heap.size + 1, 2, none⟩ (.slice L.a1 M.starts.length L.c1)).setCell ⟨w.heap.size + 1, 3, none⟩ (.slice L.a2 M.arrows.length L.c2)).setCell ⟨w.heap.size + 1, 4, none⟩ (.slice L.a3 M.ends.length L.c3)) (w.heap.size + 2) vr LL
    ∧ Below w.heap.size w (((((X.setCell ⟨w.heap.size + 1, 0, none⟩ (.int .i64 M.st)).setCell ⟨w.heap.size + 1, 1, none⟩ (.int .i64 M.ev)).setCell ⟨w.heap.size + 1, 2, none⟩ (.slice L.a1 M.starts.length L.c1)).setCell ⟨w.heap.size + 1, 3, none⟩ (.slice L.a2 M.arrows.length L.c2)).setCell ⟨w.heap.size + 1, 4, none⟩ (.slice L.a3 M.ends.length L.c3)) := by
  refine ⟨hr.set5 _ _ _ _ _, hM.set5 hF (by omega) _ _ _ _ _, ?_, below_set5 hb (b' := w.heap.size + 1) (by omega) _ _ _ _ _⟩
  have o1 := hO.setM (j := 0) hr (by omega) (.int .i64 M.st)
  have r1 := hr.set 0 (.int .i64 M.st)
  have o2 := o1.setM (j := 1) r1 (by omega) (.int .i64 M.ev)
  have r2 := r1.set 1 (.int .i64 M.ev)
  have o3 := o2.setM (j := 2) r2 (by omega) (.slice L.a1 M.starts.length L.c1)
  have r3 := r2.set 2 (.slice L.a1 M.starts.length L.c1)
  have o4 := o3.setM (j := 3) r3 (by omega) (.slice L.a2 M.arrows.length L.c2)
  have r4 := r3.set 3 (.slice L.a2 M.arrows.length L.c2)
  exact o4.setM (j := 4) r4 (by omega) (.slice L.a3 M.ends.length L.c3)

/-- What Make knows behind find. -/
structure DB (w X : World) (m : Mach) (l : ML) (vs va : Value) (SL : List (Nat → Nat)) (A : List Arr) : Prop where
  bel : Below w.heap.size w X
  kb : Blk X w.heap.size 25 (mcells m l)
  rb : Blk X (w.heap.size + 1) 25 zcells
  ss : OwnS X (w.heap.size + 2) vs SL
  ar : OwnA X (w.heap.size + 2) va A
  tab : Tab X
theorem DB.below {w X X' : World} {m : Mach} {l : ML} {vs va : Value} {SL : List (Nat → Nat)} {A : List Arr} (h : DB w X m l vs va SL A) (hb : Below X.heap.size X X') : DB w X' m l vs va SL A :=
  ⟨h.bel.trans (hb.mono h.bel.size), h.kb.below hb h.kb.lt, h.rb.below hb h.rb.lt, own_same h.ss (fun k hk => hb.block k (World.ownsRow.lt h.ss k hk).2), h.ar.kept hb (Nat.le_refl _), h.tab.below hb h.tab.lt⟩
theorem DB.cells {w X : World} {m : Mach} {l : ML} {vs va : Value} {SL : List (Nat → Nat)} {A : List Arr} (h : DB w X m l vs va SL A) : X.cell? ⟨w.heap.size, 1, none⟩ = some (.int .i64 m.ev) ∧ X.cell? ⟨w.heap.size, 4, none⟩ = some (.slice l.a3 m.ends.length l.c3) := ⟨h.kb.cell 1 rfl, h.kb.cell 4 rfl⟩
theorem ownsRow_low {W : World} {B B' s n : Nat} {e : TypeId} {v : Value} {xs : List Value} (h : W.ownsRow B e s v n xs) (hB : B' ≤ B) : W.ownsRow B' e s v n xs := by
  refine ⟨h.1, ?_⟩
  rcases h.2 with hn | ⟨g, cap, cur, rfl, hg, rest⟩
  · exact .inl hn
  · exact .inr ⟨g, cap, cur, rfl, Nat.le_trans hB hg, rest⟩
theorem Own2.low {W : World} {B B' : Nat} {v : Value} {LL : List (List Int)} (h : Own2 W B v LL) (hB : B' ≤ B) : Own2 W B' v LL := by
  obtain ⟨vs, ho, hi⟩ := h
  exact ⟨vs, ownsRow_low ho hB, hi⟩

end Go.Proofs.YtkkkacmccndinaaDoor
