/-
  The keeper as it is laid; the table of what is come to unseen.
-/
import Derived.Test.YtmlkpdeidpcidaaDoorJ39
import Derived.Test.YtmlkpdeidpcidaaDoorJ14
namespace Go.Proofs.YtmlkpdeidpcidaaDoor
open Go.RowKit
set_option linter.unusedVariables false

/-- The keeper as it is laid. -/
abbrev zcV (Z : Array Value) (p : Plant) (P : PTL) (fa : Option Addr) (fc : Nat) (free : List Int) (R : Nat → Nat) (mb : Nat) : Array Value := (((((((((((((Z.setIfInBounds 0 (.int .i64 p.m.st)).setIfInBounds 1 (.int .i64 p.m.ev)).setIfInBounds 2 (.slice P.l.a1 p.m.starts.length P.l.c1)).setIfInBounds 3 (.slice P.l.a2 p.m.arrows.length P.l.c2)).setIfInBounds 4 (.slice P.l.a3 p.m.ends.length P.l.c3)).setIfInBounds 5 (.slice P.sa p.seen.length P.sc)).setIfInBounds 6 (.slice P.ta p.secret.length P.tc)).setIfInBounds 7 (.slice fa free.length fc)).setIfInBounds 8 (.int .u64 (R 0))).setIfInBounds 9 (.int .u64 (R 1))).setIfInBounds 10 (.int .u64 (R 2))).setIfInBounds 11 (.int .u64 (R 3))).setIfInBounds 204 (.map (some mb)))
theorem zcV_zero : ∃ A B C, Tryd.zeroCells167 = (A : Array Value) ++ Array.replicate 192 (Value.int .u64 0) ++ #[C] ∧ A.size = 12 ∧ B = (0 : Nat) := ⟨Tryd.zeroCells167.take 12, 0, .map none, by kernel_rfl, by kernel_rfl, rfl⟩
theorem zcV_at {Z : Array Value} (hs : Z.size = 205) (p : Plant) (P : PTL) (fa : Option Addr) (fc : Nat) (free : List Int) (R : Nat → Nat) (mb : Nat) {q : Nat} (h1 : 12 ≤ q) (h2 : q < 204) : (zcV Z p P fa fc free R mb)[q]? = Z[q]? := by
  simp only [Array.getElem?_setIfInBounds]
  rw [if_neg (by omega), if_neg (by omega), if_neg (by omega), if_neg (by omega), if_neg (by omega), if_neg (by omega), if_neg (by omega), if_neg (by omega), if_neg (by omega), if_neg (by omega), if_neg (by omega), if_neg (by omega), if_neg (by omega)]
theorem zcV_kv (W : World) (p : Plant) (P : PTL) (fa : Option Addr) (fc : Nat) (free : List Int) (R : Nat → Nat) (mb : Nat) : KV (W.alloc (.cells (zcV Tryd.zeroCells167 p P fa fc free R mb) 167)) W.heap.size p P fa fc free R (fun _ => zeroS) mb := by
  obtain ⟨A, B, C, hz, hA, -⟩ := zcV_zero
  have hs : Tryd.zeroCells167.size = 205 := by rw [hz]; simp [hA]
  have hq : ∀ q, 12 ≤ q → q < 204 → Tryd.zeroCells167[q]? = some (.int .u64 0) := fun q h1 h2 => by
    rw [hz, Array.getElem?_append_left (by simp [hA]; omega), Array.getElem?_append_right (by omega), Array.getElem?_replicate, if_pos (by omega)]
  revert hq hs
  generalize Tryd.zeroCells167 = Z
  intro hs hq
  refine ⟨_, Blk.new W _ _, by simp [hs], fun j v hj => ?_, ?_, fun j hj => ?_, fun n e j hn he hj => ?_, ?_⟩
  · have hj7 : j < 7 := by have := (Array.getElem?_eq_some_iff.1 hj).1; exact this
    have : j = 0 ∨ j = 1 ∨ j = 2 ∨ j = 3 ∨ j = 4 ∨ j = 5 ∨ j = 6 := by omega
    rcases this with rfl | rfl | rfl | rfl | rfl | rfl | rfl <;> (simp at hj; subst hj; simp [hs])
  · simp [hs]
  · have : j = 0 ∨ j = 1 ∨ j = 2 ∨ j = 3 := by omega
    rcases this with rfl | rfl | rfl | rfl <;> simp [hs]
  · rw [zcV_at hs p P fa fc free R mb (by omega) (by omega), hq _ (by omega) (by omega)]; rfl
  · simp [hs]

/-- The table of what is come to unseen lies in block g. -/
def TU (W : World) (g : Nat) (U : Nat → Nat → Nat) : Prop := ∃ cs, Blk W g 193 cs ∧ cs.size = 24 ∧ ∀ n j, n < 6 → j < 4 → cs[n * 4 + j]? = some (.int .u64 (U n j))
theorem TU.cells {W : World} {g : Nat} {U : Nat → Nat → Nat} (h : TU W g U) {n : Nat} (hn : n < 6) : W.cell? ⟨g, n * 4, none⟩ = some (.int .u64 (U n 0)) ∧ W.cell? ⟨g, n * 4 + 1, none⟩ = some (.int .u64 (U n 1)) ∧ W.cell? ⟨g, n * 4 + 2, none⟩ = some (.int .u64 (U n 2)) ∧ W.cell? ⟨g, n * 4 + 3, none⟩ = some (.int .u64 (U n 3)) := by
  obtain ⟨cs, hb, hs, hc⟩ := h
  exact ⟨hb.cell _ (hc n 0 hn (by omega)), hb.cell _ (hc n 1 hn (by omega)), hb.cell _ (hc n 2 hn (by omega)), hb.cell _ (hc n 3 hn (by omega))⟩
theorem TU.same {W W' : World} {g : Nat} {U : Nat → Nat → Nat} (h : TU W g U) (hs : W'.heap[g]? = W.heap[g]?) : TU W' g U := by
  obtain ⟨cs, h1, h2⟩ := h; exact ⟨cs, hs.trans h1, h2⟩
theorem TU.lt {W : World} {g : Nat} {U : Nat → Nat → Nat} (h : TU W g U) : g < W.heap.size := by obtain ⟨cs, h1, -⟩ := h; exact h1.lt
theorem TU.frozen {W : World} {g : Nat} {U : Nat → Nat → Nat} (h : TU W g U) (j : Nat) : W.frozen? ⟨g, j, none⟩ = false := by obtain ⟨cs, h1, -⟩ := h; exact h1.frozen j
theorem TU.below {W W' : World} {g : Nat} {U : Nat → Nat → Nat} (h : TU W g U) (hb : Below W.heap.size W W') : TU W' g U := h.same (hb.block g h.lt)
theorem TU.store {W : World} {g n : Nat} {U : Nat → Nat → Nat} (h : TU W g U) (hn : n < 6) (X : Nat → Nat) :
    TU ((((W.setCell ⟨g, n * 4, none⟩ (.int .u64 (X 0))).setCell ⟨g, n * 4 + 1, none⟩ (.int .u64 (X 1))).setCell ⟨g, n * 4 + 2, none⟩ (.int .u64 (X 2))).setCell ⟨g, n * 4 + 3, none⟩ (.int .u64 (X 3))) g (fun q => if q = n then X else U q) := by
  obtain ⟨cs, h1, h2, h3⟩ := h
  refine ⟨_, (((h1.set (n * 4) _).set (n * 4 + 1) _).set (n * 4 + 2) _).set (n * 4 + 3) _, by simp [h2], fun n' j hn' hj => ?_⟩
  simp only [Array.getElem?_setIfInBounds, Array.size_setIfInBounds]
  by_cases q : n' = n
  · subst q
    have hj' : j = 0 ∨ j = 1 ∨ j = 2 ∨ j = 3 := by omega
    rcases hj' with rfl | rfl | rfl | rfl
    · simp [show n' * 4 < cs.size by omega]
    · simp [show n' * 4 + 1 < cs.size by omega]
    · simp [show n' * 4 + 2 < cs.size by omega]
    · simp [show n' * 4 + 3 < cs.size by omega]
  · rw [if_neg (by omega), if_neg (by omega), if_neg (by omega), if_neg (by omega), h3 n' j hn' hj, if_neg q]
abbrev z24V : Array Value := #[.int .u64 0, .int .u64 0, .int .u64 0, .int .u64 0, .int .u64 0, .int .u64 0, .int .u64 0, .int .u64 0, .int .u64 0, .int .u64 0, .int .u64 0, .int .u64 0, .int .u64 0, .int .u64 0, .int .u64 0, .int .u64 0, .int .u64 0, .int .u64 0, .int .u64 0, .int .u64 0, .int .u64 0, .int .u64 0, .int .u64 0, .int .u64 0]
theorem zero_tu (W : World) : TU (W.alloc (.cells z24V 193)) W.heap.size (fun _ => zeroS) := by
  have hz : z24V = Array.replicate 24 (Value.int .u64 0) := by kernel_rfl
  rw [hz]
  refine ⟨_, Blk.new W _ _, by simp, fun n j hn hj => ?_⟩
  rw [Array.getElem?_replicate, if_pos (by omega)]; rfl
/-- What is come to unseen, of the first states. -/
def unF (p : Plant) (k : Nat) : Nat → Nat → Nat := fun n => if n < k then wideS p [(n : Int)] else zeroS
theorem unF_zero (p : Plant) : unF p 0 = fun _ => zeroS := by funext n; unfold unF; rw [if_neg (by omega)]
theorem unF_next (p : Plant) (k : Nat) : (fun q => if q = k then wideS p [(k : Int)] else unF p k q) = unF p (k + 1) := by
  funext q
  unfold unF
  by_cases e : q = k
  · subst e; rw [if_pos rfl, if_pos (by omega)]
  · rw [if_neg e]
    by_cases h : q < k
    · rw [if_pos h, if_pos (by omega)]
    · rw [if_neg h, if_neg (by omega)]
theorem unF_at (p : Plant) {k n : Nat} (h : n < k) : unF p k n = wideS p [(n : Int)] := by unfold unF; rw [if_pos h]
theorem heap_set4V (W : World) {p r : Nat} (h : r ≠ p) (j : Nat) (v0 v1 v2 v3 : Value) : ((((W.setCell ⟨p, j, none⟩ v0).setCell ⟨p, j + 1, none⟩ v1).setCell ⟨p, j + 2, none⟩ v2).setCell ⟨p, j + 3, none⟩ v3).heap[r]? = W.heap[r]? :=
  (((Below.heap_setCell _ _ _ r h).trans (Below.heap_setCell _ _ _ r h)).trans (Below.heap_setCell _ _ _ r h)).trans (Below.heap_setCell _ _ _ r h)
theorem OthV.set4at {b : Nat} {V W : World} (h : OthV b V W) (j : Nat) (v0 v1 v2 v3 : Value) : OthV b V ((((W.setCell ⟨b, j, none⟩ v0).setCell ⟨b, j + 1, none⟩ v1).setCell ⟨b, j + 2, none⟩ v2).setCell ⟨b, j + 3, none⟩ v3) :=
  ⟨below_set4' h.bel j (Nat.le_refl _) v0 v1 v2 v3, fun q hq hn => (heap_set4V W hn j v0 v1 v2 v3).trans (h.oth q hq hn)⟩
theorem at_oneV (W : World) (x : Int) : Sl (W.alloc (.cells #[.int .i64 x] 3)) (some ⟨W.heap.size, 0, none⟩) 1 [x] := by
  refine ⟨.inr ⟨W.heap.size, 0, rfl, by simp, fun j hj => ?_⟩, by simp, by simp [maxLen], fun h => by cases h⟩
  have : j = 0 := by simpa using hj
  subst this
  exact (Blk.new W 3 #[.int .i64 x]).cell 0 rfl

end Go.Proofs.YtmlkpdeidpcidaaDoor
