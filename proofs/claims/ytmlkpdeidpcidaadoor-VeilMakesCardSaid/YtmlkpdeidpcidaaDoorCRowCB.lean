/-
  A block by its cells ('RowC').
-/
import Derived.Test.YtmlkpdeidpcidaaDoorG20
import Derived.Test.YtmlkpdeidpcidaaDoorG03
namespace Go.Proofs.YtmlkpdeidpcidaaDoor
open Go.RowKit
set_option linter.unusedVariables false

/-- Block b has n cells of type t, and j holds f j. -/
def RowC (W : World) (b : Nat) (t : TypeId) (n : Nat) (f : Nat → Value) : Prop := ∃ cs : Array Value, Blk W b t cs ∧ cs.size = n ∧ ∀ j, j < n → cs[j]? = some (f j)
theorem RowC.cell {W : World} {b n : Nat} {t : TypeId} {f : Nat → Value} (h : RowC W b t n f) {j : Nat} (hj : j < n) : W.cell? ⟨b, j, none⟩ = some (f j) := by
  obtain ⟨cs, hb, -, hc⟩ := h
  exact hb.cell j (hc j hj)
theorem RowC.lt {W : World} {b n : Nat} {t : TypeId} {f : Nat → Value} (h : RowC W b t n f) : b < W.heap.size := by
  obtain ⟨cs, hb, -, -⟩ := h
  exact hb.lt
theorem RowC.below {W W' : World} {b n B : Nat} {t : TypeId} {f : Nat → Value} (h : RowC W b t n f) (hb : Below B W W') (hB : b < B) : RowC W' b t n f := by
  obtain ⟨cs, h1, h2, h3⟩ := h
  exact ⟨cs, h1.below hb hB, h2, h3⟩
theorem RowC.same {W W' : World} {b n : Nat} {t : TypeId} {f : Nat → Value} (h : RowC W b t n f) (hb : W'.heap[b]? = W.heap[b]?) : RowC W' b t n f := by
  obtain ⟨cs, h1, h2, h3⟩ := h
  exact ⟨cs, hb.trans h1, h2, h3⟩
theorem RowC.congr {W : World} {b n : Nat} {t : TypeId} {f g : Nat → Value} (h : RowC W b t n f) (hfg : ∀ j, j < n → f j = g j) : RowC W b t n g := by
  obtain ⟨cs, h1, h2, h3⟩ := h
  exact ⟨cs, h1, h2, fun j hj => by rw [h3 j hj, hfg j hj]⟩
theorem RowC.made {W : World} {b n : Nat} {t : TypeId} {x : Value} (h : Blk W b t (madeCells #[x] n)) : RowC W b t n (fun _ => x) :=
  ⟨_, h, by simp [madeCells], fun j hj => by simp [madeCells, hj, Nat.mod_one]⟩
theorem RowC.set {W : World} {b n : Nat} {t : TypeId} {f : Nat → Value} (h : RowC W b t n f) {j : Nat} (hj : j < n) (v : Value) : RowC (W.setCell ⟨b, j, none⟩ v) b t n (fun i => if i = j then v else f i) := by
  obtain ⟨cs, h1, h2, h3⟩ := h
  refine ⟨_, h1.set j v, by simp [h2], fun i hi => ?_⟩
  by_cases e : i = j
  · subst e; dsimp only; rw [if_pos rfl]; simp [h2, hi]
  · dsimp only; rw [if_neg e, ← h3 i hi]; simp [Ne.symm e]
theorem RowC.other {W : World} {b b' n j : Nat} {t : TypeId} {f : Nat → Value} (h : RowC W b t n f) (hne : b' ≠ b) (v : Value) : RowC (W.setCell ⟨b', j, none⟩ v) b t n f := by
  obtain ⟨cs, h1, h2, h3⟩ := h
  exact ⟨cs, Blk.other h1 hne.symm v, h2, h3⟩

end Go.Proofs.YtmlkpdeidpcidaaDoor
