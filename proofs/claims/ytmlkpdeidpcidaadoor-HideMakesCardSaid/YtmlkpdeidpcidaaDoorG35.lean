/-
  slices.Clone at lists of integers, as it lies in this program: the kit's laying.
  slices.Clone: a list copied into the call's own memory.
-/
import Derived.Test.YtmlkpdeidpcidaaDoorProg
import Derived.Shelf.Slices.Clone
import Derived.Shelf.Slices.Empties
import Derived.Test.YtmlkpdeidpcidaaDoorG04
namespace Go.Proofs.YtmlkpdeidpcidaaDoor
open Go.Shelf

def Tryd.cloneA_ren : Go.Shelf.Ren := ⟨fun | 15 => 66 | n => n, fun | 22 => 22 | 3 => 3 | 4 => 4 | n => n, fun | n => n⟩
theorem Tryd.cloneA : Go.Proofs.Lays2.n15 Tryd.prog Tryd.cloneA_ren := {
  mixed := by kernel_rfl
  f15 := Tryd.func66.trans (congrArg some (by kernel_rfl))
  t3 := Tryd.underlying3
  a3 := Tryd.isAgg3
  z3 := Tryd.sizeOf3
  v3 := Tryd.zeroValue3
  t4 := Tryd.underlying4
  a4 := Tryd.isAgg4
  z4 := Tryd.sizeOf4
  v4 := Tryd.zeroValue4
  t22 := Tryd.underlying22
  a22 := Tryd.isAgg22
  z22 := Tryd.sizeOf22
  v22 := Tryd.zeroValue22
  i3 := by kernel_rfl }

end Go.Proofs.YtmlkpdeidpcidaaDoor
namespace Go.Proofs.YtmlkpdeidpcidaaDoor
open Go.RowKit Go.Shelf Go.Lib Go.Sort
set_option linter.unusedVariables false

theorem clone_any (a : Option Addr) (c : Nat) (xs : List Int) (w : World) (h : At w a xs) (hl : xs.length ≤ 17592186044416) :
    Calls Tryd.prog 66 #[.slice a xs.length c] w fun e w' => ∃ v, e = .returned v ∧ Own w' w.heap.size v xs ∧ Below w.heap.size w w' := by
  rcases h with rfl | ⟨b, off, rfl, hb, hc⟩
  · cases a with
    | none =>
      refine (Any.slices_Clone_int_nil Tryd.cloneA 0 c w).mono ?_
      rintro e w' ⟨rfl, rfl⟩
      exact ⟨_, rfl, own_nil _ _, Below.refl _ _⟩
    | some p =>
      refine (Any.slices_Clone_int_zero Tryd.cloneA p c w).mono ?_
      rintro e w' ⟨v, rfl, h1, -, h2⟩
      exact ⟨v, rfl, h1, h2⟩
  · refine (Any.slices_Clone_int Tryd.cloneA b off xs.length c xs w (Nat.le_refl _) (by omega) hc).mono ?_
    rintro e w' ⟨v, rfl, h1, -, h2⟩
    rw [List.take_of_length_le (Nat.le_refl _)] at h1
    exact ⟨v, rfl, h1, h2⟩

end Go.Proofs.YtmlkpdeidpcidaaDoor
