/-
  '==' and '!=' on two arrows, as the model runs them.
-/
import Derived.Test.YtcjcjaeaoianfaaDoorCMBase
import Derived.Laws.StructEq
namespace Go.Proofs.YtcjcjaeaoianfaaDoor
open Go.RowKit
set_option linter.unusedVariables false

abbrev arrEq (a b : Arr) : Prop := a.f = b.f ∧ a.e = b.e ∧ a.t = b.t
def arrEqB (a b : Arr) : Bool := decide (arrEq a b)

abbrev aval (a : Arr) : Value := .agg #[.int .i64 a.f, .int .i64 a.e, .int .i64 a.t]

theorem Tryd.fieldsArrow : Tryd.prog.underlying 51 = some (.struct (Tryd.prog.fieldsOf 51)) := by unfold Program.fieldsOf; rw [Tryd.underlying51]
theorem Tryd.stoodArrow : Tryd.prog.stoodInHeld 51 = false := by kernel_rfl
theorem Tryd.guardArrow : Tryd.prog.eqGuardType Tryd.prog.depth 51 = false := by kernel_rfl

theorem run_equalIn_arrow (a b : Arr) (w : World) : (Op.equalIn 10000 51 (aval a) (aval b)).run Tryd.prog w = .ok (arrEqB a b) w := by
  rw [run_equalIn_agg w 9999 51 _ _ Tryd.fieldsArrow Tryd.stoodArrow]
  have hf : (Tryd.prog.fieldsOf 51).toList = [{ name := "From", type := 3, offset := 0, embedded := false, tag := "", pkgPath := "", byteOffset := 0 }, { name := "Event", type := 3, offset := 1, embedded := false, tag := "", pkgPath := "", byteOffset := 8 }, { name := "To", type := 3, offset := 2, embedded := false, tag := "", pkgPath := "", byteOffset := 16 }] := by unfold Program.fieldsOf; rw [Tryd.underlying51]
  rw [hf]
  obtain ⟨a1, a2, a3⟩ := a
  obtain ⟨b1, b2, b3⟩ := b
  by_cases h1 : a1 = b1 <;> by_cases h2 : a2 = b2 <;> by_cases h3 : a3 = b3 <;> simp [Op.eqFields, go_sem, arrEqB, arrEq, h1, h2, h3]

theorem run_guard_arrow (op : BinOp) (x y : Operand) (xs ys : Array Value) (w : World) : (eqGuard op 51 x y (.agg xs) (.agg ys)).run Tryd.prog w = .ok () w := run_eqGuard_agg w op 51 x y xs ys Tryd.guardArrow

/-- Are two lists of arrows one? -/
def sameA : List Arr → List Arr → Bool
  | [], [] => true
  | a :: r, b :: s => if arrEq a b then sameA r s else false
  | _, _ => false

end Go.Proofs.YtcjcjaeaoianfaaDoor
