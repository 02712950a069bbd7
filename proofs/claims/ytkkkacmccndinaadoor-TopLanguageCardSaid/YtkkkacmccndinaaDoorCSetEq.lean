/-
  '==' of two sets, as the model runs it.
-/
import Derived.Test.YtkkkacmccndinaaDoorCSBase
import Derived.Laws.StructEq
import Derived.ChangeKeysEq
namespace Go.Proofs.YtkkkacmccndinaaDoor
open Go.RowKit
set_option linter.unusedVariables false

theorem Tryd.guardSet : Tryd.prog.eqGuardType Tryd.prog.depth 58 = false := by kernel_rfl
theorem Tryd.infoU64 : (Tryd.prog.info? 56).map (fun i => (i.zero, i.size, i.bytes)) = some (some (.int .u64 0), 1, 8) := by kernel_rfl

theorem run_guard_set (op : BinOp) (x y : Operand) (xs ys : Array Value) (w : World) : (eqGuard op 58 x y (.agg xs) (.agg ys)).run Tryd.prog w = .ok () w := run_eqGuard_agg w op 58 x y xs ys Tryd.guardSet

theorem run_equalIn_set (S : Nat → Nat) (w : World) : (Op.equalIn 10000 58 (sval S) (.agg #[.int .u64 0, .int .u64 0, .int .u64 0, .int .u64 0])).run Tryd.prog w = .ok (emptyB S) w := by
  obtain ⟨i0, hi, hz0, hz1, hz2⟩ := info_parts Tryd.infoU64
  rw [run_equalIn_array w 9999 _ _ Tryd.underlying58 hi]
  have hc : Tryd.prog.cellsOf 56 = 1 := by kernel_rfl
  have hl : List.range 4 = [0, 1, 2, 3] := rfl
  rw [hc, hl]
  unfold emptyB
  by_cases h0 : S 0 = 0 <;> by_cases h1 : S 1 = 0 <;> by_cases h2 : S 2 = 0 <;> by_cases h3 : S 3 = 0 <;> simp [Op.eqItems, go_sem, h0, h1, h2, h3]

end Go.Proofs.YtkkkacmccndinaaDoor
