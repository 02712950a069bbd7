/-
  Plain mathematics of machines beside one another: pairs as they are found, arrows between them. No program, no model.
-/
import Derived.Test.YtgebfkmfhpcdhaaDoorG05
namespace Go.Proofs.YtgebfkmfhpcdhaaDoor
open Go.RowKit
set_option linter.unusedVariables false

/-- 0, 1, .., n - 1. -/
def rngI (n : Nat) : List Int := (List.range n).map fun k : Nat => (k : Int)
theorem rngI_succ (n : Nat) : rngI (n + 1) = rngI n ++ [(n : Int)] := by simp [rngI, List.range_succ]
theorem rngI_len (n : Nat) : (rngI n).length = n := by simp [rngI]
end Go.Proofs.YtgebfkmfhpcdhaaDoor
