/-
  The walk of jalousieref9.Forward.
-/
import Derived.Test.YtgebfkmfhpcdhaaDoorG10
import Derived.Test.YtgebfkmfhpcdhaaDoorG06
import Derived.Test.YtgebfkmfhpcdhaaDoorG30
import Derived.Test.YtgebfkmfhpcdhaaDoorG31
import Derived.Test.YtgebfkmfhpcdhaaDoorG03
import Derived.Test.YtgebfkmfhpcdhaaDoorG20
import Derived.Test.YtgebfkmfhpcdhaaDoorG04
namespace Go.Proofs.YtgebfkmfhpcdhaaDoor
open Go.RowKit
set_option linter.unusedVariables false

theorem at_one_blk {W : World} {b : Nat} {x : Int} (h : Blk W b 3 #[.int .i64 x]) : At W (some ⟨b, 0, none⟩) [x] := by
  refine .inr ⟨b, 0, rfl, h.lt, fun j hj => ?_⟩
  have hj : j = 0 := by simp at hj; exact hj
  subst hj
  exact h.cell 0 rfl
end Go.Proofs.YtgebfkmfhpcdhaaDoor
