/-
  The walk of jalousieref9.Forward.
-/
import Derived.Deep.QuietTactic
import Derived.Deep.RegionWith
import Derived.Deep.RegionHeld3
import Derived.BigQuiet
import Derived.Test.YtgebfkmfhpcdhaaDoorI10
import Derived.Test.YtgebfkmfhpcdhaaDoorI06
import Derived.Test.YtgebfkmfhpcdhaaDoorI05
import Derived.Test.YtgebfkmfhpcdhaaDoorI03
import Derived.Test.YtgebfkmfhpcdhaaDoorI26
import Derived.Test.YtgebfkmfhpcdhaaDoorERefMay
import Derived.Test.YtgebfkmfhpcdhaaDoorI19
import Derived.Test.YtgebfkmfhpcdhaaDoorI14
import Derived.Test.YtgebfkmfhpcdhaaDoorI04
import Derived.Test.YtgebfkmfhpcdhaaDoorI17
namespace Go.Proofs.YtgebfkmfhpcdhaaDoor
open Go.RowKit
set_option linter.unusedVariables false

theorem own_empty_blk {W : World} {b : Nat} (h : Blk W b 3 #[]) : Own W b (.slice (some ⟨b, 0, none⟩) 0 0) [] := by
  refine ⟨rfl, .inr ⟨b, 0, #[], rfl, Nat.le_refl _, h, Nat.le_refl _, Nat.zero_le _, rfl, rfl⟩⟩
theorem at_one_blk {W : World} {b : Nat} {x : Int} (h : Blk W b 3 #[.int .i64 x]) : At W (some ⟨b, 0, none⟩) [x] := by
  refine .inr ⟨b, 0, rfl, h.lt, fun j hj => ?_⟩
  have hj : j = 0 := by simp at hj; exact hj
  subst hj
  exact h.cell 0 rfl
end Go.Proofs.YtgebfkmfhpcdhaaDoor
