/-
 The walk of jalousieref15.Good.
-/
import Derived.Deep.RegionHeld3
import Derived.Deep.QuietTactic
import Derived.Deep.RegionWith
import Derived.BigQuiet
import Derived.Test.YtkodmnooibpflaaDoorI31
import Derived.Test.YtkodmnooibpflaaDoorI30
import Derived.Test.YtkodmnooibpflaaDoorI06
import Derived.Test.YtkodmnooibpflaaDoorI03
import Derived.Test.YtkodmnooibpflaaDoorI05
import Derived.Test.YtkodmnooibpflaaDoorI04
import Derived.Test.YtkodmnooibpflaaDoorI14
import Derived.Test.YtkodmnooibpflaaDoorI20
import Derived.Test.YtkodmnooibpflaaDoorI18
namespace Go.Proofs.YtkodmnooibpflaaDoor
open Go.RowKit
set_option linter.unusedVariables false

theorem Tryd.infoIntsV : (Tryd.prog.info? 22).map (fun i => (i.zero, i.size, i.bytes)) = some (some (.slice none 0 0), 1, 24) := by kernel_rfl
end Go.Proofs.YtkodmnooibpflaaDoor
