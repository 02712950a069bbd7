/-
 The walk of jalousieref15.Good.
-/
import Derived.Deep.RegionHeld3
import Derived.Deep.QuietTactic
import Derived.Deep.RegionWith
import Derived.BigQuiet
import Derived.Test.YtgnnmelliekkcaaDoorH31
import Derived.Test.YtgnnmelliekkcaaDoorH30
import Derived.Test.YtgnnmelliekkcaaDoorH06
import Derived.Test.YtgnnmelliekkcaaDoorH03
import Derived.Test.YtgnnmelliekkcaaDoorH05
import Derived.Test.YtgnnmelliekkcaaDoorH04
import Derived.Test.YtgnnmelliekkcaaDoorH14
import Derived.Test.YtgnnmelliekkcaaDoorH20
import Derived.Test.YtgnnmelliekkcaaDoorH18
namespace Go.Proofs.YtgnnmelliekkcaaDoor
open Go.RowKit
set_option linter.unusedVariables false

theorem Tryd.infoIntsV : (Tryd.prog.info? 22).map (fun i => (i.zero, i.size, i.bytes)) = some (some (.slice none 0 0), 1, 24) := by kernel_rfl
end Go.Proofs.YtgnnmelliekkcaaDoor
