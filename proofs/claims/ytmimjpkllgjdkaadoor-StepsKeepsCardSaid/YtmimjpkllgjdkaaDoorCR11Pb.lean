/-
  What jalousieref11.Leak leaves; plain: which of two twos is the lesser.
-/
import Derived.Deep.RegionHeld3
import Derived.Test.YtmimjpkllgjdkaaDoorG30
import Derived.Test.YtmimjpkllgjdkaaDoorG28
import Derived.Test.YtmimjpkllgjdkaaDoorG06
import Derived.Test.YtmimjpkllgjdkaaDoorG07
namespace Go.Proofs.YtmimjpkllgjdkaaDoor
open Go.RowKit
set_option linter.unusedVariables false

theorem pb1 {w v w' v' : List Int} (h : w.length + v.length < w'.length + v'.length) : pairB w v w' v' = true := (pairB_iff _ _ _ _).2 (.inl h)
end Go.Proofs.YtmimjpkllgjdkaaDoor
