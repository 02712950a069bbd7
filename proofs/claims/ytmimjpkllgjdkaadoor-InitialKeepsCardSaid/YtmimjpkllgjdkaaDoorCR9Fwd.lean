/-
  The walk of jalousieref9.Forward.
-/
import Derived.Test.YtmimjpkllgjdkaaDoorG28
import Derived.Test.YtmimjpkllgjdkaaDoorG03
import Derived.Test.YtmimjpkllgjdkaaDoorG06
import Derived.Test.YtmimjpkllgjdkaaDoorG05
namespace Go.Proofs.YtmimjpkllgjdkaaDoor
open Go.RowKit
set_option linter.unusedVariables false

/-- What is known, with the lists of events. -/
def knL (seen : List Int) (l : List (List Int × List Int)) : List Kno := l.map fun x => (x.1, wordS seen x.2)
theorem knL_len (seen : List Int) (l : List (List Int × List Int)) : (knL seen l).length = l.length := by simp [knL]
theorem at_one_blk {W : World} {b : Nat} {x : Int} (h : Blk W b 3 #[.int .i64 x]) : At W (some ⟨b, 0, none⟩) [x] := by
  refine .inr ⟨b, 0, rfl, h.lt, fun j hj => ?_⟩
  have hj : j = 0 := by simp at hj; exact hj
  subst hj
  exact h.cell 0 rfl
end Go.Proofs.YtmimjpkllgjdkaaDoor
