/-
 The walk of jalousieref15.Make.
-/
import Derived.Test.YtkodmnooibpflaaDoorI33
import Derived.Test.YtkodmnooibpflaaDoorER15G
import Derived.Test.YtkodmnooibpflaaDoorI31
import Derived.Test.YtkodmnooibpflaaDoorI06
import Derived.Test.YtkodmnooibpflaaDoorI04
import Derived.Test.YtkodmnooibpflaaDoorI10
namespace Go.Proofs.YtkodmnooibpflaaDoor
open Go.RowKit
set_option linter.unusedVariables false

theorem below_setv {W V : World} {B b' : Nat} (h : Below B V W) (hb : B ≤ b') (v0 v1 : Value) : Below B V ((W.setCell ⟨b', 0, none⟩ v0).setCell ⟨b', 1, none⟩ v1) :=
 (h.setCell (p := ⟨b', 0, none⟩) hb v0).setCell (p := ⟨b', 1, none⟩) hb v1
theorem blk_ve {W : World} {b : Nat} {a c : Value} (h : Blk W b 60 #[a, c]) (x y : Value) : Blk ((W.setCell ⟨b, 0, none⟩ x).setCell ⟨b, 1, none⟩ y) b 60 #[x, y] := (h.set 0 _).set 1 _

end Go.Proofs.YtkodmnooibpflaaDoor
