/-
  The walk of initial.Leak; what package initial leaves.
-/
import Derived.Test.YtmlkpdeidpcidaaDoorH32
import Derived.Test.YtmlkpdeidpcidaaDoorDIOri
import Derived.Test.YtmlkpdeidpcidaaDoorH27
namespace Go.Proofs.YtmlkpdeidpcidaaDoor
open Go.RowKit
set_option linter.unusedVariables false

theorem pBeg_any (p : Plant) (P : PTL) (wa : Option Addr) (wc : Nat) (word : List Int) (w : World) (h : PAt w p P) (hw : At w wa word) (hl : word.length ≤ maxLen) (hT : Tab w) :
    Calls Tryd.prog 37 #[ptval p P, .slice wa word.length wc] w fun e w' => ListPost w (begOut p word) e w' := by
  cases hp : mayP p with
  | false => exact began_bad p P wa wc word w (Hid.of h) (Hid.of hp)
  | true =>
    obtain ⟨Pl, sa, sc, ta, tc⟩ := P
    exact callsIn_wide.1 (began_in p Pl sa sc ta tc wa wc word w (Hid.of h) (Hid.of hw) (Hid.of hl) (Hid.of hT) (Hid.of hp))

end Go.Proofs.YtmlkpdeidpcidaaDoor
