/-
  DERIVED. GIVEN WITH THE SEED: THE CARDS: each row of YtialjbdfkhfcoabDoorRows.lean that lists a variable, with what it lists TIED to the program's text (the seventh form; the later family's looks); each row that meets fmt, with fmt's text TOLD by the authors' own Lean function (tested against real Go, not proved from fmt's source: count such statements apart). THE CARD IS WHAT COUNTS. Prove the row's statement (the work); the ties are given (YtialjbdfkhfcoabDoorTie.lean); close each card by the builder's one call (the guide's Derived/Test/ToyasCard.lean, 'card_holds'). Laid BY PROGRAM, IN A SANDBOX (cutbox-door.mjs). By AI agents, Wed Nov 11 2026. No macro, syntax, notation, axiom, sorry.
-/
import Derived.Test.YtialjbdfkhfcoabDoorRows
import GoSem.ClaimSeven
namespace Go.Proofs.YtialjbdfkhfcoabDoor
namespace Rows

/-- THE TIED CARD OF 'jalousiekeep.ReachTrims'. -/
def reachTrimsCard : Claim7 := { stood := { row := reachTrimsRow, standIns := [], harness := (true, "a95eb8c36063d51a43c1540710201762d72190b55784fdee3ceb351dc7bce804"), looks := false }, kinds := [], alts := [], laidByText := true, laidKinds := [.data], laidTests := true, laidLooks := .later }
def ReachTrimsCardSaid : Prop := Claim7.holds Tryd.pinned (.plain (OpenSpec.ofChange reachTrimsSpec)) reachTrimsCard

/-- THE TIED CARD OF 'jalousiekeep.BesideBoth'. -/
def besideBothCard : Claim7 := { stood := { row := besideBothRow, standIns := [], harness := (true, "a95eb8c36063d51a43c1540710201762d72190b55784fdee3ceb351dc7bce804"), looks := false }, kinds := [], alts := [], laidByText := true, laidKinds := [.data], laidTests := true, laidLooks := .later }
def BesideBothCardSaid : Prop := Claim7.holds Tryd.pinned (.plain (OpenSpec.ofChange besideBothSpec)) besideBothCard

/-- THE TIED CARD OF 'jalousielaw.HideMakes'. -/
def hideMakesCard : Claim7 := { stood := { row := hideMakesRow, standIns := [], harness := (true, "a95eb8c36063d51a43c1540710201762d72190b55784fdee3ceb351dc7bce804"), looks := false }, kinds := [], alts := [], laidByText := true, laidKinds := [.data], laidTests := true, laidLooks := .later }
def HideMakesCardSaid : Prop := Claim7.holds Tryd.pinned (.plain (OpenSpec.ofChange hideMakesSpec)) hideMakesCard

/-- THE TIED CARD OF 'jalousiekeep.HideSees'. -/
def hideSeesCard : Claim7 := { stood := { row := hideSeesRow, standIns := [], harness := (true, "a95eb8c36063d51a43c1540710201762d72190b55784fdee3ceb351dc7bce804"), looks := false }, kinds := [], alts := [], laidByText := true, laidKinds := [.data], laidTests := true, laidLooks := .later }
def HideSeesCardSaid : Prop := Claim7.holds Tryd.pinned (.plain (OpenSpec.ofChange hideSeesSpec)) hideSeesCard

/-- THE SECOND FORM's CARD OF 'jalousiekeep.ReachTrims'. -/
def reachTrimsUptoCard : Claim7 := { stood := { row := reachTrimsUptoRow, standIns := [], harness := (true, "a95eb8c36063d51a43c1540710201762d72190b55784fdee3ceb351dc7bce804"), looks := false }, kinds := [], alts := [], laidByText := true, laidKinds := [.data], laidTests := true, laidLooks := .later }
def ReachTrimsUptoCardSaid : Prop := Claim7.holds Tryd.pinned (.plain (OpenSpec.upto reachTrimsSpec)) reachTrimsUptoCard

/-- THE SECOND FORM's CARD OF 'jalousiekeep.BesideBoth'. -/
def besideBothUptoCard : Claim7 := { stood := { row := besideBothUptoRow, standIns := [], harness := (true, "a95eb8c36063d51a43c1540710201762d72190b55784fdee3ceb351dc7bce804"), looks := false }, kinds := [], alts := [], laidByText := true, laidKinds := [.data], laidTests := true, laidLooks := .later }
def BesideBothUptoCardSaid : Prop := Claim7.holds Tryd.pinned (.plain (OpenSpec.upto besideBothSpec)) besideBothUptoCard

/-- THE SECOND FORM's CARD OF 'jalousielaw.HideMakes'. -/
def hideMakesUptoCard : Claim7 := { stood := { row := hideMakesUptoRow, standIns := [], harness := (true, "a95eb8c36063d51a43c1540710201762d72190b55784fdee3ceb351dc7bce804"), looks := false }, kinds := [], alts := [], laidByText := true, laidKinds := [.data], laidTests := true, laidLooks := .later }
def HideMakesUptoCardSaid : Prop := Claim7.holds Tryd.pinned (.plain (OpenSpec.upto hideMakesSpec)) hideMakesUptoCard

/-- THE SECOND FORM's CARD OF 'jalousiekeep.HideSees'. -/
def hideSeesUptoCard : Claim7 := { stood := { row := hideSeesUptoRow, standIns := [], harness := (true, "a95eb8c36063d51a43c1540710201762d72190b55784fdee3ceb351dc7bce804"), looks := false }, kinds := [], alts := [], laidByText := true, laidKinds := [.data], laidTests := true, laidLooks := .later }
def HideSeesUptoCardSaid : Prop := Claim7.holds Tryd.pinned (.plain (OpenSpec.upto hideSeesSpec)) hideSeesUptoCard
end Rows
end Go.Proofs.YtialjbdfkhfcoabDoor
