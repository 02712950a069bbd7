/-
  DERIVED. GIVEN WITH THE SEED: THE CARDS: each row of YtmlkpdeidpcidaaDoorRows.lean that lists a variable, with what it lists TIED to the program's text (the seventh form; the later family's looks); each row that meets fmt, with fmt's text TOLD by the authors' own Lean function (tested against real Go, not proved from fmt's source: count such statements apart). THE CARD IS WHAT COUNTS. Prove the row's statement (the work); the ties are given (YtmlkpdeidpcidaaDoorTie.lean); close each card by the builder's one call (the guide's Derived/Test/ToyasCard.lean, 'card_holds'). Laid BY PROGRAM, IN A SANDBOX (cutbox-door.mjs). By AI agents, Wed Nov 11 2026. No macro, syntax, notation, axiom, sorry.
-/
import Derived.Test.YtmlkpdeidpcidaaDoorRows
import GoSem.ClaimSeven
namespace Go.Proofs.YtmlkpdeidpcidaaDoor
namespace Rows

/-- THE TIED CARD OF 'jalousielaw.MachineTells'. -/
def machineTellsCard : Claim7 := { stood := { row := machineTellsRow, standIns := [], harness := (true, "3f07bd27c0f339e71ce9b730d8113991efffccb1ac3973d156d799e832b817fc"), looks := false }, kinds := [], alts := [], laidByText := true, laidKinds := [.data], laidTests := true, laidLooks := .later }
def MachineTellsCardSaid : Prop := Claim7.holds Tryd.pinned (.plain (OpenSpec.ofChange machineTellsSpec)) machineTellsCard

/-- THE TIED CARD OF 'jalousiekeep.ReachTrims'. -/
def reachTrimsCard : Claim7 := { stood := { row := reachTrimsRow, standIns := [], harness := (true, "3f07bd27c0f339e71ce9b730d8113991efffccb1ac3973d156d799e832b817fc"), looks := false }, kinds := [], alts := [], laidByText := true, laidKinds := [.data], laidTests := true, laidLooks := .later }
def ReachTrimsCardSaid : Prop := Claim7.holds Tryd.pinned (.plain (OpenSpec.ofChange reachTrimsSpec)) reachTrimsCard

/-- THE TIED CARD OF 'jalousielaw.HideMakes'. -/
def hideMakesCard : Claim7 := { stood := { row := hideMakesRow, standIns := [], harness := (true, "3f07bd27c0f339e71ce9b730d8113991efffccb1ac3973d156d799e832b817fc"), looks := false }, kinds := [], alts := [], laidByText := true, laidKinds := [.data], laidTests := true, laidLooks := .later }
def HideMakesCardSaid : Prop := Claim7.holds Tryd.pinned (.plain (OpenSpec.ofChange hideMakesSpec)) hideMakesCard

/-- THE TIED CARD OF 'jalousielaw.CurrentTells'. -/
def currentTellsCard : Claim7 := { stood := { row := currentTellsRow, standIns := [], harness := (true, "3f07bd27c0f339e71ce9b730d8113991efffccb1ac3973d156d799e832b817fc"), looks := false }, kinds := [], alts := [], laidByText := true, laidKinds := [.data], laidTests := true, laidLooks := .later }
def CurrentTellsCardSaid : Prop := Claim7.holds Tryd.pinned (.plain (OpenSpec.ofChange currentTellsSpec)) currentTellsCard

/-- THE TIED CARD OF 'jalousielaw.InitialTells'. -/
def initialTellsCard : Claim7 := { stood := { row := initialTellsRow, standIns := [], harness := (true, "3f07bd27c0f339e71ce9b730d8113991efffccb1ac3973d156d799e832b817fc"), looks := false }, kinds := [], alts := [], laidByText := true, laidKinds := [.data], laidTests := true, laidLooks := .later }
def InitialTellsCardSaid : Prop := Claim7.holds Tryd.pinned (.plain (OpenSpec.ofChange initialTellsSpec)) initialTellsCard

/-- THE TIED CARD OF 'jalousielaw.StepsTells'. -/
def stepsTellsCard : Claim7 := { stood := { row := stepsTellsRow, standIns := [], harness := (true, "3f07bd27c0f339e71ce9b730d8113991efffccb1ac3973d156d799e832b817fc"), looks := false }, kinds := [], alts := [], laidByText := true, laidKinds := [.data], laidTests := true, laidLooks := .later }
def StepsTellsCardSaid : Prop := Claim7.holds Tryd.pinned (.plain (OpenSpec.ofChange stepsTellsSpec)) stepsTellsCard

/-- THE TIED CARD OF 'jalousielaw.SecretTells'. -/
def secretTellsCard : Claim7 := { stood := { row := secretTellsRow, standIns := [], harness := (true, "3f07bd27c0f339e71ce9b730d8113991efffccb1ac3973d156d799e832b817fc"), looks := false }, kinds := [], alts := [], laidByText := true, laidKinds := [.data], laidTests := true, laidLooks := .later }
def SecretTellsCardSaid : Prop := Claim7.holds Tryd.pinned (.plain (OpenSpec.ofChange secretTellsSpec)) secretTellsCard

/-- THE TIED CARD OF 'jalousielaw.DelayTells'. -/
def delayTellsCard : Claim7 := { stood := { row := delayTellsRow, standIns := [], harness := (true, "3f07bd27c0f339e71ce9b730d8113991efffccb1ac3973d156d799e832b817fc"), looks := false }, kinds := [], alts := [], laidByText := true, laidKinds := [.data], laidTests := true, laidLooks := .later }
def DelayTellsCardSaid : Prop := Claim7.holds Tryd.pinned (.plain (OpenSpec.ofChange delayTellsSpec)) delayTellsCard

/-- THE TIED CARD OF 'jalousielaw.VeilMakes'. -/
def veilMakesCard : Claim7 := { stood := { row := veilMakesRow, standIns := [], harness := (true, "3f07bd27c0f339e71ce9b730d8113991efffccb1ac3973d156d799e832b817fc"), looks := false }, kinds := [], alts := [], laidByText := true, laidKinds := [.data], laidTests := true, laidLooks := .later }
def VeilMakesCardSaid : Prop := Claim7.holds Tryd.pinned (.plain (OpenSpec.ofChange veilMakesSpec)) veilMakesCard

/-- THE SECOND FORM's CARD OF 'jalousielaw.MachineTells'. -/
def machineTellsUptoCard : Claim7 := { stood := { row := machineTellsUptoRow, standIns := [], harness := (true, "3f07bd27c0f339e71ce9b730d8113991efffccb1ac3973d156d799e832b817fc"), looks := false }, kinds := [], alts := [], laidByText := true, laidKinds := [.data], laidTests := true, laidLooks := .later }
def MachineTellsUptoCardSaid : Prop := Claim7.holds Tryd.pinned (.plain (OpenSpec.upto machineTellsSpec)) machineTellsUptoCard

/-- THE SECOND FORM's CARD OF 'jalousiekeep.ReachTrims'. -/
def reachTrimsUptoCard : Claim7 := { stood := { row := reachTrimsUptoRow, standIns := [], harness := (true, "3f07bd27c0f339e71ce9b730d8113991efffccb1ac3973d156d799e832b817fc"), looks := false }, kinds := [], alts := [], laidByText := true, laidKinds := [.data], laidTests := true, laidLooks := .later }
def ReachTrimsUptoCardSaid : Prop := Claim7.holds Tryd.pinned (.plain (OpenSpec.upto reachTrimsSpec)) reachTrimsUptoCard

/-- THE SECOND FORM's CARD OF 'jalousielaw.HideMakes'. -/
def hideMakesUptoCard : Claim7 := { stood := { row := hideMakesUptoRow, standIns := [], harness := (true, "3f07bd27c0f339e71ce9b730d8113991efffccb1ac3973d156d799e832b817fc"), looks := false }, kinds := [], alts := [], laidByText := true, laidKinds := [.data], laidTests := true, laidLooks := .later }
def HideMakesUptoCardSaid : Prop := Claim7.holds Tryd.pinned (.plain (OpenSpec.upto hideMakesSpec)) hideMakesUptoCard

/-- THE SECOND FORM's CARD OF 'jalousielaw.CurrentTells'. -/
def currentTellsUptoCard : Claim7 := { stood := { row := currentTellsUptoRow, standIns := [], harness := (true, "3f07bd27c0f339e71ce9b730d8113991efffccb1ac3973d156d799e832b817fc"), looks := false }, kinds := [], alts := [], laidByText := true, laidKinds := [.data], laidTests := true, laidLooks := .later }
def CurrentTellsUptoCardSaid : Prop := Claim7.holds Tryd.pinned (.plain (OpenSpec.upto currentTellsSpec)) currentTellsUptoCard

/-- THE SECOND FORM's CARD OF 'jalousielaw.InitialTells'. -/
def initialTellsUptoCard : Claim7 := { stood := { row := initialTellsUptoRow, standIns := [], harness := (true, "3f07bd27c0f339e71ce9b730d8113991efffccb1ac3973d156d799e832b817fc"), looks := false }, kinds := [], alts := [], laidByText := true, laidKinds := [.data], laidTests := true, laidLooks := .later }
def InitialTellsUptoCardSaid : Prop := Claim7.holds Tryd.pinned (.plain (OpenSpec.upto initialTellsSpec)) initialTellsUptoCard

/-- THE SECOND FORM's CARD OF 'jalousielaw.StepsTells'. -/
def stepsTellsUptoCard : Claim7 := { stood := { row := stepsTellsUptoRow, standIns := [], harness := (true, "3f07bd27c0f339e71ce9b730d8113991efffccb1ac3973d156d799e832b817fc"), looks := false }, kinds := [], alts := [], laidByText := true, laidKinds := [.data], laidTests := true, laidLooks := .later }
def StepsTellsUptoCardSaid : Prop := Claim7.holds Tryd.pinned (.plain (OpenSpec.upto stepsTellsSpec)) stepsTellsUptoCard

/-- THE SECOND FORM's CARD OF 'jalousielaw.SecretTells'. -/
def secretTellsUptoCard : Claim7 := { stood := { row := secretTellsUptoRow, standIns := [], harness := (true, "3f07bd27c0f339e71ce9b730d8113991efffccb1ac3973d156d799e832b817fc"), looks := false }, kinds := [], alts := [], laidByText := true, laidKinds := [.data], laidTests := true, laidLooks := .later }
def SecretTellsUptoCardSaid : Prop := Claim7.holds Tryd.pinned (.plain (OpenSpec.upto secretTellsSpec)) secretTellsUptoCard

/-- THE SECOND FORM's CARD OF 'jalousielaw.DelayTells'. -/
def delayTellsUptoCard : Claim7 := { stood := { row := delayTellsUptoRow, standIns := [], harness := (true, "3f07bd27c0f339e71ce9b730d8113991efffccb1ac3973d156d799e832b817fc"), looks := false }, kinds := [], alts := [], laidByText := true, laidKinds := [.data], laidTests := true, laidLooks := .later }
def DelayTellsUptoCardSaid : Prop := Claim7.holds Tryd.pinned (.plain (OpenSpec.upto delayTellsSpec)) delayTellsUptoCard

/-- THE SECOND FORM's CARD OF 'jalousielaw.VeilMakes'. -/
def veilMakesUptoCard : Claim7 := { stood := { row := veilMakesUptoRow, standIns := [], harness := (true, "3f07bd27c0f339e71ce9b730d8113991efffccb1ac3973d156d799e832b817fc"), looks := false }, kinds := [], alts := [], laidByText := true, laidKinds := [.data], laidTests := true, laidLooks := .later }
def VeilMakesUptoCardSaid : Prop := Claim7.holds Tryd.pinned (.plain (OpenSpec.upto veilMakesSpec)) veilMakesUptoCard
end Rows
end Go.Proofs.YtmlkpdeidpcidaaDoor
