/-
  DERIVED. GIVEN WITH THE SEED: THE CARDS: each row of YtkodmnooibpflaaDoorRows.lean that lists a variable, with what it lists TIED to the program's text (the seventh form; the later family's looks); each row that meets fmt, with fmt's text TOLD by the authors' own Lean function (tested against real Go, not proved from fmt's source: count such statements apart). THE CARD IS WHAT COUNTS. Prove the row's statement (the work); the ties are given (YtkodmnooibpflaaDoorTie.lean); close each card by the builder's one call (the guide's Derived/Test/ToyasCard.lean, 'card_holds'). Laid BY PROGRAM, IN A SANDBOX (cutbox-door.mjs). By AI agents, Wed Nov 11 2026. No macro, syntax, notation, axiom, sorry.
-/
import Derived.Test.YtkodmnooibpflaaDoorRows
import GoSem.ClaimSeven
namespace Go.Proofs.YtkodmnooibpflaaDoor
namespace Rows

/-- THE TIED CARD OF 'jalousielaw.MachineTells'. -/
def machineTellsCard : Claim7 := { stood := { row := machineTellsRow, standIns := [], harness := (true, "7f1fdf33c5ac6dec9297861a312d892674ee7cec92125e327eed333525528bd3"), looks := false }, kinds := [], alts := [], laidByText := true, laidKinds := [.data], laidTests := true, laidLooks := .later }
def MachineTellsCardSaid : Prop := Claim7.holds Tryd.pinned (.plain (OpenSpec.ofChange machineTellsSpec)) machineTellsCard

/-- THE TIED CARD OF 'jalousiekeep.ReachTrims'. -/
def reachTrimsCard : Claim7 := { stood := { row := reachTrimsRow, standIns := [], harness := (true, "7f1fdf33c5ac6dec9297861a312d892674ee7cec92125e327eed333525528bd3"), looks := false }, kinds := [], alts := [], laidByText := true, laidKinds := [.data], laidTests := true, laidLooks := .later }
def ReachTrimsCardSaid : Prop := Claim7.holds Tryd.pinned (.plain (OpenSpec.ofChange reachTrimsSpec)) reachTrimsCard

/-- THE TIED CARD OF 'jalousielaw.HideMakes'. -/
def hideMakesCard : Claim7 := { stood := { row := hideMakesRow, standIns := [], harness := (true, "7f1fdf33c5ac6dec9297861a312d892674ee7cec92125e327eed333525528bd3"), looks := false }, kinds := [], alts := [], laidByText := true, laidKinds := [.data], laidTests := true, laidLooks := .later }
def HideMakesCardSaid : Prop := Claim7.holds Tryd.pinned (.plain (OpenSpec.ofChange hideMakesSpec)) hideMakesCard

/-- THE TIED CARD OF 'jalousielaw.CurrentTells'. -/
def currentTellsCard : Claim7 := { stood := { row := currentTellsRow, standIns := [], harness := (true, "7f1fdf33c5ac6dec9297861a312d892674ee7cec92125e327eed333525528bd3"), looks := false }, kinds := [], alts := [], laidByText := true, laidKinds := [.data], laidTests := true, laidLooks := .later }
def CurrentTellsCardSaid : Prop := Claim7.holds Tryd.pinned (.plain (OpenSpec.ofChange currentTellsSpec)) currentTellsCard

/-- THE TIED CARD OF 'jalousielaw.ControlTells'. -/
def controlTellsCard : Claim7 := { stood := { row := controlTellsRow, standIns := [], harness := (true, "7f1fdf33c5ac6dec9297861a312d892674ee7cec92125e327eed333525528bd3"), looks := false }, kinds := [], alts := [], laidByText := true, laidKinds := [.data], laidTests := true, laidLooks := .later }
def ControlTellsCardSaid : Prop := Claim7.holds Tryd.pinned (.plain (OpenSpec.ofChange controlTellsSpec)) controlTellsCard

/-- THE TIED CARD OF 'jalousielaw.ControlMost'. -/
def controlMostCard : Claim7 := { stood := { row := controlMostRow, standIns := [], harness := (true, "7f1fdf33c5ac6dec9297861a312d892674ee7cec92125e327eed333525528bd3"), looks := false }, kinds := [], alts := [], laidByText := true, laidKinds := [.data], laidTests := true, laidLooks := .later }
def ControlMostCardSaid : Prop := Claim7.holds Tryd.pinned (.plain (OpenSpec.ofChange controlMostSpec)) controlMostCard

/-- THE TIED CARD OF 'jalousielaw.VeilMakes'. -/
def veilMakesCard : Claim7 := { stood := { row := veilMakesRow, standIns := [], harness := (true, "7f1fdf33c5ac6dec9297861a312d892674ee7cec92125e327eed333525528bd3"), looks := false }, kinds := [], alts := [], laidByText := true, laidKinds := [.data], laidTests := true, laidLooks := .later }
def VeilMakesCardSaid : Prop := Claim7.holds Tryd.pinned (.plain (OpenSpec.ofChange veilMakesSpec)) veilMakesCard

/-- THE TIED CARD OF 'jalousielaw.VeilKeeps'. -/
def veilKeepsCard : Claim7 := { stood := { row := veilKeepsRow, standIns := [], harness := (true, "7f1fdf33c5ac6dec9297861a312d892674ee7cec92125e327eed333525528bd3"), looks := false }, kinds := [], alts := [], laidByText := true, laidKinds := [.data], laidTests := true, laidLooks := .later }
def VeilKeepsCardSaid : Prop := Claim7.holds Tryd.pinned (.plain (OpenSpec.ofChange veilKeepsSpec)) veilKeepsCard

/-- THE TIED CARD OF 'jalousielaw.VeilMost'. -/
def veilMostCard : Claim7 := { stood := { row := veilMostRow, standIns := [], harness := (true, "7f1fdf33c5ac6dec9297861a312d892674ee7cec92125e327eed333525528bd3"), looks := false }, kinds := [], alts := [], laidByText := true, laidKinds := [.data], laidTests := true, laidLooks := .later }
def VeilMostCardSaid : Prop := Claim7.holds Tryd.pinned (.plain (OpenSpec.ofChange veilMostSpec)) veilMostCard

/-- THE SECOND FORM's CARD OF 'jalousielaw.MachineTells'. -/
def machineTellsUptoCard : Claim7 := { stood := { row := machineTellsUptoRow, standIns := [], harness := (true, "7f1fdf33c5ac6dec9297861a312d892674ee7cec92125e327eed333525528bd3"), looks := false }, kinds := [], alts := [], laidByText := true, laidKinds := [.data], laidTests := true, laidLooks := .later }
def MachineTellsUptoCardSaid : Prop := Claim7.holds Tryd.pinned (.plain (OpenSpec.upto machineTellsSpec)) machineTellsUptoCard

/-- THE SECOND FORM's CARD OF 'jalousiekeep.ReachTrims'. -/
def reachTrimsUptoCard : Claim7 := { stood := { row := reachTrimsUptoRow, standIns := [], harness := (true, "7f1fdf33c5ac6dec9297861a312d892674ee7cec92125e327eed333525528bd3"), looks := false }, kinds := [], alts := [], laidByText := true, laidKinds := [.data], laidTests := true, laidLooks := .later }
def ReachTrimsUptoCardSaid : Prop := Claim7.holds Tryd.pinned (.plain (OpenSpec.upto reachTrimsSpec)) reachTrimsUptoCard

/-- THE SECOND FORM's CARD OF 'jalousielaw.HideMakes'. -/
def hideMakesUptoCard : Claim7 := { stood := { row := hideMakesUptoRow, standIns := [], harness := (true, "7f1fdf33c5ac6dec9297861a312d892674ee7cec92125e327eed333525528bd3"), looks := false }, kinds := [], alts := [], laidByText := true, laidKinds := [.data], laidTests := true, laidLooks := .later }
def HideMakesUptoCardSaid : Prop := Claim7.holds Tryd.pinned (.plain (OpenSpec.upto hideMakesSpec)) hideMakesUptoCard

/-- THE SECOND FORM's CARD OF 'jalousielaw.CurrentTells'. -/
def currentTellsUptoCard : Claim7 := { stood := { row := currentTellsUptoRow, standIns := [], harness := (true, "7f1fdf33c5ac6dec9297861a312d892674ee7cec92125e327eed333525528bd3"), looks := false }, kinds := [], alts := [], laidByText := true, laidKinds := [.data], laidTests := true, laidLooks := .later }
def CurrentTellsUptoCardSaid : Prop := Claim7.holds Tryd.pinned (.plain (OpenSpec.upto currentTellsSpec)) currentTellsUptoCard

/-- THE SECOND FORM's CARD OF 'jalousielaw.ControlTells'. -/
def controlTellsUptoCard : Claim7 := { stood := { row := controlTellsUptoRow, standIns := [], harness := (true, "7f1fdf33c5ac6dec9297861a312d892674ee7cec92125e327eed333525528bd3"), looks := false }, kinds := [], alts := [], laidByText := true, laidKinds := [.data], laidTests := true, laidLooks := .later }
def ControlTellsUptoCardSaid : Prop := Claim7.holds Tryd.pinned (.plain (OpenSpec.upto controlTellsSpec)) controlTellsUptoCard

/-- THE SECOND FORM's CARD OF 'jalousielaw.ControlMost'. -/
def controlMostUptoCard : Claim7 := { stood := { row := controlMostUptoRow, standIns := [], harness := (true, "7f1fdf33c5ac6dec9297861a312d892674ee7cec92125e327eed333525528bd3"), looks := false }, kinds := [], alts := [], laidByText := true, laidKinds := [.data], laidTests := true, laidLooks := .later }
def ControlMostUptoCardSaid : Prop := Claim7.holds Tryd.pinned (.plain (OpenSpec.upto controlMostSpec)) controlMostUptoCard

/-- THE SECOND FORM's CARD OF 'jalousielaw.VeilMakes'. -/
def veilMakesUptoCard : Claim7 := { stood := { row := veilMakesUptoRow, standIns := [], harness := (true, "7f1fdf33c5ac6dec9297861a312d892674ee7cec92125e327eed333525528bd3"), looks := false }, kinds := [], alts := [], laidByText := true, laidKinds := [.data], laidTests := true, laidLooks := .later }
def VeilMakesUptoCardSaid : Prop := Claim7.holds Tryd.pinned (.plain (OpenSpec.upto veilMakesSpec)) veilMakesUptoCard

/-- THE SECOND FORM's CARD OF 'jalousielaw.VeilKeeps'. -/
def veilKeepsUptoCard : Claim7 := { stood := { row := veilKeepsUptoRow, standIns := [], harness := (true, "7f1fdf33c5ac6dec9297861a312d892674ee7cec92125e327eed333525528bd3"), looks := false }, kinds := [], alts := [], laidByText := true, laidKinds := [.data], laidTests := true, laidLooks := .later }
def VeilKeepsUptoCardSaid : Prop := Claim7.holds Tryd.pinned (.plain (OpenSpec.upto veilKeepsSpec)) veilKeepsUptoCard

/-- THE SECOND FORM's CARD OF 'jalousielaw.VeilMost'. -/
def veilMostUptoCard : Claim7 := { stood := { row := veilMostUptoRow, standIns := [], harness := (true, "7f1fdf33c5ac6dec9297861a312d892674ee7cec92125e327eed333525528bd3"), looks := false }, kinds := [], alts := [], laidByText := true, laidKinds := [.data], laidTests := true, laidLooks := .later }
def VeilMostUptoCardSaid : Prop := Claim7.holds Tryd.pinned (.plain (OpenSpec.upto veilMostSpec)) veilMostUptoCard
end Rows
end Go.Proofs.YtkodmnooibpflaaDoor
