/-
  DERIVED. GIVEN WITH THE SEED: THE CARDS: each row of YtmimjpkllgjdkaaDoorRows.lean that lists a variable, with what it lists TIED to the program's text (the seventh form; the later family's looks); each row that meets fmt, with fmt's text TOLD by the authors' own Lean function (tested against real Go, not proved from fmt's source: count such statements apart). THE CARD IS WHAT COUNTS. Prove the row's statement (the work); the ties are given (YtmimjpkllgjdkaaDoorTie.lean); close each card by the builder's one call (the guide's Derived/Test/ToyasCard.lean, 'card_holds'). Laid BY PROGRAM, IN A SANDBOX (cutbox-door.mjs). By AI agents, Wed Nov 11 2026. No macro, syntax, notation, axiom, sorry.
-/
import Derived.Test.YtmimjpkllgjdkaaDoorRows
import GoSem.ClaimSeven
namespace Go.Proofs.YtmimjpkllgjdkaaDoor
namespace Rows

/-- THE TIED CARD OF 'jalousielaw.MachineTells'. -/
def machineTellsCard : Claim7 := { stood := { row := machineTellsRow, standIns := [], harness := (true, "7618b4d80b1b90beba84111e7491196f3a27a1b23f36aa1ba5eaf83366a8a9d5"), looks := false }, kinds := [], alts := [], laidByText := true, laidKinds := [.data], laidTests := true, laidLooks := .later }
def MachineTellsCardSaid : Prop := Claim7.holds Tryd.pinned (.plain (OpenSpec.ofChange machineTellsSpec)) machineTellsCard

/-- THE TIED CARD OF 'jalousiekeep.ReachTrims'. -/
def reachTrimsCard : Claim7 := { stood := { row := reachTrimsRow, standIns := [], harness := (true, "7618b4d80b1b90beba84111e7491196f3a27a1b23f36aa1ba5eaf83366a8a9d5"), looks := false }, kinds := [], alts := [], laidByText := true, laidKinds := [.data], laidTests := true, laidLooks := .later }
def ReachTrimsCardSaid : Prop := Claim7.holds Tryd.pinned (.plain (OpenSpec.ofChange reachTrimsSpec)) reachTrimsCard

/-- THE TIED CARD OF 'jalousielaw.HideMakes'. -/
def hideMakesCard : Claim7 := { stood := { row := hideMakesRow, standIns := [], harness := (true, "7618b4d80b1b90beba84111e7491196f3a27a1b23f36aa1ba5eaf83366a8a9d5"), looks := false }, kinds := [], alts := [], laidByText := true, laidKinds := [.data], laidTests := true, laidLooks := .later }
def HideMakesCardSaid : Prop := Claim7.holds Tryd.pinned (.plain (OpenSpec.ofChange hideMakesSpec)) hideMakesCard

/-- THE TIED CARD OF 'jalousielaw.CurrentTells'. -/
def currentTellsCard : Claim7 := { stood := { row := currentTellsRow, standIns := [], harness := (true, "7618b4d80b1b90beba84111e7491196f3a27a1b23f36aa1ba5eaf83366a8a9d5"), looks := false }, kinds := [], alts := [], laidByText := true, laidKinds := [.data], laidTests := true, laidLooks := .later }
def CurrentTellsCardSaid : Prop := Claim7.holds Tryd.pinned (.plain (OpenSpec.ofChange currentTellsSpec)) currentTellsCard

/-- THE TIED CARD OF 'jalousiekeep.CurrentKeeps'. -/
def currentKeepsCard : Claim7 := { stood := { row := currentKeepsRow, standIns := [], harness := (true, "7618b4d80b1b90beba84111e7491196f3a27a1b23f36aa1ba5eaf83366a8a9d5"), looks := false }, kinds := [], alts := [], laidByText := true, laidKinds := [.data], laidTests := true, laidLooks := .later }
def CurrentKeepsCardSaid : Prop := Claim7.holds Tryd.pinned (.plain (OpenSpec.ofChange currentKeepsSpec)) currentKeepsCard

/-- THE TIED CARD OF 'jalousielaw.InitialTells'. -/
def initialTellsCard : Claim7 := { stood := { row := initialTellsRow, standIns := [], harness := (true, "7618b4d80b1b90beba84111e7491196f3a27a1b23f36aa1ba5eaf83366a8a9d5"), looks := false }, kinds := [], alts := [], laidByText := true, laidKinds := [.data], laidTests := true, laidLooks := .later }
def InitialTellsCardSaid : Prop := Claim7.holds Tryd.pinned (.plain (OpenSpec.ofChange initialTellsSpec)) initialTellsCard

/-- THE TIED CARD OF 'jalousiekeep.InitialKeeps'. -/
def initialKeepsCard : Claim7 := { stood := { row := initialKeepsRow, standIns := [], harness := (true, "7618b4d80b1b90beba84111e7491196f3a27a1b23f36aa1ba5eaf83366a8a9d5"), looks := false }, kinds := [], alts := [], laidByText := true, laidKinds := [.data], laidTests := true, laidLooks := .later }
def InitialKeepsCardSaid : Prop := Claim7.holds Tryd.pinned (.plain (OpenSpec.ofChange initialKeepsSpec)) initialKeepsCard

/-- THE TIED CARD OF 'jalousielaw.StepsTells'. -/
def stepsTellsCard : Claim7 := { stood := { row := stepsTellsRow, standIns := [], harness := (true, "7618b4d80b1b90beba84111e7491196f3a27a1b23f36aa1ba5eaf83366a8a9d5"), looks := false }, kinds := [], alts := [], laidByText := true, laidKinds := [.data], laidTests := true, laidLooks := .later }
def StepsTellsCardSaid : Prop := Claim7.holds Tryd.pinned (.plain (OpenSpec.ofChange stepsTellsSpec)) stepsTellsCard

/-- THE TIED CARD OF 'jalousiekeep.StepsKeeps'. -/
def stepsKeepsCard : Claim7 := { stood := { row := stepsKeepsRow, standIns := [], harness := (true, "7618b4d80b1b90beba84111e7491196f3a27a1b23f36aa1ba5eaf83366a8a9d5"), looks := false }, kinds := [], alts := [], laidByText := true, laidKinds := [.data], laidTests := true, laidLooks := .later }
def StepsKeepsCardSaid : Prop := Claim7.holds Tryd.pinned (.plain (OpenSpec.ofChange stepsKeepsSpec)) stepsKeepsCard

/-- THE TIED CARD OF 'jalousiekeep.StepsMore'. -/
def stepsMoreCard : Claim7 := { stood := { row := stepsMoreRow, standIns := [], harness := (true, "7618b4d80b1b90beba84111e7491196f3a27a1b23f36aa1ba5eaf83366a8a9d5"), looks := false }, kinds := [], alts := [], laidByText := true, laidKinds := [.data], laidTests := true, laidLooks := .later }
def StepsMoreCardSaid : Prop := Claim7.holds Tryd.pinned (.plain (OpenSpec.ofChange stepsMoreSpec)) stepsMoreCard

/-- THE TIED CARD OF 'jalousietop.TopSeen'. -/
def topSeenCard : Claim7 := { stood := { row := topSeenRow, standIns := [], harness := (true, "7618b4d80b1b90beba84111e7491196f3a27a1b23f36aa1ba5eaf83366a8a9d5"), looks := false }, kinds := [], alts := [], laidByText := true, laidKinds := [.data], laidTests := true, laidLooks := .later }
def TopSeenCardSaid : Prop := Claim7.holds Tryd.pinned (.plain (OpenSpec.ofChange topSeenSpec)) topSeenCard

/-- THE SECOND FORM's CARD OF 'jalousielaw.MachineTells'. -/
def machineTellsUptoCard : Claim7 := { stood := { row := machineTellsUptoRow, standIns := [], harness := (true, "7618b4d80b1b90beba84111e7491196f3a27a1b23f36aa1ba5eaf83366a8a9d5"), looks := false }, kinds := [], alts := [], laidByText := true, laidKinds := [.data], laidTests := true, laidLooks := .later }
def MachineTellsUptoCardSaid : Prop := Claim7.holds Tryd.pinned (.plain (OpenSpec.upto machineTellsSpec)) machineTellsUptoCard

/-- THE SECOND FORM's CARD OF 'jalousiekeep.ReachTrims'. -/
def reachTrimsUptoCard : Claim7 := { stood := { row := reachTrimsUptoRow, standIns := [], harness := (true, "7618b4d80b1b90beba84111e7491196f3a27a1b23f36aa1ba5eaf83366a8a9d5"), looks := false }, kinds := [], alts := [], laidByText := true, laidKinds := [.data], laidTests := true, laidLooks := .later }
def ReachTrimsUptoCardSaid : Prop := Claim7.holds Tryd.pinned (.plain (OpenSpec.upto reachTrimsSpec)) reachTrimsUptoCard

/-- THE SECOND FORM's CARD OF 'jalousielaw.HideMakes'. -/
def hideMakesUptoCard : Claim7 := { stood := { row := hideMakesUptoRow, standIns := [], harness := (true, "7618b4d80b1b90beba84111e7491196f3a27a1b23f36aa1ba5eaf83366a8a9d5"), looks := false }, kinds := [], alts := [], laidByText := true, laidKinds := [.data], laidTests := true, laidLooks := .later }
def HideMakesUptoCardSaid : Prop := Claim7.holds Tryd.pinned (.plain (OpenSpec.upto hideMakesSpec)) hideMakesUptoCard

/-- THE SECOND FORM's CARD OF 'jalousielaw.CurrentTells'. -/
def currentTellsUptoCard : Claim7 := { stood := { row := currentTellsUptoRow, standIns := [], harness := (true, "7618b4d80b1b90beba84111e7491196f3a27a1b23f36aa1ba5eaf83366a8a9d5"), looks := false }, kinds := [], alts := [], laidByText := true, laidKinds := [.data], laidTests := true, laidLooks := .later }
def CurrentTellsUptoCardSaid : Prop := Claim7.holds Tryd.pinned (.plain (OpenSpec.upto currentTellsSpec)) currentTellsUptoCard

/-- THE SECOND FORM's CARD OF 'jalousiekeep.CurrentKeeps'. -/
def currentKeepsUptoCard : Claim7 := { stood := { row := currentKeepsUptoRow, standIns := [], harness := (true, "7618b4d80b1b90beba84111e7491196f3a27a1b23f36aa1ba5eaf83366a8a9d5"), looks := false }, kinds := [], alts := [], laidByText := true, laidKinds := [.data], laidTests := true, laidLooks := .later }
def CurrentKeepsUptoCardSaid : Prop := Claim7.holds Tryd.pinned (.plain (OpenSpec.upto currentKeepsSpec)) currentKeepsUptoCard

/-- THE SECOND FORM's CARD OF 'jalousielaw.InitialTells'. -/
def initialTellsUptoCard : Claim7 := { stood := { row := initialTellsUptoRow, standIns := [], harness := (true, "7618b4d80b1b90beba84111e7491196f3a27a1b23f36aa1ba5eaf83366a8a9d5"), looks := false }, kinds := [], alts := [], laidByText := true, laidKinds := [.data], laidTests := true, laidLooks := .later }
def InitialTellsUptoCardSaid : Prop := Claim7.holds Tryd.pinned (.plain (OpenSpec.upto initialTellsSpec)) initialTellsUptoCard

/-- THE SECOND FORM's CARD OF 'jalousiekeep.InitialKeeps'. -/
def initialKeepsUptoCard : Claim7 := { stood := { row := initialKeepsUptoRow, standIns := [], harness := (true, "7618b4d80b1b90beba84111e7491196f3a27a1b23f36aa1ba5eaf83366a8a9d5"), looks := false }, kinds := [], alts := [], laidByText := true, laidKinds := [.data], laidTests := true, laidLooks := .later }
def InitialKeepsUptoCardSaid : Prop := Claim7.holds Tryd.pinned (.plain (OpenSpec.upto initialKeepsSpec)) initialKeepsUptoCard

/-- THE SECOND FORM's CARD OF 'jalousielaw.StepsTells'. -/
def stepsTellsUptoCard : Claim7 := { stood := { row := stepsTellsUptoRow, standIns := [], harness := (true, "7618b4d80b1b90beba84111e7491196f3a27a1b23f36aa1ba5eaf83366a8a9d5"), looks := false }, kinds := [], alts := [], laidByText := true, laidKinds := [.data], laidTests := true, laidLooks := .later }
def StepsTellsUptoCardSaid : Prop := Claim7.holds Tryd.pinned (.plain (OpenSpec.upto stepsTellsSpec)) stepsTellsUptoCard

/-- THE SECOND FORM's CARD OF 'jalousiekeep.StepsKeeps'. -/
def stepsKeepsUptoCard : Claim7 := { stood := { row := stepsKeepsUptoRow, standIns := [], harness := (true, "7618b4d80b1b90beba84111e7491196f3a27a1b23f36aa1ba5eaf83366a8a9d5"), looks := false }, kinds := [], alts := [], laidByText := true, laidKinds := [.data], laidTests := true, laidLooks := .later }
def StepsKeepsUptoCardSaid : Prop := Claim7.holds Tryd.pinned (.plain (OpenSpec.upto stepsKeepsSpec)) stepsKeepsUptoCard

/-- THE SECOND FORM's CARD OF 'jalousiekeep.StepsMore'. -/
def stepsMoreUptoCard : Claim7 := { stood := { row := stepsMoreUptoRow, standIns := [], harness := (true, "7618b4d80b1b90beba84111e7491196f3a27a1b23f36aa1ba5eaf83366a8a9d5"), looks := false }, kinds := [], alts := [], laidByText := true, laidKinds := [.data], laidTests := true, laidLooks := .later }
def StepsMoreUptoCardSaid : Prop := Claim7.holds Tryd.pinned (.plain (OpenSpec.upto stepsMoreSpec)) stepsMoreUptoCard

/-- THE SECOND FORM's CARD OF 'jalousietop.TopSeen'. -/
def topSeenUptoCard : Claim7 := { stood := { row := topSeenUptoRow, standIns := [], harness := (true, "7618b4d80b1b90beba84111e7491196f3a27a1b23f36aa1ba5eaf83366a8a9d5"), looks := false }, kinds := [], alts := [], laidByText := true, laidKinds := [.data], laidTests := true, laidLooks := .later }
def TopSeenUptoCardSaid : Prop := Claim7.holds Tryd.pinned (.plain (OpenSpec.upto topSeenSpec)) topSeenUptoCard
end Rows
end Go.Proofs.YtmimjpkllgjdkaaDoor
