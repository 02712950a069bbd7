/-
  DERIVED. GIVEN WITH THE SEED: THE CARDS: each row of YtdnglodemkeooaaDoorRows.lean that lists a variable, with what it lists TIED to the program's text (the seventh form; the later family's looks); each row that meets fmt, with fmt's text TOLD by the authors' own Lean function (tested against real Go, not proved from fmt's source: count such statements apart). THE CARD IS WHAT COUNTS. Prove the row's statement (the work); the ties are given (YtdnglodemkeooaaDoorTie.lean); close each card by the builder's one call (the guide's Derived/Test/ToyasCard.lean, 'card_holds'). Laid BY PROGRAM, IN A SANDBOX (cutbox-door.mjs). By AI agents, Wed Nov 11 2026. No macro, syntax, notation, axiom, sorry.
-/
import Derived.Test.YtdnglodemkeooaaDoorRows
import GoSem.ClaimSeven
namespace Go.Proofs.YtdnglodemkeooaaDoor
namespace Rows

/-- THE TIED CARD OF 'jalousielaw.MachineTells'. -/
def machineTellsCard : Claim7 := { stood := { row := machineTellsRow, standIns := [], harness := (true, "c1bb086d98237b6e4ba6ba1088fd21c093b040afe81524d039d8cbac6400c677"), looks := false }, kinds := [], alts := [], laidByText := true, laidKinds := [.data], laidTests := true, laidLooks := .later }
def MachineTellsCardSaid : Prop := Claim7.holds Tryd.pinned (.plain (OpenSpec.ofChange machineTellsSpec)) machineTellsCard

/-- THE TIED CARD OF 'jalousiekeep.MachineSplits'. -/
def machineSplitsCard : Claim7 := { stood := { row := machineSplitsRow, standIns := [], harness := (true, "c1bb086d98237b6e4ba6ba1088fd21c093b040afe81524d039d8cbac6400c677"), looks := false }, kinds := [], alts := [], laidByText := true, laidKinds := [.data], laidTests := true, laidLooks := .later }
def MachineSplitsCardSaid : Prop := Claim7.holds Tryd.pinned (.plain (OpenSpec.ofChange machineSplitsSpec)) machineSplitsCard

/-- THE TIED CARD OF 'jalousielaw.ReachTells'. -/
def reachTellsCard : Claim7 := { stood := { row := reachTellsRow, standIns := [], harness := (true, "c1bb086d98237b6e4ba6ba1088fd21c093b040afe81524d039d8cbac6400c677"), looks := false }, kinds := [], alts := [], laidByText := true, laidKinds := [.data], laidTests := true, laidLooks := .later }
def ReachTellsCardSaid : Prop := Claim7.holds Tryd.pinned (.plain (OpenSpec.ofChange reachTellsSpec)) reachTellsCard

/-- THE TIED CARD OF 'jalousiekeep.ReachTrims'. -/
def reachTrimsCard : Claim7 := { stood := { row := reachTrimsRow, standIns := [], harness := (true, "c1bb086d98237b6e4ba6ba1088fd21c093b040afe81524d039d8cbac6400c677"), looks := false }, kinds := [], alts := [], laidByText := true, laidKinds := [.data], laidTests := true, laidLooks := .later }
def ReachTrimsCardSaid : Prop := Claim7.holds Tryd.pinned (.plain (OpenSpec.ofChange reachTrimsSpec)) reachTrimsCard

/-- THE TIED CARD OF 'jalousiekeep.BesideBoth'. -/
def besideBothCard : Claim7 := { stood := { row := besideBothRow, standIns := [], harness := (true, "c1bb086d98237b6e4ba6ba1088fd21c093b040afe81524d039d8cbac6400c677"), looks := false }, kinds := [], alts := [], laidByText := true, laidKinds := [.data], laidTests := true, laidLooks := .later }
def BesideBothCardSaid : Prop := Claim7.holds Tryd.pinned (.plain (OpenSpec.ofChange besideBothSpec)) besideBothCard

/-- THE TIED CARD OF 'jalousielaw.HideMakes'. -/
def hideMakesCard : Claim7 := { stood := { row := hideMakesRow, standIns := [], harness := (true, "c1bb086d98237b6e4ba6ba1088fd21c093b040afe81524d039d8cbac6400c677"), looks := false }, kinds := [], alts := [], laidByText := true, laidKinds := [.data], laidTests := true, laidLooks := .later }
def HideMakesCardSaid : Prop := Claim7.holds Tryd.pinned (.plain (OpenSpec.ofChange hideMakesSpec)) hideMakesCard

/-- THE TIED CARD OF 'jalousiekeep.HideSees'. -/
def hideSeesCard : Claim7 := { stood := { row := hideSeesRow, standIns := [], harness := (true, "c1bb086d98237b6e4ba6ba1088fd21c093b040afe81524d039d8cbac6400c677"), looks := false }, kinds := [], alts := [], laidByText := true, laidKinds := [.data], laidTests := true, laidLooks := .later }
def HideSeesCardSaid : Prop := Claim7.holds Tryd.pinned (.plain (OpenSpec.ofChange hideSeesSpec)) hideSeesCard

/-- THE TIED CARD OF 'jalousielaw.DetermineMakes'. -/
def determineMakesCard : Claim7 := { stood := { row := determineMakesRow, standIns := [], harness := (true, "c1bb086d98237b6e4ba6ba1088fd21c093b040afe81524d039d8cbac6400c677"), looks := false }, kinds := [], alts := [], laidByText := true, laidKinds := [.data], laidTests := true, laidLooks := .later }
def DetermineMakesCardSaid : Prop := Claim7.holds Tryd.pinned (.plain (OpenSpec.ofChange determineMakesSpec)) determineMakesCard

/-- THE TIED CARD OF 'jalousiekeep.DetermineSame'. -/
def determineSameCard : Claim7 := { stood := { row := determineSameRow, standIns := [], harness := (true, "c1bb086d98237b6e4ba6ba1088fd21c093b040afe81524d039d8cbac6400c677"), looks := false }, kinds := [], alts := [], laidByText := true, laidKinds := [.data], laidTests := true, laidLooks := .later }
def DetermineSameCardSaid : Prop := Claim7.holds Tryd.pinned (.plain (OpenSpec.ofChange determineSameSpec)) determineSameCard

/-- THE TIED CARD OF 'jalousielaw.WithinTells'. -/
def withinTellsCard : Claim7 := { stood := { row := withinTellsRow, standIns := [], harness := (true, "c1bb086d98237b6e4ba6ba1088fd21c093b040afe81524d039d8cbac6400c677"), looks := false }, kinds := [], alts := [], laidByText := true, laidKinds := [.data], laidTests := true, laidLooks := .later }
def WithinTellsCardSaid : Prop := Claim7.holds Tryd.pinned (.plain (OpenSpec.ofChange withinTellsSpec)) withinTellsCard

/-- THE TIED CARD OF 'jalousiekeep.WithinSays'. -/
def withinSaysCard : Claim7 := { stood := { row := withinSaysRow, standIns := [], harness := (true, "c1bb086d98237b6e4ba6ba1088fd21c093b040afe81524d039d8cbac6400c677"), looks := false }, kinds := [], alts := [], laidByText := true, laidKinds := [.data], laidTests := true, laidLooks := .later }
def WithinSaysCardSaid : Prop := Claim7.holds Tryd.pinned (.plain (OpenSpec.ofChange withinSaysSpec)) withinSaysCard

/-- THE SECOND FORM's CARD OF 'jalousielaw.MachineTells'. -/
def machineTellsUptoCard : Claim7 := { stood := { row := machineTellsUptoRow, standIns := [], harness := (true, "c1bb086d98237b6e4ba6ba1088fd21c093b040afe81524d039d8cbac6400c677"), looks := false }, kinds := [], alts := [], laidByText := true, laidKinds := [.data], laidTests := true, laidLooks := .later }
def MachineTellsUptoCardSaid : Prop := Claim7.holds Tryd.pinned (.plain (OpenSpec.upto machineTellsSpec)) machineTellsUptoCard

/-- THE SECOND FORM's CARD OF 'jalousiekeep.MachineSplits'. -/
def machineSplitsUptoCard : Claim7 := { stood := { row := machineSplitsUptoRow, standIns := [], harness := (true, "c1bb086d98237b6e4ba6ba1088fd21c093b040afe81524d039d8cbac6400c677"), looks := false }, kinds := [], alts := [], laidByText := true, laidKinds := [.data], laidTests := true, laidLooks := .later }
def MachineSplitsUptoCardSaid : Prop := Claim7.holds Tryd.pinned (.plain (OpenSpec.upto machineSplitsSpec)) machineSplitsUptoCard

/-- THE SECOND FORM's CARD OF 'jalousielaw.ReachTells'. -/
def reachTellsUptoCard : Claim7 := { stood := { row := reachTellsUptoRow, standIns := [], harness := (true, "c1bb086d98237b6e4ba6ba1088fd21c093b040afe81524d039d8cbac6400c677"), looks := false }, kinds := [], alts := [], laidByText := true, laidKinds := [.data], laidTests := true, laidLooks := .later }
def ReachTellsUptoCardSaid : Prop := Claim7.holds Tryd.pinned (.plain (OpenSpec.upto reachTellsSpec)) reachTellsUptoCard

/-- THE SECOND FORM's CARD OF 'jalousiekeep.ReachTrims'. -/
def reachTrimsUptoCard : Claim7 := { stood := { row := reachTrimsUptoRow, standIns := [], harness := (true, "c1bb086d98237b6e4ba6ba1088fd21c093b040afe81524d039d8cbac6400c677"), looks := false }, kinds := [], alts := [], laidByText := true, laidKinds := [.data], laidTests := true, laidLooks := .later }
def ReachTrimsUptoCardSaid : Prop := Claim7.holds Tryd.pinned (.plain (OpenSpec.upto reachTrimsSpec)) reachTrimsUptoCard

/-- THE SECOND FORM's CARD OF 'jalousiekeep.BesideBoth'. -/
def besideBothUptoCard : Claim7 := { stood := { row := besideBothUptoRow, standIns := [], harness := (true, "c1bb086d98237b6e4ba6ba1088fd21c093b040afe81524d039d8cbac6400c677"), looks := false }, kinds := [], alts := [], laidByText := true, laidKinds := [.data], laidTests := true, laidLooks := .later }
def BesideBothUptoCardSaid : Prop := Claim7.holds Tryd.pinned (.plain (OpenSpec.upto besideBothSpec)) besideBothUptoCard

/-- THE SECOND FORM's CARD OF 'jalousielaw.HideMakes'. -/
def hideMakesUptoCard : Claim7 := { stood := { row := hideMakesUptoRow, standIns := [], harness := (true, "c1bb086d98237b6e4ba6ba1088fd21c093b040afe81524d039d8cbac6400c677"), looks := false }, kinds := [], alts := [], laidByText := true, laidKinds := [.data], laidTests := true, laidLooks := .later }
def HideMakesUptoCardSaid : Prop := Claim7.holds Tryd.pinned (.plain (OpenSpec.upto hideMakesSpec)) hideMakesUptoCard

/-- THE SECOND FORM's CARD OF 'jalousiekeep.HideSees'. -/
def hideSeesUptoCard : Claim7 := { stood := { row := hideSeesUptoRow, standIns := [], harness := (true, "c1bb086d98237b6e4ba6ba1088fd21c093b040afe81524d039d8cbac6400c677"), looks := false }, kinds := [], alts := [], laidByText := true, laidKinds := [.data], laidTests := true, laidLooks := .later }
def HideSeesUptoCardSaid : Prop := Claim7.holds Tryd.pinned (.plain (OpenSpec.upto hideSeesSpec)) hideSeesUptoCard

/-- THE SECOND FORM's CARD OF 'jalousielaw.DetermineMakes'. -/
def determineMakesUptoCard : Claim7 := { stood := { row := determineMakesUptoRow, standIns := [], harness := (true, "c1bb086d98237b6e4ba6ba1088fd21c093b040afe81524d039d8cbac6400c677"), looks := false }, kinds := [], alts := [], laidByText := true, laidKinds := [.data], laidTests := true, laidLooks := .later }
def DetermineMakesUptoCardSaid : Prop := Claim7.holds Tryd.pinned (.plain (OpenSpec.upto determineMakesSpec)) determineMakesUptoCard

/-- THE SECOND FORM's CARD OF 'jalousiekeep.DetermineSame'. -/
def determineSameUptoCard : Claim7 := { stood := { row := determineSameUptoRow, standIns := [], harness := (true, "c1bb086d98237b6e4ba6ba1088fd21c093b040afe81524d039d8cbac6400c677"), looks := false }, kinds := [], alts := [], laidByText := true, laidKinds := [.data], laidTests := true, laidLooks := .later }
def DetermineSameUptoCardSaid : Prop := Claim7.holds Tryd.pinned (.plain (OpenSpec.upto determineSameSpec)) determineSameUptoCard

/-- THE SECOND FORM's CARD OF 'jalousielaw.WithinTells'. -/
def withinTellsUptoCard : Claim7 := { stood := { row := withinTellsUptoRow, standIns := [], harness := (true, "c1bb086d98237b6e4ba6ba1088fd21c093b040afe81524d039d8cbac6400c677"), looks := false }, kinds := [], alts := [], laidByText := true, laidKinds := [.data], laidTests := true, laidLooks := .later }
def WithinTellsUptoCardSaid : Prop := Claim7.holds Tryd.pinned (.plain (OpenSpec.upto withinTellsSpec)) withinTellsUptoCard

/-- THE SECOND FORM's CARD OF 'jalousiekeep.WithinSays'. -/
def withinSaysUptoCard : Claim7 := { stood := { row := withinSaysUptoRow, standIns := [], harness := (true, "c1bb086d98237b6e4ba6ba1088fd21c093b040afe81524d039d8cbac6400c677"), looks := false }, kinds := [], alts := [], laidByText := true, laidKinds := [.data], laidTests := true, laidLooks := .later }
def WithinSaysUptoCardSaid : Prop := Claim7.holds Tryd.pinned (.plain (OpenSpec.upto withinSaysSpec)) withinSaysUptoCard
end Rows
end Go.Proofs.YtdnglodemkeooaaDoor
