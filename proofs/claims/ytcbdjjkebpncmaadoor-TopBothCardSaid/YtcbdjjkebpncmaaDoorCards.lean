/-
  DERIVED. GIVEN WITH THE SEED: THE CARDS: each row of YtcbdjjkebpncmaaDoorRows.lean that lists a variable, with what it lists TIED to the program's text (the seventh form; the later family's looks); each row that meets fmt, with fmt's text TOLD by the authors' own Lean function (tested against real Go, not proved from fmt's source: count such statements apart). THE CARD IS WHAT COUNTS. Prove the row's statement (the work); the ties are given (YtcbdjjkebpncmaaDoorTie.lean); close each card by the builder's one call (the guide's Derived/Test/ToyasCard.lean, 'card_holds'). Laid BY PROGRAM, IN A SANDBOX (cutbox-door.mjs). By AI agents, Wed Nov 11 2026. No macro, syntax, notation, axiom, sorry.
-/
import Derived.Test.YtcbdjjkebpncmaaDoorRows
import GoSem.ClaimSeven
namespace Go.Proofs.YtcbdjjkebpncmaaDoor
namespace Rows

/-- THE TIED CARD OF 'jalousielaw.MachineTells'. -/
def machineTellsCard : Claim7 := { stood := { row := machineTellsRow, standIns := [], harness := (true, "40c8e4dd3c54619412354ebcfb59fc57d64517c92b802be8ce87576b3066c6b2"), looks := false }, kinds := [], alts := [], laidByText := true, laidKinds := [.data], laidTests := true, laidLooks := .later }
def MachineTellsCardSaid : Prop := Claim7.holds Tryd.pinned (.plain (OpenSpec.ofChange machineTellsSpec)) machineTellsCard

/-- THE TIED CARD OF 'jalousiekeep.ReachTrims'. -/
def reachTrimsCard : Claim7 := { stood := { row := reachTrimsRow, standIns := [], harness := (true, "40c8e4dd3c54619412354ebcfb59fc57d64517c92b802be8ce87576b3066c6b2"), looks := false }, kinds := [], alts := [], laidByText := true, laidKinds := [.data], laidTests := true, laidLooks := .later }
def ReachTrimsCardSaid : Prop := Claim7.holds Tryd.pinned (.plain (OpenSpec.ofChange reachTrimsSpec)) reachTrimsCard

/-- THE TIED CARD OF 'jalousiekeep.BesideBoth'. -/
def besideBothCard : Claim7 := { stood := { row := besideBothRow, standIns := [], harness := (true, "40c8e4dd3c54619412354ebcfb59fc57d64517c92b802be8ce87576b3066c6b2"), looks := false }, kinds := [], alts := [], laidByText := true, laidKinds := [.data], laidTests := true, laidLooks := .later }
def BesideBothCardSaid : Prop := Claim7.holds Tryd.pinned (.plain (OpenSpec.ofChange besideBothSpec)) besideBothCard

/-- THE TIED CARD OF 'jalousiekeep.DetermineSame'. -/
def determineSameCard : Claim7 := { stood := { row := determineSameRow, standIns := [], harness := (true, "40c8e4dd3c54619412354ebcfb59fc57d64517c92b802be8ce87576b3066c6b2"), looks := false }, kinds := [], alts := [], laidByText := true, laidKinds := [.data], laidTests := true, laidLooks := .later }
def DetermineSameCardSaid : Prop := Claim7.holds Tryd.pinned (.plain (OpenSpec.ofChange determineSameSpec)) determineSameCard

/-- THE TIED CARD OF 'jalousielaw.WithinTells'. -/
def withinTellsCard : Claim7 := { stood := { row := withinTellsRow, standIns := [], harness := (true, "40c8e4dd3c54619412354ebcfb59fc57d64517c92b802be8ce87576b3066c6b2"), looks := false }, kinds := [], alts := [], laidByText := true, laidKinds := [.data], laidTests := true, laidLooks := .later }
def WithinTellsCardSaid : Prop := Claim7.holds Tryd.pinned (.plain (OpenSpec.ofChange withinTellsSpec)) withinTellsCard

/-- THE TIED CARD OF 'jalousiekeep.WithinSays'. -/
def withinSaysCard : Claim7 := { stood := { row := withinSaysRow, standIns := [], harness := (true, "40c8e4dd3c54619412354ebcfb59fc57d64517c92b802be8ce87576b3066c6b2"), looks := false }, kinds := [], alts := [], laidByText := true, laidKinds := [.data], laidTests := true, laidLooks := .later }
def WithinSaysCardSaid : Prop := Claim7.holds Tryd.pinned (.plain (OpenSpec.ofChange withinSaysSpec)) withinSaysCard

/-- THE TIED CARD OF 'jalousietop.TopBoth'. -/
def topBothCard : Claim7 := { stood := { row := topBothRow, standIns := [], harness := (true, "40c8e4dd3c54619412354ebcfb59fc57d64517c92b802be8ce87576b3066c6b2"), looks := false }, kinds := [], alts := [], laidByText := true, laidKinds := [.data], laidTests := true, laidLooks := .later }
def TopBothCardSaid : Prop := Claim7.holds Tryd.pinned (.plain (OpenSpec.ofChange topBothSpec)) topBothCard

/-- THE SECOND FORM's CARD OF 'jalousielaw.MachineTells'. -/
def machineTellsUptoCard : Claim7 := { stood := { row := machineTellsUptoRow, standIns := [], harness := (true, "40c8e4dd3c54619412354ebcfb59fc57d64517c92b802be8ce87576b3066c6b2"), looks := false }, kinds := [], alts := [], laidByText := true, laidKinds := [.data], laidTests := true, laidLooks := .later }
def MachineTellsUptoCardSaid : Prop := Claim7.holds Tryd.pinned (.plain (OpenSpec.upto machineTellsSpec)) machineTellsUptoCard

/-- THE SECOND FORM's CARD OF 'jalousiekeep.ReachTrims'. -/
def reachTrimsUptoCard : Claim7 := { stood := { row := reachTrimsUptoRow, standIns := [], harness := (true, "40c8e4dd3c54619412354ebcfb59fc57d64517c92b802be8ce87576b3066c6b2"), looks := false }, kinds := [], alts := [], laidByText := true, laidKinds := [.data], laidTests := true, laidLooks := .later }
def ReachTrimsUptoCardSaid : Prop := Claim7.holds Tryd.pinned (.plain (OpenSpec.upto reachTrimsSpec)) reachTrimsUptoCard

/-- THE SECOND FORM's CARD OF 'jalousiekeep.BesideBoth'. -/
def besideBothUptoCard : Claim7 := { stood := { row := besideBothUptoRow, standIns := [], harness := (true, "40c8e4dd3c54619412354ebcfb59fc57d64517c92b802be8ce87576b3066c6b2"), looks := false }, kinds := [], alts := [], laidByText := true, laidKinds := [.data], laidTests := true, laidLooks := .later }
def BesideBothUptoCardSaid : Prop := Claim7.holds Tryd.pinned (.plain (OpenSpec.upto besideBothSpec)) besideBothUptoCard

/-- THE SECOND FORM's CARD OF 'jalousiekeep.DetermineSame'. -/
def determineSameUptoCard : Claim7 := { stood := { row := determineSameUptoRow, standIns := [], harness := (true, "40c8e4dd3c54619412354ebcfb59fc57d64517c92b802be8ce87576b3066c6b2"), looks := false }, kinds := [], alts := [], laidByText := true, laidKinds := [.data], laidTests := true, laidLooks := .later }
def DetermineSameUptoCardSaid : Prop := Claim7.holds Tryd.pinned (.plain (OpenSpec.upto determineSameSpec)) determineSameUptoCard

/-- THE SECOND FORM's CARD OF 'jalousielaw.WithinTells'. -/
def withinTellsUptoCard : Claim7 := { stood := { row := withinTellsUptoRow, standIns := [], harness := (true, "40c8e4dd3c54619412354ebcfb59fc57d64517c92b802be8ce87576b3066c6b2"), looks := false }, kinds := [], alts := [], laidByText := true, laidKinds := [.data], laidTests := true, laidLooks := .later }
def WithinTellsUptoCardSaid : Prop := Claim7.holds Tryd.pinned (.plain (OpenSpec.upto withinTellsSpec)) withinTellsUptoCard

/-- THE SECOND FORM's CARD OF 'jalousiekeep.WithinSays'. -/
def withinSaysUptoCard : Claim7 := { stood := { row := withinSaysUptoRow, standIns := [], harness := (true, "40c8e4dd3c54619412354ebcfb59fc57d64517c92b802be8ce87576b3066c6b2"), looks := false }, kinds := [], alts := [], laidByText := true, laidKinds := [.data], laidTests := true, laidLooks := .later }
def WithinSaysUptoCardSaid : Prop := Claim7.holds Tryd.pinned (.plain (OpenSpec.upto withinSaysSpec)) withinSaysUptoCard

/-- THE SECOND FORM's CARD OF 'jalousietop.TopBoth'. -/
def topBothUptoCard : Claim7 := { stood := { row := topBothUptoRow, standIns := [], harness := (true, "40c8e4dd3c54619412354ebcfb59fc57d64517c92b802be8ce87576b3066c6b2"), looks := false }, kinds := [], alts := [], laidByText := true, laidKinds := [.data], laidTests := true, laidLooks := .later }
def TopBothUptoCardSaid : Prop := Claim7.holds Tryd.pinned (.plain (OpenSpec.upto topBothSpec)) topBothUptoCard
end Rows
end Go.Proofs.YtcbdjjkebpncmaaDoor
