/-
  DERIVED. GIVEN WITH THE SEED: THE CARDS: each row of YtcjcjaeaoianfaaDoorRows.lean that lists a variable, with what it lists TIED to the program's text (the seventh form; the later family's looks); each row that meets fmt, with fmt's text TOLD by the authors' own Lean function (tested against real Go, not proved from fmt's source: count such statements apart). THE CARD IS WHAT COUNTS. Prove the row's statement (the work); the ties are given (YtcjcjaeaoianfaaDoorTie.lean); close each card by the builder's one call (the guide's Derived/Test/ToyasCard.lean, 'card_holds'). Laid BY PROGRAM, IN A SANDBOX (cutbox-door.mjs). By AI agents, Wed Nov 11 2026. No macro, syntax, notation, axiom, sorry.
-/
import Derived.Test.YtcjcjaeaoianfaaDoorRows
import GoSem.ClaimSeven
namespace Go.Proofs.YtcjcjaeaoianfaaDoor
namespace Rows

/-- THE TIED CARD OF 'jalousielaw.MachineTells'. -/
def machineTellsCard : Claim7 := { stood := { row := machineTellsRow, standIns := [], harness := (true, "19e0267202201213592f151c9d4594e71f8591cc0f344f745fb49f2929413c37"), looks := false }, kinds := [], alts := [], laidByText := true, laidKinds := [.data], laidTests := true, laidLooks := .later }
def MachineTellsCardSaid : Prop := Claim7.holds Tryd.pinned (.plain (OpenSpec.ofChange machineTellsSpec)) machineTellsCard

/-- THE TIED CARD OF 'jalousiekeep.MachineSplits'. -/
def machineSplitsCard : Claim7 := { stood := { row := machineSplitsRow, standIns := [], harness := (true, "19e0267202201213592f151c9d4594e71f8591cc0f344f745fb49f2929413c37"), looks := false }, kinds := [], alts := [], laidByText := true, laidKinds := [.data], laidTests := true, laidLooks := .later }
def MachineSplitsCardSaid : Prop := Claim7.holds Tryd.pinned (.plain (OpenSpec.ofChange machineSplitsSpec)) machineSplitsCard

/-- THE TIED CARD OF 'jalousiekeep.ReachTrims'. -/
def reachTrimsCard : Claim7 := { stood := { row := reachTrimsRow, standIns := [], harness := (true, "19e0267202201213592f151c9d4594e71f8591cc0f344f745fb49f2929413c37"), looks := false }, kinds := [], alts := [], laidByText := true, laidKinds := [.data], laidTests := true, laidLooks := .later }
def ReachTrimsCardSaid : Prop := Claim7.holds Tryd.pinned (.plain (OpenSpec.ofChange reachTrimsSpec)) reachTrimsCard

/-- THE TIED CARD OF 'jalousiekeep.BesideBoth'. -/
def besideBothCard : Claim7 := { stood := { row := besideBothRow, standIns := [], harness := (true, "19e0267202201213592f151c9d4594e71f8591cc0f344f745fb49f2929413c37"), looks := false }, kinds := [], alts := [], laidByText := true, laidKinds := [.data], laidTests := true, laidLooks := .later }
def BesideBothCardSaid : Prop := Claim7.holds Tryd.pinned (.plain (OpenSpec.ofChange besideBothSpec)) besideBothCard

/-- THE TIED CARD OF 'jalousielaw.HideMakes'. -/
def hideMakesCard : Claim7 := { stood := { row := hideMakesRow, standIns := [], harness := (true, "19e0267202201213592f151c9d4594e71f8591cc0f344f745fb49f2929413c37"), looks := false }, kinds := [], alts := [], laidByText := true, laidKinds := [.data], laidTests := true, laidLooks := .later }
def HideMakesCardSaid : Prop := Claim7.holds Tryd.pinned (.plain (OpenSpec.ofChange hideMakesSpec)) hideMakesCard

/-- THE TIED CARD OF 'jalousiekeep.HideSees'. -/
def hideSeesCard : Claim7 := { stood := { row := hideSeesRow, standIns := [], harness := (true, "19e0267202201213592f151c9d4594e71f8591cc0f344f745fb49f2929413c37"), looks := false }, kinds := [], alts := [], laidByText := true, laidKinds := [.data], laidTests := true, laidLooks := .later }
def HideSeesCardSaid : Prop := Claim7.holds Tryd.pinned (.plain (OpenSpec.ofChange hideSeesSpec)) hideSeesCard

/-- THE TIED CARD OF 'jalousielaw.DetermineMakes'. -/
def determineMakesCard : Claim7 := { stood := { row := determineMakesRow, standIns := [], harness := (true, "19e0267202201213592f151c9d4594e71f8591cc0f344f745fb49f2929413c37"), looks := false }, kinds := [], alts := [], laidByText := true, laidKinds := [.data], laidTests := true, laidLooks := .later }
def DetermineMakesCardSaid : Prop := Claim7.holds Tryd.pinned (.plain (OpenSpec.ofChange determineMakesSpec)) determineMakesCard

/-- THE TIED CARD OF 'jalousiekeep.DetermineSame'. -/
def determineSameCard : Claim7 := { stood := { row := determineSameRow, standIns := [], harness := (true, "19e0267202201213592f151c9d4594e71f8591cc0f344f745fb49f2929413c37"), looks := false }, kinds := [], alts := [], laidByText := true, laidKinds := [.data], laidTests := true, laidLooks := .later }
def DetermineSameCardSaid : Prop := Claim7.holds Tryd.pinned (.plain (OpenSpec.ofChange determineSameSpec)) determineSameCard

/-- THE SECOND FORM's CARD OF 'jalousielaw.MachineTells'. -/
def machineTellsUptoCard : Claim7 := { stood := { row := machineTellsUptoRow, standIns := [], harness := (true, "19e0267202201213592f151c9d4594e71f8591cc0f344f745fb49f2929413c37"), looks := false }, kinds := [], alts := [], laidByText := true, laidKinds := [.data], laidTests := true, laidLooks := .later }
def MachineTellsUptoCardSaid : Prop := Claim7.holds Tryd.pinned (.plain (OpenSpec.upto machineTellsSpec)) machineTellsUptoCard

/-- THE SECOND FORM's CARD OF 'jalousiekeep.MachineSplits'. -/
def machineSplitsUptoCard : Claim7 := { stood := { row := machineSplitsUptoRow, standIns := [], harness := (true, "19e0267202201213592f151c9d4594e71f8591cc0f344f745fb49f2929413c37"), looks := false }, kinds := [], alts := [], laidByText := true, laidKinds := [.data], laidTests := true, laidLooks := .later }
def MachineSplitsUptoCardSaid : Prop := Claim7.holds Tryd.pinned (.plain (OpenSpec.upto machineSplitsSpec)) machineSplitsUptoCard

/-- THE SECOND FORM's CARD OF 'jalousiekeep.ReachTrims'. -/
def reachTrimsUptoCard : Claim7 := { stood := { row := reachTrimsUptoRow, standIns := [], harness := (true, "19e0267202201213592f151c9d4594e71f8591cc0f344f745fb49f2929413c37"), looks := false }, kinds := [], alts := [], laidByText := true, laidKinds := [.data], laidTests := true, laidLooks := .later }
def ReachTrimsUptoCardSaid : Prop := Claim7.holds Tryd.pinned (.plain (OpenSpec.upto reachTrimsSpec)) reachTrimsUptoCard

/-- THE SECOND FORM's CARD OF 'jalousiekeep.BesideBoth'. -/
def besideBothUptoCard : Claim7 := { stood := { row := besideBothUptoRow, standIns := [], harness := (true, "19e0267202201213592f151c9d4594e71f8591cc0f344f745fb49f2929413c37"), looks := false }, kinds := [], alts := [], laidByText := true, laidKinds := [.data], laidTests := true, laidLooks := .later }
def BesideBothUptoCardSaid : Prop := Claim7.holds Tryd.pinned (.plain (OpenSpec.upto besideBothSpec)) besideBothUptoCard

/-- THE SECOND FORM's CARD OF 'jalousielaw.HideMakes'. -/
def hideMakesUptoCard : Claim7 := { stood := { row := hideMakesUptoRow, standIns := [], harness := (true, "19e0267202201213592f151c9d4594e71f8591cc0f344f745fb49f2929413c37"), looks := false }, kinds := [], alts := [], laidByText := true, laidKinds := [.data], laidTests := true, laidLooks := .later }
def HideMakesUptoCardSaid : Prop := Claim7.holds Tryd.pinned (.plain (OpenSpec.upto hideMakesSpec)) hideMakesUptoCard

/-- THE SECOND FORM's CARD OF 'jalousiekeep.HideSees'. -/
def hideSeesUptoCard : Claim7 := { stood := { row := hideSeesUptoRow, standIns := [], harness := (true, "19e0267202201213592f151c9d4594e71f8591cc0f344f745fb49f2929413c37"), looks := false }, kinds := [], alts := [], laidByText := true, laidKinds := [.data], laidTests := true, laidLooks := .later }
def HideSeesUptoCardSaid : Prop := Claim7.holds Tryd.pinned (.plain (OpenSpec.upto hideSeesSpec)) hideSeesUptoCard

/-- THE SECOND FORM's CARD OF 'jalousielaw.DetermineMakes'. -/
def determineMakesUptoCard : Claim7 := { stood := { row := determineMakesUptoRow, standIns := [], harness := (true, "19e0267202201213592f151c9d4594e71f8591cc0f344f745fb49f2929413c37"), looks := false }, kinds := [], alts := [], laidByText := true, laidKinds := [.data], laidTests := true, laidLooks := .later }
def DetermineMakesUptoCardSaid : Prop := Claim7.holds Tryd.pinned (.plain (OpenSpec.upto determineMakesSpec)) determineMakesUptoCard

/-- THE SECOND FORM's CARD OF 'jalousiekeep.DetermineSame'. -/
def determineSameUptoCard : Claim7 := { stood := { row := determineSameUptoRow, standIns := [], harness := (true, "19e0267202201213592f151c9d4594e71f8591cc0f344f745fb49f2929413c37"), looks := false }, kinds := [], alts := [], laidByText := true, laidKinds := [.data], laidTests := true, laidLooks := .later }
def DetermineSameUptoCardSaid : Prop := Claim7.holds Tryd.pinned (.plain (OpenSpec.upto determineSameSpec)) determineSameUptoCard
end Rows
end Go.Proofs.YtcjcjaeaoianfaaDoor
