/-
  DERIVED. GIVEN WITH THE SEED: THE CARDS: each row of YtgnnmelliekkcaaDoorRows.lean that lists a variable, with what it lists TIED to the program's text (the seventh form; the later family's looks); each row that meets fmt, with fmt's text TOLD by the authors' own Lean function (tested against real Go, not proved from fmt's source: count such statements apart). THE CARD IS WHAT COUNTS. Prove the row's statement (the work); the ties are given (YtgnnmelliekkcaaDoorTie.lean); close each card by the builder's one call (the guide's Derived/Test/ToyasCard.lean, 'card_holds'). Laid BY PROGRAM, IN A SANDBOX (cutbox-door.mjs). By AI agents, Wed Nov 11 2026. No macro, syntax, notation, axiom, sorry.
-/
import Derived.Test.YtgnnmelliekkcaaDoorRows
import GoSem.ClaimSeven
namespace Go.Proofs.YtgnnmelliekkcaaDoor
namespace Rows

/-- THE TIED CARD OF 'jalousielaw.MachineTells'. -/
def machineTellsCard : Claim7 := { stood := { row := machineTellsRow, standIns := [], harness := (true, "d1fa070add87755a187d82c61fe1590bed5a52771a595f08d223abc8a40b1331"), looks := false }, kinds := [], alts := [], laidByText := true, laidKinds := [.data], laidTests := true, laidLooks := .later }
def MachineTellsCardSaid : Prop := Claim7.holds Tryd.pinned (.plain (OpenSpec.ofChange machineTellsSpec)) machineTellsCard

/-- THE TIED CARD OF 'jalousiekeep.ReachTrims'. -/
def reachTrimsCard : Claim7 := { stood := { row := reachTrimsRow, standIns := [], harness := (true, "d1fa070add87755a187d82c61fe1590bed5a52771a595f08d223abc8a40b1331"), looks := false }, kinds := [], alts := [], laidByText := true, laidKinds := [.data], laidTests := true, laidLooks := .later }
def ReachTrimsCardSaid : Prop := Claim7.holds Tryd.pinned (.plain (OpenSpec.ofChange reachTrimsSpec)) reachTrimsCard

/-- THE TIED CARD OF 'jalousielaw.HideMakes'. -/
def hideMakesCard : Claim7 := { stood := { row := hideMakesRow, standIns := [], harness := (true, "d1fa070add87755a187d82c61fe1590bed5a52771a595f08d223abc8a40b1331"), looks := false }, kinds := [], alts := [], laidByText := true, laidKinds := [.data], laidTests := true, laidLooks := .later }
def HideMakesCardSaid : Prop := Claim7.holds Tryd.pinned (.plain (OpenSpec.ofChange hideMakesSpec)) hideMakesCard

/-- THE TIED CARD OF 'jalousielaw.CurrentTells'. -/
def currentTellsCard : Claim7 := { stood := { row := currentTellsRow, standIns := [], harness := (true, "d1fa070add87755a187d82c61fe1590bed5a52771a595f08d223abc8a40b1331"), looks := false }, kinds := [], alts := [], laidByText := true, laidKinds := [.data], laidTests := true, laidLooks := .later }
def CurrentTellsCardSaid : Prop := Claim7.holds Tryd.pinned (.plain (OpenSpec.ofChange currentTellsSpec)) currentTellsCard

/-- THE TIED CARD OF 'jalousielaw.VeilMakes'. -/
def veilMakesCard : Claim7 := { stood := { row := veilMakesRow, standIns := [], harness := (true, "d1fa070add87755a187d82c61fe1590bed5a52771a595f08d223abc8a40b1331"), looks := false }, kinds := [], alts := [], laidByText := true, laidKinds := [.data], laidTests := true, laidLooks := .later }
def VeilMakesCardSaid : Prop := Claim7.holds Tryd.pinned (.plain (OpenSpec.ofChange veilMakesSpec)) veilMakesCard

/-- THE TIED CARD OF 'jalousielaw.VeilKeeps'. -/
def veilKeepsCard : Claim7 := { stood := { row := veilKeepsRow, standIns := [], harness := (true, "d1fa070add87755a187d82c61fe1590bed5a52771a595f08d223abc8a40b1331"), looks := false }, kinds := [], alts := [], laidByText := true, laidKinds := [.data], laidTests := true, laidLooks := .later }
def VeilKeepsCardSaid : Prop := Claim7.holds Tryd.pinned (.plain (OpenSpec.ofChange veilKeepsSpec)) veilKeepsCard

/-- THE TIED CARD OF 'jalousielaw.VeilMost'. -/
def veilMostCard : Claim7 := { stood := { row := veilMostRow, standIns := [], harness := (true, "d1fa070add87755a187d82c61fe1590bed5a52771a595f08d223abc8a40b1331"), looks := false }, kinds := [], alts := [], laidByText := true, laidKinds := [.data], laidTests := true, laidLooks := .later }
def VeilMostCardSaid : Prop := Claim7.holds Tryd.pinned (.plain (OpenSpec.ofChange veilMostSpec)) veilMostCard

/-- THE SECOND FORM's CARD OF 'jalousielaw.MachineTells'. -/
def machineTellsUptoCard : Claim7 := { stood := { row := machineTellsUptoRow, standIns := [], harness := (true, "d1fa070add87755a187d82c61fe1590bed5a52771a595f08d223abc8a40b1331"), looks := false }, kinds := [], alts := [], laidByText := true, laidKinds := [.data], laidTests := true, laidLooks := .later }
def MachineTellsUptoCardSaid : Prop := Claim7.holds Tryd.pinned (.plain (OpenSpec.upto machineTellsSpec)) machineTellsUptoCard

/-- THE SECOND FORM's CARD OF 'jalousiekeep.ReachTrims'. -/
def reachTrimsUptoCard : Claim7 := { stood := { row := reachTrimsUptoRow, standIns := [], harness := (true, "d1fa070add87755a187d82c61fe1590bed5a52771a595f08d223abc8a40b1331"), looks := false }, kinds := [], alts := [], laidByText := true, laidKinds := [.data], laidTests := true, laidLooks := .later }
def ReachTrimsUptoCardSaid : Prop := Claim7.holds Tryd.pinned (.plain (OpenSpec.upto reachTrimsSpec)) reachTrimsUptoCard

/-- THE SECOND FORM's CARD OF 'jalousielaw.HideMakes'. -/
def hideMakesUptoCard : Claim7 := { stood := { row := hideMakesUptoRow, standIns := [], harness := (true, "d1fa070add87755a187d82c61fe1590bed5a52771a595f08d223abc8a40b1331"), looks := false }, kinds := [], alts := [], laidByText := true, laidKinds := [.data], laidTests := true, laidLooks := .later }
def HideMakesUptoCardSaid : Prop := Claim7.holds Tryd.pinned (.plain (OpenSpec.upto hideMakesSpec)) hideMakesUptoCard

/-- THE SECOND FORM's CARD OF 'jalousielaw.CurrentTells'. -/
def currentTellsUptoCard : Claim7 := { stood := { row := currentTellsUptoRow, standIns := [], harness := (true, "d1fa070add87755a187d82c61fe1590bed5a52771a595f08d223abc8a40b1331"), looks := false }, kinds := [], alts := [], laidByText := true, laidKinds := [.data], laidTests := true, laidLooks := .later }
def CurrentTellsUptoCardSaid : Prop := Claim7.holds Tryd.pinned (.plain (OpenSpec.upto currentTellsSpec)) currentTellsUptoCard

/-- THE SECOND FORM's CARD OF 'jalousielaw.VeilMakes'. -/
def veilMakesUptoCard : Claim7 := { stood := { row := veilMakesUptoRow, standIns := [], harness := (true, "d1fa070add87755a187d82c61fe1590bed5a52771a595f08d223abc8a40b1331"), looks := false }, kinds := [], alts := [], laidByText := true, laidKinds := [.data], laidTests := true, laidLooks := .later }
def VeilMakesUptoCardSaid : Prop := Claim7.holds Tryd.pinned (.plain (OpenSpec.upto veilMakesSpec)) veilMakesUptoCard

/-- THE SECOND FORM's CARD OF 'jalousielaw.VeilKeeps'. -/
def veilKeepsUptoCard : Claim7 := { stood := { row := veilKeepsUptoRow, standIns := [], harness := (true, "d1fa070add87755a187d82c61fe1590bed5a52771a595f08d223abc8a40b1331"), looks := false }, kinds := [], alts := [], laidByText := true, laidKinds := [.data], laidTests := true, laidLooks := .later }
def VeilKeepsUptoCardSaid : Prop := Claim7.holds Tryd.pinned (.plain (OpenSpec.upto veilKeepsSpec)) veilKeepsUptoCard

/-- THE SECOND FORM's CARD OF 'jalousielaw.VeilMost'. -/
def veilMostUptoCard : Claim7 := { stood := { row := veilMostUptoRow, standIns := [], harness := (true, "d1fa070add87755a187d82c61fe1590bed5a52771a595f08d223abc8a40b1331"), looks := false }, kinds := [], alts := [], laidByText := true, laidKinds := [.data], laidTests := true, laidLooks := .later }
def VeilMostUptoCardSaid : Prop := Claim7.holds Tryd.pinned (.plain (OpenSpec.upto veilMostSpec)) veilMostUptoCard
end Rows
end Go.Proofs.YtgnnmelliekkcaaDoor
