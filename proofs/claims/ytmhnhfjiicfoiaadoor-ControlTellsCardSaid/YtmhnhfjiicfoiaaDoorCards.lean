/-
  DERIVED. GIVEN WITH THE SEED: THE CARDS: each row of YtmhnhfjiicfoiaaDoorRows.lean that lists a variable, with what it lists TIED to the program's text (the seventh form; the later family's looks); each row that meets fmt, with fmt's text TOLD by the authors' own Lean function (tested against real Go, not proved from fmt's source: count such statements apart). THE CARD IS WHAT COUNTS. Prove the row's statement (the work); the ties are given (YtmhnhfjiicfoiaaDoorTie.lean); close each card by the builder's one call (the guide's Derived/Test/ToyasCard.lean, 'card_holds'). Laid BY PROGRAM, IN A SANDBOX (cutbox-door.mjs). By AI agents, Wed Nov 11 2026. No macro, syntax, notation, axiom, sorry.
-/
import Derived.Test.YtmhnhfjiicfoiaaDoorRows
import GoSem.ClaimSeven
namespace Go.Proofs.YtmhnhfjiicfoiaaDoor
namespace Rows

/-- THE TIED CARD OF 'jalousielaw.MachineTells'. -/
def machineTellsCard : Claim7 := { stood := { row := machineTellsRow, standIns := [], harness := (true, "367db1d2b814a6a3e42012bb8881de52130de913e12552996d1d9195fc3ca6e1"), looks := false }, kinds := [], alts := [], laidByText := true, laidKinds := [.data], laidTests := true, laidLooks := .later }
def MachineTellsCardSaid : Prop := Claim7.holds Tryd.pinned (.plain (OpenSpec.ofChange machineTellsSpec)) machineTellsCard

/-- THE TIED CARD OF 'jalousielaw.ControlTells'. -/
def controlTellsCard : Claim7 := { stood := { row := controlTellsRow, standIns := [], harness := (true, "367db1d2b814a6a3e42012bb8881de52130de913e12552996d1d9195fc3ca6e1"), looks := false }, kinds := [], alts := [], laidByText := true, laidKinds := [.data], laidTests := true, laidLooks := .later }
def ControlTellsCardSaid : Prop := Claim7.holds Tryd.pinned (.plain (OpenSpec.ofChange controlTellsSpec)) controlTellsCard

/-- THE TIED CARD OF 'jalousielaw.ControlMost'. -/
def controlMostCard : Claim7 := { stood := { row := controlMostRow, standIns := [], harness := (true, "367db1d2b814a6a3e42012bb8881de52130de913e12552996d1d9195fc3ca6e1"), looks := false }, kinds := [], alts := [], laidByText := true, laidKinds := [.data], laidTests := true, laidLooks := .later }
def ControlMostCardSaid : Prop := Claim7.holds Tryd.pinned (.plain (OpenSpec.ofChange controlMostSpec)) controlMostCard

/-- THE SECOND FORM's CARD OF 'jalousielaw.MachineTells'. -/
def machineTellsUptoCard : Claim7 := { stood := { row := machineTellsUptoRow, standIns := [], harness := (true, "367db1d2b814a6a3e42012bb8881de52130de913e12552996d1d9195fc3ca6e1"), looks := false }, kinds := [], alts := [], laidByText := true, laidKinds := [.data], laidTests := true, laidLooks := .later }
def MachineTellsUptoCardSaid : Prop := Claim7.holds Tryd.pinned (.plain (OpenSpec.upto machineTellsSpec)) machineTellsUptoCard

/-- THE SECOND FORM's CARD OF 'jalousielaw.ControlTells'. -/
def controlTellsUptoCard : Claim7 := { stood := { row := controlTellsUptoRow, standIns := [], harness := (true, "367db1d2b814a6a3e42012bb8881de52130de913e12552996d1d9195fc3ca6e1"), looks := false }, kinds := [], alts := [], laidByText := true, laidKinds := [.data], laidTests := true, laidLooks := .later }
def ControlTellsUptoCardSaid : Prop := Claim7.holds Tryd.pinned (.plain (OpenSpec.upto controlTellsSpec)) controlTellsUptoCard

/-- THE SECOND FORM's CARD OF 'jalousielaw.ControlMost'. -/
def controlMostUptoCard : Claim7 := { stood := { row := controlMostUptoRow, standIns := [], harness := (true, "367db1d2b814a6a3e42012bb8881de52130de913e12552996d1d9195fc3ca6e1"), looks := false }, kinds := [], alts := [], laidByText := true, laidKinds := [.data], laidTests := true, laidLooks := .later }
def ControlMostUptoCardSaid : Prop := Claim7.holds Tryd.pinned (.plain (OpenSpec.upto controlMostSpec)) controlMostUptoCard
end Rows
end Go.Proofs.YtmhnhfjiicfoiaaDoor
