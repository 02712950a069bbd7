/-
  DERIVED. GIVEN WITH THE SEED: THE CARDS: each row of YtgebfkmfhpcdhaaDoorRows.lean that lists a variable, with what it lists TIED to the program's text (the seventh form; the later family's looks); each row that meets fmt, with fmt's text TOLD by the authors' own Lean function (tested against real Go, not proved from fmt's source: count such statements apart). THE CARD IS WHAT COUNTS. Prove the row's statement (the work); the ties are given (YtgebfkmfhpcdhaaDoorTie.lean); close each card by the builder's one call (the guide's Derived/Test/ToyasCard.lean, 'card_holds'). Laid BY PROGRAM, IN A SANDBOX (cutbox-door.mjs). By AI agents, Wed Nov 11 2026. No macro, syntax, notation, axiom, sorry.
-/
import Derived.Test.YtgebfkmfhpcdhaaDoorRows
import GoSem.ClaimSeven
namespace Go.Proofs.YtgebfkmfhpcdhaaDoor
namespace Rows

/-- THE TIED CARD OF 'jalousielaw.MachineTells'. -/
def machineTellsCard : Claim7 := { stood := { row := machineTellsRow, standIns := [], harness := (true, "48ef6baaf6c393a0d2972e62a3260d8c1926a842c4c9cfd581cb124fde320632"), looks := false }, kinds := [], alts := [], laidByText := true, laidKinds := [.data], laidTests := true, laidLooks := .later }
def MachineTellsCardSaid : Prop := Claim7.holds Tryd.pinned (.plain (OpenSpec.ofChange machineTellsSpec)) machineTellsCard

/-- THE TIED CARD OF 'jalousiekeep.ReachTrims'. -/
def reachTrimsCard : Claim7 := { stood := { row := reachTrimsRow, standIns := [], harness := (true, "48ef6baaf6c393a0d2972e62a3260d8c1926a842c4c9cfd581cb124fde320632"), looks := false }, kinds := [], alts := [], laidByText := true, laidKinds := [.data], laidTests := true, laidLooks := .later }
def ReachTrimsCardSaid : Prop := Claim7.holds Tryd.pinned (.plain (OpenSpec.ofChange reachTrimsSpec)) reachTrimsCard

/-- THE TIED CARD OF 'jalousielaw.HideMakes'. -/
def hideMakesCard : Claim7 := { stood := { row := hideMakesRow, standIns := [], harness := (true, "48ef6baaf6c393a0d2972e62a3260d8c1926a842c4c9cfd581cb124fde320632"), looks := false }, kinds := [], alts := [], laidByText := true, laidKinds := [.data], laidTests := true, laidLooks := .later }
def HideMakesCardSaid : Prop := Claim7.holds Tryd.pinned (.plain (OpenSpec.ofChange hideMakesSpec)) hideMakesCard

/-- THE TIED CARD OF 'jalousielaw.WithinTells'. -/
def withinTellsCard : Claim7 := { stood := { row := withinTellsRow, standIns := [], harness := (true, "48ef6baaf6c393a0d2972e62a3260d8c1926a842c4c9cfd581cb124fde320632"), looks := false }, kinds := [], alts := [], laidByText := true, laidKinds := [.data], laidTests := true, laidLooks := .later }
def WithinTellsCardSaid : Prop := Claim7.holds Tryd.pinned (.plain (OpenSpec.ofChange withinTellsSpec)) withinTellsCard

/-- THE TIED CARD OF 'jalousielaw.CurrentTells'. -/
def currentTellsCard : Claim7 := { stood := { row := currentTellsRow, standIns := [], harness := (true, "48ef6baaf6c393a0d2972e62a3260d8c1926a842c4c9cfd581cb124fde320632"), looks := false }, kinds := [], alts := [], laidByText := true, laidKinds := [.data], laidTests := true, laidLooks := .later }
def CurrentTellsCardSaid : Prop := Claim7.holds Tryd.pinned (.plain (OpenSpec.ofChange currentTellsSpec)) currentTellsCard

/-- THE TIED CARD OF 'jalousielaw.SecretTells'. -/
def secretTellsCard : Claim7 := { stood := { row := secretTellsRow, standIns := [], harness := (true, "48ef6baaf6c393a0d2972e62a3260d8c1926a842c4c9cfd581cb124fde320632"), looks := false }, kinds := [], alts := [], laidByText := true, laidKinds := [.data], laidTests := true, laidLooks := .later }
def SecretTellsCardSaid : Prop := Claim7.holds Tryd.pinned (.plain (OpenSpec.ofChange secretTellsSpec)) secretTellsCard

/-- THE TIED CARD OF 'jalousielaw.SecretKeeps'. -/
def secretKeepsCard : Claim7 := { stood := { row := secretKeepsRow, standIns := [], harness := (true, "48ef6baaf6c393a0d2972e62a3260d8c1926a842c4c9cfd581cb124fde320632"), looks := false }, kinds := [], alts := [], laidByText := true, laidKinds := [.data], laidTests := true, laidLooks := .later }
def SecretKeepsCardSaid : Prop := Claim7.holds Tryd.pinned (.plain (OpenSpec.ofChange secretKeepsSpec)) secretKeepsCard

/-- THE TIED CARD OF 'jalousielaw.ToldTells'. -/
def toldTellsCard : Claim7 := { stood := { row := toldTellsRow, standIns := [], harness := (true, "48ef6baaf6c393a0d2972e62a3260d8c1926a842c4c9cfd581cb124fde320632"), looks := false }, kinds := [], alts := [], laidByText := true, laidKinds := [.data], laidTests := true, laidLooks := .later }
def ToldTellsCardSaid : Prop := Claim7.holds Tryd.pinned (.plain (OpenSpec.ofChange toldTellsSpec)) toldTellsCard

/-- THE TIED CARD OF 'jalousietop.TopOne'. -/
def topOneCard : Claim7 := { stood := { row := topOneRow, standIns := [], harness := (true, "48ef6baaf6c393a0d2972e62a3260d8c1926a842c4c9cfd581cb124fde320632"), looks := false }, kinds := [], alts := [], laidByText := true, laidKinds := [.data], laidTests := true, laidLooks := .later }
def TopOneCardSaid : Prop := Claim7.holds Tryd.pinned (.plain (OpenSpec.ofChange topOneSpec)) topOneCard

/-- THE TIED CARD OF 'jalousielaw.DelayTells'. -/
def delayTellsCard : Claim7 := { stood := { row := delayTellsRow, standIns := [], harness := (true, "48ef6baaf6c393a0d2972e62a3260d8c1926a842c4c9cfd581cb124fde320632"), looks := false }, kinds := [], alts := [], laidByText := true, laidKinds := [.data], laidTests := true, laidLooks := .later }
def DelayTellsCardSaid : Prop := Claim7.holds Tryd.pinned (.plain (OpenSpec.ofChange delayTellsSpec)) delayTellsCard

/-- THE TIED CARD OF 'jalousielaw.DelayHolds'. -/
def delayHoldsCard : Claim7 := { stood := { row := delayHoldsRow, standIns := [], harness := (true, "48ef6baaf6c393a0d2972e62a3260d8c1926a842c4c9cfd581cb124fde320632"), looks := false }, kinds := [], alts := [], laidByText := true, laidKinds := [.data], laidTests := true, laidLooks := .later }
def DelayHoldsCardSaid : Prop := Claim7.holds Tryd.pinned (.plain (OpenSpec.ofChange delayHoldsSpec)) delayHoldsCard

/-- THE TIED CARD OF 'jalousietop.TopFound'. -/
def topFoundCard : Claim7 := { stood := { row := topFoundRow, standIns := [], harness := (true, "48ef6baaf6c393a0d2972e62a3260d8c1926a842c4c9cfd581cb124fde320632"), looks := false }, kinds := [], alts := [], laidByText := true, laidKinds := [.data], laidTests := true, laidLooks := .later }
def TopFoundCardSaid : Prop := Claim7.holds Tryd.pinned (.plain (OpenSpec.ofChange topFoundSpec)) topFoundCard

/-- THE SECOND FORM's CARD OF 'jalousielaw.MachineTells'. -/
def machineTellsUptoCard : Claim7 := { stood := { row := machineTellsUptoRow, standIns := [], harness := (true, "48ef6baaf6c393a0d2972e62a3260d8c1926a842c4c9cfd581cb124fde320632"), looks := false }, kinds := [], alts := [], laidByText := true, laidKinds := [.data], laidTests := true, laidLooks := .later }
def MachineTellsUptoCardSaid : Prop := Claim7.holds Tryd.pinned (.plain (OpenSpec.upto machineTellsSpec)) machineTellsUptoCard

/-- THE SECOND FORM's CARD OF 'jalousiekeep.ReachTrims'. -/
def reachTrimsUptoCard : Claim7 := { stood := { row := reachTrimsUptoRow, standIns := [], harness := (true, "48ef6baaf6c393a0d2972e62a3260d8c1926a842c4c9cfd581cb124fde320632"), looks := false }, kinds := [], alts := [], laidByText := true, laidKinds := [.data], laidTests := true, laidLooks := .later }
def ReachTrimsUptoCardSaid : Prop := Claim7.holds Tryd.pinned (.plain (OpenSpec.upto reachTrimsSpec)) reachTrimsUptoCard

/-- THE SECOND FORM's CARD OF 'jalousielaw.HideMakes'. -/
def hideMakesUptoCard : Claim7 := { stood := { row := hideMakesUptoRow, standIns := [], harness := (true, "48ef6baaf6c393a0d2972e62a3260d8c1926a842c4c9cfd581cb124fde320632"), looks := false }, kinds := [], alts := [], laidByText := true, laidKinds := [.data], laidTests := true, laidLooks := .later }
def HideMakesUptoCardSaid : Prop := Claim7.holds Tryd.pinned (.plain (OpenSpec.upto hideMakesSpec)) hideMakesUptoCard

/-- THE SECOND FORM's CARD OF 'jalousielaw.WithinTells'. -/
def withinTellsUptoCard : Claim7 := { stood := { row := withinTellsUptoRow, standIns := [], harness := (true, "48ef6baaf6c393a0d2972e62a3260d8c1926a842c4c9cfd581cb124fde320632"), looks := false }, kinds := [], alts := [], laidByText := true, laidKinds := [.data], laidTests := true, laidLooks := .later }
def WithinTellsUptoCardSaid : Prop := Claim7.holds Tryd.pinned (.plain (OpenSpec.upto withinTellsSpec)) withinTellsUptoCard

/-- THE SECOND FORM's CARD OF 'jalousielaw.CurrentTells'. -/
def currentTellsUptoCard : Claim7 := { stood := { row := currentTellsUptoRow, standIns := [], harness := (true, "48ef6baaf6c393a0d2972e62a3260d8c1926a842c4c9cfd581cb124fde320632"), looks := false }, kinds := [], alts := [], laidByText := true, laidKinds := [.data], laidTests := true, laidLooks := .later }
def CurrentTellsUptoCardSaid : Prop := Claim7.holds Tryd.pinned (.plain (OpenSpec.upto currentTellsSpec)) currentTellsUptoCard

/-- THE SECOND FORM's CARD OF 'jalousielaw.SecretTells'. -/
def secretTellsUptoCard : Claim7 := { stood := { row := secretTellsUptoRow, standIns := [], harness := (true, "48ef6baaf6c393a0d2972e62a3260d8c1926a842c4c9cfd581cb124fde320632"), looks := false }, kinds := [], alts := [], laidByText := true, laidKinds := [.data], laidTests := true, laidLooks := .later }
def SecretTellsUptoCardSaid : Prop := Claim7.holds Tryd.pinned (.plain (OpenSpec.upto secretTellsSpec)) secretTellsUptoCard

/-- THE SECOND FORM's CARD OF 'jalousielaw.SecretKeeps'. -/
def secretKeepsUptoCard : Claim7 := { stood := { row := secretKeepsUptoRow, standIns := [], harness := (true, "48ef6baaf6c393a0d2972e62a3260d8c1926a842c4c9cfd581cb124fde320632"), looks := false }, kinds := [], alts := [], laidByText := true, laidKinds := [.data], laidTests := true, laidLooks := .later }
def SecretKeepsUptoCardSaid : Prop := Claim7.holds Tryd.pinned (.plain (OpenSpec.upto secretKeepsSpec)) secretKeepsUptoCard

/-- THE SECOND FORM's CARD OF 'jalousielaw.ToldTells'. -/
def toldTellsUptoCard : Claim7 := { stood := { row := toldTellsUptoRow, standIns := [], harness := (true, "48ef6baaf6c393a0d2972e62a3260d8c1926a842c4c9cfd581cb124fde320632"), looks := false }, kinds := [], alts := [], laidByText := true, laidKinds := [.data], laidTests := true, laidLooks := .later }
def ToldTellsUptoCardSaid : Prop := Claim7.holds Tryd.pinned (.plain (OpenSpec.upto toldTellsSpec)) toldTellsUptoCard

/-- THE SECOND FORM's CARD OF 'jalousietop.TopOne'. -/
def topOneUptoCard : Claim7 := { stood := { row := topOneUptoRow, standIns := [], harness := (true, "48ef6baaf6c393a0d2972e62a3260d8c1926a842c4c9cfd581cb124fde320632"), looks := false }, kinds := [], alts := [], laidByText := true, laidKinds := [.data], laidTests := true, laidLooks := .later }
def TopOneUptoCardSaid : Prop := Claim7.holds Tryd.pinned (.plain (OpenSpec.upto topOneSpec)) topOneUptoCard

/-- THE SECOND FORM's CARD OF 'jalousielaw.DelayTells'. -/
def delayTellsUptoCard : Claim7 := { stood := { row := delayTellsUptoRow, standIns := [], harness := (true, "48ef6baaf6c393a0d2972e62a3260d8c1926a842c4c9cfd581cb124fde320632"), looks := false }, kinds := [], alts := [], laidByText := true, laidKinds := [.data], laidTests := true, laidLooks := .later }
def DelayTellsUptoCardSaid : Prop := Claim7.holds Tryd.pinned (.plain (OpenSpec.upto delayTellsSpec)) delayTellsUptoCard

/-- THE SECOND FORM's CARD OF 'jalousielaw.DelayHolds'. -/
def delayHoldsUptoCard : Claim7 := { stood := { row := delayHoldsUptoRow, standIns := [], harness := (true, "48ef6baaf6c393a0d2972e62a3260d8c1926a842c4c9cfd581cb124fde320632"), looks := false }, kinds := [], alts := [], laidByText := true, laidKinds := [.data], laidTests := true, laidLooks := .later }
def DelayHoldsUptoCardSaid : Prop := Claim7.holds Tryd.pinned (.plain (OpenSpec.upto delayHoldsSpec)) delayHoldsUptoCard

/-- THE SECOND FORM's CARD OF 'jalousietop.TopFound'. -/
def topFoundUptoCard : Claim7 := { stood := { row := topFoundUptoRow, standIns := [], harness := (true, "48ef6baaf6c393a0d2972e62a3260d8c1926a842c4c9cfd581cb124fde320632"), looks := false }, kinds := [], alts := [], laidByText := true, laidKinds := [.data], laidTests := true, laidLooks := .later }
def TopFoundUptoCardSaid : Prop := Claim7.holds Tryd.pinned (.plain (OpenSpec.upto topFoundSpec)) topFoundUptoCard
end Rows
end Go.Proofs.YtgebfkmfhpcdhaaDoor
