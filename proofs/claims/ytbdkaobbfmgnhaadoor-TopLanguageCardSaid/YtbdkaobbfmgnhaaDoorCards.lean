/-
  DERIVED. GIVEN WITH THE SEED: THE CARDS: each row of YtbdkaobbfmgnhaaDoorRows.lean that lists a variable, with what it lists TIED to the program's text (the seventh form; the later family's looks); each row that meets fmt, with fmt's text TOLD by the authors' own Lean function (tested against real Go, not proved from fmt's source: count such statements apart). THE CARD IS WHAT COUNTS. Prove the row's statement (the work); the ties are given (YtbdkaobbfmgnhaaDoorTie.lean); close each card by the builder's one call (the guide's Derived/Test/ToyasCard.lean, 'card_holds'). Laid BY PROGRAM, IN A SANDBOX (cutbox-door.mjs). By AI agents, Wed Nov 11 2026. No macro, syntax, notation, axiom, sorry.
-/
import Derived.Test.YtbdkaobbfmgnhaaDoorRows
import GoSem.ClaimSeven
namespace Go.Proofs.YtbdkaobbfmgnhaaDoor
namespace Rows

/-- THE TIED CARD OF 'jalousielaw.MachineTells'. -/
def machineTellsCard : Claim7 := { stood := { row := machineTellsRow, standIns := [], harness := (true, "1e0ec7183f91a965a7c374bf60712fe83b96f0a5fdf910c5bd6aa74aea953dab"), looks := false }, kinds := [], alts := [], laidByText := true, laidKinds := [.data], laidTests := true, laidLooks := .later }
def MachineTellsCardSaid : Prop := Claim7.holds Tryd.pinned (.plain (OpenSpec.ofChange machineTellsSpec)) machineTellsCard

/-- THE TIED CARD OF 'jalousiekeep.ReachTrims'. -/
def reachTrimsCard : Claim7 := { stood := { row := reachTrimsRow, standIns := [], harness := (true, "1e0ec7183f91a965a7c374bf60712fe83b96f0a5fdf910c5bd6aa74aea953dab"), looks := false }, kinds := [], alts := [], laidByText := true, laidKinds := [.data], laidTests := true, laidLooks := .later }
def ReachTrimsCardSaid : Prop := Claim7.holds Tryd.pinned (.plain (OpenSpec.ofChange reachTrimsSpec)) reachTrimsCard

/-- THE TIED CARD OF 'jalousiekeep.BesideBoth'. -/
def besideBothCard : Claim7 := { stood := { row := besideBothRow, standIns := [], harness := (true, "1e0ec7183f91a965a7c374bf60712fe83b96f0a5fdf910c5bd6aa74aea953dab"), looks := false }, kinds := [], alts := [], laidByText := true, laidKinds := [.data], laidTests := true, laidLooks := .later }
def BesideBothCardSaid : Prop := Claim7.holds Tryd.pinned (.plain (OpenSpec.ofChange besideBothSpec)) besideBothCard

/-- THE TIED CARD OF 'jalousielaw.HideMakes'. -/
def hideMakesCard : Claim7 := { stood := { row := hideMakesRow, standIns := [], harness := (true, "1e0ec7183f91a965a7c374bf60712fe83b96f0a5fdf910c5bd6aa74aea953dab"), looks := false }, kinds := [], alts := [], laidByText := true, laidKinds := [.data], laidTests := true, laidLooks := .later }
def HideMakesCardSaid : Prop := Claim7.holds Tryd.pinned (.plain (OpenSpec.ofChange hideMakesSpec)) hideMakesCard

/-- THE TIED CARD OF 'jalousielaw.DetermineMakes'. -/
def determineMakesCard : Claim7 := { stood := { row := determineMakesRow, standIns := [], harness := (true, "1e0ec7183f91a965a7c374bf60712fe83b96f0a5fdf910c5bd6aa74aea953dab"), looks := false }, kinds := [], alts := [], laidByText := true, laidKinds := [.data], laidTests := true, laidLooks := .later }
def DetermineMakesCardSaid : Prop := Claim7.holds Tryd.pinned (.plain (OpenSpec.ofChange determineMakesSpec)) determineMakesCard

/-- THE TIED CARD OF 'jalousiekeep.DetermineSame'. -/
def determineSameCard : Claim7 := { stood := { row := determineSameRow, standIns := [], harness := (true, "1e0ec7183f91a965a7c374bf60712fe83b96f0a5fdf910c5bd6aa74aea953dab"), looks := false }, kinds := [], alts := [], laidByText := true, laidKinds := [.data], laidTests := true, laidLooks := .later }
def DetermineSameCardSaid : Prop := Claim7.holds Tryd.pinned (.plain (OpenSpec.ofChange determineSameSpec)) determineSameCard

/-- THE TIED CARD OF 'jalousielaw.WithinTells'. -/
def withinTellsCard : Claim7 := { stood := { row := withinTellsRow, standIns := [], harness := (true, "1e0ec7183f91a965a7c374bf60712fe83b96f0a5fdf910c5bd6aa74aea953dab"), looks := false }, kinds := [], alts := [], laidByText := true, laidKinds := [.data], laidTests := true, laidLooks := .later }
def WithinTellsCardSaid : Prop := Claim7.holds Tryd.pinned (.plain (OpenSpec.ofChange withinTellsSpec)) withinTellsCard

/-- THE TIED CARD OF 'jalousielaw.LeastMakes'. -/
def leastMakesCard : Claim7 := { stood := { row := leastMakesRow, standIns := [], harness := (true, "1e0ec7183f91a965a7c374bf60712fe83b96f0a5fdf910c5bd6aa74aea953dab"), looks := false }, kinds := [], alts := [], laidByText := true, laidKinds := [.data], laidTests := true, laidLooks := .later }
def LeastMakesCardSaid : Prop := Claim7.holds Tryd.pinned (.plain (OpenSpec.ofChange leastMakesSpec)) leastMakesCard

/-- THE TIED CARD OF 'jalousielaw.LeastTells'. -/
def leastTellsCard : Claim7 := { stood := { row := leastTellsRow, standIns := [], harness := (true, "1e0ec7183f91a965a7c374bf60712fe83b96f0a5fdf910c5bd6aa74aea953dab"), looks := false }, kinds := [], alts := [], laidByText := true, laidKinds := [.data], laidTests := true, laidLooks := .later }
def LeastTellsCardSaid : Prop := Claim7.holds Tryd.pinned (.plain (OpenSpec.ofChange leastTellsSpec)) leastTellsCard

/-- THE TIED CARD OF 'jalousielaw.LeastFewest'. -/
def leastFewestCard : Claim7 := { stood := { row := leastFewestRow, standIns := [], harness := (true, "1e0ec7183f91a965a7c374bf60712fe83b96f0a5fdf910c5bd6aa74aea953dab"), looks := false }, kinds := [], alts := [], laidByText := true, laidKinds := [.data], laidTests := true, laidLooks := .later }
def LeastFewestCardSaid : Prop := Claim7.holds Tryd.pinned (.plain (OpenSpec.ofChange leastFewestSpec)) leastFewestCard

/-- THE TIED CARD OF 'jalousietop.TopLanguage'. -/
def topLanguageCard : Claim7 := { stood := { row := topLanguageRow, standIns := [], harness := (true, "1e0ec7183f91a965a7c374bf60712fe83b96f0a5fdf910c5bd6aa74aea953dab"), looks := false }, kinds := [], alts := [], laidByText := true, laidKinds := [.data], laidTests := true, laidLooks := .later }
def TopLanguageCardSaid : Prop := Claim7.holds Tryd.pinned (.plain (OpenSpec.ofChange topLanguageSpec)) topLanguageCard

/-- THE TIED CARD OF 'jalousietop.TopBoth'. -/
def topBothCard : Claim7 := { stood := { row := topBothRow, standIns := [], harness := (true, "1e0ec7183f91a965a7c374bf60712fe83b96f0a5fdf910c5bd6aa74aea953dab"), looks := false }, kinds := [], alts := [], laidByText := true, laidKinds := [.data], laidTests := true, laidLooks := .later }
def TopBothCardSaid : Prop := Claim7.holds Tryd.pinned (.plain (OpenSpec.ofChange topBothSpec)) topBothCard

/-- THE SECOND FORM's CARD OF 'jalousielaw.MachineTells'. -/
def machineTellsUptoCard : Claim7 := { stood := { row := machineTellsUptoRow, standIns := [], harness := (true, "1e0ec7183f91a965a7c374bf60712fe83b96f0a5fdf910c5bd6aa74aea953dab"), looks := false }, kinds := [], alts := [], laidByText := true, laidKinds := [.data], laidTests := true, laidLooks := .later }
def MachineTellsUptoCardSaid : Prop := Claim7.holds Tryd.pinned (.plain (OpenSpec.upto machineTellsSpec)) machineTellsUptoCard

/-- THE SECOND FORM's CARD OF 'jalousiekeep.ReachTrims'. -/
def reachTrimsUptoCard : Claim7 := { stood := { row := reachTrimsUptoRow, standIns := [], harness := (true, "1e0ec7183f91a965a7c374bf60712fe83b96f0a5fdf910c5bd6aa74aea953dab"), looks := false }, kinds := [], alts := [], laidByText := true, laidKinds := [.data], laidTests := true, laidLooks := .later }
def ReachTrimsUptoCardSaid : Prop := Claim7.holds Tryd.pinned (.plain (OpenSpec.upto reachTrimsSpec)) reachTrimsUptoCard

/-- THE SECOND FORM's CARD OF 'jalousiekeep.BesideBoth'. -/
def besideBothUptoCard : Claim7 := { stood := { row := besideBothUptoRow, standIns := [], harness := (true, "1e0ec7183f91a965a7c374bf60712fe83b96f0a5fdf910c5bd6aa74aea953dab"), looks := false }, kinds := [], alts := [], laidByText := true, laidKinds := [.data], laidTests := true, laidLooks := .later }
def BesideBothUptoCardSaid : Prop := Claim7.holds Tryd.pinned (.plain (OpenSpec.upto besideBothSpec)) besideBothUptoCard

/-- THE SECOND FORM's CARD OF 'jalousielaw.HideMakes'. -/
def hideMakesUptoCard : Claim7 := { stood := { row := hideMakesUptoRow, standIns := [], harness := (true, "1e0ec7183f91a965a7c374bf60712fe83b96f0a5fdf910c5bd6aa74aea953dab"), looks := false }, kinds := [], alts := [], laidByText := true, laidKinds := [.data], laidTests := true, laidLooks := .later }
def HideMakesUptoCardSaid : Prop := Claim7.holds Tryd.pinned (.plain (OpenSpec.upto hideMakesSpec)) hideMakesUptoCard

/-- THE SECOND FORM's CARD OF 'jalousielaw.DetermineMakes'. -/
def determineMakesUptoCard : Claim7 := { stood := { row := determineMakesUptoRow, standIns := [], harness := (true, "1e0ec7183f91a965a7c374bf60712fe83b96f0a5fdf910c5bd6aa74aea953dab"), looks := false }, kinds := [], alts := [], laidByText := true, laidKinds := [.data], laidTests := true, laidLooks := .later }
def DetermineMakesUptoCardSaid : Prop := Claim7.holds Tryd.pinned (.plain (OpenSpec.upto determineMakesSpec)) determineMakesUptoCard

/-- THE SECOND FORM's CARD OF 'jalousiekeep.DetermineSame'. -/
def determineSameUptoCard : Claim7 := { stood := { row := determineSameUptoRow, standIns := [], harness := (true, "1e0ec7183f91a965a7c374bf60712fe83b96f0a5fdf910c5bd6aa74aea953dab"), looks := false }, kinds := [], alts := [], laidByText := true, laidKinds := [.data], laidTests := true, laidLooks := .later }
def DetermineSameUptoCardSaid : Prop := Claim7.holds Tryd.pinned (.plain (OpenSpec.upto determineSameSpec)) determineSameUptoCard

/-- THE SECOND FORM's CARD OF 'jalousielaw.WithinTells'. -/
def withinTellsUptoCard : Claim7 := { stood := { row := withinTellsUptoRow, standIns := [], harness := (true, "1e0ec7183f91a965a7c374bf60712fe83b96f0a5fdf910c5bd6aa74aea953dab"), looks := false }, kinds := [], alts := [], laidByText := true, laidKinds := [.data], laidTests := true, laidLooks := .later }
def WithinTellsUptoCardSaid : Prop := Claim7.holds Tryd.pinned (.plain (OpenSpec.upto withinTellsSpec)) withinTellsUptoCard

/-- THE SECOND FORM's CARD OF 'jalousielaw.LeastMakes'. -/
def leastMakesUptoCard : Claim7 := { stood := { row := leastMakesUptoRow, standIns := [], harness := (true, "1e0ec7183f91a965a7c374bf60712fe83b96f0a5fdf910c5bd6aa74aea953dab"), looks := false }, kinds := [], alts := [], laidByText := true, laidKinds := [.data], laidTests := true, laidLooks := .later }
def LeastMakesUptoCardSaid : Prop := Claim7.holds Tryd.pinned (.plain (OpenSpec.upto leastMakesSpec)) leastMakesUptoCard

/-- THE SECOND FORM's CARD OF 'jalousielaw.LeastTells'. -/
def leastTellsUptoCard : Claim7 := { stood := { row := leastTellsUptoRow, standIns := [], harness := (true, "1e0ec7183f91a965a7c374bf60712fe83b96f0a5fdf910c5bd6aa74aea953dab"), looks := false }, kinds := [], alts := [], laidByText := true, laidKinds := [.data], laidTests := true, laidLooks := .later }
def LeastTellsUptoCardSaid : Prop := Claim7.holds Tryd.pinned (.plain (OpenSpec.upto leastTellsSpec)) leastTellsUptoCard

/-- THE SECOND FORM's CARD OF 'jalousielaw.LeastFewest'. -/
def leastFewestUptoCard : Claim7 := { stood := { row := leastFewestUptoRow, standIns := [], harness := (true, "1e0ec7183f91a965a7c374bf60712fe83b96f0a5fdf910c5bd6aa74aea953dab"), looks := false }, kinds := [], alts := [], laidByText := true, laidKinds := [.data], laidTests := true, laidLooks := .later }
def LeastFewestUptoCardSaid : Prop := Claim7.holds Tryd.pinned (.plain (OpenSpec.upto leastFewestSpec)) leastFewestUptoCard

/-- THE SECOND FORM's CARD OF 'jalousietop.TopLanguage'. -/
def topLanguageUptoCard : Claim7 := { stood := { row := topLanguageUptoRow, standIns := [], harness := (true, "1e0ec7183f91a965a7c374bf60712fe83b96f0a5fdf910c5bd6aa74aea953dab"), looks := false }, kinds := [], alts := [], laidByText := true, laidKinds := [.data], laidTests := true, laidLooks := .later }
def TopLanguageUptoCardSaid : Prop := Claim7.holds Tryd.pinned (.plain (OpenSpec.upto topLanguageSpec)) topLanguageUptoCard

/-- THE SECOND FORM's CARD OF 'jalousietop.TopBoth'. -/
def topBothUptoCard : Claim7 := { stood := { row := topBothUptoRow, standIns := [], harness := (true, "1e0ec7183f91a965a7c374bf60712fe83b96f0a5fdf910c5bd6aa74aea953dab"), looks := false }, kinds := [], alts := [], laidByText := true, laidKinds := [.data], laidTests := true, laidLooks := .later }
def TopBothUptoCardSaid : Prop := Claim7.holds Tryd.pinned (.plain (OpenSpec.upto topBothSpec)) topBothUptoCard
end Rows
end Go.Proofs.YtbdkaobbfmgnhaaDoor
