/-
  NARROWER THAN 'FOR EVERY INPUT', by the rows' own cells (each row's printed sentence says how): MachineTells: laid · ReachTrims: laid · HideMakes: laid · WithinTells: laid · CurrentTells: laid · SecretTells: laid · SecretKeeps: laid · ToldTells: laid · TopOne: laid · DelayTells: laid · DelayHolds: laid · TopFound: laid.
  DERIVED. THE GIVEN ROWS OF THIS SEAT. 12 by the template 'for every input the law returns true; each argument reads behind the call as it read before'; 0 by the template 'total and deterministic' (their statements: YtgebfkmfhpcdhaaDoorTotals.lean).
  GIVEN WITH THE SEED: the statements are not yours to turn. If you find one false, say at which input.
  Laid BY PROGRAM, IN A SANDBOX (cutbox-rows.mjs): the forced cells as the released guide's own fill.sh prints them over the translation a85e95988bc5e153… (all of the seat's roots in one cut). By AI agents, Wed Nov 11 2026. No macro, syntax, notation, axiom, sorry.
-/
import Derived.Test.YtgebfkmfhpcdhaaDoorChecked
import GoSem.Claim
import GoSem.ClaimJoined
import GoSem.ClaimMapViews
import Derived.JoinedTies
import Derived.KernelRfl
namespace Go.Proofs.YtgebfkmfhpcdhaaDoor
/- THE CELL 'sum', in the pinned program and in every row, IS THE sha256 OF THE DUMP (.gsa) THAT YtgebfkmfhpcdhaaDoorProg.lean LOADS. Nothing in Lean hashes anything: it is a label: what it is worth is what the hold of that sum in a sandbox is worth. -/
noncomputable def Tryd.pinned : Pinned := { name := "ytgebfkmfhpcdhaadoor", sum := "a85e95988bc5e153b0f821001339058d30d01869aea2dee960a60614fe9a4738", checked := Tryd.checked }
namespace Rows
def none {H : Type} : Left H := { results := [], args := [] }

/- WHAT THE LISTED PACKAGE-LEVEL VARIABLES READ AS WHEN THE CALL BEGINS. Each datum BY PROGRAM (the guide's laid-datum.mjs) off the statement by which the dump's own 'gosem.cut.vars' lays the variable. In a bare row this is a premise. The card (YtgebfkmfhpcdhaaDoorCards.lean) ties it to the program's text. -/
def laid_math_bits_deBruijn64tab {H : Type} : DataW H := .agg [.lit (.int .u8 0), .lit (.int .u8 1), .lit (.int .u8 56), .lit (.int .u8 2), .lit (.int .u8 57), .lit (.int .u8 49), .lit (.int .u8 28), .lit (.int .u8 3), .lit (.int .u8 61), .lit (.int .u8 58), .lit (.int .u8 42), .lit (.int .u8 50), .lit (.int .u8 38), .lit (.int .u8 29), .lit (.int .u8 17), .lit (.int .u8 4), .lit (.int .u8 62), .lit (.int .u8 47), .lit (.int .u8 59), .lit (.int .u8 36), .lit (.int .u8 45), .lit (.int .u8 43), .lit (.int .u8 51), .lit (.int .u8 22), .lit (.int .u8 53), .lit (.int .u8 39), .lit (.int .u8 33), .lit (.int .u8 30), .lit (.int .u8 24), .lit (.int .u8 18), .lit (.int .u8 12), .lit (.int .u8 5), .lit (.int .u8 63), .lit (.int .u8 55), .lit (.int .u8 48), .lit (.int .u8 27), .lit (.int .u8 60), .lit (.int .u8 41), .lit (.int .u8 37), .lit (.int .u8 16), .lit (.int .u8 46), .lit (.int .u8 35), .lit (.int .u8 44), .lit (.int .u8 21), .lit (.int .u8 52), .lit (.int .u8 32), .lit (.int .u8 23), .lit (.int .u8 11), .lit (.int .u8 54), .lit (.int .u8 26), .lit (.int .u8 40), .lit (.int .u8 15), .lit (.int .u8 34), .lit (.int .u8 20), .lit (.int .u8 31), .lit (.int .u8 10), .lit (.int .u8 25), .lit (.int .u8 14), .lit (.int .u8 19), .lit (.int .u8 9), .lit (.int .u8 13), .lit (.int .u8 8), .lit (.int .u8 7), .lit (.int .u8 6)]

/-- 'jalousielaw.MachineTells': WHATEVER THE INPUT: true; the input reads as it did. -/
def machineTellsSpec : ChangeSpec := { name := "machineTells", fn := fun _ => fun
  | [d1, d2, d3] => { results := [.lit (.bool true)], args := [d1, d2, d3] }
  | _ => none }
def machineTellsRow : OpenClaim := { program := "ytgebfkmfhpcdhaadoor", sum := "a85e95988bc5e153b0f821001339058d30d01869aea2dee960a60614fe9a4738", func := "jalousie/jalousielaw.MachineTells", spec := "machineTells", unfollowed := true, recurses := true, named := ["math/bits.deBruijn64tab"], plainKeys := false, apart := false, laid := [("math/bits.deBruijn64tab", laid_math_bits_deBruijn64tab)] }
def MachineTellsSaid : Prop := machineTellsRow.holds Tryd.pinned (OpenSpec.ofChange machineTellsSpec)

/-- ITS FALSE NEIGHBOUR: 'it returns false'. Refute it at one input. -/
def machineTellsWrong : ChangeSpec := { name := "machineTells", fn := fun _ => fun
  | [d1, d2, d3] => { results := [.lit (.bool false)], args := [d1, d2, d3] }
  | _ => none }
def MachineTellsWrongFalsely : Prop := machineTellsRow.holds Tryd.pinned (OpenSpec.ofChange machineTellsWrong)

/-- 'jalousiekeep.ReachTrims': WHATEVER THE INPUT: true; the input reads as it did. -/
def reachTrimsSpec : ChangeSpec := { name := "reachTrims", fn := fun _ => fun
  | [d1, d2] => { results := [.lit (.bool true)], args := [d1, d2] }
  | _ => none }
def reachTrimsRow : OpenClaim := { program := "ytgebfkmfhpcdhaadoor", sum := "a85e95988bc5e153b0f821001339058d30d01869aea2dee960a60614fe9a4738", func := "jalousie/jalousiekeep.ReachTrims", spec := "reachTrims", unfollowed := true, recurses := true, named := ["math/bits.deBruijn64tab"], plainKeys := false, apart := false, laid := [("math/bits.deBruijn64tab", laid_math_bits_deBruijn64tab)] }
def ReachTrimsSaid : Prop := reachTrimsRow.holds Tryd.pinned (OpenSpec.ofChange reachTrimsSpec)

/-- ITS FALSE NEIGHBOUR: 'it returns false'. Refute it at one input. -/
def reachTrimsWrong : ChangeSpec := { name := "reachTrims", fn := fun _ => fun
  | [d1, d2] => { results := [.lit (.bool false)], args := [d1, d2] }
  | _ => none }
def ReachTrimsWrongFalsely : Prop := reachTrimsRow.holds Tryd.pinned (OpenSpec.ofChange reachTrimsWrong)

/-- 'jalousielaw.HideMakes': WHATEVER THE INPUT: true; the input reads as it did. -/
def hideMakesSpec : ChangeSpec := { name := "hideMakes", fn := fun _ => fun
  | [d1, d2, d3] => { results := [.lit (.bool true)], args := [d1, d2, d3] }
  | _ => none }
def hideMakesRow : OpenClaim := { program := "ytgebfkmfhpcdhaadoor", sum := "a85e95988bc5e153b0f821001339058d30d01869aea2dee960a60614fe9a4738", func := "jalousie/jalousielaw.HideMakes", spec := "hideMakes", unfollowed := true, recurses := true, named := ["math/bits.deBruijn64tab"], plainKeys := false, apart := false, laid := [("math/bits.deBruijn64tab", laid_math_bits_deBruijn64tab)] }
def HideMakesSaid : Prop := hideMakesRow.holds Tryd.pinned (OpenSpec.ofChange hideMakesSpec)

/-- ITS FALSE NEIGHBOUR: 'it returns false'. Refute it at one input. -/
def hideMakesWrong : ChangeSpec := { name := "hideMakes", fn := fun _ => fun
  | [d1, d2, d3] => { results := [.lit (.bool false)], args := [d1, d2, d3] }
  | _ => none }
def HideMakesWrongFalsely : Prop := hideMakesRow.holds Tryd.pinned (OpenSpec.ofChange hideMakesWrong)

/-- 'jalousielaw.WithinTells': WHATEVER THE INPUT: true; the input reads as it did. -/
def withinTellsSpec : ChangeSpec := { name := "withinTells", fn := fun _ => fun
  | [d1, d2] => { results := [.lit (.bool true)], args := [d1, d2] }
  | _ => none }
def withinTellsRow : OpenClaim := { program := "ytgebfkmfhpcdhaadoor", sum := "a85e95988bc5e153b0f821001339058d30d01869aea2dee960a60614fe9a4738", func := "jalousie/jalousielaw.WithinTells", spec := "withinTells", unfollowed := true, recurses := true, named := ["math/bits.deBruijn64tab"], plainKeys := false, apart := false, laid := [("math/bits.deBruijn64tab", laid_math_bits_deBruijn64tab)] }
def WithinTellsSaid : Prop := withinTellsRow.holds Tryd.pinned (OpenSpec.ofChange withinTellsSpec)

/-- ITS FALSE NEIGHBOUR: 'it returns false'. Refute it at one input. -/
def withinTellsWrong : ChangeSpec := { name := "withinTells", fn := fun _ => fun
  | [d1, d2] => { results := [.lit (.bool false)], args := [d1, d2] }
  | _ => none }
def WithinTellsWrongFalsely : Prop := withinTellsRow.holds Tryd.pinned (OpenSpec.ofChange withinTellsWrong)

/-- 'jalousielaw.CurrentTells': WHATEVER THE INPUT: true; the input reads as it did. -/
def currentTellsSpec : ChangeSpec := { name := "currentTells", fn := fun _ => fun
  | [d1, d2] => { results := [.lit (.bool true)], args := [d1, d2] }
  | _ => none }
def currentTellsRow : OpenClaim := { program := "ytgebfkmfhpcdhaadoor", sum := "a85e95988bc5e153b0f821001339058d30d01869aea2dee960a60614fe9a4738", func := "jalousie/jalousielaw.CurrentTells", spec := "currentTells", unfollowed := true, recurses := true, named := ["math/bits.deBruijn64tab"], plainKeys := false, apart := false, laid := [("math/bits.deBruijn64tab", laid_math_bits_deBruijn64tab)] }
def CurrentTellsSaid : Prop := currentTellsRow.holds Tryd.pinned (OpenSpec.ofChange currentTellsSpec)

/-- ITS FALSE NEIGHBOUR: 'it returns false'. Refute it at one input. -/
def currentTellsWrong : ChangeSpec := { name := "currentTells", fn := fun _ => fun
  | [d1, d2] => { results := [.lit (.bool false)], args := [d1, d2] }
  | _ => none }
def CurrentTellsWrongFalsely : Prop := currentTellsRow.holds Tryd.pinned (OpenSpec.ofChange currentTellsWrong)

/-- 'jalousielaw.SecretTells': WHATEVER THE INPUT: true; the input reads as it did. -/
def secretTellsSpec : ChangeSpec := { name := "secretTells", fn := fun _ => fun
  | [d1, d2, d3] => { results := [.lit (.bool true)], args := [d1, d2, d3] }
  | _ => none }
def secretTellsRow : OpenClaim := { program := "ytgebfkmfhpcdhaadoor", sum := "a85e95988bc5e153b0f821001339058d30d01869aea2dee960a60614fe9a4738", func := "jalousie/jalousielaw.SecretTells", spec := "secretTells", unfollowed := true, recurses := true, named := ["math/bits.deBruijn64tab"], plainKeys := false, apart := false, laid := [("math/bits.deBruijn64tab", laid_math_bits_deBruijn64tab)] }
def SecretTellsSaid : Prop := secretTellsRow.holds Tryd.pinned (OpenSpec.ofChange secretTellsSpec)

/-- ITS FALSE NEIGHBOUR: 'it returns false'. Refute it at one input. -/
def secretTellsWrong : ChangeSpec := { name := "secretTells", fn := fun _ => fun
  | [d1, d2, d3] => { results := [.lit (.bool false)], args := [d1, d2, d3] }
  | _ => none }
def SecretTellsWrongFalsely : Prop := secretTellsRow.holds Tryd.pinned (OpenSpec.ofChange secretTellsWrong)

/-- 'jalousielaw.SecretKeeps': WHATEVER THE INPUT: true; the input reads as it did. -/
def secretKeepsSpec : ChangeSpec := { name := "secretKeeps", fn := fun _ => fun
  | [d1, d2, d3, d4] => { results := [.lit (.bool true)], args := [d1, d2, d3, d4] }
  | _ => none }
def secretKeepsRow : OpenClaim := { program := "ytgebfkmfhpcdhaadoor", sum := "a85e95988bc5e153b0f821001339058d30d01869aea2dee960a60614fe9a4738", func := "jalousie/jalousielaw.SecretKeeps", spec := "secretKeeps", unfollowed := true, recurses := true, named := ["math/bits.deBruijn64tab"], plainKeys := false, apart := false, laid := [("math/bits.deBruijn64tab", laid_math_bits_deBruijn64tab)] }
def SecretKeepsSaid : Prop := secretKeepsRow.holds Tryd.pinned (OpenSpec.ofChange secretKeepsSpec)

/-- ITS FALSE NEIGHBOUR: 'it returns false'. Refute it at one input. -/
def secretKeepsWrong : ChangeSpec := { name := "secretKeeps", fn := fun _ => fun
  | [d1, d2, d3, d4] => { results := [.lit (.bool false)], args := [d1, d2, d3, d4] }
  | _ => none }
def SecretKeepsWrongFalsely : Prop := secretKeepsRow.holds Tryd.pinned (OpenSpec.ofChange secretKeepsWrong)

/-- 'jalousielaw.ToldTells': WHATEVER THE INPUT: true; the input reads as it did. -/
def toldTellsSpec : ChangeSpec := { name := "toldTells", fn := fun _ => fun
  | [d1, d2] => { results := [.lit (.bool true)], args := [d1, d2] }
  | _ => none }
def toldTellsRow : OpenClaim := { program := "ytgebfkmfhpcdhaadoor", sum := "a85e95988bc5e153b0f821001339058d30d01869aea2dee960a60614fe9a4738", func := "jalousie/jalousielaw.ToldTells", spec := "toldTells", unfollowed := true, recurses := true, named := ["math/bits.deBruijn64tab"], plainKeys := false, apart := false, laid := [("math/bits.deBruijn64tab", laid_math_bits_deBruijn64tab)] }
def ToldTellsSaid : Prop := toldTellsRow.holds Tryd.pinned (OpenSpec.ofChange toldTellsSpec)

/-- ITS FALSE NEIGHBOUR: 'it returns false'. Refute it at one input. -/
def toldTellsWrong : ChangeSpec := { name := "toldTells", fn := fun _ => fun
  | [d1, d2] => { results := [.lit (.bool false)], args := [d1, d2] }
  | _ => none }
def ToldTellsWrongFalsely : Prop := toldTellsRow.holds Tryd.pinned (OpenSpec.ofChange toldTellsWrong)

/-- 'jalousietop.TopOne': WHATEVER THE INPUT: true; the input reads as it did. -/
def topOneSpec : ChangeSpec := { name := "topOne", fn := fun _ => fun
  | [d] => { results := [.lit (.bool true)], args := [d] }
  | _ => none }
def topOneRow : OpenClaim := { program := "ytgebfkmfhpcdhaadoor", sum := "a85e95988bc5e153b0f821001339058d30d01869aea2dee960a60614fe9a4738", func := "jalousie/jalousietop.TopOne", spec := "topOne", unfollowed := true, recurses := true, named := ["math/bits.deBruijn64tab"], plainKeys := false, apart := false, laid := [("math/bits.deBruijn64tab", laid_math_bits_deBruijn64tab)] }
def TopOneSaid : Prop := topOneRow.holds Tryd.pinned (OpenSpec.ofChange topOneSpec)

/-- ITS FALSE NEIGHBOUR: 'it returns false'. Refute it at one input. -/
def topOneWrong : ChangeSpec := { name := "topOne", fn := fun _ => fun
  | [d] => { results := [.lit (.bool false)], args := [d] }
  | _ => none }
def TopOneWrongFalsely : Prop := topOneRow.holds Tryd.pinned (OpenSpec.ofChange topOneWrong)

/-- 'jalousielaw.DelayTells': WHATEVER THE INPUT: true; the input reads as it did. -/
def delayTellsSpec : ChangeSpec := { name := "delayTells", fn := fun _ => fun
  | [d1, d2, d3] => { results := [.lit (.bool true)], args := [d1, d2, d3] }
  | _ => none }
def delayTellsRow : OpenClaim := { program := "ytgebfkmfhpcdhaadoor", sum := "a85e95988bc5e153b0f821001339058d30d01869aea2dee960a60614fe9a4738", func := "jalousie/jalousielaw.DelayTells", spec := "delayTells", unfollowed := true, recurses := true, named := ["math/bits.deBruijn64tab"], plainKeys := false, apart := false, laid := [("math/bits.deBruijn64tab", laid_math_bits_deBruijn64tab)] }
def DelayTellsSaid : Prop := delayTellsRow.holds Tryd.pinned (OpenSpec.ofChange delayTellsSpec)

/-- ITS FALSE NEIGHBOUR: 'it returns false'. Refute it at one input. -/
def delayTellsWrong : ChangeSpec := { name := "delayTells", fn := fun _ => fun
  | [d1, d2, d3] => { results := [.lit (.bool false)], args := [d1, d2, d3] }
  | _ => none }
def DelayTellsWrongFalsely : Prop := delayTellsRow.holds Tryd.pinned (OpenSpec.ofChange delayTellsWrong)

/-- 'jalousielaw.DelayHolds': WHATEVER THE INPUT: true; the input reads as it did. -/
def delayHoldsSpec : ChangeSpec := { name := "delayHolds", fn := fun _ => fun
  | [d1, d2, d3, d4] => { results := [.lit (.bool true)], args := [d1, d2, d3, d4] }
  | _ => none }
def delayHoldsRow : OpenClaim := { program := "ytgebfkmfhpcdhaadoor", sum := "a85e95988bc5e153b0f821001339058d30d01869aea2dee960a60614fe9a4738", func := "jalousie/jalousielaw.DelayHolds", spec := "delayHolds", unfollowed := true, recurses := true, named := ["math/bits.deBruijn64tab"], plainKeys := false, apart := false, laid := [("math/bits.deBruijn64tab", laid_math_bits_deBruijn64tab)] }
def DelayHoldsSaid : Prop := delayHoldsRow.holds Tryd.pinned (OpenSpec.ofChange delayHoldsSpec)

/-- ITS FALSE NEIGHBOUR: 'it returns false'. Refute it at one input. -/
def delayHoldsWrong : ChangeSpec := { name := "delayHolds", fn := fun _ => fun
  | [d1, d2, d3, d4] => { results := [.lit (.bool false)], args := [d1, d2, d3, d4] }
  | _ => none }
def DelayHoldsWrongFalsely : Prop := delayHoldsRow.holds Tryd.pinned (OpenSpec.ofChange delayHoldsWrong)

/-- 'jalousietop.TopFound': WHATEVER THE INPUT: true; the input reads as it did. -/
def topFoundSpec : ChangeSpec := { name := "topFound", fn := fun _ => fun
  | [d1, d2, d3, d4] => { results := [.lit (.bool true)], args := [d1, d2, d3, d4] }
  | _ => none }
def topFoundRow : OpenClaim := { program := "ytgebfkmfhpcdhaadoor", sum := "a85e95988bc5e153b0f821001339058d30d01869aea2dee960a60614fe9a4738", func := "jalousie/jalousietop.TopFound", spec := "topFound", unfollowed := true, recurses := true, named := ["math/bits.deBruijn64tab"], plainKeys := false, apart := false, laid := [("math/bits.deBruijn64tab", laid_math_bits_deBruijn64tab)] }
def TopFoundSaid : Prop := topFoundRow.holds Tryd.pinned (OpenSpec.ofChange topFoundSpec)

/-- ITS FALSE NEIGHBOUR: 'it returns false'. Refute it at one input. -/
def topFoundWrong : ChangeSpec := { name := "topFound", fn := fun _ => fun
  | [d1, d2, d3, d4] => { results := [.lit (.bool false)], args := [d1, d2, d3, d4] }
  | _ => none }
def TopFoundWrongFalsely : Prop := topFoundRow.holds Tryd.pinned (OpenSpec.ofChange topFoundWrong)

/- THE SECOND FORM. 'bulk': how many values and letters a reading holds, each counted each time it is reached (what is shared counts as often as it is met; a slice's spare places count too). A statement '..UptoSaid' is the law's where the arguments, and the package variables that the reading takes, are together of bulk at most 1048576: NARROWER than '..Said'. Prove '..Said' where nothing that the law and all that it calls make is longer than what came in: it says more and counts as full. Else prove '..UptoSaid'. A law counts once. -/
mutual
def uptoBulk {H : Type} : DataW H → Nat
  | .lit (.string bytes) => bytes.length + 1
  | .lit _ => 1
  | .nil => 1
  | .ptr d => uptoBulk d + 1
  | .slice elems spare => uptoBulkAll elems + uptoBulkAll spare + 1
  | .agg parts => uptoBulkAll parts + 1
  | .iface _ d => uptoBulk d + 1
  | .map entries => uptoBulkEntries entries + 1
  | .held _ => 1
def uptoBulkAll {H : Type} : List (DataW H) → Nat
  | [] => 0
  | d :: r => uptoBulk d + uptoBulkAll r
def uptoBulkEntries {H : Type} : List (Lit × DataW H) → Nat
  | [] => 0
  | x :: r => uptoBulkEntry x + uptoBulkEntries r
def uptoBulkEntry {H : Type} : Lit × DataW H → Nat
  | (.string bytes, d) => bytes.length + uptoBulk d + 1
  | (_, d) => uptoBulk d + 1
 end
def uptoSmall : (H : Type) → List (DataW H) → Bool := fun _ ds => decide (uptoBulkAll ds ≤ 1048576)
def OpenSpec.upto (s : _root_.Go.ChangeSpec) : _root_.Go.OpenSpec := { _root_.Go.OpenSpec.ofChange s with cond := some uptoSmall }

/-- 'jalousielaw.MachineTells', WHERE WHAT IT READS IS OF BULK AT MOST 1048576: true; the input reads as it did. -/
def machineTellsUptoRow : OpenClaim := { program := "ytgebfkmfhpcdhaadoor", sum := "a85e95988bc5e153b0f821001339058d30d01869aea2dee960a60614fe9a4738", func := "jalousie/jalousielaw.MachineTells", spec := "machineTells", unfollowed := true, recurses := true, named := ["math/bits.deBruijn64tab"], plainKeys := false, apart := false, laid := [("math/bits.deBruijn64tab", laid_math_bits_deBruijn64tab)], narrowed := true }
def MachineTellsUptoSaid : Prop := machineTellsUptoRow.holds Tryd.pinned (OpenSpec.upto machineTellsSpec)

/-- 'jalousiekeep.ReachTrims', WHERE WHAT IT READS IS OF BULK AT MOST 1048576: true; the input reads as it did. -/
def reachTrimsUptoRow : OpenClaim := { program := "ytgebfkmfhpcdhaadoor", sum := "a85e95988bc5e153b0f821001339058d30d01869aea2dee960a60614fe9a4738", func := "jalousie/jalousiekeep.ReachTrims", spec := "reachTrims", unfollowed := true, recurses := true, named := ["math/bits.deBruijn64tab"], plainKeys := false, apart := false, laid := [("math/bits.deBruijn64tab", laid_math_bits_deBruijn64tab)], narrowed := true }
def ReachTrimsUptoSaid : Prop := reachTrimsUptoRow.holds Tryd.pinned (OpenSpec.upto reachTrimsSpec)

/-- 'jalousielaw.HideMakes', WHERE WHAT IT READS IS OF BULK AT MOST 1048576: true; the input reads as it did. -/
def hideMakesUptoRow : OpenClaim := { program := "ytgebfkmfhpcdhaadoor", sum := "a85e95988bc5e153b0f821001339058d30d01869aea2dee960a60614fe9a4738", func := "jalousie/jalousielaw.HideMakes", spec := "hideMakes", unfollowed := true, recurses := true, named := ["math/bits.deBruijn64tab"], plainKeys := false, apart := false, laid := [("math/bits.deBruijn64tab", laid_math_bits_deBruijn64tab)], narrowed := true }
def HideMakesUptoSaid : Prop := hideMakesUptoRow.holds Tryd.pinned (OpenSpec.upto hideMakesSpec)

/-- 'jalousielaw.WithinTells', WHERE WHAT IT READS IS OF BULK AT MOST 1048576: true; the input reads as it did. -/
def withinTellsUptoRow : OpenClaim := { program := "ytgebfkmfhpcdhaadoor", sum := "a85e95988bc5e153b0f821001339058d30d01869aea2dee960a60614fe9a4738", func := "jalousie/jalousielaw.WithinTells", spec := "withinTells", unfollowed := true, recurses := true, named := ["math/bits.deBruijn64tab"], plainKeys := false, apart := false, laid := [("math/bits.deBruijn64tab", laid_math_bits_deBruijn64tab)], narrowed := true }
def WithinTellsUptoSaid : Prop := withinTellsUptoRow.holds Tryd.pinned (OpenSpec.upto withinTellsSpec)

/-- 'jalousielaw.CurrentTells', WHERE WHAT IT READS IS OF BULK AT MOST 1048576: true; the input reads as it did. -/
def currentTellsUptoRow : OpenClaim := { program := "ytgebfkmfhpcdhaadoor", sum := "a85e95988bc5e153b0f821001339058d30d01869aea2dee960a60614fe9a4738", func := "jalousie/jalousielaw.CurrentTells", spec := "currentTells", unfollowed := true, recurses := true, named := ["math/bits.deBruijn64tab"], plainKeys := false, apart := false, laid := [("math/bits.deBruijn64tab", laid_math_bits_deBruijn64tab)], narrowed := true }
def CurrentTellsUptoSaid : Prop := currentTellsUptoRow.holds Tryd.pinned (OpenSpec.upto currentTellsSpec)

/-- 'jalousielaw.SecretTells', WHERE WHAT IT READS IS OF BULK AT MOST 1048576: true; the input reads as it did. -/
def secretTellsUptoRow : OpenClaim := { program := "ytgebfkmfhpcdhaadoor", sum := "a85e95988bc5e153b0f821001339058d30d01869aea2dee960a60614fe9a4738", func := "jalousie/jalousielaw.SecretTells", spec := "secretTells", unfollowed := true, recurses := true, named := ["math/bits.deBruijn64tab"], plainKeys := false, apart := false, laid := [("math/bits.deBruijn64tab", laid_math_bits_deBruijn64tab)], narrowed := true }
def SecretTellsUptoSaid : Prop := secretTellsUptoRow.holds Tryd.pinned (OpenSpec.upto secretTellsSpec)

/-- 'jalousielaw.SecretKeeps', WHERE WHAT IT READS IS OF BULK AT MOST 1048576: true; the input reads as it did. -/
def secretKeepsUptoRow : OpenClaim := { program := "ytgebfkmfhpcdhaadoor", sum := "a85e95988bc5e153b0f821001339058d30d01869aea2dee960a60614fe9a4738", func := "jalousie/jalousielaw.SecretKeeps", spec := "secretKeeps", unfollowed := true, recurses := true, named := ["math/bits.deBruijn64tab"], plainKeys := false, apart := false, laid := [("math/bits.deBruijn64tab", laid_math_bits_deBruijn64tab)], narrowed := true }
def SecretKeepsUptoSaid : Prop := secretKeepsUptoRow.holds Tryd.pinned (OpenSpec.upto secretKeepsSpec)

/-- 'jalousielaw.ToldTells', WHERE WHAT IT READS IS OF BULK AT MOST 1048576: true; the input reads as it did. -/
def toldTellsUptoRow : OpenClaim := { program := "ytgebfkmfhpcdhaadoor", sum := "a85e95988bc5e153b0f821001339058d30d01869aea2dee960a60614fe9a4738", func := "jalousie/jalousielaw.ToldTells", spec := "toldTells", unfollowed := true, recurses := true, named := ["math/bits.deBruijn64tab"], plainKeys := false, apart := false, laid := [("math/bits.deBruijn64tab", laid_math_bits_deBruijn64tab)], narrowed := true }
def ToldTellsUptoSaid : Prop := toldTellsUptoRow.holds Tryd.pinned (OpenSpec.upto toldTellsSpec)

/-- 'jalousietop.TopOne', WHERE WHAT IT READS IS OF BULK AT MOST 1048576: true; the input reads as it did. -/
def topOneUptoRow : OpenClaim := { program := "ytgebfkmfhpcdhaadoor", sum := "a85e95988bc5e153b0f821001339058d30d01869aea2dee960a60614fe9a4738", func := "jalousie/jalousietop.TopOne", spec := "topOne", unfollowed := true, recurses := true, named := ["math/bits.deBruijn64tab"], plainKeys := false, apart := false, laid := [("math/bits.deBruijn64tab", laid_math_bits_deBruijn64tab)], narrowed := true }
def TopOneUptoSaid : Prop := topOneUptoRow.holds Tryd.pinned (OpenSpec.upto topOneSpec)

/-- 'jalousielaw.DelayTells', WHERE WHAT IT READS IS OF BULK AT MOST 1048576: true; the input reads as it did. -/
def delayTellsUptoRow : OpenClaim := { program := "ytgebfkmfhpcdhaadoor", sum := "a85e95988bc5e153b0f821001339058d30d01869aea2dee960a60614fe9a4738", func := "jalousie/jalousielaw.DelayTells", spec := "delayTells", unfollowed := true, recurses := true, named := ["math/bits.deBruijn64tab"], plainKeys := false, apart := false, laid := [("math/bits.deBruijn64tab", laid_math_bits_deBruijn64tab)], narrowed := true }
def DelayTellsUptoSaid : Prop := delayTellsUptoRow.holds Tryd.pinned (OpenSpec.upto delayTellsSpec)

/-- 'jalousielaw.DelayHolds', WHERE WHAT IT READS IS OF BULK AT MOST 1048576: true; the input reads as it did. -/
def delayHoldsUptoRow : OpenClaim := { program := "ytgebfkmfhpcdhaadoor", sum := "a85e95988bc5e153b0f821001339058d30d01869aea2dee960a60614fe9a4738", func := "jalousie/jalousielaw.DelayHolds", spec := "delayHolds", unfollowed := true, recurses := true, named := ["math/bits.deBruijn64tab"], plainKeys := false, apart := false, laid := [("math/bits.deBruijn64tab", laid_math_bits_deBruijn64tab)], narrowed := true }
def DelayHoldsUptoSaid : Prop := delayHoldsUptoRow.holds Tryd.pinned (OpenSpec.upto delayHoldsSpec)

/-- 'jalousietop.TopFound', WHERE WHAT IT READS IS OF BULK AT MOST 1048576: true; the input reads as it did. -/
def topFoundUptoRow : OpenClaim := { program := "ytgebfkmfhpcdhaadoor", sum := "a85e95988bc5e153b0f821001339058d30d01869aea2dee960a60614fe9a4738", func := "jalousie/jalousietop.TopFound", spec := "topFound", unfollowed := true, recurses := true, named := ["math/bits.deBruijn64tab"], plainKeys := false, apart := false, laid := [("math/bits.deBruijn64tab", laid_math_bits_deBruijn64tab)], narrowed := true }
def TopFoundUptoSaid : Prop := topFoundUptoRow.holds Tryd.pinned (OpenSpec.upto topFoundSpec)

end Rows
end Go.Proofs.YtgebfkmfhpcdhaaDoor
