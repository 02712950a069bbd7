/-
  NARROWER THAN 'FOR EVERY INPUT', by the rows' own cells (each row's printed sentence says how): MachineTells: laid · ReachTrims: laid · HideMakes: laid · CurrentTells: laid · ControlTells: laid · ControlMost: laid · VeilMakes: laid · VeilKeeps: laid · VeilMost: laid.
  DERIVED. THE GIVEN ROWS OF THIS SEAT. 9 by the template 'for every input the law returns true; each argument reads behind the call as it read before'; 0 by the template 'total and deterministic' (their statements: YtkodmnooibpflaaDoorTotals.lean).
  GIVEN WITH THE SEED: the statements are not yours to turn. If you find one false, say at which input.
  Laid BY PROGRAM, IN A SANDBOX (cutbox-rows.mjs): the forced cells as the released guide's own fill.sh prints them over the translation 3e51668e5b6f75c8… (all of the seat's roots in one cut). By AI agents, Wed Nov 11 2026. No macro, syntax, notation, axiom, sorry.
-/
import Derived.Test.YtkodmnooibpflaaDoorChecked
import GoSem.Claim
import GoSem.ClaimJoined
import GoSem.ClaimMapViews
import Derived.JoinedTies
import Derived.KernelRfl
namespace Go.Proofs.YtkodmnooibpflaaDoor
/- THE CELL 'sum', in the pinned program and in every row, IS THE sha256 OF THE DUMP (.gsa) THAT YtkodmnooibpflaaDoorProg.lean LOADS. Nothing in Lean hashes anything: it is a label: what it is worth is what the hold of that sum in a sandbox is worth. -/
noncomputable def Tryd.pinned : Pinned := { name := "ytkodmnooibpflaadoor", sum := "3e51668e5b6f75c82dfddb71735c1b13cfa9cd1c8787c14628c4d6cdd14aa954", checked := Tryd.checked }
namespace Rows
def none {H : Type} : Left H := { results := [], args := [] }

/- WHAT THE LISTED PACKAGE-LEVEL VARIABLES READ AS WHEN THE CALL BEGINS. Each datum BY PROGRAM (the guide's laid-datum.mjs) off the statement by which the dump's own 'gosem.cut.vars' lays the variable. In a bare row this is a premise. The card (YtkodmnooibpflaaDoorCards.lean) ties it to the program's text. -/
def laid_math_bits_deBruijn64tab {H : Type} : DataW H := .agg [.lit (.int .u8 0), .lit (.int .u8 1), .lit (.int .u8 56), .lit (.int .u8 2), .lit (.int .u8 57), .lit (.int .u8 49), .lit (.int .u8 28), .lit (.int .u8 3), .lit (.int .u8 61), .lit (.int .u8 58), .lit (.int .u8 42), .lit (.int .u8 50), .lit (.int .u8 38), .lit (.int .u8 29), .lit (.int .u8 17), .lit (.int .u8 4), .lit (.int .u8 62), .lit (.int .u8 47), .lit (.int .u8 59), .lit (.int .u8 36), .lit (.int .u8 45), .lit (.int .u8 43), .lit (.int .u8 51), .lit (.int .u8 22), .lit (.int .u8 53), .lit (.int .u8 39), .lit (.int .u8 33), .lit (.int .u8 30), .lit (.int .u8 24), .lit (.int .u8 18), .lit (.int .u8 12), .lit (.int .u8 5), .lit (.int .u8 63), .lit (.int .u8 55), .lit (.int .u8 48), .lit (.int .u8 27), .lit (.int .u8 60), .lit (.int .u8 41), .lit (.int .u8 37), .lit (.int .u8 16), .lit (.int .u8 46), .lit (.int .u8 35), .lit (.int .u8 44), .lit (.int .u8 21), .lit (.int .u8 52), .lit (.int .u8 32), .lit (.int .u8 23), .lit (.int .u8 11), .lit (.int .u8 54), .lit (.int .u8 26), .lit (.int .u8 40), .lit (.int .u8 15), .lit (.int .u8 34), .lit (.int .u8 20), .lit (.int .u8 31), .lit (.int .u8 10), .lit (.int .u8 25), .lit (.int .u8 14), .lit (.int .u8 19), .lit (.int .u8 9), .lit (.int .u8 13), .lit (.int .u8 8), .lit (.int .u8 7), .lit (.int .u8 6)]

/-- 'jalousielaw.MachineTells': WHATEVER THE INPUT: true; the input reads as it did. -/
def machineTellsSpec : ChangeSpec := { name := "machineTells", fn := fun _ => fun
  | [d1, d2, d3] => { results := [.lit (.bool true)], args := [d1, d2, d3] }
  | _ => none }
def machineTellsRow : OpenClaim := { program := "ytkodmnooibpflaadoor", sum := "3e51668e5b6f75c82dfddb71735c1b13cfa9cd1c8787c14628c4d6cdd14aa954", func := "jalousie/jalousielaw.MachineTells", spec := "machineTells", unfollowed := true, recurses := true, named := ["math/bits.deBruijn64tab"], plainKeys := false, apart := false, laid := [("math/bits.deBruijn64tab", laid_math_bits_deBruijn64tab)] }
def MachineTellsSaid : Prop := machineTellsRow.holds Tryd.pinned (OpenSpec.ofChange machineTellsSpec)

/-- ITS FALSE NEIGHBOUR: 'it returns false'. Refute it at one input. -/
def machineTellsWrong : ChangeSpec := { name := "machineTells", fn := fun _ => fun
  | [d1, d2, d3] => { results := [.lit (.bool false)], args := [d1, d2, d3] }
  | _ => none }
def MachineTellsWrongFalsely : Prop := machineTellsRow.holds Tryd.pinned (OpenSpec.ofChange machineTellsWrong)

/-- 'jalousiekeep.ReachTrims': WHATEVER THE INPUT: true; the input reads as it did. -/
def reachTrimsSpec : ChangeSpec := { name := "reachTrims", fn := fun _ => fun
  | [d1, d2] => { results := [.lit (.bool true)], args := [d1, d2] }
  | _ => none }
def reachTrimsRow : OpenClaim := { program := "ytkodmnooibpflaadoor", sum := "3e51668e5b6f75c82dfddb71735c1b13cfa9cd1c8787c14628c4d6cdd14aa954", func := "jalousie/jalousiekeep.ReachTrims", spec := "reachTrims", unfollowed := true, recurses := true, named := ["math/bits.deBruijn64tab"], plainKeys := false, apart := false, laid := [("math/bits.deBruijn64tab", laid_math_bits_deBruijn64tab)] }
def ReachTrimsSaid : Prop := reachTrimsRow.holds Tryd.pinned (OpenSpec.ofChange reachTrimsSpec)

/-- ITS FALSE NEIGHBOUR: 'it returns false'. Refute it at one input. -/
def reachTrimsWrong : ChangeSpec := { name := "reachTrims", fn := fun _ => fun
  | [d1, d2] => { results := [.lit (.bool false)], args := [d1, d2] }
  | _ => none }
def ReachTrimsWrongFalsely : Prop := reachTrimsRow.holds Tryd.pinned (OpenSpec.ofChange reachTrimsWrong)

/-- 'jalousielaw.HideMakes': WHATEVER THE INPUT: true; the input reads as it did. -/
def hideMakesSpec : ChangeSpec := { name := "hideMakes", fn := fun _ => fun
  | [d1, d2, d3] => { results := [.lit (.bool true)], args := [d1, d2, d3] }
  | _ => none }
def hideMakesRow : OpenClaim := { program := "ytkodmnooibpflaadoor", sum := "3e51668e5b6f75c82dfddb71735c1b13cfa9cd1c8787c14628c4d6cdd14aa954", func := "jalousie/jalousielaw.HideMakes", spec := "hideMakes", unfollowed := true, recurses := true, named := ["math/bits.deBruijn64tab"], plainKeys := false, apart := false, laid := [("math/bits.deBruijn64tab", laid_math_bits_deBruijn64tab)] }
def HideMakesSaid : Prop := hideMakesRow.holds Tryd.pinned (OpenSpec.ofChange hideMakesSpec)

/-- ITS FALSE NEIGHBOUR: 'it returns false'. Refute it at one input. -/
def hideMakesWrong : ChangeSpec := { name := "hideMakes", fn := fun _ => fun
  | [d1, d2, d3] => { results := [.lit (.bool false)], args := [d1, d2, d3] }
  | _ => none }
def HideMakesWrongFalsely : Prop := hideMakesRow.holds Tryd.pinned (OpenSpec.ofChange hideMakesWrong)

/-- 'jalousielaw.CurrentTells': WHATEVER THE INPUT: true; the input reads as it did. -/
def currentTellsSpec : ChangeSpec := { name := "currentTells", fn := fun _ => fun
  | [d1, d2] => { results := [.lit (.bool true)], args := [d1, d2] }
  | _ => none }
def currentTellsRow : OpenClaim := { program := "ytkodmnooibpflaadoor", sum := "3e51668e5b6f75c82dfddb71735c1b13cfa9cd1c8787c14628c4d6cdd14aa954", func := "jalousie/jalousielaw.CurrentTells", spec := "currentTells", unfollowed := true, recurses := true, named := ["math/bits.deBruijn64tab"], plainKeys := false, apart := false, laid := [("math/bits.deBruijn64tab", laid_math_bits_deBruijn64tab)] }
def CurrentTellsSaid : Prop := currentTellsRow.holds Tryd.pinned (OpenSpec.ofChange currentTellsSpec)

/-- ITS FALSE NEIGHBOUR: 'it returns false'. Refute it at one input. -/
def currentTellsWrong : ChangeSpec := { name := "currentTells", fn := fun _ => fun
  | [d1, d2] => { results := [.lit (.bool false)], args := [d1, d2] }
  | _ => none }
def CurrentTellsWrongFalsely : Prop := currentTellsRow.holds Tryd.pinned (OpenSpec.ofChange currentTellsWrong)

/-- 'jalousielaw.ControlTells': WHATEVER THE INPUT: true; the input reads as it did. -/
def controlTellsSpec : ChangeSpec := { name := "controlTells", fn := fun _ => fun
  | [d1, d2, d3] => { results := [.lit (.bool true)], args := [d1, d2, d3] }
  | _ => none }
def controlTellsRow : OpenClaim := { program := "ytkodmnooibpflaadoor", sum := "3e51668e5b6f75c82dfddb71735c1b13cfa9cd1c8787c14628c4d6cdd14aa954", func := "jalousie/jalousielaw.ControlTells", spec := "controlTells", unfollowed := true, recurses := true, named := ["math/bits.deBruijn64tab"], plainKeys := false, apart := false, laid := [("math/bits.deBruijn64tab", laid_math_bits_deBruijn64tab)] }
def ControlTellsSaid : Prop := controlTellsRow.holds Tryd.pinned (OpenSpec.ofChange controlTellsSpec)

/-- ITS FALSE NEIGHBOUR: 'it returns false'. Refute it at one input. -/
def controlTellsWrong : ChangeSpec := { name := "controlTells", fn := fun _ => fun
  | [d1, d2, d3] => { results := [.lit (.bool false)], args := [d1, d2, d3] }
  | _ => none }
def ControlTellsWrongFalsely : Prop := controlTellsRow.holds Tryd.pinned (OpenSpec.ofChange controlTellsWrong)

/-- 'jalousielaw.ControlMost': WHATEVER THE INPUT: true; the input reads as it did. -/
def controlMostSpec : ChangeSpec := { name := "controlMost", fn := fun _ => fun
  | [d1, d2, d3, d4] => { results := [.lit (.bool true)], args := [d1, d2, d3, d4] }
  | _ => none }
def controlMostRow : OpenClaim := { program := "ytkodmnooibpflaadoor", sum := "3e51668e5b6f75c82dfddb71735c1b13cfa9cd1c8787c14628c4d6cdd14aa954", func := "jalousie/jalousielaw.ControlMost", spec := "controlMost", unfollowed := true, recurses := true, named := ["math/bits.deBruijn64tab"], plainKeys := false, apart := false, laid := [("math/bits.deBruijn64tab", laid_math_bits_deBruijn64tab)] }
def ControlMostSaid : Prop := controlMostRow.holds Tryd.pinned (OpenSpec.ofChange controlMostSpec)

/-- ITS FALSE NEIGHBOUR: 'it returns false'. Refute it at one input. -/
def controlMostWrong : ChangeSpec := { name := "controlMost", fn := fun _ => fun
  | [d1, d2, d3, d4] => { results := [.lit (.bool false)], args := [d1, d2, d3, d4] }
  | _ => none }
def ControlMostWrongFalsely : Prop := controlMostRow.holds Tryd.pinned (OpenSpec.ofChange controlMostWrong)

/-- 'jalousielaw.VeilMakes': WHATEVER THE INPUT: true; the input reads as it did. -/
def veilMakesSpec : ChangeSpec := { name := "veilMakes", fn := fun _ => fun
  | [d1, d2] => { results := [.lit (.bool true)], args := [d1, d2] }
  | _ => none }
def veilMakesRow : OpenClaim := { program := "ytkodmnooibpflaadoor", sum := "3e51668e5b6f75c82dfddb71735c1b13cfa9cd1c8787c14628c4d6cdd14aa954", func := "jalousie/jalousielaw.VeilMakes", spec := "veilMakes", unfollowed := true, recurses := true, named := ["math/bits.deBruijn64tab"], plainKeys := false, apart := false, laid := [("math/bits.deBruijn64tab", laid_math_bits_deBruijn64tab)] }
def VeilMakesSaid : Prop := veilMakesRow.holds Tryd.pinned (OpenSpec.ofChange veilMakesSpec)

/-- ITS FALSE NEIGHBOUR: 'it returns false'. Refute it at one input. -/
def veilMakesWrong : ChangeSpec := { name := "veilMakes", fn := fun _ => fun
  | [d1, d2] => { results := [.lit (.bool false)], args := [d1, d2] }
  | _ => none }
def VeilMakesWrongFalsely : Prop := veilMakesRow.holds Tryd.pinned (OpenSpec.ofChange veilMakesWrong)

/-- 'jalousielaw.VeilKeeps': WHATEVER THE INPUT: true; the input reads as it did. -/
def veilKeepsSpec : ChangeSpec := { name := "veilKeeps", fn := fun _ => fun
  | [d1, d2, d3] => { results := [.lit (.bool true)], args := [d1, d2, d3] }
  | _ => none }
def veilKeepsRow : OpenClaim := { program := "ytkodmnooibpflaadoor", sum := "3e51668e5b6f75c82dfddb71735c1b13cfa9cd1c8787c14628c4d6cdd14aa954", func := "jalousie/jalousielaw.VeilKeeps", spec := "veilKeeps", unfollowed := true, recurses := true, named := ["math/bits.deBruijn64tab"], plainKeys := false, apart := false, laid := [("math/bits.deBruijn64tab", laid_math_bits_deBruijn64tab)] }
def VeilKeepsSaid : Prop := veilKeepsRow.holds Tryd.pinned (OpenSpec.ofChange veilKeepsSpec)

/-- ITS FALSE NEIGHBOUR: 'it returns false'. Refute it at one input. -/
def veilKeepsWrong : ChangeSpec := { name := "veilKeeps", fn := fun _ => fun
  | [d1, d2, d3] => { results := [.lit (.bool false)], args := [d1, d2, d3] }
  | _ => none }
def VeilKeepsWrongFalsely : Prop := veilKeepsRow.holds Tryd.pinned (OpenSpec.ofChange veilKeepsWrong)

/-- 'jalousielaw.VeilMost': WHATEVER THE INPUT: true; the input reads as it did. -/
def veilMostSpec : ChangeSpec := { name := "veilMost", fn := fun _ => fun
  | [d1, d2, d3] => { results := [.lit (.bool true)], args := [d1, d2, d3] }
  | _ => none }
def veilMostRow : OpenClaim := { program := "ytkodmnooibpflaadoor", sum := "3e51668e5b6f75c82dfddb71735c1b13cfa9cd1c8787c14628c4d6cdd14aa954", func := "jalousie/jalousielaw.VeilMost", spec := "veilMost", unfollowed := true, recurses := true, named := ["math/bits.deBruijn64tab"], plainKeys := false, apart := false, laid := [("math/bits.deBruijn64tab", laid_math_bits_deBruijn64tab)] }
def VeilMostSaid : Prop := veilMostRow.holds Tryd.pinned (OpenSpec.ofChange veilMostSpec)

/-- ITS FALSE NEIGHBOUR: 'it returns false'. Refute it at one input. -/
def veilMostWrong : ChangeSpec := { name := "veilMost", fn := fun _ => fun
  | [d1, d2, d3] => { results := [.lit (.bool false)], args := [d1, d2, d3] }
  | _ => none }
def VeilMostWrongFalsely : Prop := veilMostRow.holds Tryd.pinned (OpenSpec.ofChange veilMostWrong)

/- THE SECOND FORM. 'bulk': how many values and letters a reading holds, each counted each time it is reached (what is shared counts as often as it is met; a slice's spare places count too). A statement '..UptoSaid' is the law's where the arguments, and the package variables that the reading takes, are together of bulk at most 1048576: NARROWER than '..Said'. Prove '..Said' where nothing that the law and all that it calls make is longer than what came in: it says more and counts as full. Else prove '..UptoSaid'. A law counts once. -/
mutual
def uptoBulk {H : Type} : DataW H → Nat
  | .lit (.string bytes) => bytes.length + 1
  | .lit _ => 1
  | .nil => 1
  | .ptr d => uptoBulk d + 1
  | .slice elems spare => uptoBulkAll elems + uptoBulkAll spare + 1
  | .agg parts => uptoBulkAll parts + 1
  | .iface _ d => uptoBulk d + 1
  | .map entries => uptoBulkEntries entries + 1
  | .held _ => 1
def uptoBulkAll {H : Type} : List (DataW H) → Nat
  | [] => 0
  | d :: r => uptoBulk d + uptoBulkAll r
def uptoBulkEntries {H : Type} : List (Lit × DataW H) → Nat
  | [] => 0
  | x :: r => uptoBulkEntry x + uptoBulkEntries r
def uptoBulkEntry {H : Type} : Lit × DataW H → Nat
  | (.string bytes, d) => bytes.length + uptoBulk d + 1
  | (_, d) => uptoBulk d + 1
 end
def uptoSmall : (H : Type) → List (DataW H) → Bool := fun _ ds => decide (uptoBulkAll ds ≤ 1048576)
def OpenSpec.upto (s : _root_.Go.ChangeSpec) : _root_.Go.OpenSpec := { _root_.Go.OpenSpec.ofChange s with cond := some uptoSmall }

/-- 'jalousielaw.MachineTells', WHERE WHAT IT READS IS OF BULK AT MOST 1048576: true; the input reads as it did. -/
def machineTellsUptoRow : OpenClaim := { program := "ytkodmnooibpflaadoor", sum := "3e51668e5b6f75c82dfddb71735c1b13cfa9cd1c8787c14628c4d6cdd14aa954", func := "jalousie/jalousielaw.MachineTells", spec := "machineTells", unfollowed := true, recurses := true, named := ["math/bits.deBruijn64tab"], plainKeys := false, apart := false, laid := [("math/bits.deBruijn64tab", laid_math_bits_deBruijn64tab)], narrowed := true }
def MachineTellsUptoSaid : Prop := machineTellsUptoRow.holds Tryd.pinned (OpenSpec.upto machineTellsSpec)

/-- 'jalousiekeep.ReachTrims', WHERE WHAT IT READS IS OF BULK AT MOST 1048576: true; the input reads as it did. -/
def reachTrimsUptoRow : OpenClaim := { program := "ytkodmnooibpflaadoor", sum := "3e51668e5b6f75c82dfddb71735c1b13cfa9cd1c8787c14628c4d6cdd14aa954", func := "jalousie/jalousiekeep.ReachTrims", spec := "reachTrims", unfollowed := true, recurses := true, named := ["math/bits.deBruijn64tab"], plainKeys := false, apart := false, laid := [("math/bits.deBruijn64tab", laid_math_bits_deBruijn64tab)], narrowed := true }
def ReachTrimsUptoSaid : Prop := reachTrimsUptoRow.holds Tryd.pinned (OpenSpec.upto reachTrimsSpec)

/-- 'jalousielaw.HideMakes', WHERE WHAT IT READS IS OF BULK AT MOST 1048576: true; the input reads as it did. -/
def hideMakesUptoRow : OpenClaim := { program := "ytkodmnooibpflaadoor", sum := "3e51668e5b6f75c82dfddb71735c1b13cfa9cd1c8787c14628c4d6cdd14aa954", func := "jalousie/jalousielaw.HideMakes", spec := "hideMakes", unfollowed := true, recurses := true, named := ["math/bits.deBruijn64tab"], plainKeys := false, apart := false, laid := [("math/bits.deBruijn64tab", laid_math_bits_deBruijn64tab)], narrowed := true }
def HideMakesUptoSaid : Prop := hideMakesUptoRow.holds Tryd.pinned (OpenSpec.upto hideMakesSpec)

/-- 'jalousielaw.CurrentTells', WHERE WHAT IT READS IS OF BULK AT MOST 1048576: true; the input reads as it did. -/
def currentTellsUptoRow : OpenClaim := { program := "ytkodmnooibpflaadoor", sum := "3e51668e5b6f75c82dfddb71735c1b13cfa9cd1c8787c14628c4d6cdd14aa954", func := "jalousie/jalousielaw.CurrentTells", spec := "currentTells", unfollowed := true, recurses := true, named := ["math/bits.deBruijn64tab"], plainKeys := false, apart := false, laid := [("math/bits.deBruijn64tab", laid_math_bits_deBruijn64tab)], narrowed := true }
def CurrentTellsUptoSaid : Prop := currentTellsUptoRow.holds Tryd.pinned (OpenSpec.upto currentTellsSpec)

/-- 'jalousielaw.ControlTells', WHERE WHAT IT READS IS OF BULK AT MOST 1048576: true; the input reads as it did. -/
def controlTellsUptoRow : OpenClaim := { program := "ytkodmnooibpflaadoor", sum := "3e51668e5b6f75c82dfddb71735c1b13cfa9cd1c8787c14628c4d6cdd14aa954", func := "jalousie/jalousielaw.ControlTells", spec := "controlTells", unfollowed := true, recurses := true, named := ["math/bits.deBruijn64tab"], plainKeys := false, apart := false, laid := [("math/bits.deBruijn64tab", laid_math_bits_deBruijn64tab)], narrowed := true }
def ControlTellsUptoSaid : Prop := controlTellsUptoRow.holds Tryd.pinned (OpenSpec.upto controlTellsSpec)

/-- 'jalousielaw.ControlMost', WHERE WHAT IT READS IS OF BULK AT MOST 1048576: true; the input reads as it did. -/
def controlMostUptoRow : OpenClaim := { program := "ytkodmnooibpflaadoor", sum := "3e51668e5b6f75c82dfddb71735c1b13cfa9cd1c8787c14628c4d6cdd14aa954", func := "jalousie/jalousielaw.ControlMost", spec := "controlMost", unfollowed := true, recurses := true, named := ["math/bits.deBruijn64tab"], plainKeys := false, apart := false, laid := [("math/bits.deBruijn64tab", laid_math_bits_deBruijn64tab)], narrowed := true }
def ControlMostUptoSaid : Prop := controlMostUptoRow.holds Tryd.pinned (OpenSpec.upto controlMostSpec)

/-- 'jalousielaw.VeilMakes', WHERE WHAT IT READS IS OF BULK AT MOST 1048576: true; the input reads as it did. -/
def veilMakesUptoRow : OpenClaim := { program := "ytkodmnooibpflaadoor", sum := "3e51668e5b6f75c82dfddb71735c1b13cfa9cd1c8787c14628c4d6cdd14aa954", func := "jalousie/jalousielaw.VeilMakes", spec := "veilMakes", unfollowed := true, recurses := true, named := ["math/bits.deBruijn64tab"], plainKeys := false, apart := false, laid := [("math/bits.deBruijn64tab", laid_math_bits_deBruijn64tab)], narrowed := true }
def VeilMakesUptoSaid : Prop := veilMakesUptoRow.holds Tryd.pinned (OpenSpec.upto veilMakesSpec)

/-- 'jalousielaw.VeilKeeps', WHERE WHAT IT READS IS OF BULK AT MOST 1048576: true; the input reads as it did. -/
def veilKeepsUptoRow : OpenClaim := { program := "ytkodmnooibpflaadoor", sum := "3e51668e5b6f75c82dfddb71735c1b13cfa9cd1c8787c14628c4d6cdd14aa954", func := "jalousie/jalousielaw.VeilKeeps", spec := "veilKeeps", unfollowed := true, recurses := true, named := ["math/bits.deBruijn64tab"], plainKeys := false, apart := false, laid := [("math/bits.deBruijn64tab", laid_math_bits_deBruijn64tab)], narrowed := true }
def VeilKeepsUptoSaid : Prop := veilKeepsUptoRow.holds Tryd.pinned (OpenSpec.upto veilKeepsSpec)

/-- 'jalousielaw.VeilMost', WHERE WHAT IT READS IS OF BULK AT MOST 1048576: true; the input reads as it did. -/
def veilMostUptoRow : OpenClaim := { program := "ytkodmnooibpflaadoor", sum := "3e51668e5b6f75c82dfddb71735c1b13cfa9cd1c8787c14628c4d6cdd14aa954", func := "jalousie/jalousielaw.VeilMost", spec := "veilMost", unfollowed := true, recurses := true, named := ["math/bits.deBruijn64tab"], plainKeys := false, apart := false, laid := [("math/bits.deBruijn64tab", laid_math_bits_deBruijn64tab)], narrowed := true }
def VeilMostUptoSaid : Prop := veilMostUptoRow.holds Tryd.pinned (OpenSpec.upto veilMostSpec)

end Rows
end Go.Proofs.YtkodmnooibpflaaDoor
