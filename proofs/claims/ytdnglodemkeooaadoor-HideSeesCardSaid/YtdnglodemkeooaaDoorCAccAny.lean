/-
  machine.Accepts and machine.After, of what may be and any word.
-/
import Derived.Test.YtdnglodemkeooaaDoorG23
import Derived.Test.YtdnglodemkeooaaDoorCPAfter
namespace Go.Proofs.YtdnglodemkeooaaDoor
open Go.RowKit
set_option linter.unusedVariables false

theorem accepts_any (m : Mach) (l : ML) (wa : Option Addr) (wc : Nat) (word : List Int) (w : World) (h : MAt w m l) (hT : Tab w) (hm : mayB m = true) (hv : At w wa word) (hwl : word.length ≤ maxLen) :
    Calls Tryd.prog 17 #[mval m l, .slice wa word.length wc] w fun e w' => e = .returned (.tuple #[.bool (wordB m.ev word && acceptsB m word), .int .i64 (if wordB m.ev word = true then 0 else 6)]) ∧ Below w.heap.size w w' := by
  cases hw : wordB m.ev word with
  | true => simpa using pAccepts_ok m l wa wc word w h hT hm hv hwl hw
  | false => simpa using pAccepts_err m l wa wc word 6 w rfl (fun W hW => after_range m l l.a1 wa l.c1 wc m.starts word W (h.below hW (Nat.le_refl _)) hm (h.below hW (Nat.le_refl _)).s (Nat.le_trans h.s1 h.s2) (mayB_starts hm) (hv.below hW (Nat.le_refl _)) hwl hw)

theorem accepts_yes (m : Mach) (l : ML) (wa : Option Addr) (wc : Nat) (word : List Int) (w : World) (h : MAt w m l) (hT : Tab w) (hm : mayB m = true) (hv : At w wa word) (hwl : word.length ≤ maxLen) (hw : wordB m.ev word = true) :
    Calls Tryd.prog 17 #[mval m l, .slice wa word.length wc] w fun e w' => e = .returned (.tuple #[.bool (acceptsB m word), .int .i64 0]) ∧ Below w.heap.size w w' := pAccepts_ok m l wa wc word w h hT hm hv hwl hw
theorem accepts_no (m : Mach) (l : ML) (wa : Option Addr) (wc : Nat) (word : List Int) (w : World) (h : MAt w m l) (hm : mayB m = true) (hv : At w wa word) (hwl : word.length ≤ maxLen) (hw : wordB m.ev word = false) :
    Calls Tryd.prog 17 #[mval m l, .slice wa word.length wc] w fun e w' => e = .returned (.tuple #[.bool false, .int .i64 6]) ∧ Below w.heap.size w w' := pAccepts_err m l wa wc word 6 w rfl (fun W hW => after_range m l l.a1 wa l.c1 wc m.starts word W (h.below hW (Nat.le_refl _)) hm (h.below hW (Nat.le_refl _)).s (Nat.le_trans h.s1 h.s2) (mayB_starts hm) (hv.below hW (Nat.le_refl _)) hwl hw)
end Go.Proofs.YtdnglodemkeooaaDoor
