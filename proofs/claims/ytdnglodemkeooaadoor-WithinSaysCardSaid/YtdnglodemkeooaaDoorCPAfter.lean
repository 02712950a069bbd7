/-
  The walks of machine.After and machine.Accepts.
-/
import Derived.Test.YtdnglodemkeooaaDoorCAfterOk
import Derived.Test.YtdnglodemkeooaaDoorG11
namespace Go.Proofs.YtdnglodemkeooaaDoor
open Go.RowKit
set_option linter.unusedVariables false

theorem inc_afterL {ars : List Arr} : ∀ (word : List Int) {ss : List Int}, Inc ss → Inc (afterL ars ss word)
  | [], _, h => h
  | e :: r, ss, _ => inc_afterL r (show Inc (stepL ars ss e) from inc_srt _)

/-- What machine.After leaves where nothing is wrong. -/
def AftGives (w : World) (L : List Int) (e : Ending) (w' : World) : Prop := ∃ a cap, e = .returned (.tuple #[.slice a L.length cap, .int .i64 0]) ∧ At w' a L ∧ L.length ≤ maxLen ∧ Below w.heap.size w w'

set_option maxRecDepth 100000 in
set_option maxHeartbeats 4000000 in
theorem pAfter_err (m : Mach) (l : ML) (sa wa : Option Addr) (sc wc : Nat) (ss word : List Int) (c : Int) (w : World) (hc : (c == 0) = false)
    (H : Hid (∀ W, Below w.heap.size w W → Calls Tryd.prog 49 #[mval m l, .slice sa ss.length sc, .slice wa word.length wc] W fun e w' => e = .returned (.tuple #[sval zeroS, .int .i64 c]) ∧ Below W.heap.size W w')) :
    Calls Tryd.prog 16 #[mval m l, .slice sa ss.length sc, .slice wa word.length wc] w fun e w' => e = .returned (.tuple #[.slice none 0 0, .int .i64 c]) ∧ Below w.heap.size w w' := by
  have B0 : Hid (Below w.heap.size w (w.alloc (.cells (mcells m l) 25))) := (Below.refl _ _).alloc (Nat.le_refl _) _
  have hc' : (c != 0) = true := by simp only [bne, hc]; rfl
  have hc2 : ¬ c = 0 := by simpa using hc
  go_enter Tryd.func16, Tryd.ntmps16
  go_wp2_with fail
  refine (H.out _ B0.out).mono ?_
  rintro e w1 ⟨rfl, hb1⟩
  have HB := Hid.of (B0.out.trans (hb1.mono B0.out.size))
  clear hb1
  go_wp2
  refine bodyPost_ret (results_tmp2 rfl _ _ _) rfl ?_
  exact ⟨rfl, HB.out.alloc HB.out.size _⟩

set_option maxRecDepth 100000 in
set_option maxHeartbeats 4000000 in
theorem pAfter_ok (m : Mach) (l : ML) (sa wa : Option Addr) (sc wc : Nat) (ss word : List Int) (w : World) (h : MAt w m l) (hT : Hid (Tab w)) (hm : Hid (mayB m = true)) (hs : Hid (At w sa ss)) (hl : Hid (ss.length ≤ maxLen)) (hr : Hid (rowB m.st ss = true)) (hv : Hid (At w wa word)) (hwl : Hid (word.length ≤ maxLen)) (hwd : Hid (wordB m.ev word = true)) :
    Calls Tryd.prog 16 #[mval m l, .slice sa ss.length sc, .slice wa word.length wc] w fun e w' => AftGives w (afterL m.arrows ss word) e w' := by
  have b0 : Below w.heap.size w (w.alloc (.cells (mcells m l) 25)) := (Below.refl _ _).alloc (Nat.le_refl _) _
  have hcall := Hid.of (after_ok m l sa wa sc wc ss word _ (h.below b0 (Nat.le_refl _)) (Hid.of (hT.out.below b0 hT.out.lt)) hm (Hid.of (hs.out.below b0 (Nat.le_refl _))) hl hr (Hid.of (hv.out.below b0 (Nat.le_refl _))) hwl hwd)
  have B0 := Hid.of b0
  clear b0 h
  go_enter Tryd.func16, Tryd.ntmps16
  go_wp2_with fail
  refine hcall.out.mono ?_
  rintro e w1 ⟨S, hS, rfl, hb1⟩
  have HB := Hid.of (B0.out.trans (hb1.mono B0.out.size))
  have HS := Hid.of hS
  have HB2 : Hid (Below w.heap.size w (w1.alloc (.cells (scells S) 62))) := HB.out.alloc HB.out.size _
  have hrow := Hid.of (row_any S (w1.alloc (.cells (scells S) 62)) hS.ok (hT.out.below HB2.out hT.out.lt))
  clear hb1 hS hcall
  go_wp2_with fail
  refine hrow.out.mono ?_
  rintro e w2 ⟨a, cap, rfl, hat, hlen, hb2⟩
  have HE : Hid (rowS S = afterL m.arrows ss word) := rep_row HS.out (inc_afterL word (rowB_inc hr.out))
  rw [HE.out] at hat hlen ⊢
  have HAT := Hid.of hat
  have HLN := Hid.of hlen
  have HB3 := Hid.of (HB2.out.trans (hb2.mono HB2.out.size))
  clear hat hlen hb2
  go_wp2
  refine bodyPost_ret (results_tmp2 rfl _ _ _) rfl ?_
  exact ⟨a, cap, rfl, HAT.out, HLN.out, HB3.out⟩

end Go.Proofs.YtdnglodemkeooaaDoor
