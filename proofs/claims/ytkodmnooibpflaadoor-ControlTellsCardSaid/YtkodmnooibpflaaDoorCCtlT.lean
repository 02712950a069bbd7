/-
  The walk of the law ControlTells.
-/
import Derived.Test.YtkodmnooibpflaaDoorCPCtl
import Derived.Test.YtkodmnooibpflaaDoorG18
import Derived.Test.YtkodmnooibpflaaDoorCRefMay
import Derived.Test.YtkodmnooibpflaaDoorG04
import Derived.Test.YtkodmnooibpflaaDoorG09
import Derived.Test.YtkodmnooibpflaaDoorG14
import Derived.Test.YtkodmnooibpflaaDoorG11
import Derived.Test.YtkodmnooibpflaaDoorG15
namespace Go.Proofs.YtkodmnooibpflaaDoor
open Go.RowKit
set_option linter.unusedVariables false

set_option maxRecDepth 100000 in
set_option maxHeartbeats 8000000 in
theorem ctlt_any (m : Mach) (l : ML) (fa : Option Addr) (fc : Nat) (free : List Int) (ba : Option Addr) (bc : Nat) (bad : List Int) (w : World) (hT : Hid (Tab w)) (h : Hid (MAt w m l)) (hF : Hid (At w fa free)) (hFl : Hid (free.length ≤ maxLen)) (hB : Hid (At w ba bad)) (hBl : Hid (bad.length ≤ maxLen)) :
    Calls Tryd.prog 7 #[mval m l, .slice fa free.length fc, .slice ba bad.length bc] w fun e w' => e = .returned (.bool true) ∧ Below w.heap.size w w' := by
  have B : Hid (Below w.heap.size w (w.alloc (.cells (mcells m l) 25))) := (Below.refl _ _).alloc (Nat.le_refl _) _
  have KM : Hid (Blk (w.alloc (.cells (mcells m l) 25)) w.heap.size 25 (mcells m l)) := Blk.new w _ _
  go_enter Tryd.func7, Tryd.ntmps7
  obtain ⟨x0, x1, x2, x3, x4⟩ := mcell_at KM.out
  go_wp2_with fail
  clear x0 x1 x2 x3 x4
  revert B KM
  generalize (w.alloc (.cells (mcells m l) 25)) = U0
  intro B KM
  refine (great_any m l _).mono ?_
  rintro e W1 ⟨⟨bb, rfl⟩, hb⟩
  replace B := Hid.of (B.out.trans (hb.mono B.out.size))
  replace KM := Hid.of (KM.out.below hb KM.out.lt)
  clear hb
  cases bb with
  | true =>
    go_wp2_with fail
    go_ret
    exact ⟨rfl, B.out⟩
  | false =>
    obtain ⟨x0, x1, x2, x3, x4⟩ := mcell_at KM.out
    go_wp2_with fail
    clear x0 x1 x2 x3 x4
    obtain ⟨el, ec, EH⟩ : ∃ l c, Hid (ctlOut m free bad = (l, c)) := ⟨_, _, rfl⟩
    refine (pCtl_any m l fa fc free ba bc bad _ (h.out.below B.out (Nat.le_refl _)) (hF.out.below B.out (Nat.le_refl _)) hFl.out (hB.out.below B.out (Nat.le_refl _)) hBl.out (hT.out.below B.out hT.out.lt)).mono ?_
    intro e W2 hp
    unfold CtlPost at hp
    rw [EH.out] at hp
    dsimp only at hp
    obtain ⟨va, vc, rfl, vat, vln, hb⟩ := hp
    replace B := Hid.of (B.out.trans (hb.mono B.out.size))
    replace KM := Hid.of (KM.out.below hb KM.out.lt)
    clear hb
    have VA := Hid.of vat
    have VL := Hid.of vln
    clear vat vln
    obtain ⟨x0, x1, x2, x3, x4⟩ := mcell_at KM.out
    go_wp2_with fail
    clear x0 x1 x2 x3 x4
    refine (refMay_any m l _ (h.out.below B.out (Nat.le_refl _))).mono ?_
    rintro e W3 ⟨rfl, hb⟩
    replace B := Hid.of (B.out.trans (hb.mono B.out.size))
    replace KM := Hid.of (KM.out.below hb KM.out.lt)
    replace VA := Hid.of (VA.out.below hb (Nat.le_refl _))
    clear hb
    cases c1 : mayB m with
    | false =>
      have HC : Hid ((mayB m && (rowB m.ev free && rowB m.st bad)) = false) := by show _ = _; rw [c1]; rfl
      clear c1
      have e1 := EH.out
      rw [ctlOut_bad HC.out] at e1
      cases e1
      obtain ⟨x0, x1, x2, x3, x4⟩ := mcell_at KM.out
      go_wp2_with fail
      clear x0 x1 x2 x3 x4
      go_ret
      exact ⟨rfl, B.out⟩
    | true =>
      have C1 := Hid.of c1
      clear c1
      obtain ⟨x0, x1, x2, x3, x4⟩ := mcell_at KM.out
      go_wp2_with fail
      clear x0 x1 x2 x3 x4
      refine (isB_any fa fc free m.ev _ (hF.out.below B.out (Nat.le_refl _)) hFl.out).mono ?_
      rintro e W4 ⟨rfl, hb⟩
      replace B := Hid.of (B.out.trans (hb.mono B.out.size))
      replace KM := Hid.of (KM.out.below hb KM.out.lt)
      replace VA := Hid.of (VA.out.below hb (Nat.le_refl _))
      clear hb
      cases c2 : rowB m.ev free with
      | false =>
        have HC : Hid ((mayB m && (rowB m.ev free && rowB m.st bad)) = false) := by show _ = _; rw [C1.out, c2]; rfl
        clear c2
        have e1 := EH.out
        rw [ctlOut_bad HC.out] at e1
        cases e1
        obtain ⟨x0, x1, x2, x3, x4⟩ := mcell_at KM.out
        go_wp2_with fail
        clear x0 x1 x2 x3 x4
        go_ret
        exact ⟨rfl, B.out⟩
      | true =>
        have C2 := Hid.of c2
        clear c2
        obtain ⟨x0, x1, x2, x3, x4⟩ := mcell_at KM.out
        go_wp2_with fail
        clear x0 x1 x2 x3 x4
        refine (isB_any ba bc bad m.st _ (hB.out.below B.out (Nat.le_refl _)) hBl.out).mono ?_
        rintro e W5 ⟨rfl, hb⟩
        replace B := Hid.of (B.out.trans (hb.mono B.out.size))
        replace KM := Hid.of (KM.out.below hb KM.out.lt)
        replace VA := Hid.of (VA.out.below hb (Nat.le_refl _))
        clear hb
        cases c3 : rowB m.st bad with
        | false =>
          have HC : Hid ((mayB m && (rowB m.ev free && rowB m.st bad)) = false) := by show _ = _; rw [C1.out, C2.out, c3]; rfl
          clear c3
          have e1 := EH.out
          rw [ctlOut_bad HC.out] at e1
          cases e1
          obtain ⟨x0, x1, x2, x3, x4⟩ := mcell_at KM.out
          go_wp2_with fail
          clear x0 x1 x2 x3 x4
          go_ret
          exact ⟨rfl, B.out⟩
        | true =>
          have HC : Hid ((mayB m && (rowB m.ev free && rowB m.st bad)) = true) := by show _ = _; rw [C1.out, C2.out, c3]; rfl
          clear c3
          have e1 := EH.out
          rw [ctlOut_ok HC.out] at e1
          obtain ⟨rfl, rfl⟩ : el = keepL m free bad ∧ ec = 0 := by cases e1; exact ⟨rfl, rfl⟩
          clear e1 EH
          obtain ⟨K, HK⟩ : ∃ K, Hid (K = keepL m free bad) := ⟨_, rfl⟩
          rw [← HK.out] at VA VL
          rw [← HK.out]
          obtain ⟨x0, x1, x2, x3, x4⟩ := mcell_at KM.out
          go_wp2_with fail
          clear x0 x1 x2 x3 x4
          refine (rkeep_any m l fa fc free ba bc bad _ C1.out (h.out.below B.out (Nat.le_refl _)) (hF.out.below B.out (Nat.le_refl _)) hFl.out (hB.out.below B.out (Nat.le_refl _)) hBl.out).mono ?_
          rintro e W6 ⟨kv, rfl, kow, hb⟩
          replace B := Hid.of (B.out.trans (hb.mono B.out.size))
          replace KM := Hid.of (KM.out.below hb KM.out.lt)
          replace VA := Hid.of (VA.out.below hb (Nat.le_refl _))
          clear hb
          rw [← HK.out] at kow
          obtain ⟨ka, kc, rfl, kat, kln⟩ := kow.at
          have KA := Hid.of kat
          clear kow kat kln
          obtain ⟨x0, x1, x2, x3, x4⟩ := mcell_at KM.out
          go_wp2_with fail
          clear x0 x1 x2 x3 x4
          refine (sameS_any va ka vc kc K _ VA.out KA.out VL.out).mono ?_
          rintro e W7 ⟨rfl, hb⟩
          replace B := Hid.of (B.out.trans (hb.mono B.out.size))
          replace KM := Hid.of (KM.out.below hb KM.out.lt)
          replace VA := Hid.of (VA.out.below hb (Nat.le_refl _))
          clear hb
          go_wp2_with fail
          go_ret
          exact ⟨rfl, B.out⟩

end Go.Proofs.YtkodmnooibpflaaDoor
