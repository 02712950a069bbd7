/-
  The walk of the law StepsTells.
-/
import Derived.Test.YtmlkpdeidpcidaaDoorDPStp
import Derived.Test.YtmlkpdeidpcidaaDoorH32
import Derived.Test.YtmlkpdeidpcidaaDoorH42
namespace Go.Proofs.YtmlkpdeidpcidaaDoor
open Go.RowKit
set_option linter.unusedVariables false

set_option maxRecDepth 100000 in
set_option maxHeartbeats 8000000 in
theorem stells_any (p : Plant) (P : PTL) (ba : Option Addr) (bc : Nat) (before : List Int) (va : Option Addr) (vc : Nat) (behind : List Int) (most : Int) (w : World) (hT : Hid (Tab w)) (h : Hid (PAt w p P)) (hbf : Hid (At w ba before)) (hbl : Hid (before.length ≤ 17592186044416)) (hbh : Hid (At w va behind)) (hvl : Hid (behind.length ≤ 17592186044416)) :
    Calls Tryd.prog 8 #[ptval p P, .slice ba before.length bc, .slice va behind.length vc, .int .i64 most] w fun e w' => e = .returned (.bool true) ∧ Below w.heap.size w w' := by
  have B : Hid (Below w.heap.size w (w.alloc (.cells (ptcells p P) 44))) := (Below.refl _ _).alloc (Nat.le_refl _) _
  have KP : Hid (Blk (w.alloc (.cells (ptcells p P) 44)) w.heap.size 44 (ptcells p P)) := Blk.new w _ _
  go_enter Tryd.func8, Tryd.ntmps8
  go_wp2_with fail
  revert B KP
  generalize (w.alloc (.cells (ptcells p P) 44)) = V0
  intro B KP
  obtain ⟨el, ec, eH⟩ : ∃ l c, Hid (wasOut p before behind = (l, c)) := ⟨_, _, rfl⟩
  refine (pWas_any p P ba bc before va vc behind _ (h.out.below B.out (Nat.le_refl _)) (hbf.out.below B.out (Nat.le_refl _)) (Nat.le_trans hbl.out (by decide)) (hbh.out.below B.out (Nat.le_refl _)) (Nat.le_trans hvl.out (by decide)) (hT.out.below B.out hT.out.lt)).mono ?_
  intro e W1 hp
  unfold ListPost at hp
  rw [eH.out] at hp
  dsimp only at hp
  obtain ⟨ea, ek, rfl, eat, eln, hb⟩ := hp
  replace B := Hid.of (B.out.trans (hb.mono B.out.size))
  replace KP := Hid.of (KP.out.below hb KP.out.lt)
  clear hb
  have eA := Hid.of eat
  have eL := Hid.of eln
  clear eat eln
  obtain ⟨x0, x1, x2, x3, x4, x5, x6⟩ := ptcell_at KP.out
  go_wp2_with fail
  clear x0 x1 x2 x3 x4 x5 x6
  obtain ⟨lb, ⟨lw, lv⟩, lc, lH⟩ : ∃ b l c, Hid (stepOut p most = (b, l, c)) := ⟨_, _, _, rfl⟩
  refine (pStep_any p P most _ (h.out.below B.out (Nat.le_refl _)) (hT.out.below B.out hT.out.lt)).mono ?_
  intro e W2 hp
  unfold StepPost at hp
  rw [lH.out] at hp
  dsimp only at hp
  obtain ⟨la, lk, ld, lm, rfl, lat, lbt, lln, lbn, hb⟩ := hp
  replace B := Hid.of (B.out.trans (hb.mono B.out.size))
  replace KP := Hid.of (KP.out.below hb KP.out.lt)
  replace eA := Hid.of (eA.out.below hb (Nat.le_refl _))
  clear hb
  have lA := Hid.of lat
  have lB := Hid.of lbt
  have lL := Hid.of lln
  have lM := Hid.of lbn
  clear lat lbt lln lbn
  obtain ⟨x0, x1, x2, x3, x4, x5, x6⟩ := ptcell_at KP.out
  go_wp2_with fail
  clear x0 x1 x2 x3 x4 x5 x6
  refine (rMayP_any p P _ (Hid.of (h.out.below B.out (Nat.le_refl _)))).mono ?_
  rintro e W3 ⟨rfl, hb⟩
  replace B := Hid.of (B.out.trans (hb.mono B.out.size))
  replace KP := Hid.of (KP.out.below hb KP.out.lt)
  replace eA := Hid.of (eA.out.below hb (Nat.le_refl _))
  replace lA := Hid.of (lA.out.below hb (Nat.le_refl _))
  replace lB := Hid.of (lB.out.below hb (Nat.le_refl _))
  clear hb
  obtain ⟨mp, HMP⟩ : ∃ mp, Hid (mayP p = mp) := ⟨_, rfl⟩
  rw [HMP.out]
  cases mp with
  | false =>
    have q1 := eH.out
    rw [wasOut_bad HMP.out] at q1
    cases q1
    have q2 := lH.out
    rw [stepOut_bad HMP.out] at q2
    cases q2
    go_wp2_with fail
    go_ret
    exact ⟨rfl, B.out⟩
  | true =>
    obtain ⟨hm, -⟩ := (mayP_iff p).1 HMP.out
    have HM := Hid.of hm
    clear hm
    obtain ⟨x0, x1, x2, x3, x4, x5, x6⟩ := ptcell_at KP.out
    go_wp2_with fail
    clear x0 x1 x2 x3 x4 x5 x6
    refine (lseen_any p P ba bc before _ (h.out.below B.out (Nat.le_refl _)) (hbf.out.below B.out (Nat.le_refl _)) hbl.out).mono ?_
    rintro e W5 ⟨rfl, hb⟩
    replace B := Hid.of (B.out.trans (hb.mono B.out.size))
    replace KP := Hid.of (KP.out.below hb KP.out.lt)
    replace eA := Hid.of (eA.out.below hb (Nat.le_refl _))
    replace lA := Hid.of (lA.out.below hb (Nat.le_refl _))
    replace lB := Hid.of (lB.out.below hb (Nat.le_refl _))
    clear hb
    cases hs1 : inSeen p.seen before with
    | false =>
      have q1 := eH.out
      rw [wasOut_out1 HMP.out hs1] at q1
      cases q1
      clear hs1 eH
      by_cases hr : -1 ≤ most ∧ most ≤ 1000
      · have q2 := lH.out
        rw [stepOut_ok HMP.out hr] at q2
        obtain ⟨rfl, hwv, rfl⟩ : lb = (outS p most).isSome ∧ (lw, lv) = (outS p most).getD ([], []) ∧ lc = 0 := by rw [Prod.mk.injEq, Prod.mk.injEq] at q2; exact ⟨q2.1.symm, q2.2.1.symm, q2.2.2.symm⟩
        have HLW : Hid (lw = ((outS p most).getD ([], [])).1) := by show _ = _; rw [← hwv]
        have HLV : Hid (lv = ((outS p most).getD ([], [])).2) := by show _ = _; rw [← hwv]
        clear q2 lH hwv
        obtain ⟨bo, HBO⟩ : ∃ bo, Hid (bo = (outS p most).isSome) := ⟨_, rfl⟩
        rw [← HBO.out]
        have hr3 : decide (most < -1) = false := decide_eq_false (by omega)
        have hr4 : decide (1000 < most) = false := decide_eq_false (by omega)
        clear hr
        obtain ⟨x0, x1, x2, x3, x4, x5, x6⟩ := ptcell_at KP.out
        go_wp2_with fail
        clear x0 x1 x2 x3 x4 x5 x6
        refine (rLeakS_any p P most _ (h.out.below B.out (Nat.le_refl _)) HMP.out).mono ?_
        intro e W8 hp
        unfold SLPost at hp
        rw [← HLW.out, ← HLV.out, ← HBO.out] at hp
        obtain ⟨xa, xk, ya, yk, rfl, xat, yat, xln, yln, hb⟩ := hp
        replace B := Hid.of (B.out.trans (hb.mono B.out.size))
        replace KP := Hid.of (KP.out.below hb KP.out.lt)
        replace eA := Hid.of (eA.out.below hb (Nat.le_refl _))
        replace lA := Hid.of (lA.out.below hb (Nat.le_refl _))
        replace lB := Hid.of (lB.out.below hb (Nat.le_refl _))
        clear hb
        have xA := Hid.of xat
        have yA := Hid.of yat
        clear xat yat
        have d : (bo == bo) = true := by simp
        have KS := Hid.of (same_any la xa lk xk lw lw _ lA.out xA.out lL.out lL.out)
        have HSS : Hid (sameB lw lw = true) := by show _ = _; simp [sameB]
        rw [HSS.out] at KS
        clear hr3 hr4
        go_wp2_with fail
        refine KS.out.mono ?_
        rintro e W9 ⟨rfl, qd, hqd⟩
        have hb : Below W8.heap.size W8 W9 := by rw [hqd]; exact below_drewN (Below.refl _ _) qd
        replace B := Hid.of (B.out.trans (hb.mono B.out.size))
        replace KP := Hid.of (KP.out.below hb KP.out.lt)
        replace eA := Hid.of (eA.out.below hb (Nat.le_refl _))
        replace lA := Hid.of (lA.out.below hb (Nat.le_refl _))
        replace lB := Hid.of (lB.out.below hb (Nat.le_refl _))
        replace xA := Hid.of (xA.out.below hb (Nat.le_refl _))
        replace yA := Hid.of (yA.out.below hb (Nat.le_refl _))
        clear hb
        clear hqd KS HSS
        have KS := Hid.of (same_any ld ya lm yk lv lv _ lB.out yA.out lM.out lM.out)
        have HSS : Hid (sameB lv lv = true) := by show _ = _; simp [sameB]
        rw [HSS.out] at KS
        go_wp2_with fail
        refine KS.out.mono ?_
        rintro e W10 ⟨rfl, qd, hqd⟩
        have hb : Below W9.heap.size W9 W10 := by rw [hqd]; exact below_drewN (Below.refl _ _) qd
        replace B := Hid.of (B.out.trans (hb.mono B.out.size))
        replace KP := Hid.of (KP.out.below hb KP.out.lt)
        replace eA := Hid.of (eA.out.below hb (Nat.le_refl _))
        replace lA := Hid.of (lA.out.below hb (Nat.le_refl _))
        replace lB := Hid.of (lB.out.below hb (Nat.le_refl _))
        replace xA := Hid.of (xA.out.below hb (Nat.le_refl _))
        replace yA := Hid.of (yA.out.below hb (Nat.le_refl _))
        clear hb
        clear hqd KS HSS
        go_wp2_with fail
        go_ret
        exact ⟨rfl, B.out⟩
      · have q2 := lH.out
        rw [stepOut_out HMP.out hr] at q2
        cases q2
        clear lH
        by_cases hr1 : most < -1
        · clear hr
          go_wp2_with fail
          go_ret
          exact ⟨rfl, B.out⟩
        · have hr2 : 1000 < most := by omega
          clear hr
          go_wp2_with fail
          go_ret
          exact ⟨rfl, B.out⟩
    | true =>
      obtain ⟨x0, x1, x2, x3, x4, x5, x6⟩ := ptcell_at KP.out
      go_wp2_with fail
      clear x0 x1 x2 x3 x4 x5 x6
      refine (lseen_any p P va vc behind _ (h.out.below B.out (Nat.le_refl _)) (hbh.out.below B.out (Nat.le_refl _)) hvl.out).mono ?_
      rintro e W6 ⟨rfl, hb⟩
      replace B := Hid.of (B.out.trans (hb.mono B.out.size))
      replace KP := Hid.of (KP.out.below hb KP.out.lt)
      replace eA := Hid.of (eA.out.below hb (Nat.le_refl _))
      replace lA := Hid.of (lA.out.below hb (Nat.le_refl _))
      replace lB := Hid.of (lB.out.below hb (Nat.le_refl _))
      clear hb
      cases hs2 : inSeen p.seen behind with
      | false =>
        have q1 := eH.out
        rw [wasOut_out2 HMP.out before hs2] at q1
        cases q1
        clear hs1 hs2 eH
        by_cases hr : -1 ≤ most ∧ most ≤ 1000
        · have q2 := lH.out
          rw [stepOut_ok HMP.out hr] at q2
          obtain ⟨rfl, hwv, rfl⟩ : lb = (outS p most).isSome ∧ (lw, lv) = (outS p most).getD ([], []) ∧ lc = 0 := by rw [Prod.mk.injEq, Prod.mk.injEq] at q2; exact ⟨q2.1.symm, q2.2.1.symm, q2.2.2.symm⟩
          have HLW : Hid (lw = ((outS p most).getD ([], [])).1) := by show _ = _; rw [← hwv]
          have HLV : Hid (lv = ((outS p most).getD ([], [])).2) := by show _ = _; rw [← hwv]
          clear q2 lH hwv
          obtain ⟨bo, HBO⟩ : ∃ bo, Hid (bo = (outS p most).isSome) := ⟨_, rfl⟩
          rw [← HBO.out]
          have hr3 : decide (most < -1) = false := decide_eq_false (by omega)
          have hr4 : decide (1000 < most) = false := decide_eq_false (by omega)
          clear hr
          obtain ⟨x0, x1, x2, x3, x4, x5, x6⟩ := ptcell_at KP.out
          go_wp2_with fail
          clear x0 x1 x2 x3 x4 x5 x6
          refine (rLeakS_any p P most _ (h.out.below B.out (Nat.le_refl _)) HMP.out).mono ?_
          intro e W8 hp
          unfold SLPost at hp
          rw [← HLW.out, ← HLV.out, ← HBO.out] at hp
          obtain ⟨xa, xk, ya, yk, rfl, xat, yat, xln, yln, hb⟩ := hp
          replace B := Hid.of (B.out.trans (hb.mono B.out.size))
          replace KP := Hid.of (KP.out.below hb KP.out.lt)
          replace eA := Hid.of (eA.out.below hb (Nat.le_refl _))
          replace lA := Hid.of (lA.out.below hb (Nat.le_refl _))
          replace lB := Hid.of (lB.out.below hb (Nat.le_refl _))
          clear hb
          have xA := Hid.of xat
          have yA := Hid.of yat
          clear xat yat
          have d : (bo == bo) = true := by simp
          have KS := Hid.of (same_any la xa lk xk lw lw _ lA.out xA.out lL.out lL.out)
          have HSS : Hid (sameB lw lw = true) := by show _ = _; simp [sameB]
          rw [HSS.out] at KS
          clear hr3 hr4
          go_wp2_with fail
          refine KS.out.mono ?_
          rintro e W9 ⟨rfl, qd, hqd⟩
          have hb : Below W8.heap.size W8 W9 := by rw [hqd]; exact below_drewN (Below.refl _ _) qd
          replace B := Hid.of (B.out.trans (hb.mono B.out.size))
          replace KP := Hid.of (KP.out.below hb KP.out.lt)
          replace eA := Hid.of (eA.out.below hb (Nat.le_refl _))
          replace lA := Hid.of (lA.out.below hb (Nat.le_refl _))
          replace lB := Hid.of (lB.out.below hb (Nat.le_refl _))
          replace xA := Hid.of (xA.out.below hb (Nat.le_refl _))
          replace yA := Hid.of (yA.out.below hb (Nat.le_refl _))
          clear hb
          clear hqd KS HSS
          have KS := Hid.of (same_any ld ya lm yk lv lv _ lB.out yA.out lM.out lM.out)
          have HSS : Hid (sameB lv lv = true) := by show _ = _; simp [sameB]
          rw [HSS.out] at KS
          go_wp2_with fail
          refine KS.out.mono ?_
          rintro e W10 ⟨rfl, qd, hqd⟩
          have hb : Below W9.heap.size W9 W10 := by rw [hqd]; exact below_drewN (Below.refl _ _) qd
          replace B := Hid.of (B.out.trans (hb.mono B.out.size))
          replace KP := Hid.of (KP.out.below hb KP.out.lt)
          replace eA := Hid.of (eA.out.below hb (Nat.le_refl _))
          replace lA := Hid.of (lA.out.below hb (Nat.le_refl _))
          replace lB := Hid.of (lB.out.below hb (Nat.le_refl _))
          replace xA := Hid.of (xA.out.below hb (Nat.le_refl _))
          replace yA := Hid.of (yA.out.below hb (Nat.le_refl _))
          clear hb
          clear hqd KS HSS
          go_wp2_with fail
          go_ret
          exact ⟨rfl, B.out⟩
        · have q2 := lH.out
          rw [stepOut_out HMP.out hr] at q2
          cases q2
          clear lH
          by_cases hr1 : most < -1
          · clear hr
            go_wp2_with fail
            go_ret
            exact ⟨rfl, B.out⟩
          · have hr2 : 1000 < most := by omega
            clear hr
            go_wp2_with fail
            go_ret
            exact ⟨rfl, B.out⟩
      | true =>
        have q1 := eH.out
        rw [wasOut_ok HMP.out hs1 hs2] at q1
        obtain ⟨rfl, rfl⟩ : el = wasL p before behind ∧ ec = 0 := by cases q1; exact ⟨rfl, rfl⟩
        clear q1 hs1 hs2 eH
        obtain ⟨es, HES⟩ : ∃ es, Hid (es = wasL p before behind) := ⟨_, rfl⟩
        rw [← HES.out] at eA eL ⊢
        obtain ⟨x0, x1, x2, x3, x4, x5, x6⟩ := ptcell_at KP.out
        go_wp2_with fail
        clear x0 x1 x2 x3 x4 x5 x6
        refine (rWas_any p P ba va bc vc before behind _ (h.out.below B.out (Nat.le_refl _)) HM.out (hbf.out.below B.out (Nat.le_refl _)) (Nat.le_trans hbl.out (by decide)) (hbh.out.below B.out (Nat.le_refl _)) (Nat.le_trans hvl.out (by decide))).mono ?_
        rintro e W7 ⟨rv, rfl, row, hb⟩
        replace B := Hid.of (B.out.trans (hb.mono B.out.size))
        replace KP := Hid.of (KP.out.below hb KP.out.lt)
        replace eA := Hid.of (eA.out.below hb (Nat.le_refl _))
        replace lA := Hid.of (lA.out.below hb (Nat.le_refl _))
        replace lB := Hid.of (lB.out.below hb (Nat.le_refl _))
        clear hb
        rw [← HES.out] at row
        obtain ⟨ra, rc, hrv, rat, rl1, rl2, -⟩ := Own.at2 row
        subst hrv
        have RA := Hid.of rat
        clear row rat rl1 rl2
        have KS := Hid.of (same_any ea ra ek rc es es _ eA.out RA.out eL.out eL.out)
        have HSS : Hid (sameB es es = true) := by show _ = _; simp [sameB]
        rw [HSS.out] at KS
        go_wp2_with fail
        refine KS.out.mono ?_
        rintro e W7b ⟨rfl, qd, hqd⟩
        have hb : Below W7.heap.size W7 W7b := by rw [hqd]; exact below_drewN (Below.refl _ _) qd
        replace B := Hid.of (B.out.trans (hb.mono B.out.size))
        replace KP := Hid.of (KP.out.below hb KP.out.lt)
        replace eA := Hid.of (eA.out.below hb (Nat.le_refl _))
        replace lA := Hid.of (lA.out.below hb (Nat.le_refl _))
        replace lB := Hid.of (lB.out.below hb (Nat.le_refl _))
        replace RA := Hid.of (RA.out.below hb (Nat.le_refl _))
        clear hb
        clear hqd KS HSS
        by_cases hr : -1 ≤ most ∧ most ≤ 1000
        · have q2 := lH.out
          rw [stepOut_ok HMP.out hr] at q2
          obtain ⟨rfl, hwv, rfl⟩ : lb = (outS p most).isSome ∧ (lw, lv) = (outS p most).getD ([], []) ∧ lc = 0 := by rw [Prod.mk.injEq, Prod.mk.injEq] at q2; exact ⟨q2.1.symm, q2.2.1.symm, q2.2.2.symm⟩
          have HLW : Hid (lw = ((outS p most).getD ([], [])).1) := by show _ = _; rw [← hwv]
          have HLV : Hid (lv = ((outS p most).getD ([], [])).2) := by show _ = _; rw [← hwv]
          clear q2 lH hwv
          obtain ⟨bo, HBO⟩ : ∃ bo, Hid (bo = (outS p most).isSome) := ⟨_, rfl⟩
          rw [← HBO.out]
          have hr3 : decide (most < -1) = false := decide_eq_false (by omega)
          have hr4 : decide (1000 < most) = false := decide_eq_false (by omega)
          clear hr
          obtain ⟨x0, x1, x2, x3, x4, x5, x6⟩ := ptcell_at KP.out
          go_wp2_with fail
          clear x0 x1 x2 x3 x4 x5 x6
          refine (rLeakS_any p P most _ (h.out.below B.out (Nat.le_refl _)) HMP.out).mono ?_
          intro e W8 hp
          unfold SLPost at hp
          rw [← HLW.out, ← HLV.out, ← HBO.out] at hp
          obtain ⟨xa, xk, ya, yk, rfl, xat, yat, xln, yln, hb⟩ := hp
          replace B := Hid.of (B.out.trans (hb.mono B.out.size))
          replace KP := Hid.of (KP.out.below hb KP.out.lt)
          replace eA := Hid.of (eA.out.below hb (Nat.le_refl _))
          replace lA := Hid.of (lA.out.below hb (Nat.le_refl _))
          replace lB := Hid.of (lB.out.below hb (Nat.le_refl _))
          replace RA := Hid.of (RA.out.below hb (Nat.le_refl _))
          clear hb
          have xA := Hid.of xat
          have yA := Hid.of yat
          clear xat yat
          have d : (bo == bo) = true := by simp
          have KS := Hid.of (same_any la xa lk xk lw lw _ lA.out xA.out lL.out lL.out)
          have HSS : Hid (sameB lw lw = true) := by show _ = _; simp [sameB]
          rw [HSS.out] at KS
          clear hr3 hr4
          go_wp2_with fail
          refine KS.out.mono ?_
          rintro e W9 ⟨rfl, qd, hqd⟩
          have hb : Below W8.heap.size W8 W9 := by rw [hqd]; exact below_drewN (Below.refl _ _) qd
          replace B := Hid.of (B.out.trans (hb.mono B.out.size))
          replace KP := Hid.of (KP.out.below hb KP.out.lt)
          replace eA := Hid.of (eA.out.below hb (Nat.le_refl _))
          replace lA := Hid.of (lA.out.below hb (Nat.le_refl _))
          replace lB := Hid.of (lB.out.below hb (Nat.le_refl _))
          replace RA := Hid.of (RA.out.below hb (Nat.le_refl _))
          replace xA := Hid.of (xA.out.below hb (Nat.le_refl _))
          replace yA := Hid.of (yA.out.below hb (Nat.le_refl _))
          clear hb
          clear hqd KS HSS
          have KS := Hid.of (same_any ld ya lm yk lv lv _ lB.out yA.out lM.out lM.out)
          have HSS : Hid (sameB lv lv = true) := by show _ = _; simp [sameB]
          rw [HSS.out] at KS
          go_wp2_with fail
          refine KS.out.mono ?_
          rintro e W10 ⟨rfl, qd, hqd⟩
          have hb : Below W9.heap.size W9 W10 := by rw [hqd]; exact below_drewN (Below.refl _ _) qd
          replace B := Hid.of (B.out.trans (hb.mono B.out.size))
          replace KP := Hid.of (KP.out.below hb KP.out.lt)
          replace eA := Hid.of (eA.out.below hb (Nat.le_refl _))
          replace lA := Hid.of (lA.out.below hb (Nat.le_refl _))
          replace lB := Hid.of (lB.out.below hb (Nat.le_refl _))
          replace RA := Hid.of (RA.out.below hb (Nat.le_refl _))
          replace xA := Hid.of (xA.out.below hb (Nat.le_refl _))
          replace yA := Hid.of (yA.out.below hb (Nat.le_refl _))
          clear hb
          clear hqd KS HSS
          go_wp2_with fail
          go_ret
          exact ⟨rfl, B.out⟩
        · have q2 := lH.out
          rw [stepOut_out HMP.out hr] at q2
          cases q2
          clear lH
          by_cases hr1 : most < -1
          · clear hr
            go_wp2_with fail
            go_ret
            exact ⟨rfl, B.out⟩
          · have hr2 : 1000 < most := by omega
            clear hr
            go_wp2_with fail
            go_ret
            exact ⟨rfl, B.out⟩

end Go.Proofs.YtmlkpdeidpcidaaDoor
