/-
  The walk of the law StepsKeeps.
-/
import Derived.Test.YtmimjpkllgjdkaaDoorCPStp
import Derived.Test.YtmimjpkllgjdkaaDoorG33
import Derived.Test.YtmimjpkllgjdkaaDoorG30
import Derived.Test.YtmimjpkllgjdkaaDoorG07
import Derived.Test.YtmimjpkllgjdkaaDoorG06
import Derived.Test.YtmimjpkllgjdkaaDoorCR11Pb
namespace Go.Proofs.YtmimjpkllgjdkaaDoor
open Go.RowKit
set_option linter.unusedVariables false

set_option maxRecDepth 100000 in
set_option maxHeartbeats 8000000 in
theorem skeeps_any (p : Plant) (P : PTL) (ba : Option Addr) (bc : Nat) (before : List Int) (va : Option Addr) (vc : Nat) (behind : List Int) (most : Int) (w : World) (hT : Hid (Tab w)) (h : Hid (PAt w p P)) (hbf : Hid (At w ba before)) (hbl : Hid (before.length ≤ 17592186044416)) (hbh : Hid (At w va behind)) (hvl : Hid (behind.length ≤ 17592186044416)) :
    Calls Tryd.prog 11 #[ptval p P, .int .i64 most, .slice ba before.length bc, .slice va behind.length vc] w fun e w' => e = .returned (.bool true) ∧ Below w.heap.size w w' := by
  have B : Hid (Below w.heap.size w (w.alloc (.cells (ptcells p P) 44))) := (Below.refl _ _).alloc (Nat.le_refl _) _
  have KP : Hid (Blk (w.alloc (.cells (ptcells p P) 44)) w.heap.size 44 (ptcells p P)) := Blk.new w _ _
  go_enter Tryd.func11, Tryd.ntmps11
  go_wp2_with fail
  revert B KP
  generalize (w.alloc (.cells (ptcells p P) 44)) = V0
  intro B KP
  obtain ⟨lb, ⟨lw, lv⟩, lc, lH⟩ : ∃ b l c, Hid (stepOut p most = (b, l, c)) := ⟨_, _, _, rfl⟩
  refine (pStep_any p P most _ (h.out.below B.out (Nat.le_refl _)) (hT.out.below B.out hT.out.lt)).mono ?_
  intro e W1 hp
  unfold StepPost at hp
  rw [lH.out] at hp
  dsimp only at hp
  obtain ⟨la, lk, ld, lm, rfl, lat, lbt, lln, lbn, hb⟩ := hp
  replace B := Hid.of (B.out.trans (hb.mono B.out.size))
  replace KP := Hid.of (KP.out.below hb KP.out.lt)
  clear hb
  have lA := Hid.of lat
  have lB := Hid.of lbt
  have lL := Hid.of lln
  have lM := Hid.of lbn
  clear lat lbt lln lbn
  obtain ⟨mp, HMP⟩ : ∃ mp, Hid (mayP p = mp) := ⟨_, rfl⟩
  cases mp with
  | false =>
    have q2 := lH.out
    rw [stepOut_bad HMP.out] at q2
    cases q2
    go_wp2_with fail
    go_ret
    exact ⟨rfl, B.out⟩
  | true =>
    by_cases hr : -1 ≤ most ∧ most ≤ 1000
    · have q2 := lH.out
      rw [stepOut_ok HMP.out hr] at q2
      obtain ⟨rfl, hwv, rfl⟩ : lb = (outS p most).isSome ∧ (lw, lv) = (outS p most).getD ([], []) ∧ lc = 0 := by rw [Prod.mk.injEq, Prod.mk.injEq] at q2; exact ⟨q2.1.symm, q2.2.1.symm, q2.2.2.symm⟩
      clear q2 lH
      cases ho : outS p most with
      | none =>
        rw [ho] at hwv
        obtain ⟨rfl, rfl⟩ : lw = [] ∧ lv = [] := by cases hwv; exact ⟨rfl, rfl⟩
        have HO := Hid.of ho
        have HWO : Hid (wasOut p [] [] = (wasL p [] [], 0)) := wasOut_ok HMP.out rfl rfl
        clear ho hwv
        have HR := Hid.of hr
        clear hr
        simp only [Option.isSome_none]
        obtain ⟨x0, x1, x2, x3, x4, x5, x6⟩ := ptcell_at KP.out
        go_wp2_with fail
        clear x0 x1 x2 x3 x4 x5 x6
        refine (pCurMay_any p P _ (h.out.below B.out (Nat.le_refl _))).mono ?_
        rintro e W2 ⟨rfl, hb⟩
        replace B := Hid.of (B.out.trans (hb.mono B.out.size))
        replace KP := Hid.of (KP.out.below hb KP.out.lt)
        replace lA := Hid.of (lA.out.below hb (Nat.le_refl _))
        replace lB := Hid.of (lB.out.below hb (Nat.le_refl _))
        clear hb
        rw [HMP.out]
        obtain ⟨x0, x1, x2, x3, x4, x5, x6⟩ := ptcell_at KP.out
        go_wp2_with fail
        clear x0 x1 x2 x3 x4 x5 x6
        obtain ⟨el, ec, eH⟩ : ∃ l c, Hid (wasOut p before behind = (l, c)) := ⟨_, _, rfl⟩
        refine (pWas_any p P ba bc before va vc behind _ (h.out.below B.out (Nat.le_refl _)) (hbf.out.below B.out (Nat.le_refl _)) (Nat.le_trans hbl.out (by decide)) (hbh.out.below B.out (Nat.le_refl _)) (Nat.le_trans hvl.out (by decide)) (hT.out.below B.out hT.out.lt)).mono ?_
        intro e W3 hp
        unfold ListPost at hp
        rw [eH.out] at hp
        dsimp only at hp
        obtain ⟨ea, ek, rfl, eat, eln, hb⟩ := hp
        replace B := Hid.of (B.out.trans (hb.mono B.out.size))
        replace KP := Hid.of (KP.out.below hb KP.out.lt)
        replace lA := Hid.of (lA.out.below hb (Nat.le_refl _))
        replace lB := Hid.of (lB.out.below hb (Nat.le_refl _))
        clear hb
        have eA := Hid.of eat
        have eL := Hid.of eln
        clear eat eln
        by_cases hng : most < 0
        · skip
          have HNG := Hid.of hng
          clear hng
          have dng : decide (most < 0) = true := by have := HNG.out; simpa using this
          cases hs1 : inSeen p.seen before with
          | false =>
            have q1 := eH.out
            rw [wasOut_out1 HMP.out hs1] at q1
            cases q1
            clear hs1 eH
            obtain ⟨x0, x1, x2, x3, x4, x5, x6⟩ := ptcell_at KP.out
            go_wp2_with fail
            clear x0 x1 x2 x3 x4 x5 x6
            obtain ⟨gl, gc, gH⟩ : ∃ l c, Hid (wasOut p ([] : List Int) ([] : List Int) = (l, c)) := ⟨_, _, rfl⟩
            refine (pWas_any p P la lk ([] : List Int) ld lm ([] : List Int) _ (h.out.below B.out (Nat.le_refl _)) lA.out lL.out lB.out lM.out (hT.out.below B.out hT.out.lt)).mono ?_
            intro e W7 hp
            unfold ListPost at hp
            rw [gH.out] at hp
            dsimp only at hp
            obtain ⟨ga, gk, rfl, gat, gln, hb⟩ := hp
            replace B := Hid.of (B.out.trans (hb.mono B.out.size))
            replace KP := Hid.of (KP.out.below hb KP.out.lt)
            replace lA := Hid.of (lA.out.below hb (Nat.le_refl _))
            replace lB := Hid.of (lB.out.below hb (Nat.le_refl _))
            replace eA := Hid.of (eA.out.below hb (Nat.le_refl _))
            clear hb
            have gA := Hid.of gat
            have gL := Hid.of gln
            clear gat gln
            have q3 := gH.out
            rw [HWO.out] at q3
            obtain ⟨rfl, rfl⟩ : gl = wasL p ([] : List Int) ([] : List Int) ∧ gc = 0 := by cases q3; exact ⟨rfl, rfl⟩
            clear q3 gH
            go_wp2_with fail
            go_ret
            exact ⟨rfl, B.out⟩
          | true =>
            cases hs2 : inSeen p.seen behind with
            | false =>
              have q1 := eH.out
              rw [wasOut_out2 HMP.out before hs2] at q1
              cases q1
              clear hs1 hs2 eH
              obtain ⟨x0, x1, x2, x3, x4, x5, x6⟩ := ptcell_at KP.out
              go_wp2_with fail
              clear x0 x1 x2 x3 x4 x5 x6
              obtain ⟨gl, gc, gH⟩ : ∃ l c, Hid (wasOut p ([] : List Int) ([] : List Int) = (l, c)) := ⟨_, _, rfl⟩
              refine (pWas_any p P la lk ([] : List Int) ld lm ([] : List Int) _ (h.out.below B.out (Nat.le_refl _)) lA.out lL.out lB.out lM.out (hT.out.below B.out hT.out.lt)).mono ?_
              intro e W7 hp
              unfold ListPost at hp
              rw [gH.out] at hp
              dsimp only at hp
              obtain ⟨ga, gk, rfl, gat, gln, hb⟩ := hp
              replace B := Hid.of (B.out.trans (hb.mono B.out.size))
              replace KP := Hid.of (KP.out.below hb KP.out.lt)
              replace lA := Hid.of (lA.out.below hb (Nat.le_refl _))
              replace lB := Hid.of (lB.out.below hb (Nat.le_refl _))
              replace eA := Hid.of (eA.out.below hb (Nat.le_refl _))
              clear hb
              have gA := Hid.of gat
              have gL := Hid.of gln
              clear gat gln
              have q3 := gH.out
              rw [HWO.out] at q3
              obtain ⟨rfl, rfl⟩ : gl = wasL p ([] : List Int) ([] : List Int) ∧ gc = 0 := by cases q3; exact ⟨rfl, rfl⟩
              clear q3 gH
              go_wp2_with fail
              go_ret
              exact ⟨rfl, B.out⟩
            | true =>
              have q1 := eH.out
              rw [wasOut_ok HMP.out hs1 hs2] at q1
              obtain ⟨rfl, rfl⟩ : el = wasL p before behind ∧ ec = 0 := by cases q1; exact ⟨rfl, rfl⟩
              clear q1 eH
              have HS1 := Hid.of ((inSeen_iff _ _).1 hs1)
              have HS2 := Hid.of ((inSeen_iff _ _).1 hs2)
              clear hs1 hs2
              obtain ⟨es, HES⟩ : ∃ es, Hid (es = wasL p before behind) := ⟨_, rfl⟩
              rw [← HES.out] at eA eL ⊢
              have KT := Hid.of (ktells_any ea P.ta ek P.tc es p.secret _ eA.out eL.out (h.out.t.at_.below B.out (Nat.le_refl _)) h.out.t.len)
              have HLE : Hid (leakB p.secret es = false) := by show _ = _; rw [HES.out]; exact outS_none HMP.out HO.out HS1.out HS2.out (fun h0 => by have := HNG.out; omega)
              rw [HLE.out] at KT
              obtain ⟨x0, x1, x2, x3, x4, x5, x6⟩ := ptcell_at KP.out
              go_wp2_with fail
              clear x0 x1 x2 x3 x4 x5 x6
              refine KT.out.mono ?_
              rintro e w8 ⟨rfl, rfl⟩
              clear KT
              obtain ⟨x0, x1, x2, x3, x4, x5, x6⟩ := ptcell_at KP.out
              go_wp2_with fail
              clear x0 x1 x2 x3 x4 x5 x6
              obtain ⟨gl, gc, gH⟩ : ∃ l c, Hid (wasOut p ([] : List Int) ([] : List Int) = (l, c)) := ⟨_, _, rfl⟩
              refine (pWas_any p P la lk ([] : List Int) ld lm ([] : List Int) _ (h.out.below B.out (Nat.le_refl _)) lA.out lL.out lB.out lM.out (hT.out.below B.out hT.out.lt)).mono ?_
              intro e W7 hp
              unfold ListPost at hp
              rw [gH.out] at hp
              dsimp only at hp
              obtain ⟨ga, gk, rfl, gat, gln, hb⟩ := hp
              replace B := Hid.of (B.out.trans (hb.mono B.out.size))
              replace KP := Hid.of (KP.out.below hb KP.out.lt)
              replace lA := Hid.of (lA.out.below hb (Nat.le_refl _))
              replace lB := Hid.of (lB.out.below hb (Nat.le_refl _))
              replace eA := Hid.of (eA.out.below hb (Nat.le_refl _))
              clear hb
              have gA := Hid.of gat
              have gL := Hid.of gln
              clear gat gln
              have q3 := gH.out
              rw [HWO.out] at q3
              obtain ⟨rfl, rfl⟩ : gl = wasL p ([] : List Int) ([] : List Int) ∧ gc = 0 := by cases q3; exact ⟨rfl, rfl⟩
              clear q3 gH
              go_wp2_with fail
              go_ret
              exact ⟨rfl, B.out⟩
        · skip
          have HNG := Hid.of hng
          clear hng
          have dng : decide (most < 0) = false := by have := HNG.out; simpa using this
          cases hs1 : inSeen p.seen before with
          | false =>
            have q1 := eH.out
            rw [wasOut_out1 HMP.out hs1] at q1
            cases q1
            clear hs1 eH
            by_cases hsh : (behind.length : Int) ≤ most
            · have dsh : decide ((behind.length : Int) ≤ most) = true := decide_eq_true hsh
              have HSH := Hid.of hsh
              clear hsh
              obtain ⟨x0, x1, x2, x3, x4, x5, x6⟩ := ptcell_at KP.out
              go_wp2_with fail
              clear x0 x1 x2 x3 x4 x5 x6
              obtain ⟨gl, gc, gH⟩ : ∃ l c, Hid (wasOut p ([] : List Int) ([] : List Int) = (l, c)) := ⟨_, _, rfl⟩
              refine (pWas_any p P la lk ([] : List Int) ld lm ([] : List Int) _ (h.out.below B.out (Nat.le_refl _)) lA.out lL.out lB.out lM.out (hT.out.below B.out hT.out.lt)).mono ?_
              intro e W7 hp
              unfold ListPost at hp
              rw [gH.out] at hp
              dsimp only at hp
              obtain ⟨ga, gk, rfl, gat, gln, hb⟩ := hp
              replace B := Hid.of (B.out.trans (hb.mono B.out.size))
              replace KP := Hid.of (KP.out.below hb KP.out.lt)
              replace lA := Hid.of (lA.out.below hb (Nat.le_refl _))
              replace lB := Hid.of (lB.out.below hb (Nat.le_refl _))
              replace eA := Hid.of (eA.out.below hb (Nat.le_refl _))
              clear hb
              have gA := Hid.of gat
              have gL := Hid.of gln
              clear gat gln
              have q3 := gH.out
              rw [HWO.out] at q3
              obtain ⟨rfl, rfl⟩ : gl = wasL p ([] : List Int) ([] : List Int) ∧ gc = 0 := by cases q3; exact ⟨rfl, rfl⟩
              clear q3 gH
              go_wp2_with fail
              go_ret
              exact ⟨rfl, B.out⟩
            · have dsh : decide ((behind.length : Int) ≤ most) = false := decide_eq_false hsh
              clear hsh
              obtain ⟨x0, x1, x2, x3, x4, x5, x6⟩ := ptcell_at KP.out
              go_wp2_with fail
              clear x0 x1 x2 x3 x4 x5 x6
              obtain ⟨gl, gc, gH⟩ : ∃ l c, Hid (wasOut p ([] : List Int) ([] : List Int) = (l, c)) := ⟨_, _, rfl⟩
              refine (pWas_any p P la lk ([] : List Int) ld lm ([] : List Int) _ (h.out.below B.out (Nat.le_refl _)) lA.out lL.out lB.out lM.out (hT.out.below B.out hT.out.lt)).mono ?_
              intro e W7 hp
              unfold ListPost at hp
              rw [gH.out] at hp
              dsimp only at hp
              obtain ⟨ga, gk, rfl, gat, gln, hb⟩ := hp
              replace B := Hid.of (B.out.trans (hb.mono B.out.size))
              replace KP := Hid.of (KP.out.below hb KP.out.lt)
              replace lA := Hid.of (lA.out.below hb (Nat.le_refl _))
              replace lB := Hid.of (lB.out.below hb (Nat.le_refl _))
              replace eA := Hid.of (eA.out.below hb (Nat.le_refl _))
              clear hb
              have gA := Hid.of gat
              have gL := Hid.of gln
              clear gat gln
              have q3 := gH.out
              rw [HWO.out] at q3
              obtain ⟨rfl, rfl⟩ : gl = wasL p ([] : List Int) ([] : List Int) ∧ gc = 0 := by cases q3; exact ⟨rfl, rfl⟩
              clear q3 gH
              go_wp2_with fail
              go_ret
              exact ⟨rfl, B.out⟩
          | true =>
            cases hs2 : inSeen p.seen behind with
            | false =>
              have q1 := eH.out
              rw [wasOut_out2 HMP.out before hs2] at q1
              cases q1
              clear hs1 hs2 eH
              by_cases hsh : (behind.length : Int) ≤ most
              · have dsh : decide ((behind.length : Int) ≤ most) = true := decide_eq_true hsh
                have HSH := Hid.of hsh
                clear hsh
                obtain ⟨x0, x1, x2, x3, x4, x5, x6⟩ := ptcell_at KP.out
                go_wp2_with fail
                clear x0 x1 x2 x3 x4 x5 x6
                obtain ⟨gl, gc, gH⟩ : ∃ l c, Hid (wasOut p ([] : List Int) ([] : List Int) = (l, c)) := ⟨_, _, rfl⟩
                refine (pWas_any p P la lk ([] : List Int) ld lm ([] : List Int) _ (h.out.below B.out (Nat.le_refl _)) lA.out lL.out lB.out lM.out (hT.out.below B.out hT.out.lt)).mono ?_
                intro e W7 hp
                unfold ListPost at hp
                rw [gH.out] at hp
                dsimp only at hp
                obtain ⟨ga, gk, rfl, gat, gln, hb⟩ := hp
                replace B := Hid.of (B.out.trans (hb.mono B.out.size))
                replace KP := Hid.of (KP.out.below hb KP.out.lt)
                replace lA := Hid.of (lA.out.below hb (Nat.le_refl _))
                replace lB := Hid.of (lB.out.below hb (Nat.le_refl _))
                replace eA := Hid.of (eA.out.below hb (Nat.le_refl _))
                clear hb
                have gA := Hid.of gat
                have gL := Hid.of gln
                clear gat gln
                have q3 := gH.out
                rw [HWO.out] at q3
                obtain ⟨rfl, rfl⟩ : gl = wasL p ([] : List Int) ([] : List Int) ∧ gc = 0 := by cases q3; exact ⟨rfl, rfl⟩
                clear q3 gH
                go_wp2_with fail
                go_ret
                exact ⟨rfl, B.out⟩
              · have dsh : decide ((behind.length : Int) ≤ most) = false := decide_eq_false hsh
                clear hsh
                obtain ⟨x0, x1, x2, x3, x4, x5, x6⟩ := ptcell_at KP.out
                go_wp2_with fail
                clear x0 x1 x2 x3 x4 x5 x6
                obtain ⟨gl, gc, gH⟩ : ∃ l c, Hid (wasOut p ([] : List Int) ([] : List Int) = (l, c)) := ⟨_, _, rfl⟩
                refine (pWas_any p P la lk ([] : List Int) ld lm ([] : List Int) _ (h.out.below B.out (Nat.le_refl _)) lA.out lL.out lB.out lM.out (hT.out.below B.out hT.out.lt)).mono ?_
                intro e W7 hp
                unfold ListPost at hp
                rw [gH.out] at hp
                dsimp only at hp
                obtain ⟨ga, gk, rfl, gat, gln, hb⟩ := hp
                replace B := Hid.of (B.out.trans (hb.mono B.out.size))
                replace KP := Hid.of (KP.out.below hb KP.out.lt)
                replace lA := Hid.of (lA.out.below hb (Nat.le_refl _))
                replace lB := Hid.of (lB.out.below hb (Nat.le_refl _))
                replace eA := Hid.of (eA.out.below hb (Nat.le_refl _))
                clear hb
                have gA := Hid.of gat
                have gL := Hid.of gln
                clear gat gln
                have q3 := gH.out
                rw [HWO.out] at q3
                obtain ⟨rfl, rfl⟩ : gl = wasL p ([] : List Int) ([] : List Int) ∧ gc = 0 := by cases q3; exact ⟨rfl, rfl⟩
                clear q3 gH
                go_wp2_with fail
                go_ret
                exact ⟨rfl, B.out⟩
            | true =>
              have q1 := eH.out
              rw [wasOut_ok HMP.out hs1 hs2] at q1
              obtain ⟨rfl, rfl⟩ : el = wasL p before behind ∧ ec = 0 := by cases q1; exact ⟨rfl, rfl⟩
              clear q1 eH
              have HS1 := Hid.of ((inSeen_iff _ _).1 hs1)
              have HS2 := Hid.of ((inSeen_iff _ _).1 hs2)
              clear hs1 hs2
              obtain ⟨es, HES⟩ : ∃ es, Hid (es = wasL p before behind) := ⟨_, rfl⟩
              rw [← HES.out] at eA eL ⊢
              by_cases hsh : (behind.length : Int) ≤ most
              · have dsh : decide ((behind.length : Int) ≤ most) = true := decide_eq_true hsh
                have HSH := Hid.of hsh
                clear hsh
                have KT := Hid.of (ktells_any ea P.ta ek P.tc es p.secret _ eA.out eL.out (h.out.t.at_.below B.out (Nat.le_refl _)) h.out.t.len)
                have HLE : Hid (leakB p.secret es = false) := by show _ = _; rw [HES.out]; exact outS_none HMP.out HO.out HS1.out HS2.out (fun _ => HSH.out)
                rw [HLE.out] at KT
                obtain ⟨x0, x1, x2, x3, x4, x5, x6⟩ := ptcell_at KP.out
                go_wp2_with fail
                clear x0 x1 x2 x3 x4 x5 x6
                refine KT.out.mono ?_
                rintro e w8 ⟨rfl, rfl⟩
                clear KT
                obtain ⟨x0, x1, x2, x3, x4, x5, x6⟩ := ptcell_at KP.out
                go_wp2_with fail
                clear x0 x1 x2 x3 x4 x5 x6
                obtain ⟨gl, gc, gH⟩ : ∃ l c, Hid (wasOut p ([] : List Int) ([] : List Int) = (l, c)) := ⟨_, _, rfl⟩
                refine (pWas_any p P la lk ([] : List Int) ld lm ([] : List Int) _ (h.out.below B.out (Nat.le_refl _)) lA.out lL.out lB.out lM.out (hT.out.below B.out hT.out.lt)).mono ?_
                intro e W7 hp
                unfold ListPost at hp
                rw [gH.out] at hp
                dsimp only at hp
                obtain ⟨ga, gk, rfl, gat, gln, hb⟩ := hp
                replace B := Hid.of (B.out.trans (hb.mono B.out.size))
                replace KP := Hid.of (KP.out.below hb KP.out.lt)
                replace lA := Hid.of (lA.out.below hb (Nat.le_refl _))
                replace lB := Hid.of (lB.out.below hb (Nat.le_refl _))
                replace eA := Hid.of (eA.out.below hb (Nat.le_refl _))
                clear hb
                have gA := Hid.of gat
                have gL := Hid.of gln
                clear gat gln
                have q3 := gH.out
                rw [HWO.out] at q3
                obtain ⟨rfl, rfl⟩ : gl = wasL p ([] : List Int) ([] : List Int) ∧ gc = 0 := by cases q3; exact ⟨rfl, rfl⟩
                clear q3 gH
                go_wp2_with fail
                go_ret
                exact ⟨rfl, B.out⟩
              · have dsh : decide ((behind.length : Int) ≤ most) = false := decide_eq_false hsh
                clear hsh
                obtain ⟨x0, x1, x2, x3, x4, x5, x6⟩ := ptcell_at KP.out
                go_wp2_with fail
                clear x0 x1 x2 x3 x4 x5 x6
                obtain ⟨gl, gc, gH⟩ : ∃ l c, Hid (wasOut p ([] : List Int) ([] : List Int) = (l, c)) := ⟨_, _, rfl⟩
                refine (pWas_any p P la lk ([] : List Int) ld lm ([] : List Int) _ (h.out.below B.out (Nat.le_refl _)) lA.out lL.out lB.out lM.out (hT.out.below B.out hT.out.lt)).mono ?_
                intro e W7 hp
                unfold ListPost at hp
                rw [gH.out] at hp
                dsimp only at hp
                obtain ⟨ga, gk, rfl, gat, gln, hb⟩ := hp
                replace B := Hid.of (B.out.trans (hb.mono B.out.size))
                replace KP := Hid.of (KP.out.below hb KP.out.lt)
                replace lA := Hid.of (lA.out.below hb (Nat.le_refl _))
                replace lB := Hid.of (lB.out.below hb (Nat.le_refl _))
                replace eA := Hid.of (eA.out.below hb (Nat.le_refl _))
                clear hb
                have gA := Hid.of gat
                have gL := Hid.of gln
                clear gat gln
                have q3 := gH.out
                rw [HWO.out] at q3
                obtain ⟨rfl, rfl⟩ : gl = wasL p ([] : List Int) ([] : List Int) ∧ gc = 0 := by cases q3; exact ⟨rfl, rfl⟩
                clear q3 gH
                go_wp2_with fail
                go_ret
                exact ⟨rfl, B.out⟩
      | some q =>
        obtain ⟨qw, qv⟩ := q
        rw [ho] at hwv
        obtain ⟨rfl, rfl⟩ : lw = qw ∧ lv = qv := by cases hwv; exact ⟨rfl, rfl⟩
        have HO := Hid.of ho
        obtain ⟨k1, k2, k3, k4, k5⟩ := outS_some HMP.out ho
        have HTL := Hid.of k1
        have HMN := Hid.of k5
        have HWO : Hid (wasOut p lw lv = (wasL p lw lv, 0)) := wasOut_ok HMP.out ((inSeen_iff _ _).2 k2) ((inSeen_iff _ _).2 k3)
        have HK4 := Hid.of k4
        clear k1 k2 k3 k4 k5
        clear ho hwv
        have HR := Hid.of hr
        clear hr
        simp only [Option.isSome_some]
        obtain ⟨x0, x1, x2, x3, x4, x5, x6⟩ := ptcell_at KP.out
        go_wp2_with fail
        clear x0 x1 x2 x3 x4 x5 x6
        refine (pCurMay_any p P _ (h.out.below B.out (Nat.le_refl _))).mono ?_
        rintro e W2 ⟨rfl, hb⟩
        replace B := Hid.of (B.out.trans (hb.mono B.out.size))
        replace KP := Hid.of (KP.out.below hb KP.out.lt)
        replace lA := Hid.of (lA.out.below hb (Nat.le_refl _))
        replace lB := Hid.of (lB.out.below hb (Nat.le_refl _))
        clear hb
        rw [HMP.out]
        obtain ⟨x0, x1, x2, x3, x4, x5, x6⟩ := ptcell_at KP.out
        go_wp2_with fail
        clear x0 x1 x2 x3 x4 x5 x6
        obtain ⟨el, ec, eH⟩ : ∃ l c, Hid (wasOut p before behind = (l, c)) := ⟨_, _, rfl⟩
        refine (pWas_any p P ba bc before va vc behind _ (h.out.below B.out (Nat.le_refl _)) (hbf.out.below B.out (Nat.le_refl _)) (Nat.le_trans hbl.out (by decide)) (hbh.out.below B.out (Nat.le_refl _)) (Nat.le_trans hvl.out (by decide)) (hT.out.below B.out hT.out.lt)).mono ?_
        intro e W3 hp
        unfold ListPost at hp
        rw [eH.out] at hp
        dsimp only at hp
        obtain ⟨ea, ek, rfl, eat, eln, hb⟩ := hp
        replace B := Hid.of (B.out.trans (hb.mono B.out.size))
        replace KP := Hid.of (KP.out.below hb KP.out.lt)
        replace lA := Hid.of (lA.out.below hb (Nat.le_refl _))
        replace lB := Hid.of (lB.out.below hb (Nat.le_refl _))
        clear hb
        have eA := Hid.of eat
        have eL := Hid.of eln
        clear eat eln
        by_cases hng : most < 0
        · skip
          have HNG := Hid.of hng
          clear hng
          have dng : decide (most < 0) = true := by have := HNG.out; simpa using this
          cases hs1 : inSeen p.seen before with
          | false =>
            have q1 := eH.out
            rw [wasOut_out1 HMP.out hs1] at q1
            cases q1
            clear hs1 eH
            obtain ⟨x0, x1, x2, x3, x4, x5, x6⟩ := ptcell_at KP.out
            go_wp2_with fail
            clear x0 x1 x2 x3 x4 x5 x6
            obtain ⟨gl, gc, gH⟩ : ∃ l c, Hid (wasOut p lw lv = (l, c)) := ⟨_, _, rfl⟩
            refine (pWas_any p P la lk lw ld lm lv _ (h.out.below B.out (Nat.le_refl _)) lA.out lL.out lB.out lM.out (hT.out.below B.out hT.out.lt)).mono ?_
            intro e W7 hp
            unfold ListPost at hp
            rw [gH.out] at hp
            dsimp only at hp
            obtain ⟨ga, gk, rfl, gat, gln, hb⟩ := hp
            replace B := Hid.of (B.out.trans (hb.mono B.out.size))
            replace KP := Hid.of (KP.out.below hb KP.out.lt)
            replace lA := Hid.of (lA.out.below hb (Nat.le_refl _))
            replace lB := Hid.of (lB.out.below hb (Nat.le_refl _))
            replace eA := Hid.of (eA.out.below hb (Nat.le_refl _))
            clear hb
            have gA := Hid.of gat
            have gL := Hid.of gln
            clear gat gln
            have q3 := gH.out
            rw [HWO.out] at q3
            obtain ⟨rfl, rfl⟩ : gl = wasL p lw lv ∧ gc = 0 := by cases q3; exact ⟨rfl, rfl⟩
            clear q3 gH
            obtain ⟨gs, HGS⟩ : ∃ gs, Hid (gs = wasL p lw lv) := ⟨_, rfl⟩
            rw [← HGS.out] at gA gL ⊢
            have KT := Hid.of (ktells_any ga P.ta gk P.tc gs p.secret _ gA.out gL.out (h.out.t.at_.below B.out (Nat.le_refl _)) h.out.t.len)
            have HLK : Hid (leakB p.secret gs = true) := by show _ = _; rw [HGS.out]; exact HTL.out
            rw [HLK.out] at KT
            obtain ⟨x0, x1, x2, x3, x4, x5, x6⟩ := ptcell_at KP.out
            go_wp2_with fail
            clear x0 x1 x2 x3 x4 x5 x6
            refine KT.out.mono ?_
            rintro e w9 ⟨rfl, rfl⟩
            clear KT
            go_wp2_with fail
            go_ret
            exact ⟨rfl, B.out⟩
          | true =>
            cases hs2 : inSeen p.seen behind with
            | false =>
              have q1 := eH.out
              rw [wasOut_out2 HMP.out before hs2] at q1
              cases q1
              clear hs1 hs2 eH
              obtain ⟨x0, x1, x2, x3, x4, x5, x6⟩ := ptcell_at KP.out
              go_wp2_with fail
              clear x0 x1 x2 x3 x4 x5 x6
              obtain ⟨gl, gc, gH⟩ : ∃ l c, Hid (wasOut p lw lv = (l, c)) := ⟨_, _, rfl⟩
              refine (pWas_any p P la lk lw ld lm lv _ (h.out.below B.out (Nat.le_refl _)) lA.out lL.out lB.out lM.out (hT.out.below B.out hT.out.lt)).mono ?_
              intro e W7 hp
              unfold ListPost at hp
              rw [gH.out] at hp
              dsimp only at hp
              obtain ⟨ga, gk, rfl, gat, gln, hb⟩ := hp
              replace B := Hid.of (B.out.trans (hb.mono B.out.size))
              replace KP := Hid.of (KP.out.below hb KP.out.lt)
              replace lA := Hid.of (lA.out.below hb (Nat.le_refl _))
              replace lB := Hid.of (lB.out.below hb (Nat.le_refl _))
              replace eA := Hid.of (eA.out.below hb (Nat.le_refl _))
              clear hb
              have gA := Hid.of gat
              have gL := Hid.of gln
              clear gat gln
              have q3 := gH.out
              rw [HWO.out] at q3
              obtain ⟨rfl, rfl⟩ : gl = wasL p lw lv ∧ gc = 0 := by cases q3; exact ⟨rfl, rfl⟩
              clear q3 gH
              obtain ⟨gs, HGS⟩ : ∃ gs, Hid (gs = wasL p lw lv) := ⟨_, rfl⟩
              rw [← HGS.out] at gA gL ⊢
              have KT := Hid.of (ktells_any ga P.ta gk P.tc gs p.secret _ gA.out gL.out (h.out.t.at_.below B.out (Nat.le_refl _)) h.out.t.len)
              have HLK : Hid (leakB p.secret gs = true) := by show _ = _; rw [HGS.out]; exact HTL.out
              rw [HLK.out] at KT
              obtain ⟨x0, x1, x2, x3, x4, x5, x6⟩ := ptcell_at KP.out
              go_wp2_with fail
              clear x0 x1 x2 x3 x4 x5 x6
              refine KT.out.mono ?_
              rintro e w9 ⟨rfl, rfl⟩
              clear KT
              go_wp2_with fail
              go_ret
              exact ⟨rfl, B.out⟩
            | true =>
              have q1 := eH.out
              rw [wasOut_ok HMP.out hs1 hs2] at q1
              obtain ⟨rfl, rfl⟩ : el = wasL p before behind ∧ ec = 0 := by cases q1; exact ⟨rfl, rfl⟩
              clear q1 eH
              have HS1 := Hid.of ((inSeen_iff _ _).1 hs1)
              have HS2 := Hid.of ((inSeen_iff _ _).1 hs2)
              clear hs1 hs2
              obtain ⟨es, HES⟩ : ∃ es, Hid (es = wasL p before behind) := ⟨_, rfl⟩
              rw [← HES.out] at eA eL ⊢
              have KT := Hid.of (ktells_any ea P.ta ek P.tc es p.secret _ eA.out eL.out (h.out.t.at_.below B.out (Nat.le_refl _)) h.out.t.len)
              cases hlk : leakB p.secret es with
              | false =>
                rw [hlk] at KT
                clear hlk
                obtain ⟨x0, x1, x2, x3, x4, x5, x6⟩ := ptcell_at KP.out
                go_wp2_with fail
                clear x0 x1 x2 x3 x4 x5 x6
                refine KT.out.mono ?_
                rintro e w8 ⟨rfl, rfl⟩
                clear KT
                obtain ⟨x0, x1, x2, x3, x4, x5, x6⟩ := ptcell_at KP.out
                go_wp2_with fail
                clear x0 x1 x2 x3 x4 x5 x6
                obtain ⟨gl, gc, gH⟩ : ∃ l c, Hid (wasOut p lw lv = (l, c)) := ⟨_, _, rfl⟩
                refine (pWas_any p P la lk lw ld lm lv _ (h.out.below B.out (Nat.le_refl _)) lA.out lL.out lB.out lM.out (hT.out.below B.out hT.out.lt)).mono ?_
                intro e W7 hp
                unfold ListPost at hp
                rw [gH.out] at hp
                dsimp only at hp
                obtain ⟨ga, gk, rfl, gat, gln, hb⟩ := hp
                replace B := Hid.of (B.out.trans (hb.mono B.out.size))
                replace KP := Hid.of (KP.out.below hb KP.out.lt)
                replace lA := Hid.of (lA.out.below hb (Nat.le_refl _))
                replace lB := Hid.of (lB.out.below hb (Nat.le_refl _))
                replace eA := Hid.of (eA.out.below hb (Nat.le_refl _))
                clear hb
                have gA := Hid.of gat
                have gL := Hid.of gln
                clear gat gln
                have q3 := gH.out
                rw [HWO.out] at q3
                obtain ⟨rfl, rfl⟩ : gl = wasL p lw lv ∧ gc = 0 := by cases q3; exact ⟨rfl, rfl⟩
                clear q3 gH
                obtain ⟨gs, HGS⟩ : ∃ gs, Hid (gs = wasL p lw lv) := ⟨_, rfl⟩
                rw [← HGS.out] at gA gL ⊢
                have KT := Hid.of (ktells_any ga P.ta gk P.tc gs p.secret _ gA.out gL.out (h.out.t.at_.below B.out (Nat.le_refl _)) h.out.t.len)
                have HLK : Hid (leakB p.secret gs = true) := by show _ = _; rw [HGS.out]; exact HTL.out
                rw [HLK.out] at KT
                obtain ⟨x0, x1, x2, x3, x4, x5, x6⟩ := ptcell_at KP.out
                go_wp2_with fail
                clear x0 x1 x2 x3 x4 x5 x6
                refine KT.out.mono ?_
                rintro e w9 ⟨rfl, rfl⟩
                clear KT
                go_wp2_with fail
                go_ret
                exact ⟨rfl, B.out⟩
              | true =>
                have hmin : pairB before behind lw lv = false := HMN.out before behind HS1.out HS2.out (fun h0 => by have := HNG.out; omega) (by rw [← HES.out]; exact hlk)
                rw [hlk] at KT
                clear hlk
                have hsum : ¬ (before.length + behind.length < lw.length + lv.length) := fun q => by rw [pb1 q] at hmin; cases hmin
                clear hmin
                obtain ⟨sa, HSA⟩ : ∃ s : Int, Hid (s = (before.length : Int) + (behind.length : Int)) := ⟨_, rfl⟩
                obtain ⟨sb, HSB⟩ : ∃ s : Int, Hid (s = (lw.length : Int) + (lv.length : Int)) := ⟨_, rfl⟩
                have hwa : IntKind.i64.wrap ((before.length : Int) + (behind.length : Int)) = sa := by
                  have q1 := hbl.out; have q2 := hvl.out
                  rw [IntKind.wrap_i64, HSA.out]; omega
                have hwb : IntKind.i64.wrap ((lw.length : Int) + (lv.length : Int)) = sb := by
                  have q1 := hbl.out; have q2 := hvl.out
                  rw [IntKind.wrap_i64, HSB.out]; omega
                have hlss : decide (sa < sb) = false := decide_eq_false (by rw [HSA.out, HSB.out]; omega)
                clear hsum
                obtain ⟨x0, x1, x2, x3, x4, x5, x6⟩ := ptcell_at KP.out
                go_wp2_with fail
                clear x0 x1 x2 x3 x4 x5 x6
                refine KT.out.mono ?_
                rintro e w8 ⟨rfl, rfl⟩
                clear KT
                obtain ⟨x0, x1, x2, x3, x4, x5, x6⟩ := ptcell_at KP.out
                go_wp2_with fail
                clear x0 x1 x2 x3 x4 x5 x6
                clear hwa hwb hlss
                obtain ⟨gl, gc, gH⟩ : ∃ l c, Hid (wasOut p lw lv = (l, c)) := ⟨_, _, rfl⟩
                refine (pWas_any p P la lk lw ld lm lv _ (h.out.below B.out (Nat.le_refl _)) lA.out lL.out lB.out lM.out (hT.out.below B.out hT.out.lt)).mono ?_
                intro e W7 hp
                unfold ListPost at hp
                rw [gH.out] at hp
                dsimp only at hp
                obtain ⟨ga, gk, rfl, gat, gln, hb⟩ := hp
                replace B := Hid.of (B.out.trans (hb.mono B.out.size))
                replace KP := Hid.of (KP.out.below hb KP.out.lt)
                replace lA := Hid.of (lA.out.below hb (Nat.le_refl _))
                replace lB := Hid.of (lB.out.below hb (Nat.le_refl _))
                replace eA := Hid.of (eA.out.below hb (Nat.le_refl _))
                clear hb
                have gA := Hid.of gat
                have gL := Hid.of gln
                clear gat gln
                have q3 := gH.out
                rw [HWO.out] at q3
                obtain ⟨rfl, rfl⟩ : gl = wasL p lw lv ∧ gc = 0 := by cases q3; exact ⟨rfl, rfl⟩
                clear q3 gH
                obtain ⟨gs, HGS⟩ : ∃ gs, Hid (gs = wasL p lw lv) := ⟨_, rfl⟩
                rw [← HGS.out] at gA gL ⊢
                have KT := Hid.of (ktells_any ga P.ta gk P.tc gs p.secret _ gA.out gL.out (h.out.t.at_.below B.out (Nat.le_refl _)) h.out.t.len)
                have HLK : Hid (leakB p.secret gs = true) := by show _ = _; rw [HGS.out]; exact HTL.out
                rw [HLK.out] at KT
                obtain ⟨x0, x1, x2, x3, x4, x5, x6⟩ := ptcell_at KP.out
                go_wp2_with fail
                clear x0 x1 x2 x3 x4 x5 x6
                refine KT.out.mono ?_
                rintro e w9 ⟨rfl, rfl⟩
                clear KT
                go_wp2_with fail
                go_ret
                exact ⟨rfl, B.out⟩
        · skip
          have HVM : Hid ((lv.length : Int) ≤ most) := HK4.out (by omega)
          have HNG := Hid.of hng
          clear hng
          have dng : decide (most < 0) = false := by have := HNG.out; simpa using this
          cases hs1 : inSeen p.seen before with
          | false =>
            have q1 := eH.out
            rw [wasOut_out1 HMP.out hs1] at q1
            cases q1
            clear hs1 eH
            by_cases hsh : (behind.length : Int) ≤ most
            · have dsh : decide ((behind.length : Int) ≤ most) = true := decide_eq_true hsh
              have HSH := Hid.of hsh
              clear hsh
              obtain ⟨x0, x1, x2, x3, x4, x5, x6⟩ := ptcell_at KP.out
              go_wp2_with fail
              clear x0 x1 x2 x3 x4 x5 x6
              obtain ⟨gl, gc, gH⟩ : ∃ l c, Hid (wasOut p lw lv = (l, c)) := ⟨_, _, rfl⟩
              refine (pWas_any p P la lk lw ld lm lv _ (h.out.below B.out (Nat.le_refl _)) lA.out lL.out lB.out lM.out (hT.out.below B.out hT.out.lt)).mono ?_
              intro e W7 hp
              unfold ListPost at hp
              rw [gH.out] at hp
              dsimp only at hp
              obtain ⟨ga, gk, rfl, gat, gln, hb⟩ := hp
              replace B := Hid.of (B.out.trans (hb.mono B.out.size))
              replace KP := Hid.of (KP.out.below hb KP.out.lt)
              replace lA := Hid.of (lA.out.below hb (Nat.le_refl _))
              replace lB := Hid.of (lB.out.below hb (Nat.le_refl _))
              replace eA := Hid.of (eA.out.below hb (Nat.le_refl _))
              clear hb
              have gA := Hid.of gat
              have gL := Hid.of gln
              clear gat gln
              have q3 := gH.out
              rw [HWO.out] at q3
              obtain ⟨rfl, rfl⟩ : gl = wasL p lw lv ∧ gc = 0 := by cases q3; exact ⟨rfl, rfl⟩
              clear q3 gH
              obtain ⟨gs, HGS⟩ : ∃ gs, Hid (gs = wasL p lw lv) := ⟨_, rfl⟩
              rw [← HGS.out] at gA gL ⊢
              have KT := Hid.of (ktells_any ga P.ta gk P.tc gs p.secret _ gA.out gL.out (h.out.t.at_.below B.out (Nat.le_refl _)) h.out.t.len)
              have HLK : Hid (leakB p.secret gs = true) := by show _ = _; rw [HGS.out]; exact HTL.out
              rw [HLK.out] at KT
              obtain ⟨x0, x1, x2, x3, x4, x5, x6⟩ := ptcell_at KP.out
              go_wp2_with fail
              clear x0 x1 x2 x3 x4 x5 x6
              refine KT.out.mono ?_
              rintro e w9 ⟨rfl, rfl⟩
              clear KT
              have dvm : decide ((lv.length : Int) ≤ most) = true := decide_eq_true HVM.out
              go_wp2_with fail
              go_ret
              exact ⟨rfl, B.out⟩
            · have dsh : decide ((behind.length : Int) ≤ most) = false := decide_eq_false hsh
              clear hsh
              obtain ⟨x0, x1, x2, x3, x4, x5, x6⟩ := ptcell_at KP.out
              go_wp2_with fail
              clear x0 x1 x2 x3 x4 x5 x6
              obtain ⟨gl, gc, gH⟩ : ∃ l c, Hid (wasOut p lw lv = (l, c)) := ⟨_, _, rfl⟩
              refine (pWas_any p P la lk lw ld lm lv _ (h.out.below B.out (Nat.le_refl _)) lA.out lL.out lB.out lM.out (hT.out.below B.out hT.out.lt)).mono ?_
              intro e W7 hp
              unfold ListPost at hp
              rw [gH.out] at hp
              dsimp only at hp
              obtain ⟨ga, gk, rfl, gat, gln, hb⟩ := hp
              replace B := Hid.of (B.out.trans (hb.mono B.out.size))
              replace KP := Hid.of (KP.out.below hb KP.out.lt)
              replace lA := Hid.of (lA.out.below hb (Nat.le_refl _))
              replace lB := Hid.of (lB.out.below hb (Nat.le_refl _))
              replace eA := Hid.of (eA.out.below hb (Nat.le_refl _))
              clear hb
              have gA := Hid.of gat
              have gL := Hid.of gln
              clear gat gln
              have q3 := gH.out
              rw [HWO.out] at q3
              obtain ⟨rfl, rfl⟩ : gl = wasL p lw lv ∧ gc = 0 := by cases q3; exact ⟨rfl, rfl⟩
              clear q3 gH
              obtain ⟨gs, HGS⟩ : ∃ gs, Hid (gs = wasL p lw lv) := ⟨_, rfl⟩
              rw [← HGS.out] at gA gL ⊢
              have KT := Hid.of (ktells_any ga P.ta gk P.tc gs p.secret _ gA.out gL.out (h.out.t.at_.below B.out (Nat.le_refl _)) h.out.t.len)
              have HLK : Hid (leakB p.secret gs = true) := by show _ = _; rw [HGS.out]; exact HTL.out
              rw [HLK.out] at KT
              obtain ⟨x0, x1, x2, x3, x4, x5, x6⟩ := ptcell_at KP.out
              go_wp2_with fail
              clear x0 x1 x2 x3 x4 x5 x6
              refine KT.out.mono ?_
              rintro e w9 ⟨rfl, rfl⟩
              clear KT
              have dvm : decide ((lv.length : Int) ≤ most) = true := decide_eq_true HVM.out
              go_wp2_with fail
              go_ret
              exact ⟨rfl, B.out⟩
          | true =>
            cases hs2 : inSeen p.seen behind with
            | false =>
              have q1 := eH.out
              rw [wasOut_out2 HMP.out before hs2] at q1
              cases q1
              clear hs1 hs2 eH
              by_cases hsh : (behind.length : Int) ≤ most
              · have dsh : decide ((behind.length : Int) ≤ most) = true := decide_eq_true hsh
                have HSH := Hid.of hsh
                clear hsh
                obtain ⟨x0, x1, x2, x3, x4, x5, x6⟩ := ptcell_at KP.out
                go_wp2_with fail
                clear x0 x1 x2 x3 x4 x5 x6
                obtain ⟨gl, gc, gH⟩ : ∃ l c, Hid (wasOut p lw lv = (l, c)) := ⟨_, _, rfl⟩
                refine (pWas_any p P la lk lw ld lm lv _ (h.out.below B.out (Nat.le_refl _)) lA.out lL.out lB.out lM.out (hT.out.below B.out hT.out.lt)).mono ?_
                intro e W7 hp
                unfold ListPost at hp
                rw [gH.out] at hp
                dsimp only at hp
                obtain ⟨ga, gk, rfl, gat, gln, hb⟩ := hp
                replace B := Hid.of (B.out.trans (hb.mono B.out.size))
                replace KP := Hid.of (KP.out.below hb KP.out.lt)
                replace lA := Hid.of (lA.out.below hb (Nat.le_refl _))
                replace lB := Hid.of (lB.out.below hb (Nat.le_refl _))
                replace eA := Hid.of (eA.out.below hb (Nat.le_refl _))
                clear hb
                have gA := Hid.of gat
                have gL := Hid.of gln
                clear gat gln
                have q3 := gH.out
                rw [HWO.out] at q3
                obtain ⟨rfl, rfl⟩ : gl = wasL p lw lv ∧ gc = 0 := by cases q3; exact ⟨rfl, rfl⟩
                clear q3 gH
                obtain ⟨gs, HGS⟩ : ∃ gs, Hid (gs = wasL p lw lv) := ⟨_, rfl⟩
                rw [← HGS.out] at gA gL ⊢
                have KT := Hid.of (ktells_any ga P.ta gk P.tc gs p.secret _ gA.out gL.out (h.out.t.at_.below B.out (Nat.le_refl _)) h.out.t.len)
                have HLK : Hid (leakB p.secret gs = true) := by show _ = _; rw [HGS.out]; exact HTL.out
                rw [HLK.out] at KT
                obtain ⟨x0, x1, x2, x3, x4, x5, x6⟩ := ptcell_at KP.out
                go_wp2_with fail
                clear x0 x1 x2 x3 x4 x5 x6
                refine KT.out.mono ?_
                rintro e w9 ⟨rfl, rfl⟩
                clear KT
                have dvm : decide ((lv.length : Int) ≤ most) = true := decide_eq_true HVM.out
                go_wp2_with fail
                go_ret
                exact ⟨rfl, B.out⟩
              · have dsh : decide ((behind.length : Int) ≤ most) = false := decide_eq_false hsh
                clear hsh
                obtain ⟨x0, x1, x2, x3, x4, x5, x6⟩ := ptcell_at KP.out
                go_wp2_with fail
                clear x0 x1 x2 x3 x4 x5 x6
                obtain ⟨gl, gc, gH⟩ : ∃ l c, Hid (wasOut p lw lv = (l, c)) := ⟨_, _, rfl⟩
                refine (pWas_any p P la lk lw ld lm lv _ (h.out.below B.out (Nat.le_refl _)) lA.out lL.out lB.out lM.out (hT.out.below B.out hT.out.lt)).mono ?_
                intro e W7 hp
                unfold ListPost at hp
                rw [gH.out] at hp
                dsimp only at hp
                obtain ⟨ga, gk, rfl, gat, gln, hb⟩ := hp
                replace B := Hid.of (B.out.trans (hb.mono B.out.size))
                replace KP := Hid.of (KP.out.below hb KP.out.lt)
                replace lA := Hid.of (lA.out.below hb (Nat.le_refl _))
                replace lB := Hid.of (lB.out.below hb (Nat.le_refl _))
                replace eA := Hid.of (eA.out.below hb (Nat.le_refl _))
                clear hb
                have gA := Hid.of gat
                have gL := Hid.of gln
                clear gat gln
                have q3 := gH.out
                rw [HWO.out] at q3
                obtain ⟨rfl, rfl⟩ : gl = wasL p lw lv ∧ gc = 0 := by cases q3; exact ⟨rfl, rfl⟩
                clear q3 gH
                obtain ⟨gs, HGS⟩ : ∃ gs, Hid (gs = wasL p lw lv) := ⟨_, rfl⟩
                rw [← HGS.out] at gA gL ⊢
                have KT := Hid.of (ktells_any ga P.ta gk P.tc gs p.secret _ gA.out gL.out (h.out.t.at_.below B.out (Nat.le_refl _)) h.out.t.len)
                have HLK : Hid (leakB p.secret gs = true) := by show _ = _; rw [HGS.out]; exact HTL.out
                rw [HLK.out] at KT
                obtain ⟨x0, x1, x2, x3, x4, x5, x6⟩ := ptcell_at KP.out
                go_wp2_with fail
                clear x0 x1 x2 x3 x4 x5 x6
                refine KT.out.mono ?_
                rintro e w9 ⟨rfl, rfl⟩
                clear KT
                have dvm : decide ((lv.length : Int) ≤ most) = true := decide_eq_true HVM.out
                go_wp2_with fail
                go_ret
                exact ⟨rfl, B.out⟩
            | true =>
              have q1 := eH.out
              rw [wasOut_ok HMP.out hs1 hs2] at q1
              obtain ⟨rfl, rfl⟩ : el = wasL p before behind ∧ ec = 0 := by cases q1; exact ⟨rfl, rfl⟩
              clear q1 eH
              have HS1 := Hid.of ((inSeen_iff _ _).1 hs1)
              have HS2 := Hid.of ((inSeen_iff _ _).1 hs2)
              clear hs1 hs2
              obtain ⟨es, HES⟩ : ∃ es, Hid (es = wasL p before behind) := ⟨_, rfl⟩
              rw [← HES.out] at eA eL ⊢
              by_cases hsh : (behind.length : Int) ≤ most
              · have dsh : decide ((behind.length : Int) ≤ most) = true := decide_eq_true hsh
                have HSH := Hid.of hsh
                clear hsh
                have KT := Hid.of (ktells_any ea P.ta ek P.tc es p.secret _ eA.out eL.out (h.out.t.at_.below B.out (Nat.le_refl _)) h.out.t.len)
                cases hlk : leakB p.secret es with
                | false =>
                  rw [hlk] at KT
                  clear hlk
                  obtain ⟨x0, x1, x2, x3, x4, x5, x6⟩ := ptcell_at KP.out
                  go_wp2_with fail
                  clear x0 x1 x2 x3 x4 x5 x6
                  refine KT.out.mono ?_
                  rintro e w8 ⟨rfl, rfl⟩
                  clear KT
                  obtain ⟨x0, x1, x2, x3, x4, x5, x6⟩ := ptcell_at KP.out
                  go_wp2_with fail
                  clear x0 x1 x2 x3 x4 x5 x6
                  obtain ⟨gl, gc, gH⟩ : ∃ l c, Hid (wasOut p lw lv = (l, c)) := ⟨_, _, rfl⟩
                  refine (pWas_any p P la lk lw ld lm lv _ (h.out.below B.out (Nat.le_refl _)) lA.out lL.out lB.out lM.out (hT.out.below B.out hT.out.lt)).mono ?_
                  intro e W7 hp
                  unfold ListPost at hp
                  rw [gH.out] at hp
                  dsimp only at hp
                  obtain ⟨ga, gk, rfl, gat, gln, hb⟩ := hp
                  replace B := Hid.of (B.out.trans (hb.mono B.out.size))
                  replace KP := Hid.of (KP.out.below hb KP.out.lt)
                  replace lA := Hid.of (lA.out.below hb (Nat.le_refl _))
                  replace lB := Hid.of (lB.out.below hb (Nat.le_refl _))
                  replace eA := Hid.of (eA.out.below hb (Nat.le_refl _))
                  clear hb
                  have gA := Hid.of gat
                  have gL := Hid.of gln
                  clear gat gln
                  have q3 := gH.out
                  rw [HWO.out] at q3
                  obtain ⟨rfl, rfl⟩ : gl = wasL p lw lv ∧ gc = 0 := by cases q3; exact ⟨rfl, rfl⟩
                  clear q3 gH
                  obtain ⟨gs, HGS⟩ : ∃ gs, Hid (gs = wasL p lw lv) := ⟨_, rfl⟩
                  rw [← HGS.out] at gA gL ⊢
                  have KT := Hid.of (ktells_any ga P.ta gk P.tc gs p.secret _ gA.out gL.out (h.out.t.at_.below B.out (Nat.le_refl _)) h.out.t.len)
                  have HLK : Hid (leakB p.secret gs = true) := by show _ = _; rw [HGS.out]; exact HTL.out
                  rw [HLK.out] at KT
                  obtain ⟨x0, x1, x2, x3, x4, x5, x6⟩ := ptcell_at KP.out
                  go_wp2_with fail
                  clear x0 x1 x2 x3 x4 x5 x6
                  refine KT.out.mono ?_
                  rintro e w9 ⟨rfl, rfl⟩
                  clear KT
                  have dvm : decide ((lv.length : Int) ≤ most) = true := decide_eq_true HVM.out
                  go_wp2_with fail
                  go_ret
                  exact ⟨rfl, B.out⟩
                | true =>
                  have hmin : pairB before behind lw lv = false := HMN.out before behind HS1.out HS2.out (fun _ => HSH.out) (by rw [← HES.out]; exact hlk)
                  rw [hlk] at KT
                  clear hlk
                  have hsum : ¬ (before.length + behind.length < lw.length + lv.length) := fun q => by rw [pb1 q] at hmin; cases hmin
                  clear hmin
                  obtain ⟨sa, HSA⟩ : ∃ s : Int, Hid (s = (before.length : Int) + (behind.length : Int)) := ⟨_, rfl⟩
                  obtain ⟨sb, HSB⟩ : ∃ s : Int, Hid (s = (lw.length : Int) + (lv.length : Int)) := ⟨_, rfl⟩
                  have hwa : IntKind.i64.wrap ((before.length : Int) + (behind.length : Int)) = sa := by
                    have q1 := hbl.out; have q2 := hvl.out
                    rw [IntKind.wrap_i64, HSA.out]; omega
                  have hwb : IntKind.i64.wrap ((lw.length : Int) + (lv.length : Int)) = sb := by
                    have q1 := hbl.out; have q2 := hvl.out
                    rw [IntKind.wrap_i64, HSB.out]; omega
                  have hlss : decide (sa < sb) = false := decide_eq_false (by rw [HSA.out, HSB.out]; omega)
                  clear hsum
                  obtain ⟨x0, x1, x2, x3, x4, x5, x6⟩ := ptcell_at KP.out
                  go_wp2_with fail
                  clear x0 x1 x2 x3 x4 x5 x6
                  refine KT.out.mono ?_
                  rintro e w8 ⟨rfl, rfl⟩
                  clear KT
                  obtain ⟨x0, x1, x2, x3, x4, x5, x6⟩ := ptcell_at KP.out
                  go_wp2_with fail
                  clear x0 x1 x2 x3 x4 x5 x6
                  clear hwa hwb hlss
                  obtain ⟨gl, gc, gH⟩ : ∃ l c, Hid (wasOut p lw lv = (l, c)) := ⟨_, _, rfl⟩
                  refine (pWas_any p P la lk lw ld lm lv _ (h.out.below B.out (Nat.le_refl _)) lA.out lL.out lB.out lM.out (hT.out.below B.out hT.out.lt)).mono ?_
                  intro e W7 hp
                  unfold ListPost at hp
                  rw [gH.out] at hp
                  dsimp only at hp
                  obtain ⟨ga, gk, rfl, gat, gln, hb⟩ := hp
                  replace B := Hid.of (B.out.trans (hb.mono B.out.size))
                  replace KP := Hid.of (KP.out.below hb KP.out.lt)
                  replace lA := Hid.of (lA.out.below hb (Nat.le_refl _))
                  replace lB := Hid.of (lB.out.below hb (Nat.le_refl _))
                  replace eA := Hid.of (eA.out.below hb (Nat.le_refl _))
                  clear hb
                  have gA := Hid.of gat
                  have gL := Hid.of gln
                  clear gat gln
                  have q3 := gH.out
                  rw [HWO.out] at q3
                  obtain ⟨rfl, rfl⟩ : gl = wasL p lw lv ∧ gc = 0 := by cases q3; exact ⟨rfl, rfl⟩
                  clear q3 gH
                  obtain ⟨gs, HGS⟩ : ∃ gs, Hid (gs = wasL p lw lv) := ⟨_, rfl⟩
                  rw [← HGS.out] at gA gL ⊢
                  have KT := Hid.of (ktells_any ga P.ta gk P.tc gs p.secret _ gA.out gL.out (h.out.t.at_.below B.out (Nat.le_refl _)) h.out.t.len)
                  have HLK : Hid (leakB p.secret gs = true) := by show _ = _; rw [HGS.out]; exact HTL.out
                  rw [HLK.out] at KT
                  obtain ⟨x0, x1, x2, x3, x4, x5, x6⟩ := ptcell_at KP.out
                  go_wp2_with fail
                  clear x0 x1 x2 x3 x4 x5 x6
                  refine KT.out.mono ?_
                  rintro e w9 ⟨rfl, rfl⟩
                  clear KT
                  have dvm : decide ((lv.length : Int) ≤ most) = true := decide_eq_true HVM.out
                  go_wp2_with fail
                  go_ret
                  exact ⟨rfl, B.out⟩
              · have dsh : decide ((behind.length : Int) ≤ most) = false := decide_eq_false hsh
                clear hsh
                obtain ⟨x0, x1, x2, x3, x4, x5, x6⟩ := ptcell_at KP.out
                go_wp2_with fail
                clear x0 x1 x2 x3 x4 x5 x6
                obtain ⟨gl, gc, gH⟩ : ∃ l c, Hid (wasOut p lw lv = (l, c)) := ⟨_, _, rfl⟩
                refine (pWas_any p P la lk lw ld lm lv _ (h.out.below B.out (Nat.le_refl _)) lA.out lL.out lB.out lM.out (hT.out.below B.out hT.out.lt)).mono ?_
                intro e W7 hp
                unfold ListPost at hp
                rw [gH.out] at hp
                dsimp only at hp
                obtain ⟨ga, gk, rfl, gat, gln, hb⟩ := hp
                replace B := Hid.of (B.out.trans (hb.mono B.out.size))
                replace KP := Hid.of (KP.out.below hb KP.out.lt)
                replace lA := Hid.of (lA.out.below hb (Nat.le_refl _))
                replace lB := Hid.of (lB.out.below hb (Nat.le_refl _))
                replace eA := Hid.of (eA.out.below hb (Nat.le_refl _))
                clear hb
                have gA := Hid.of gat
                have gL := Hid.of gln
                clear gat gln
                have q3 := gH.out
                rw [HWO.out] at q3
                obtain ⟨rfl, rfl⟩ : gl = wasL p lw lv ∧ gc = 0 := by cases q3; exact ⟨rfl, rfl⟩
                clear q3 gH
                obtain ⟨gs, HGS⟩ : ∃ gs, Hid (gs = wasL p lw lv) := ⟨_, rfl⟩
                rw [← HGS.out] at gA gL ⊢
                have KT := Hid.of (ktells_any ga P.ta gk P.tc gs p.secret _ gA.out gL.out (h.out.t.at_.below B.out (Nat.le_refl _)) h.out.t.len)
                have HLK : Hid (leakB p.secret gs = true) := by show _ = _; rw [HGS.out]; exact HTL.out
                rw [HLK.out] at KT
                obtain ⟨x0, x1, x2, x3, x4, x5, x6⟩ := ptcell_at KP.out
                go_wp2_with fail
                clear x0 x1 x2 x3 x4 x5 x6
                refine KT.out.mono ?_
                rintro e w9 ⟨rfl, rfl⟩
                clear KT
                have dvm : decide ((lv.length : Int) ≤ most) = true := decide_eq_true HVM.out
                go_wp2_with fail
                go_ret
                exact ⟨rfl, B.out⟩
    · have q2 := lH.out
      rw [stepOut_out HMP.out hr] at q2
      cases q2
      clear lH hr
      go_wp2_with fail
      go_ret
      exact ⟨rfl, B.out⟩

end Go.Proofs.YtmimjpkllgjdkaaDoor
