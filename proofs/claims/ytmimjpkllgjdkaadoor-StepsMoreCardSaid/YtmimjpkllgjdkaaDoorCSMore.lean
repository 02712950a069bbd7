/-
  The walk of the law StepsMore.
-/
import Derived.Test.YtmimjpkllgjdkaaDoorCPStp
import Derived.Test.YtmimjpkllgjdkaaDoorCKSame
import Derived.Test.YtmimjpkllgjdkaaDoorG33
namespace Go.Proofs.YtmimjpkllgjdkaaDoor
open Go.RowKit
set_option linter.unusedVariables false

set_option maxRecDepth 100000 in
set_option maxHeartbeats 8000000 in
theorem smore_any (p : Plant) (P : PTL) (few more : Int) (w : World) (hT : Hid (Tab w)) (h : Hid (PAt w p P)) :
    Calls Tryd.prog 12 #[ptval p P, .int .i64 few, .int .i64 more] w fun e w' => e = .returned (.bool true) ∧ Below w.heap.size w w' := by
  have B : Hid (Below w.heap.size w (w.alloc (.cells (ptcells p P) 44))) := (Below.refl _ _).alloc (Nat.le_refl _) _
  have KP : Hid (Blk (w.alloc (.cells (ptcells p P) 44)) w.heap.size 44 (ptcells p P)) := Blk.new w _ _
  go_enter Tryd.func12, Tryd.ntmps12
  go_wp2_with fail
  revert B KP
  generalize (w.alloc (.cells (ptcells p P) 44)) = V0
  intro B KP
  obtain ⟨cb, cw, cc, cH⟩ : ∃ b l c, Hid (leakOut p (outC p) = (b, l, c)) := ⟨_, _, _, rfl⟩
  refine (pLeakC_any p P _ (h.out.below B.out (Nat.le_refl _)) (hT.out.below B.out hT.out.lt)).mono ?_
  intro e W1 hp
  unfold LeakPost at hp
  rw [cH.out] at hp
  dsimp only at hp
  obtain ⟨ca, ck, rfl, cat, cln, hb⟩ := hp
  replace B := Hid.of (B.out.trans (hb.mono B.out.size))
  replace KP := Hid.of (KP.out.below hb KP.out.lt)
  clear hb
  have cA := Hid.of cat
  have cL := Hid.of cln
  clear cat cln
  obtain ⟨x0, x1, x2, x3, x4, x5, x6⟩ := ptcell_at KP.out
  go_wp2_with fail
  clear x0 x1 x2 x3 x4 x5 x6
  obtain ⟨zb, ⟨zw, zv⟩, zc, zH⟩ : ∃ b l c, Hid (stepOut p 0 = (b, l, c)) := ⟨_, _, _, rfl⟩
  refine (pStep_any p P 0 _ (h.out.below B.out (Nat.le_refl _)) (hT.out.below B.out hT.out.lt)).mono ?_
  intro e W2 hp
  unfold StepPost at hp
  rw [zH.out] at hp
  dsimp only at hp
  obtain ⟨za, zk, zd, zm, rfl, zat, zbt, zln, zbn, hb⟩ := hp
  replace B := Hid.of (B.out.trans (hb.mono B.out.size))
  replace KP := Hid.of (KP.out.below hb KP.out.lt)
  replace cA := Hid.of (cA.out.below hb (Nat.le_refl _))
  clear hb
  have zA := Hid.of zat
  have zB := Hid.of zbt
  have zL := Hid.of zln
  have zM := Hid.of zbn
  clear zat zbt zln zbn
  obtain ⟨mp, HMP⟩ : ∃ mp, Hid (mayP p = mp) := ⟨_, rfl⟩
  cases mp with
  | false =>
    have q1 := cH.out
    rw [leakOut_bad HMP.out] at q1
    cases q1
    have q2 := zH.out
    rw [stepOut_bad HMP.out] at q2
    cases q2
    clear cH zH
    have KS := Hid.of (ksame_any ca za ck zk ([] : List Int) ([] : List Int) _ cA.out zA.out cL.out cL.out)
    have HSS : Hid (sameB ([] : List Int) ([] : List Int) = true) := by show _ = _; simp [sameB]
    rw [HSS.out] at KS
    have d1 : (false != false) = false := rfl
    go_wp2_with fail
    refine KS.out.mono ?_
    rintro e W3 ⟨rfl, qd, hqd⟩
    have hb : Below W2.heap.size W2 W3 := by rw [hqd]; exact below_drewN (Below.refl _ _) qd
    replace B := Hid.of (B.out.trans (hb.mono B.out.size))
    replace KP := Hid.of (KP.out.below hb KP.out.lt)
    replace cA := Hid.of (cA.out.below hb (Nat.le_refl _))
    replace zA := Hid.of (zA.out.below hb (Nat.le_refl _))
    replace zB := Hid.of (zB.out.below hb (Nat.le_refl _))
    clear hb
    clear hqd KS HSS
    obtain ⟨x0, x1, x2, x3, x4, x5, x6⟩ := ptcell_at KP.out
    go_wp2_with fail
    clear x0 x1 x2 x3 x4 x5 x6
    refine (pCurMay_any p P _ (h.out.below B.out (Nat.le_refl _))).mono ?_
    rintro e W4 ⟨rfl, hb⟩
    replace B := Hid.of (B.out.trans (hb.mono B.out.size))
    replace KP := Hid.of (KP.out.below hb KP.out.lt)
    replace cA := Hid.of (cA.out.below hb (Nat.le_refl _))
    replace zA := Hid.of (zA.out.below hb (Nat.le_refl _))
    replace zB := Hid.of (zB.out.below hb (Nat.le_refl _))
    clear hb
    rw [HMP.out]
    obtain ⟨x0, x1, x2, x3, x4, x5, x6⟩ := ptcell_at KP.out
    go_wp2_with fail
    clear x0 x1 x2 x3 x4 x5 x6
    obtain ⟨fb, ⟨fw, fv⟩, fc, fH⟩ : ∃ b l c, Hid (stepOut p few = (b, l, c)) := ⟨_, _, _, rfl⟩
    refine (pStep_any p P few _ (h.out.below B.out (Nat.le_refl _)) (hT.out.below B.out hT.out.lt)).mono ?_
    intro e W5 hp
    unfold StepPost at hp
    rw [fH.out] at hp
    dsimp only at hp
    obtain ⟨fa, fk, fd, fm, rfl, fat, fbt, fln, fbn, hb⟩ := hp
    replace B := Hid.of (B.out.trans (hb.mono B.out.size))
    replace KP := Hid.of (KP.out.below hb KP.out.lt)
    replace cA := Hid.of (cA.out.below hb (Nat.le_refl _))
    replace zA := Hid.of (zA.out.below hb (Nat.le_refl _))
    replace zB := Hid.of (zB.out.below hb (Nat.le_refl _))
    clear hb
    have fA := Hid.of fat
    have fB := Hid.of fbt
    have fL := Hid.of fln
    have fM := Hid.of fbn
    clear fat fbt fln fbn
    have q3 := fH.out
    rw [stepOut_bad HMP.out] at q3
    cases q3
    clear fH
    obtain ⟨x0, x1, x2, x3, x4, x5, x6⟩ := ptcell_at KP.out
    go_wp2_with fail
    clear x0 x1 x2 x3 x4 x5 x6
    obtain ⟨gb, ⟨gw, gv⟩, gc, gH⟩ : ∃ b l c, Hid (stepOut p more = (b, l, c)) := ⟨_, _, _, rfl⟩
    refine (pStep_any p P more _ (h.out.below B.out (Nat.le_refl _)) (hT.out.below B.out hT.out.lt)).mono ?_
    intro e W6 hp
    unfold StepPost at hp
    rw [gH.out] at hp
    dsimp only at hp
    obtain ⟨ga, gk, gd, gm, rfl, gat, gbt, gln, gbn, hb⟩ := hp
    replace B := Hid.of (B.out.trans (hb.mono B.out.size))
    replace KP := Hid.of (KP.out.below hb KP.out.lt)
    replace cA := Hid.of (cA.out.below hb (Nat.le_refl _))
    replace zA := Hid.of (zA.out.below hb (Nat.le_refl _))
    replace zB := Hid.of (zB.out.below hb (Nat.le_refl _))
    replace fA := Hid.of (fA.out.below hb (Nat.le_refl _))
    replace fB := Hid.of (fB.out.below hb (Nat.le_refl _))
    clear hb
    have gA := Hid.of gat
    have gB := Hid.of gbt
    have gL := Hid.of gln
    have gM := Hid.of gbn
    clear gat gbt gln gbn
    have q3 := gH.out
    rw [stepOut_bad HMP.out] at q3
    cases q3
    clear gH
    go_wp2_with fail
    go_ret
    exact ⟨rfl, B.out⟩
  | true =>
    have q1 := cH.out
    rw [leakOut_ok HMP.out] at q1
    obtain ⟨rfl, rfl, rfl⟩ : cb = (outC p).isSome ∧ cw = (outC p).getD [] ∧ cc = 0 := by cases q1; exact ⟨rfl, rfl, rfl⟩
    clear q1 cH
    have q2 := zH.out
    rw [stepOut_ok HMP.out (by omega), outS_zero HMP.out] at q2
    have hzz : zb = (outC p).isSome ∧ zw = (outC p).getD [] ∧ zv = [] ∧ zc = 0 := by
      cases ho : outC p with
      | none => rw [ho] at q2; cases q2; exact ⟨rfl, rfl, rfl, rfl⟩
      | some u => rw [ho] at q2; cases q2; exact ⟨rfl, rfl, rfl, rfl⟩
    obtain ⟨rfl, rfl, rfl, rfl⟩ := hzz
    clear q2 zH
    obtain ⟨bo, HBO⟩ : ∃ bo, Hid (bo = (outC p).isSome) := ⟨_, rfl⟩
    obtain ⟨wo, HWO⟩ : ∃ wo, Hid (wo = (outC p).getD []) := ⟨_, rfl⟩
    rw [← HWO.out] at cA cL zA zL
    rw [← HBO.out, ← HWO.out]
    have d0 : (bo != bo) = false := by simp
    have KS := Hid.of (ksame_any ca za ck zk wo wo _ cA.out zA.out cL.out cL.out)
    have HSS : Hid (sameB wo wo = true) := by show _ = _; simp [sameB]
    rw [HSS.out] at KS
    have d1 : (false != false) = false := rfl
    go_wp2_with fail
    refine KS.out.mono ?_
    rintro e W3 ⟨rfl, qd, hqd⟩
    have hb : Below W2.heap.size W2 W3 := by rw [hqd]; exact below_drewN (Below.refl _ _) qd
    replace B := Hid.of (B.out.trans (hb.mono B.out.size))
    replace KP := Hid.of (KP.out.below hb KP.out.lt)
    replace cA := Hid.of (cA.out.below hb (Nat.le_refl _))
    replace zA := Hid.of (zA.out.below hb (Nat.le_refl _))
    replace zB := Hid.of (zB.out.below hb (Nat.le_refl _))
    clear hb
    clear hqd KS HSS
    clear d1
    obtain ⟨x0, x1, x2, x3, x4, x5, x6⟩ := ptcell_at KP.out
    go_wp2_with fail
    clear x0 x1 x2 x3 x4 x5 x6
    refine (pCurMay_any p P _ (h.out.below B.out (Nat.le_refl _))).mono ?_
    rintro e W4 ⟨rfl, hb⟩
    replace B := Hid.of (B.out.trans (hb.mono B.out.size))
    replace KP := Hid.of (KP.out.below hb KP.out.lt)
    replace cA := Hid.of (cA.out.below hb (Nat.le_refl _))
    replace zA := Hid.of (zA.out.below hb (Nat.le_refl _))
    replace zB := Hid.of (zB.out.below hb (Nat.le_refl _))
    clear hb
    rw [HMP.out]
    have d1 : (true != true) = false := rfl
    obtain ⟨x0, x1, x2, x3, x4, x5, x6⟩ := ptcell_at KP.out
    go_wp2_with fail
    clear x0 x1 x2 x3 x4 x5 x6
    clear d0 d1
    obtain ⟨fb, ⟨fw, fv⟩, fc, fH⟩ : ∃ b l c, Hid (stepOut p few = (b, l, c)) := ⟨_, _, _, rfl⟩
    refine (pStep_any p P few _ (h.out.below B.out (Nat.le_refl _)) (hT.out.below B.out hT.out.lt)).mono ?_
    intro e W5 hp
    unfold StepPost at hp
    rw [fH.out] at hp
    dsimp only at hp
    obtain ⟨fa, fk, fd, fm, rfl, fat, fbt, fln, fbn, hb⟩ := hp
    replace B := Hid.of (B.out.trans (hb.mono B.out.size))
    replace KP := Hid.of (KP.out.below hb KP.out.lt)
    replace cA := Hid.of (cA.out.below hb (Nat.le_refl _))
    replace zA := Hid.of (zA.out.below hb (Nat.le_refl _))
    replace zB := Hid.of (zB.out.below hb (Nat.le_refl _))
    clear hb
    have fA := Hid.of fat
    have fB := Hid.of fbt
    have fL := Hid.of fln
    have fM := Hid.of fbn
    clear fat fbt fln fbn
    obtain ⟨x0, x1, x2, x3, x4, x5, x6⟩ := ptcell_at KP.out
    go_wp2_with fail
    clear x0 x1 x2 x3 x4 x5 x6
    obtain ⟨gb, ⟨gw, gv⟩, gc, gH⟩ : ∃ b l c, Hid (stepOut p more = (b, l, c)) := ⟨_, _, _, rfl⟩
    refine (pStep_any p P more _ (h.out.below B.out (Nat.le_refl _)) (hT.out.below B.out hT.out.lt)).mono ?_
    intro e W6 hp
    unfold StepPost at hp
    rw [gH.out] at hp
    dsimp only at hp
    obtain ⟨ga, gk, gd, gm, rfl, gat, gbt, gln, gbn, hb⟩ := hp
    replace B := Hid.of (B.out.trans (hb.mono B.out.size))
    replace KP := Hid.of (KP.out.below hb KP.out.lt)
    replace cA := Hid.of (cA.out.below hb (Nat.le_refl _))
    replace zA := Hid.of (zA.out.below hb (Nat.le_refl _))
    replace zB := Hid.of (zB.out.below hb (Nat.le_refl _))
    replace fA := Hid.of (fA.out.below hb (Nat.le_refl _))
    replace fB := Hid.of (fB.out.below hb (Nat.le_refl _))
    clear hb
    have gA := Hid.of gat
    have gB := Hid.of gbt
    have gL := Hid.of gln
    have gM := Hid.of gbn
    clear gat gbt gln gbn
    by_cases hfw : -1 ≤ few ∧ few ≤ 1000
    · have q3 := fH.out
      rw [stepOut_ok HMP.out hfw] at q3
      obtain ⟨rfl, rfl⟩ : fb = (outS p few).isSome ∧ fc = 0 := by rw [Prod.mk.injEq, Prod.mk.injEq] at q3; exact ⟨q3.1.symm, q3.2.2.symm⟩
      clear q3 fH
      by_cases hmr : -1 ≤ more ∧ more ≤ 1000
      · have q4 := gH.out
        rw [stepOut_ok HMP.out hmr] at q4
        obtain ⟨rfl, rfl⟩ : gb = (outS p more).isSome ∧ gc = 0 := by rw [Prod.mk.injEq, Prod.mk.injEq] at q4; exact ⟨q4.1.symm, q4.2.2.symm⟩
        clear q4 gH
        have HMO : Hid (more = -1 ∨ (0 ≤ few ∧ few ≤ more) → (outS p few).isSome = true → (outS p more).isSome = true) := fun q1 q2 => outS_more HMP.out q1 q2
        obtain ⟨x1, HX1⟩ : ∃ x, Hid (x = (outS p few).isSome) := ⟨_, rfl⟩
        obtain ⟨x2, HX2⟩ : ∃ x, Hid (x = (outS p more).isSome) := ⟨_, rfl⟩
        rw [← HX1.out, ← HX2.out] at HMO
        rw [← HX1.out, ← HX2.out]
        clear hfw hmr
        by_cases h1 : more = -1
        · have HW : Hid (x1 = true → x2 = true) := HMO.out (.inl h1)
          subst h1
          cases x1 with
          | false =>
            go_wp2_with fail
            go_ret
            exact ⟨rfl, B.out⟩
          | true =>
            have hx2 : x2 = true := HW.out rfl
            subst hx2
            go_wp2_with fail
            go_ret
            exact ⟨rfl, B.out⟩
        · have hb1 : (more == -1) = false := by simpa using h1
          by_cases h2 : 0 ≤ few
          · by_cases h3 : few ≤ more
            · have HW : Hid (x1 = true → x2 = true) := HMO.out (.inr ⟨h2, h3⟩)
              cases x1 with
              | false =>
                go_wp2_with fail
                go_ret
                exact ⟨rfl, B.out⟩
              | true =>
                have hx2 : x2 = true := HW.out rfl
                subst hx2
                go_wp2_with fail
                go_ret
                exact ⟨rfl, B.out⟩
            · clear HMO
              go_wp2_with fail
              go_ret
              exact ⟨rfl, B.out⟩
          · clear HMO
            go_wp2_with fail
            go_ret
            exact ⟨rfl, B.out⟩
      · have q4 := gH.out
        rw [stepOut_out HMP.out hmr] at q4
        cases q4
        clear gH
        cases (outS p few).isSome with
        | false =>
          go_wp2_with fail
          go_ret
          exact ⟨rfl, B.out⟩
        | true =>
          go_wp2_with fail
          go_ret
          exact ⟨rfl, B.out⟩
    · have q3 := fH.out
      rw [stepOut_out HMP.out hfw] at q3
      cases q3
      clear fH
      go_wp2_with fail
      go_ret
      exact ⟨rfl, B.out⟩

end Go.Proofs.YtmimjpkllgjdkaaDoor
