/-
  The walk of the law InitialTells.
-/
import Derived.Test.YtdhgabpoaicjoaaDoorG38
import Derived.Test.YtdhgabpoaicjoaaDoorG39
import Derived.Test.YtdhgabpoaicjoaaDoorCRBack
namespace Go.Proofs.YtdhgabpoaicjoaaDoor
open Go.RowKit
set_option linter.unusedVariables false

set_option maxRecDepth 100000 in
set_option maxHeartbeats 8000000 in
theorem itells_any (p : Plant) (P : PTL) (wa : Option Addr) (wc : Nat) (word : List Int) (w : World) (hT : Hid (Tab w)) (h : Hid (PAt w p P)) (hw : Hid (At w wa word)) (hwl : Hid (word.length ≤ 17592186044416)) :
    Calls Tryd.prog 10 #[ptval p P, .slice wa word.length wc] w fun e w' => e = .returned (.bool true) ∧ Below w.heap.size w w' := by
  have B : Hid (Below w.heap.size w (w.alloc (.cells (ptcells p P) 50))) := (Below.refl _ _).alloc (Nat.le_refl _) _
  have KP : Hid (Blk (w.alloc (.cells (ptcells p P) 50)) w.heap.size 50 (ptcells p P)) := Blk.new w _ _
  go_enter Tryd.func10, Tryd.ntmps10
  go_wp2_with fail
  revert B KP
  generalize (w.alloc (.cells (ptcells p P) 50)) = V0
  intro B KP
  obtain ⟨el, ec, eH⟩ : ∃ l c, Hid (begOut p word = (l, c)) := ⟨_, _, rfl⟩
  refine (pBeg_any p P wa wc word _ (h.out.below B.out (Nat.le_refl _)) (hw.out.below B.out (Nat.le_refl _)) (Nat.le_trans hwl.out (by decide)) (hT.out.below B.out hT.out.lt)).mono ?_
  intro e W2 hp
  unfold ListPost at hp
  rw [eH.out] at hp
  dsimp only at hp
  obtain ⟨ea, ek, rfl, eat, eln, hb⟩ := hp
  replace B := Hid.of (B.out.trans (hb.mono B.out.size))
  replace KP := Hid.of (KP.out.below hb KP.out.lt)
  clear hb
  have eA := Hid.of eat
  have eL := Hid.of eln
  clear eat eln
  obtain ⟨x0, x1, x2, x3, x4, x5, x6⟩ := ptcell_at KP.out
  go_wp2_with fail
  clear x0 x1 x2 x3 x4 x5 x6
  obtain ⟨lb, lw, lc, lH⟩ : ∃ b l c, Hid (leakOut p (outI p) = (b, l, c)) := ⟨_, _, _, rfl⟩
  refine (pLeakI_any p P _ (h.out.below B.out (Nat.le_refl _)) (hT.out.below B.out hT.out.lt)).mono ?_
  intro e W3 hp
  unfold LeakPost at hp
  rw [lH.out] at hp
  dsimp only at hp
  obtain ⟨la, lk, rfl, lat, lln, hb⟩ := hp
  replace B := Hid.of (B.out.trans (hb.mono B.out.size))
  replace KP := Hid.of (KP.out.below hb KP.out.lt)
  replace eA := Hid.of (eA.out.below hb (Nat.le_refl _))
  clear hb
  have lA := Hid.of lat
  have lL := Hid.of lln
  clear lat lln
  obtain ⟨x0, x1, x2, x3, x4, x5, x6⟩ := ptcell_at KP.out
  go_wp2_with fail
  clear x0 x1 x2 x3 x4 x5 x6
  refine (rMayP_any p P _ (Hid.of (h.out.below B.out (Nat.le_refl _)))).mono ?_
  rintro e W4 ⟨rfl, hb⟩
  replace B := Hid.of (B.out.trans (hb.mono B.out.size))
  replace KP := Hid.of (KP.out.below hb KP.out.lt)
  replace eA := Hid.of (eA.out.below hb (Nat.le_refl _))
  replace lA := Hid.of (lA.out.below hb (Nat.le_refl _))
  clear hb
  obtain ⟨mp, HMP⟩ : ∃ mp, Hid (mayP p = mp) := ⟨_, rfl⟩
  rw [HMP.out]
  cases mp with
  | false =>
    have q1 := eH.out
    rw [begOut_bad HMP.out] at q1
    cases q1
    have q2 := lH.out
    rw [leakOut_bad HMP.out] at q2
    cases q2
    go_wp2_with fail
    go_ret
    exact ⟨rfl, B.out⟩
  | true =>
    have q2 := lH.out
    rw [leakOut_ok HMP.out] at q2
    obtain ⟨hm, z, hs, -⟩ := (mayP_iff p).1 HMP.out
    have HM := Hid.of hm
    clear hm hs
    obtain ⟨rfl, rfl, rfl⟩ : lb = (outI p).isSome ∧ lw = (outI p).getD [] ∧ lc = 0 := by cases q2; exact ⟨rfl, rfl, rfl⟩
    clear q2 lH
    obtain ⟨bo, HBO⟩ : ∃ bo, Hid (bo = (outI p).isSome) := ⟨_, rfl⟩
    obtain ⟨wo, HWO⟩ : ∃ wo, Hid (wo = (outI p).getD []) := ⟨_, rfl⟩
    rw [← HWO.out] at lA lL
    rw [← HBO.out, ← HWO.out]
    obtain ⟨x0, x1, x2, x3, x4, x5, x6⟩ := ptcell_at KP.out
    go_wp2_with fail
    clear x0 x1 x2 x3 x4 x5 x6
    refine (lseen_any p P wa wc word _ (h.out.below B.out (Nat.le_refl _)) (hw.out.below B.out (Nat.le_refl _)) hwl.out).mono ?_
    rintro e W5 ⟨rfl, hb⟩
    replace B := Hid.of (B.out.trans (hb.mono B.out.size))
    replace KP := Hid.of (KP.out.below hb KP.out.lt)
    replace eA := Hid.of (eA.out.below hb (Nat.le_refl _))
    replace lA := Hid.of (lA.out.below hb (Nat.le_refl _))
    clear hb
    cases hsw : inSeen p.seen word with
    | false =>
      have q1 := eH.out
      rw [begOut_out HMP.out hsw] at q1
      cases q1
      clear hsw eH
      obtain ⟨x0, x1, x2, x3, x4, x5, x6⟩ := ptcell_at KP.out
      go_wp2_with fail
      clear x0 x1 x2 x3 x4 x5 x6
      refine (rBack_any p P _ (h.out.below B.out (Nat.le_refl _)) HMP.out).mono ?_
      rintro e W7 ⟨kv, rfl, kow, hb⟩
      replace B := Hid.of (B.out.trans (hb.mono B.out.size))
      replace KP := Hid.of (KP.out.below hb KP.out.lt)
      replace eA := Hid.of (eA.out.below hb (Nat.le_refl _))
      replace lA := Hid.of (lA.out.below hb (Nat.le_refl _))
      clear hb
      obtain ⟨nn, hI⟩ := bwd_all HM.out z
      have hpos : 0 < (knL p.seen (bwdL p)).length := by
        rw [knL_len]
        obtain ⟨q, hq, -⟩ := hI.cov [] (by simp) (Nat.zero_le _)
        exact List.length_pos_of_mem hq
      have hbd : (knL p.seen (bwdL p)).length ≤ 64 := by rw [knL_len]; exact bwd_bound HM.out z hI
      have HRW : Hid (∀ y ∈ knL p.seen (bwdL p), y.1.length ≤ 4096) := fun y hy => by
        obtain ⟨u, hu, rfl⟩ := List.mem_map.1 hy
        have e1 := (hI.run u hu).1
        show u.1.length ≤ 4096
        rw [e1, on_val HM.out]
        exact Nat.le_trans (nodup_len 256 _ (inc_nodup (inc_flt (inc_rng9 _) _)) (fun t ht => by have := ((mem_on _ _ _).1 ht).1; omega)) (by decide)
      obtain ⟨kg, kc, hkv, -, hkl, -, hck⟩ := kow.cellsK hpos
      subst hkv
      have HKL := Hid.of hkl
      have HCK := Hid.of hck
      have HBD := Hid.of hbd
      clear hkl hck kow hpos hbd hI
      have HB2 : Hid (bestL p.secret p.m.starts (knL p.seen (bwdL p)) = outI p) := rfl
      obtain ⟨kn, HKN⟩ : ∃ kn, Hid (kn = knL p.seen (bwdL p)) := ⟨_, rfl⟩
      rw [← HKN.out] at HCK HBD HRW HB2 ⊢
      have KB : Hid (Calls Tryd.prog 43 #[.slice (some ⟨kg, 0, none⟩) kn.length kc, ptval p P, .slice P.l.a1 p.m.starts.length P.l.c1, .bool bo, .slice la wo.length lk] W7 fun e w' => e = .returned (.bool true) ∧ Below W7.heap.size W7 w') := lbest_any p P kg 0 kc P.l.a1 la P.l.c1 lk p.m.starts wo bo kn W7 (h.out.below B.out (Nat.le_refl _)) (Nat.le_trans HBD.out (by decide)) HKL.out HCK.out HRW.out (h.out.m.s.below B.out (Nat.le_refl _)) (Nat.le_trans h.out.m.s1 h.out.m.s2) lA.out lL.out (by rw [HB2.out]; exact HBO.out) (by rw [HB2.out]; exact HWO.out)
      obtain ⟨x0, x1, x2, x3, x4, x5, x6⟩ := ptcell_at KP.out
      go_wp2_with fail
      clear x0 x1 x2 x3 x4 x5 x6
      refine KB.out.mono ?_
      rintro e W9 ⟨rfl, hb⟩
      replace B := Hid.of (B.out.trans (hb.mono B.out.size))
      clear hb
      go_wp2_with fail
      go_ret
      exact ⟨rfl, B.out⟩
    | true =>
      have q1 := eH.out
      rw [begOut_ok HMP.out hsw] at q1
      obtain ⟨rfl, rfl⟩ : el = beganL p word ∧ ec = 0 := by cases q1; exact ⟨rfl, rfl⟩
      clear q1 hsw eH
      obtain ⟨es, HES⟩ : ∃ es, Hid (es = beganL p word) := ⟨_, rfl⟩
      rw [← HES.out] at eA eL ⊢
      obtain ⟨x0, x1, x2, x3, x4, x5, x6⟩ := ptcell_at KP.out
      go_wp2_with fail
      clear x0 x1 x2 x3 x4 x5 x6
      refine (rBegan_any p P wa wc word _ (h.out.below B.out (Nat.le_refl _)) HM.out (hw.out.below B.out (Nat.le_refl _)) (Nat.le_trans hwl.out (by decide))).mono ?_
      rintro e W6 ⟨rv, rfl, row, hb⟩
      replace B := Hid.of (B.out.trans (hb.mono B.out.size))
      replace KP := Hid.of (KP.out.below hb KP.out.lt)
      replace eA := Hid.of (eA.out.below hb (Nat.le_refl _))
      replace lA := Hid.of (lA.out.below hb (Nat.le_refl _))
      clear hb
      rw [← HES.out] at row
      obtain ⟨ra, rc, hrv, rat, rl1, rl2, -⟩ := Own.at2 row
      subst hrv
      have RA := Hid.of rat
      clear row rat rl1 rl2
      have KS := Hid.of (same_any ea ra ek rc es es _ eA.out RA.out eL.out eL.out)
      have HSS : Hid (sameB es es = true) := by show _ = _; simp [sameB]
      rw [HSS.out] at KS
      go_wp2_with fail
      refine KS.out.mono ?_
      rintro e W6b ⟨rfl, qd, hqd⟩
      have hb : Below W6.heap.size W6 W6b := by rw [hqd]; exact below_drewN (Below.refl _ _) qd
      replace B := Hid.of (B.out.trans (hb.mono B.out.size))
      replace KP := Hid.of (KP.out.below hb KP.out.lt)
      replace eA := Hid.of (eA.out.below hb (Nat.le_refl _))
      replace lA := Hid.of (lA.out.below hb (Nat.le_refl _))
      replace RA := Hid.of (RA.out.below hb (Nat.le_refl _))
      clear hb
      clear hqd KS
      obtain ⟨x0, x1, x2, x3, x4, x5, x6⟩ := ptcell_at KP.out
      go_wp2_with fail
      clear x0 x1 x2 x3 x4 x5 x6
      refine (rBack_any p P _ (h.out.below B.out (Nat.le_refl _)) HMP.out).mono ?_
      rintro e W7 ⟨kv, rfl, kow, hb⟩
      replace B := Hid.of (B.out.trans (hb.mono B.out.size))
      replace KP := Hid.of (KP.out.below hb KP.out.lt)
      replace eA := Hid.of (eA.out.below hb (Nat.le_refl _))
      replace lA := Hid.of (lA.out.below hb (Nat.le_refl _))
      replace RA := Hid.of (RA.out.below hb (Nat.le_refl _))
      clear hb
      obtain ⟨nn, hI⟩ := bwd_all HM.out z
      have hpos : 0 < (knL p.seen (bwdL p)).length := by
        rw [knL_len]
        obtain ⟨q, hq, -⟩ := hI.cov [] (by simp) (Nat.zero_le _)
        exact List.length_pos_of_mem hq
      have hbd : (knL p.seen (bwdL p)).length ≤ 64 := by rw [knL_len]; exact bwd_bound HM.out z hI
      have HRW : Hid (∀ y ∈ knL p.seen (bwdL p), y.1.length ≤ 4096) := fun y hy => by
        obtain ⟨u, hu, rfl⟩ := List.mem_map.1 hy
        have e1 := (hI.run u hu).1
        show u.1.length ≤ 4096
        rw [e1, on_val HM.out]
        exact Nat.le_trans (nodup_len 256 _ (inc_nodup (inc_flt (inc_rng9 _) _)) (fun t ht => by have := ((mem_on _ _ _).1 ht).1; omega)) (by decide)
      obtain ⟨kg, kc, hkv, -, hkl, -, hck⟩ := kow.cellsK hpos
      subst hkv
      have HKL := Hid.of hkl
      have HCK := Hid.of hck
      have HBD := Hid.of hbd
      clear hkl hck kow hpos hbd hI
      have HB2 : Hid (bestL p.secret p.m.starts (knL p.seen (bwdL p)) = outI p) := rfl
      obtain ⟨kn, HKN⟩ : ∃ kn, Hid (kn = knL p.seen (bwdL p)) := ⟨_, rfl⟩
      rw [← HKN.out] at HCK HBD HRW HB2 ⊢
      have KB : Hid (Calls Tryd.prog 43 #[.slice (some ⟨kg, 0, none⟩) kn.length kc, ptval p P, .slice P.l.a1 p.m.starts.length P.l.c1, .bool bo, .slice la wo.length lk] W7 fun e w' => e = .returned (.bool true) ∧ Below W7.heap.size W7 w') := lbest_any p P kg 0 kc P.l.a1 la P.l.c1 lk p.m.starts wo bo kn W7 (h.out.below B.out (Nat.le_refl _)) (Nat.le_trans HBD.out (by decide)) HKL.out HCK.out HRW.out (h.out.m.s.below B.out (Nat.le_refl _)) (Nat.le_trans h.out.m.s1 h.out.m.s2) lA.out lL.out (by rw [HB2.out]; exact HBO.out) (by rw [HB2.out]; exact HWO.out)
      obtain ⟨x0, x1, x2, x3, x4, x5, x6⟩ := ptcell_at KP.out
      go_wp2_with fail
      clear x0 x1 x2 x3 x4 x5 x6
      refine KB.out.mono ?_
      rintro e W9 ⟨rfl, hb⟩
      replace B := Hid.of (B.out.trans (hb.mono B.out.size))
      clear hb
      go_wp2_with fail
      go_ret
      exact ⟨rfl, B.out⟩

end Go.Proofs.YtdhgabpoaicjoaaDoor
