/-
  The walk of the law CurrentTells.
-/
import Derived.Test.YtmlkpdeidpcidaaDoorCPCur
import Derived.Test.YtmlkpdeidpcidaaDoorCLawP
import Derived.Test.YtmlkpdeidpcidaaDoorG37
namespace Go.Proofs.YtmlkpdeidpcidaaDoor
open Go.RowKit
set_option linter.unusedVariables false

set_option maxRecDepth 100000 in
set_option maxHeartbeats 8000000 in
theorem ctells_any (p : Plant) (P : PTL) (wa : Option Addr) (wc : Nat) (word : List Int) (w : World) (hT : Hid (Tab w)) (h : Hid (PAt w p P)) (hw : Hid (At w wa word)) (hwl : Hid (word.length ≤ 17592186044416)) :
    Calls Tryd.prog 6 #[ptval p P, .slice wa word.length wc] w fun e w' => e = .returned (.bool true) ∧ Below w.heap.size w w' := by
  have B : Hid (Below w.heap.size w (w.alloc (.cells (ptcells p P) 44))) := (Below.refl _ _).alloc (Nat.le_refl _) _
  have KP : Hid (Blk (w.alloc (.cells (ptcells p P) 44)) w.heap.size 44 (ptcells p P)) := Blk.new w _ _
  go_enter Tryd.func6, Tryd.ntmps6
  go_wp2_with fail
  revert B KP
  generalize (w.alloc (.cells (ptcells p P) 44)) = V0
  intro B KP
  refine (pCurMay_any p P _ (h.out.below B.out (Nat.le_refl _))).mono ?_
  rintro e W1 ⟨rfl, hb⟩
  replace B := Hid.of (B.out.trans (hb.mono B.out.size))
  replace KP := Hid.of (KP.out.below hb KP.out.lt)
  clear hb
  obtain ⟨mp, HMP⟩ : ∃ mp, Hid (mayP p = mp) := ⟨_, rfl⟩
  rw [HMP.out]
  obtain ⟨x0, x1, x2, x3, x4, x5, x6⟩ := ptcell_at KP.out
  go_wp2_with fail
  clear x0 x1 x2 x3 x4 x5 x6
  obtain ⟨el, ec, eH⟩ : ∃ l c, Hid (estOut p word = (l, c)) := ⟨_, _, rfl⟩
  refine (pEst_any p P wa wc word _ (h.out.below B.out (Nat.le_refl _)) (hw.out.below B.out (Nat.le_refl _)) (Nat.le_trans hwl.out (by decide)) (hT.out.below B.out hT.out.lt)).mono ?_
  intro e W2 hp
  unfold ListPost at hp
  rw [eH.out] at hp
  dsimp only at hp
  obtain ⟨ea, ek, rfl, eat, eln, hb⟩ := hp
  replace B := Hid.of (B.out.trans (hb.mono B.out.size))
  replace KP := Hid.of (KP.out.below hb KP.out.lt)
  clear hb
  have eA := Hid.of eat
  have eL := Hid.of eln
  clear eat eln
  obtain ⟨x0, x1, x2, x3, x4, x5, x6⟩ := ptcell_at KP.out
  go_wp2_with fail
  clear x0 x1 x2 x3 x4 x5 x6
  obtain ⟨lb, lw, lc, lH⟩ : ∃ b l c, Hid (leakOut p (outC p) = (b, l, c)) := ⟨_, _, _, rfl⟩
  refine (pLeakC_any p P _ (h.out.below B.out (Nat.le_refl _)) (hT.out.below B.out hT.out.lt)).mono ?_
  intro e W3 hp
  unfold LeakPost at hp
  rw [lH.out] at hp
  dsimp only at hp
  obtain ⟨la, lk, rfl, lat, lln, hb⟩ := hp
  replace B := Hid.of (B.out.trans (hb.mono B.out.size))
  replace KP := Hid.of (KP.out.below hb KP.out.lt)
  replace eA := Hid.of (eA.out.below hb (Nat.le_refl _))
  clear hb
  have lA := Hid.of lat
  have lL := Hid.of lln
  clear lat lln
  obtain ⟨x0, x1, x2, x3, x4, x5, x6⟩ := ptcell_at KP.out
  go_wp2_with fail
  clear x0 x1 x2 x3 x4 x5 x6
  refine (rMayP_any p P _ (Hid.of (h.out.below B.out (Nat.le_refl _)))).mono ?_
  rintro e W4 ⟨rfl, hb⟩
  replace B := Hid.of (B.out.trans (hb.mono B.out.size))
  replace KP := Hid.of (KP.out.below hb KP.out.lt)
  replace eA := Hid.of (eA.out.below hb (Nat.le_refl _))
  replace lA := Hid.of (lA.out.below hb (Nat.le_refl _))
  clear hb
  rw [HMP.out]
  cases mp with
  | false =>
    have q1 := eH.out
    rw [estOut_bad HMP.out] at q1
    cases q1
    have q2 := lH.out
    rw [leakOut_bad HMP.out] at q2
    cases q2
    have d : (false != false) = false := rfl
    go_wp2_with fail
    go_ret
    exact ⟨rfl, B.out⟩
  | true =>
    have q2 := lH.out
    rw [leakOut_ok HMP.out] at q2
    obtain ⟨hm, z, hs, -⟩ := (mayP_iff p).1 HMP.out
    have HM := Hid.of hm
    clear hm hs
    have d : (true != true) = false := rfl
    obtain ⟨rfl, rfl, rfl⟩ : lb = (outC p).isSome ∧ lw = (outC p).getD [] ∧ lc = 0 := by cases q2; exact ⟨rfl, rfl, rfl⟩
    clear q2 lH
    obtain ⟨bo, HBO⟩ : ∃ bo, Hid (bo = (outC p).isSome) := ⟨_, rfl⟩
    obtain ⟨wo, HWO⟩ : ∃ wo, Hid (wo = (outC p).getD []) := ⟨_, rfl⟩
    rw [← HWO.out] at lA lL
    rw [← HBO.out, ← HWO.out]
    obtain ⟨x0, x1, x2, x3, x4, x5, x6⟩ := ptcell_at KP.out
    go_wp2_with fail
    clear x0 x1 x2 x3 x4 x5 x6
    refine (lseen_any p P wa wc word _ (h.out.below B.out (Nat.le_refl _)) (hw.out.below B.out (Nat.le_refl _)) hwl.out).mono ?_
    rintro e W5 ⟨rfl, hb⟩
    replace B := Hid.of (B.out.trans (hb.mono B.out.size))
    replace KP := Hid.of (KP.out.below hb KP.out.lt)
    replace eA := Hid.of (eA.out.below hb (Nat.le_refl _))
    replace lA := Hid.of (lA.out.below hb (Nat.le_refl _))
    clear hb
    cases hsw : inSeen p.seen word with
    | false =>
      have q1 := eH.out
      rw [estOut_out HMP.out hsw] at q1
      cases q1
      clear hsw eH
      obtain ⟨x0, x1, x2, x3, x4, x5, x6⟩ := ptcell_at KP.out
      go_wp2_with fail
      clear x0 x1 x2 x3 x4 x5 x6
      refine (rFwd_any p P _ (h.out.below B.out (Nat.le_refl _)) HMP.out).mono ?_
      rintro e W7 ⟨kv, rfl, kow, hb⟩
      replace B := Hid.of (B.out.trans (hb.mono B.out.size))
      replace KP := Hid.of (KP.out.below hb KP.out.lt)
      replace eA := Hid.of (eA.out.below hb (Nat.le_refl _))
      replace lA := Hid.of (lA.out.below hb (Nat.le_refl _))
      clear hb
      have hpos : 0 < (knL p.seen (fwdL p)).length := by
        rw [knL_len]
        exact (List.getElem?_eq_some_iff.1 (fwd_all HM.out z).hd).1
      have hbd : (knL p.seen (fwdL p)).length ≤ 64 := by rw [knL_len]; exact fwd_bound HM.out z (fwd_all HM.out z)
      have HRW : Hid (∀ y ∈ knL p.seen (fwdL p), y.1.length ≤ 4096) := fun y hy => by
        obtain ⟨u, hu, rfl⟩ := List.mem_map.1 hy
        have e1 := fwd_est (fwd_all HM.out z) hu
        have h2 := est_in HM.out (wordS p.seen u.2)
        show u.1.length ≤ 4096
        rw [e1]
        exact Nat.le_trans (nodup_len 256 _ (inc_nodup h2.1) (fun t ht => by have := h2.2 t ht; omega)) (by decide)
      obtain ⟨kg, kc, hkv, -, hkl, -, hck⟩ := kow.cellsK hpos
      subst hkv
      have HKL := Hid.of hkl
      have HCK := Hid.of hck
      have HBD := Hid.of hbd
      clear hkl hck kow hpos hbd
      have HBEST : Hid (∀ only : List Int, (∀ x : Int, 0 ≤ x → x < p.m.st → x ∈ only) → bestL p.secret only (knL p.seen (fwdL p)) = outC p) := fun only ho => fwd_best HMP.out ho
      obtain ⟨kn, HKN⟩ : ∃ kn, Hid (kn = knL p.seen (fwdL p)) := ⟨_, rfl⟩
      rw [← HKN.out] at HCK HBD HRW HBEST ⊢
      obtain ⟨x0, x1, x2, x3, x4, x5, x6⟩ := ptcell_at KP.out
      go_wp2_with fail
      clear x0 x1 x2 x3 x4 x5 x6
      obtain ⟨sn, HSN⟩ : ∃ sn : Nat, Hid (p.m.st = (sn : Int)) := ⟨p.m.st.toNat, by have := mayB_size HM.out; unfold sizeOk at this; show _ = _; omega⟩
      have hsn : sn ≤ 256 := by have := HSN.out; omega
      have KALL : Hid (Calls Tryd.prog 35 #[mval p.m P.l] W7 fun e w' => GivesO W7 (rngI sn) e w') := by
        have := lall_any sn p.m.ev p.m.starts p.m.arrows p.m.ends P.l W7 hsn
        rw [← HSN.out] at this
        exact this
      refine KALL.out.mono ?_
      rintro e W8 ⟨av, rfl, aow, hb⟩
      replace HCK := Hid.of (cellsK_below HCK.out hb HKL.out)
      replace HKL := Hid.of (Nat.lt_of_lt_of_le HKL.out hb.size)
      replace B := Hid.of (B.out.trans (hb.mono B.out.size))
      replace KP := Hid.of (KP.out.below hb KP.out.lt)
      replace eA := Hid.of (eA.out.below hb (Nat.le_refl _))
      replace lA := Hid.of (lA.out.below hb (Nat.le_refl _))
      clear hb
      obtain ⟨aa, ac, hav, aat, al1, al2, -⟩ := Own.at2 aow
      have HAA := Hid.of aat
      have HAL : Hid ((rngI sn).length ≤ maxLen) := Nat.le_trans al1 al2
      have HB2 : Hid (bestL p.secret (rngI sn) kn = outC p) := HBEST.out _ (fun x x0 x1 => by
        have e1 := HSN.out
        unfold rngI
        rw [List.mem_map]
        exact ⟨x.toNat, List.mem_range.2 (by omega), by omega⟩)
      subst hav
      clear aow aat al1 al2 KALL HBEST
      have KB : Hid (Calls Tryd.prog 36 #[.slice (some ⟨kg, 0, none⟩) kn.length kc, ptval p P, .slice aa (rngI sn).length ac, .bool bo, .slice la wo.length lk] W8 fun e w' => e = .returned (.bool true) ∧ Below W8.heap.size W8 w') := lbest_any p P kg 0 kc aa la ac lk (rngI sn) wo bo kn W8 (h.out.below B.out (Nat.le_refl _)) (Nat.le_trans HBD.out (by decide)) HKL.out HCK.out HRW.out HAA.out HAL.out lA.out lL.out (by rw [HB2.out]; exact HBO.out) (by rw [HB2.out]; exact HWO.out)
      obtain ⟨x0, x1, x2, x3, x4, x5, x6⟩ := ptcell_at KP.out
      go_wp2_with fail
      clear x0 x1 x2 x3 x4 x5 x6
      refine KB.out.mono ?_
      rintro e W9 ⟨rfl, hb⟩
      replace B := Hid.of (B.out.trans (hb.mono B.out.size))
      clear hb
      go_wp2_with fail
      go_ret
      exact ⟨rfl, B.out⟩
    | true =>
      have q1 := eH.out
      rw [estOut_ok HMP.out hsw] at q1
      obtain ⟨rfl, rfl⟩ : el = estL p word ∧ ec = 0 := by cases q1; exact ⟨rfl, rfl⟩
      clear q1 hsw eH
      obtain ⟨es, HES⟩ : ∃ es, Hid (es = estL p word) := ⟨_, rfl⟩
      rw [← HES.out] at eA eL ⊢
      obtain ⟨x0, x1, x2, x3, x4, x5, x6⟩ := ptcell_at KP.out
      go_wp2_with fail
      clear x0 x1 x2 x3 x4 x5 x6
      refine (rEst_any p P wa wc word _ (h.out.below B.out (Nat.le_refl _)) HM.out (hw.out.below B.out (Nat.le_refl _)) (Nat.le_trans hwl.out (by decide))).mono ?_
      rintro e W6 ⟨rv, rfl, row, hb⟩
      replace B := Hid.of (B.out.trans (hb.mono B.out.size))
      replace KP := Hid.of (KP.out.below hb KP.out.lt)
      replace eA := Hid.of (eA.out.below hb (Nat.le_refl _))
      replace lA := Hid.of (lA.out.below hb (Nat.le_refl _))
      clear hb
      rw [← HES.out] at row
      obtain ⟨ra, rc, hrv, rat, rl1, rl2, -⟩ := Own.at2 row
      subst hrv
      have RA := Hid.of rat
      clear row rat rl1 rl2
      have KS := Hid.of (same_any ea ra ek rc es es _ eA.out RA.out eL.out eL.out)
      have HSS : Hid (sameB es es = true) := by show _ = _; simp [sameB]
      rw [HSS.out] at KS
      go_wp2_with fail
      refine KS.out.mono ?_
      rintro e W6b ⟨rfl, qd, hqd⟩
      have hb : Below W6.heap.size W6 W6b := by rw [hqd]; exact below_drewN (Below.refl _ _) qd
      replace B := Hid.of (B.out.trans (hb.mono B.out.size))
      replace KP := Hid.of (KP.out.below hb KP.out.lt)
      replace eA := Hid.of (eA.out.below hb (Nat.le_refl _))
      replace lA := Hid.of (lA.out.below hb (Nat.le_refl _))
      replace RA := Hid.of (RA.out.below hb (Nat.le_refl _))
      clear hb
      clear hqd KS
      obtain ⟨x0, x1, x2, x3, x4, x5, x6⟩ := ptcell_at KP.out
      go_wp2_with fail
      clear x0 x1 x2 x3 x4 x5 x6
      refine (rFwd_any p P _ (h.out.below B.out (Nat.le_refl _)) HMP.out).mono ?_
      rintro e W7 ⟨kv, rfl, kow, hb⟩
      replace B := Hid.of (B.out.trans (hb.mono B.out.size))
      replace KP := Hid.of (KP.out.below hb KP.out.lt)
      replace eA := Hid.of (eA.out.below hb (Nat.le_refl _))
      replace lA := Hid.of (lA.out.below hb (Nat.le_refl _))
      replace RA := Hid.of (RA.out.below hb (Nat.le_refl _))
      clear hb
      have hpos : 0 < (knL p.seen (fwdL p)).length := by
        rw [knL_len]
        exact (List.getElem?_eq_some_iff.1 (fwd_all HM.out z).hd).1
      have hbd : (knL p.seen (fwdL p)).length ≤ 64 := by rw [knL_len]; exact fwd_bound HM.out z (fwd_all HM.out z)
      have HRW : Hid (∀ y ∈ knL p.seen (fwdL p), y.1.length ≤ 4096) := fun y hy => by
        obtain ⟨u, hu, rfl⟩ := List.mem_map.1 hy
        have e1 := fwd_est (fwd_all HM.out z) hu
        have h2 := est_in HM.out (wordS p.seen u.2)
        show u.1.length ≤ 4096
        rw [e1]
        exact Nat.le_trans (nodup_len 256 _ (inc_nodup h2.1) (fun t ht => by have := h2.2 t ht; omega)) (by decide)
      obtain ⟨kg, kc, hkv, -, hkl, -, hck⟩ := kow.cellsK hpos
      subst hkv
      have HKL := Hid.of hkl
      have HCK := Hid.of hck
      have HBD := Hid.of hbd
      clear hkl hck kow hpos hbd
      have HBEST : Hid (∀ only : List Int, (∀ x : Int, 0 ≤ x → x < p.m.st → x ∈ only) → bestL p.secret only (knL p.seen (fwdL p)) = outC p) := fun only ho => fwd_best HMP.out ho
      obtain ⟨kn, HKN⟩ : ∃ kn, Hid (kn = knL p.seen (fwdL p)) := ⟨_, rfl⟩
      rw [← HKN.out] at HCK HBD HRW HBEST ⊢
      obtain ⟨x0, x1, x2, x3, x4, x5, x6⟩ := ptcell_at KP.out
      go_wp2_with fail
      clear x0 x1 x2 x3 x4 x5 x6
      obtain ⟨sn, HSN⟩ : ∃ sn : Nat, Hid (p.m.st = (sn : Int)) := ⟨p.m.st.toNat, by have := mayB_size HM.out; unfold sizeOk at this; show _ = _; omega⟩
      have hsn : sn ≤ 256 := by have := HSN.out; omega
      have KALL : Hid (Calls Tryd.prog 35 #[mval p.m P.l] W7 fun e w' => GivesO W7 (rngI sn) e w') := by
        have := lall_any sn p.m.ev p.m.starts p.m.arrows p.m.ends P.l W7 hsn
        rw [← HSN.out] at this
        exact this
      refine KALL.out.mono ?_
      rintro e W8 ⟨av, rfl, aow, hb⟩
      replace HCK := Hid.of (cellsK_below HCK.out hb HKL.out)
      replace HKL := Hid.of (Nat.lt_of_lt_of_le HKL.out hb.size)
      replace B := Hid.of (B.out.trans (hb.mono B.out.size))
      replace KP := Hid.of (KP.out.below hb KP.out.lt)
      replace eA := Hid.of (eA.out.below hb (Nat.le_refl _))
      replace lA := Hid.of (lA.out.below hb (Nat.le_refl _))
      replace RA := Hid.of (RA.out.below hb (Nat.le_refl _))
      clear hb
      obtain ⟨aa, ac, hav, aat, al1, al2, -⟩ := Own.at2 aow
      have HAA := Hid.of aat
      have HAL : Hid ((rngI sn).length ≤ maxLen) := Nat.le_trans al1 al2
      have HB2 : Hid (bestL p.secret (rngI sn) kn = outC p) := HBEST.out _ (fun x x0 x1 => by
        have e1 := HSN.out
        unfold rngI
        rw [List.mem_map]
        exact ⟨x.toNat, List.mem_range.2 (by omega), by omega⟩)
      subst hav
      clear aow aat al1 al2 KALL HBEST
      have KB : Hid (Calls Tryd.prog 36 #[.slice (some ⟨kg, 0, none⟩) kn.length kc, ptval p P, .slice aa (rngI sn).length ac, .bool bo, .slice la wo.length lk] W8 fun e w' => e = .returned (.bool true) ∧ Below W8.heap.size W8 w') := lbest_any p P kg 0 kc aa la ac lk (rngI sn) wo bo kn W8 (h.out.below B.out (Nat.le_refl _)) (Nat.le_trans HBD.out (by decide)) HKL.out HCK.out HRW.out HAA.out HAL.out lA.out lL.out (by rw [HB2.out]; exact HBO.out) (by rw [HB2.out]; exact HWO.out)
      obtain ⟨x0, x1, x2, x3, x4, x5, x6⟩ := ptcell_at KP.out
      go_wp2_with fail
      clear x0 x1 x2 x3 x4 x5 x6
      refine KB.out.mono ?_
      rintro e W9 ⟨rfl, hb⟩
      replace B := Hid.of (B.out.trans (hb.mono B.out.size))
      clear hb
      go_wp2_with fail
      go_ret
      exact ⟨rfl, B.out⟩

end Go.Proofs.YtmlkpdeidpcidaaDoor
