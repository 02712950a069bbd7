/-
  The walk of jalousieref9.Began.
  The walk of the law InitialTells.
-/
import Derived.Test.YtmlkpdeidpcidaaDoorG57
import Derived.Test.YtmlkpdeidpcidaaDoorCPIni
import Derived.Test.YtmlkpdeidpcidaaDoorCLawP
import Derived.Test.YtmlkpdeidpcidaaDoorCRBack
namespace Go.Proofs.YtmlkpdeidpcidaaDoor
open Go.RowKit
set_option linter.unusedVariables false

set_option maxRecDepth 100000 in
set_option maxHeartbeats 8000000 in
theorem rbegan_go (st : Nat) (ev : Int) (starts : List Int) (ars : List Arr) (ends seen secret : List Int) (a1 : Option Addr) (c1 : Nat) (a2 : Option Addr) (c2 : Nat) (a3 : Option Addr) (c3 : Nat) (sa : Option Addr) (sc : Nat) (ta : Option Addr) (tc : Nat) (wa : Option Addr) (wc : Nat) (word : List Int) (w : World) (h : Hid (PAt w ⟨⟨(st : Int), ev, starts, ars, ends⟩, seen, secret⟩ ⟨⟨a1, c1, a2, c2, a3, c3⟩, sa, sc, ta, tc⟩)) (hm : Hid (mayB ⟨(st : Int), ev, starts, ars, ends⟩ = true)) (hw : Hid (At w wa word)) (hwl : Hid (word.length ≤ maxLen)) :
    Calls Tryd.prog 39 #[ptval ⟨⟨(st : Int), ev, starts, ars, ends⟩, seen, secret⟩ ⟨⟨a1, c1, a2, c2, a3, c3⟩, sa, sc, ta, tc⟩, .slice wa word.length wc] w fun e w' => GivesO w (beganL ⟨⟨(st : Int), ev, starts, ars, ends⟩, seen, secret⟩ word) e w' := by
  obtain ⟨j0, ji, jz0, jz1, jz2⟩ := info_parts Tryd.infoInt
  have hsl : starts.length ≤ 256 := by
    have h1 := mayB_size hm.out
    unfold sizeOk at h1
    have h2 := may_starts hm.out
    exact nodup_len 256 _ (inc_nodup h2.1) (fun x hx => by have := h2.2 x hx; dsimp only at this h1; omega)
  have B : Hid (Below w.heap.size w (w.alloc (.cells (ptcells ⟨⟨(st : Int), ev, starts, ars, ends⟩, seen, secret⟩ ⟨⟨a1, c1, a2, c2, a3, c3⟩, sa, sc, ta, tc⟩) 44))) := (Below.refl _ _).alloc (Nat.le_refl _) _
  have K : Hid (Blk (w.alloc (.cells (ptcells ⟨⟨(st : Int), ev, starts, ars, ends⟩, seen, secret⟩ ⟨⟨a1, c1, a2, c2, a3, c3⟩, sa, sc, ta, tc⟩) 44)) w.heap.size 44 (ptcells ⟨⟨(st : Int), ev, starts, ars, ends⟩, seen, secret⟩ ⟨⟨a1, c1, a2, c2, a3, c3⟩, sa, sc, ta, tc⟩)) := Blk.new w _ _
  go_enter Tryd.func39, Tryd.ntmps39
  go_wp2_with fail
  go_loopw [5, 6] (fun v i wr => ∃ k : Nat, i = .int .i64 k ∧ k ≤ starts.length ∧ Hid (Own wr (w.heap.size + 1) v ((starts.take k).filter (fun s => decide (0 < (fromL ⟨⟨(st : Int), ev, starts, ars, ends⟩, seen, secret⟩ [s] word).length)))) ∧ Hid (Below w.heap.size w wr) ∧ Hid (Blk wr w.heap.size 44 (ptcells ⟨⟨(st : Int), ev, starts, ars, ends⟩, seen, secret⟩ ⟨⟨a1, c1, a2, c2, a3, c3⟩, sa, sc, ta, tc⟩))) (fun _ i _ => starts.length - (intOf i).toNat)
  case atStart => exact ⟨0, rfl, Nat.zero_le _, own_nil _ _, B, K⟩
  case round =>
    clear B K
    obtain ⟨k, rfl, hk, HO, B, K⟩ := hrel
    have hlo : w.heap.size + 1 ≤ wr.heap.size := K.out.lt
    obtain ⟨x0, x1, x2, x3, x4, x5, x6⟩ := ptcell_at K.out
    dsimp only at x0 x1 x2 x3 x4 x5 x6
    by_cases hlt : k < starts.length
    · rcases h.out.m.s with hnil | ⟨sb, so, hsa, hsb, hcs⟩
      · dsimp only at hnil
        rw [hnil] at hlt; simp at hlt
      dsimp only at hsa hcs
      subst hsa
      obtain ⟨x, HX⟩ : ∃ x, Hid (x = starts[k]?.getD 0) := ⟨_, rfl⟩
      have cx : wr.cell? ⟨sb, so + k, none⟩ = some (.int .i64 x) := by
        rw [HX.out, ← List.getD_eq_getElem?_getD]
        exact (B.out.cell (p := ⟨sb, so + k, none⟩) hsb).trans (hcs k hlt)
      have HTK := Hid.of (filter_take (fun s => decide (0 < (fromL ⟨⟨(st : Int), ev, starts, ars, ends⟩, seen, secret⟩ [s] word).length)) hlt HX)
      have hln : ((starts.take k).filter (fun s => decide (0 < (fromL ⟨⟨(st : Int), ev, starts, ars, ends⟩, seen, secret⟩ [s] word).length))).length ≤ 256 := Nat.le_trans (List.length_filter_le _ _) (by rw [List.length_take]; omega)
      have bA : Below wr.heap.size wr (wr.alloc (.cells #[.int .i64 x] 3)) := (Below.refl _ _).alloc (Nat.le_refl _) _
      have B1 := Hid.of (B.out.trans (bA.mono B.out.size))
      have KEY := Hid.of (rFrom_any ⟨⟨(st : Int), ev, starts, ars, ends⟩, seen, secret⟩ ⟨⟨some ⟨sb, so, none⟩, c1, a2, c2, a3, c3⟩, sa, sc, ta, tc⟩ (some ⟨wr.heap.size, 0, none⟩) wa 1 wc [x] word (wr.alloc (.cells #[.int .i64 x] 3)) (h.out.below B1.out (Nat.le_refl _)) hm.out (at_new1 wr x) (by simp) (fun h => by cases h) (hw.out.below B1.out (Nat.le_refl _)) hwl.out)
      clear hcs hsb
      obtain ⟨fr, HFR⟩ : ∃ fr, Hid (fr = fromL ⟨⟨(st : Int), ev, starts, ars, ends⟩, seen, secret⟩ [x] word) := ⟨_, rfl⟩
      rw [← HFR.out] at KEY
      rw [← HFR.out] at HTK
      go_wp2_with fail
      refine KEY.out.mono ?_
      rintro e W1 ⟨v, rfl, ov, hb⟩
      replace HO : Hid (Own W1 (w.heap.size + 1) _ _) := own_same (own_same HO.out (fun j hj => bA.block j (World.ownsRow.lt HO.out j hj).2)) (fun j hj => hb.block j (Nat.lt_of_lt_of_le (World.ownsRow.lt HO.out j hj).2 bA.size))
      replace K := Hid.of ((K.out.below bA K.out.lt).below hb (Nat.lt_of_lt_of_le K.out.lt bA.size))
      replace B := Hid.of (B1.out.trans (hb.mono B1.out.size))
      have hlo1 : w.heap.size + 1 ≤ W1.heap.size := K.out.lt
      obtain ⟨fa, fc, hfa, -, -, -⟩ := own_form2 ov
      subst hfa
      clear ov hb bA B1 KEY x0 x1 x2 x3 x4 x5 x6 cx hlo
      obtain ⟨ga, gc, hga, -, -, -⟩ := own_form2 HO.out
      subst hga
      revert HO HTK hln
      generalize (starts.take k).filter (fun s => decide (0 < (fromL ⟨⟨(st : Int), ev, starts, ars, ends⟩, seen, secret⟩ [s] word).length)) = cur
      intro hln HTK HO
      by_cases hp : 0 < fr.length
      · have dp : decide ((0 : Int) < (fr.length : Int)) = true := decide_eq_true (by omega)
        have HT2 : Hid ((starts.take (k + 1)).filter (fun s => decide (0 < (fromL ⟨⟨(st : Int), ev, starts, ars, ends⟩, seen, secret⟩ [s] word).length)) = cur ++ [x]) := by show _ = _; rw [HTK.out, if_pos (decide_eq_true hp)]
        clear HTK
        go_wp2_with (at_builtin; refine wpList_append_block _ rfl (.tmp 31) (.tmp 33) 22 rfl (w.heap.size + 1) 3 j0 (.int .i64 0) 1 8 Tryd.underlying22 ji jz0 jz1 jz2 rfl (by decide) _ _ _ rfl (World.ownsRow.alloc HO.out _) ⟨W1.heap.size, 0, none⟩ 1 1 [.int .i64 x] rfl rfl (cell_one_new _ _ _) (by intro u hu; simp at hu; subst hu; rfl) (by decide) (by unfold maxLen; omega) (by omega) (by simp; omega) ?_)
        intro v9 w9 o9 g9 n9
        obtain ⟨q1, q2, q3⟩ := own_snoc HO.out (Below.refl _ W1) hlo1 o9 g9
        have Q1 := Hid.of q1
        have Q2 := Hid.of (B.out.trans (q2.mono (Nat.le_succ _)))
        have Q3 := Hid.of (K.out.below q2 (Nat.lt_succ_self _))
        clear q1 q2 q3 o9 g9 n9
        go_wp2_with fail
        go_roundw
        case rel => exact ⟨k + 1, by go_num, by omega, (by show Own _ _ _ _; rw [HT2.out]; exact Q1.out), Q2, Q3⟩
        case measure => simp [intOf]; omega
      · have dp : decide ((0 : Int) < (fr.length : Int)) = false := decide_eq_false (by omega)
        have HT2 : Hid ((starts.take (k + 1)).filter (fun s => decide (0 < (fromL ⟨⟨(st : Int), ev, starts, ars, ends⟩, seen, secret⟩ [s] word).length)) = cur) := by show _ = _; rw [HTK.out, if_neg (by simpa using hp), List.append_nil]
        clear HTK
        go_wp2_with fail
        all_goals
          go_roundw
          case rel => exact ⟨k + 1, by go_num, by omega, (by show Own _ _ _ _; rw [HT2.out]; exact HO.out), B, K⟩
          case measure => simp [intOf]; omega
    · have hltD : decide ((k : Int) < (starts.length : Int)) = false := by simp; omega
      have HE : Hid ((starts.take k).filter (fun s => decide (0 < (fromL ⟨⟨(st : Int), ev, starts, ars, ends⟩, seen, secret⟩ [s] word).length)) = beganL ⟨⟨(st : Int), ev, starts, ars, ends⟩, seen, secret⟩ word) := by show _ = _; rw [List.take_of_length_le (by omega)]; rfl
      rw [HE.out] at HO
      go_wp2_with fail
      go_ret
      exact ⟨_, rfl, Own.low HO.out (Nat.le_succ _), B.out⟩

theorem rBegan_any (p : Plant) (P : PTL) (wa : Option Addr) (wc : Nat) (word : List Int) (w : World) (h : PAt w p P) (hm : mayB p.m = true) (hw : At w wa word) (hwl : word.length ≤ maxLen) :
    Calls Tryd.prog 39 #[ptval p P, .slice wa word.length wc] w fun e w' => GivesO w (beganL p word) e w' := by
  have hz := mayB_size hm
  unfold sizeOk at hz
  obtain ⟨⟨st, ev, starts, ars, ends⟩, seen, secret⟩ := p
  obtain ⟨⟨a1, c1, a2, c2, a3, c3⟩, sa, sc, ta, tc⟩ := P
  dsimp only at hz
  obtain ⟨s, rfl⟩ : ∃ s : Nat, st = (s : Int) := ⟨st.toNat, by omega⟩
  exact rbegan_go s ev starts ars ends seen secret a1 c1 a2 c2 a3 c3 sa sc ta tc wa wc word w (Hid.of h) (Hid.of hm) (Hid.of hw) (Hid.of hwl)

end Go.Proofs.YtmlkpdeidpcidaaDoor
namespace Go.Proofs.YtmlkpdeidpcidaaDoor
open Go.RowKit
set_option linter.unusedVariables false

set_option maxRecDepth 100000 in
set_option maxHeartbeats 8000000 in
theorem itells_any (p : Plant) (P : PTL) (wa : Option Addr) (wc : Nat) (word : List Int) (w : World) (hT : Hid (Tab w)) (h : Hid (PAt w p P)) (hw : Hid (At w wa word)) (hwl : Hid (word.length ≤ 17592186044416)) :
    Calls Tryd.prog 7 #[ptval p P, .slice wa word.length wc] w fun e w' => e = .returned (.bool true) ∧ Below w.heap.size w w' := by
  have B : Hid (Below w.heap.size w (w.alloc (.cells (ptcells p P) 44))) := (Below.refl _ _).alloc (Nat.le_refl _) _
  have KP : Hid (Blk (w.alloc (.cells (ptcells p P) 44)) w.heap.size 44 (ptcells p P)) := Blk.new w _ _
  go_enter Tryd.func7, Tryd.ntmps7
  go_wp2_with fail
  revert B KP
  generalize (w.alloc (.cells (ptcells p P) 44)) = V0
  intro B KP
  obtain ⟨el, ec, eH⟩ : ∃ l c, Hid (begOut p word = (l, c)) := ⟨_, _, rfl⟩
  refine (pBeg_any p P wa wc word _ (h.out.below B.out (Nat.le_refl _)) (hw.out.below B.out (Nat.le_refl _)) (Nat.le_trans hwl.out (by decide)) (hT.out.below B.out hT.out.lt)).mono ?_
  intro e W2 hp
  unfold ListPost at hp
  rw [eH.out] at hp
  dsimp only at hp
  obtain ⟨ea, ek, rfl, eat, eln, hb⟩ := hp
  replace B := Hid.of (B.out.trans (hb.mono B.out.size))
  replace KP := Hid.of (KP.out.below hb KP.out.lt)
  clear hb
  have eA := Hid.of eat
  have eL := Hid.of eln
  clear eat eln
  obtain ⟨x0, x1, x2, x3, x4, x5, x6⟩ := ptcell_at KP.out
  go_wp2_with fail
  clear x0 x1 x2 x3 x4 x5 x6
  obtain ⟨lb, lw, lc, lH⟩ : ∃ b l c, Hid (leakOut p (outI p) = (b, l, c)) := ⟨_, _, _, rfl⟩
  refine (pLeakI_any p P _ (h.out.below B.out (Nat.le_refl _)) (hT.out.below B.out hT.out.lt)).mono ?_
  intro e W3 hp
  unfold LeakPost at hp
  rw [lH.out] at hp
  dsimp only at hp
  obtain ⟨la, lk, rfl, lat, lln, hb⟩ := hp
  replace B := Hid.of (B.out.trans (hb.mono B.out.size))
  replace KP := Hid.of (KP.out.below hb KP.out.lt)
  replace eA := Hid.of (eA.out.below hb (Nat.le_refl _))
  clear hb
  have lA := Hid.of lat
  have lL := Hid.of lln
  clear lat lln
  obtain ⟨x0, x1, x2, x3, x4, x5, x6⟩ := ptcell_at KP.out
  go_wp2_with fail
  clear x0 x1 x2 x3 x4 x5 x6
  refine (rMayP_any p P _ (Hid.of (h.out.below B.out (Nat.le_refl _)))).mono ?_
  rintro e W4 ⟨rfl, hb⟩
  replace B := Hid.of (B.out.trans (hb.mono B.out.size))
  replace KP := Hid.of (KP.out.below hb KP.out.lt)
  replace eA := Hid.of (eA.out.below hb (Nat.le_refl _))
  replace lA := Hid.of (lA.out.below hb (Nat.le_refl _))
  clear hb
  obtain ⟨mp, HMP⟩ : ∃ mp, Hid (mayP p = mp) := ⟨_, rfl⟩
  rw [HMP.out]
  cases mp with
  | false =>
    have q1 := eH.out
    rw [begOut_bad HMP.out] at q1
    cases q1
    have q2 := lH.out
    rw [leakOut_bad HMP.out] at q2
    cases q2
    go_wp2_with fail
    go_ret
    exact ⟨rfl, B.out⟩
  | true =>
    have q2 := lH.out
    rw [leakOut_ok HMP.out] at q2
    obtain ⟨hm, z, hs, -⟩ := (mayP_iff p).1 HMP.out
    have HM := Hid.of hm
    clear hm hs
    obtain ⟨rfl, rfl, rfl⟩ : lb = (outI p).isSome ∧ lw = (outI p).getD [] ∧ lc = 0 := by cases q2; exact ⟨rfl, rfl, rfl⟩
    clear q2 lH
    obtain ⟨bo, HBO⟩ : ∃ bo, Hid (bo = (outI p).isSome) := ⟨_, rfl⟩
    obtain ⟨wo, HWO⟩ : ∃ wo, Hid (wo = (outI p).getD []) := ⟨_, rfl⟩
    rw [← HWO.out] at lA lL
    rw [← HBO.out, ← HWO.out]
    obtain ⟨x0, x1, x2, x3, x4, x5, x6⟩ := ptcell_at KP.out
    go_wp2_with fail
    clear x0 x1 x2 x3 x4 x5 x6
    refine (lseen_any p P wa wc word _ (h.out.below B.out (Nat.le_refl _)) (hw.out.below B.out (Nat.le_refl _)) hwl.out).mono ?_
    rintro e W5 ⟨rfl, hb⟩
    replace B := Hid.of (B.out.trans (hb.mono B.out.size))
    replace KP := Hid.of (KP.out.below hb KP.out.lt)
    replace eA := Hid.of (eA.out.below hb (Nat.le_refl _))
    replace lA := Hid.of (lA.out.below hb (Nat.le_refl _))
    clear hb
    cases hsw : inSeen p.seen word with
    | false =>
      have q1 := eH.out
      rw [begOut_out HMP.out hsw] at q1
      cases q1
      clear hsw eH
      obtain ⟨x0, x1, x2, x3, x4, x5, x6⟩ := ptcell_at KP.out
      go_wp2_with fail
      clear x0 x1 x2 x3 x4 x5 x6
      refine (rBack_any p P _ (h.out.below B.out (Nat.le_refl _)) HMP.out).mono ?_
      rintro e W7 ⟨kv, rfl, kow, hb⟩
      replace B := Hid.of (B.out.trans (hb.mono B.out.size))
      replace KP := Hid.of (KP.out.below hb KP.out.lt)
      replace eA := Hid.of (eA.out.below hb (Nat.le_refl _))
      replace lA := Hid.of (lA.out.below hb (Nat.le_refl _))
      clear hb
      obtain ⟨nn, hI⟩ := bwd_all HM.out z
      have hpos : 0 < (knL p.seen (bwdL p)).length := by
        rw [knL_len]
        obtain ⟨q, hq, -⟩ := hI.cov [] (by simp) (Nat.zero_le _)
        exact List.length_pos_of_mem hq
      have hbd : (knL p.seen (bwdL p)).length ≤ 64 := by rw [knL_len]; exact bwd_bound HM.out z hI
      have HRW : Hid (∀ y ∈ knL p.seen (bwdL p), y.1.length ≤ 4096) := fun y hy => by
        obtain ⟨u, hu, rfl⟩ := List.mem_map.1 hy
        have e1 := (hI.run u hu).1
        show u.1.length ≤ 4096
        rw [e1, on_val HM.out]
        exact Nat.le_trans (nodup_len 256 _ (inc_nodup (inc_flt (inc_rng9 _) _)) (fun t ht => by have := ((mem_on _ _ _).1 ht).1; omega)) (by decide)
      obtain ⟨kg, kc, hkv, -, hkl, -, hck⟩ := kow.cellsK hpos
      subst hkv
      have HKL := Hid.of hkl
      have HCK := Hid.of hck
      have HBD := Hid.of hbd
      clear hkl hck kow hpos hbd hI
      have HB2 : Hid (bestL p.secret p.m.starts (knL p.seen (bwdL p)) = outI p) := rfl
      obtain ⟨kn, HKN⟩ : ∃ kn, Hid (kn = knL p.seen (bwdL p)) := ⟨_, rfl⟩
      rw [← HKN.out] at HCK HBD HRW HB2 ⊢
      have KB : Hid (Calls Tryd.prog 36 #[.slice (some ⟨kg, 0, none⟩) kn.length kc, ptval p P, .slice P.l.a1 p.m.starts.length P.l.c1, .bool bo, .slice la wo.length lk] W7 fun e w' => e = .returned (.bool true) ∧ Below W7.heap.size W7 w') := lbest_any p P kg 0 kc P.l.a1 la P.l.c1 lk p.m.starts wo bo kn W7 (h.out.below B.out (Nat.le_refl _)) (Nat.le_trans HBD.out (by decide)) HKL.out HCK.out HRW.out (h.out.m.s.below B.out (Nat.le_refl _)) (Nat.le_trans h.out.m.s1 h.out.m.s2) lA.out lL.out (by rw [HB2.out]; exact HBO.out) (by rw [HB2.out]; exact HWO.out)
      obtain ⟨x0, x1, x2, x3, x4, x5, x6⟩ := ptcell_at KP.out
      go_wp2_with fail
      clear x0 x1 x2 x3 x4 x5 x6
      refine KB.out.mono ?_
      rintro e W9 ⟨rfl, hb⟩
      replace B := Hid.of (B.out.trans (hb.mono B.out.size))
      clear hb
      go_wp2_with fail
      go_ret
      exact ⟨rfl, B.out⟩
    | true =>
      have q1 := eH.out
      rw [begOut_ok HMP.out hsw] at q1
      obtain ⟨rfl, rfl⟩ : el = beganL p word ∧ ec = 0 := by cases q1; exact ⟨rfl, rfl⟩
      clear q1 hsw eH
      obtain ⟨es, HES⟩ : ∃ es, Hid (es = beganL p word) := ⟨_, rfl⟩
      rw [← HES.out] at eA eL ⊢
      obtain ⟨x0, x1, x2, x3, x4, x5, x6⟩ := ptcell_at KP.out
      go_wp2_with fail
      clear x0 x1 x2 x3 x4 x5 x6
      refine (rBegan_any p P wa wc word _ (h.out.below B.out (Nat.le_refl _)) HM.out (hw.out.below B.out (Nat.le_refl _)) (Nat.le_trans hwl.out (by decide))).mono ?_
      rintro e W6 ⟨rv, rfl, row, hb⟩
      replace B := Hid.of (B.out.trans (hb.mono B.out.size))
      replace KP := Hid.of (KP.out.below hb KP.out.lt)
      replace eA := Hid.of (eA.out.below hb (Nat.le_refl _))
      replace lA := Hid.of (lA.out.below hb (Nat.le_refl _))
      clear hb
      rw [← HES.out] at row
      obtain ⟨ra, rc, hrv, rat, rl1, rl2, -⟩ := Own.at2 row
      subst hrv
      have RA := Hid.of rat
      clear row rat rl1 rl2
      have KS := Hid.of (same_any ea ra ek rc es es _ eA.out RA.out eL.out eL.out)
      have HSS : Hid (sameB es es = true) := by show _ = _; simp [sameB]
      rw [HSS.out] at KS
      go_wp2_with fail
      refine KS.out.mono ?_
      rintro e W6b ⟨rfl, qd, hqd⟩
      have hb : Below W6.heap.size W6 W6b := by rw [hqd]; exact below_drewN (Below.refl _ _) qd
      replace B := Hid.of (B.out.trans (hb.mono B.out.size))
      replace KP := Hid.of (KP.out.below hb KP.out.lt)
      replace eA := Hid.of (eA.out.below hb (Nat.le_refl _))
      replace lA := Hid.of (lA.out.below hb (Nat.le_refl _))
      replace RA := Hid.of (RA.out.below hb (Nat.le_refl _))
      clear hb
      clear hqd KS
      obtain ⟨x0, x1, x2, x3, x4, x5, x6⟩ := ptcell_at KP.out
      go_wp2_with fail
      clear x0 x1 x2 x3 x4 x5 x6
      refine (rBack_any p P _ (h.out.below B.out (Nat.le_refl _)) HMP.out).mono ?_
      rintro e W7 ⟨kv, rfl, kow, hb⟩
      replace B := Hid.of (B.out.trans (hb.mono B.out.size))
      replace KP := Hid.of (KP.out.below hb KP.out.lt)
      replace eA := Hid.of (eA.out.below hb (Nat.le_refl _))
      replace lA := Hid.of (lA.out.below hb (Nat.le_refl _))
      replace RA := Hid.of (RA.out.below hb (Nat.le_refl _))
      clear hb
      obtain ⟨nn, hI⟩ := bwd_all HM.out z
      have hpos : 0 < (knL p.seen (bwdL p)).length := by
        rw [knL_len]
        obtain ⟨q, hq, -⟩ := hI.cov [] (by simp) (Nat.zero_le _)
        exact List.length_pos_of_mem hq
      have hbd : (knL p.seen (bwdL p)).length ≤ 64 := by rw [knL_len]; exact bwd_bound HM.out z hI
      have HRW : Hid (∀ y ∈ knL p.seen (bwdL p), y.1.length ≤ 4096) := fun y hy => by
        obtain ⟨u, hu, rfl⟩ := List.mem_map.1 hy
        have e1 := (hI.run u hu).1
        show u.1.length ≤ 4096
        rw [e1, on_val HM.out]
        exact Nat.le_trans (nodup_len 256 _ (inc_nodup (inc_flt (inc_rng9 _) _)) (fun t ht => by have := ((mem_on _ _ _).1 ht).1; omega)) (by decide)
      obtain ⟨kg, kc, hkv, -, hkl, -, hck⟩ := kow.cellsK hpos
      subst hkv
      have HKL := Hid.of hkl
      have HCK := Hid.of hck
      have HBD := Hid.of hbd
      clear hkl hck kow hpos hbd hI
      have HB2 : Hid (bestL p.secret p.m.starts (knL p.seen (bwdL p)) = outI p) := rfl
      obtain ⟨kn, HKN⟩ : ∃ kn, Hid (kn = knL p.seen (bwdL p)) := ⟨_, rfl⟩
      rw [← HKN.out] at HCK HBD HRW HB2 ⊢
      have KB : Hid (Calls Tryd.prog 36 #[.slice (some ⟨kg, 0, none⟩) kn.length kc, ptval p P, .slice P.l.a1 p.m.starts.length P.l.c1, .bool bo, .slice la wo.length lk] W7 fun e w' => e = .returned (.bool true) ∧ Below W7.heap.size W7 w') := lbest_any p P kg 0 kc P.l.a1 la P.l.c1 lk p.m.starts wo bo kn W7 (h.out.below B.out (Nat.le_refl _)) (Nat.le_trans HBD.out (by decide)) HKL.out HCK.out HRW.out (h.out.m.s.below B.out (Nat.le_refl _)) (Nat.le_trans h.out.m.s1 h.out.m.s2) lA.out lL.out (by rw [HB2.out]; exact HBO.out) (by rw [HB2.out]; exact HWO.out)
      obtain ⟨x0, x1, x2, x3, x4, x5, x6⟩ := ptcell_at KP.out
      go_wp2_with fail
      clear x0 x1 x2 x3 x4 x5 x6
      refine KB.out.mono ?_
      rintro e W9 ⟨rfl, hb⟩
      replace B := Hid.of (B.out.trans (hb.mono B.out.size))
      clear hb
      go_wp2_with fail
      go_ret
      exact ⟨rfl, B.out⟩

end Go.Proofs.YtmlkpdeidpcidaaDoor
