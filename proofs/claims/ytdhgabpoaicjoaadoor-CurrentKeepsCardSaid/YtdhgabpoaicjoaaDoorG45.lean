/-
  The walk of current.Leak.
  The walk of the law CurrentTells.
-/
import Derived.Test.YtdhgabpoaicjoaaDoorG36
import Derived.Test.YtdhgabpoaicjoaaDoorG10
import Derived.Test.YtdhgabpoaicjoaaDoorG38
import Derived.Test.YtdhgabpoaicjoaaDoorG39
namespace Go.Proofs.YtdhgabpoaicjoaaDoor
open Go.RowKit
set_option linter.unusedVariables false

theorem cleast_out (p : Plant) (Pl : ML) (sa : Option Addr) (sc : Nat) (ta : Option Addr) (tc : Nat) (hp : Hid (mayP p = true)) (S0 : Nat → Nat) (hr0 : Hid (RepI S0 (wideL p.m.arrows p.seen p.m.starts))) (T : Nat → Nat) (hRT : Hid (Rep T p.secret)) (pl pp : Nat) (L0 : LB) (w : World) (hT : Hid (Tab w)) (hL : Hid (CL w pl pp L0 p ⟨Pl, sa, sc, ta, tc⟩)) :
    Calls Tryd.prog 85 #[sval S0, .slice sa p.seen.length sc, cleadV pl pp, sval T] w fun e w' => ∃ va vc n bl, e = .returned (.tuple #[.slice va n vc, .bool bl]) ∧ n = ((outC p).getD []).length ∧ bl = (outC p).isSome ∧ At w' va ((outC p).getD []) ∧ ((outC p).getD []).length ≤ maxLen ∧ Below w.heap.size w w' := by
  refine (cleast_any p Pl sa sc ta tc hp S0 hr0 T hRT pl pp L0 w hT hL).mono ?_
  intro e w' hp
  unfold CLeastPost at hp
  cases ho : outC p with
  | none =>
    rw [ho] at hp
    obtain ⟨rfl, hb⟩ := hp
    exact ⟨none, 0, 0, false, rfl, rfl, rfl, .inl rfl, Nat.zero_le _, hb⟩
  | some u =>
    rw [ho] at hp
    obtain ⟨v, rfl, hv, hb⟩ := hp
    obtain ⟨va, vc, rfl, h1, h2⟩ := Own.at hv
    exact ⟨va, vc, _, true, rfl, rfl, rfl, h1, h2, hb⟩

set_option maxRecDepth 100000 in
set_option maxHeartbeats 4000000 in
theorem leakC_bad (p : Plant) (P : PTL) (w : World) (h : Hid (PAt w p P)) (hp : Hid (mayP p = false)) :
    Calls Tryd.prog 37 #[ptval p P] w fun e w' => LeakPost w (leakOut p (outC p)) e w' := by
  have B : Hid (Below w.heap.size w (w.alloc (.cells (ptcells p P) 50))) := (Below.refl _ _).alloc (Nat.le_refl _) _
  have KP : Hid (Blk (w.alloc (.cells (ptcells p P) 50)) w.heap.size 50 (ptcells p P)) := Blk.new w _ _
  go_enter Tryd.func37, Tryd.ntmps37
  obtain ⟨x0, x1, x2, x3, x4, x5, x6⟩ := ptcell_at KP.out
  go_wp2_with fail
  clear x0 x1 x2 x3 x4 x5 x6
  revert B KP
  generalize (w.alloc (.cells (ptcells p P) 50)) = V0
  intro B KP
  refine (cwatch_bad p P V0 (Hid.of (h.out.below B.out (Nat.le_refl _))) hp).mono ?_
  rintro e V1 ⟨rfl, hb⟩
  replace B := Hid.of (B.out.trans (hb.mono B.out.size))
  clear hb KP
  have B2 : Hid (Below w.heap.size w (V1.alloc (.cells zs4 65))) := B.out.alloc B.out.size _
  clear B
  go_wp2_with fail
  refine bodyPost_ret (v := .tuple #[.bool false, .slice none 0 0, .int .i64 2]) (by simp [results, go_sem]) rfl ?_
  rw [leakOut_bad hp.out]
  exact ⟨none, 0, rfl, .inl rfl, Nat.zero_le _, B2.out⟩

set_option maxRecDepth 100000 in
set_option maxHeartbeats 16000000 in
theorem leakC_ok (p : Plant) (Pl : ML) (sa : Option Addr) (sc : Nat) (ta : Option Addr) (tc : Nat) (w : World) (h : Hid (PAt w p ⟨Pl, sa, sc, ta, tc⟩)) (hT : Hid (Tab w)) (hp : Hid (mayP p = true)) :
    Calls Tryd.prog 37 #[ptval p ⟨Pl, sa, sc, ta, tc⟩] w fun e w' => LeakPost w (leakOut p (outC p)) e w' := by
  have sbd : Hid (∀ x ∈ p.secret, 0 ≤ x ∧ x < 256) := fun x hx => by
    obtain ⟨hm, z6, -, hr⟩ := (mayP_iff p).1 hp.out
    have hz := mayB_size hm
    unfold sizeOk at hz
    have := ((rowB_iff _ (by omega) _).1 hr).2 x hx
    omega
  have HRT : Hid (Rep (ofS p.secret) p.secret) := by
    have := rep_of sbd.out p.secret.length
    rwa [List.take_of_length_le (Nat.le_refl _)] at this
  have B : Hid (Below w.heap.size w (w.alloc (.cells (ptcells p ⟨Pl, sa, sc, ta, tc⟩) 50))) := (Below.refl _ _).alloc (Nat.le_refl _) _
  have KP : Hid (Blk (w.alloc (.cells (ptcells p ⟨Pl, sa, sc, ta, tc⟩) 50)) w.heap.size 50 (ptcells p ⟨Pl, sa, sc, ta, tc⟩)) := Blk.new w _ _
  go_enter Tryd.func37, Tryd.ntmps37
  obtain ⟨x0, x1, x2, x3, x4, x5, x6⟩ := ptcell_at KP.out
  go_wp2_with fail
  clear x0 x1 x2 x3 x4 x5 x6
  revert B KP
  generalize (w.alloc (.cells (ptcells p ⟨Pl, sa, sc, ta, tc⟩) 50)) = V0
  intro B KP
  refine (cwatch_ok p ⟨Pl, sa, sc, ta, tc⟩ V0 (Hid.of (h.out.below B.out (Nat.le_refl _))) (Hid.of (hT.out.below B.out hT.out.lt)) hp).mono ?_
  rintro e V1 ⟨pl, pp, L0, rfl, cl, hb⟩
  replace B := Hid.of (B.out.trans (hb.mono B.out.size))
  replace KP := Hid.of (KP.out.below hb KP.out.lt)
  have HCL := Hid.of cl
  clear hb cl
  obtain ⟨Q, HQ⟩ : ∃ Q, Hid (Q = ofS (wideL p.m.arrows p.seen p.m.starts)) := ⟨_, rfl⟩
  have HRQ : Hid (RepI Q (wideL p.m.arrows p.seen p.m.starts)) := by rw [HQ.out]; exact rep_start hp.out
  rw [← HQ.out]
  have BV : Hid (Below V1.heap.size V1 (V1.alloc (.cells (scells Q) 65))) := (Below.refl _ _).alloc (Nat.le_refl _) _
  have KS : Hid (SB (V1.alloc (.cells (scells Q) 65)) V1.heap.size Q) := Blk.new V1 _ _
  obtain ⟨x0, x1, x2, x3, x4, x5, x6⟩ := ptcell_at (KP.out.below BV.out KP.out.lt)
  obtain ⟨y0, y1, y2, y3⟩ := SB.cells KS.out
  go_wp2_with fail
  clear x0 x1 x2 x3 x4 x5 x6 y0 y1 y2 y3
  revert BV KS
  generalize V1.alloc (.cells (scells Q) 65) = V2
  intro BV KS
  have SA : Hid (∀ W, Blk W w.heap.size 50 (ptcells p ⟨Pl, sa, sc, ta, tc⟩) → SB W V1.heap.size Q → W.cell? ⟨V1.heap.size, 0, none⟩ = some (.int .u64 (Q 0)) ∧ W.cell? ⟨V1.heap.size, 1, none⟩ = some (.int .u64 (Q 1)) ∧ W.cell? ⟨V1.heap.size, 2, none⟩ = some (.int .u64 (Q 2)) ∧ W.cell? ⟨V1.heap.size, 3, none⟩ = some (.int .u64 (Q 3)) ∧ W.cell? ⟨w.heap.size, 5, none⟩ = some (.slice sa p.seen.length sc) ∧ W.cell? ⟨w.heap.size, 6, none⟩ = some (.slice ta p.secret.length tc)) := fun W h1 h2 => by
    obtain ⟨x0, x1, x2, x3, x4, x5, x6⟩ := ptcell_at h1
    obtain ⟨y0, y1, y2, y3⟩ := SB.cells h2
    exact ⟨y0, y1, y2, y3, x5, x6⟩
  refine wp_region_held_drew (S := fun w' => w'.cell? ⟨V1.heap.size, 0, none⟩ = some (.int .u64 (Q 0)) ∧ w'.cell? ⟨V1.heap.size, 1, none⟩ = some (.int .u64 (Q 1)) ∧ w'.cell? ⟨V1.heap.size, 2, none⟩ = some (.int .u64 (Q 2)) ∧ w'.cell? ⟨V1.heap.size, 3, none⟩ = some (.int .u64 (Q 3)) ∧ w'.cell? ⟨w.heap.size, 5, none⟩ = some (.slice sa p.seen.length sc) ∧ w'.cell? ⟨w.heap.size, 6, none⟩ = some (.slice ta p.secret.length tc)) (by kernel_rfl) (SA.out _ (Blk.drew (KP.out.below BV.out KP.out.lt)) (Blk.drew KS.out)) (fun hS => ?_)
  replace BV : Hid (Below V1.heap.size V1 V2.drew) := BV.out.drew
  replace KS : Hid (SB V2.drew V1.heap.size Q) := Blk.drew KS.out
  revert hS BV KS
  generalize V2.drew = Y0
  intro hS BV KS
  refine wpAnyH_take (i := 0) (v := sval Q) rfl (by kernel_rfl) (by kernel_rfl) (by kernel_rfl) (fun _ _ _ h => h) (Or.inl ⟨by kernel_rfl, fun w' hw' => by obtain ⟨q0, q1, q2, q3, q4, q5⟩ := hw'; go_simp⟩) hS ?_
  refine wpAnyH_take (i := 1) (v := .pointer (some ⟨w.heap.size, 5, none⟩)) rfl (by kernel_rfl) (by kernel_rfl) (by kernel_rfl) (fun _ _ _ h => h) (Or.inl ⟨by kernel_rfl, fun w' hw' => by obtain ⟨q0, q1, q2, q3, q4, q5⟩ := hw'; go_simp⟩) hS ?_
  refine wpAnyH_take (i := 2) (v := .slice sa p.seen.length sc) rfl (by kernel_rfl) (by kernel_rfl) (by kernel_rfl) (fun _ _ _ h => h) (Or.inl ⟨by kernel_rfl, fun w' hw' => by obtain ⟨q0, q1, q2, q3, q4, q5⟩ := hw'; go_simp⟩) hS ?_
  refine wpAnyH_take (i := 3) (v := cleadV pl pp) rfl (by kernel_rfl) (by kernel_rfl) (by kernel_rfl) (fun _ _ _ h => h) (Or.inl ⟨by kernel_rfl, fun w' hw' => by obtain ⟨q0, q1, q2, q3, q4, q5⟩ := hw'; go_simp⟩) hS ?_
  refine wpAnyH_take (i := 4) (v := .pointer (some ⟨w.heap.size, 6, none⟩)) rfl (by kernel_rfl) (by kernel_rfl) (by kernel_rfl) (fun _ _ _ h => h) (Or.inl ⟨by kernel_rfl, fun w' hw' => by obtain ⟨q0, q1, q2, q3, q4, q5⟩ := hw'; go_simp⟩) hS ?_
  refine wpAnyH_take (i := 5) (v := .slice ta p.secret.length tc) rfl (by kernel_rfl) (by kernel_rfl) (by kernel_rfl) (fun _ _ _ h => h) (Or.inl ⟨by kernel_rfl, fun w' hw' => by obtain ⟨q0, q1, q2, q3, q4, q5⟩ := hw'; go_simp⟩) hS ?_
  simp only [Act.put, List.setIfInBounds_toArray]
  refine wpAnyH_ready (rs := [6]) (by kernel_rfl) (by simp) ?_
  refine AllReadyH.cons rfl (fun K' hK' => ?_) AllReadyH.nil
  clear hS
  go_simp
  refine (of_any ta tc p.secret Y0 (h.out.t.at_.below (B.out.trans (BV.out.mono B.out.size)) (Nat.le_refl _)) h.out.t.len sbd.out).mono ?_
  rintro e Y1 ⟨rfl, hb⟩
  replace BV := Hid.of (BV.out.trans (hb.mono BV.out.size))
  replace KS := Hid.of (KS.out.below hb KS.out.lt)
  refine hK'.out _ _ (SA.out _ (KP.out.below BV.out KP.out.lt) KS.out) (fun hS => ?_)
  clear hK' K' hb
  refine wpAnyH_ready (rs := [7]) (by kernel_rfl) (by simp) ?_
  refine AllReadyH.cons rfl (fun K' hK' => ?_) AllReadyH.nil
  clear hS
  go_simp
  refine (cleast_out p Pl sa sc ta tc hp Q HRQ (ofS p.secret) HRT pl pp L0 Y1 (Hid.of (hT.out.below (B.out.trans (BV.out.mono B.out.size)) hT.out.lt)) (Hid.of (HCL.out.kept BV.out))).mono ?_
  rintro e Y2 ⟨va, vc, n, bl, rfl, hn, hbl, hat, hmx, hb⟩
  replace BV := Hid.of (BV.out.trans (hb.mono BV.out.size))
  replace KS := Hid.of (KS.out.below hb KS.out.lt)
  have HN := Hid.of hn
  have HBL := Hid.of hbl
  have HAT := Hid.of hat
  have HMX := Hid.of hmx
  refine hK'.out _ _ (SA.out _ (KP.out.below BV.out KP.out.lt) KS.out) (fun hS => ?_)
  clear hK' K' hb hn hbl hat hmx
  refine wpAnyH_take (i := 8) (v := .tuple #[.slice va n vc, .bool bl]) rfl (by kernel_rfl) (by kernel_rfl) (by kernel_rfl) (fun _ _ _ h => h) (Or.inl ⟨by kernel_rfl, fun w' hw' => by obtain ⟨q0, q1, q2, q3, q4, q5⟩ := hw'; go_simp⟩) hS ?_
  refine wpAnyH_take (i := 9) (v := .slice va n vc) rfl (by kernel_rfl) (by kernel_rfl) (by kernel_rfl) (fun _ _ _ h => h) (Or.inl ⟨by kernel_rfl, fun w' hw' => by obtain ⟨q0, q1, q2, q3, q4, q5⟩ := hw'; go_simp⟩) hS ?_
  refine wpAnyH_take (i := 10) (v := .bool bl) rfl (by kernel_rfl) (by kernel_rfl) (by kernel_rfl) (fun _ _ _ h => h) (Or.inl ⟨by kernel_rfl, fun w' hw' => by obtain ⟨q0, q1, q2, q3, q4, q5⟩ := hw'; go_simp⟩) hS ?_
  refine wpAnyH_take (i := 11) (v := .slice va n vc) rfl (by kernel_rfl) (by kernel_rfl) (by kernel_rfl) (fun _ _ _ h => h) (Or.inl ⟨by kernel_rfl, fun w' hw' => by obtain ⟨q0, q1, q2, q3, q4, q5⟩ := hw'; go_simp⟩) hS ?_
  refine wpAnyH_take (i := 12) (v := .bool bl) rfl (by kernel_rfl) (by kernel_rfl) (by kernel_rfl) (fun _ _ _ h => h) (Or.inl ⟨by kernel_rfl, fun w' hw' => by obtain ⟨q0, q1, q2, q3, q4, q5⟩ := hw'; go_simp⟩) hS ?_
  refine wpAnyH_done (by kernel_rfl) ?_ _
  clear hS
  go_wp2_with fail
  refine bodyPost_ret (v := .tuple #[.bool bl, .slice va n vc, .int .i64 0]) (by simp [results, go_sem]) rfl ?_
  rw [leakOut_ok hp.out, HBL.out, HN.out]
  exact ⟨va, vc, rfl, HAT.out, HMX.out, B.out.trans (BV.out.mono B.out.size)⟩

theorem pLeakC_any (p : Plant) (P : PTL) (w : World) (h : PAt w p P) (hT : Tab w) :
    Calls Tryd.prog 37 #[ptval p P] w fun e w' => LeakPost w (leakOut p (outC p)) e w' := by
  cases hp : mayP p with
  | false => exact leakC_bad p P w (Hid.of h) (Hid.of hp)
  | true =>
    obtain ⟨Pl, sa, sc, ta, tc⟩ := P
    exact leakC_ok p Pl sa sc ta tc w (Hid.of h) (Hid.of hT) (Hid.of hp)

end Go.Proofs.YtdhgabpoaicjoaaDoor
namespace Go.Proofs.YtdhgabpoaicjoaaDoor
open Go.RowKit
set_option linter.unusedVariables false

set_option maxRecDepth 100000 in
set_option maxHeartbeats 8000000 in
theorem ctells_any (p : Plant) (P : PTL) (wa : Option Addr) (wc : Nat) (word : List Int) (w : World) (hT : Hid (Tab w)) (h : Hid (PAt w p P)) (hw : Hid (At w wa word)) (hwl : Hid (word.length ≤ 17592186044416)) :
    Calls Tryd.prog 8 #[ptval p P, .slice wa word.length wc] w fun e w' => e = .returned (.bool true) ∧ Below w.heap.size w w' := by
  have B : Hid (Below w.heap.size w (w.alloc (.cells (ptcells p P) 50))) := (Below.refl _ _).alloc (Nat.le_refl _) _
  have KP : Hid (Blk (w.alloc (.cells (ptcells p P) 50)) w.heap.size 50 (ptcells p P)) := Blk.new w _ _
  go_enter Tryd.func8, Tryd.ntmps8
  go_wp2_with fail
  revert B KP
  generalize (w.alloc (.cells (ptcells p P) 50)) = V0
  intro B KP
  refine (pCurMay_any p P _ (h.out.below B.out (Nat.le_refl _))).mono ?_
  rintro e W1 ⟨rfl, hb⟩
  replace B := Hid.of (B.out.trans (hb.mono B.out.size))
  replace KP := Hid.of (KP.out.below hb KP.out.lt)
  clear hb
  obtain ⟨mp, HMP⟩ : ∃ mp, Hid (mayP p = mp) := ⟨_, rfl⟩
  rw [HMP.out]
  obtain ⟨x0, x1, x2, x3, x4, x5, x6⟩ := ptcell_at KP.out
  go_wp2_with fail
  clear x0 x1 x2 x3 x4 x5 x6
  obtain ⟨el, ec, eH⟩ : ∃ l c, Hid (estOut p word = (l, c)) := ⟨_, _, rfl⟩
  refine (pEst_any p P wa wc word _ (h.out.below B.out (Nat.le_refl _)) (hw.out.below B.out (Nat.le_refl _)) (Nat.le_trans hwl.out (by decide)) (hT.out.below B.out hT.out.lt)).mono ?_
  intro e W2 hp
  unfold ListPost at hp
  rw [eH.out] at hp
  dsimp only at hp
  obtain ⟨ea, ek, rfl, eat, eln, hb⟩ := hp
  replace B := Hid.of (B.out.trans (hb.mono B.out.size))
  replace KP := Hid.of (KP.out.below hb KP.out.lt)
  clear hb
  have eA := Hid.of eat
  have eL := Hid.of eln
  clear eat eln
  obtain ⟨x0, x1, x2, x3, x4, x5, x6⟩ := ptcell_at KP.out
  go_wp2_with fail
  clear x0 x1 x2 x3 x4 x5 x6
  obtain ⟨lb, lw, lc, lH⟩ : ∃ b l c, Hid (leakOut p (outC p) = (b, l, c)) := ⟨_, _, _, rfl⟩
  refine (pLeakC_any p P _ (h.out.below B.out (Nat.le_refl _)) (hT.out.below B.out hT.out.lt)).mono ?_
  intro e W3 hp
  unfold LeakPost at hp
  rw [lH.out] at hp
  dsimp only at hp
  obtain ⟨la, lk, rfl, lat, lln, hb⟩ := hp
  replace B := Hid.of (B.out.trans (hb.mono B.out.size))
  replace KP := Hid.of (KP.out.below hb KP.out.lt)
  replace eA := Hid.of (eA.out.below hb (Nat.le_refl _))
  clear hb
  have lA := Hid.of lat
  have lL := Hid.of lln
  clear lat lln
  obtain ⟨x0, x1, x2, x3, x4, x5, x6⟩ := ptcell_at KP.out
  go_wp2_with fail
  clear x0 x1 x2 x3 x4 x5 x6
  refine (rMayP_any p P _ (Hid.of (h.out.below B.out (Nat.le_refl _)))).mono ?_
  rintro e W4 ⟨rfl, hb⟩
  replace B := Hid.of (B.out.trans (hb.mono B.out.size))
  replace KP := Hid.of (KP.out.below hb KP.out.lt)
  replace eA := Hid.of (eA.out.below hb (Nat.le_refl _))
  replace lA := Hid.of (lA.out.below hb (Nat.le_refl _))
  clear hb
  rw [HMP.out]
  cases mp with
  | false =>
    have q1 := eH.out
    rw [estOut_bad HMP.out] at q1
    cases q1
    have q2 := lH.out
    rw [leakOut_bad HMP.out] at q2
    cases q2
    have d : (false != false) = false := rfl
    go_wp2_with fail
    go_ret
    exact ⟨rfl, B.out⟩
  | true =>
    have q2 := lH.out
    rw [leakOut_ok HMP.out] at q2
    obtain ⟨hm, z, hs, -⟩ := (mayP_iff p).1 HMP.out
    have HM := Hid.of hm
    clear hm hs
    have d : (true != true) = false := rfl
    obtain ⟨rfl, rfl, rfl⟩ : lb = (outC p).isSome ∧ lw = (outC p).getD [] ∧ lc = 0 := by cases q2; exact ⟨rfl, rfl, rfl⟩
    clear q2 lH
    obtain ⟨bo, HBO⟩ : ∃ bo, Hid (bo = (outC p).isSome) := ⟨_, rfl⟩
    obtain ⟨wo, HWO⟩ : ∃ wo, Hid (wo = (outC p).getD []) := ⟨_, rfl⟩
    rw [← HWO.out] at lA lL
    rw [← HBO.out, ← HWO.out]
    obtain ⟨x0, x1, x2, x3, x4, x5, x6⟩ := ptcell_at KP.out
    go_wp2_with fail
    clear x0 x1 x2 x3 x4 x5 x6
    refine (lseen_any p P wa wc word _ (h.out.below B.out (Nat.le_refl _)) (hw.out.below B.out (Nat.le_refl _)) hwl.out).mono ?_
    rintro e W5 ⟨rfl, hb⟩
    replace B := Hid.of (B.out.trans (hb.mono B.out.size))
    replace KP := Hid.of (KP.out.below hb KP.out.lt)
    replace eA := Hid.of (eA.out.below hb (Nat.le_refl _))
    replace lA := Hid.of (lA.out.below hb (Nat.le_refl _))
    clear hb
    cases hsw : inSeen p.seen word with
    | false =>
      have q1 := eH.out
      rw [estOut_out HMP.out hsw] at q1
      cases q1
      clear hsw eH
      obtain ⟨x0, x1, x2, x3, x4, x5, x6⟩ := ptcell_at KP.out
      go_wp2_with fail
      clear x0 x1 x2 x3 x4 x5 x6
      refine (rFwd_any p P _ (h.out.below B.out (Nat.le_refl _)) HMP.out).mono ?_
      rintro e W7 ⟨kv, rfl, kow, hb⟩
      replace B := Hid.of (B.out.trans (hb.mono B.out.size))
      replace KP := Hid.of (KP.out.below hb KP.out.lt)
      replace eA := Hid.of (eA.out.below hb (Nat.le_refl _))
      replace lA := Hid.of (lA.out.below hb (Nat.le_refl _))
      clear hb
      have hpos : 0 < (knL p.seen (fwdL p)).length := by
        rw [knL_len]
        exact (List.getElem?_eq_some_iff.1 (fwd_all HM.out z).hd).1
      have hbd : (knL p.seen (fwdL p)).length ≤ 64 := by rw [knL_len]; exact fwd_bound HM.out z (fwd_all HM.out z)
      have HRW : Hid (∀ y ∈ knL p.seen (fwdL p), y.1.length ≤ 4096) := fun y hy => by
        obtain ⟨u, hu, rfl⟩ := List.mem_map.1 hy
        have e1 := fwd_est (fwd_all HM.out z) hu
        have h2 := est_in HM.out (wordS p.seen u.2)
        show u.1.length ≤ 4096
        rw [e1]
        exact Nat.le_trans (nodup_len 256 _ (inc_nodup h2.1) (fun t ht => by have := h2.2 t ht; omega)) (by decide)
      obtain ⟨kg, kc, hkv, -, hkl, -, hck⟩ := kow.cellsK hpos
      subst hkv
      have HKL := Hid.of hkl
      have HCK := Hid.of hck
      have HBD := Hid.of hbd
      clear hkl hck kow hpos hbd
      have HBEST : Hid (∀ only : List Int, (∀ x : Int, 0 ≤ x → x < p.m.st → x ∈ only) → bestL p.secret only (knL p.seen (fwdL p)) = outC p) := fun only ho => fwd_best HMP.out ho
      obtain ⟨kn, HKN⟩ : ∃ kn, Hid (kn = knL p.seen (fwdL p)) := ⟨_, rfl⟩
      rw [← HKN.out] at HCK HBD HRW HBEST ⊢
      obtain ⟨x0, x1, x2, x3, x4, x5, x6⟩ := ptcell_at KP.out
      go_wp2_with fail
      clear x0 x1 x2 x3 x4 x5 x6
      obtain ⟨sn, HSN⟩ : ∃ sn : Nat, Hid (p.m.st = (sn : Int)) := ⟨p.m.st.toNat, by have := mayB_size HM.out; unfold sizeOk at this; show _ = _; omega⟩
      have hsn : sn ≤ 256 := by have := HSN.out; omega
      have KALL : Hid (Calls Tryd.prog 42 #[mval p.m P.l] W7 fun e w' => GivesO W7 (rngI sn) e w') := by
        have := lall_any sn p.m.ev p.m.starts p.m.arrows p.m.ends P.l W7 hsn
        rw [← HSN.out] at this
        exact this
      refine KALL.out.mono ?_
      rintro e W8 ⟨av, rfl, aow, hb⟩
      replace HCK := Hid.of (cellsK_below HCK.out hb HKL.out)
      replace HKL := Hid.of (Nat.lt_of_lt_of_le HKL.out hb.size)
      replace B := Hid.of (B.out.trans (hb.mono B.out.size))
      replace KP := Hid.of (KP.out.below hb KP.out.lt)
      replace eA := Hid.of (eA.out.below hb (Nat.le_refl _))
      replace lA := Hid.of (lA.out.below hb (Nat.le_refl _))
      clear hb
      obtain ⟨aa, ac, hav, aat, al1, al2, -⟩ := Own.at2 aow
      have HAA := Hid.of aat
      have HAL : Hid ((rngI sn).length ≤ maxLen) := Nat.le_trans al1 al2
      have HB2 : Hid (bestL p.secret (rngI sn) kn = outC p) := HBEST.out _ (fun x x0 x1 => by
        have e1 := HSN.out
        unfold rngI
        rw [List.mem_map]
        exact ⟨x.toNat, List.mem_range.2 (by omega), by omega⟩)
      subst hav
      clear aow aat al1 al2 KALL HBEST
      have KB : Hid (Calls Tryd.prog 43 #[.slice (some ⟨kg, 0, none⟩) kn.length kc, ptval p P, .slice aa (rngI sn).length ac, .bool bo, .slice la wo.length lk] W8 fun e w' => e = .returned (.bool true) ∧ Below W8.heap.size W8 w') := lbest_any p P kg 0 kc aa la ac lk (rngI sn) wo bo kn W8 (h.out.below B.out (Nat.le_refl _)) (Nat.le_trans HBD.out (by decide)) HKL.out HCK.out HRW.out HAA.out HAL.out lA.out lL.out (by rw [HB2.out]; exact HBO.out) (by rw [HB2.out]; exact HWO.out)
      obtain ⟨x0, x1, x2, x3, x4, x5, x6⟩ := ptcell_at KP.out
      go_wp2_with fail
      clear x0 x1 x2 x3 x4 x5 x6
      refine KB.out.mono ?_
      rintro e W9 ⟨rfl, hb⟩
      replace B := Hid.of (B.out.trans (hb.mono B.out.size))
      clear hb
      go_wp2_with fail
      go_ret
      exact ⟨rfl, B.out⟩
    | true =>
      have q1 := eH.out
      rw [estOut_ok HMP.out hsw] at q1
      obtain ⟨rfl, rfl⟩ : el = estL p word ∧ ec = 0 := by cases q1; exact ⟨rfl, rfl⟩
      clear q1 hsw eH
      obtain ⟨es, HES⟩ : ∃ es, Hid (es = estL p word) := ⟨_, rfl⟩
      rw [← HES.out] at eA eL ⊢
      obtain ⟨x0, x1, x2, x3, x4, x5, x6⟩ := ptcell_at KP.out
      go_wp2_with fail
      clear x0 x1 x2 x3 x4 x5 x6
      refine (rEst_any p P wa wc word _ (h.out.below B.out (Nat.le_refl _)) HM.out (hw.out.below B.out (Nat.le_refl _)) (Nat.le_trans hwl.out (by decide))).mono ?_
      rintro e W6 ⟨rv, rfl, row, hb⟩
      replace B := Hid.of (B.out.trans (hb.mono B.out.size))
      replace KP := Hid.of (KP.out.below hb KP.out.lt)
      replace eA := Hid.of (eA.out.below hb (Nat.le_refl _))
      replace lA := Hid.of (lA.out.below hb (Nat.le_refl _))
      clear hb
      rw [← HES.out] at row
      obtain ⟨ra, rc, hrv, rat, rl1, rl2, -⟩ := Own.at2 row
      subst hrv
      have RA := Hid.of rat
      clear row rat rl1 rl2
      have KS := Hid.of (same_any ea ra ek rc es es _ eA.out RA.out eL.out eL.out)
      have HSS : Hid (sameB es es = true) := by show _ = _; simp [sameB]
      rw [HSS.out] at KS
      go_wp2_with fail
      refine KS.out.mono ?_
      rintro e W6b ⟨rfl, qd, hqd⟩
      have hb : Below W6.heap.size W6 W6b := by rw [hqd]; exact below_drewN (Below.refl _ _) qd
      replace B := Hid.of (B.out.trans (hb.mono B.out.size))
      replace KP := Hid.of (KP.out.below hb KP.out.lt)
      replace eA := Hid.of (eA.out.below hb (Nat.le_refl _))
      replace lA := Hid.of (lA.out.below hb (Nat.le_refl _))
      replace RA := Hid.of (RA.out.below hb (Nat.le_refl _))
      clear hb
      clear hqd KS
      obtain ⟨x0, x1, x2, x3, x4, x5, x6⟩ := ptcell_at KP.out
      go_wp2_with fail
      clear x0 x1 x2 x3 x4 x5 x6
      refine (rFwd_any p P _ (h.out.below B.out (Nat.le_refl _)) HMP.out).mono ?_
      rintro e W7 ⟨kv, rfl, kow, hb⟩
      replace B := Hid.of (B.out.trans (hb.mono B.out.size))
      replace KP := Hid.of (KP.out.below hb KP.out.lt)
      replace eA := Hid.of (eA.out.below hb (Nat.le_refl _))
      replace lA := Hid.of (lA.out.below hb (Nat.le_refl _))
      replace RA := Hid.of (RA.out.below hb (Nat.le_refl _))
      clear hb
      have hpos : 0 < (knL p.seen (fwdL p)).length := by
        rw [knL_len]
        exact (List.getElem?_eq_some_iff.1 (fwd_all HM.out z).hd).1
      have hbd : (knL p.seen (fwdL p)).length ≤ 64 := by rw [knL_len]; exact fwd_bound HM.out z (fwd_all HM.out z)
      have HRW : Hid (∀ y ∈ knL p.seen (fwdL p), y.1.length ≤ 4096) := fun y hy => by
        obtain ⟨u, hu, rfl⟩ := List.mem_map.1 hy
        have e1 := fwd_est (fwd_all HM.out z) hu
        have h2 := est_in HM.out (wordS p.seen u.2)
        show u.1.length ≤ 4096
        rw [e1]
        exact Nat.le_trans (nodup_len 256 _ (inc_nodup h2.1) (fun t ht => by have := h2.2 t ht; omega)) (by decide)
      obtain ⟨kg, kc, hkv, -, hkl, -, hck⟩ := kow.cellsK hpos
      subst hkv
      have HKL := Hid.of hkl
      have HCK := Hid.of hck
      have HBD := Hid.of hbd
      clear hkl hck kow hpos hbd
      have HBEST : Hid (∀ only : List Int, (∀ x : Int, 0 ≤ x → x < p.m.st → x ∈ only) → bestL p.secret only (knL p.seen (fwdL p)) = outC p) := fun only ho => fwd_best HMP.out ho
      obtain ⟨kn, HKN⟩ : ∃ kn, Hid (kn = knL p.seen (fwdL p)) := ⟨_, rfl⟩
      rw [← HKN.out] at HCK HBD HRW HBEST ⊢
      obtain ⟨x0, x1, x2, x3, x4, x5, x6⟩ := ptcell_at KP.out
      go_wp2_with fail
      clear x0 x1 x2 x3 x4 x5 x6
      obtain ⟨sn, HSN⟩ : ∃ sn : Nat, Hid (p.m.st = (sn : Int)) := ⟨p.m.st.toNat, by have := mayB_size HM.out; unfold sizeOk at this; show _ = _; omega⟩
      have hsn : sn ≤ 256 := by have := HSN.out; omega
      have KALL : Hid (Calls Tryd.prog 42 #[mval p.m P.l] W7 fun e w' => GivesO W7 (rngI sn) e w') := by
        have := lall_any sn p.m.ev p.m.starts p.m.arrows p.m.ends P.l W7 hsn
        rw [← HSN.out] at this
        exact this
      refine KALL.out.mono ?_
      rintro e W8 ⟨av, rfl, aow, hb⟩
      replace HCK := Hid.of (cellsK_below HCK.out hb HKL.out)
      replace HKL := Hid.of (Nat.lt_of_lt_of_le HKL.out hb.size)
      replace B := Hid.of (B.out.trans (hb.mono B.out.size))
      replace KP := Hid.of (KP.out.below hb KP.out.lt)
      replace eA := Hid.of (eA.out.below hb (Nat.le_refl _))
      replace lA := Hid.of (lA.out.below hb (Nat.le_refl _))
      replace RA := Hid.of (RA.out.below hb (Nat.le_refl _))
      clear hb
      obtain ⟨aa, ac, hav, aat, al1, al2, -⟩ := Own.at2 aow
      have HAA := Hid.of aat
      have HAL : Hid ((rngI sn).length ≤ maxLen) := Nat.le_trans al1 al2
      have HB2 : Hid (bestL p.secret (rngI sn) kn = outC p) := HBEST.out _ (fun x x0 x1 => by
        have e1 := HSN.out
        unfold rngI
        rw [List.mem_map]
        exact ⟨x.toNat, List.mem_range.2 (by omega), by omega⟩)
      subst hav
      clear aow aat al1 al2 KALL HBEST
      have KB : Hid (Calls Tryd.prog 43 #[.slice (some ⟨kg, 0, none⟩) kn.length kc, ptval p P, .slice aa (rngI sn).length ac, .bool bo, .slice la wo.length lk] W8 fun e w' => e = .returned (.bool true) ∧ Below W8.heap.size W8 w') := lbest_any p P kg 0 kc aa la ac lk (rngI sn) wo bo kn W8 (h.out.below B.out (Nat.le_refl _)) (Nat.le_trans HBD.out (by decide)) HKL.out HCK.out HRW.out HAA.out HAL.out lA.out lL.out (by rw [HB2.out]; exact HBO.out) (by rw [HB2.out]; exact HWO.out)
      obtain ⟨x0, x1, x2, x3, x4, x5, x6⟩ := ptcell_at KP.out
      go_wp2_with fail
      clear x0 x1 x2 x3 x4 x5 x6
      refine KB.out.mono ?_
      rintro e W9 ⟨rfl, hb⟩
      replace B := Hid.of (B.out.trans (hb.mono B.out.size))
      clear hb
      go_wp2_with fail
      go_ret
      exact ⟨rfl, B.out⟩

end Go.Proofs.YtdhgabpoaicjoaaDoor
