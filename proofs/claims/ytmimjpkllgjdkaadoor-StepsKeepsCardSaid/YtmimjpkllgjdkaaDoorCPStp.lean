/-
  The walk of steps.Leak; what package steps leaves.
-/
import Derived.Test.YtmimjpkllgjdkaaDoorG42
namespace Go.Proofs.YtmimjpkllgjdkaaDoor
open Go.RowKit
set_option linter.unusedVariables false

set_option maxRecDepth 100000 in
set_option maxHeartbeats 4000000 in
theorem leakS_bad (p : Plant) (Pl : ML) (sa : Option Addr) (sc : Nat) (ta : Option Addr) (tc : Nat) (most : Int) (w : World) (h : Hid (PAt w p ⟨Pl, sa, sc, ta, tc⟩)) (hp : Hid (mayP p = false)) :
    Calls Tryd.prog 46 #[ptval p ⟨Pl, sa, sc, ta, tc⟩, .int .i64 most] w fun e w' => StepPost w (stepOut p most) e w' := by
  have B : Hid (Below w.heap.size w (w.alloc (.cells (ptcells p ⟨Pl, sa, sc, ta, tc⟩) 44))) := (Below.refl _ _).alloc (Nat.le_refl _) _
  have KP : Hid (Blk (w.alloc (.cells (ptcells p ⟨Pl, sa, sc, ta, tc⟩) 44)) w.heap.size 44 (ptcells p ⟨Pl, sa, sc, ta, tc⟩)) := Blk.new w _ _
  go_enter Tryd.func46, Tryd.ntmps46
  obtain ⟨x0, x1, x2, x3, x4, x5, x6⟩ := ptcell_at KP.out
  go_wp2_with fail
  clear x0 x1 x2 x3 x4 x5 x6
  revert B KP
  generalize (w.alloc (.cells (ptcells p ⟨Pl, sa, sc, ta, tc⟩) 44)) = V0
  intro B KP
  refine (ests_bad p ⟨Pl, sa, sc, ta, tc⟩ V0 (Hid.of (h.out.below B.out (Nat.le_refl _))) hp).mono ?_
  rintro e V1 ⟨rfl, hb⟩
  replace B := Hid.of (B.out.trans (hb.mono B.out.size))
  clear hb KP
  go_wp2_with fail
  refine bodyPost_ret (v := .tuple #[.bool false, .slice none 0 0, .slice none 0 0, .int .i64 2]) (by simp [results, go_sem]) rfl ?_
  rw [stepOut_bad hp.out]
  exact ⟨none, 0, none, 0, rfl, .inl rfl, .inl rfl, Nat.zero_le _, Nat.zero_le _, B.out⟩

set_option maxRecDepth 100000 in
set_option maxHeartbeats 16000000 in
theorem leakS_ok (p : Plant) (Pl : ML) (sa : Option Addr) (sc : Nat) (ta : Option Addr) (tc : Nat) (most : Int) (w : World) (h : Hid (PAt w p ⟨Pl, sa, sc, ta, tc⟩)) (hT : Hid (Tab w)) (hp : Hid (mayP p = true)) :
    Calls Tryd.prog 46 #[ptval p ⟨Pl, sa, sc, ta, tc⟩, .int .i64 most] w fun e w' => StepPost w (stepOut p most) e w' := by
  have sbd : Hid (∀ x ∈ p.secret, 0 ≤ x ∧ x < 256) := (mayP_secret hp.out).1
  obtain ⟨T, HT⟩ : ∃ T, Hid (T = ofS p.secret) := ⟨_, rfl⟩
  have HRT : Hid (Rep T p.secret) := by show Rep _ _; rw [HT.out]; exact (mayP_secret hp.out).2
  have B : Hid (Below w.heap.size w (w.alloc (.cells (ptcells p ⟨Pl, sa, sc, ta, tc⟩) 44))) := (Below.refl _ _).alloc (Nat.le_refl _) _
  have KP : Hid (Blk (w.alloc (.cells (ptcells p ⟨Pl, sa, sc, ta, tc⟩) 44)) w.heap.size 44 (ptcells p ⟨Pl, sa, sc, ta, tc⟩)) := Blk.new w _ _
  go_enter Tryd.func46, Tryd.ntmps46
  obtain ⟨x0, x1, x2, x3, x4, x5, x6⟩ := ptcell_at KP.out
  go_wp2_with fail
  clear x0 x1 x2 x3 x4 x5 x6
  revert B KP
  generalize (w.alloc (.cells (ptcells p ⟨Pl, sa, sc, ta, tc⟩) 44)) = V0
  intro B KP
  refine (ests_ok p Pl sa sc ta tc V0 (Hid.of (h.out.below B.out (Nat.le_refl _))) (Hid.of (hT.out.below B.out hT.out.lt)) hp).mono ?_
  rintro e V1 ⟨v, A, rfl, pls, hb⟩
  replace B := Hid.of (B.out.trans (hb.mono B.out.size))
  replace KP := Hid.of (KP.out.below hb KP.out.lt)
  obtain ⟨ra, rc, hv, rd, rl, -⟩ := pls.ow.rd
  subst hv
  have HRA := Hid.of rd
  have HIA : Hid (∀ q ∈ A, InnW 0 V1 q.v q.word) := pls.inn
  have HPA : Hid (RepCL A (fwdL p)) := pls.rep
  have HWA : Hid (WdC p.seen A (fwdL p)) := pls.wd
  have hlA : A.length ≤ 64 := by
    obtain ⟨hm, z, -, -⟩ := (mayP_iff p).1 hp.out
    rw [pls.rep.len]
    exact fwd_bound hm z (fwd_all hm z)
  have HLA : Hid (∀ q ∈ A, q.word.length ≤ 64) := fun q hq => by
    obtain ⟨k, hk⟩ := List.mem_iff_getElem?.1 hq
    obtain ⟨x, hx, -⟩ := HPA.out.rep k q hk
    have h1 := fwd_mem hp.out (x := (x.1, wordS p.seen x.2)) (List.mem_map.2 ⟨x, List.mem_of_getElem? hx, rfl⟩)
    rw [HWA.out k q x hk hx]
    exact h1.2.2
  clear hb pls rd rl
  by_cases hr : -1 ≤ most ∧ most ≤ 1000
  · have HM := Hid.of hr
    have m1 : decide (most < -1) = false := by simp; omega
    have m2 : decide (1000 < most) = false := by simp; omega
    clear hr
    obtain ⟨x0, x1, x2, x3, x4, x5, x6⟩ := ptcell_at KP.out
    go_wp2_with fail
    clear x0 x1 x2 x3 x4 x5 x6 m1 m2
    refine (origs_ok p Pl sa sc ta tc V1 (Hid.of (h.out.below B.out (Nat.le_refl _))) (Hid.of (hT.out.below B.out hT.out.lt)) hp).mono ?_
    rintro e V ⟨l, hol, v, Bv, rfl, pls, hb⟩
    have HOR := Hid.of hol
    have HVP : Hid (w.heap.size < V.heap.size) := Nat.lt_of_lt_of_le KP.out.lt hb.size
    replace B := Hid.of (B.out.trans (hb.mono B.out.size))
    replace KP := Hid.of (KP.out.below hb KP.out.lt)
    replace HRA := Hid.of (HRA.out.below hb)
    replace HIA : Hid (∀ q ∈ A, InnW 0 V q.v q.word) := fun q hq => (HIA.out q hq).below hb (Nat.zero_le _)
    obtain ⟨rb, rd, hv, hrd, -, hcB⟩ := pls.ow.rd
    subst hv
    have HRB := Hid.of hrd
    have HIB : Hid (∀ q ∈ Bv, InnW 0 V q.v q.word) := pls.inn
    have HPB : Hid (RepCL Bv l) := pls.rep
    have HWB : Hid (WdC p.seen Bv l) := pls.wd
    have hlB : Bv.length ≤ 64 := by rw [pls.rep.len]; exact hol.len
    have HLB : Hid (∀ q ∈ Bv, q.word.length ≤ 64) := fun q hq => by
      obtain ⟨k, hk⟩ := List.mem_iff_getElem?.1 hq
      obtain ⟨x, hx, -⟩ := HPB.out.rep k q hk
      rw [HWB.out k q x hk hx, wordS_len]
      exact HOR.out.wl x (List.mem_of_getElem? hx)
    clear hb pls hrd hol
    have SA : Hid (∀ W, Blk W w.heap.size 44 (ptcells p ⟨Pl, sa, sc, ta, tc⟩) → W.cell? ⟨w.heap.size, 6, none⟩ = some (.slice ta p.secret.length tc)) := fun W h1 => h1.cell 6 rfl
    go_wp2_with fail
    refine wp_region_held_drew (S := fun w' => w'.cell? ⟨w.heap.size, 6, none⟩ = some (.slice ta p.secret.length tc)) (by kernel_rfl) (SA.out _ (Blk.drew KP.out)) (fun hS => ?_)
    have BV : Hid (Below V.heap.size V V.drew) := (Below.refl _ _).drew
    replace KP : Hid (Blk V.drew w.heap.size 44 (ptcells p ⟨Pl, sa, sc, ta, tc⟩)) := Blk.drew KP.out
    revert hS BV KP
    generalize V.drew = Y0
    intro hS BV KP
    refine wpAnyH_take (i := 0) (v := .slice ra A.length rc) rfl (by kernel_rfl) (by kernel_rfl) (by kernel_rfl) (fun _ _ _ h => h) (Or.inl ⟨by kernel_rfl, fun w' hw' => by go_simp⟩) hS ?_
    refine wpAnyH_take (i := 1) (v := .slice rb Bv.length rd) rfl (by kernel_rfl) (by kernel_rfl) (by kernel_rfl) (fun _ _ _ h => h) (Or.inl ⟨by kernel_rfl, fun w' hw' => by go_simp⟩) hS ?_
    refine wpAnyH_take (i := 2) (v := .int .i64 most) rfl (by kernel_rfl) (by kernel_rfl) (by kernel_rfl) (fun _ _ _ h => h) (Or.inl ⟨by kernel_rfl, fun w' hw' => by go_simp⟩) hS ?_
    refine wpAnyH_take (i := 4) (v := .pointer (some ⟨w.heap.size, 6, none⟩)) rfl (by kernel_rfl) (by kernel_rfl) (by kernel_rfl) (fun _ _ _ h => h) (Or.inl ⟨by kernel_rfl, fun w' hw' => by go_simp⟩) hS ?_
    refine wpAnyH_take (i := 5) (v := .slice ta p.secret.length tc) rfl (by kernel_rfl) (by kernel_rfl) (by kernel_rfl) (fun _ _ _ h => h) (Or.inl ⟨by kernel_rfl, fun w' hw' => by go_simp⟩) hS ?_
    simp only [Act.put, List.setIfInBounds_toArray]
    refine wpAnyH_ready (rs := [3, 11]) (by kernel_rfl) (by simp) ?_
    refine AllReadyH.cons rfl (fun K' hK' => ?_) (AllReadyH.cons rfl (fun K' hK' => ?_) AllReadyH.nil)
    · clear hS
      go_simp
      refine (upTo_go Bv l p.seen most rb rd Y0 hlB hcB (Hid.of (HRB.out.below BV.out)) (Hid.of (fun q hq => (HIB.out q hq).below BV.out (Nat.zero_le _))) HPB HWB (Hid.of HOR.out.inc)).mono ?_
      rintro e Y11 ⟨ua, uc, n, rfl, hn, hru, hup, hb⟩
      replace BV := Hid.of (BV.out.trans (hb.mono BV.out.size))
      replace KP := Hid.of (KP.out.below hb KP.out.lt)
      obtain ⟨Bu, HBU⟩ : ∃ Bu, Hid (Bu = Bv.take n) := ⟨_, rfl⟩
      rw [← HBU.out] at hru
      rw [← HBU.out]
      have RU := Hid.of hru
      have HUP := Hid.of hup
      refine hK'.out _ _ (SA.out _ KP.out) (fun hS => ?_)
      clear hK' K' hb hru hup
      refine wpAnyH_ready (rs := [6, 11]) (by kernel_rfl) (by simp) ?_
      refine AllReadyH.cons rfl (fun K' hK' => ?_) (AllReadyH.cons rfl (fun K' hK' => ?_) AllReadyH.nil)
      · clear hS
        go_simp
        refine (of_any ta tc p.secret Y11 (h.out.t.at_.below (B.out.trans (BV.out.mono B.out.size)) (Nat.le_refl _)) h.out.t.len sbd.out).mono ?_
        rintro e Y12 ⟨rfl, hb⟩
        rw [← HT.out]
        replace BV := Hid.of (BV.out.trans (hb.mono BV.out.size))
        replace KP := Hid.of (KP.out.below hb KP.out.lt)
        replace RU := Hid.of (RU.out.below hb)
        refine hK'.out _ _ (SA.out _ KP.out) (fun hS => ?_)
        clear hK' K' hb
        refine wpAnyH_ready (rs := [7, 11]) (by kernel_rfl) (by simp) ?_
        refine AllReadyH.cons rfl (fun K' hK' => ?_) (AllReadyH.cons rfl (fun K' hK' => ?_) AllReadyH.nil)
        · clear hS
          go_simp
          have hsub : ∀ q ∈ Bu, q ∈ Bv := fun q hq => List.mem_of_mem_take (by rw [← HBU.out]; exact hq)
          have hlu : Bu.length ≤ 64 := by rw [HBU.out, List.length_take]; omega
          have hru : RepCL Bu (l.take n) := by rw [HBU.out]; exact HPB.out.take n
          have hwu : WdC p.seen Bu (l.take n) := by rw [HBU.out]; exact HWB.out.take n
          refine (callsIn_wide.1 (sfirst_in A Bu (fwdL p) (l.take n) p.seen p.secret T ra rc ua uc Y12 hlA hlu (Hid.of (HRA.out.below BV.out)) RU (Hid.of (fun q hq => (HIA.out q hq).below BV.out (Nat.zero_le _))) (Hid.of (fun q hq => (HIB.out q (hsub q hq)).below BV.out (Nat.zero_le _))) HPA (Hid.of hru) HWA (Hid.of hwu) HLA (Hid.of (fun q hq => HLB.out q (hsub q hq))) HRT (Hid.of (fwd_inc hp.out)) (Hid.of (orig_inc hp.out HOR.out HUP.out)))).mono ?_
          rintro e Y13 ⟨o, Q, rfl, hsf, hpr, hb⟩
          replace BV := Hid.of (BV.out.trans (hb.mono BV.out.size))
          replace KP := Hid.of (KP.out.below hb KP.out.lt)
          replace RU := Hid.of (RU.out.below hb)
          have HO : Hid (outS p most = o) := sf_out hp.out HOR.out HUP.out hsf
          have PF := Hid.of (prok_below hpr hb)
          refine hK'.out _ _ (SA.out _ KP.out) (fun hS => ?_)
          clear hK' K' hb hsf hpr hsub hlu hru hwu
          refine wpAnyH_take (i := 8) (v := .tuple #[prval Q, .bool o.isSome]) rfl (by kernel_rfl) (by kernel_rfl) (by kernel_rfl) (fun _ _ _ h => h) (Or.inl ⟨by kernel_rfl, fun w' hw' => by go_simp⟩) hS ?_
          refine wpAnyH_take (i := 9) (v := prval Q) rfl (by kernel_rfl) (by kernel_rfl) (by kernel_rfl) (fun _ _ _ h => h) (Or.inl ⟨by kernel_rfl, fun w' hw' => by go_simp⟩) hS ?_
          refine wpAnyH_take (i := 10) (v := .bool o.isSome) rfl (by kernel_rfl) (by kernel_rfl) (by kernel_rfl) (fun _ _ _ h => h) (Or.inl ⟨by kernel_rfl, fun w' hw' => by go_simp⟩) hS ?_
          refine wpAnyH_ready (rs := [11]) (by kernel_rfl) (by simp) ?_
          refine AllReadyH.cons rfl (fun K' hK' => ?_) AllReadyH.nil
          clear hS
          go_simp
          have hb : Below Y13.heap.size Y13 (Y13.alloc (.cells #[.slice none 0 0, .slice none 0 0] 113)) := (Below.refl _ _).alloc (Nat.le_refl _) _
          have P11 : Hid (V.heap.size ≤ Y13.heap.size) := BV.out.size
          replace BV := Hid.of (BV.out.trans (hb.mono BV.out.size))
          replace KP := Hid.of (KP.out.below hb KP.out.lt)
          replace RU := Hid.of (RU.out.below hb)
          replace PF := Hid.of (prok_below PF.out hb)
          have K11 : Hid (Blk (Y13.alloc (.cells #[.slice none 0 0, .slice none 0 0] 113)) Y13.heap.size 113 #[.slice none 0 0, .slice none 0 0]) := Blk.new Y13 _ _
          refine hK'.out _ _ (SA.out _ KP.out) (fun hS => ?_)
          clear hK' K' hb
          revert P11 BV KP RU PF K11 hS
          generalize Y13.alloc (.cells #[.slice none 0 0, .slice none 0 0] 113) = Y14
          generalize Y13.heap.size = pq
          intro P11 BV KP RU PF K11 hS
          refine wpAnyH_ready (rs := [12]) (by kernel_rfl) (by simp) ?_
          refine AllReadyH.cons rfl (fun K' hK' => ?_) AllReadyH.nil
          clear hS
          have fz := K11.out.frozen
          have r0 := K11.out.cell 0 rfl
          have r1 := K11.out.cell 1 rfl
          go_simp
          have KP2 := Hid.of (blk_other2 KP.out (b' := pq) (by have := P11.out; have := HVP.out; omega) (.slice Q.a Q.n Q.c) (.slice Q.a' Q.n' Q.c'))
          have BV2 := Hid.of (below_set2 BV.out (b' := pq) P11.out (.slice Q.a Q.n Q.c) (.slice Q.a' Q.n' Q.c'))
          have PF2 := Hid.of (prok_set PF.out K11.out (.slice Q.a Q.n Q.c) (.slice Q.a' Q.n' Q.c'))
          have KQ := Hid.of (blk_pair (Q := ⟨none, 0, 0, none, 0, 0⟩) K11.out Q)
          refine hK'.out _ _ (SA.out _ KP2.out) (fun hS => ?_)
          clear hK' K' fz r0 r1 KP K11 BV PF RU
          refine wpAnyH_take (i := 13) (v := .bool o.isSome) rfl (by kernel_rfl) (by kernel_rfl) (by kernel_rfl) (fun _ _ _ h => h) (Or.inl ⟨by kernel_rfl, fun w' hw' => by go_simp⟩) hS ?_
          refine wpAnyH_done (by kernel_rfl) ?_ _
          clear hS
          go_wp2_with fail
          refine wp_region_held_drew (S := fun w' => w'.cell? ⟨pq, 0, none⟩ = some (.slice Q.a Q.n Q.c) ∧ w'.cell? ⟨pq, 1, none⟩ = some (.slice Q.a' Q.n' Q.c')) (by kernel_rfl) (prcell_at (Blk.drew KQ.out)) (fun hS => ?_)
          refine wpAnyH_take (i := 0) (v := .bool o.isSome) rfl (by kernel_rfl) (by kernel_rfl) (by kernel_rfl) (fun _ _ _ h => h) (Or.inl ⟨by kernel_rfl, fun w' hw' => by obtain ⟨q0, q1⟩ := hw'; go_simp⟩) hS ?_
          refine wpAnyH_take (i := 1) (v := .pointer (some ⟨pq, 0, none⟩)) rfl (by kernel_rfl) (by kernel_rfl) (by kernel_rfl) (fun _ _ _ h => h) (Or.inl ⟨by kernel_rfl, fun w' hw' => by obtain ⟨q0, q1⟩ := hw'; go_simp⟩) hS ?_
          refine wpAnyH_take (i := 2) (v := .slice Q.a Q.n Q.c) rfl (by kernel_rfl) (by kernel_rfl) (by kernel_rfl) (fun _ _ _ h => h) (Or.inl ⟨by kernel_rfl, fun w' hw' => by obtain ⟨q0, q1⟩ := hw'; go_simp⟩) hS ?_
          refine wpAnyH_take (i := 3) (v := .pointer (some ⟨pq, 1, none⟩)) rfl (by kernel_rfl) (by kernel_rfl) (by kernel_rfl) (fun _ _ _ h => h) (Or.inl ⟨by kernel_rfl, fun w' hw' => by obtain ⟨q0, q1⟩ := hw'; go_simp⟩) hS ?_
          refine wpAnyH_take (i := 4) (v := .slice Q.a' Q.n' Q.c') rfl (by kernel_rfl) (by kernel_rfl) (by kernel_rfl) (fun _ _ _ h => h) (Or.inl ⟨by kernel_rfl, fun w' hw' => by obtain ⟨q0, q1⟩ := hw'; go_simp⟩) hS ?_
          refine wpAnyH_take (i := 5) (v := .bool o.isSome) rfl (by kernel_rfl) (by kernel_rfl) (by kernel_rfl) (fun _ _ _ h => h) (Or.inl ⟨by kernel_rfl, fun w' hw' => by obtain ⟨q0, q1⟩ := hw'; go_simp⟩) hS ?_
          refine wpAnyH_take (i := 6) (v := .slice Q.a Q.n Q.c) rfl (by kernel_rfl) (by kernel_rfl) (by kernel_rfl) (fun _ _ _ h => h) (Or.inl ⟨by kernel_rfl, fun w' hw' => by obtain ⟨q0, q1⟩ := hw'; go_simp⟩) hS ?_
          refine wpAnyH_take (i := 7) (v := .slice Q.a' Q.n' Q.c') rfl (by kernel_rfl) (by kernel_rfl) (by kernel_rfl) (fun _ _ _ h => h) (Or.inl ⟨by kernel_rfl, fun w' hw' => by obtain ⟨q0, q1⟩ := hw'; go_simp⟩) hS ?_
          refine wpAnyH_take (i := 8) (v := .int .i64 0) rfl (by kernel_rfl) (by kernel_rfl) (by kernel_rfl) (fun _ _ _ h => h) (Or.inl ⟨by kernel_rfl, fun w' hw' => by obtain ⟨q0, q1⟩ := hw'; go_simp⟩) hS ?_
          refine wpAnyH_done (by kernel_rfl) ?_ _
          clear hS
          go_wp2_with fail
          refine bodyPost_ret (v := .tuple #[.bool o.isSome, .slice Q.a Q.n Q.c, .slice Q.a' Q.n' Q.c', .int .i64 0]) (by simp [results, go_sem]) rfl ?_
          rw [stepOut_ok hp.out HM.out, HO.out]
          exact prok_post (prok_drew PF2.out) (B.out.trans (BV2.out.drew.mono B.out.size))
        · clear hS
          go_simp
          have hb : Below Y12.heap.size Y12 (Y12.alloc (.cells #[.slice none 0 0, .slice none 0 0] 113)) := (Below.refl _ _).alloc (Nat.le_refl _) _
          have P11 : Hid (V.heap.size ≤ Y12.heap.size) := BV.out.size
          replace BV := Hid.of (BV.out.trans (hb.mono BV.out.size))
          replace KP := Hid.of (KP.out.below hb KP.out.lt)
          replace RU := Hid.of (RU.out.below hb)
          have K11 : Hid (Blk (Y12.alloc (.cells #[.slice none 0 0, .slice none 0 0] 113)) Y12.heap.size 113 #[.slice none 0 0, .slice none 0 0]) := Blk.new Y12 _ _
          refine hK'.out _ _ (SA.out _ KP.out) (fun hS => ?_)
          clear hK' K' hb
          revert P11 BV KP RU K11 hS
          generalize Y12.alloc (.cells #[.slice none 0 0, .slice none 0 0] 113) = Y15
          generalize Y12.heap.size = pq
          intro P11 BV KP RU K11 hS
          refine wpAnyH_ready (rs := [7]) (by kernel_rfl) (by simp) ?_
          refine AllReadyH.cons rfl (fun K' hK' => ?_) AllReadyH.nil
          clear hS
          go_simp
          have hsub : ∀ q ∈ Bu, q ∈ Bv := fun q hq => List.mem_of_mem_take (by rw [← HBU.out]; exact hq)
          have hlu : Bu.length ≤ 64 := by rw [HBU.out, List.length_take]; omega
          have hru : RepCL Bu (l.take n) := by rw [HBU.out]; exact HPB.out.take n
          have hwu : WdC p.seen Bu (l.take n) := by rw [HBU.out]; exact HWB.out.take n
          refine (callsIn_wide.1 (sfirst_in A Bu (fwdL p) (l.take n) p.seen p.secret T ra rc ua uc Y15 hlA hlu (Hid.of (HRA.out.below BV.out)) RU (Hid.of (fun q hq => (HIA.out q hq).below BV.out (Nat.zero_le _))) (Hid.of (fun q hq => (HIB.out q (hsub q hq)).below BV.out (Nat.zero_le _))) HPA (Hid.of hru) HWA (Hid.of hwu) HLA (Hid.of (fun q hq => HLB.out q (hsub q hq))) HRT (Hid.of (fwd_inc hp.out)) (Hid.of (orig_inc hp.out HOR.out HUP.out)))).mono ?_
          rintro e Y16 ⟨o, Q, rfl, hsf, hpr, hb⟩
          replace BV := Hid.of (BV.out.trans (hb.mono BV.out.size))
          replace KP := Hid.of (KP.out.below hb KP.out.lt)
          replace RU := Hid.of (RU.out.below hb)
          replace K11 := Hid.of (K11.out.below hb K11.out.lt)
          have HO : Hid (outS p most = o) := sf_out hp.out HOR.out HUP.out hsf
          have PF := Hid.of (prok_below hpr hb)
          refine hK'.out _ _ (SA.out _ KP.out) (fun hS => ?_)
          clear hK' K' hb hsf hpr hsub hlu hru hwu
          refine wpAnyH_take (i := 8) (v := .tuple #[prval Q, .bool o.isSome]) rfl (by kernel_rfl) (by kernel_rfl) (by kernel_rfl) (fun _ _ _ h => h) (Or.inl ⟨by kernel_rfl, fun w' hw' => by go_simp⟩) hS ?_
          refine wpAnyH_take (i := 9) (v := prval Q) rfl (by kernel_rfl) (by kernel_rfl) (by kernel_rfl) (fun _ _ _ h => h) (Or.inl ⟨by kernel_rfl, fun w' hw' => by go_simp⟩) hS ?_
          refine wpAnyH_take (i := 10) (v := .bool o.isSome) rfl (by kernel_rfl) (by kernel_rfl) (by kernel_rfl) (fun _ _ _ h => h) (Or.inl ⟨by kernel_rfl, fun w' hw' => by go_simp⟩) hS ?_
          refine wpAnyH_ready (rs := [12]) (by kernel_rfl) (by simp) ?_
          refine AllReadyH.cons rfl (fun K' hK' => ?_) AllReadyH.nil
          clear hS
          have fz := K11.out.frozen
          have r0 := K11.out.cell 0 rfl
          have r1 := K11.out.cell 1 rfl
          go_simp
          have KP2 := Hid.of (blk_other2 KP.out (b' := pq) (by have := P11.out; have := HVP.out; omega) (.slice Q.a Q.n Q.c) (.slice Q.a' Q.n' Q.c'))
          have BV2 := Hid.of (below_set2 BV.out (b' := pq) P11.out (.slice Q.a Q.n Q.c) (.slice Q.a' Q.n' Q.c'))
          have PF2 := Hid.of (prok_set PF.out K11.out (.slice Q.a Q.n Q.c) (.slice Q.a' Q.n' Q.c'))
          have KQ := Hid.of (blk_pair (Q := ⟨none, 0, 0, none, 0, 0⟩) K11.out Q)
          refine hK'.out _ _ (SA.out _ KP2.out) (fun hS => ?_)
          clear hK' K' fz r0 r1 KP K11 BV PF RU
          refine wpAnyH_take (i := 13) (v := .bool o.isSome) rfl (by kernel_rfl) (by kernel_rfl) (by kernel_rfl) (fun _ _ _ h => h) (Or.inl ⟨by kernel_rfl, fun w' hw' => by go_simp⟩) hS ?_
          refine wpAnyH_done (by kernel_rfl) ?_ _
          clear hS
          go_wp2_with fail
          refine wp_region_held_drew (S := fun w' => w'.cell? ⟨pq, 0, none⟩ = some (.slice Q.a Q.n Q.c) ∧ w'.cell? ⟨pq, 1, none⟩ = some (.slice Q.a' Q.n' Q.c')) (by kernel_rfl) (prcell_at (Blk.drew KQ.out)) (fun hS => ?_)
          refine wpAnyH_take (i := 0) (v := .bool o.isSome) rfl (by kernel_rfl) (by kernel_rfl) (by kernel_rfl) (fun _ _ _ h => h) (Or.inl ⟨by kernel_rfl, fun w' hw' => by obtain ⟨q0, q1⟩ := hw'; go_simp⟩) hS ?_
          refine wpAnyH_take (i := 1) (v := .pointer (some ⟨pq, 0, none⟩)) rfl (by kernel_rfl) (by kernel_rfl) (by kernel_rfl) (fun _ _ _ h => h) (Or.inl ⟨by kernel_rfl, fun w' hw' => by obtain ⟨q0, q1⟩ := hw'; go_simp⟩) hS ?_
          refine wpAnyH_take (i := 2) (v := .slice Q.a Q.n Q.c) rfl (by kernel_rfl) (by kernel_rfl) (by kernel_rfl) (fun _ _ _ h => h) (Or.inl ⟨by kernel_rfl, fun w' hw' => by obtain ⟨q0, q1⟩ := hw'; go_simp⟩) hS ?_
          refine wpAnyH_take (i := 3) (v := .pointer (some ⟨pq, 1, none⟩)) rfl (by kernel_rfl) (by kernel_rfl) (by kernel_rfl) (fun _ _ _ h => h) (Or.inl ⟨by kernel_rfl, fun w' hw' => by obtain ⟨q0, q1⟩ := hw'; go_simp⟩) hS ?_
          refine wpAnyH_take (i := 4) (v := .slice Q.a' Q.n' Q.c') rfl (by kernel_rfl) (by kernel_rfl) (by kernel_rfl) (fun _ _ _ h => h) (Or.inl ⟨by kernel_rfl, fun w' hw' => by obtain ⟨q0, q1⟩ := hw'; go_simp⟩) hS ?_
          refine wpAnyH_take (i := 5) (v := .bool o.isSome) rfl (by kernel_rfl) (by kernel_rfl) (by kernel_rfl) (fun _ _ _ h => h) (Or.inl ⟨by kernel_rfl, fun w' hw' => by obtain ⟨q0, q1⟩ := hw'; go_simp⟩) hS ?_
          refine wpAnyH_take (i := 6) (v := .slice Q.a Q.n Q.c) rfl (by kernel_rfl) (by kernel_rfl) (by kernel_rfl) (fun _ _ _ h => h) (Or.inl ⟨by kernel_rfl, fun w' hw' => by obtain ⟨q0, q1⟩ := hw'; go_simp⟩) hS ?_
          refine wpAnyH_take (i := 7) (v := .slice Q.a' Q.n' Q.c') rfl (by kernel_rfl) (by kernel_rfl) (by kernel_rfl) (fun _ _ _ h => h) (Or.inl ⟨by kernel_rfl, fun w' hw' => by obtain ⟨q0, q1⟩ := hw'; go_simp⟩) hS ?_
          refine wpAnyH_take (i := 8) (v := .int .i64 0) rfl (by kernel_rfl) (by kernel_rfl) (by kernel_rfl) (fun _ _ _ h => h) (Or.inl ⟨by kernel_rfl, fun w' hw' => by obtain ⟨q0, q1⟩ := hw'; go_simp⟩) hS ?_
          refine wpAnyH_done (by kernel_rfl) ?_ _
          clear hS
          go_wp2_with fail
          refine bodyPost_ret (v := .tuple #[.bool o.isSome, .slice Q.a Q.n Q.c, .slice Q.a' Q.n' Q.c', .int .i64 0]) (by simp [results, go_sem]) rfl ?_
          rw [stepOut_ok hp.out HM.out, HO.out]
          exact prok_post (prok_drew PF2.out) (B.out.trans (BV2.out.drew.mono B.out.size))
      · clear hS
        go_simp
        have hb : Below Y11.heap.size Y11 (Y11.alloc (.cells #[.slice none 0 0, .slice none 0 0] 113)) := (Below.refl _ _).alloc (Nat.le_refl _) _
        have P11 : Hid (V.heap.size ≤ Y11.heap.size) := BV.out.size
        replace BV := Hid.of (BV.out.trans (hb.mono BV.out.size))
        replace KP := Hid.of (KP.out.below hb KP.out.lt)
        replace RU := Hid.of (RU.out.below hb)
        have K11 : Hid (Blk (Y11.alloc (.cells #[.slice none 0 0, .slice none 0 0] 113)) Y11.heap.size 113 #[.slice none 0 0, .slice none 0 0]) := Blk.new Y11 _ _
        refine hK'.out _ _ (SA.out _ KP.out) (fun hS => ?_)
        clear hK' K' hb
        revert P11 BV KP RU K11 hS
        generalize Y11.alloc (.cells #[.slice none 0 0, .slice none 0 0] 113) = Y17
        generalize Y11.heap.size = pq
        intro P11 BV KP RU K11 hS
        refine wpAnyH_ready (rs := [6]) (by kernel_rfl) (by simp) ?_
        refine AllReadyH.cons rfl (fun K' hK' => ?_) AllReadyH.nil
        clear hS
        go_simp
        refine (of_any ta tc p.secret Y17 (h.out.t.at_.below (B.out.trans (BV.out.mono B.out.size)) (Nat.le_refl _)) h.out.t.len sbd.out).mono ?_
        rintro e Y18 ⟨rfl, hb⟩
        rw [← HT.out]
        replace BV := Hid.of (BV.out.trans (hb.mono BV.out.size))
        replace KP := Hid.of (KP.out.below hb KP.out.lt)
        replace RU := Hid.of (RU.out.below hb)
        replace K11 := Hid.of (K11.out.below hb K11.out.lt)
        refine hK'.out _ _ (SA.out _ KP.out) (fun hS => ?_)
        clear hK' K' hb
        refine wpAnyH_ready (rs := [7]) (by kernel_rfl) (by simp) ?_
        refine AllReadyH.cons rfl (fun K' hK' => ?_) AllReadyH.nil
        clear hS
        go_simp
        have hsub : ∀ q ∈ Bu, q ∈ Bv := fun q hq => List.mem_of_mem_take (by rw [← HBU.out]; exact hq)
        have hlu : Bu.length ≤ 64 := by rw [HBU.out, List.length_take]; omega
        have hru : RepCL Bu (l.take n) := by rw [HBU.out]; exact HPB.out.take n
        have hwu : WdC p.seen Bu (l.take n) := by rw [HBU.out]; exact HWB.out.take n
        refine (callsIn_wide.1 (sfirst_in A Bu (fwdL p) (l.take n) p.seen p.secret T ra rc ua uc Y18 hlA hlu (Hid.of (HRA.out.below BV.out)) RU (Hid.of (fun q hq => (HIA.out q hq).below BV.out (Nat.zero_le _))) (Hid.of (fun q hq => (HIB.out q (hsub q hq)).below BV.out (Nat.zero_le _))) HPA (Hid.of hru) HWA (Hid.of hwu) HLA (Hid.of (fun q hq => HLB.out q (hsub q hq))) HRT (Hid.of (fwd_inc hp.out)) (Hid.of (orig_inc hp.out HOR.out HUP.out)))).mono ?_
        rintro e Y19 ⟨o, Q, rfl, hsf, hpr, hb⟩
        replace BV := Hid.of (BV.out.trans (hb.mono BV.out.size))
        replace KP := Hid.of (KP.out.below hb KP.out.lt)
        replace RU := Hid.of (RU.out.below hb)
        replace K11 := Hid.of (K11.out.below hb K11.out.lt)
        have HO : Hid (outS p most = o) := sf_out hp.out HOR.out HUP.out hsf
        have PF := Hid.of (prok_below hpr hb)
        refine hK'.out _ _ (SA.out _ KP.out) (fun hS => ?_)
        clear hK' K' hb hsf hpr hsub hlu hru hwu
        refine wpAnyH_take (i := 8) (v := .tuple #[prval Q, .bool o.isSome]) rfl (by kernel_rfl) (by kernel_rfl) (by kernel_rfl) (fun _ _ _ h => h) (Or.inl ⟨by kernel_rfl, fun w' hw' => by go_simp⟩) hS ?_
        refine wpAnyH_take (i := 9) (v := prval Q) rfl (by kernel_rfl) (by kernel_rfl) (by kernel_rfl) (fun _ _ _ h => h) (Or.inl ⟨by kernel_rfl, fun w' hw' => by go_simp⟩) hS ?_
        refine wpAnyH_take (i := 10) (v := .bool o.isSome) rfl (by kernel_rfl) (by kernel_rfl) (by kernel_rfl) (fun _ _ _ h => h) (Or.inl ⟨by kernel_rfl, fun w' hw' => by go_simp⟩) hS ?_
        refine wpAnyH_ready (rs := [12]) (by kernel_rfl) (by simp) ?_
        refine AllReadyH.cons rfl (fun K' hK' => ?_) AllReadyH.nil
        clear hS
        have fz := K11.out.frozen
        have r0 := K11.out.cell 0 rfl
        have r1 := K11.out.cell 1 rfl
        go_simp
        have KP2 := Hid.of (blk_other2 KP.out (b' := pq) (by have := P11.out; have := HVP.out; omega) (.slice Q.a Q.n Q.c) (.slice Q.a' Q.n' Q.c'))
        have BV2 := Hid.of (below_set2 BV.out (b' := pq) P11.out (.slice Q.a Q.n Q.c) (.slice Q.a' Q.n' Q.c'))
        have PF2 := Hid.of (prok_set PF.out K11.out (.slice Q.a Q.n Q.c) (.slice Q.a' Q.n' Q.c'))
        have KQ := Hid.of (blk_pair (Q := ⟨none, 0, 0, none, 0, 0⟩) K11.out Q)
        refine hK'.out _ _ (SA.out _ KP2.out) (fun hS => ?_)
        clear hK' K' fz r0 r1 KP K11 BV PF RU
        refine wpAnyH_take (i := 13) (v := .bool o.isSome) rfl (by kernel_rfl) (by kernel_rfl) (by kernel_rfl) (fun _ _ _ h => h) (Or.inl ⟨by kernel_rfl, fun w' hw' => by go_simp⟩) hS ?_
        refine wpAnyH_done (by kernel_rfl) ?_ _
        clear hS
        go_wp2_with fail
        refine wp_region_held_drew (S := fun w' => w'.cell? ⟨pq, 0, none⟩ = some (.slice Q.a Q.n Q.c) ∧ w'.cell? ⟨pq, 1, none⟩ = some (.slice Q.a' Q.n' Q.c')) (by kernel_rfl) (prcell_at (Blk.drew KQ.out)) (fun hS => ?_)
        refine wpAnyH_take (i := 0) (v := .bool o.isSome) rfl (by kernel_rfl) (by kernel_rfl) (by kernel_rfl) (fun _ _ _ h => h) (Or.inl ⟨by kernel_rfl, fun w' hw' => by obtain ⟨q0, q1⟩ := hw'; go_simp⟩) hS ?_
        refine wpAnyH_take (i := 1) (v := .pointer (some ⟨pq, 0, none⟩)) rfl (by kernel_rfl) (by kernel_rfl) (by kernel_rfl) (fun _ _ _ h => h) (Or.inl ⟨by kernel_rfl, fun w' hw' => by obtain ⟨q0, q1⟩ := hw'; go_simp⟩) hS ?_
        refine wpAnyH_take (i := 2) (v := .slice Q.a Q.n Q.c) rfl (by kernel_rfl) (by kernel_rfl) (by kernel_rfl) (fun _ _ _ h => h) (Or.inl ⟨by kernel_rfl, fun w' hw' => by obtain ⟨q0, q1⟩ := hw'; go_simp⟩) hS ?_
        refine wpAnyH_take (i := 3) (v := .pointer (some ⟨pq, 1, none⟩)) rfl (by kernel_rfl) (by kernel_rfl) (by kernel_rfl) (fun _ _ _ h => h) (Or.inl ⟨by kernel_rfl, fun w' hw' => by obtain ⟨q0, q1⟩ := hw'; go_simp⟩) hS ?_
        refine wpAnyH_take (i := 4) (v := .slice Q.a' Q.n' Q.c') rfl (by kernel_rfl) (by kernel_rfl) (by kernel_rfl) (fun _ _ _ h => h) (Or.inl ⟨by kernel_rfl, fun w' hw' => by obtain ⟨q0, q1⟩ := hw'; go_simp⟩) hS ?_
        refine wpAnyH_take (i := 5) (v := .bool o.isSome) rfl (by kernel_rfl) (by kernel_rfl) (by kernel_rfl) (fun _ _ _ h => h) (Or.inl ⟨by kernel_rfl, fun w' hw' => by obtain ⟨q0, q1⟩ := hw'; go_simp⟩) hS ?_
        refine wpAnyH_take (i := 6) (v := .slice Q.a Q.n Q.c) rfl (by kernel_rfl) (by kernel_rfl) (by kernel_rfl) (fun _ _ _ h => h) (Or.inl ⟨by kernel_rfl, fun w' hw' => by obtain ⟨q0, q1⟩ := hw'; go_simp⟩) hS ?_
        refine wpAnyH_take (i := 7) (v := .slice Q.a' Q.n' Q.c') rfl (by kernel_rfl) (by kernel_rfl) (by kernel_rfl) (fun _ _ _ h => h) (Or.inl ⟨by kernel_rfl, fun w' hw' => by obtain ⟨q0, q1⟩ := hw'; go_simp⟩) hS ?_
        refine wpAnyH_take (i := 8) (v := .int .i64 0) rfl (by kernel_rfl) (by kernel_rfl) (by kernel_rfl) (fun _ _ _ h => h) (Or.inl ⟨by kernel_rfl, fun w' hw' => by obtain ⟨q0, q1⟩ := hw'; go_simp⟩) hS ?_
        refine wpAnyH_done (by kernel_rfl) ?_ _
        clear hS
        go_wp2_with fail
        refine bodyPost_ret (v := .tuple #[.bool o.isSome, .slice Q.a Q.n Q.c, .slice Q.a' Q.n' Q.c', .int .i64 0]) (by simp [results, go_sem]) rfl ?_
        rw [stepOut_ok hp.out HM.out, HO.out]
        exact prok_post (prok_drew PF2.out) (B.out.trans (BV2.out.drew.mono B.out.size))
    · clear hS
      go_simp
      have hb : Below Y0.heap.size Y0 (Y0.alloc (.cells #[.slice none 0 0, .slice none 0 0] 113)) := (Below.refl _ _).alloc (Nat.le_refl _) _
      have P11 : Hid (V.heap.size ≤ Y0.heap.size) := BV.out.size
      replace BV := Hid.of (BV.out.trans (hb.mono BV.out.size))
      replace KP := Hid.of (KP.out.below hb KP.out.lt)
      have K11 : Hid (Blk (Y0.alloc (.cells #[.slice none 0 0, .slice none 0 0] 113)) Y0.heap.size 113 #[.slice none 0 0, .slice none 0 0]) := Blk.new Y0 _ _
      refine hK'.out _ _ (SA.out _ KP.out) (fun hS => ?_)
      clear hK' K' hb
      revert P11 BV KP K11 hS
      generalize Y0.alloc (.cells #[.slice none 0 0, .slice none 0 0] 113) = Y20
      generalize Y0.heap.size = pq
      intro P11 BV KP K11 hS
      refine wpAnyH_ready (rs := [3]) (by kernel_rfl) (by simp) ?_
      refine AllReadyH.cons rfl (fun K' hK' => ?_) AllReadyH.nil
      clear hS
      go_simp
      refine (upTo_go Bv l p.seen most rb rd Y20 hlB hcB (Hid.of (HRB.out.below BV.out)) (Hid.of (fun q hq => (HIB.out q hq).below BV.out (Nat.zero_le _))) HPB HWB (Hid.of HOR.out.inc)).mono ?_
      rintro e Y21 ⟨ua, uc, n, rfl, hn, hru, hup, hb⟩
      replace BV := Hid.of (BV.out.trans (hb.mono BV.out.size))
      replace KP := Hid.of (KP.out.below hb KP.out.lt)
      replace K11 := Hid.of (K11.out.below hb K11.out.lt)
      obtain ⟨Bu, HBU⟩ : ∃ Bu, Hid (Bu = Bv.take n) := ⟨_, rfl⟩
      rw [← HBU.out] at hru
      rw [← HBU.out]
      have RU := Hid.of hru
      have HUP := Hid.of hup
      refine hK'.out _ _ (SA.out _ KP.out) (fun hS => ?_)
      clear hK' K' hb hru hup
      refine wpAnyH_ready (rs := [6]) (by kernel_rfl) (by simp) ?_
      refine AllReadyH.cons rfl (fun K' hK' => ?_) AllReadyH.nil
      clear hS
      go_simp
      refine (of_any ta tc p.secret Y21 (h.out.t.at_.below (B.out.trans (BV.out.mono B.out.size)) (Nat.le_refl _)) h.out.t.len sbd.out).mono ?_
      rintro e Y22 ⟨rfl, hb⟩
      rw [← HT.out]
      replace BV := Hid.of (BV.out.trans (hb.mono BV.out.size))
      replace KP := Hid.of (KP.out.below hb KP.out.lt)
      replace RU := Hid.of (RU.out.below hb)
      replace K11 := Hid.of (K11.out.below hb K11.out.lt)
      refine hK'.out _ _ (SA.out _ KP.out) (fun hS => ?_)
      clear hK' K' hb
      refine wpAnyH_ready (rs := [7]) (by kernel_rfl) (by simp) ?_
      refine AllReadyH.cons rfl (fun K' hK' => ?_) AllReadyH.nil
      clear hS
      go_simp
      have hsub : ∀ q ∈ Bu, q ∈ Bv := fun q hq => List.mem_of_mem_take (by rw [← HBU.out]; exact hq)
      have hlu : Bu.length ≤ 64 := by rw [HBU.out, List.length_take]; omega
      have hru : RepCL Bu (l.take n) := by rw [HBU.out]; exact HPB.out.take n
      have hwu : WdC p.seen Bu (l.take n) := by rw [HBU.out]; exact HWB.out.take n
      refine (callsIn_wide.1 (sfirst_in A Bu (fwdL p) (l.take n) p.seen p.secret T ra rc ua uc Y22 hlA hlu (Hid.of (HRA.out.below BV.out)) RU (Hid.of (fun q hq => (HIA.out q hq).below BV.out (Nat.zero_le _))) (Hid.of (fun q hq => (HIB.out q (hsub q hq)).below BV.out (Nat.zero_le _))) HPA (Hid.of hru) HWA (Hid.of hwu) HLA (Hid.of (fun q hq => HLB.out q (hsub q hq))) HRT (Hid.of (fwd_inc hp.out)) (Hid.of (orig_inc hp.out HOR.out HUP.out)))).mono ?_
      rintro e Y23 ⟨o, Q, rfl, hsf, hpr, hb⟩
      replace BV := Hid.of (BV.out.trans (hb.mono BV.out.size))
      replace KP := Hid.of (KP.out.below hb KP.out.lt)
      replace RU := Hid.of (RU.out.below hb)
      replace K11 := Hid.of (K11.out.below hb K11.out.lt)
      have HO : Hid (outS p most = o) := sf_out hp.out HOR.out HUP.out hsf
      have PF := Hid.of (prok_below hpr hb)
      refine hK'.out _ _ (SA.out _ KP.out) (fun hS => ?_)
      clear hK' K' hb hsf hpr hsub hlu hru hwu
      refine wpAnyH_take (i := 8) (v := .tuple #[prval Q, .bool o.isSome]) rfl (by kernel_rfl) (by kernel_rfl) (by kernel_rfl) (fun _ _ _ h => h) (Or.inl ⟨by kernel_rfl, fun w' hw' => by go_simp⟩) hS ?_
      refine wpAnyH_take (i := 9) (v := prval Q) rfl (by kernel_rfl) (by kernel_rfl) (by kernel_rfl) (fun _ _ _ h => h) (Or.inl ⟨by kernel_rfl, fun w' hw' => by go_simp⟩) hS ?_
      refine wpAnyH_take (i := 10) (v := .bool o.isSome) rfl (by kernel_rfl) (by kernel_rfl) (by kernel_rfl) (fun _ _ _ h => h) (Or.inl ⟨by kernel_rfl, fun w' hw' => by go_simp⟩) hS ?_
      refine wpAnyH_ready (rs := [12]) (by kernel_rfl) (by simp) ?_
      refine AllReadyH.cons rfl (fun K' hK' => ?_) AllReadyH.nil
      clear hS
      have fz := K11.out.frozen
      have r0 := K11.out.cell 0 rfl
      have r1 := K11.out.cell 1 rfl
      go_simp
      have KP2 := Hid.of (blk_other2 KP.out (b' := pq) (by have := P11.out; have := HVP.out; omega) (.slice Q.a Q.n Q.c) (.slice Q.a' Q.n' Q.c'))
      have BV2 := Hid.of (below_set2 BV.out (b' := pq) P11.out (.slice Q.a Q.n Q.c) (.slice Q.a' Q.n' Q.c'))
      have PF2 := Hid.of (prok_set PF.out K11.out (.slice Q.a Q.n Q.c) (.slice Q.a' Q.n' Q.c'))
      have KQ := Hid.of (blk_pair (Q := ⟨none, 0, 0, none, 0, 0⟩) K11.out Q)
      refine hK'.out _ _ (SA.out _ KP2.out) (fun hS => ?_)
      clear hK' K' fz r0 r1 KP K11 BV PF RU
      refine wpAnyH_take (i := 13) (v := .bool o.isSome) rfl (by kernel_rfl) (by kernel_rfl) (by kernel_rfl) (fun _ _ _ h => h) (Or.inl ⟨by kernel_rfl, fun w' hw' => by go_simp⟩) hS ?_
      refine wpAnyH_done (by kernel_rfl) ?_ _
      clear hS
      go_wp2_with fail
      refine wp_region_held_drew (S := fun w' => w'.cell? ⟨pq, 0, none⟩ = some (.slice Q.a Q.n Q.c) ∧ w'.cell? ⟨pq, 1, none⟩ = some (.slice Q.a' Q.n' Q.c')) (by kernel_rfl) (prcell_at (Blk.drew KQ.out)) (fun hS => ?_)
      refine wpAnyH_take (i := 0) (v := .bool o.isSome) rfl (by kernel_rfl) (by kernel_rfl) (by kernel_rfl) (fun _ _ _ h => h) (Or.inl ⟨by kernel_rfl, fun w' hw' => by obtain ⟨q0, q1⟩ := hw'; go_simp⟩) hS ?_
      refine wpAnyH_take (i := 1) (v := .pointer (some ⟨pq, 0, none⟩)) rfl (by kernel_rfl) (by kernel_rfl) (by kernel_rfl) (fun _ _ _ h => h) (Or.inl ⟨by kernel_rfl, fun w' hw' => by obtain ⟨q0, q1⟩ := hw'; go_simp⟩) hS ?_
      refine wpAnyH_take (i := 2) (v := .slice Q.a Q.n Q.c) rfl (by kernel_rfl) (by kernel_rfl) (by kernel_rfl) (fun _ _ _ h => h) (Or.inl ⟨by kernel_rfl, fun w' hw' => by obtain ⟨q0, q1⟩ := hw'; go_simp⟩) hS ?_
      refine wpAnyH_take (i := 3) (v := .pointer (some ⟨pq, 1, none⟩)) rfl (by kernel_rfl) (by kernel_rfl) (by kernel_rfl) (fun _ _ _ h => h) (Or.inl ⟨by kernel_rfl, fun w' hw' => by obtain ⟨q0, q1⟩ := hw'; go_simp⟩) hS ?_
      refine wpAnyH_take (i := 4) (v := .slice Q.a' Q.n' Q.c') rfl (by kernel_rfl) (by kernel_rfl) (by kernel_rfl) (fun _ _ _ h => h) (Or.inl ⟨by kernel_rfl, fun w' hw' => by obtain ⟨q0, q1⟩ := hw'; go_simp⟩) hS ?_
      refine wpAnyH_take (i := 5) (v := .bool o.isSome) rfl (by kernel_rfl) (by kernel_rfl) (by kernel_rfl) (fun _ _ _ h => h) (Or.inl ⟨by kernel_rfl, fun w' hw' => by obtain ⟨q0, q1⟩ := hw'; go_simp⟩) hS ?_
      refine wpAnyH_take (i := 6) (v := .slice Q.a Q.n Q.c) rfl (by kernel_rfl) (by kernel_rfl) (by kernel_rfl) (fun _ _ _ h => h) (Or.inl ⟨by kernel_rfl, fun w' hw' => by obtain ⟨q0, q1⟩ := hw'; go_simp⟩) hS ?_
      refine wpAnyH_take (i := 7) (v := .slice Q.a' Q.n' Q.c') rfl (by kernel_rfl) (by kernel_rfl) (by kernel_rfl) (fun _ _ _ h => h) (Or.inl ⟨by kernel_rfl, fun w' hw' => by obtain ⟨q0, q1⟩ := hw'; go_simp⟩) hS ?_
      refine wpAnyH_take (i := 8) (v := .int .i64 0) rfl (by kernel_rfl) (by kernel_rfl) (by kernel_rfl) (fun _ _ _ h => h) (Or.inl ⟨by kernel_rfl, fun w' hw' => by obtain ⟨q0, q1⟩ := hw'; go_simp⟩) hS ?_
      refine wpAnyH_done (by kernel_rfl) ?_ _
      clear hS
      go_wp2_with fail
      refine bodyPost_ret (v := .tuple #[.bool o.isSome, .slice Q.a Q.n Q.c, .slice Q.a' Q.n' Q.c', .int .i64 0]) (by simp [results, go_sem]) rfl ?_
      rw [stepOut_ok hp.out HM.out, HO.out]
      exact prok_post (prok_drew PF2.out) (B.out.trans (BV2.out.drew.mono B.out.size))
  · have HO : Hid (stepOut p most = (false, ([], []), 6)) := stepOut_out hp.out hr
    by_cases h1 : most < -1
    · have m1 : decide (most < -1) = true := by simpa using h1
      clear hr
      go_wp2_with fail
      refine bodyPost_ret (v := .tuple #[.bool false, .slice none 0 0, .slice none 0 0, .int .i64 6]) (by simp [results, go_sem]) rfl ?_
      rw [HO.out]
      exact ⟨none, 0, none, 0, rfl, .inl rfl, .inl rfl, Nat.zero_le _, Nat.zero_le _, B.out⟩
    · have m1 : decide (most < -1) = false := by simp; omega
      have m2 : decide (1000 < most) = true := by simp; omega
      clear hr h1
      go_wp2_with fail
      refine bodyPost_ret (v := .tuple #[.bool false, .slice none 0 0, .slice none 0 0, .int .i64 6]) (by simp [results, go_sem]) rfl ?_
      rw [HO.out]
      exact ⟨none, 0, none, 0, rfl, .inl rfl, .inl rfl, Nat.zero_le _, Nat.zero_le _, B.out⟩

theorem pStep_any (p : Plant) (P : PTL) (most : Int) (w : World) (h : PAt w p P) (hT : Tab w) :
    Calls Tryd.prog 46 #[ptval p P, .int .i64 most] w fun e w' => StepPost w (stepOut p most) e w' := by
  obtain ⟨Pl, sa, sc, ta, tc⟩ := P
  cases hp : mayP p with
  | false => exact leakS_bad p Pl sa sc ta tc most w (Hid.of h) (Hid.of hp)
  | true => exact leakS_ok p Pl sa sc ta tc most w (Hid.of h) (Hid.of hT) (Hid.of hp)

end Go.Proofs.YtmimjpkllgjdkaaDoor
