/-
  The walk of least.Least.
-/
import Derived.Test.YtbdkaobbfmgnhaaDoorG25
namespace Go.Proofs.YtbdkaobbfmgnhaaDoor
open Go.RowKit
set_option linter.unusedVariables false

set_option maxRecDepth 100000 in
set_option maxHeartbeats 4000000 in
theorem lea_ok (m : Mach) (l : ML) (w : World) (h : Hid (MAt w m l)) (hT : Hid (Tab w)) (hm : Hid (mayB m = true)) (hz : Hid (lrefB m = 0)) (zm : Hid (m.st ≤ 6)) (N ev : Nat) (ars : List Arr) (ends : List Int) (SS : List (List Int)) (hD : Hid (detOut m = (⟨(N : Int), (ev : Int), [0], ars, ends⟩, SS, 0))) (hN : N ≤ 256) (hev : ev ≤ 8) (hel : ends.length ≤ 256) (hal : Hid (ars.length = N * ev)) (hd : Hid (detB ⟨(N : Int), (ev : Int), [0], ars, ends⟩ = true)) (hE : Hid (∀ x ∈ ends, 0 ≤ x ∧ x < (N : Int))) (hA : Hid (∀ f e : Nat, f < N → e < ev → ∃ t : Nat, ars[f * ev + e]? = some ⟨(f : Int), (e : Int), (t : Int)⟩ ∧ toI ars (f : Int) (e : Int) = (t : Int) ∧ t < N)) (hfin : Hid (∀ c : Nat → Nat, RGr c N → (∀ s t : Int, 0 ≤ s → s < (N : Int) → 0 ≤ t → t < (N : Int) → (decide (c s.toNat ≠ c t.toNat) = true ↔ langS ⟨(N : Int), (ev : Int), [0], ars, ends⟩ [s] ≠ langS ⟨(N : Int), (ev : Int), [0], ars, ends⟩ [t])) → IsLeast m ⟨((reps c N).length : Int), (ev : Int), [0], arrF ars c ev N, endF ends c N⟩)) :
    Calls Tryd.prog 41 #[mval m l] w fun e w' => LeastPost w m e w' := by
  have B0 : Hid (Below w.heap.size w ((w.alloc (.cells (mcells m l) 25)).alloc (.cells zcells 25))) := ((Below.refl _ _).alloc (Nat.le_refl _) _).alloc (by simp) _
  have K0 : Hid (Blk ((w.alloc (.cells (mcells m l) 25)).alloc (.cells zcells 25)) w.heap.size 25 (mcells m l)) := (Blk.new w _ _).alloc _
  have R0 : Hid (Blk ((w.alloc (.cells (mcells m l) 25)).alloc (.cells zcells 25)) (w.heap.size + 1) 25 zcells) := by
    have := Blk.new (w.alloc (.cells (mcells m l) 25)) 25 zcells
    rwa [World.size_alloc] at this
  go_enter Tryd.func41, Tryd.ntmps41
  go_wp2_with fail
  revert B0 K0 R0
  generalize (w.alloc (.cells (mcells m l) 25)).alloc (.cells zcells 25) = V0
  intro B0 K0 R0
  refine (lrefuse_any m l _ (h.out.below B0.out (Nat.le_refl _))).mono ?_
  rintro e V ⟨rfl, hb1⟩
  rw [hz.out]
  have B1 := Hid.of (B0.out.trans (hb1.mono B0.out.size))
  have K1 := Hid.of (K0.out.below hb1 K0.out.lt)
  have R1 := Hid.of (R0.out.below hb1 R0.out.lt)
  clear hb1 B0 R0 K0
  obtain ⟨x0, x1, x2, x3, x4⟩ := mcell_at K1.out
  go_wp2_with fail
  clear x0 x1 x2 x3 x4
  refine (dMake_any m l V (h.out.below B1.out (Nat.le_refl _)) (hT.out.below B1.out hT.out.lt)).mono ?_
  rintro e X ⟨L, va, vc, he, hMA, -, -, hb2⟩
  rw [hD.out] at he hMA
  obtain ⟨a1, c1, a2, c2, a3, c3⟩ := L
  dsimp only at he hMA
  subst he
  have B2 := Hid.of (B1.out.trans (hb2.mono B1.out.size))
  have R2 := Hid.of (R1.out.below hb2 R1.out.lt)
  have HM := Hid.of hMA
  clear hb2 B1 R1 K1 hMA
  have HX := Hid.of (Blk.new X 25 (mcells ⟨(N : Int), (ev : Int), [0], ars, ends⟩ ⟨a1, c1, a2, c2, a3, c3⟩))
  have BX : Below X.heap.size X (X.alloc (.cells (mcells ⟨(N : Int), (ev : Int), [0], ars, ends⟩ ⟨a1, c1, a2, c2, a3, c3⟩) 25)) := (Below.refl _ _).alloc (Nat.le_refl _) _
  have B3 := Hid.of (B2.out.trans (BX.mono B2.out.size))
  have R3 := Hid.of (R2.out.below BX R2.out.lt)
  have M3 := Hid.of (HM.out.below BX (Nat.le_refl _))
  have hXl := R2.out.lt
  clear BX B2 R2 HM
  go_wp2_with fail
  revert HX B3 R3 M3
  generalize X.alloc (.cells (mcells ⟨(N : Int), (ev : Int), [0], ars, ends⟩ ⟨a1, c1, a2, c2, a3, c3⟩) 25) = Y
  intro HX B3 R3 M3
  refine wp_region_held_drew (S := fun w' => w'.cell? ⟨X.heap.size, 0, none⟩ = some (.int .i64 (N : Int)) ∧ w'.cell? ⟨X.heap.size, 1, none⟩ = some (.int .i64 (ev : Int)) ∧ w'.cell? ⟨X.heap.size, 2, none⟩ = some (.slice a1 1 c1) ∧ w'.cell? ⟨X.heap.size, 3, none⟩ = some (.slice a2 ars.length c2) ∧ w'.cell? ⟨X.heap.size, 4, none⟩ = some (.slice a3 ends.length c3)) (by kernel_rfl) (mcell_at HX.out) (fun hS => ?_)
  have HXd := Hid.of (HX.out.below (Below.refl _ Y).drew HX.out.lt)
  have B3d := Hid.of (B3.out.drew)
  have R3d := Hid.of (R3.out.below (Below.refl _ Y).drew R3.out.lt)
  have M3d := Hid.of (M3.out.below (Below.refl _ Y).drew (Nat.le_refl _))
  clear HX B3 R3 M3
  revert hS HXd B3d R3d M3d
  generalize Y.drew = Z
  intro hS HX B3 R3 M3
  refine wpAnyH_take (i := 0) (v := mval ⟨(N : Int), (ev : Int), [0], ars, ends⟩ ⟨a1, c1, a2, c2, a3, c3⟩) rfl (by kernel_rfl) (by kernel_rfl) (by kernel_rfl) (fun _ _ _ h => h) (Or.inl ⟨by kernel_rfl, fun w' hw' => by obtain ⟨q0, q1, q2, q3, q4⟩ := hw'; go_simp⟩) hS ?_
  refine wpAnyH_take (i := 1) (v := mval ⟨(N : Int), (ev : Int), [0], ars, ends⟩ ⟨a1, c1, a2, c2, a3, c3⟩) rfl (by kernel_rfl) (by kernel_rfl) (by kernel_rfl) (fun _ _ _ h => h) (Or.inl ⟨by kernel_rfl, fun w' hw' => by obtain ⟨q0, q1, q2, q3, q4⟩ := hw'; go_simp⟩) hS ?_
  simp only [Act.put, List.setIfInBounds_toArray]
  refine wpAnyH_ready (rs := [2]) (by kernel_rfl) (by simp) ?_
  refine AllReadyH.cons rfl (fun K' hK' => ?_) AllReadyH.nil
  go_simp
  refine (kinds_any N ev [0] ars ends a1 c1 a2 c2 a3 c3 Z hN hev hel hal hd M3 hE hA).mono ?_
  rintro e Z1 ⟨gk, c, rfl, hR, hb4, -, hrg, hap⟩
  have HR := Hid.of hR
  have HLE := Hid.of (hfin.out c hrg hap)
  have HX1 := Hid.of (HX.out.below hb4 HX.out.lt)
  have B4 := Hid.of (B3.out.trans (hb4.mono B3.out.size))
  have R4 := Hid.of (R3.out.below hb4 R3.out.lt)
  have M4 := Hid.of (M3.out.below hb4 (Nat.le_refl _))
  refine hK'.out _ _ (mcell_at HX1.out) (fun hS1 => ?_)
  clear hK' K' hR hrg hap hb4 HX B3 R3 M3 hS
  refine wpAnyH_ready (rs := [3]) (by kernel_rfl) (by simp) ?_
  refine AllReadyH.cons rfl (fun K' hK' => ?_) AllReadyH.nil
  go_simp
  refine (fold_any N ev [0] ars ends a1 c1 a2 c2 a3 c3 gk c Z1 hN hev hal M4 hA HR).mono ?_
  rintro e Z2 ⟨⟨b1, d1, b2, d2, b3, d3⟩, rfl, hMF, hFR, hb5⟩
  have HX2 := Hid.of (HX1.out.below hb5 HX1.out.lt)
  have B5 := Hid.of (B4.out.trans (hb5.mono B4.out.size))
  have R5 := Hid.of (R4.out.below hb5 R4.out.lt)
  have hZ1 : w.heap.size + 1 < Z1.heap.size := R4.out.lt
  refine hK'.out _ _ (mcell_at HX2.out) (fun hS2 => ?_)
  clear hK' K' hb5 HX1 B4 R4 M4 hS1 HR
  obtain ⟨r0, r1, r2, r3, r4⟩ := zcell_at R5.out
  have rz := R5.out.frozen
  obtain ⟨A, HAA⟩ : ∃ A, Hid (A = arrF ars c ev N) := ⟨_, rfl⟩
  obtain ⟨E, HEE⟩ : ∃ E, Hid (E = endF ends c N) := ⟨_, rfl⟩
  obtain ⟨K, HKK⟩ : ∃ K : Int, Hid (K = ((reps c N).length : Int)) := ⟨_, rfl⟩
  rw [← HAA.out, ← HEE.out, ← HKK.out] at HLE hMF hFR
  rw [← HAA.out, ← HEE.out, ← HKK.out]
  have HMF := Hid.of hMF
  have HFR := Hid.of hFR
  clear hMF hFR
  have RR := Hid.of (R5.out.set5 (.int .i64 K) (.int .i64 ev) (.slice b1 1 d1) (.slice b2 A.length d2) (.slice b3 E.length d3))
  have BB := Hid.of (below_set5 B5.out (b' := w.heap.size + 1) (by omega) (.int .i64 K) (.int .i64 ev) (.slice b1 1 d1) (.slice b2 A.length d2) (.slice b3 E.length d3))
  have MM := Hid.of (HMF.out.set5 HFR.out (b := w.heap.size + 1) (by omega) (.int .i64 K) (.int .i64 ev) (.slice b1 1 d1) (.slice b2 A.length d2) (.slice b3 E.length d3))
  have XX := Hid.of (Blk.other5 HX2.out (b' := w.heap.size + 1) (by omega) (.int .i64 K) (.int .i64 ev) (.slice b1 1 d1) (.slice b2 A.length d2) (.slice b3 E.length d3))
  refine wpAnyH_ready (rs := [4]) (by kernel_rfl) (by simp) ?_
  refine AllReadyH.cons rfl (fun K' hK' => ?_) AllReadyH.nil
  go_simp
  refine hK'.out _ _ (mcell_at XX.out) (fun hS3 => ?_)
  clear hK' K' r0 r1 r2 r3 r4 rz hS2
  refine wpAnyH_take (i := 5) (v := .int .i64 0) rfl (by kernel_rfl) (by kernel_rfl) (by kernel_rfl) (fun _ _ _ h => h) (Or.inl ⟨by kernel_rfl, fun w' hw' => by obtain ⟨q0, q1, q2, q3, q4⟩ := hw'; go_simp⟩) hS3 ?_
  refine wpAnyH_done (by kernel_rfl) ?_ _
  clear hS3
  revert RR BB MM
  generalize ((((Z2.setCell ⟨w.heap.size + 1, 0, none⟩ (.int .i64 K)).setCell ⟨w.heap.size + 1, 1, none⟩ (.int .i64 ev)).setCell ⟨w.heap.size + 1, 2, none⟩ (.slice b1 1 d1)).setCell ⟨w.heap.size + 1, 3, none⟩ (.slice b2 A.length d2)).setCell ⟨w.heap.size + 1, 4, none⟩ (.slice b3 E.length d3) = Q
  intro RR BB MM
  go_wp2_with fail
  refine bodyPost_ret (v := .tuple #[mval ⟨K, (ev : Int), [0], A, E⟩ ⟨b1, d1, b2, d2, b3, d3⟩, .int .i64 0]) ?_ rfl ⟨⟨K, (ev : Int), [0], A, E⟩, ⟨b1, d1, b2, d2, b3, d3⟩, 0, .inr (.inr ⟨hm.out, zm.out, rfl, HLE.out⟩), rfl, MM.out, BB.out⟩
  refine results_twoM (p := 2) (u := 3) rfl _ _ (w.heap.size + 1) ⟨K, (ev : Int), [0], A, E⟩ ⟨b1, d1, b2, d2, b3, d3⟩ _ ?_ ?_ RR.out
  · rfl
  · rfl

theorem pLeast_any (m : Mach) (l : ML) (w : World) (h : MAt w m l) (hT : Tab w) : Calls Tryd.prog 41 #[mval m l] w fun e w' => LeastPost w m e w' := by
  cases hm : mayB m with
  | false => exact lea_err m l w (Hid.of h) (show _ ≠ _ by unfold lrefB; rw [if_pos hm]; simp) (show LeastOut _ _ _ by unfold lrefB; rw [if_pos hm]; exact .inl ⟨hm, rfl, rfl⟩)
  | true =>
    by_cases zs : 6 < m.st
    · exact lea_err m l w (Hid.of h) (show _ ≠ _ by unfold lrefB; rw [if_neg (by rw [hm]; simp), if_pos zs]; simp) (show LeastOut _ _ _ by unfold lrefB; rw [if_neg (by rw [hm]; simp), if_pos zs]; exact .inr (.inl ⟨hm, zs, rfl, rfl⟩))
    · have zm : m.st ≤ 6 := by omega
      obtain ⟨s, hs, h64⟩ := det_small hm zm
      have hz := mayB_size hm
      unfold sizeOk at hz
      obtain ⟨ev, hE⟩ : ∃ ev : Nat, m.ev = (ev : Int) := ⟨m.ev.toNat, by omega⟩
      have hev : m.ev.toNat = ev := by omega
      have hdi := (detS_di hm hs).1
      have hd := det_det hm hs
      have hmd : mayB (detM m s) = true := by unfold detB at hd; rw [Bool.and_eq_true] at hd; exact hd.1
      have hDM : detM m s = ⟨(s.sets.length : Int), (ev : Int), [0], s.ar, endsD m.ends s.sets⟩ := by unfold detM; rw [hE]
      refine lea_ok m l w (Hid.of h) (Hid.of hT) (Hid.of hm) (show lrefB m = 0 by unfold lrefB; rw [if_neg (by rw [hm]; simp), if_neg zs]) (Hid.of zm) s.sets.length ev s.ar (endsD m.ends s.sets) s.sets (show _ = _ by rw [detOut_some hm hs, hDM]) (by omega) (by omega) (Nat.le_trans (endsFrom_len m.ends 0 s.sets) (by omega)) (show _ = _ by rw [hdi.len, hev]) (show _ = _ by rw [← hDM]; exact hd) (fun x hx => ?_) (fun f e hf he => ?_) (fun c hrg hap => ?_)
      · have := (may_ends hmd).2 x hx
        exact this
      · have := det_arrow hm hs (f := f) (e := e) hf (by omega)
        rw [hev] at this
        exact this
      · rw [← hDM] at hap
        exact fold_isLeast hm zm hs hE rfl hrg hap

end Go.Proofs.YtbdkaobbfmgnhaaDoor
