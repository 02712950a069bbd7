/-
  The walk of control.Keep.
-/
import Derived.Test.YtmlkpdeidpcidaaDoorJ21
import Derived.Test.YtmlkpdeidpcidaaDoorFCSpl
import Derived.Test.YtmlkpdeidpcidaaDoorJ16
import Derived.Test.YtmlkpdeidpcidaaDoorJ14
import Derived.Test.YtmlkpdeidpcidaaDoorJ10
import Derived.Test.YtmlkpdeidpcidaaDoorJ08
import Derived.Test.YtmlkpdeidpcidaaDoorJ18
import Derived.Test.YtmlkpdeidpcidaaDoorJ12
import Derived.Test.YtmlkpdeidpcidaaDoorJ05
namespace Go.Proofs.YtmlkpdeidpcidaaDoor
open Go.RowKit
set_option linter.unusedVariables false

set_option maxRecDepth 100000 in
set_option maxHeartbeats 8000000 in
theorem pCtl_go (st : Int) (ev : Int) (starts : List Int) (ars : List Arr) (ends : List Int) (a1 : Option Addr) (c1 : Nat) (a2 : Option Addr) (c2 : Nat) (a3 : Option Addr) (c3 : Nat) (fa : Option Addr) (fc : Nat) (free : List Int) (ba : Option Addr) (bc : Nat) (bad : List Int) (w : World) (h0 : MAt w ⟨st, ev, starts, ars, ends⟩ ⟨a1, c1, a2, c2, a3, c3⟩) (hs0 : At w fa free) (hsl0 : free.length ≤ maxLen) (hf0 : At w ba bad) (hfl0 : bad.length ≤ maxLen) (hT0 : Tab w) :
    Calls Tryd.prog 186 #[mval ⟨st, ev, starts, ars, ends⟩ ⟨a1, c1, a2, c2, a3, c3⟩, .slice fa free.length fc, .slice ba bad.length bc] w fun e w' => CtlPost w (ctlOut ⟨st, ev, starts, ars, ends⟩ free bad) e w' := by
  have h := Hid.of h0
  have hs := Hid.of hs0
  have hsl := Hid.of hsl0
  have hf := Hid.of hf0
  have hfl := Hid.of hfl0
  have hT := Hid.of hT0
  clear h0 hs0 hsl0 hf0 hfl0 hT0
  obtain ⟨m, HM⟩ : ∃ m : Mach, Hid (m = ⟨st, ev, starts, ars, ends⟩) := ⟨_, rfl⟩
  obtain ⟨l, HL⟩ : ∃ l : ML, Hid (l = ⟨a1, c1, a2, c2, a3, c3⟩) := ⟨_, rfl⟩
  obtain ⟨r, HR⟩ : ∃ r, Hid (r = ctlOut ⟨st, ev, starts, ars, ends⟩ free bad) := ⟨_, rfl⟩
  rw [← HR.out]
  have B0 : Hid (Below w.heap.size w (w.alloc (.cells (mcells ⟨st, ev, starts, ars, ends⟩ ⟨a1, c1, a2, c2, a3, c3⟩) 25))) := (Below.refl _ _).alloc (Nat.le_refl _) _
  have K0 : Hid (Blk (w.alloc (.cells (mcells ⟨st, ev, starts, ars, ends⟩ ⟨a1, c1, a2, c2, a3, c3⟩) 25)) w.heap.size 25 (mcells ⟨st, ev, starts, ars, ends⟩ ⟨a1, c1, a2, c2, a3, c3⟩)) := Blk.new w _ _
  go_enter Tryd.func186, Tryd.ntmps186
  go_wp2_with fail
  revert B0 K0
  generalize w.alloc (.cells (mcells ⟨st, ev, starts, ars, ends⟩ ⟨a1, c1, a2, c2, a3, c3⟩) 25) = V0
  intro B0 K0
  refine (pMay_any ⟨st, ev, starts, ars, ends⟩ ⟨a1, c1, a2, c2, a3, c3⟩ _ (h.out.below B0.out (Nat.le_refl _))).mono ?_
  rintro e V ⟨rfl, hb1⟩
  rw [← HM.out]
  have B := Hid.of (B0.out.trans (hb1.mono B0.out.size))
  have K := Hid.of (K0.out.below hb1 K0.out.lt)
  clear hb1 B0 K0
  obtain ⟨x0, x1, x2, x3, x4⟩ := mcell_at K.out
  dsimp only at x0 x1 x2 x3 x4
  cases hm : mayB m with
  | false =>
    have HO : Hid (r = ([], 2)) := HR.out.trans (by rw [← HM.out]; exact ctlOut_bad (by rw [hm]; rfl))
    clear hm
    go_wp2_with fail
    exact bodyPost_ret (v := .tuple #[.slice none 0 0, .int .i64 2]) (by simp [results, go_sem]) rfl ⟨none, 0, by rw [HO.out]; rfl, by rw [HO.out]; exact .inl rfl, by rw [HO.out]; simp [maxLen], B.out⟩
  | true =>
    have HMM := Hid.of hm
    clear hm
    go_wp2_with fail
    refine (rowIs_any fa fc free ev V (hs.out.below B.out (Nat.le_refl _)) hsl.out).mono ?_
    rintro e V3 ⟨rfl, rfl⟩
    cases hr : rowB ev free with
    | false =>
      have HO : Hid (r = ([], 2)) := HR.out.trans (by rw [← HM.out]; exact ctlOut_bad (by rw [HM.out]; show (_ && (rowB ev free && _)) = false; rw [hr]; simp))
      clear hr
      go_wp2_with fail
      exact bodyPost_ret (v := .tuple #[.slice none 0 0, .int .i64 2]) (by simp [results, go_sem]) rfl ⟨none, 0, by rw [HO.out]; rfl, by rw [HO.out]; exact .inl rfl, by rw [HO.out]; simp [maxLen], B.out⟩
    | true =>
      have HRF := Hid.of hr
      clear hr
      go_wp2_with fail
      refine (rowIs_any ba bc bad st V3 (hf.out.below B.out (Nat.le_refl _)) hfl.out).mono ?_
      rintro e V4 ⟨rfl, rfl⟩
      cases hr : rowB st bad with
      | false =>
        have HO : Hid (r = ([], 2)) := HR.out.trans (by rw [← HM.out]; exact ctlOut_bad (by rw [HM.out]; show (_ && (_ && rowB st bad)) = false; rw [hr]; simp))
        clear hr
        go_wp2_with fail
        exact bodyPost_ret (v := .tuple #[.slice none 0 0, .int .i64 2]) (by simp [results, go_sem]) rfl ⟨none, 0, by rw [HO.out]; rfl, by rw [HO.out]; exact .inl rfl, by rw [HO.out]; simp [maxLen], B.out⟩
      | true =>
        have HRB := Hid.of hr
        have HO : Hid (r = (keepL m free bad, 0)) := HR.out.trans (by rw [← HM.out]; exact ctlOut_ok (by rw [HMM.out, HM.out]; show (true && (rowB ev free && rowB st bad)) = true; rw [HRF.out, hr]; rfl))
        clear hr
        have hsz := mayB_size HMM.out
        rw [HM.out] at hsz
        unfold sizeOk at hsz
        dsimp only at hsz
        obtain ⟨N, hN⟩ : ∃ N : Nat, st = (N : Int) := ⟨st.toNat, by omega⟩
        subst hN
        have hN256 : N ≤ 256 := by omega
        have HBB : Hid (∀ x ∈ bad, 0 ≤ x ∧ x < 256) := fun x hx => by
          have := ((rowB_iff _ (by omega) _).1 HRB.out).2 x hx
          omega
        have HAR : Hid (∀ a ∈ ars, (0 ≤ a.f ∧ a.f < (N : Int)) ∧ 0 ≤ a.t ∧ a.t < (N : Int)) := fun a ha => by
          have := may_arrs HMM.out a (by rw [HM.out]; exact ha)
          rw [HM.out] at this
          exact ⟨⟨this.1, this.2.1⟩, this.2.2.1, this.2.2.2.1⟩
        have HAL : Hid (ars.length ≤ 4096) := hsz.2.2.2.2
        have BD : Hid (Below w.heap.size w V4.drew) := Hid.of B.out.drew
        have KD : Hid (Blk V4.drew w.heap.size 25 (mcells ⟨N, ev, starts, ars, ends⟩ ⟨a1, c1, a2, c2, a3, c3⟩)) := K.out
        have HOK : Hid (∀ n, okS (fcT free ars n)) := fun n => ok_fcT free ars n
        have HO0 : Hid (okS (ofS bad)) := by
          have := rep_of (l := bad) HBB.out bad.length
          rw [List.take_of_length_le (Nat.le_refl _)] at this
          exact this.ok
        have OFB : Hid (∀ Y, Below w.heap.size w Y → Calls Tryd.prog 59 #[.slice ba bad.length bc] Y fun e Y' => e = .returned (sval (ofS bad)) ∧ Below Y.heap.size Y Y') := fun Y hb => of_any ba bc bad Y (hf.out.below hb (Nat.le_refl _)) hfl.out HBB.out
        have FRC : Hid (∀ Y, Below w.heap.size w Y → Calls Tryd.prog 196 #[.agg #[.int .i64 (N : Int), .int .i64 ev, .slice a1 starts.length c1, .slice a2 ars.length c2, .slice a3 ends.length c3], .slice fa free.length fc] Y fun e Y' => ∃ bt, e = .returned (.slice (some ⟨bt, 0, none⟩) N N) ∧ TB Y' bt N (fcT free ars) ∧ Below Y.heap.size Y Y') := fun Y hb =>
          (forced_any N ev starts ars ends a1 c1 a2 c2 a3 c3 fa fc free Y hN256 HAL.out (Hid.of (h.out.below hb (Nat.le_refl _)).a) HAR (Hid.of (hs.out.below hb (Nat.le_refl _))) hsl).mono (fun e w1 h1 => ⟨_, h1.1, h1.2.1, h1.2.2⟩)
        have SPL : Hid (∀ Y bt, TB Y bt N (fcT free ars) → Calls Tryd.prog 195 #[sval (ofS bad), .slice (some ⟨bt, 0, none⟩) N N] Y fun e Y' => ∃ L, e = .returned (sval L) ∧ (SpIC N (fcT free ars) (ofS bad) L ∧ ∀ n, n < N → hasS L n = false → meetB (fcT free ars n) L = false) ∧ Below Y.heap.size Y Y') := fun Y bt hb =>
          (spoil_any N (fcT free ars) (ofS bad) bt Y hN256 HOK HO0 hb).mono (fun e w1 h1 => by obtain ⟨⟨L, r1, r2, r3⟩, r4⟩ := h1; exact ⟨L, r1, ⟨r2, r3⟩, r4⟩)
        have ALL : Hid (∀ Y, Calls Tryd.prog 197 #[.agg #[.int .i64 (N : Int), .int .i64 ev, .slice a1 starts.length c1, .slice a2 ars.length c2, .slice a3 ends.length c3]] Y fun e Y' => e = .returned (sval (firF N)) ∧ Below Y.heap.size Y Y') := fun Y => call_all ⟨(N : Int), ev, starts, ars, ends⟩ ⟨a1, c1, a2, c2, a3, c3⟩ N rfl hN256 Y
        have SA : Hid (∀ W, Blk W w.heap.size 25 (mcells ⟨(N : Int), ev, starts, ars, ends⟩ ⟨a1, c1, a2, c2, a3, c3⟩) → W.cell? ⟨w.heap.size, 0, none⟩ = some (.int .i64 (N : Int)) ∧ W.cell? ⟨w.heap.size, 1, none⟩ = some (.int .i64 ev) ∧ W.cell? ⟨w.heap.size, 2, none⟩ = some (.slice a1 starts.length c1) ∧ W.cell? ⟨w.heap.size, 3, none⟩ = some (.slice a2 ars.length c2) ∧ W.cell? ⟨w.heap.size, 4, none⟩ = some (.slice a3 ends.length c3)) := fun W h1 => ⟨h1.cell 0 rfl, h1.cell 1 rfl, h1.cell 2 rfl, h1.cell 3 rfl, h1.cell 4 rfl⟩
        clear hsz B x0 x1 x2 x3 x4
        go_wp2_with fail
        refine wp_region_held_drew (S := fun w' => w'.cell? ⟨w.heap.size, 0, none⟩ = some (.int .i64 (N : Int)) ∧ w'.cell? ⟨w.heap.size, 1, none⟩ = some (.int .i64 ev) ∧ w'.cell? ⟨w.heap.size, 2, none⟩ = some (.slice a1 starts.length c1) ∧ w'.cell? ⟨w.heap.size, 3, none⟩ = some (.slice a2 ars.length c2) ∧ w'.cell? ⟨w.heap.size, 4, none⟩ = some (.slice a3 ends.length c3)) (by kernel_rfl) (SA.out _ (Blk.drew K.out)) (fun hS => ?_)
        clear K
        revert BD KD hS
        generalize V4.drew = Y0
        intro BD KD hS
        refine wpAnyH_take (i := 0) (v := .slice ba bad.length bc) rfl (by kernel_rfl) (by kernel_rfl) (by kernel_rfl) (fun _ _ _ h => h) (Or.inl ⟨by kernel_rfl, fun w' hw' => by obtain ⟨q0, q1, q2, q3, q4⟩ := hw'; go_simp⟩) hS ?_
        refine wpAnyH_take (i := 2) (v := .agg #[.int .i64 (N : Int), .int .i64 ev, .slice a1 starts.length c1, .slice a2 ars.length c2, .slice a3 ends.length c3]) rfl (by kernel_rfl) (by kernel_rfl) (by kernel_rfl) (fun _ _ _ h => h) (Or.inl ⟨by kernel_rfl, fun w' hw' => by obtain ⟨q0, q1, q2, q3, q4⟩ := hw'; go_simp⟩) hS ?_
        refine wpAnyH_take (i := 3) (v := .slice fa free.length fc) rfl (by kernel_rfl) (by kernel_rfl) (by kernel_rfl) (fun _ _ _ h => h) (Or.inl ⟨by kernel_rfl, fun w' hw' => by obtain ⟨q0, q1, q2, q3, q4⟩ := hw'; go_simp⟩) hS ?_
        simp only [Act.put, List.setIfInBounds_toArray]
        refine wpAnyH_ready (rs := [1, 6]) (by kernel_rfl) (by simp) ?_
        refine AllReadyH.cons rfl (fun K' hK' => ?_) (AllReadyH.cons rfl (fun K' hK' => ?_) AllReadyH.nil)
        · clear hS
          go_simp
          refine (OFB.out Y0 BD.out).mono ?_
          rintro e Y1 ⟨rfl, hb⟩
          replace BD := Hid.of (BD.out.trans (hb.mono BD.out.size))
          replace KD := Hid.of (KD.out.below hb KD.out.lt)
          refine hK'.out _ _ (SA.out _ KD.out) (fun hS => ?_)
          clear hK' K' hb
          refine wpAnyH_ready (rs := [4, 6]) (by kernel_rfl) (by simp) ?_
          refine AllReadyH.cons rfl (fun K' hK' => ?_) (AllReadyH.cons rfl (fun K' hK' => ?_) AllReadyH.nil)
          · clear hS
            go_simp
            refine (FRC.out Y1 BD.out).mono ?_
            rintro e Y2 ⟨bt, rfl, hT2, hb⟩
            replace BD := Hid.of (BD.out.trans (hb.mono BD.out.size))
            replace KD := Hid.of (KD.out.below hb KD.out.lt)
            have KT := Hid.of hT2
            refine hK'.out _ _ (SA.out _ KD.out) (fun hS => ?_)
            clear hK' K' hb hT2
            refine wpAnyH_ready (rs := [5, 6]) (by kernel_rfl) (by simp) ?_
            refine AllReadyH.cons rfl (fun K' hK' => ?_) (AllReadyH.cons rfl (fun K' hK' => ?_) AllReadyH.nil)
            · clear hS
              go_simp
              refine (SPL.out Y2 bt KT.out).mono ?_
              rintro e Y3 ⟨L, rfl, hSp, hb⟩
              replace BD := Hid.of (BD.out.trans (hb.mono BD.out.size))
              replace KD := Hid.of (KD.out.below hb KD.out.lt)
              replace KT := Hid.of (KT.out.below hb KT.out.lt)
              have HSp := Hid.of hSp
              refine hK'.out _ _ (SA.out _ KD.out) (fun hS => ?_)
              clear hK' K' hb hSp
              refine wpAnyH_ready (rs := [6]) (by kernel_rfl) (by simp) ?_
              refine AllReadyH.cons rfl (fun K' hK' => ?_) AllReadyH.nil
              clear hS
              go_simp
              have hb : Below Y3.heap.size Y3 (Y3.alloc (.cells zs4c 85)) := (Below.refl _ _).alloc (Nat.le_refl _) _
              have P8 := Hid.of (Nat.succ_le_of_lt KD.out.lt)
              replace BD := Hid.of (BD.out.trans (hb.mono BD.out.size))
              replace KD := Hid.of (KD.out.below hb KD.out.lt)
              replace KT := Hid.of (KT.out.below hb KT.out.lt)
              have K8 := Hid.of (Blk.new Y3 85 zs4c)
              refine hK'.out _ _ (SA.out _ KD.out) (fun hS => ?_)
              clear hK' K' hb
              revert P8 BD KD KT K8 hS
              generalize Y3.alloc (.cells zs4c 85) = Y4
              generalize Y3.heap.size = p8
              intro P8 BD KD KT K8 hS
              refine wpAnyH_ready (rs := [7]) (by kernel_rfl) (by simp) ?_
              refine AllReadyH.cons rfl (fun K' hK' => ?_) AllReadyH.nil
              have fz := K8.out.frozen
              obtain ⟨r0, r1, r2, r3⟩ := SB.cells (show SB _ p8 zeroS from K8.out)
              go_simp
              replace BD := Hid.of (below_set4 BD.out (b' := p8) (show w.heap.size ≤ p8 by have := P8.out; omega) (.int .u64 (L 0)) (.int .u64 (L 1)) (.int .u64 (L 2)) (.int .u64 (L 3)))
              replace KD := Hid.of (Blk.other4 KD.out (b' := p8) (show w.heap.size ≠ p8 by have := P8.out; omega) (.int .u64 (L 0)) (.int .u64 (L 1)) (.int .u64 (L 2)) (.int .u64 (L 3)))
              replace K8 := Hid.of (SB.set4 (show SB _ p8 zeroS from K8.out) L)
              refine hK'.out _ _ (SA.out _ KD.out) (fun hS7 => ?_)
              clear hK' K' fz r0 r1 r2 r3 hS
              refine wpAnyH_done (by kernel_rfl) ?_ _
              clear hS7 KT
              have HKP : Hid (rowS (lessS (firF N) L) = keepL m free bad) := by
                have := spoil_keep (m := m) (free := free) (bad := bad) (L := L) HMM.out (by rw [HM.out]; exact HRB.out) (by rw [HM.out]; exact HSp.out.1) (by rw [HM.out]; exact HSp.out.2)
                rw [HM.out] at this ⊢
                exact this
              have LSS : Hid (∀ Y, Calls Tryd.prog 134 #[sval (firF N), .agg #[.int .u64 (L 0), .int .u64 (L 1), .int .u64 (L 2), .int .u64 (L 3)]] Y fun e Y' => e = .returned (sval (lessS (firF N) L)) ∧ Below Y.heap.size Y Y') := fun Y => lessc_any (firF N) L Y (ok_firF N) HSp.out.1.ok
              have SA4 : Hid (∀ W, Blk W w.heap.size 25 (mcells ⟨(N : Int), ev, starts, ars, ends⟩ ⟨a1, c1, a2, c2, a3, c3⟩) → SB W p8 L → W.cell? ⟨w.heap.size, 0, none⟩ = some (.int .i64 (N : Int)) ∧ W.cell? ⟨w.heap.size, 1, none⟩ = some (.int .i64 ev) ∧ W.cell? ⟨w.heap.size, 2, none⟩ = some (.slice a1 starts.length c1) ∧ W.cell? ⟨w.heap.size, 3, none⟩ = some (.slice a2 ars.length c2) ∧ W.cell? ⟨w.heap.size, 4, none⟩ = some (.slice a3 ends.length c3) ∧ W.cell? ⟨p8, 0, none⟩ = some (.int .u64 (L 0)) ∧ W.cell? ⟨p8, 1, none⟩ = some (.int .u64 (L 1)) ∧ W.cell? ⟨p8, 2, none⟩ = some (.int .u64 (L 2)) ∧ W.cell? ⟨p8, 3, none⟩ = some (.int .u64 (L 3))) := fun W h1 h2 => ⟨h1.cell 0 rfl, h1.cell 1 rfl, h1.cell 2 rfl, h1.cell 3 rfl, h1.cell 4 rfl, h2.cell 0 rfl, h2.cell 1 rfl, h2.cell 2 rfl, h2.cell 3 rfl⟩
              clear HSp SA
              go_wp2_with fail
              revert BD KD K8
              generalize (((((Y4.setCell ⟨p8, 0, none⟩ (.int .u64 (L 0))).setCell ⟨p8, 1, none⟩ (.int .u64 (L 1))).setCell ⟨p8, 2, none⟩ (.int .u64 (L 2))).setCell ⟨p8, 3, none⟩ (.int .u64 (L 3)))) = Z
              intro BD KD K8
              refine wp_region_held_drew (S := fun w' => w'.cell? ⟨w.heap.size, 0, none⟩ = some (.int .i64 (N : Int)) ∧ w'.cell? ⟨w.heap.size, 1, none⟩ = some (.int .i64 ev) ∧ w'.cell? ⟨w.heap.size, 2, none⟩ = some (.slice a1 starts.length c1) ∧ w'.cell? ⟨w.heap.size, 3, none⟩ = some (.slice a2 ars.length c2) ∧ w'.cell? ⟨w.heap.size, 4, none⟩ = some (.slice a3 ends.length c3) ∧ w'.cell? ⟨p8, 0, none⟩ = some (.int .u64 (L 0)) ∧ w'.cell? ⟨p8, 1, none⟩ = some (.int .u64 (L 1)) ∧ w'.cell? ⟨p8, 2, none⟩ = some (.int .u64 (L 2)) ∧ w'.cell? ⟨p8, 3, none⟩ = some (.int .u64 (L 3))) (by kernel_rfl) (SA4.out _ (Blk.drew KD.out) (Blk.drew K8.out)) (fun hS => ?_)
              replace BD : Hid (Below w.heap.size w Z.drew) := BD.out.drew
              replace KD : Hid (Blk Z.drew w.heap.size 25 (mcells ⟨(N : Int), ev, starts, ars, ends⟩ ⟨a1, c1, a2, c2, a3, c3⟩)) := Blk.drew KD.out
              replace K8 : Hid (SB Z.drew p8 L) := Blk.drew K8.out
              revert hS BD KD K8
              generalize Z.drew = Z0
              intro hS BD KD K8
              refine wpAnyH_take (i := 0) (v := .agg #[.int .i64 (N : Int), .int .i64 ev, .slice a1 starts.length c1, .slice a2 ars.length c2, .slice a3 ends.length c3]) rfl (by kernel_rfl) (by kernel_rfl) (by kernel_rfl) (fun _ _ _ h => h) (Or.inl ⟨by kernel_rfl, fun w' hw' => by obtain ⟨q0, q1, q2, q3, q4, q5, q6, q7, q8⟩ := hw'; go_simp⟩) hS ?_
              refine wpAnyH_take (i := 2) (v := .agg #[.int .u64 (L 0), .int .u64 (L 1), .int .u64 (L 2), .int .u64 (L 3)]) rfl (by kernel_rfl) (by kernel_rfl) (by kernel_rfl) (fun _ _ _ h => h) (Or.inl ⟨by kernel_rfl, fun w' hw' => by obtain ⟨q0, q1, q2, q3, q4, q5, q6, q7, q8⟩ := hw'; go_simp⟩) hS ?_
              simp only [Act.put, List.setIfInBounds_toArray]
              refine wpAnyH_ready (rs := [1]) (by kernel_rfl) (by simp) ?_
              refine AllReadyH.cons rfl (fun K' hK' => ?_) AllReadyH.nil
              clear hS
              go_simp
              refine (ALL.out Z0).mono ?_
              rintro e Y1 ⟨rfl, hb⟩
              replace BD := Hid.of (BD.out.trans (hb.mono BD.out.size))
              replace KD := Hid.of (KD.out.below hb KD.out.lt)
              replace K8 := Hid.of (K8.out.below hb K8.out.lt)
              refine hK'.out _ _ (SA4.out _ KD.out K8.out) (fun hS => ?_)
              clear hK' K' hb
              refine wpAnyH_ready (rs := [3]) (by kernel_rfl) (by simp) ?_
              refine AllReadyH.cons rfl (fun K' hK' => ?_) AllReadyH.nil
              clear hS
              go_simp
              refine (LSS.out Y1).mono ?_
              rintro e Y2 ⟨rfl, hb⟩
              replace BD := Hid.of (BD.out.trans (hb.mono BD.out.size))
              replace KD := Hid.of (KD.out.below hb KD.out.lt)
              replace K8 := Hid.of (K8.out.below hb K8.out.lt)
              refine hK'.out _ _ (SA4.out _ KD.out K8.out) (fun hS => ?_)
              clear hK' K' hb
              refine wpAnyH_ready (rs := [4]) (by kernel_rfl) (by simp) ?_
              refine AllReadyH.cons rfl (fun K' hK' => ?_) AllReadyH.nil
              clear hS
              go_simp
              refine (row_any (lessS (firF N) L) Y2 (okS_less (ok_firF N)) (hT.out.below BD.out hT.out.lt)).mono ?_
              rintro e Y3 ⟨va, vc, rfl, hat, hln, hb⟩
              replace BD := Hid.of (BD.out.trans (hb.mono BD.out.size))
              replace KD := Hid.of (KD.out.below hb KD.out.lt)
              replace K8 := Hid.of (K8.out.below hb K8.out.lt)
              have HAT := Hid.of hat
              have HLN := Hid.of hln
              refine hK'.out _ _ (SA4.out _ KD.out K8.out) (fun hS => ?_)
              clear hK' K' hb hat hln
              refine wpAnyH_take (i := 5) (v := .slice va (rowS (lessS (firF N) L)).length vc) rfl (by kernel_rfl) (by kernel_rfl) (by kernel_rfl) (fun _ _ _ h => h) (Or.inl ⟨by kernel_rfl, fun w' hw' => by obtain ⟨q0, q1, q2, q3, q4, q5, q6, q7, q8⟩ := hw'; go_simp⟩) hS ?_
              refine wpAnyH_take (i := 6) (v := .int .i64 0) rfl (by kernel_rfl) (by kernel_rfl) (by kernel_rfl) (fun _ _ _ h => h) (Or.inl ⟨by kernel_rfl, fun w' hw' => by obtain ⟨q0, q1, q2, q3, q4, q5, q6, q7, q8⟩ := hw'; go_simp⟩) hS ?_
              refine wpAnyH_done (by kernel_rfl) ?_ _
              clear hS
              rw [HKP.out] at HAT HLN
              go_wp2_with fail
              exact bodyPost_ret (v := .tuple #[.slice va (rowS (lessS (firF N) L)).length vc, .int .i64 0]) (by simp [results, go_sem]) rfl ⟨va, vc, by rw [HO.out, HKP.out], by rw [HO.out]; exact HAT.out, by rw [HO.out]; exact HLN.out, BD.out⟩
            · clear hS
              go_simp
              have hb : Below Y2.heap.size Y2 (Y2.alloc (.cells zs4c 85)) := (Below.refl _ _).alloc (Nat.le_refl _) _
              have P8 := Hid.of (Nat.succ_le_of_lt KD.out.lt)
              replace BD := Hid.of (BD.out.trans (hb.mono BD.out.size))
              replace KD := Hid.of (KD.out.below hb KD.out.lt)
              replace KT := Hid.of (KT.out.below hb KT.out.lt)
              have K8 := Hid.of (Blk.new Y2 85 zs4c)
              refine hK'.out _ _ (SA.out _ KD.out) (fun hS => ?_)
              clear hK' K' hb
              revert P8 BD KD KT K8 hS
              generalize Y2.alloc (.cells zs4c 85) = Y5
              generalize Y2.heap.size = p8
              intro P8 BD KD KT K8 hS
              refine wpAnyH_ready (rs := [5]) (by kernel_rfl) (by simp) ?_
              refine AllReadyH.cons rfl (fun K' hK' => ?_) AllReadyH.nil
              clear hS
              go_simp
              refine (SPL.out Y5 bt KT.out).mono ?_
              rintro e Y6 ⟨L, rfl, hSp, hb⟩
              replace BD := Hid.of (BD.out.trans (hb.mono BD.out.size))
              replace KD := Hid.of (KD.out.below hb KD.out.lt)
              replace KT := Hid.of (KT.out.below hb KT.out.lt)
              replace K8 := Hid.of (K8.out.below hb K8.out.lt)
              have HSp := Hid.of hSp
              refine hK'.out _ _ (SA.out _ KD.out) (fun hS => ?_)
              clear hK' K' hb hSp
              refine wpAnyH_ready (rs := [7]) (by kernel_rfl) (by simp) ?_
              refine AllReadyH.cons rfl (fun K' hK' => ?_) AllReadyH.nil
              have fz := K8.out.frozen
              obtain ⟨r0, r1, r2, r3⟩ := SB.cells (show SB _ p8 zeroS from K8.out)
              go_simp
              replace BD := Hid.of (below_set4 BD.out (b' := p8) (show w.heap.size ≤ p8 by have := P8.out; omega) (.int .u64 (L 0)) (.int .u64 (L 1)) (.int .u64 (L 2)) (.int .u64 (L 3)))
              replace KD := Hid.of (Blk.other4 KD.out (b' := p8) (show w.heap.size ≠ p8 by have := P8.out; omega) (.int .u64 (L 0)) (.int .u64 (L 1)) (.int .u64 (L 2)) (.int .u64 (L 3)))
              replace K8 := Hid.of (SB.set4 (show SB _ p8 zeroS from K8.out) L)
              refine hK'.out _ _ (SA.out _ KD.out) (fun hS7 => ?_)
              clear hK' K' fz r0 r1 r2 r3 hS
              refine wpAnyH_done (by kernel_rfl) ?_ _
              clear hS7 KT
              have HKP : Hid (rowS (lessS (firF N) L) = keepL m free bad) := by
                have := spoil_keep (m := m) (free := free) (bad := bad) (L := L) HMM.out (by rw [HM.out]; exact HRB.out) (by rw [HM.out]; exact HSp.out.1) (by rw [HM.out]; exact HSp.out.2)
                rw [HM.out] at this ⊢
                exact this
              have LSS : Hid (∀ Y, Calls Tryd.prog 134 #[sval (firF N), .agg #[.int .u64 (L 0), .int .u64 (L 1), .int .u64 (L 2), .int .u64 (L 3)]] Y fun e Y' => e = .returned (sval (lessS (firF N) L)) ∧ Below Y.heap.size Y Y') := fun Y => lessc_any (firF N) L Y (ok_firF N) HSp.out.1.ok
              have SA4 : Hid (∀ W, Blk W w.heap.size 25 (mcells ⟨(N : Int), ev, starts, ars, ends⟩ ⟨a1, c1, a2, c2, a3, c3⟩) → SB W p8 L → W.cell? ⟨w.heap.size, 0, none⟩ = some (.int .i64 (N : Int)) ∧ W.cell? ⟨w.heap.size, 1, none⟩ = some (.int .i64 ev) ∧ W.cell? ⟨w.heap.size, 2, none⟩ = some (.slice a1 starts.length c1) ∧ W.cell? ⟨w.heap.size, 3, none⟩ = some (.slice a2 ars.length c2) ∧ W.cell? ⟨w.heap.size, 4, none⟩ = some (.slice a3 ends.length c3) ∧ W.cell? ⟨p8, 0, none⟩ = some (.int .u64 (L 0)) ∧ W.cell? ⟨p8, 1, none⟩ = some (.int .u64 (L 1)) ∧ W.cell? ⟨p8, 2, none⟩ = some (.int .u64 (L 2)) ∧ W.cell? ⟨p8, 3, none⟩ = some (.int .u64 (L 3))) := fun W h1 h2 => ⟨h1.cell 0 rfl, h1.cell 1 rfl, h1.cell 2 rfl, h1.cell 3 rfl, h1.cell 4 rfl, h2.cell 0 rfl, h2.cell 1 rfl, h2.cell 2 rfl, h2.cell 3 rfl⟩
              clear HSp SA
              go_wp2_with fail
              revert BD KD K8
              generalize (((((Y6.setCell ⟨p8, 0, none⟩ (.int .u64 (L 0))).setCell ⟨p8, 1, none⟩ (.int .u64 (L 1))).setCell ⟨p8, 2, none⟩ (.int .u64 (L 2))).setCell ⟨p8, 3, none⟩ (.int .u64 (L 3)))) = Z
              intro BD KD K8
              refine wp_region_held_drew (S := fun w' => w'.cell? ⟨w.heap.size, 0, none⟩ = some (.int .i64 (N : Int)) ∧ w'.cell? ⟨w.heap.size, 1, none⟩ = some (.int .i64 ev) ∧ w'.cell? ⟨w.heap.size, 2, none⟩ = some (.slice a1 starts.length c1) ∧ w'.cell? ⟨w.heap.size, 3, none⟩ = some (.slice a2 ars.length c2) ∧ w'.cell? ⟨w.heap.size, 4, none⟩ = some (.slice a3 ends.length c3) ∧ w'.cell? ⟨p8, 0, none⟩ = some (.int .u64 (L 0)) ∧ w'.cell? ⟨p8, 1, none⟩ = some (.int .u64 (L 1)) ∧ w'.cell? ⟨p8, 2, none⟩ = some (.int .u64 (L 2)) ∧ w'.cell? ⟨p8, 3, none⟩ = some (.int .u64 (L 3))) (by kernel_rfl) (SA4.out _ (Blk.drew KD.out) (Blk.drew K8.out)) (fun hS => ?_)
              replace BD : Hid (Below w.heap.size w Z.drew) := BD.out.drew
              replace KD : Hid (Blk Z.drew w.heap.size 25 (mcells ⟨(N : Int), ev, starts, ars, ends⟩ ⟨a1, c1, a2, c2, a3, c3⟩)) := Blk.drew KD.out
              replace K8 : Hid (SB Z.drew p8 L) := Blk.drew K8.out
              revert hS BD KD K8
              generalize Z.drew = Z0
              intro hS BD KD K8
              refine wpAnyH_take (i := 0) (v := .agg #[.int .i64 (N : Int), .int .i64 ev, .slice a1 starts.length c1, .slice a2 ars.length c2, .slice a3 ends.length c3]) rfl (by kernel_rfl) (by kernel_rfl) (by kernel_rfl) (fun _ _ _ h => h) (Or.inl ⟨by kernel_rfl, fun w' hw' => by obtain ⟨q0, q1, q2, q3, q4, q5, q6, q7, q8⟩ := hw'; go_simp⟩) hS ?_
              refine wpAnyH_take (i := 2) (v := .agg #[.int .u64 (L 0), .int .u64 (L 1), .int .u64 (L 2), .int .u64 (L 3)]) rfl (by kernel_rfl) (by kernel_rfl) (by kernel_rfl) (fun _ _ _ h => h) (Or.inl ⟨by kernel_rfl, fun w' hw' => by obtain ⟨q0, q1, q2, q3, q4, q5, q6, q7, q8⟩ := hw'; go_simp⟩) hS ?_
              simp only [Act.put, List.setIfInBounds_toArray]
              refine wpAnyH_ready (rs := [1]) (by kernel_rfl) (by simp) ?_
              refine AllReadyH.cons rfl (fun K' hK' => ?_) AllReadyH.nil
              clear hS
              go_simp
              refine (ALL.out Z0).mono ?_
              rintro e Y1 ⟨rfl, hb⟩
              replace BD := Hid.of (BD.out.trans (hb.mono BD.out.size))
              replace KD := Hid.of (KD.out.below hb KD.out.lt)
              replace K8 := Hid.of (K8.out.below hb K8.out.lt)
              refine hK'.out _ _ (SA4.out _ KD.out K8.out) (fun hS => ?_)
              clear hK' K' hb
              refine wpAnyH_ready (rs := [3]) (by kernel_rfl) (by simp) ?_
              refine AllReadyH.cons rfl (fun K' hK' => ?_) AllReadyH.nil
              clear hS
              go_simp
              refine (LSS.out Y1).mono ?_
              rintro e Y2 ⟨rfl, hb⟩
              replace BD := Hid.of (BD.out.trans (hb.mono BD.out.size))
              replace KD := Hid.of (KD.out.below hb KD.out.lt)
              replace K8 := Hid.of (K8.out.below hb K8.out.lt)
              refine hK'.out _ _ (SA4.out _ KD.out K8.out) (fun hS => ?_)
              clear hK' K' hb
              refine wpAnyH_ready (rs := [4]) (by kernel_rfl) (by simp) ?_
              refine AllReadyH.cons rfl (fun K' hK' => ?_) AllReadyH.nil
              clear hS
              go_simp
              refine (row_any (lessS (firF N) L) Y2 (okS_less (ok_firF N)) (hT.out.below BD.out hT.out.lt)).mono ?_
              rintro e Y3 ⟨va, vc, rfl, hat, hln, hb⟩
              replace BD := Hid.of (BD.out.trans (hb.mono BD.out.size))
              replace KD := Hid.of (KD.out.below hb KD.out.lt)
              replace K8 := Hid.of (K8.out.below hb K8.out.lt)
              have HAT := Hid.of hat
              have HLN := Hid.of hln
              refine hK'.out _ _ (SA4.out _ KD.out K8.out) (fun hS => ?_)
              clear hK' K' hb hat hln
              refine wpAnyH_take (i := 5) (v := .slice va (rowS (lessS (firF N) L)).length vc) rfl (by kernel_rfl) (by kernel_rfl) (by kernel_rfl) (fun _ _ _ h => h) (Or.inl ⟨by kernel_rfl, fun w' hw' => by obtain ⟨q0, q1, q2, q3, q4, q5, q6, q7, q8⟩ := hw'; go_simp⟩) hS ?_
              refine wpAnyH_take (i := 6) (v := .int .i64 0) rfl (by kernel_rfl) (by kernel_rfl) (by kernel_rfl) (fun _ _ _ h => h) (Or.inl ⟨by kernel_rfl, fun w' hw' => by obtain ⟨q0, q1, q2, q3, q4, q5, q6, q7, q8⟩ := hw'; go_simp⟩) hS ?_
              refine wpAnyH_done (by kernel_rfl) ?_ _
              clear hS
              rw [HKP.out] at HAT HLN
              go_wp2_with fail
              exact bodyPost_ret (v := .tuple #[.slice va (rowS (lessS (firF N) L)).length vc, .int .i64 0]) (by simp [results, go_sem]) rfl ⟨va, vc, by rw [HO.out, HKP.out], by rw [HO.out]; exact HAT.out, by rw [HO.out]; exact HLN.out, BD.out⟩
          · clear hS
            go_simp
            have hb : Below Y1.heap.size Y1 (Y1.alloc (.cells zs4c 85)) := (Below.refl _ _).alloc (Nat.le_refl _) _
            have P8 := Hid.of (Nat.succ_le_of_lt KD.out.lt)
            replace BD := Hid.of (BD.out.trans (hb.mono BD.out.size))
            replace KD := Hid.of (KD.out.below hb KD.out.lt)
            have K8 := Hid.of (Blk.new Y1 85 zs4c)
            refine hK'.out _ _ (SA.out _ KD.out) (fun hS => ?_)
            clear hK' K' hb
            revert P8 BD KD K8 hS
            generalize Y1.alloc (.cells zs4c 85) = Y7
            generalize Y1.heap.size = p8
            intro P8 BD KD K8 hS
            refine wpAnyH_ready (rs := [4]) (by kernel_rfl) (by simp) ?_
            refine AllReadyH.cons rfl (fun K' hK' => ?_) AllReadyH.nil
            clear hS
            go_simp
            refine (FRC.out Y7 BD.out).mono ?_
            rintro e Y8 ⟨bt, rfl, hT2, hb⟩
            replace BD := Hid.of (BD.out.trans (hb.mono BD.out.size))
            replace KD := Hid.of (KD.out.below hb KD.out.lt)
            replace K8 := Hid.of (K8.out.below hb K8.out.lt)
            have KT := Hid.of hT2
            refine hK'.out _ _ (SA.out _ KD.out) (fun hS => ?_)
            clear hK' K' hb hT2
            refine wpAnyH_ready (rs := [5]) (by kernel_rfl) (by simp) ?_
            refine AllReadyH.cons rfl (fun K' hK' => ?_) AllReadyH.nil
            clear hS
            go_simp
            refine (SPL.out Y8 bt KT.out).mono ?_
            rintro e Y9 ⟨L, rfl, hSp, hb⟩
            replace BD := Hid.of (BD.out.trans (hb.mono BD.out.size))
            replace KD := Hid.of (KD.out.below hb KD.out.lt)
            replace K8 := Hid.of (K8.out.below hb K8.out.lt)
            replace KT := Hid.of (KT.out.below hb KT.out.lt)
            have HSp := Hid.of hSp
            refine hK'.out _ _ (SA.out _ KD.out) (fun hS => ?_)
            clear hK' K' hb hSp
            refine wpAnyH_ready (rs := [7]) (by kernel_rfl) (by simp) ?_
            refine AllReadyH.cons rfl (fun K' hK' => ?_) AllReadyH.nil
            have fz := K8.out.frozen
            obtain ⟨r0, r1, r2, r3⟩ := SB.cells (show SB _ p8 zeroS from K8.out)
            go_simp
            replace BD := Hid.of (below_set4 BD.out (b' := p8) (show w.heap.size ≤ p8 by have := P8.out; omega) (.int .u64 (L 0)) (.int .u64 (L 1)) (.int .u64 (L 2)) (.int .u64 (L 3)))
            replace KD := Hid.of (Blk.other4 KD.out (b' := p8) (show w.heap.size ≠ p8 by have := P8.out; omega) (.int .u64 (L 0)) (.int .u64 (L 1)) (.int .u64 (L 2)) (.int .u64 (L 3)))
            replace K8 := Hid.of (SB.set4 (show SB _ p8 zeroS from K8.out) L)
            refine hK'.out _ _ (SA.out _ KD.out) (fun hS7 => ?_)
            clear hK' K' fz r0 r1 r2 r3 hS
            refine wpAnyH_done (by kernel_rfl) ?_ _
            clear hS7 KT
            have HKP : Hid (rowS (lessS (firF N) L) = keepL m free bad) := by
              have := spoil_keep (m := m) (free := free) (bad := bad) (L := L) HMM.out (by rw [HM.out]; exact HRB.out) (by rw [HM.out]; exact HSp.out.1) (by rw [HM.out]; exact HSp.out.2)
              rw [HM.out] at this ⊢
              exact this
            have LSS : Hid (∀ Y, Calls Tryd.prog 134 #[sval (firF N), .agg #[.int .u64 (L 0), .int .u64 (L 1), .int .u64 (L 2), .int .u64 (L 3)]] Y fun e Y' => e = .returned (sval (lessS (firF N) L)) ∧ Below Y.heap.size Y Y') := fun Y => lessc_any (firF N) L Y (ok_firF N) HSp.out.1.ok
            have SA4 : Hid (∀ W, Blk W w.heap.size 25 (mcells ⟨(N : Int), ev, starts, ars, ends⟩ ⟨a1, c1, a2, c2, a3, c3⟩) → SB W p8 L → W.cell? ⟨w.heap.size, 0, none⟩ = some (.int .i64 (N : Int)) ∧ W.cell? ⟨w.heap.size, 1, none⟩ = some (.int .i64 ev) ∧ W.cell? ⟨w.heap.size, 2, none⟩ = some (.slice a1 starts.length c1) ∧ W.cell? ⟨w.heap.size, 3, none⟩ = some (.slice a2 ars.length c2) ∧ W.cell? ⟨w.heap.size, 4, none⟩ = some (.slice a3 ends.length c3) ∧ W.cell? ⟨p8, 0, none⟩ = some (.int .u64 (L 0)) ∧ W.cell? ⟨p8, 1, none⟩ = some (.int .u64 (L 1)) ∧ W.cell? ⟨p8, 2, none⟩ = some (.int .u64 (L 2)) ∧ W.cell? ⟨p8, 3, none⟩ = some (.int .u64 (L 3))) := fun W h1 h2 => ⟨h1.cell 0 rfl, h1.cell 1 rfl, h1.cell 2 rfl, h1.cell 3 rfl, h1.cell 4 rfl, h2.cell 0 rfl, h2.cell 1 rfl, h2.cell 2 rfl, h2.cell 3 rfl⟩
            clear HSp SA
            go_wp2_with fail
            revert BD KD K8
            generalize (((((Y9.setCell ⟨p8, 0, none⟩ (.int .u64 (L 0))).setCell ⟨p8, 1, none⟩ (.int .u64 (L 1))).setCell ⟨p8, 2, none⟩ (.int .u64 (L 2))).setCell ⟨p8, 3, none⟩ (.int .u64 (L 3)))) = Z
            intro BD KD K8
            refine wp_region_held_drew (S := fun w' => w'.cell? ⟨w.heap.size, 0, none⟩ = some (.int .i64 (N : Int)) ∧ w'.cell? ⟨w.heap.size, 1, none⟩ = some (.int .i64 ev) ∧ w'.cell? ⟨w.heap.size, 2, none⟩ = some (.slice a1 starts.length c1) ∧ w'.cell? ⟨w.heap.size, 3, none⟩ = some (.slice a2 ars.length c2) ∧ w'.cell? ⟨w.heap.size, 4, none⟩ = some (.slice a3 ends.length c3) ∧ w'.cell? ⟨p8, 0, none⟩ = some (.int .u64 (L 0)) ∧ w'.cell? ⟨p8, 1, none⟩ = some (.int .u64 (L 1)) ∧ w'.cell? ⟨p8, 2, none⟩ = some (.int .u64 (L 2)) ∧ w'.cell? ⟨p8, 3, none⟩ = some (.int .u64 (L 3))) (by kernel_rfl) (SA4.out _ (Blk.drew KD.out) (Blk.drew K8.out)) (fun hS => ?_)
            replace BD : Hid (Below w.heap.size w Z.drew) := BD.out.drew
            replace KD : Hid (Blk Z.drew w.heap.size 25 (mcells ⟨(N : Int), ev, starts, ars, ends⟩ ⟨a1, c1, a2, c2, a3, c3⟩)) := Blk.drew KD.out
            replace K8 : Hid (SB Z.drew p8 L) := Blk.drew K8.out
            revert hS BD KD K8
            generalize Z.drew = Z0
            intro hS BD KD K8
            refine wpAnyH_take (i := 0) (v := .agg #[.int .i64 (N : Int), .int .i64 ev, .slice a1 starts.length c1, .slice a2 ars.length c2, .slice a3 ends.length c3]) rfl (by kernel_rfl) (by kernel_rfl) (by kernel_rfl) (fun _ _ _ h => h) (Or.inl ⟨by kernel_rfl, fun w' hw' => by obtain ⟨q0, q1, q2, q3, q4, q5, q6, q7, q8⟩ := hw'; go_simp⟩) hS ?_
            refine wpAnyH_take (i := 2) (v := .agg #[.int .u64 (L 0), .int .u64 (L 1), .int .u64 (L 2), .int .u64 (L 3)]) rfl (by kernel_rfl) (by kernel_rfl) (by kernel_rfl) (fun _ _ _ h => h) (Or.inl ⟨by kernel_rfl, fun w' hw' => by obtain ⟨q0, q1, q2, q3, q4, q5, q6, q7, q8⟩ := hw'; go_simp⟩) hS ?_
            simp only [Act.put, List.setIfInBounds_toArray]
            refine wpAnyH_ready (rs := [1]) (by kernel_rfl) (by simp) ?_
            refine AllReadyH.cons rfl (fun K' hK' => ?_) AllReadyH.nil
            clear hS
            go_simp
            refine (ALL.out Z0).mono ?_
            rintro e Y1 ⟨rfl, hb⟩
            replace BD := Hid.of (BD.out.trans (hb.mono BD.out.size))
            replace KD := Hid.of (KD.out.below hb KD.out.lt)
            replace K8 := Hid.of (K8.out.below hb K8.out.lt)
            refine hK'.out _ _ (SA4.out _ KD.out K8.out) (fun hS => ?_)
            clear hK' K' hb
            refine wpAnyH_ready (rs := [3]) (by kernel_rfl) (by simp) ?_
            refine AllReadyH.cons rfl (fun K' hK' => ?_) AllReadyH.nil
            clear hS
            go_simp
            refine (LSS.out Y1).mono ?_
            rintro e Y2 ⟨rfl, hb⟩
            replace BD := Hid.of (BD.out.trans (hb.mono BD.out.size))
            replace KD := Hid.of (KD.out.below hb KD.out.lt)
            replace K8 := Hid.of (K8.out.below hb K8.out.lt)
            refine hK'.out _ _ (SA4.out _ KD.out K8.out) (fun hS => ?_)
            clear hK' K' hb
            refine wpAnyH_ready (rs := [4]) (by kernel_rfl) (by simp) ?_
            refine AllReadyH.cons rfl (fun K' hK' => ?_) AllReadyH.nil
            clear hS
            go_simp
            refine (row_any (lessS (firF N) L) Y2 (okS_less (ok_firF N)) (hT.out.below BD.out hT.out.lt)).mono ?_
            rintro e Y3 ⟨va, vc, rfl, hat, hln, hb⟩
            replace BD := Hid.of (BD.out.trans (hb.mono BD.out.size))
            replace KD := Hid.of (KD.out.below hb KD.out.lt)
            replace K8 := Hid.of (K8.out.below hb K8.out.lt)
            have HAT := Hid.of hat
            have HLN := Hid.of hln
            refine hK'.out _ _ (SA4.out _ KD.out K8.out) (fun hS => ?_)
            clear hK' K' hb hat hln
            refine wpAnyH_take (i := 5) (v := .slice va (rowS (lessS (firF N) L)).length vc) rfl (by kernel_rfl) (by kernel_rfl) (by kernel_rfl) (fun _ _ _ h => h) (Or.inl ⟨by kernel_rfl, fun w' hw' => by obtain ⟨q0, q1, q2, q3, q4, q5, q6, q7, q8⟩ := hw'; go_simp⟩) hS ?_
            refine wpAnyH_take (i := 6) (v := .int .i64 0) rfl (by kernel_rfl) (by kernel_rfl) (by kernel_rfl) (fun _ _ _ h => h) (Or.inl ⟨by kernel_rfl, fun w' hw' => by obtain ⟨q0, q1, q2, q3, q4, q5, q6, q7, q8⟩ := hw'; go_simp⟩) hS ?_
            refine wpAnyH_done (by kernel_rfl) ?_ _
            clear hS
            rw [HKP.out] at HAT HLN
            go_wp2_with fail
            exact bodyPost_ret (v := .tuple #[.slice va (rowS (lessS (firF N) L)).length vc, .int .i64 0]) (by simp [results, go_sem]) rfl ⟨va, vc, by rw [HO.out, HKP.out], by rw [HO.out]; exact HAT.out, by rw [HO.out]; exact HLN.out, BD.out⟩
        · clear hS
          go_simp
          have hb : Below Y0.heap.size Y0 (Y0.alloc (.cells zs4c 85)) := (Below.refl _ _).alloc (Nat.le_refl _) _
          have P8 := Hid.of (Nat.succ_le_of_lt KD.out.lt)
          replace BD := Hid.of (BD.out.trans (hb.mono BD.out.size))
          replace KD := Hid.of (KD.out.below hb KD.out.lt)
          have K8 := Hid.of (Blk.new Y0 85 zs4c)
          refine hK'.out _ _ (SA.out _ KD.out) (fun hS => ?_)
          clear hK' K' hb
          revert P8 BD KD K8 hS
          generalize Y0.alloc (.cells zs4c 85) = Y10
          generalize Y0.heap.size = p8
          intro P8 BD KD K8 hS
          refine wpAnyH_ready (rs := [1]) (by kernel_rfl) (by simp) ?_
          refine AllReadyH.cons rfl (fun K' hK' => ?_) AllReadyH.nil
          clear hS
          go_simp
          refine (OFB.out Y10 BD.out).mono ?_
          rintro e Y11 ⟨rfl, hb⟩
          replace BD := Hid.of (BD.out.trans (hb.mono BD.out.size))
          replace KD := Hid.of (KD.out.below hb KD.out.lt)
          replace K8 := Hid.of (K8.out.below hb K8.out.lt)
          refine hK'.out _ _ (SA.out _ KD.out) (fun hS => ?_)
          clear hK' K' hb
          refine wpAnyH_ready (rs := [4]) (by kernel_rfl) (by simp) ?_
          refine AllReadyH.cons rfl (fun K' hK' => ?_) AllReadyH.nil
          clear hS
          go_simp
          refine (FRC.out Y11 BD.out).mono ?_
          rintro e Y12 ⟨bt, rfl, hT2, hb⟩
          replace BD := Hid.of (BD.out.trans (hb.mono BD.out.size))
          replace KD := Hid.of (KD.out.below hb KD.out.lt)
          replace K8 := Hid.of (K8.out.below hb K8.out.lt)
          have KT := Hid.of hT2
          refine hK'.out _ _ (SA.out _ KD.out) (fun hS => ?_)
          clear hK' K' hb hT2
          refine wpAnyH_ready (rs := [5]) (by kernel_rfl) (by simp) ?_
          refine AllReadyH.cons rfl (fun K' hK' => ?_) AllReadyH.nil
          clear hS
          go_simp
          refine (SPL.out Y12 bt KT.out).mono ?_
          rintro e Y13 ⟨L, rfl, hSp, hb⟩
          replace BD := Hid.of (BD.out.trans (hb.mono BD.out.size))
          replace KD := Hid.of (KD.out.below hb KD.out.lt)
          replace K8 := Hid.of (K8.out.below hb K8.out.lt)
          replace KT := Hid.of (KT.out.below hb KT.out.lt)
          have HSp := Hid.of hSp
          refine hK'.out _ _ (SA.out _ KD.out) (fun hS => ?_)
          clear hK' K' hb hSp
          refine wpAnyH_ready (rs := [7]) (by kernel_rfl) (by simp) ?_
          refine AllReadyH.cons rfl (fun K' hK' => ?_) AllReadyH.nil
          have fz := K8.out.frozen
          obtain ⟨r0, r1, r2, r3⟩ := SB.cells (show SB _ p8 zeroS from K8.out)
          go_simp
          replace BD := Hid.of (below_set4 BD.out (b' := p8) (show w.heap.size ≤ p8 by have := P8.out; omega) (.int .u64 (L 0)) (.int .u64 (L 1)) (.int .u64 (L 2)) (.int .u64 (L 3)))
          replace KD := Hid.of (Blk.other4 KD.out (b' := p8) (show w.heap.size ≠ p8 by have := P8.out; omega) (.int .u64 (L 0)) (.int .u64 (L 1)) (.int .u64 (L 2)) (.int .u64 (L 3)))
          replace K8 := Hid.of (SB.set4 (show SB _ p8 zeroS from K8.out) L)
          refine hK'.out _ _ (SA.out _ KD.out) (fun hS7 => ?_)
          clear hK' K' fz r0 r1 r2 r3 hS
          refine wpAnyH_done (by kernel_rfl) ?_ _
          clear hS7 KT
          have HKP : Hid (rowS (lessS (firF N) L) = keepL m free bad) := by
            have := spoil_keep (m := m) (free := free) (bad := bad) (L := L) HMM.out (by rw [HM.out]; exact HRB.out) (by rw [HM.out]; exact HSp.out.1) (by rw [HM.out]; exact HSp.out.2)
            rw [HM.out] at this ⊢
            exact this
          have LSS : Hid (∀ Y, Calls Tryd.prog 134 #[sval (firF N), .agg #[.int .u64 (L 0), .int .u64 (L 1), .int .u64 (L 2), .int .u64 (L 3)]] Y fun e Y' => e = .returned (sval (lessS (firF N) L)) ∧ Below Y.heap.size Y Y') := fun Y => lessc_any (firF N) L Y (ok_firF N) HSp.out.1.ok
          have SA4 : Hid (∀ W, Blk W w.heap.size 25 (mcells ⟨(N : Int), ev, starts, ars, ends⟩ ⟨a1, c1, a2, c2, a3, c3⟩) → SB W p8 L → W.cell? ⟨w.heap.size, 0, none⟩ = some (.int .i64 (N : Int)) ∧ W.cell? ⟨w.heap.size, 1, none⟩ = some (.int .i64 ev) ∧ W.cell? ⟨w.heap.size, 2, none⟩ = some (.slice a1 starts.length c1) ∧ W.cell? ⟨w.heap.size, 3, none⟩ = some (.slice a2 ars.length c2) ∧ W.cell? ⟨w.heap.size, 4, none⟩ = some (.slice a3 ends.length c3) ∧ W.cell? ⟨p8, 0, none⟩ = some (.int .u64 (L 0)) ∧ W.cell? ⟨p8, 1, none⟩ = some (.int .u64 (L 1)) ∧ W.cell? ⟨p8, 2, none⟩ = some (.int .u64 (L 2)) ∧ W.cell? ⟨p8, 3, none⟩ = some (.int .u64 (L 3))) := fun W h1 h2 => ⟨h1.cell 0 rfl, h1.cell 1 rfl, h1.cell 2 rfl, h1.cell 3 rfl, h1.cell 4 rfl, h2.cell 0 rfl, h2.cell 1 rfl, h2.cell 2 rfl, h2.cell 3 rfl⟩
          clear HSp SA
          go_wp2_with fail
          revert BD KD K8
          generalize (((((Y13.setCell ⟨p8, 0, none⟩ (.int .u64 (L 0))).setCell ⟨p8, 1, none⟩ (.int .u64 (L 1))).setCell ⟨p8, 2, none⟩ (.int .u64 (L 2))).setCell ⟨p8, 3, none⟩ (.int .u64 (L 3)))) = Z
          intro BD KD K8
          refine wp_region_held_drew (S := fun w' => w'.cell? ⟨w.heap.size, 0, none⟩ = some (.int .i64 (N : Int)) ∧ w'.cell? ⟨w.heap.size, 1, none⟩ = some (.int .i64 ev) ∧ w'.cell? ⟨w.heap.size, 2, none⟩ = some (.slice a1 starts.length c1) ∧ w'.cell? ⟨w.heap.size, 3, none⟩ = some (.slice a2 ars.length c2) ∧ w'.cell? ⟨w.heap.size, 4, none⟩ = some (.slice a3 ends.length c3) ∧ w'.cell? ⟨p8, 0, none⟩ = some (.int .u64 (L 0)) ∧ w'.cell? ⟨p8, 1, none⟩ = some (.int .u64 (L 1)) ∧ w'.cell? ⟨p8, 2, none⟩ = some (.int .u64 (L 2)) ∧ w'.cell? ⟨p8, 3, none⟩ = some (.int .u64 (L 3))) (by kernel_rfl) (SA4.out _ (Blk.drew KD.out) (Blk.drew K8.out)) (fun hS => ?_)
          replace BD : Hid (Below w.heap.size w Z.drew) := BD.out.drew
          replace KD : Hid (Blk Z.drew w.heap.size 25 (mcells ⟨(N : Int), ev, starts, ars, ends⟩ ⟨a1, c1, a2, c2, a3, c3⟩)) := Blk.drew KD.out
          replace K8 : Hid (SB Z.drew p8 L) := Blk.drew K8.out
          revert hS BD KD K8
          generalize Z.drew = Z0
          intro hS BD KD K8
          refine wpAnyH_take (i := 0) (v := .agg #[.int .i64 (N : Int), .int .i64 ev, .slice a1 starts.length c1, .slice a2 ars.length c2, .slice a3 ends.length c3]) rfl (by kernel_rfl) (by kernel_rfl) (by kernel_rfl) (fun _ _ _ h => h) (Or.inl ⟨by kernel_rfl, fun w' hw' => by obtain ⟨q0, q1, q2, q3, q4, q5, q6, q7, q8⟩ := hw'; go_simp⟩) hS ?_
          refine wpAnyH_take (i := 2) (v := .agg #[.int .u64 (L 0), .int .u64 (L 1), .int .u64 (L 2), .int .u64 (L 3)]) rfl (by kernel_rfl) (by kernel_rfl) (by kernel_rfl) (fun _ _ _ h => h) (Or.inl ⟨by kernel_rfl, fun w' hw' => by obtain ⟨q0, q1, q2, q3, q4, q5, q6, q7, q8⟩ := hw'; go_simp⟩) hS ?_
          simp only [Act.put, List.setIfInBounds_toArray]
          refine wpAnyH_ready (rs := [1]) (by kernel_rfl) (by simp) ?_
          refine AllReadyH.cons rfl (fun K' hK' => ?_) AllReadyH.nil
          clear hS
          go_simp
          refine (ALL.out Z0).mono ?_
          rintro e Y1 ⟨rfl, hb⟩
          replace BD := Hid.of (BD.out.trans (hb.mono BD.out.size))
          replace KD := Hid.of (KD.out.below hb KD.out.lt)
          replace K8 := Hid.of (K8.out.below hb K8.out.lt)
          refine hK'.out _ _ (SA4.out _ KD.out K8.out) (fun hS => ?_)
          clear hK' K' hb
          refine wpAnyH_ready (rs := [3]) (by kernel_rfl) (by simp) ?_
          refine AllReadyH.cons rfl (fun K' hK' => ?_) AllReadyH.nil
          clear hS
          go_simp
          refine (LSS.out Y1).mono ?_
          rintro e Y2 ⟨rfl, hb⟩
          replace BD := Hid.of (BD.out.trans (hb.mono BD.out.size))
          replace KD := Hid.of (KD.out.below hb KD.out.lt)
          replace K8 := Hid.of (K8.out.below hb K8.out.lt)
          refine hK'.out _ _ (SA4.out _ KD.out K8.out) (fun hS => ?_)
          clear hK' K' hb
          refine wpAnyH_ready (rs := [4]) (by kernel_rfl) (by simp) ?_
          refine AllReadyH.cons rfl (fun K' hK' => ?_) AllReadyH.nil
          clear hS
          go_simp
          refine (row_any (lessS (firF N) L) Y2 (okS_less (ok_firF N)) (hT.out.below BD.out hT.out.lt)).mono ?_
          rintro e Y3 ⟨va, vc, rfl, hat, hln, hb⟩
          replace BD := Hid.of (BD.out.trans (hb.mono BD.out.size))
          replace KD := Hid.of (KD.out.below hb KD.out.lt)
          replace K8 := Hid.of (K8.out.below hb K8.out.lt)
          have HAT := Hid.of hat
          have HLN := Hid.of hln
          refine hK'.out _ _ (SA4.out _ KD.out K8.out) (fun hS => ?_)
          clear hK' K' hb hat hln
          refine wpAnyH_take (i := 5) (v := .slice va (rowS (lessS (firF N) L)).length vc) rfl (by kernel_rfl) (by kernel_rfl) (by kernel_rfl) (fun _ _ _ h => h) (Or.inl ⟨by kernel_rfl, fun w' hw' => by obtain ⟨q0, q1, q2, q3, q4, q5, q6, q7, q8⟩ := hw'; go_simp⟩) hS ?_
          refine wpAnyH_take (i := 6) (v := .int .i64 0) rfl (by kernel_rfl) (by kernel_rfl) (by kernel_rfl) (fun _ _ _ h => h) (Or.inl ⟨by kernel_rfl, fun w' hw' => by obtain ⟨q0, q1, q2, q3, q4, q5, q6, q7, q8⟩ := hw'; go_simp⟩) hS ?_
          refine wpAnyH_done (by kernel_rfl) ?_ _
          clear hS
          rw [HKP.out] at HAT HLN
          go_wp2_with fail
          exact bodyPost_ret (v := .tuple #[.slice va (rowS (lessS (firF N) L)).length vc, .int .i64 0]) (by simp [results, go_sem]) rfl ⟨va, vc, by rw [HO.out, HKP.out], by rw [HO.out]; exact HAT.out, by rw [HO.out]; exact HLN.out, BD.out⟩

theorem pCtl_any (m : Mach) (l : ML) (fa : Option Addr) (fc : Nat) (free : List Int) (ba : Option Addr) (bc : Nat) (bad : List Int) (w : World) (h0 : MAt w m l) (hs0 : At w fa free) (hsl0 : free.length ≤ maxLen) (hf0 : At w ba bad) (hfl0 : bad.length ≤ maxLen) (hT0 : Tab w) :
    Calls Tryd.prog 186 #[mval m l, .slice fa free.length fc, .slice ba bad.length bc] w fun e w' => CtlPost w (ctlOut m free bad) e w' := by
  obtain ⟨st, ev, starts, ars, ends⟩ := m
  obtain ⟨a1, c1, a2, c2, a3, c3⟩ := l
  exact pCtl_go st ev starts ars ends a1 c1 a2 c2 a3 c3 fa fc free ba bc bad w h0 hs0 hsl0 hf0 hfl0 hT0

end Go.Proofs.YtmlkpdeidpcidaaDoor
