/-
  The walk of secret.still: what unseen events come to.
-/
import Derived.Test.YtmlkpdeidpcidaaDoorEQLd1
import Derived.Test.YtmlkpdeidpcidaaDoorI15
import Derived.Test.YtmlkpdeidpcidaaDoorI10
import Derived.Test.YtmlkpdeidpcidaaDoorI05
namespace Go.Proofs.YtmlkpdeidpcidaaDoor
open Go.RowKit
set_option linter.unusedVariables false

/-- The block that a value points to: for a measure. -/
def ptrB : Value → Nat
  | .pointer (some ⟨b, _, _⟩) => b
  | _ => 0
theorem nxF_snoc (ev : Nat) (A B : List Arr) (R : Nat → Nat) (us : List Nat) (n : Nat) : nxF ev A B R (us ++ [n]) = joinS (nxF ev A B R us) (lqS ev A B R n) := toF_snoc _ _ _
theorem nxF_take {ev : Nat} {A B : List Arr} {R : Nat → Nat} {us : List Int} {i : Nat} {x : Int} (h : i < us.length) (hx : Hid (x = us[i]?.getD 0)) : nxF ev A B R ((us.take (i + 1)).map Int.toNat) = joinS (nxF ev A B R ((us.take i).map Int.toNat)) (lqS ev A B R x.toNat) := by
  have hx := hx.out
  rw [List.getElem?_eq_getElem h, Option.getD_some] at hx
  rw [List.take_add_one, List.getElem?_eq_getElem h, ← hx, List.map_append]
  exact nxF_snoc _ _ _ _ _ _

theorem At.cells_ofQ {w : World} {a : Option Addr} {xs : List Int} (h : At w a xs) {k : Nat} (hk : k < xs.length) : ∃ b off, a = some ⟨b, off, none⟩ ∧ b < w.heap.size ∧ Cells w b off xs := by
  rcases h with rfl | ⟨b, off, rfl, hb, hc⟩
  · simp at hk
  · exact ⟨b, off, rfl, hb, hc⟩

set_option maxRecDepth 100000 in
set_option maxHeartbeats 16000000 in
theorem still_go (m s : Mach) (seen : List Int) (l0 : List Pla) (F0 : Nat → Nat) (A B : List Arr) (ev st sb : Nat) (us : List Int) (hev : ev ≤ 8) (hst : st ≤ 6) (hsb : sb ≤ 4)
    (HS0 : Hid (StQ m s seen l0 F0 F0)) (HSN : Hid (∀ S R, StQ m s seen l0 S R → StQ m s seen l0 (joinS S (lessS (nxF ev A B R (us.map Int.toNat)) S)) (lessS (nxF ev A B R (us.map Int.toNat)) S)))
    (HSM : Hid (∀ S R, StQ m s seen l0 S R → emptyB R = false → msr (joinS S (lessS (nxF ev A B R (us.map Int.toNat)) S)) (lessS (nxF ev A B R (us.map Int.toNat)) S) < msr S R))
    (HSR : Hid (∀ S R, StQ m s seen l0 S R → RdyQ st sb R)) (HA : Hid (∀ a ∈ A, 0 ≤ a.t ∧ a.t < (st : Int))) (HBA : Hid (∀ a ∈ B, 0 ≤ a.t ∧ a.t < (sb : Int))) (hue : Hid (∀ x ∈ us, 0 ≤ x ∧ x < (ev : Int))) (hul : us.length ≤ 8)
    (ua : Option Addr) (uc : Nat) (pA pB : Nat) (LA LC : LB) (w : World) (hT : Hid (Tab w)) (hL : Hid (WL w pA pB LA LC ev st sb (tabS ev A) (tabS ev B))) (hu : Hid (At w ua us)) :
    Calls Tryd.prog 145 #[sval F0, .slice ua us.length uc, qleadV pA pB] w fun e W' => ∃ F R, e = .returned (sval F) ∧ StQ m s seen l0 F R ∧ emptyB R = true ∧ Below w.heap.size w W' := by
  have heq : ∀ (S : Nat → Nat) (w : World), (Op.equalIn 10000 85 (.agg #[.int .u64 (S 0), .int .u64 (S 1), .int .u64 (S 2), .int .u64 (S 3)]) (.agg #[.int .u64 0, .int .u64 0, .int .u64 0, .int .u64 0])).run Tryd.prog w = .ok (emptyB S) w := run_equalIn_set
  have hgd := run_guard_set
  have B0 : Hid (Below w.heap.size w (((w.alloc (.cells (scells F0) 85)).alloc (.cells #[.int .u64 0, .int .u64 0, .int .u64 0, .int .u64 0] 85)).alloc (.cells (scells F0) 85))) := (((Below.refl _ _).alloc (Nat.le_refl _) _).alloc (by simp) _).alloc (by simp; omega) _
  have K3 : Hid (SB (((w.alloc (.cells (scells F0) 85)).alloc (.cells #[.int .u64 0, .int .u64 0, .int .u64 0, .int .u64 0] 85)).alloc (.cells (scells F0) 85)) w.heap.size F0) := ((Blk.new w _ _).alloc _).alloc _
  have K6 : Hid (SB (((w.alloc (.cells (scells F0) 85)).alloc (.cells #[.int .u64 0, .int .u64 0, .int .u64 0, .int .u64 0] 85)).alloc (.cells (scells F0) 85)) (w.heap.size + 1) zeroS) := by
    have := (Blk.new (w.alloc (.cells (scells F0) 85)) 85 #[.int .u64 0, .int .u64 0, .int .u64 0, .int .u64 0]).alloc (.cells (scells F0) 85)
    rwa [World.size_alloc] at this
  have K7 : Hid (SB (((w.alloc (.cells (scells F0) 85)).alloc (.cells #[.int .u64 0, .int .u64 0, .int .u64 0, .int .u64 0] 85)).alloc (.cells (scells F0) 85)) (w.heap.size + 1 + 1) F0) := by
    have := Blk.new ((w.alloc (.cells (scells F0) 85)).alloc (.cells #[.int .u64 0, .int .u64 0, .int .u64 0, .int .u64 0] 85)) 85 (scells F0)
    rwa [World.size_alloc, World.size_alloc] at this
  go_enter Tryd.func145, Tryd.ntmps145
  go_wp2_with fail
  revert B0 K3 K6 K7
  generalize (((w.alloc (.cells (scells F0) 85)).alloc (.cells #[.int .u64 0, .int .u64 0, .int .u64 0, .int .u64 0] 85)).alloc (.cells (scells F0) 85)) = V
  intro B0 K3 K6 K7
  go_loopw [7] (fun v7 wr => ∃ (p7 : Nat) (S R : Nat → Nat), v7 = .pointer (some ⟨p7, 0, none⟩) ∧ w.heap.size + 1 < p7 ∧ Hid (SB wr w.heap.size S) ∧ Hid (SB wr (w.heap.size + 1) zeroS) ∧ Hid (SB wr p7 R) ∧ Hid (Below w.heap.size w wr) ∧ Hid (StQ m s seen l0 S R)) (fun v7 wr => msr (setAt wr w.heap.size) (setAt wr (ptrB v7)))
  case atStart => exact ⟨w.heap.size + 1 + 1, F0, F0, rfl, by omega, K3, K6, K7, B0, HS0⟩
  case round =>
    clear B0 K3 K6 K7 HS0
    obtain ⟨p7, S, R, rfl, hp7, KS, KZ, KR, BW, HI⟩ := hrel
    obtain ⟨r0, r1, r2, r3⟩ := SB.cells KR.out
    by_cases hE : emptyB R = true
    · obtain ⟨s0, s1, s2, s3⟩ := SB.cells KS.out
      obtain ⟨z0, z1, z2, z3⟩ := SB.cells KZ.out
      have rz := KZ.out.frozen
      have k2 := Hid.of (SB.set4 KZ.out S)
      have k3 := Hid.of (below_set4 BW.out (b' := w.heap.size + 1) (by omega) (.int .u64 (S 0)) (.int .u64 (S 1)) (.int .u64 (S 2)) (.int .u64 (S 3)))
      have HE := Hid.of hE
      obtain ⟨bE, hbE⟩ : ∃ b, b = emptyB R := ⟨_, rfl⟩
      go_wp2_with fail
      refine bodyPost_ret (v := sval S) ?_ rfl ⟨S, R, rfl, HI.out, HE.out, k3.out⟩
      obtain ⟨y0, y1, y2, y3⟩ := SB.cells k2.out
      simp [results, go_sem, y0, y1, y2, y3]
    · have hE : emptyB R = false := by simpa using hE
      have HE := Hid.of hE
      have hok := Hid.of HI.out.okS
      have HRD := Hid.of (HSR.out S R HI.out)
      have hpw := KR.out.lt
      have hb : Below wr.heap.size wr (wr.alloc (.cells #[.int .u64 0, .int .u64 0, .int .u64 0, .int .u64 0] 85)) := (Below.refl _ _).alloc (Nat.le_refl _) _
      have KO := Hid.of (show SB (wr.alloc (.cells #[.int .u64 0, .int .u64 0, .int .u64 0, .int .u64 0] 85)) wr.heap.size zeroS from Blk.new wr _ _)
      have KS1 := Hid.of (KS.out.below hb KS.out.lt)
      have KZ1 := Hid.of (KZ.out.below hb KZ.out.lt)
      have KR1 := Hid.of (KR.out.below hb KR.out.lt)
      have BW1 := Hid.of (BW.out.trans (hb.mono BW.out.size))
      have HN78 : Hid (p7 ≠ wr.heap.size) := Nat.ne_of_lt hpw
      have HLT7 : Hid (p7 < wr.heap.size) := hpw
      have HP8 : Hid (w.heap.size + 1 < wr.heap.size) := by show _ < _; omega
      clear hb
      have ME : Hid (msr (setAt wr w.heap.size) (setAt wr p7) = msr S R) := SB.msr KS.out KR.out
      go_wp2_with fail
      clear r0 r1 r2 r3
      clear hpw
      revert KO KS1 KZ1 KR1 BW1 HN78 HLT7 HP8
      generalize wr.alloc (.cells #[.int .u64 0, .int .u64 0, .int .u64 0, .int .u64 0] 85) = X0
      generalize wr.heap.size = p8
      intro KO KS1 KZ1 KR1 BW1 HN78 HLT7 HP8
      have HTX0 := Hid.of (hT.out.below BW1.out hT.out.lt)
      have HLX0 := Hid.of (hL.out.kept BW1.out)
      have HUX0 := Hid.of (hu.out.below BW1.out (Nat.le_refl _))
      go_loopw [20] (fun vi wr' => ∃ i : Nat, vi = .int .i64 i ∧ i ≤ us.length ∧ Hid (SB wr' p8 (nxF ev A B R ((us.take i).map Int.toNat))) ∧ Hid (Below p8 X0 wr')) (fun vi _ => us.length - (intOf vi).toNat)
      case atStart => exact ⟨0, rfl, Nat.zero_le _, KO, Below.refl _ _⟩
      case round =>
        clear KO
        obtain ⟨i, rfl, hi, KO, BX⟩ := hrel
        by_cases hlt : i < us.length
        · obtain ⟨bu, ou, rfl, hbu, hcu⟩ := At.cells_ofQ hu.out hlt
          obtain ⟨x, HX, hcx0⟩ := hcu.at hlt
          have hxe : 0 ≤ x ∧ x < (ev : Int) := hue.out x (by have h2 := HX.out; rw [List.getElem?_eq_getElem hlt, Option.getD_some] at h2; rw [h2]; exact List.getElem_mem hlt)
          obtain ⟨n, rfl⟩ : ∃ n : Nat, x = n := ⟨x.toNat, by omega⟩
          have hnev : n < ev := by omega
          have HLE : Hid (p8 ≤ wr.heap.size) := Nat.le_of_lt KO.out.lt
          have BWX : Hid (Below w.heap.size w wr) := BW1.out.trans (BX.out.mono (by have := HP8.out; omega))
          have hcx : wr.cell? ⟨bu, ou + i, none⟩ = some (.int .i64 n) := (BWX.out.cell (p := ⟨bu, ou + i, none⟩) hbu).trans hcx0
          have KR := Hid.of (KR1.out.below BX.out HLT7.out)
          have HTX := Hid.of (hT.out.below BWX.out hT.out.lt)
          have HLX := Hid.of (hL.out.kept BWX.out)
          have HNX : Hid (nxF ev A B R ((us.take (i + 1)).map Int.toNat) = joinS (nxF ev A B R ((us.take i).map Int.toNat)) (lqS ev A B R n)) := by
            have := nxF_take (ev := ev) (A := A) (B := B) (R := R) hlt HX
            rwa [Int.toNat_natCast] at this
          have hOk : Hid (okS (nxF ev A B R ((us.take i).map Int.toNat))) := ok_nxF _ _ _ _ _
          have hQk : Hid (okS (lqS ev A B R n)) := ok_lqS _ _ _ _ _
          clear hcx0 hxe hcu hbu
          obtain ⟨Q, HQ⟩ : ∃ Q, Hid (Q = lqS ev A B R n) := ⟨_, rfl⟩
          rw [← HQ.out] at HNX hQk
          have hil : (i : Int) < (us.length : Int) := by omega
          generalize nxF ev A B R ((us.take i).map Int.toNat) = O at *
          go_wp2_with fail
          refine wp_region_held_drew (S := fun w' => w'.cell? ⟨p7, 0, none⟩ = some (.int .u64 (R 0)) ∧ w'.cell? ⟨p7, 1, none⟩ = some (.int .u64 (R 1)) ∧ w'.cell? ⟨p7, 2, none⟩ = some (.int .u64 (R 2)) ∧ w'.cell? ⟨p7, 3, none⟩ = some (.int .u64 (R 3))) (by kernel_rfl) (SB.cells (Blk.drew KR.out)) (fun hS => ?_)
          have BF : Hid (Below wr.heap.size wr wr.drew) := (Below.refl _ _).drew
          revert hS BF
          generalize wr.drew = Y0
          intro hS BF
          refine wpAnyH_take (i := 1) (v := qleadV pA pB) rfl (by kernel_rfl) (by kernel_rfl) (by kernel_rfl) (fun _ _ _ h => h) (Or.inl ⟨by kernel_rfl, fun w' hw' => by obtain ⟨q0, q1, q2, q3⟩ := hw'; go_simp⟩) hS ?_
          refine wpAnyH_take (i := 2) (v := sval R) rfl (by kernel_rfl) (by kernel_rfl) (by kernel_rfl) (fun _ _ _ h => h) (Or.inl ⟨by kernel_rfl, fun w' hw' => by obtain ⟨q0, q1, q2, q3⟩ := hw'; go_simp⟩) hS ?_
          refine wpAnyH_take (i := 3) (v := .int .i64 (n : Int)) rfl (by kernel_rfl) (by kernel_rfl) (by kernel_rfl) (fun _ _ _ h => h) (Or.inl ⟨by kernel_rfl, fun w' hw' => by obtain ⟨q0, q1, q2, q3⟩ := hw'; go_simp⟩) hS ?_
          simp only [Act.put, List.setIfInBounds_toArray]
          refine wpAnyH_ready (rs := [0, 4]) (by kernel_rfl) (by simp) ?_
          refine AllReadyH.cons rfl (fun K' hK' => ?_) (AllReadyH.cons rfl (fun K' hK' => ?_) AllReadyH.nil)
          · clear hS
            obtain ⟨o0, o1, o2, o3⟩ := SB.cells (KO.out.below BF.out KO.out.lt)
            go_simp
            refine hK'.out _ _ (SB.cells (KR.out.below BF.out KR.out.lt)) (fun hS => ?_)
            clear hK' K' o0 o1 o2 o3
            refine wpAnyH_ready (rs := [4]) (by kernel_rfl) (by simp) ?_
            refine AllReadyH.cons rfl (fun K' hK' => ?_) AllReadyH.nil
            clear hS
            go_simp
            refine (qlead_any A B R n ev st sb hok.out.2 HRD.out hnev hev hst hsb HA.out HBA.out pA pB LA LC Y0 (HTX.out.below BF.out HTX.out.lt) (HLX.out.kept BF.out)).mono ?_
            rintro e Y2 ⟨rfl, hb⟩
            rw [← HQ.out]
            replace BF := Hid.of (BF.out.trans (hb.mono BF.out.size))
            refine hK'.out _ _ (SB.cells (KR.out.below BF.out KR.out.lt)) (fun hS => ?_)
            clear hK' K' hb
            refine wpAnyH_ready (rs := [5]) (by kernel_rfl) (by simp) ?_
            refine AllReadyH.cons rfl (fun K' hK' => ?_) AllReadyH.nil
            clear hS
            go_simp
            refine (join_any O Q Y2 hOk.out hQk.out).mono ?_
            rintro e Y3 ⟨rfl, hb⟩
            replace BF := Hid.of (BF.out.trans (hb.mono BF.out.size))
            refine hK'.out _ _ (SB.cells (KR.out.below BF.out KR.out.lt)) (fun hS => ?_)
            clear hK' K' hb
            refine wpAnyH_ready (rs := [6]) (by kernel_rfl) (by simp) ?_
            refine AllReadyH.cons rfl (fun K' hK' => ?_) AllReadyH.nil
            clear hS
            have KO2 := KO.out.below BF.out KO.out.lt
            have fO := KO2.frozen
            obtain ⟨o0, o1, o2, o3⟩ := SB.cells KO2
            go_simp
            have KR2 := Blk.other4 (KR.out.below BF.out KR.out.lt) (b' := p8) HN78.out (.int .u64 (joinS O Q 0)) (.int .u64 (joinS O Q 1)) (.int .u64 (joinS O Q 2)) (.int .u64 (joinS O Q 3))
            refine hK'.out _ _ (SB.cells KR2) (fun hS => ?_)
            clear hK' K' o0 o1 o2 o3 fO
            refine wpAnyH_done (by kernel_rfl) ?_ _
            have N1 := Hid.of (SB.set4 KO2 (joinS O Q))
            have N2 := Hid.of (below_set4 (BX.out.trans (BF.out.mono HLE.out)) (b' := p8) (Nat.le_refl _) (.int .u64 (joinS O Q 0)) (.int .u64 (joinS O Q 1)) (.int .u64 (joinS O Q 2)) (.int .u64 (joinS O Q 3)))
            clear hS KR2 KO2 BF
            go_wp2_with fail
            go_roundw
            case rel => exact ⟨i + 1, by go_num, by omega, (by show SB _ _ _; rw [HNX.out]; exact N1.out), N2⟩
            case measure => simp [intOf]; omega
          · clear hS
            go_simp
            refine (qlead_any A B R n ev st sb hok.out.2 HRD.out hnev hev hst hsb HA.out HBA.out pA pB LA LC Y0 (HTX.out.below BF.out HTX.out.lt) (HLX.out.kept BF.out)).mono ?_
            rintro e Y4 ⟨rfl, hb⟩
            rw [← HQ.out]
            replace BF := Hid.of (BF.out.trans (hb.mono BF.out.size))
            refine hK'.out _ _ (SB.cells (KR.out.below BF.out KR.out.lt)) (fun hS => ?_)
            clear hK' K' hb
            refine wpAnyH_ready (rs := [0]) (by kernel_rfl) (by simp) ?_
            refine AllReadyH.cons rfl (fun K' hK' => ?_) AllReadyH.nil
            clear hS
            obtain ⟨o0, o1, o2, o3⟩ := SB.cells (KO.out.below BF.out KO.out.lt)
            go_simp
            refine hK'.out _ _ (SB.cells (KR.out.below BF.out KR.out.lt)) (fun hS => ?_)
            clear hK' K' o0 o1 o2 o3
            refine wpAnyH_ready (rs := [5]) (by kernel_rfl) (by simp) ?_
            refine AllReadyH.cons rfl (fun K' hK' => ?_) AllReadyH.nil
            clear hS
            go_simp
            refine (join_any O Q Y4 hOk.out hQk.out).mono ?_
            rintro e Y6 ⟨rfl, hb⟩
            replace BF := Hid.of (BF.out.trans (hb.mono BF.out.size))
            refine hK'.out _ _ (SB.cells (KR.out.below BF.out KR.out.lt)) (fun hS => ?_)
            clear hK' K' hb
            refine wpAnyH_ready (rs := [6]) (by kernel_rfl) (by simp) ?_
            refine AllReadyH.cons rfl (fun K' hK' => ?_) AllReadyH.nil
            clear hS
            have KO2 := KO.out.below BF.out KO.out.lt
            have fO := KO2.frozen
            obtain ⟨o0, o1, o2, o3⟩ := SB.cells KO2
            go_simp
            have KR2 := Blk.other4 (KR.out.below BF.out KR.out.lt) (b' := p8) HN78.out (.int .u64 (joinS O Q 0)) (.int .u64 (joinS O Q 1)) (.int .u64 (joinS O Q 2)) (.int .u64 (joinS O Q 3))
            refine hK'.out _ _ (SB.cells KR2) (fun hS => ?_)
            clear hK' K' o0 o1 o2 o3 fO
            refine wpAnyH_done (by kernel_rfl) ?_ _
            have N1 := Hid.of (SB.set4 KO2 (joinS O Q))
            have N2 := Hid.of (below_set4 (BX.out.trans (BF.out.mono HLE.out)) (b' := p8) (Nat.le_refl _) (.int .u64 (joinS O Q 0)) (.int .u64 (joinS O Q 1)) (.int .u64 (joinS O Q 2)) (.int .u64 (joinS O Q 3)))
            clear hS KR2 KO2 BF
            go_wp2_with fail
            go_roundw
            case rel => exact ⟨i + 1, by go_num, by omega, (by show SB _ _ _; rw [HNX.out]; exact N1.out), N2⟩
            case measure => simp [intOf]; omega
        · have hie : i = us.length := by omega
          have HN : Hid (nxF ev A B R ((us.take i).map Int.toNat) = nxF ev A B R (us.map Int.toNat)) := by show _ = _; rw [hie, List.take_of_length_le (Nat.le_refl _)]
          rw [HN.out] at KO
          have hOk : Hid (okS (nxF ev A B R (us.map Int.toNat))) := ok_nxF _ _ _ _ _
          have HSN1 := Hid.of (HSN.out S R HI.out)
          have HSM1 := Hid.of (HSM.out S R HI.out HE.out)
          generalize nxF ev A B R (us.map Int.toNat) = O at *
          have BWX : Hid (Below w.heap.size w wr) := BW1.out.trans (BX.out.mono (by have := HP8.out; omega))
          have KR := Hid.of (KR1.out.below BX.out HLT7.out)
          have KS := Hid.of (KS1.out.below BX.out (by have := HP8.out; omega))
          have KZ := Hid.of (KZ1.out.below BX.out (by have := HP8.out; omega))
          obtain ⟨o0, o1, o2, o3⟩ := SB.cells KO.out
          obtain ⟨s0, s1, s2, s3⟩ := SB.cells KS.out
          have hil : ¬ (i : Int) < (us.length : Int) := by omega
          have hil2 : decide ((i : Int) < (us.length : Int)) = false := by simp; omega
          clear hil
          have hle : us.length ≤ i := by omega
          go_wp2_with fail
          clear o0 o1 o2 o3 s0 s1 s2 s3
          refine (less_any O S _ hOk.out hok.out.1).mono ?_
          rintro e X1 ⟨rfl, hb⟩
          obtain ⟨R', HR'⟩ : ∃ R', Hid (R' = lessS O S) := ⟨_, rfl⟩
          rw [← HR'.out] at HSN1 HSM1 ⊢
          replace BWX := Hid.of (BWX.out.trans (hb.mono BWX.out.size))
          replace KR := Hid.of (KR.out.below hb KR.out.lt)
          replace KS := Hid.of (KS.out.below hb KS.out.lt)
          replace KZ := Hid.of (KZ.out.below hb KZ.out.lt)
          clear hb KO BX
          have hok' : Hid (okS R') := by show okS R'; rw [HR'.out]; exact okS_less hOk.out
          have rz := KR.out.frozen
          obtain ⟨r0, r1, r2, r3⟩ := SB.cells KR.out
          have KR2 := Hid.of (SB.set4 KR.out R')
          have KS2 := Hid.of (Blk.other4 KS.out (b' := p7) (by omega) (.int .u64 (R' 0)) (.int .u64 (R' 1)) (.int .u64 (R' 2)) (.int .u64 (R' 3)))
          have KZ2 := Hid.of (Blk.other4 KZ.out (b' := p7) (by omega) (.int .u64 (R' 0)) (.int .u64 (R' 1)) (.int .u64 (R' 2)) (.int .u64 (R' 3)))
          have BW2 := Hid.of (below_set4 BWX.out (b' := p7) (by omega) (.int .u64 (R' 0)) (.int .u64 (R' 1)) (.int .u64 (R' 2)) (.int .u64 (R' 3)))
          clear KR KS KZ BWX
          have hbA : Below ((((X1.setCell ⟨p7, 0, none⟩ (.int .u64 (R' 0))).setCell ⟨p7, 1, none⟩ (.int .u64 (R' 1))).setCell ⟨p7, 2, none⟩ (.int .u64 (R' 2))).setCell ⟨p7, 3, none⟩ (.int .u64 (R' 3))).heap.size ((((X1.setCell ⟨p7, 0, none⟩ (.int .u64 (R' 0))).setCell ⟨p7, 1, none⟩ (.int .u64 (R' 1))).setCell ⟨p7, 2, none⟩ (.int .u64 (R' 2))).setCell ⟨p7, 3, none⟩ (.int .u64 (R' 3))) (((((X1.setCell ⟨p7, 0, none⟩ (.int .u64 (R' 0))).setCell ⟨p7, 1, none⟩ (.int .u64 (R' 1))).setCell ⟨p7, 2, none⟩ (.int .u64 (R' 2))).setCell ⟨p7, 3, none⟩ (.int .u64 (R' 3))).alloc (.cells (scells R') 85)) := (Below.refl _ _).alloc (Nat.le_refl _) _
          have HL9 : Hid (w.heap.size + 1 < ((((X1.setCell ⟨p7, 0, none⟩ (.int .u64 (R' 0))).setCell ⟨p7, 1, none⟩ (.int .u64 (R' 1))).setCell ⟨p7, 2, none⟩ (.int .u64 (R' 2))).setCell ⟨p7, 3, none⟩ (.int .u64 (R' 3))).heap.size) := KZ2.out.lt
          have KN := Hid.of (show SB (((((X1.setCell ⟨p7, 0, none⟩ (.int .u64 (R' 0))).setCell ⟨p7, 1, none⟩ (.int .u64 (R' 1))).setCell ⟨p7, 2, none⟩ (.int .u64 (R' 2))).setCell ⟨p7, 3, none⟩ (.int .u64 (R' 3))).alloc (.cells (scells R') 85)) ((((X1.setCell ⟨p7, 0, none⟩ (.int .u64 (R' 0))).setCell ⟨p7, 1, none⟩ (.int .u64 (R' 1))).setCell ⟨p7, 2, none⟩ (.int .u64 (R' 2))).setCell ⟨p7, 3, none⟩ (.int .u64 (R' 3))).heap.size R' from Blk.new _ _ _)
          obtain ⟨k0, k1, k2, k3⟩ := SB.cells KR2.out
          replace KS2 := Hid.of (KS2.out.below hbA KS2.out.lt)
          replace KZ2 := Hid.of (KZ2.out.below hbA KZ2.out.lt)
          replace BW2 := Hid.of (BW2.out.trans (hbA.mono BW2.out.size))
          obtain ⟨s0, s1, s2, s3⟩ := SB.cells KS2.out
          obtain ⟨n0, n1, n2, n3⟩ := SB.cells KN.out
          clear hbA KR2
          go_wp2_with fail
          clear k0 k1 k2 k3 r0 r1 r2 r3 rz s0 s1 s2 s3 n0 n1 n2 n3
          have hsz : ((((X1.setCell ⟨p7, 0, none⟩ (.int .u64 (R' 0))).setCell ⟨p7, 1, none⟩ (.int .u64 (R' 1))).setCell ⟨p7, 2, none⟩ (.int .u64 (R' 2))).setCell ⟨p7, 3, none⟩ (.int .u64 (R' 3))).heap.size = X1.heap.size := by simp
          rw [hsz] at HL9 KN
          clear hsz
          revert HL9 KN KS2 KZ2 BW2
          generalize ((((X1.setCell ⟨p7, 0, none⟩ (.int .u64 (R' 0))).setCell ⟨p7, 1, none⟩ (.int .u64 (R' 1))).setCell ⟨p7, 2, none⟩ (.int .u64 (R' 2))).setCell ⟨p7, 3, none⟩ (.int .u64 (R' 3))).alloc (.cells (scells R') 85) = X2
          generalize X1.heap.size = p9
          intro HL9 KN KS2 KZ2 BW2
          refine (join_any S R' _ hok.out.1 hok'.out).mono ?_
          rintro e X3 ⟨rfl, hb⟩
          replace KN := Hid.of (KN.out.below hb KN.out.lt)
          replace KS2 := Hid.of (KS2.out.below hb KS2.out.lt)
          replace KZ2 := Hid.of (KZ2.out.below hb KZ2.out.lt)
          replace BW2 := Hid.of (BW2.out.trans (hb.mono BW2.out.size))
          clear hb
          obtain ⟨J, HJ⟩ : ∃ J, Hid (J = joinS S R') := ⟨_, rfl⟩
          rw [← HJ.out] at HSN1 HSM1 ⊢
          have sz := KS2.out.frozen
          obtain ⟨s0, s1, s2, s3⟩ := SB.cells KS2.out
          have KS3 := Hid.of (SB.set4 KS2.out J)
          have KN3 := Hid.of (Blk.other4 KN.out (b' := w.heap.size) (by have := HL9.out; omega) (.int .u64 (J 0)) (.int .u64 (J 1)) (.int .u64 (J 2)) (.int .u64 (J 3)))
          have KZ3 := Hid.of (Blk.other4 KZ2.out (b' := w.heap.size) (by omega) (.int .u64 (J 0)) (.int .u64 (J 1)) (.int .u64 (J 2)) (.int .u64 (J 3)))
          have BW3 := Hid.of (below_set4 BW2.out (b' := w.heap.size) (Nat.le_refl _) (.int .u64 (J 0)) (.int .u64 (J 1)) (.int .u64 (J 2)) (.int .u64 (J 3)))
          clear KS2 KN KZ2 BW2
          go_wp2_with fail
          go_roundw
          case rel => exact ⟨p9, J, R', rfl, HL9.out, KS3, KZ3, KN3, BW3, HSN1⟩
          case measure =>
            show msr (setAt _ w.heap.size) (setAt _ p9) < msr (setAt _ w.heap.size) (setAt _ p7)
            rw [SB.msr KS3.out KN3.out, ME.out]
            exact HSM1.out

end Go.Proofs.YtmlkpdeidpcidaaDoor
