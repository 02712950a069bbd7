/-
  The walk of jalousieref11.Leak (any).
-/
import Derived.Test.YtmlkpdeidpcidaaDoorH39
namespace Go.Proofs.YtmlkpdeidpcidaaDoor
open Go.RowKit
set_option linter.unusedVariables false

set_option maxRecDepth 100000 in
set_option maxHeartbeats 16000000 in
theorem rLeakS_B (p : Plant) (P : PTL) (most : Int) (w : World) (h : Hid (PAt w p P)) (hp : Hid (mayP p = true)) (hms : Hid (¬ 0 ≤ most)) :
    Calls Tryd.prog 44 #[ptval p P, .int .i64 most] w fun e w' => SLPost w (outS p most) e w' := by
  have B : Hid (Below w.heap.size w (w.alloc (.cells (ptcells p P) 44))) := (Below.refl _ _).alloc (Nat.le_refl _) _
  have K : Hid (Blk (w.alloc (.cells (ptcells p P) 44)) w.heap.size 44 (ptcells p P)) := Blk.new w _ _
  go_enter Tryd.func44, Tryd.ntmps44
  obtain ⟨x0, x1, x2, x3, x4, x5, x6⟩ := ptcell_at K.out
  go_wp2_with fail
  clear x0 x1 x2 x3 x4 x5 x6
  revert B K
  generalize w.alloc (.cells (ptcells p P) 44) = W0
  intro B K
  refine (rFwd_any p P W0 (h.out.below B.out (Nat.le_refl _)) hp.out).mono ?_
  rintro e W1 ⟨v1, rfl, o1, hb1⟩
  obtain ⟨r1, r2, r3, r4, r5, r6⟩ := kno_rows hp.out
  obtain ⟨ga, capa, rfl, -, hga, hla, hca⟩ := o1.cellsK r3
  replace B := Hid.of (B.out.trans (hb1.mono B.out.size))
  replace K := Hid.of (K.out.below hb1 K.out.lt)
  obtain ⟨AK, HAK⟩ : ∃ AK, Hid (AK = knL p.seen (fwdL p)) := ⟨_, rfl⟩
  obtain ⟨BK, HBK⟩ : ∃ BK, Hid (BK = knL p.seen (bwdL p)) := ⟨_, rfl⟩
  rw [← HAK.out] at hla hca r1 r3 r5 ⊢
  rw [← HBK.out] at r2 r4 r6
  have HR5 := Hid.of r5
  have HR6 := Hid.of r6
  have HR1 := Hid.of r1
  have HR2 := Hid.of r2
  have HCA := Hid.of hca
  have HOUT : Hid (outS p most = allP p.secret most AK BK) := by show _ = _; rw [HAK.out, HBK.out]; rfl
  clear o1 hb1 hca r1 r2 r5 r6
  obtain ⟨x0, x1, x2, x3, x4, x5, x6⟩ := ptcell_at K.out
  go_wp2_with fail
  clear x0 x1 x2 x3 x4 x5 x6
  refine (rBack_any p P W1 (h.out.below B.out (Nat.le_refl _)) hp.out).mono ?_
  rintro e W2 ⟨v2, rfl, o2, hb2⟩
  rw [← HBK.out] at o2
  obtain ⟨gb, capb, rfl, -, hgb, hlb, hcb⟩ := o2.cellsK r4
  replace B := Hid.of (B.out.trans (hb2.mono B.out.size))
  replace K := Hid.of (K.out.below hb2 K.out.lt)
  have HCB := Hid.of hcb
  have HCA2 := Hid.of (cellsK_below HCA.out hb2 hga)
  have HGA : Hid (ga < W2.heap.size) := Nat.lt_of_lt_of_le hga hb2.size
  have HGB := Hid.of hgb
  have hma : AK.length ≤ 9223372036854775807 := Nat.le_trans hla (by decide)
  have hmb : BK.length ≤ 9223372036854775807 := Nat.le_trans hlb (by decide)
  have B2 := B
  have K2 := K
  clear o2 hb2 hcb HCA B K hga hgb hla hlb r3 r4 HAK HBK
  go_wp2_with fail
  go_loopw [9, 10, 11, 12] (fun v9 v10 v11 i' wr => ∃ (i : Nat) (o : Option (List Int × List Int)) (fb : Bool) (ba : Option Addr) (bc n1 : Nat) (va : Option Addr) (vc n2 : Nat), i' = .int .i64 i ∧ i ≤ AK.length ∧ v9 = .bool fb ∧ v10 = .slice ba n1 bc ∧ v11 = .slice va n2 vc ∧ Hid (n1 = (o.getD ([], [])).1.length) ∧ Hid (n2 = (o.getD ([], [])).2.length) ∧ Hid (fb = o.isSome) ∧ Hid (At wr ba (o.getD ([], [])).1) ∧ Hid (At wr va (o.getD ([], [])).2) ∧ Hid ((o.getD ([], [])).1.length ≤ 64) ∧ Hid ((o.getD ([], [])).2.length ≤ 64) ∧ Hid (Below W2.heap.size W2 wr) ∧ Hid (o = allP p.secret most (AK.take i) BK)) (fun _ _ _ i' _ => AK.length - (intOf i').toNat)
  case atStart => exact ⟨0, none, false, none, 0, 0, none, 0, 0, rfl, Nat.zero_le _, rfl, rfl, rfl, rfl, rfl, rfl, .inl rfl, .inl rfl, Nat.zero_le _, Nat.zero_le _, Below.refl _ _, rfl⟩
  case round =>
    obtain ⟨i, o0, fb, ba, bc, n1, va, vc, n2, rfl, hii, rfl, rfl, rfl, HN1, HN2, HFB, HAT1, HAT2, HL1, HL2, B, HO⟩ := hrel
    by_cases hia : i < AK.length
    · obtain ⟨x, HX⟩ : ∃ x, Hid (AK[i]? = some x) := ⟨_, List.getElem?_eq_getElem hia⟩
      have HTA := Hid.of (allP_take p.secret most BK HX.out)
      rw [← HO.out] at HTA
      obtain ⟨xa, xc, xz, xd, cx1, cx2, ix1, lx1, ix2, lx2⟩ := HCA2.out i x HX.out
      rw [Nat.zero_add] at cx1 cx2
      have CX1 := Hid.of cx1
      have CX2 := Hid.of cx2
      have XR := Hid.of ix1
      have XW := Hid.of ix2
      have HXL : Hid (x.2.length ≤ 64) := HR5.out x (List.mem_of_getElem? HX.out)
      have HXR : Hid (x.1.length ≤ 256) := HR1.out x (List.mem_of_getElem? HX.out)
      clear cx1 cx2 ix1 ix2 lx1 lx2
      go_wp2_with fail
      go_loopw [9, 10, 11, 13] (fun v9 v10 v11 k' wr => ∃ (k : Nat) (o : Option (List Int × List Int)) (fb : Bool) (ba : Option Addr) (bc n1 : Nat) (va : Option Addr) (vc n2 : Nat), k' = .int .i64 k ∧ k ≤ BK.length ∧ v9 = .bool fb ∧ v10 = .slice ba n1 bc ∧ v11 = .slice va n2 vc ∧ Hid (n1 = (o.getD ([], [])).1.length) ∧ Hid (n2 = (o.getD ([], [])).2.length) ∧ Hid (fb = o.isSome) ∧ Hid (At wr ba (o.getD ([], [])).1) ∧ Hid (At wr va (o.getD ([], [])).2) ∧ Hid ((o.getD ([], [])).1.length ≤ 64) ∧ Hid ((o.getD ([], [])).2.length ≤ 64) ∧ Hid (Below W2.heap.size W2 wr) ∧ Hid (o = rowP p.secret most o0 x (BK.take k))) (fun _ _ _ k' _ => BK.length - (intOf k').toNat)
      case atStart => exact ⟨0, o0, fb, ba, bc, n1, va, vc, n2, rfl, Nat.zero_le _, rfl, rfl, rfl, HN1, HN2, HFB, HAT1, HAT2, HL1, HL2, B, rfl⟩
      case round =>
        clear HN1 HN2 HFB HAT1 HAT2 HL1 HL2 B HO
        obtain ⟨k, o, fb, ba, bc, n1, va, vc, n2, rfl, hkk, rfl, rfl, rfl, HN1, HN2, HFB, HAT1, HAT2, HL1, HL2, B, HO⟩ := hrel
        by_cases hkb : k < BK.length
        · obtain ⟨y, HY⟩ : ∃ y, Hid (BK[k]? = some y) := ⟨_, List.getElem?_eq_getElem hkb⟩
          have HNX : Hid (rowP p.secret most o0 x (BK.take (k + 1)) = putP p.secret most o x y) := by show _ = _; rw [rowP_take p.secret most o0 x HY.out, ← HO.out]
          obtain ⟨ya, yc, yz, yd, cy1, cy2, iy1, ly1, iy2, ly2⟩ := HCB.out k y HY.out
          rw [Nat.zero_add] at cy1 cy2
          have CY1 := Hid.of cy1
          have YR := Hid.of iy1
          have YW := Hid.of iy2
          have HYL : Hid (y.2.length ≤ 64) := HR6.out y (List.mem_of_getElem? HY.out)
          have HYR : Hid (y.1.length ≤ 256) := HR2.out y (List.mem_of_getElem? HY.out)
          have dx2 : wr.cell? ⟨ga, i * 2 + 1, none⟩ = some (.slice xz x.2.length xd) := (B.out.cell (p := ⟨ga, i * 2 + 1, none⟩) HGA.out).trans CX2.out
          have dy2 : wr.cell? ⟨gb, k * 2 + 1, none⟩ = some (.slice yz y.2.length yd) := (B.out.cell (p := ⟨gb, k * 2 + 1, none⟩) HGB.out).trans cy2
          have SA : Hid (∀ W : World, Below W2.heap.size W2 W → W.cell? ⟨ga, i * 2, none⟩ = some (.slice xa x.1.length xc) ∧ W.cell? ⟨gb, k * 2, none⟩ = some (.slice ya y.1.length yc)) := fun W hb => ⟨(hb.cell (p := ⟨ga, i * 2, none⟩) HGA.out).trans CX1.out, (hb.cell (p := ⟨gb, k * 2, none⟩) HGB.out).trans CY1.out⟩
          clear cy1 cy2 iy1 iy2 ly1 ly2
          by_cases hsk : 0 ≤ most ∧ most < (y.2.length : Int)
          · obtain ⟨hs1, hs2⟩ := hsk
            exact absurd hs1 (by have := hms.out; omega)
          · have HOKL : Hid (okP p.secret most x y = leakB p.secret (meetR x.1 y.1)) := by
              show _ = _
              unfold okP
              have : (decide (0 ≤ most) && decide (most < (y.2.length : Int))) = false := by
                rw [Bool.eq_false_iff]; intro q
                rw [Bool.and_eq_true, decide_eq_true_eq, decide_eq_true_eq] at q
                exact hsk q
              rw [this]; rfl
            have hs1 : ¬ 0 ≤ most := by have := hms.out; omega
            clear hsk
            go_wp2_with fail
            clear hs1
            · skip
              clear dx2 dy2
              refine wp_region_held_drew (S := fun w' => w'.cell? ⟨ga, i * 2, none⟩ = some (.slice xa x.1.length xc) ∧ w'.cell? ⟨gb, k * 2, none⟩ = some (.slice ya y.1.length yc)) (by kernel_rfl) (SA.out _ B.out.drew) (fun hS => ?_)
              replace B : Hid (Below W2.heap.size W2 wr.drew) := B.out.drew
              replace HAT1 : Hid (At wr.drew ba _) := HAT1.out.below (Below.refl _ _).drew (Nat.le_refl _)
              replace HAT2 : Hid (At wr.drew va _) := HAT2.out.below (Below.refl _ _).drew (Nat.le_refl _)
              revert hS B HAT1 HAT2
              generalize wr.drew = Y0
              intro hS B HAT1 HAT2
              refine wpAnyH_take (i := 0) (v := .slice (some ⟨ga, 0, none⟩) AK.length capa) rfl (by kernel_rfl) (by kernel_rfl) (by kernel_rfl) (fun _ _ _ h => h) (Or.inl ⟨by kernel_rfl, fun w' hw' => by obtain ⟨q0, q1⟩ := hw'; go_simp⟩) hS ?_
              refine wpAnyH_take (i := 1) (v := .int .i64 i) rfl (by kernel_rfl) (by kernel_rfl) (by kernel_rfl) (fun _ _ _ h => h) (Or.inl ⟨by kernel_rfl, fun w' hw' => by obtain ⟨q0, q1⟩ := hw'; go_simp⟩) hS ?_
              refine wpAnyH_take (i := 2) (v := .pointer (some ⟨ga, i * 2, none⟩)) rfl (by kernel_rfl) (by kernel_rfl) (by kernel_rfl) (fun _ _ _ h => h) (Or.inl ⟨by kernel_rfl, fun w' hw' => by obtain ⟨q0, q1⟩ := hw'; go_simp⟩) hS ?_
              refine wpAnyH_take (i := 3) (v := .pointer (some ⟨ga, i * 2, none⟩)) rfl (by kernel_rfl) (by kernel_rfl) (by kernel_rfl) (fun _ _ _ h => h) (Or.inl ⟨by kernel_rfl, fun w' hw' => by obtain ⟨q0, q1⟩ := hw'; go_simp⟩) hS ?_
              refine wpAnyH_take (i := 4) (v := .slice xa x.1.length xc) rfl (by kernel_rfl) (by kernel_rfl) (by kernel_rfl) (fun _ _ _ h => h) (Or.inl ⟨by kernel_rfl, fun w' hw' => by obtain ⟨q0, q1⟩ := hw'; go_simp⟩) hS ?_
              refine wpAnyH_take (i := 5) (v := .slice (some ⟨gb, 0, none⟩) BK.length capb) rfl (by kernel_rfl) (by kernel_rfl) (by kernel_rfl) (fun _ _ _ h => h) (Or.inl ⟨by kernel_rfl, fun w' hw' => by obtain ⟨q0, q1⟩ := hw'; go_simp⟩) hS ?_
              refine wpAnyH_take (i := 6) (v := .int .i64 k) rfl (by kernel_rfl) (by kernel_rfl) (by kernel_rfl) (fun _ _ _ h => h) (Or.inl ⟨by kernel_rfl, fun w' hw' => by obtain ⟨q0, q1⟩ := hw'; go_simp⟩) hS ?_
              refine wpAnyH_take (i := 7) (v := .pointer (some ⟨gb, k * 2, none⟩)) rfl (by kernel_rfl) (by kernel_rfl) (by kernel_rfl) (fun _ _ _ h => h) (Or.inl ⟨by kernel_rfl, fun w' hw' => by obtain ⟨q0, q1⟩ := hw'; go_simp⟩) hS ?_
              refine wpAnyH_take (i := 8) (v := .pointer (some ⟨gb, k * 2, none⟩)) rfl (by kernel_rfl) (by kernel_rfl) (by kernel_rfl) (fun _ _ _ h => h) (Or.inl ⟨by kernel_rfl, fun w' hw' => by obtain ⟨q0, q1⟩ := hw'; go_simp⟩) hS ?_
              refine wpAnyH_take (i := 9) (v := .slice ya y.1.length yc) rfl (by kernel_rfl) (by kernel_rfl) (by kernel_rfl) (fun _ _ _ h => h) (Or.inl ⟨by kernel_rfl, fun w' hw' => by obtain ⟨q0, q1⟩ := hw'; go_simp⟩) hS ?_
              simp only [Act.put, List.setIfInBounds_toArray]
              refine wpAnyH_ready (rs := [10]) (by kernel_rfl) (by simp) ?_
              refine AllReadyH.cons rfl (fun K' hK' => ?_) AllReadyH.nil
              go_simp
              refine (rMeet_any xa ya xc yc x.1 y.1 Y0 (XR.out.below B.out (Nat.le_refl _)) (YR.out.below B.out (Nat.le_refl _)) HXR.out HYR.out).mono ?_
              rintro e Y1 ⟨v5, rfl, o5, hb5⟩
              obtain ⟨ma, mc, hm5, hat5, -, -, -⟩ := o5.at2
              subst hm5
              have HML : Hid ((meetR x.1 y.1).length ≤ 17592186044416) := Nat.le_trans (meetR_len _ _) (Nat.le_trans (Nat.mul_le_mul HXR.out HYR.out) (by decide))
              have HMA := Hid.of hat5
              replace B := Hid.of (B.out.trans (hb5.mono B.out.size))
              replace HAT1 := Hid.of (HAT1.out.below hb5 (Nat.le_refl _))
              replace HAT2 := Hid.of (HAT2.out.below hb5 (Nat.le_refl _))
              obtain ⟨both, HBO⟩ : ∃ both, Hid (both = meetR x.1 y.1) := ⟨_, rfl⟩
              rw [← HBO.out] at HML HMA HOKL ⊢
              refine hK'.out _ _ (SA.out _ B.out) (fun hS2 => ?_)
              clear hK' K' o5 hat5 hb5 hS
              refine wpAnyH_take (i := 11) (v := .slice ma both.length mc) rfl (by kernel_rfl) (by kernel_rfl) (by kernel_rfl) (fun _ _ _ h => h) (Or.inl ⟨by kernel_rfl, fun w' hw' => by obtain ⟨q0, q1⟩ := hw'; go_simp⟩) hS2 ?_
              refine wpAnyH_done (by kernel_rfl) ?_ _
              clear hS2 SA
              have x6 : Y1.cell? ⟨w.heap.size, 6, none⟩ = some (.slice P.ta p.secret.length P.tc) := (ptcell_at (K2.out.below B.out K2.out.lt)).2.2.2.2.2.2
              go_wp2_with fail
              refine (rTells_any ma P.ta mc P.tc both p.secret Y1 HMA.out HML.out (h.out.t.at_.below (B2.out.trans (B.out.mono B2.out.size)) (Nat.le_refl _)) h.out.t.len).mono ?_
              rintro e W4 ⟨rfl, hb6⟩
              replace B := Hid.of (B.out.trans (hb6.mono B.out.size))
              replace HAT1 := Hid.of (HAT1.out.below hb6 (Nat.le_refl _))
              replace HAT2 := Hid.of (HAT2.out.below hb6 (Nat.le_refl _))
              clear hb6 x6 HMA HML
              cases hlk : leakB p.secret both with
              | false =>
                have HNW : Hid (o = rowP p.secret most o0 x (BK.take (k + 1))) := by show _ = _; rw [HNX.out]; unfold putP; rw [HOKL.out, hlk]; simp
                clear hlk
                go_wp2_with fail
                go_roundw
                case rel => exact ⟨k + 1, o, fb, ba, bc, _, va, vc, _, by go_num, by omega, rfl, rfl, rfl, HN1, HN2, HFB, HAT1, HAT2, HL1, HL2, B, HNW⟩
                case measure => simp [intOf]; omega
              | true =>
                have HOK : Hid (okP p.secret most x y = true) := by show _ = _; rw [HOKL.out, hlk]
                clear hlk
                obtain ⟨bw, HBW⟩ : ∃ bw, Hid (bw = (o.getD ([], [])).1) := ⟨_, rfl⟩
                obtain ⟨bv, HBV⟩ : ∃ bv, Hid (bv = (o.getD ([], [])).2) := ⟨_, rfl⟩
                have HNB1 : Hid (n1 = bw.length) := by show _ = _; rw [HN1.out, HBW.out]
                have HNB2 : Hid (n2 = bv.length) := by show _ = _; rw [HN2.out, HBV.out]
                obtain ⟨sn, HSN⟩ : ∃ sn : Int, Hid (sn = (x.2.length : Int) + (y.2.length : Int)) := ⟨_, rfl⟩
                obtain ⟨sm, HSM⟩ : ∃ sm : Int, Hid (sm = (n1 : Int) + (n2 : Int)) := ⟨_, rfl⟩
                have hwn : IntKind.i64.wrap ((x.2.length : Int) + (y.2.length : Int)) = sn := by
                  have q1 := HXL.out; have q2 := HYL.out
                  rw [IntKind.wrap_i64, HSN.out]; omega
                have hwm : IntKind.i64.wrap ((n1 : Int) + (n2 : Int)) = sm := by
                  have q1 := HL1.out; have q2 := HL2.out; rw [← HN1.out] at q1; rw [← HN2.out] at q2
                  rw [IntKind.wrap_i64, HSM.out]; omega
                by_cases h1 : sn < sm
                · have HPB : Hid (pairB x.2 y.2 (o.getD ([], [])).1 (o.getD ([], [])).2 = true) := by show _ = _; rw [← HBW.out, ← HBV.out]; exact pb1 (by have q1 := HSN.out; have q2 := HSM.out; have q3 := HNB1.out; have q4 := HNB2.out; omega)
                  have HXW : Hid (At _ xz x.2) := XW.out.below B.out (Nat.le_refl _)
                  have HYW : Hid (At _ yz y.2) := YW.out.below B.out (Nat.le_refl _)
                  have HNW : Hid (some (x.2, y.2) = rowP p.secret most o0 x (BK.take (k + 1))) := by show _ = _; rw [HNX.out]; unfold putP; rw [HOK.out, HPB.out]; simp
                  cases fb with
                  | false =>
                    go_wp2_with fail
                    go_roundw
                    case rel => exact ⟨k + 1, some (x.2, y.2), true, xz, xd, x.2.length, yz, yd, y.2.length, by go_num, by omega, rfl, rfl, rfl, rfl, rfl, rfl, HXW, HYW, HXL, HYL, B, HNW⟩
                    case measure => simp [intOf]; omega
                  | true =>
                    go_wp2_with fail
                    go_roundw
                    case rel => exact ⟨k + 1, some (x.2, y.2), true, xz, xd, x.2.length, yz, yd, y.2.length, by go_num, by omega, rfl, rfl, rfl, rfl, rfl, rfl, HXW, HYW, HXL, HYL, B, HNW⟩
                    case measure => simp [intOf]; omega
                · have hd1 : decide (sn < sm) = false := decide_eq_false h1
                  have HH1 := Hid.of h1
                  clear h1
                  by_cases h2 : sn = sm
                  · clear hd1
                    have he1 : x.2.length + y.2.length = bw.length + bv.length := by have q1 := HSN.out; have q2 := HSM.out; have q3 := HNB1.out; have q4 := HNB2.out; omega
                    have HE1 := Hid.of he1
                    clear he1 HH1
                    subst h2
                    by_cases h3 : y.2.length < n2
                    · have HPB : Hid (pairB x.2 y.2 (o.getD ([], [])).1 (o.getD ([], [])).2 = true) := by show _ = _; rw [← HBW.out, ← HBV.out]; exact pb3 HE1.out (by have q4 := HNB2.out; omega)
                      have h3I : (y.2.length : Int) < (n2 : Int) := by omega
                      have HXW : Hid (At _ xz x.2) := XW.out.below B.out (Nat.le_refl _)
                      have HYW : Hid (At _ yz y.2) := YW.out.below B.out (Nat.le_refl _)
                      have HNW : Hid (some (x.2, y.2) = rowP p.secret most o0 x (BK.take (k + 1))) := by show _ = _; rw [HNX.out]; unfold putP; rw [HOK.out, HPB.out]; simp
                      cases fb with
                      | false =>
                        go_wp2_with fail
                        go_roundw
                        case rel => exact ⟨k + 1, some (x.2, y.2), true, xz, xd, x.2.length, yz, yd, y.2.length, by go_num, by omega, rfl, rfl, rfl, rfl, rfl, rfl, HXW, HYW, HXL, HYL, B, HNW⟩
                        case measure => simp [intOf]; omega
                      | true =>
                        go_wp2_with fail
                        go_roundw
                        case rel => exact ⟨k + 1, some (x.2, y.2), true, xz, xd, x.2.length, yz, yd, y.2.length, by go_num, by omega, rfl, rfl, rfl, rfl, rfl, rfl, HXW, HYW, HXL, HYL, B, HNW⟩
                        case measure => simp [intOf]; omega
                    · by_cases h4 : y.2.length = n2
                      · clear h3
                        have HE2 : Hid (y.2.length = bv.length) := show _ = _ by have q4 := HNB2.out; omega
                        subst h4
                        have KEY : Hid (Calls Tryd.prog 88 #[.slice xz x.2.length xd, .slice ba bw.length bc] W4 fun e w' => e = .returned (.bool (lessB x.2 bw)) ∧ ∃ q, w' = W4.drewN q) := rless_any xz ba xd bc x.2 bw W4 (XW.out.below B.out (Nat.le_refl _)) (by rw [HBW.out]; exact HAT1.out) (Nat.le_trans HXL.out (by decide)) (by rw [HBW.out]; exact Nat.le_trans HL1.out (by decide))
                        rw [← HNB1.out] at KEY
                        go_wp2_with fail
                        refine KEY.out.mono ?_
                        rintro e W5 ⟨rfl, q, hq⟩
                        have hbq : Below W4.heap.size W4 W5 := by rw [hq]; exact below_drewN (Below.refl _ _) q
                        replace B := Hid.of (B.out.trans (hbq.mono B.out.size))
                        replace HAT1 := Hid.of (HAT1.out.below hbq (Nat.le_refl _))
                        replace HAT2 := Hid.of (HAT2.out.below hbq (Nat.le_refl _))
                        clear hbq hq KEY
                        cases l1 : lessB x.2 bw with
                        | true =>
                          have HPB : Hid (pairB x.2 y.2 (o.getD ([], [])).1 (o.getD ([], [])).2 = true) := by show _ = _; rw [← HBW.out, ← HBV.out]; exact pb5 HE1.out HE2.out l1
                          clear l1
                          have HXW : Hid (At _ xz x.2) := XW.out.below B.out (Nat.le_refl _)
                          have HYW : Hid (At _ yz y.2) := YW.out.below B.out (Nat.le_refl _)
                          have HNW : Hid (some (x.2, y.2) = rowP p.secret most o0 x (BK.take (k + 1))) := by show _ = _; rw [HNX.out]; unfold putP; rw [HOK.out, HPB.out]; simp
                          cases fb with
                          | false =>
                            go_wp2_with fail
                            go_roundw
                            case rel => exact ⟨k + 1, some (x.2, y.2), true, xz, xd, x.2.length, yz, yd, y.2.length, by go_num, by omega, rfl, rfl, rfl, rfl, rfl, rfl, HXW, HYW, HXL, HYL, B, HNW⟩
                            case measure => simp [intOf]; omega
                          | true =>
                            go_wp2_with fail
                            go_roundw
                            case rel => exact ⟨k + 1, some (x.2, y.2), true, xz, xd, x.2.length, yz, yd, y.2.length, by go_num, by omega, rfl, rfl, rfl, rfl, rfl, rfl, HXW, HYW, HXL, HYL, B, HNW⟩
                            case measure => simp [intOf]; omega
                        | false =>
                          have KEY : Hid (Calls Tryd.prog 88 #[.slice ba bw.length bc, .slice xz x.2.length xd] W5 fun e w' => e = .returned (.bool (lessB bw x.2)) ∧ ∃ q, w' = W5.drewN q) := rless_any ba xz bc xd bw x.2 W5 (by rw [HBW.out]; exact HAT1.out) (XW.out.below B.out (Nat.le_refl _)) (by rw [HBW.out]; exact Nat.le_trans HL1.out (by decide)) (Nat.le_trans HXL.out (by decide))
                          rw [← HNB1.out] at KEY
                          go_wp2_with fail
                          refine KEY.out.mono ?_
                          rintro e W6 ⟨rfl, q, hq⟩
                          have hbq : Below W5.heap.size W5 W6 := by rw [hq]; exact below_drewN (Below.refl _ _) q
                          replace B := Hid.of (B.out.trans (hbq.mono B.out.size))
                          replace HAT1 := Hid.of (HAT1.out.below hbq (Nat.le_refl _))
                          replace HAT2 := Hid.of (HAT2.out.below hbq (Nat.le_refl _))
                          clear hbq hq KEY
                          cases l2 : lessB bw x.2 with
                          | true =>
                            have HPB : Hid (pairB x.2 y.2 (o.getD ([], [])).1 (o.getD ([], [])).2 = false) := by show _ = _; rw [← HBW.out, ← HBV.out]; exact pb6 HE1.out HE2.out l1 l2
                            clear l1 l2
                            have HXW : Hid (At _ xz x.2) := XW.out.below B.out (Nat.le_refl _)
                            have HYW : Hid (At _ yz y.2) := YW.out.below B.out (Nat.le_refl _)
                            cases fb with
                            | false =>
                              have HON : Hid (o.isNone = true) := by
                                show _ = _
                                have q := HFB.out
                                cases o with
                                | none => rfl
                                | some u => cases q
                              have HNW : Hid (some (x.2, y.2) = rowP p.secret most o0 x (BK.take (k + 1))) := by show _ = _; rw [HNX.out]; unfold putP; rw [HOK.out, HON.out]; simp
                              go_wp2_with fail
                              go_roundw
                              case rel => exact ⟨k + 1, some (x.2, y.2), true, xz, xd, x.2.length, yz, yd, y.2.length, by go_num, by omega, rfl, rfl, rfl, rfl, rfl, rfl, HXW, HYW, HXL, HYL, B, HNW⟩
                              case measure => simp [intOf]; omega
                            | true =>
                              have HON : Hid (o.isNone = false) := by
                                show _ = _
                                have q := HFB.out
                                cases o with
                                | none => cases q
                                | some u => rfl
                              have HNW : Hid (o = rowP p.secret most o0 x (BK.take (k + 1))) := by show _ = _; rw [HNX.out]; unfold putP; rw [HOK.out, HON.out, HPB.out]; simp
                              go_wp2_with fail
                              go_roundw
                              case rel => exact ⟨k + 1, o, true, ba, bc, _, va, vc, _, by go_num, by omega, rfl, rfl, rfl, HN1, HN2, HFB, HAT1, HAT2, HL1, HL2, B, HNW⟩
                              case measure => simp [intOf]; omega
                          | false =>
                            have KEY : Hid (Calls Tryd.prog 88 #[.slice yz y.2.length yd, .slice va bv.length vc] W6 fun e w' => e = .returned (.bool (lessB y.2 bv)) ∧ ∃ q, w' = W6.drewN q) := rless_any yz va yd vc y.2 bv W6 (YW.out.below B.out (Nat.le_refl _)) (by rw [HBV.out]; exact HAT2.out) (Nat.le_trans HYL.out (by decide)) (by rw [HBV.out]; exact Nat.le_trans HL2.out (by decide))
                            rw [← HNB2.out] at KEY
                            go_wp2_with fail
                            refine KEY.out.mono ?_
                            rintro e W7 ⟨rfl, q, hq⟩
                            have hbq : Below W6.heap.size W6 W7 := by rw [hq]; exact below_drewN (Below.refl _ _) q
                            replace B := Hid.of (B.out.trans (hbq.mono B.out.size))
                            replace HAT1 := Hid.of (HAT1.out.below hbq (Nat.le_refl _))
                            replace HAT2 := Hid.of (HAT2.out.below hbq (Nat.le_refl _))
                            clear hbq hq KEY
                            cases l3 : lessB y.2 bv with
                            | true =>
                              have HPB : Hid (pairB x.2 y.2 (o.getD ([], [])).1 (o.getD ([], [])).2 = true) := by show _ = _; rw [← HBW.out, ← HBV.out]; exact (pb7 HE1.out HE2.out l1 l2).trans l3
                              clear l1 l2 l3
                              have HXW : Hid (At _ xz x.2) := XW.out.below B.out (Nat.le_refl _)
                              have HYW : Hid (At _ yz y.2) := YW.out.below B.out (Nat.le_refl _)
                              have HNW : Hid (some (x.2, y.2) = rowP p.secret most o0 x (BK.take (k + 1))) := by show _ = _; rw [HNX.out]; unfold putP; rw [HOK.out, HPB.out]; simp
                              cases fb with
                              | false =>
                                go_wp2_with fail
                                go_roundw
                                case rel => exact ⟨k + 1, some (x.2, y.2), true, xz, xd, x.2.length, yz, yd, y.2.length, by go_num, by omega, rfl, rfl, rfl, rfl, rfl, rfl, HXW, HYW, HXL, HYL, B, HNW⟩
                                case measure => simp [intOf]; omega
                              | true =>
                                go_wp2_with fail
                                go_roundw
                                case rel => exact ⟨k + 1, some (x.2, y.2), true, xz, xd, x.2.length, yz, yd, y.2.length, by go_num, by omega, rfl, rfl, rfl, rfl, rfl, rfl, HXW, HYW, HXL, HYL, B, HNW⟩
                                case measure => simp [intOf]; omega
                            | false =>
                              have HPB : Hid (pairB x.2 y.2 (o.getD ([], [])).1 (o.getD ([], [])).2 = false) := by show _ = _; rw [← HBW.out, ← HBV.out]; exact (pb7 HE1.out HE2.out l1 l2).trans l3
                              clear l1 l2 l3
                              have HXW : Hid (At _ xz x.2) := XW.out.below B.out (Nat.le_refl _)
                              have HYW : Hid (At _ yz y.2) := YW.out.below B.out (Nat.le_refl _)
                              cases fb with
                              | false =>
                                have HON : Hid (o.isNone = true) := by
                                  show _ = _
                                  have q := HFB.out
                                  cases o with
                                  | none => rfl
                                  | some u => cases q
                                have HNW : Hid (some (x.2, y.2) = rowP p.secret most o0 x (BK.take (k + 1))) := by show _ = _; rw [HNX.out]; unfold putP; rw [HOK.out, HON.out]; simp
                                go_wp2_with fail
                                go_roundw
                                case rel => exact ⟨k + 1, some (x.2, y.2), true, xz, xd, x.2.length, yz, yd, y.2.length, by go_num, by omega, rfl, rfl, rfl, rfl, rfl, rfl, HXW, HYW, HXL, HYL, B, HNW⟩
                                case measure => simp [intOf]; omega
                              | true =>
                                have HON : Hid (o.isNone = false) := by
                                  show _ = _
                                  have q := HFB.out
                                  cases o with
                                  | none => cases q
                                  | some u => rfl
                                have HNW : Hid (o = rowP p.secret most o0 x (BK.take (k + 1))) := by show _ = _; rw [HNX.out]; unfold putP; rw [HOK.out, HON.out, HPB.out]; simp
                                go_wp2_with fail
                                go_roundw
                                case rel => exact ⟨k + 1, o, true, ba, bc, _, va, vc, _, by go_num, by omega, rfl, rfl, rfl, HN1, HN2, HFB, HAT1, HAT2, HL1, HL2, B, HNW⟩
                                case measure => simp [intOf]; omega
                      · have HPB : Hid (pairB x.2 y.2 (o.getD ([], [])).1 (o.getD ([], [])).2 = false) := by show _ = _; rw [← HBW.out, ← HBV.out]; exact pb4 HE1.out (by have q4 := HNB2.out; omega)
                        have hd3 : decide ((y.2.length : Int) < (n2 : Int)) = false := decide_eq_false (by omega)
                        have hb4 : ((y.2.length : Int) == (n2 : Int)) = false := by simp; omega
                        have hn2 : n2 ≤ y.2.length := by omega
                        clear h3
                        have HXW : Hid (At _ xz x.2) := XW.out.below B.out (Nat.le_refl _)
                        have HYW : Hid (At _ yz y.2) := YW.out.below B.out (Nat.le_refl _)
                        cases fb with
                        | false =>
                          have HON : Hid (o.isNone = true) := by
                            show _ = _
                            have q := HFB.out
                            cases o with
                            | none => rfl
                            | some u => cases q
                          have HNW : Hid (some (x.2, y.2) = rowP p.secret most o0 x (BK.take (k + 1))) := by show _ = _; rw [HNX.out]; unfold putP; rw [HOK.out, HON.out]; simp
                          go_wp2_with fail
                          go_roundw
                          case rel => exact ⟨k + 1, some (x.2, y.2), true, xz, xd, x.2.length, yz, yd, y.2.length, by go_num, by omega, rfl, rfl, rfl, rfl, rfl, rfl, HXW, HYW, HXL, HYL, B, HNW⟩
                          case measure => simp [intOf]; omega
                        | true =>
                          have HON : Hid (o.isNone = false) := by
                            show _ = _
                            have q := HFB.out
                            cases o with
                            | none => cases q
                            | some u => rfl
                          have HNW : Hid (o = rowP p.secret most o0 x (BK.take (k + 1))) := by show _ = _; rw [HNX.out]; unfold putP; rw [HOK.out, HON.out, HPB.out]; simp
                          go_wp2_with fail
                          go_roundw
                          case rel => exact ⟨k + 1, o, true, ba, bc, _, va, vc, _, by go_num, by omega, rfl, rfl, rfl, HN1, HN2, HFB, HAT1, HAT2, HL1, HL2, B, HNW⟩
                          case measure => simp [intOf]; omega
                  · have HPB : Hid (pairB x.2 y.2 (o.getD ([], [])).1 (o.getD ([], [])).2 = false) := by show _ = _; rw [← HBW.out, ← HBV.out]; exact pb2 (by have q0 := HH1.out; have q1 := HSN.out; have q2 := HSM.out; have q3 := HNB1.out; have q4 := HNB2.out; omega)
                    have hb2 : (sn == sm) = false := by simpa using h2
                    clear h2
                    have HXW : Hid (At _ xz x.2) := XW.out.below B.out (Nat.le_refl _)
                    have HYW : Hid (At _ yz y.2) := YW.out.below B.out (Nat.le_refl _)
                    cases fb with
                    | false =>
                      have HON : Hid (o.isNone = true) := by
                        show _ = _
                        have q := HFB.out
                        cases o with
                        | none => rfl
                        | some u => cases q
                      have HNW : Hid (some (x.2, y.2) = rowP p.secret most o0 x (BK.take (k + 1))) := by show _ = _; rw [HNX.out]; unfold putP; rw [HOK.out, HON.out]; simp
                      go_wp2_with fail
                      go_roundw
                      case rel => exact ⟨k + 1, some (x.2, y.2), true, xz, xd, x.2.length, yz, yd, y.2.length, by go_num, by omega, rfl, rfl, rfl, rfl, rfl, rfl, HXW, HYW, HXL, HYL, B, HNW⟩
                      case measure => simp [intOf]; omega
                    | true =>
                      have HON : Hid (o.isNone = false) := by
                        show _ = _
                        have q := HFB.out
                        cases o with
                        | none => cases q
                        | some u => rfl
                      have HNW : Hid (o = rowP p.secret most o0 x (BK.take (k + 1))) := by show _ = _; rw [HNX.out]; unfold putP; rw [HOK.out, HON.out, HPB.out]; simp
                      go_wp2_with fail
                      go_roundw
                      case rel => exact ⟨k + 1, o, true, ba, bc, _, va, vc, _, by go_num, by omega, rfl, rfl, rfl, HN1, HN2, HFB, HAT1, HAT2, HL1, HL2, B, HNW⟩
                      case measure => simp [intOf]; omega
        · have hkD : decide ((k : Int) < (BK.length : Int)) = false := by simp; omega
          have HNW : Hid (o = allP p.secret most (AK.take (i + 1)) BK) := by show _ = _; rw [HO.out, HTA.out, List.take_of_length_le (by omega)]
          go_wp2_with fail
          go_roundw
          case rel => exact ⟨i + 1, o, fb, ba, bc, n1, va, vc, n2, by go_num, by omega, rfl, rfl, rfl, HN1, HN2, HFB, HAT1, HAT2, HL1, HL2, B, HNW⟩
          case measure => simp [intOf]; omega
    · have hiD : decide ((i : Int) < (AK.length : Int)) = false := by simp; omega
      have HF : Hid (o0 = outS p most) := by show _ = _; rw [HOUT.out, HO.out, List.take_of_length_le (by omega)]
      go_wp2_with fail
      refine bodyPost_ret (v := .tuple #[.bool fb, .slice ba n1 bc, .slice va n2 vc]) (by simp [results, go_sem]) rfl ?_
      unfold SLPost
      rw [← HF.out, HN1.out, HN2.out, HFB.out]
      exact ⟨ba, bc, va, vc, rfl, HAT1.out, HAT2.out, Nat.le_trans HL1.out (by decide), Nat.le_trans HL2.out (by decide), B2.out.trans (B.out.mono B2.out.size)⟩

end Go.Proofs.YtmlkpdeidpcidaaDoor
