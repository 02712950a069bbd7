/-
 The walk of jalousieref15.wide.
-/
import Derived.Deep.RegionHeld3
import Derived.Test.YtkodmnooibpflaaDoorI15
import Derived.Test.YtkodmnooibpflaaDoorERORow
import Derived.Test.YtkodmnooibpflaaDoorI04
namespace Go.Proofs.YtkodmnooibpflaaDoor
open Go.RowKit
set_option linter.unusedVariables false

set_option maxRecDepth 100000 in
set_option maxHeartbeats 16000000 in
theorem rowide_any (p : Plant) (Pl : ML) (sa : Option Addr) (sc : Nat) (ta : Option Addr) (tc : Nat) (o : Mach) (lo : ML) (w0 : World) (hp : Hid (PAt w0 p ⟨Pl, sa, sc, ta, tc⟩)) (ho : Hid (MAt w0 o lo)) (hm : Hid (mayB p.m = true)) (hmo : Hid (mayB o = true)) (z6 : Hid (p.m.st ≤ 6)) (zo : Hid (o.st ≤ 6)) (n B : Nat) (v : Value) (l : List PlO) (w : World) (hb : Hid (Below w0.heap.size w0 w)) (h0 : w0.heap.size ≤ B) (hn : n ≤ B) (hB : B ≤ w.heap.size) (hv : Hid (OwnQ n w B v l)) (hnd : Hid (l.Nodup)) (hin : Hid (∀ x ∈ l, x ∈ allO p)) :
  Calls Tryd.prog 122 #[ptval p ⟨Pl, sa, sc, ta, tc⟩, mval o lo, v] w fun e w' => ∃ v', e = .returned v' ∧ OwnQ n w' B v' (widO p o l) ∧ Below B w w' := by
 have hz := mayB_size hm.out
 have hz2' := mayB_size hmo.out
 unfold sizeOk at hz hz2'
 have hl1 : Hid (p.m.arrows.length ≤ 4096) := show _ ≤ _ by omega
 have hl2 : Hid (o.arrows.length ≤ 4096) := show _ ≤ _ by omega
 obtain ⟨ev, HEV⟩ : ∃ ev : Nat, Hid (p.m.ev = (ev : Int)) := ⟨p.m.ev.toNat, by show _ = _; omega⟩
 have hev8 : ev ≤ 8 := by have := HEV.out; omega
 clear hz hz2'
 obtain ⟨i0, hi, hz0, hz1, hz2⟩ := info_parts Tryd.infoAtQ
 have HW0 : Hid (WO w ((w.alloc (.cells (ptcells p ⟨Pl, sa, sc, ta, tc⟩) 44)).alloc (.cells (mcells o lo) 25)) B n p ⟨Pl, sa, sc, ta, tc⟩ o lo v l) := by
  have b2 : Below w.heap.size w ((w.alloc (.cells (ptcells p ⟨Pl, sa, sc, ta, tc⟩) 44)).alloc (.cells (mcells o lo) 25)) := ((Below.refl _ _).alloc (Nat.le_refl _) _).alloc (by simp) _
  refine ⟨hv.out.below b2 (Nat.le_trans hn hB), b2.mono hB, (Blk.new w _ _).alloc _, ?_, Nat.le_trans hB b2.size, hn⟩
  have := Blk.new (w.alloc (.cells (ptcells p ⟨Pl, sa, sc, ta, tc⟩) 44)) 25 (mcells o lo)
  rwa [World.size_alloc] at this
 have hto : Hid (∀ (y : PlO) (e : Int) (z : PlO), selO p o y e = some z → z ∈ allO p) := fun y e z hs => by
  unfold selO at hs
  split at hs
  ·cases hs
  ·exact mem_allO zo.out (onO_ok hm.out hmo.out hs)
 have h384 : Hid ((allO p).length ≤ 384) := allO_len z6.out
 obtain ⟨va, vc, hv0⟩ := hv.out.form
 subst hv0
 go_enter Tryd.func122, Tryd.ntmps122
 go_wp2_with fail
 revert HW0
 generalize ((w.alloc (.cells (ptcells p ⟨Pl, sa, sc, ta, tc⟩) 44)).alloc (.cells (mcells o lo) 25)) = V0
 intro HW0
 go_loopw [2, 7] (fun v3 i wr => ∃ (k : Nat) (L : List PlO), i = .int .i64 k ∧ k ≤ L.length ∧ L.length ≤ 384 ∧ Hid (WO w wr B n p ⟨Pl, sa, sc, ta, tc⟩ o lo v3 L) ∧ Hid (L.Nodup ∧ ∀ x ∈ L, x ∈ allO p) ∧ Hid (widO p o l = cGo (nxO p o) (0, []) (1000 - k) k L)) (fun _ i _ => 385 - (intOf i).toNat)
 case atStart => exact ⟨0, l, rfl, Nat.zero_le _, Nat.le_trans (nodup_sub hnd.out hin.out) h384.out, HW0, ⟨hnd.out, hin.out⟩, rfl⟩
 case round =>
  clear HW0
  obtain ⟨k, L, rfl, hk, hL, HW, HNI, HGO⟩ := hrel
  obtain ⟨va, vc, hv3⟩ := HW.out.ow.form
  subst hv3
  by_cases hlt : k < L.length
  ·obtain ⟨⟨ym, ys⟩, HYY⟩ : ∃ y, Hid (L[k]? = some y) := ⟨_, List.getElem?_eq_getElem hlt⟩
   have hkD : decide ((k : Int) < (L.length : Int)) = true := by simp; omega
   go_wp2_with fail
   clear hkD
   go_loopw [2, 8] (fun v3 i wr' => ∃ (j : Nat), i = .int .i64 j ∧ j ≤ ev ∧ Hid (WO w wr' B n p ⟨Pl, sa, sc, ta, tc⟩ o lo v3 (rowO (selO p o (ym, ys)) L j))) (fun _ i _ => ev - (intOf i).toNat)
   case atStart => exact ⟨0, rfl, Nat.zero_le _, by rw [rowO_zero]; exact HW⟩
   case round =>
    clear HW
    obtain ⟨j, rfl, hj, HW⟩ := hrel
    obtain ⟨cur, HC⟩ : ∃ cur, Hid (cur = rowO (selO p o (ym, ys)) L j) := ⟨_, rfl⟩
    rw [← HC.out] at HW
    have hcl : cur.length ≤ 384 := by
     rw [HC.out]
     exact Nat.le_trans (nodup_sub (rowO_nodup HNI.out.1 j) (rowOR_in HNI.out.2 (fun e z hz => hto.out _ e z hz) j)) h384.out
    have HCY : Hid (cur[k]? = some (ym, ys)) := by show _ = _; rw [HC.out]; exact rowO_at HYY.out j
    have hkc : k < cur.length := (List.getElem?_eq_some_iff.1 HCY.out).1
    obtain ⟨va, vc, hv3⟩ := HW.out.ow.form
    subst hv3
    have HBW := Hid.of (hb.out.trans (HW.out.bel.mono h0))
    obtain ⟨x0, x1, x2, x3, x4, x5, x6⟩ := ptcell_at HW.out.kp
    by_cases hjl : j < ev
    ·have hjD : decide ((j : Int) < p.m.ev) = true := by rw [HEV.out]; simp; omega
     go_wp2_with fail
     clear x0 x1 x2 x3 x4 x5 x6
     refine (refHas_any sa sc p.seen (j : Int) _ (hp.out.below HBW.out (Nat.le_refl _)).s.at_ hp.out.s.len).mono ?_
     rintro e1 W1 ⟨rfl, rfl⟩
     cases e2 : hasB p.seen (j : Int) with
     | true =>
      have HNX : Hid (rowO (selO p o (ym, ys)) L (j + 1) = cur) := by show _ = _; rw [rowO_none (by unfold selO; rw [if_pos e2]), ← HC.out]
      clear e2
      have Q1 := HW
      go_wp2_with fail
      go_roundw
      case rel => exact ⟨j + 1, by go_num, by omega, by rw [HNX.out]; exact Q1⟩
      case measure => simp [intOf]; omega
     | false =>
      have HSO : Hid (selO p o (ym, ys) (j : Int) = onO p o (ym, ys) (j : Int)) := by show _ = _; unfold selO; rw [if_neg (by rw [e2]; simp)]
      clear e2
      obtain ⟨qa, qc, eq, qat, -⟩ := HW.out.ow.at
      cases eq
      obtain ⟨g, og, sy, sk, hga, hg, c1q, c2q, i1, i2, -⟩ := qat.get HCY.out
      dsimp only at c1q c2q i1 i2
      subst hga
      have I1 := Hid.of i1
      have I2 := Hid.of i2
      have HG := Hid.of hg
      have C1 := Hid.of c1q
      have C2 := Hid.of c2q
      have HNW : Hid (n ≤ W1.heap.size) := Nat.le_trans HW.out.hn HW.out.hB
      have HW0B := HBW
      clear c1q c2q i1 i2 hg qat
      have SA : Hid (∀ W, Below W1.heap.size W1 W → W.cell? ⟨w.heap.size, 0, none⟩ = some (.int .i64 p.m.st) ∧ W.cell? ⟨w.heap.size, 1, none⟩ = some (.int .i64 p.m.ev) ∧ W.cell? ⟨w.heap.size, 2, none⟩ = some (.slice Pl.a1 p.m.starts.length Pl.c1) ∧ W.cell? ⟨w.heap.size, 3, none⟩ = some (.slice Pl.a2 p.m.arrows.length Pl.c2) ∧ W.cell? ⟨w.heap.size, 4, none⟩ = some (.slice Pl.a3 p.m.ends.length Pl.c3) ∧ W.cell? ⟨w.heap.size, 5, none⟩ = some (.slice sa p.seen.length sc) ∧ W.cell? ⟨w.heap.size, 6, none⟩ = some (.slice ta p.secret.length tc) ∧ W.cell? ⟨w.heap.size + 1, 0, none⟩ = some (.int .i64 o.st) ∧ W.cell? ⟨w.heap.size + 1, 1, none⟩ = some (.int .i64 o.ev) ∧ W.cell? ⟨w.heap.size + 1, 2, none⟩ = some (.slice lo.a1 o.starts.length lo.c1) ∧ W.cell? ⟨w.heap.size + 1, 3, none⟩ = some (.slice lo.a2 o.arrows.length lo.c2) ∧ W.cell? ⟨w.heap.size + 1, 4, none⟩ = some (.slice lo.a3 o.ends.length lo.c3) ∧ W.cell? ⟨g, og + k * 2, none⟩ = some (.int .i64 ym) ∧ W.cell? ⟨g, og + k * 2 + 1, none⟩ = some (.slice sy ys.length sk)) := fun W hb => by
       have q := HW.out.below hb
       obtain ⟨x0, x1, x2, x3, x4, x5, x6⟩ := ptcell_at q.kp
       obtain ⟨y0, y1, y2, y3, y4⟩ := mcell_at q.ko
       exact ⟨x0, x1, x2, x3, x4, x5, x6, y0, y1, y2, y3, y4, (hb.cell (p := ⟨g, og + k * 2, none⟩) HG.out).trans C1.out, (hb.cell (p := ⟨g, og + k * 2 + 1, none⟩) HG.out).trans C2.out⟩
      have hk0 : (0 : Int) ≤ (k : Int) := by omega
      have hk1 : (k : Int) < (cur.length : Int) := by omega
      cases hon : onO p o (ym, ys) (j : Int) with
      | none =>
       have HON := Hid.of hon
       have HNX : Hid (rowO (selO p o (ym, ys)) L (j + 1) = cur) := by show _ = _; rw [rowO_none (by rw [HSO.out, hon]), ← HC.out]
       clear hon
       go_wp2_with fail
       refine wp_region_held_drew (S := fun w' => w'.cell? ⟨w.heap.size, 0, none⟩ = some (.int .i64 p.m.st) ∧ w'.cell? ⟨w.heap.size, 1, none⟩ = some (.int .i64 p.m.ev) ∧ w'.cell? ⟨w.heap.size, 2, none⟩ = some (.slice Pl.a1 p.m.starts.length Pl.c1) ∧ w'.cell? ⟨w.heap.size, 3, none⟩ = some (.slice Pl.a2 p.m.arrows.length Pl.c2) ∧ w'.cell? ⟨w.heap.size, 4, none⟩ = some (.slice Pl.a3 p.m.ends.length Pl.c3) ∧ w'.cell? ⟨w.heap.size, 5, none⟩ = some (.slice sa p.seen.length sc) ∧ w'.cell? ⟨w.heap.size, 6, none⟩ = some (.slice ta p.secret.length tc) ∧ w'.cell? ⟨w.heap.size + 1, 0, none⟩ = some (.int .i64 o.st) ∧ w'.cell? ⟨w.heap.size + 1, 1, none⟩ = some (.int .i64 o.ev) ∧ w'.cell? ⟨w.heap.size + 1, 2, none⟩ = some (.slice lo.a1 o.starts.length lo.c1) ∧ w'.cell? ⟨w.heap.size + 1, 3, none⟩ = some (.slice lo.a2 o.arrows.length lo.c2) ∧ w'.cell? ⟨w.heap.size + 1, 4, none⟩ = some (.slice lo.a3 o.ends.length lo.c3) ∧ w'.cell? ⟨g, og + k * 2, none⟩ = some (.int .i64 ym) ∧ w'.cell? ⟨g, og + k * 2 + 1, none⟩ = some (.slice sy ys.length sk)) (by kernel_rfl) (SA.out _ (Below.refl _ _).drew) (fun hS => ?_)
       have HY : Hid (Below W1.heap.size W1 W1.drew) := (Below.refl _ _).drew
       revert hS HY
       generalize W1.drew = Y0
       intro hS HY
       refine tkH 0 (ptval p ⟨Pl, sa, sc, ta, tc⟩) rfl (fun w' hw' => by obtain ⟨q0, q1, q2, q3, q4, q5, q6, q7, q8, q9, q10, q11, q12, q13⟩ := hw'; go_simp) hS ?_
       refine tkH 1 (mval o lo) rfl (fun w' hw' => by obtain ⟨q0, q1, q2, q3, q4, q5, q6, q7, q8, q9, q10, q11, q12, q13⟩ := hw'; go_simp) hS ?_
       refine tkH 2 (.slice (some ⟨g, og, none⟩) cur.length vc) rfl (fun w' hw' => by obtain ⟨q0, q1, q2, q3, q4, q5, q6, q7, q8, q9, q10, q11, q12, q13⟩ := hw'; go_simp) hS ?_
       refine tkH 3 (.int .i64 (k : Int)) rfl (fun w' hw' => by obtain ⟨q0, q1, q2, q3, q4, q5, q6, q7, q8, q9, q10, q11, q12, q13⟩ := hw'; go_simp) hS ?_
       refine tkH 4 (.pointer (some ⟨g, og + k * 2, none⟩)) rfl (fun w' hw' => by obtain ⟨q0, q1, q2, q3, q4, q5, q6, q7, q8, q9, q10, q11, q12, q13⟩ := hw'; go_simp) hS ?_
       refine tkH 5 (.agg #[.int .i64 ym, .slice sy ys.length sk]) rfl (fun w' hw' => by obtain ⟨q0, q1, q2, q3, q4, q5, q6, q7, q8, q9, q10, q11, q12, q13⟩ := hw'; go_simp) hS ?_
       refine tkH 6 (.int .i64 (j : Int)) rfl (fun w' hw' => by obtain ⟨q0, q1, q2, q3, q4, q5, q6, q7, q8, q9, q10, q11, q12, q13⟩ := hw'; go_simp) hS ?_
       simp only [Act.put, List.setIfInBounds_toArray]
       refine wpAnyH_ready (rs := [7, 11]) (by kernel_rfl) (by simp) ?_
       refine AllReadyH.cons rfl (fun K' hK' => ?_) (AllReadyH.cons rfl (fun K' hK' => ?_) AllReadyH.nil)
       ·clear hS
        go_simp
        refine (ron_any p Pl sa sc ta tc o lo ym sy sk ys (j : Int) Y0 (Hid.of (hp.out.below (HW0B.out.trans (HY.out.mono HW0B.out.size)) (Nat.le_refl _))) (Hid.of (ho.out.below (HW0B.out.trans (HY.out.mono HW0B.out.size)) (Nat.le_refl _))) (Hid.of (I1.out.below HY.out (Nat.le_refl _))) I2 hl1 hl2).mono ?_
        rintro e1 Y1 hO
        rw [HON.out] at hO
        obtain ⟨rfl, hb⟩ := hO
        replace HY := Hid.of (HY.out.trans (hb.mono HY.out.size))
        refine hK'.out _ _ (SA.out _ HY.out) (fun hS => ?_)
        clear hK' K' hb
        refine tkH 8 (.tuple #[.agg #[.int .i64 0, .slice none 0 0], .bool false]) rfl (fun w' hw' => by obtain ⟨q0, q1, q2, q3, q4, q5, q6, q7, q8, q9, q10, q11, q12, q13⟩ := hw'; go_simp) hS ?_
        refine tkH 9 (.agg #[.int .i64 0, .slice none 0 0]) rfl (fun w' hw' => by obtain ⟨q0, q1, q2, q3, q4, q5, q6, q7, q8, q9, q10, q11, q12, q13⟩ := hw'; go_simp) hS ?_
        refine tkH 10 (.bool false) rfl (fun w' hw' => by obtain ⟨q0, q1, q2, q3, q4, q5, q6, q7, q8, q9, q10, q11, q12, q13⟩ := hw'; go_simp) hS ?_
        refine wpAnyH_ready (rs := [11]) (by kernel_rfl) (by simp) ?_
        refine AllReadyH.cons rfl (fun K' hK' => ?_) AllReadyH.nil
        clear hS
        go_simp
        have hb : Below Y1.heap.size Y1 (Y1.alloc (.cells #[.int .i64 0, .slice none 0 0] 135)) := (Below.refl _ _).alloc (Nat.le_refl _) _
        have KX := Hid.of (Blk.new Y1 135 #[.int .i64 0, .slice none 0 0])
        have HPB : Hid (W1.heap.size ≤ Y1.heap.size) := HY.out.size
        replace HY := Hid.of (HY.out.trans (hb.mono HY.out.size))
        refine hK'.out _ _ (SA.out _ HY.out) (fun hS => ?_)
        clear hK' K' hb
        revert KX HPB HY hS
        generalize Y1.alloc (.cells #[.int .i64 0, .slice none 0 0] 135) = Y2
        generalize Y1.heap.size = pb
        intro KX HPB HY hS
        refine wpAnyH_ready (rs := [12]) (by kernel_rfl) (by simp) ?_
        refine AllReadyH.cons rfl (fun K' hK' => ?_) AllReadyH.nil
        clear hS
        have f := KX.out.frozen
        have r0 := KX.out.cell 0 rfl
        have r1 := KX.out.cell 1 rfl
        go_simp
        replace HY := Hid.of (below_set2 HY.out HPB.out (.int .i64 0) (.slice none 0 0))
        replace KX := Hid.of ((KX.out.set 0 (.int .i64 0)).set 1 (.slice none 0 0))
        refine hK'.out _ _ (SA.out _ HY.out) (fun hS => ?_)
        clear hK' K' f r0 r1
        revert HY KX hS
        generalize (Y2.setCell ⟨pb, 0, none⟩ (.int .i64 0)).setCell ⟨pb, 1, none⟩ (.slice none 0 0) = Y3
        intro HY KX hS
        refine tkH 13 (.bool false) rfl (fun w' hw' => by obtain ⟨q0, q1, q2, q3, q4, q5, q6, q7, q8, q9, q10, q11, q12, q13⟩ := hw'; go_simp) hS ?_
        refine wpAnyH_done (by kernel_rfl) ?_ _
        clear hS
        have Q1 := Hid.of (HW.out.below HY.out)
        go_wp2_with fail
        go_roundw
        case rel => exact ⟨j + 1, by go_num, by omega, by rw [HNX.out]; exact Q1⟩
        case measure => simp [intOf]; omega
       ·clear hS
        go_simp
        have hb : Below Y0.heap.size Y0 (Y0.alloc (.cells #[.int .i64 0, .slice none 0 0] 135)) := (Below.refl _ _).alloc (Nat.le_refl _) _
        have KX := Hid.of (Blk.new Y0 135 #[.int .i64 0, .slice none 0 0])
        have HPB : Hid (W1.heap.size ≤ Y0.heap.size) := HY.out.size
        replace HY := Hid.of (HY.out.trans (hb.mono HY.out.size))
        refine hK'.out _ _ (SA.out _ HY.out) (fun hS => ?_)
        clear hK' K' hb
        revert KX HPB HY hS
        generalize Y0.alloc (.cells #[.int .i64 0, .slice none 0 0] 135) = Y4
        generalize Y0.heap.size = pb
        intro KX HPB HY hS
        refine wpAnyH_ready (rs := [7]) (by kernel_rfl) (by simp) ?_
        refine AllReadyH.cons rfl (fun K' hK' => ?_) AllReadyH.nil
        clear hS
        go_simp
        refine (ron_any p Pl sa sc ta tc o lo ym sy sk ys (j : Int) Y4 (Hid.of (hp.out.below (HW0B.out.trans (HY.out.mono HW0B.out.size)) (Nat.le_refl _))) (Hid.of (ho.out.below (HW0B.out.trans (HY.out.mono HW0B.out.size)) (Nat.le_refl _))) (Hid.of (I1.out.below HY.out (Nat.le_refl _))) I2 hl1 hl2).mono ?_
        rintro e1 Y5 hO
        rw [HON.out] at hO
        obtain ⟨rfl, hb⟩ := hO
        replace HY := Hid.of (HY.out.trans (hb.mono HY.out.size))
        replace KX := Hid.of (KX.out.below hb KX.out.lt)
        refine hK'.out _ _ (SA.out _ HY.out) (fun hS => ?_)
        clear hK' K' hb
        refine tkH 8 (.tuple #[.agg #[.int .i64 0, .slice none 0 0], .bool false]) rfl (fun w' hw' => by obtain ⟨q0, q1, q2, q3, q4, q5, q6, q7, q8, q9, q10, q11, q12, q13⟩ := hw'; go_simp) hS ?_
        refine tkH 9 (.agg #[.int .i64 0, .slice none 0 0]) rfl (fun w' hw' => by obtain ⟨q0, q1, q2, q3, q4, q5, q6, q7, q8, q9, q10, q11, q12, q13⟩ := hw'; go_simp) hS ?_
        refine tkH 10 (.bool false) rfl (fun w' hw' => by obtain ⟨q0, q1, q2, q3, q4, q5, q6, q7, q8, q9, q10, q11, q12, q13⟩ := hw'; go_simp) hS ?_
        refine wpAnyH_ready (rs := [12]) (by kernel_rfl) (by simp) ?_
        refine AllReadyH.cons rfl (fun K' hK' => ?_) AllReadyH.nil
        clear hS
        have f := KX.out.frozen
        have r0 := KX.out.cell 0 rfl
        have r1 := KX.out.cell 1 rfl
        go_simp
        replace HY := Hid.of (below_set2 HY.out HPB.out (.int .i64 0) (.slice none 0 0))
        replace KX := Hid.of ((KX.out.set 0 (.int .i64 0)).set 1 (.slice none 0 0))
        refine hK'.out _ _ (SA.out _ HY.out) (fun hS => ?_)
        clear hK' K' f r0 r1
        revert HY KX hS
        generalize (Y5.setCell ⟨pb, 0, none⟩ (.int .i64 0)).setCell ⟨pb, 1, none⟩ (.slice none 0 0) = Y6
        intro HY KX hS
        refine tkH 13 (.bool false) rfl (fun w' hw' => by obtain ⟨q0, q1, q2, q3, q4, q5, q6, q7, q8, q9, q10, q11, q12, q13⟩ := hw'; go_simp) hS ?_
        refine wpAnyH_done (by kernel_rfl) ?_ _
        clear hS
        have Q1 := Hid.of (HW.out.below HY.out)
        go_wp2_with fail
        go_roundw
        case rel => exact ⟨j + 1, by go_num, by omega, by rw [HNX.out]; exact Q1⟩
        case measure => simp [intOf]; omega
      | some zz =>
       obtain ⟨zm, zs⟩ := zz
       have HON := Hid.of hon
       have HSE : Hid (selO p o (ym, ys) (j : Int) = some (zm, zs)) := by show _ = _; rw [HSO.out, hon]
       clear hon
       go_wp2_with fail
       refine wp_region_held_drew (S := fun w' => w'.cell? ⟨w.heap.size, 0, none⟩ = some (.int .i64 p.m.st) ∧ w'.cell? ⟨w.heap.size, 1, none⟩ = some (.int .i64 p.m.ev) ∧ w'.cell? ⟨w.heap.size, 2, none⟩ = some (.slice Pl.a1 p.m.starts.length Pl.c1) ∧ w'.cell? ⟨w.heap.size, 3, none⟩ = some (.slice Pl.a2 p.m.arrows.length Pl.c2) ∧ w'.cell? ⟨w.heap.size, 4, none⟩ = some (.slice Pl.a3 p.m.ends.length Pl.c3) ∧ w'.cell? ⟨w.heap.size, 5, none⟩ = some (.slice sa p.seen.length sc) ∧ w'.cell? ⟨w.heap.size, 6, none⟩ = some (.slice ta p.secret.length tc) ∧ w'.cell? ⟨w.heap.size + 1, 0, none⟩ = some (.int .i64 o.st) ∧ w'.cell? ⟨w.heap.size + 1, 1, none⟩ = some (.int .i64 o.ev) ∧ w'.cell? ⟨w.heap.size + 1, 2, none⟩ = some (.slice lo.a1 o.starts.length lo.c1) ∧ w'.cell? ⟨w.heap.size + 1, 3, none⟩ = some (.slice lo.a2 o.arrows.length lo.c2) ∧ w'.cell? ⟨w.heap.size + 1, 4, none⟩ = some (.slice lo.a3 o.ends.length lo.c3) ∧ w'.cell? ⟨g, og + k * 2, none⟩ = some (.int .i64 ym) ∧ w'.cell? ⟨g, og + k * 2 + 1, none⟩ = some (.slice sy ys.length sk)) (by kernel_rfl) (SA.out _ (Below.refl _ _).drew) (fun hS => ?_)
       have HY : Hid (Below W1.heap.size W1 W1.drew) := (Below.refl _ _).drew
       revert hS HY
       generalize W1.drew = Y0
       intro hS HY
       refine tkH 0 (ptval p ⟨Pl, sa, sc, ta, tc⟩) rfl (fun w' hw' => by obtain ⟨q0, q1, q2, q3, q4, q5, q6, q7, q8, q9, q10, q11, q12, q13⟩ := hw'; go_simp) hS ?_
       refine tkH 1 (mval o lo) rfl (fun w' hw' => by obtain ⟨q0, q1, q2, q3, q4, q5, q6, q7, q8, q9, q10, q11, q12, q13⟩ := hw'; go_simp) hS ?_
       refine tkH 2 (.slice (some ⟨g, og, none⟩) cur.length vc) rfl (fun w' hw' => by obtain ⟨q0, q1, q2, q3, q4, q5, q6, q7, q8, q9, q10, q11, q12, q13⟩ := hw'; go_simp) hS ?_
       refine tkH 3 (.int .i64 (k : Int)) rfl (fun w' hw' => by obtain ⟨q0, q1, q2, q3, q4, q5, q6, q7, q8, q9, q10, q11, q12, q13⟩ := hw'; go_simp) hS ?_
       refine tkH 4 (.pointer (some ⟨g, og + k * 2, none⟩)) rfl (fun w' hw' => by obtain ⟨q0, q1, q2, q3, q4, q5, q6, q7, q8, q9, q10, q11, q12, q13⟩ := hw'; go_simp) hS ?_
       refine tkH 5 (.agg #[.int .i64 ym, .slice sy ys.length sk]) rfl (fun w' hw' => by obtain ⟨q0, q1, q2, q3, q4, q5, q6, q7, q8, q9, q10, q11, q12, q13⟩ := hw'; go_simp) hS ?_
       refine tkH 6 (.int .i64 (j : Int)) rfl (fun w' hw' => by obtain ⟨q0, q1, q2, q3, q4, q5, q6, q7, q8, q9, q10, q11, q12, q13⟩ := hw'; go_simp) hS ?_
       simp only [Act.put, List.setIfInBounds_toArray]
       refine wpAnyH_ready (rs := [7, 11]) (by kernel_rfl) (by simp) ?_
       refine AllReadyH.cons rfl (fun K' hK' => ?_) (AllReadyH.cons rfl (fun K' hK' => ?_) AllReadyH.nil)
       ·clear hS
        go_simp
        refine (ron_any p Pl sa sc ta tc o lo ym sy sk ys (j : Int) Y0 (Hid.of (hp.out.below (HW0B.out.trans (HY.out.mono HW0B.out.size)) (Nat.le_refl _))) (Hid.of (ho.out.below (HW0B.out.trans (HY.out.mono HW0B.out.size)) (Nat.le_refl _))) (Hid.of (I1.out.below HY.out (Nat.le_refl _))) I2 hl1 hl2).mono ?_
        rintro e1 Y1 hO
        rw [HON.out] at hO
        obtain ⟨za, zc, rfl, hiz, hb⟩ := hO
        have OZ := Hid.of (hiz n)
        replace HY := Hid.of (HY.out.trans (hb.mono HY.out.size))
        refine hK'.out _ _ (SA.out _ HY.out) (fun hS => ?_)
        clear hK' K' hb hiz
        refine tkH 8 (.tuple #[.agg #[.int .i64 zm, .slice za zs.length zc], .bool true]) rfl (fun w' hw' => by obtain ⟨q0, q1, q2, q3, q4, q5, q6, q7, q8, q9, q10, q11, q12, q13⟩ := hw'; go_simp) hS ?_
        refine tkH 9 (.agg #[.int .i64 zm, .slice za zs.length zc]) rfl (fun w' hw' => by obtain ⟨q0, q1, q2, q3, q4, q5, q6, q7, q8, q9, q10, q11, q12, q13⟩ := hw'; go_simp) hS ?_
        refine tkH 10 (.bool true) rfl (fun w' hw' => by obtain ⟨q0, q1, q2, q3, q4, q5, q6, q7, q8, q9, q10, q11, q12, q13⟩ := hw'; go_simp) hS ?_
        refine wpAnyH_ready (rs := [11]) (by kernel_rfl) (by simp) ?_
        refine AllReadyH.cons rfl (fun K' hK' => ?_) AllReadyH.nil
        clear hS
        go_simp
        have hb : Below Y1.heap.size Y1 (Y1.alloc (.cells #[.int .i64 0, .slice none 0 0] 135)) := (Below.refl _ _).alloc (Nat.le_refl _) _
        have KX := Hid.of (Blk.new Y1 135 #[.int .i64 0, .slice none 0 0])
        have HPB : Hid (W1.heap.size ≤ Y1.heap.size) := HY.out.size
        replace OZ := Hid.of (OZ.out.below hb (Nat.le_trans HNW.out HY.out.size))
        replace HY := Hid.of (HY.out.trans (hb.mono HY.out.size))
        refine hK'.out _ _ (SA.out _ HY.out) (fun hS => ?_)
        clear hK' K' hb
        revert KX HPB OZ HY hS
        generalize Y1.alloc (.cells #[.int .i64 0, .slice none 0 0] 135) = Y2
        generalize Y1.heap.size = pb
        intro KX HPB OZ HY hS
        refine wpAnyH_ready (rs := [12]) (by kernel_rfl) (by simp) ?_
        refine AllReadyH.cons rfl (fun K' hK' => ?_) AllReadyH.nil
        clear hS
        have f := KX.out.frozen
        have r0 := KX.out.cell 0 rfl
        have r1 := KX.out.cell 1 rfl
        go_simp
        replace OZ := Hid.of (innW_box OZ.out (Nat.le_trans HNW.out HPB.out) KX.out (.int .i64 zm) (.slice za zs.length zc))
        replace HY := Hid.of (below_set2 HY.out HPB.out (.int .i64 zm) (.slice za zs.length zc))
        replace KX := Hid.of ((KX.out.set 0 (.int .i64 zm)).set 1 (.slice za zs.length zc))
        refine hK'.out _ _ (SA.out _ HY.out) (fun hS => ?_)
        clear hK' K' f r0 r1
        revert OZ HY KX hS
        generalize (Y2.setCell ⟨pb, 0, none⟩ (.int .i64 zm)).setCell ⟨pb, 1, none⟩ (.slice za zs.length zc) = Y3
        intro OZ HY KX hS
        refine tkH 13 (.bool true) rfl (fun w' hw' => by obtain ⟨q0, q1, q2, q3, q4, q5, q6, q7, q8, q9, q10, q11, q12, q13⟩ := hw'; go_simp) hS ?_
        refine wpAnyH_done (by kernel_rfl) ?_ _
        clear hS
        have r0 := KX.out.cell 0 rfl
        have r1 := KX.out.cell 1 rfl
        go_wp2_with fail
        clear r0 r1
        obtain ⟨oa, oc, eo, oat, -⟩ := (HW.out.below HY.out).ow.at
        cases eo
        have OAT := Hid.of oat
        obtain ⟨oq1, oq2, eoz, oz1, oz2, -⟩ := OZ.out.at
        cases eoz
        refine (rqhas_any n (some ⟨g, og, none⟩) vc cur zm zs za zc Y3 OAT (by omega) (Hid.of oz1) (Hid.of oz2)).mono ?_
        rintro e1 Z ⟨rfl, hb⟩
        replace OZ := Hid.of (OZ.out.below hb (Nat.le_trans HNW.out HY.out.size))
        replace HY := Hid.of (HY.out.trans (hb.mono HY.out.size))
        replace KX := Hid.of (KX.out.below hb KX.out.lt)
        clear hb OAT oat oz1 oz2
        cases hmem : memQ cur (zm, zs) with
        | true =>
         have HNX : Hid (rowO (selO p o (ym, ys)) L (j + 1) = cur) := by show _ = _; rw [rowO_some HSE.out, ← HC.out]; exact cAdd_yesO hmem
         clear hmem
         have Q1 := Hid.of (HW.out.below HY.out)
         go_wp2_with fail
         go_roundw
         case rel => exact ⟨j + 1, by go_num, by omega, by rw [HNX.out]; exact Q1⟩
         case measure => simp [intOf]; omega
        | false =>
         have HNX : Hid (rowO (selO p o (ym, ys)) L (j + 1) = cur ++ [(zm, zs)]) := by show _ = _; rw [rowO_some HSE.out, ← HC.out]; exact cAdd_noO hmem
         clear hmem
         have n0 := KX.out.cell 0 rfl
         have n1 := KX.out.cell 1 rfl
         have bq : Below Z.heap.size Z (Z.alloc (.cells #[.int .i64 zm, .slice za zs.length zc] 135)) := (Below.refl _ _).alloc (Nat.le_refl _) _
         have Q4 := Hid.of ((HW.out.below HY.out).below bq)
         have OZ4 := Hid.of (OZ.out.below bq (Nat.le_trans HNW.out HY.out.size))
         have CF : Hid (∀ j u, ([.int .i64 zm, .slice za zs.length zc] : List Value)[j]? = some u → (Z.alloc (.cells #[.int .i64 zm, .slice za zs.length zc] 135)).cell? ((⟨Z.heap.size, 0, none⟩ : Addr).add j) = some u) := cells_duoQ Z Z rfl _ _ _
         clear bq
         obtain ⟨vs, hos, hi'⟩ := Q4.out.ow
         have HOS := Hid.of hos
         have HI := Hid.of hi'
         clear hos hi'
         have hBq := Q4.out.hB
         go_wp2_with (at_builtin; refine wpList_append_block _ rfl (.tmp 46) (.tmp 48) 133 rfl B 135 i0 _ 2 32 Tryd.underlying133 hi hz0 hz1 hz2 rfl (by decide) _ _ _ rfl HOS.out ⟨Z.heap.size, 0, none⟩ 1 1 [.int .i64 zm, .slice za zs.length zc] rfl rfl CF.out (one_vals (x := (zm, zs)) OZ4.out) (by decide) (by unfold maxLen; omega) (by omega) hBq ?_)
         intro v9 w9 o9 g9 n9
         have Q1 := Hid.of (WO.push (x := (zm, zs)) Q4.out HOS.out HI.out OZ4.out o9 g9)
         clear o9 g9 n9 HOS HI Q4 OZ4 CF n0 n1 KX OZ hBq
         go_wp2_with fail
         go_roundw
         case rel => exact ⟨j + 1, by go_num, by omega, by rw [HNX.out]; exact Q1⟩
         case measure => simp [intOf]; omega
       ·clear hS
        go_simp
        have hb : Below Y0.heap.size Y0 (Y0.alloc (.cells #[.int .i64 0, .slice none 0 0] 135)) := (Below.refl _ _).alloc (Nat.le_refl _) _
        have KX := Hid.of (Blk.new Y0 135 #[.int .i64 0, .slice none 0 0])
        have HPB : Hid (W1.heap.size ≤ Y0.heap.size) := HY.out.size
        replace HY := Hid.of (HY.out.trans (hb.mono HY.out.size))
        refine hK'.out _ _ (SA.out _ HY.out) (fun hS => ?_)
        clear hK' K' hb
        revert KX HPB HY hS
        generalize Y0.alloc (.cells #[.int .i64 0, .slice none 0 0] 135) = Y4
        generalize Y0.heap.size = pb
        intro KX HPB HY hS
        refine wpAnyH_ready (rs := [7]) (by kernel_rfl) (by simp) ?_
        refine AllReadyH.cons rfl (fun K' hK' => ?_) AllReadyH.nil
        clear hS
        go_simp
        refine (ron_any p Pl sa sc ta tc o lo ym sy sk ys (j : Int) Y4 (Hid.of (hp.out.below (HW0B.out.trans (HY.out.mono HW0B.out.size)) (Nat.le_refl _))) (Hid.of (ho.out.below (HW0B.out.trans (HY.out.mono HW0B.out.size)) (Nat.le_refl _))) (Hid.of (I1.out.below HY.out (Nat.le_refl _))) I2 hl1 hl2).mono ?_
        rintro e1 Y5 hO
        rw [HON.out] at hO
        obtain ⟨za, zc, rfl, hiz, hb⟩ := hO
        have OZ := Hid.of (hiz n)
        replace HY := Hid.of (HY.out.trans (hb.mono HY.out.size))
        replace KX := Hid.of (KX.out.below hb KX.out.lt)
        refine hK'.out _ _ (SA.out _ HY.out) (fun hS => ?_)
        clear hK' K' hb hiz
        refine tkH 8 (.tuple #[.agg #[.int .i64 zm, .slice za zs.length zc], .bool true]) rfl (fun w' hw' => by obtain ⟨q0, q1, q2, q3, q4, q5, q6, q7, q8, q9, q10, q11, q12, q13⟩ := hw'; go_simp) hS ?_
        refine tkH 9 (.agg #[.int .i64 zm, .slice za zs.length zc]) rfl (fun w' hw' => by obtain ⟨q0, q1, q2, q3, q4, q5, q6, q7, q8, q9, q10, q11, q12, q13⟩ := hw'; go_simp) hS ?_
        refine tkH 10 (.bool true) rfl (fun w' hw' => by obtain ⟨q0, q1, q2, q3, q4, q5, q6, q7, q8, q9, q10, q11, q12, q13⟩ := hw'; go_simp) hS ?_
        refine wpAnyH_ready (rs := [12]) (by kernel_rfl) (by simp) ?_
        refine AllReadyH.cons rfl (fun K' hK' => ?_) AllReadyH.nil
        clear hS
        have f := KX.out.frozen
        have r0 := KX.out.cell 0 rfl
        have r1 := KX.out.cell 1 rfl
        go_simp
        replace OZ := Hid.of (innW_box OZ.out (Nat.le_trans HNW.out HPB.out) KX.out (.int .i64 zm) (.slice za zs.length zc))
        replace HY := Hid.of (below_set2 HY.out HPB.out (.int .i64 zm) (.slice za zs.length zc))
        replace KX := Hid.of ((KX.out.set 0 (.int .i64 zm)).set 1 (.slice za zs.length zc))
        refine hK'.out _ _ (SA.out _ HY.out) (fun hS => ?_)
        clear hK' K' f r0 r1
        revert OZ HY KX hS
        generalize (Y5.setCell ⟨pb, 0, none⟩ (.int .i64 zm)).setCell ⟨pb, 1, none⟩ (.slice za zs.length zc) = Y6
        intro OZ HY KX hS
        refine tkH 13 (.bool true) rfl (fun w' hw' => by obtain ⟨q0, q1, q2, q3, q4, q5, q6, q7, q8, q9, q10, q11, q12, q13⟩ := hw'; go_simp) hS ?_
        refine wpAnyH_done (by kernel_rfl) ?_ _
        clear hS
        have r0 := KX.out.cell 0 rfl
        have r1 := KX.out.cell 1 rfl
        go_wp2_with fail
        clear r0 r1
        obtain ⟨oa, oc, eo, oat, -⟩ := (HW.out.below HY.out).ow.at
        cases eo
        have OAT := Hid.of oat
        obtain ⟨oq1, oq2, eoz, oz1, oz2, -⟩ := OZ.out.at
        cases eoz
        refine (rqhas_any n (some ⟨g, og, none⟩) vc cur zm zs za zc Y6 OAT (by omega) (Hid.of oz1) (Hid.of oz2)).mono ?_
        rintro e1 Z ⟨rfl, hb⟩
        replace OZ := Hid.of (OZ.out.below hb (Nat.le_trans HNW.out HY.out.size))
        replace HY := Hid.of (HY.out.trans (hb.mono HY.out.size))
        replace KX := Hid.of (KX.out.below hb KX.out.lt)
        clear hb OAT oat oz1 oz2
        cases hmem : memQ cur (zm, zs) with
        | true =>
         have HNX : Hid (rowO (selO p o (ym, ys)) L (j + 1) = cur) := by show _ = _; rw [rowO_some HSE.out, ← HC.out]; exact cAdd_yesO hmem
         clear hmem
         have Q1 := Hid.of (HW.out.below HY.out)
         go_wp2_with fail
         go_roundw
         case rel => exact ⟨j + 1, by go_num, by omega, by rw [HNX.out]; exact Q1⟩
         case measure => simp [intOf]; omega
        | false =>
         have HNX : Hid (rowO (selO p o (ym, ys)) L (j + 1) = cur ++ [(zm, zs)]) := by show _ = _; rw [rowO_some HSE.out, ← HC.out]; exact cAdd_noO hmem
         clear hmem
         have n0 := KX.out.cell 0 rfl
         have n1 := KX.out.cell 1 rfl
         have bq : Below Z.heap.size Z (Z.alloc (.cells #[.int .i64 zm, .slice za zs.length zc] 135)) := (Below.refl _ _).alloc (Nat.le_refl _) _
         have Q4 := Hid.of ((HW.out.below HY.out).below bq)
         have OZ4 := Hid.of (OZ.out.below bq (Nat.le_trans HNW.out HY.out.size))
         have CF : Hid (∀ j u, ([.int .i64 zm, .slice za zs.length zc] : List Value)[j]? = some u → (Z.alloc (.cells #[.int .i64 zm, .slice za zs.length zc] 135)).cell? ((⟨Z.heap.size, 0, none⟩ : Addr).add j) = some u) := cells_duoQ Z Z rfl _ _ _
         clear bq
         obtain ⟨vs, hos, hi'⟩ := Q4.out.ow
         have HOS := Hid.of hos
         have HI := Hid.of hi'
         clear hos hi'
         have hBq := Q4.out.hB
         go_wp2_with (at_builtin; refine wpList_append_block _ rfl (.tmp 46) (.tmp 48) 133 rfl B 135 i0 _ 2 32 Tryd.underlying133 hi hz0 hz1 hz2 rfl (by decide) _ _ _ rfl HOS.out ⟨Z.heap.size, 0, none⟩ 1 1 [.int .i64 zm, .slice za zs.length zc] rfl rfl CF.out (one_vals (x := (zm, zs)) OZ4.out) (by decide) (by unfold maxLen; omega) (by omega) hBq ?_)
         intro v9 w9 o9 g9 n9
         have Q1 := Hid.of (WO.push (x := (zm, zs)) Q4.out HOS.out HI.out OZ4.out o9 g9)
         clear o9 g9 n9 HOS HI Q4 OZ4 CF n0 n1 KX OZ hBq
         go_wp2_with fail
         go_roundw
         case rel => exact ⟨j + 1, by go_num, by omega, by rw [HNX.out]; exact Q1⟩
         case measure => simp [intOf]; omega
    ·have hjD : decide ((j : Int) < p.m.ev) = false := by rw [HEV.out]; simp; omega
     have hj2 : j = ev := by omega
     have HCE : Hid (cur = cRow L (nxO p o (ym, ys))) := by
      show _ = _
      rw [HC.out, hj2]
      unfold rowO nxO
      rw [HEV.out, Int.toNat_natCast]
      rfl
     have HGN : Hid (widO p o l = cGo (nxO p o) (0, []) (1000 - (k + 1)) (k + 1) cur) := by
      show _ = _
      rw [HGO.out, show 1000 - k = (1000 - (k + 1)) + 1 by omega, cGo, if_pos hlt, HYY.out, Option.getD_some, HCE.out]
     have HNI2 : Hid (cur.Nodup ∧ ∀ x ∈ cur, x ∈ allO p) := by
      rw [HC.out]
      exact ⟨rowO_nodup HNI.out.1 j, rowOR_in HNI.out.2 (fun e z hz => hto.out _ e z hz) j⟩
     clear hj2 HCE
     go_wp2_with fail
     go_roundw
     case rel => exact ⟨k + 1, cur, by go_num, by omega, hcl, HW, HNI2, HGN⟩
     case measure => simp [intOf]; omega
  ·have hkD : decide ((k : Int) < (L.length : Int)) = false := by simp; omega
   have HE : Hid (widO p o l = L) := by
    show _ = _
    rw [HGO.out, show 1000 - k = (1000 - (k + 1)) + 1 by omega, cGo, if_neg hlt]
   go_wp2_with fail
   go_ret
   exact ⟨_, rfl, by rw [HE.out]; exact HW.out.ow, HW.out.bel⟩

end Go.Proofs.YtkodmnooibpflaaDoor
