/-
  The walk of jalousieref4.Beside where nothing is wrong with what comes in.
  jalousieref4.Beside, whatever comes in: what is wrong with it, or the machine of both and its pairs.
  The walk of the law BesideMakes.
-/
import Derived.Deep.RegionHeld3
import Derived.Deep.RegionWith
import Derived.Test.YtdnglodemkeooaaCRefBesErr
import Derived.Test.YtdnglodemkeooaaG08
import Derived.Test.YtdnglodemkeooaaG10
import Derived.Test.YtdnglodemkeooaaG11
import Derived.Test.YtdnglodemkeooaaG09
import Derived.Test.YtdnglodemkeooaaG03
import Derived.Test.YtdnglodemkeooaaG14
namespace Go.Proofs.Ytdnglodemkeooaa
open Go.RowKit
set_option linter.unusedVariables false

set_option maxRecDepth 100000 in
set_option maxHeartbeats 8000000 in
theorem bes_ok (a b : Mach) (la lb : ML) (fa ga : Option Addr) (fc gc : Nat) (ofA ofB : List Int) (w : World) (ha : Hid (MAt w a la)) (hb : Hid (MAt w b lb)) (hA : Hid (At w fa ofA)) (lA : Hid (ofA.length ≤ maxLen)) (hB : Hid (At w ga ofB)) (lB : Hid (ofB.length ≤ maxLen)) (ma : Hid (mayB a = true)) (mb : Hid (mayB b = true)) (eq : Hid (a.ev = b.ev)) (ra : Hid (rowB a.ev ofA = true)) (rb : Hid (rowB a.ev ofB = true)) :
    Calls Try.prog 6 #[mval a la, mval b lb, .slice fa ofA.length fc, .slice ga ofB.length gc] w fun e w' => BesGives w a b ofA ofB e w' := by
  have B0 : Hid (Below w.heap.size w ((((w.alloc (.cells (mcells a la) 25)).alloc (.cells (mcells b lb) 25)).alloc (.cells zcells 25)).alloc (.cells zcells 25))) := ((((Below.refl _ _).alloc (Nat.le_refl _) _).alloc (by simp) _).alloc (by simp; omega) _).alloc (by simp; omega) _
  have KA0 : Hid (Blk ((((w.alloc (.cells (mcells a la) 25)).alloc (.cells (mcells b lb) 25)).alloc (.cells zcells 25)).alloc (.cells zcells 25)) w.heap.size 25 (mcells a la)) := (((Blk.new w _ _).alloc _).alloc _).alloc _
  have KB0 : Hid (Blk ((((w.alloc (.cells (mcells a la) 25)).alloc (.cells (mcells b lb) 25)).alloc (.cells zcells 25)).alloc (.cells zcells 25)) (w.heap.size + 1) 25 (mcells b lb)) := by
    have := ((Blk.new (w.alloc (.cells (mcells a la) 25)) 25 (mcells b lb)).alloc (.cells zcells 25)).alloc (.cells zcells 25)
    rwa [World.size_alloc] at this
  have R0 : Hid (Blk ((((w.alloc (.cells (mcells a la) 25)).alloc (.cells (mcells b lb) 25)).alloc (.cells zcells 25)).alloc (.cells zcells 25)) (w.heap.size + 2) 25 zcells) := by
    have := (Blk.new ((w.alloc (.cells (mcells a la) 25)).alloc (.cells (mcells b lb) 25)) 25 zcells).alloc (.cells zcells 25)
    rwa [World.size_alloc, World.size_alloc] at this
  have N0 : Hid (Blk ((((w.alloc (.cells (mcells a la) 25)).alloc (.cells (mcells b lb) 25)).alloc (.cells zcells 25)).alloc (.cells zcells 25)) (w.heap.size + 3) 25 zcells) := by
    have := Blk.new (((w.alloc (.cells (mcells a la) 25)).alloc (.cells (mcells b lb) 25)).alloc (.cells zcells 25)) 25 zcells
    rwa [World.size_alloc, World.size_alloc, World.size_alloc] at this
  go_enter Try.func6, Try.ntmps6
  go_wp2_with fail
  revert B0 KA0 KB0 R0 N0
  generalize (((w.alloc (.cells (mcells a la) 25)).alloc (.cells (mcells b lb) 25)).alloc (.cells zcells 25)).alloc (.cells zcells 25) = V0
  intro B0 KA0 KB0 R0 N0
  refine (refMay_any a la _ (ha.out.below B0.out (Nat.le_refl _))).mono ?_
  rintro e V1 ⟨rfl, hb1⟩
  have B1 := Hid.of (B0.out.trans (hb1.mono B0.out.size))
  have KA1 := Hid.of (KA0.out.below hb1 KA0.out.lt)
  have KB1 := Hid.of (KB0.out.below hb1 KB0.out.lt)
  have R1 := Hid.of (R0.out.below hb1 R0.out.lt)
  have N1 := Hid.of (N0.out.below hb1 N0.out.lt)
  clear hb1 B0 KA0 KB0 R0 N0
  try clear x0 x1 x2 x3 x4 y0 y1 y2 y3 y4
  obtain ⟨x0, x1, x2, x3, x4⟩ := mcell_at KA1.out
  obtain ⟨y0, y1, y2, y3, y4⟩ := mcell_at KB1.out
  rw [ma.out]
  go_wp2_with fail
  refine (refMay_any b lb _ (hb.out.below B1.out (Nat.le_refl _))).mono ?_
  rintro e V2 ⟨rfl, hb1⟩
  have B2 := Hid.of (B1.out.trans (hb1.mono B1.out.size))
  have KA2 := Hid.of (KA1.out.below hb1 KA1.out.lt)
  have KB2 := Hid.of (KB1.out.below hb1 KB1.out.lt)
  have R2 := Hid.of (R1.out.below hb1 R1.out.lt)
  have N2 := Hid.of (N1.out.below hb1 N1.out.lt)
  clear hb1 B1 KA1 KB1 R1 N1
  try clear x0 x1 x2 x3 x4 y0 y1 y2 y3 y4
  obtain ⟨x0, x1, x2, x3, x4⟩ := mcell_at KA2.out
  obtain ⟨y0, y1, y2, y3, y4⟩ := mcell_at KB2.out
  rw [mb.out]
  rw [← eq.out] at y1
  go_wp2_with fail
  refine (refIs_any fa fc ofA a.ev _ (hA.out.below B2.out (Nat.le_refl _)) lA.out).mono ?_
  rintro e V3 ⟨rfl, q3, rfl⟩
  have hb1 : Below V2.heap.size V2 (V2.drewN q3) := below_drewN (Below.refl _ _) q3
  revert hb1
  generalize V2.drewN q3 = V3
  intro hb1
  have B3 := Hid.of (B2.out.trans (hb1.mono B2.out.size))
  have KA3 := Hid.of (KA2.out.below hb1 KA2.out.lt)
  have KB3 := Hid.of (KB2.out.below hb1 KB2.out.lt)
  have R3 := Hid.of (R2.out.below hb1 R2.out.lt)
  have N3 := Hid.of (N2.out.below hb1 N2.out.lt)
  clear hb1 B2 KA2 KB2 R2 N2
  try clear x0 x1 x2 x3 x4 y0 y1 y2 y3 y4
  obtain ⟨x0, x1, x2, x3, x4⟩ := mcell_at KA3.out
  obtain ⟨y0, y1, y2, y3, y4⟩ := mcell_at KB3.out
  rw [ra.out]
  go_wp2_with fail
  refine (refIs_any ga gc ofB a.ev _ (hB.out.below B3.out (Nat.le_refl _)) lB.out).mono ?_
  rintro e V4 ⟨rfl, q4, rfl⟩
  have hb1 : Below V3.heap.size V3 (V3.drewN q4) := below_drewN (Below.refl _ _) q4
  revert hb1
  generalize V3.drewN q4 = V4
  intro hb1
  have B4 := Hid.of (B3.out.trans (hb1.mono B3.out.size))
  have KA4 := Hid.of (KA3.out.below hb1 KA3.out.lt)
  have KB4 := Hid.of (KB3.out.below hb1 KB3.out.lt)
  have R4 := Hid.of (R3.out.below hb1 R3.out.lt)
  have N4 := Hid.of (N3.out.below hb1 N3.out.lt)
  clear hb1 B3 KA3 KB3 R3 N3
  try clear x0 x1 x2 x3 x4 y0 y1 y2 y3 y4
  obtain ⟨x0, x1, x2, x3, x4⟩ := mcell_at KA4.out
  obtain ⟨y0, y1, y2, y3, y4⟩ := mcell_at KB4.out
  rw [rb.out]
  have bX : Below V4.heap.size V4 (V4.alloc (.cells (bcells a.ev (.slice none 0 0)) 25)) := (Below.refl _ _).alloc (Nat.le_refl _) _
  have B5 := Hid.of (B4.out.trans (bX.mono B4.out.size))
  have KA5 := Hid.of (KA4.out.below bX KA4.out.lt)
  have KB5 := Hid.of (KB4.out.below bX KB4.out.lt)
  have R5 := Hid.of (R4.out.below bX R4.out.lt)
  have N5 := Hid.of (N4.out.below bX N4.out.lt)
  have M5 := Hid.of (Blk.new V4 25 (bcells a.ev (.slice none 0 0)))
  have z5 : Hid (V4.heap.size < (V4.alloc (.cells (bcells a.ev (.slice none 0 0)) 25)).heap.size) := show _ < _ by simp
  have lA4 := Hid.of KA4.out.lt
  have lB4 := Hid.of KB4.out.lt
  have lN4 := Hid.of N4.out.lt
  clear bX B4 KA4 KB4 R4 N4
  go_wp2_with fail
  revert B5 KA5 KB5 R5 N5 M5 z5
  generalize V4.alloc (.cells (bcells a.ev (.slice none 0 0)) 25) = X
  intro B5 KA5 KB5 R5 N5 M5 z5
  clear x0 x1 x2 x3 x4 y0 y1 y2 y3 y4
  obtain ⟨bm, hbm⟩ : ∃ bm, bm = V4.heap.size := ⟨_, rfl⟩
  rw [← hbm] at M5 z5 lA4 lB4 lN4 ⊢
  clear hbm
  have hsa := Hid.of (startsLen ma.out)
  have hsb := Hid.of (startsLen mb.out)
  obtain ⟨j0, ji, jz0, jz1, jz2⟩ := info_parts Try.infoInt
  obtain ⟨i1, hi, hz0, hz1, hz2'⟩ := info_parts Try.infoInts
  go_loopw [13, 14] (fun v i wr => ∃ (k : Nat) (v2 : Value), k ≤ a.starts.length ∧ i = .int .i64 k ∧ Hid (PB X wr bm a.ev v2 v (crossP (a.starts.take k) b.starts).length (crossP (a.starts.take k) b.starts)) ∧ Hid (Below w.heap.size w wr)) (fun _ i _ => a.starts.length - (intOf i).toNat)
  case atStart => exact ⟨0, .slice none 0 0, Nat.zero_le _, rfl, ⟨M5.out, Kp.refl _ _, World.ownsRow_nil _ _ _ _, [], World.ownsRow_nil _ _ _ _, fun j x p h => by simp at h⟩, B5⟩
  case round =>
    obtain ⟨k, v2, hk, rfl, HP, HB⟩ := hrel
    have x2 : wr.cell? ⟨w.heap.size, 2, none⟩ = some (.slice la.a1 a.starts.length la.c1) := (HP.out.kp.blk KA5.out (by have := lA4.out; omega)).cell 2 rfl
    have hs4 := hsa.out
    have ht4 := hsb.out
    by_cases hlt : k < a.starts.length
    · obtain ⟨bs, os, hsa1, hbs, hcs⟩ := ha.out.s.cells_of (k := k) hlt
      obtain ⟨x, HX, cx0⟩ := hcs.at (k := k) hlt
      have HSC : Hid (∀ wr' : World, Below w.heap.size w wr' → wr'.cell? ⟨bs, os + k, none⟩ = some (.int .i64 x)) := fun wr' hw => (hw.cell (p := ⟨bs, os + k, none⟩) hbs).trans cx0
      have HBS := Hid.of hbs
      have HSA := Hid.of hsa1
      clear hcs cx0 hsa1 hbs
      go_wp2_with fail
      clear x2
      go_loopw [13, 15] (fun v i wr' => ∃ (q : Nat) (v2 : Value), q ≤ b.starts.length ∧ i = .int .i64 q ∧ Hid (PB X wr' bm a.ev v2 v (crossP (a.starts.take k) b.starts ++ (b.starts.take q).map fun z => (x, z)).length (crossP (a.starts.take k) b.starts ++ (b.starts.take q).map fun z => (x, z))) ∧ Hid (Below w.heap.size w wr')) (fun _ i _ => b.starts.length - (intOf i).toNat)
      case atStart => exact ⟨0, v2, Nat.zero_le _, rfl, (by show PB _ _ _ _ _ _ _ _; rw [List.take_zero, List.map_nil, List.append_nil]; exact HP.out), HB⟩
      case round =>
        clear HP HB
        obtain ⟨q, v2, hq, rfl, HP, HB⟩ := hrel
        have y2 : wr.cell? ⟨w.heap.size + 1, 2, none⟩ = some (.slice lb.a1 b.starts.length lb.c1) := (HP.out.kp.blk KB5.out (by have := lB4.out; omega)).cell 2 rfl
        by_cases hqt : q < b.starts.length
        · obtain ⟨bt, ot, hta, hbt, hct⟩ := hb.out.s.cells_of (k := q) hqt
          obtain ⟨y, HY, cy0⟩ := hct.at (k := q) hqt
          have HTC : Hid (∀ wr' : World, Below w.heap.size w wr' → wr'.cell? ⟨bt, ot + q, none⟩ = some (.int .i64 y)) := fun wr' hw => (hw.cell (p := ⟨bt, ot + q, none⟩) hbt).trans cy0
          have HBT := Hid.of hbt
          have HTA := Hid.of hta
          clear hct cy0 hta hbt
          have hlw : (crossP (a.starts.take k) b.starts ++ (b.starts.take q).map fun z => (x, z)).length ≤ 16777216 + 4096 := by
            rw [List.length_append, List.length_map]
            have h1 := crossP_le hsa.out hsb.out k
            have h2 : (b.starts.take q).length ≤ 4096 := Nat.le_trans (List.length_take_le' _ _) hsb.out
            omega
          have HN : Hid ((crossP (a.starts.take k) b.starts ++ (b.starts.take (q + 1)).map fun z => (x, z)) = (crossP (a.starts.take k) b.starts ++ (b.starts.take q).map fun z => (x, z)) ++ [(x, y)]) := by
            show _ = _
            rw [mapP_take hqt HY, ← List.append_assoc]
          generalize (crossP (a.starts.take k) b.starts ++ (b.starts.take q).map fun z => (x, z)) = P at *
          obtain ⟨va, vc, hv2⟩ := own_form HP.out.st
          subst hv2
          obtain ⟨pa, pc, hpv⟩ : ∃ pa pc, u13 = .slice pa P.length pc := by
            obtain ⟨vs, ho, -⟩ := HP.out.ps
            exact own_form ho
          subst hpv
          have o2 : wr.cell? ⟨bm, 2, none⟩ = some (.slice va P.length vc) := HP.out.blk.cell 2 rfl
          have hX := HP.out.kp.size
          have lb1 := HP.out.blk.lt
          go_wp2_with (at_builtin; refine wpList_append_block _ rfl (.tmp 72) (.tmp 75) 22 rfl X.heap.size 3 j0 (.int .i64 0) 1 8 Try.underlying22 ji jz0 jz1 jz2 rfl (by decide) _ _ _ rfl (World.ownsRow.alloc HP.out.st _) ⟨wr.heap.size, 0, none⟩ 1 1 [.int .i64 (P.length : Int)] rfl rfl (cell_one_new _ _ _) (by intro u hu; simp at hu; subst hu; rfl) (by decide) (by unfold maxLen; omega) (by omega) (by simp; omega) ?_)
          intro v9 w9 o9 g9 n9
          obtain ⟨ga', gc', hv9⟩ := own_form o9
          subst hv9
          obtain ⟨e1, e2⟩ := HP.out.st1 z5.out o9 g9 (by rw [World.size_alloc]; exact n9)
          have hr9 : ∀ j, (Value.slice va P.length vc).ownBlock = some j → X.heap.size ≤ j := fun j hj => (HP.out.st.lt j hj).1
          have HB9 : Hid (Below w.heap.size w (w9.setCell ⟨bm, 2, none⟩ (.slice ga' (P.length + 1) gc'))) := ((HB.out.alloc HB.out.size _).grown g9 (by simp; have := HB.out.size; omega) (fun j hj => Nat.le_trans (Nat.le_trans (Nat.le_of_lt lA4.out) (Nat.le_of_lt z5.out)) (hr9 j hj))).setCell (p := ⟨bm, 2, none⟩) (Nat.le_of_lt lA4.out) _
          have z3 : w9.cell? ⟨bm, 2, none⟩ = some (.slice va P.length vc) := e1.cell 2 rfl
          have zf := e1.frozen
          have E2 := Hid.of e2
          clear o9 g9 n9 e1 e2 hr9 o2 y2
          go_wp2_with fail
          clear z3 zf HP HB
          revert E2 HB9
          generalize w9.setCell ⟨bm, 2, none⟩ (.slice ga' (P.length + 1) gc') = W
          intro HB9 E2
          have x2 : W.cell? ⟨w.heap.size, 2, none⟩ = some (.slice (some ⟨bs, os, none⟩) a.starts.length la.c1) := by rw [← HSA.out]; exact (E2.out.kp.blk KA5.out (by have := lA4.out; omega)).cell 2 rfl
          have y2 : W.cell? ⟨w.heap.size + 1, 2, none⟩ = some (.slice (some ⟨bt, ot, none⟩) b.starts.length lb.c1) := by rw [← HTA.out]; exact (E2.out.kp.blk KB5.out (by have := lB4.out; omega)).cell 2 rfl
          have cx := HSC.out W HB9.out
          have cy := HTC.out W HB9.out
          obtain ⟨vs, ho, hin⟩ := E2.out.ps
          have HO1 := Hid.of ho
          have HI1 := Hid.of hin
          clear ho hin
          have hXW := E2.out.kp.size
          have t1 : Hid (w.heap.size < X.heap.size) := Nat.lt_trans lA4.out z5.out
          have t2 : Hid (w.heap.size + 1 < X.heap.size) := Nat.lt_trans lB4.out z5.out
          go_region_held3 (fun w' => w'.cell? ⟨w.heap.size, 2, none⟩ = some (.slice (some ⟨bs, os, none⟩) a.starts.length la.c1) ∧ w'.cell? ⟨w.heap.size + 1, 2, none⟩ = some (.slice (some ⟨bt, ot, none⟩) b.starts.length lb.c1) ∧ w'.cell? ⟨bs, os + k, none⟩ = some (.int .i64 x) ∧ w'.cell? ⟨bt, ot + q, none⟩ = some (.int .i64 y)) (go_keep) (first | (refine step_append_block rfl (.tmp 78) (.tmp 90) 27 rfl X.heap.size 22 i1 (.slice none 0 0) 1 24 Try.underlying27 hi hz0 hz1 hz2' rfl (by decide) (.slice pa P.length pc) P.length vs rfl (ownsRow_lay2 HO1.out _ _) ⟨W.heap.size + 1, 0, none⟩ 1 1 [.slice (some ⟨W.heap.size, 0, none⟩) 2 2] rfl rfl (cell_lay2 W _ _ _) (fun u hu => by simp at hu; subst hu; rfl) (by decide) (by unfold maxLen; omega) (by omega) (by simp; omega) ?_; intro v1 w10 o10 g10 n10; have E3 := Hid.of (cell_grown2 x2 g10 HO1.out t1.out); have E4 := Hid.of (cell_grown2 y2 g10 HO1.out t2.out); have E5 := Hid.of (cell_grown2 cx g10 HO1.out (Nat.lt_trans HBS.out t1.out)); have E6 := Hid.of (cell_grown2 cy g10 HO1.out (Nat.lt_trans HBT.out t1.out)); have e3 := E3.out; have e4 := E4.out; have e5 := E5.out; have e6 := E6.out))
          have P1 := Hid.of (E2.out.ps1 z5.out HO1.out HI1.out o10 g10)
          have hlay : Below W.heap.size W ((W.alloc (.cells #[.int .i64 x, .int .i64 y] 3)).alloc (.cells #[.slice (some ⟨W.heap.size, 0, none⟩) 2 2] 22)).drew := (((Below.refl _ _).alloc (Nat.le_refl _) _).alloc (by simp) _).drew
          have P2 : Hid (Below w.heap.size w w10) := (HB9.out.trans (hlay.mono HB9.out.size)).grown g10 (by show w.heap.size ≤ ((W.alloc _).alloc _).heap.size; simp; have := HB9.out.size; omega) (fun j hj => Nat.le_trans (Nat.le_of_lt t1.out) (HO1.out.lt j hj).1)
          clear hlay o10 g10 n10 E3 E4 E5 E6 e3 e4 e5 e6 x2 y2 cx cy HO1 HI1 E2 HB9
          go_wp2_with fail
          go_roundw
          case rel => exact ⟨q + 1, _, by omega, by go_num, by show PB _ _ _ _ _ _ _ _; rw [HN.out, List.length_append]; exact P1.out, P2⟩
          case measure => simp [intOf]; omega
        · rw [List.take_of_length_le (show b.starts.length ≤ q by omega)] at HP
          have HN : Hid (crossP (a.starts.take (k + 1)) b.starts = crossP (a.starts.take k) b.starts ++ b.starts.map fun z => (x, z)) := crossP_take hlt HX
          go_wp2_with fail
          go_roundw
          case rel => exact ⟨k + 1, _, by omega, by go_num, by show PB _ _ _ _ _ _ _ _; rw [HN.out]; exact HP.out, HB⟩
          case measure => simp [intOf]; omega
    · rw [List.take_of_length_le (show a.starts.length ≤ k by omega)] at HP
      have HC0 := Hid.of HP.out.pc
      have hn0 : Hid ((crossP a.starts b.starts).length ≤ 16777216) := show _ ≤ _ by
        have := crossP_le hsa.out hsb.out a.starts.length
        rwa [List.take_of_length_le (Nat.le_refl _)] at this
      go_wp2_with fail
      obtain ⟨s2a, s2c, hv2s, hv2l, hv2m, hv2n⟩ := own_form2 HP.out.st
      subst hv2s
      have HV2 := Hid.of (And.intro hv2l (And.intro hv2m hv2n))
      clear HP x2 hs4 ht4 hlt hk hv2l hv2m hv2n
      obtain ⟨n0, HN0⟩ : ∃ n0, Hid (n0 = (crossP a.starts b.starts).length) := ⟨_, rfl⟩
      rw [← HN0.out] at HC0 hn0 HV2
      have hza := mayB_size ma.out
      have hzb := mayB_size mb.out
      have hz2 : Hid (0 ≤ a.ev ∧ a.ev ≤ 8 ∧ a.arrows.length ≤ 4096 ∧ b.arrows.length ≤ 4096) := ⟨hza.2.2.1, hza.2.2.2.1, hza.2.2.2.2, hzb.2.2.2.2⟩
      clear hza hzb
      obtain ⟨a0, ai, az0, az1, az2⟩ := info_parts Try.infoArrow
      go_loopw [13, 16, 17] (fun v13 v16 i wr => ∃ (k : Nat) (s : BS), i = .int .i64 k ∧ k ≤ s.ps.length ∧ s.ps.length ≤ 16777216 ∧ s.ar.length ≤ 4096 ∧ (k = 0 ∨ s.ps.length ≤ 256) ∧ Hid (PC X wr bm a.ev (.slice s2a n0 s2c) v13 v16 n0 s) ∧ Hid (Below w.heap.size w wr) ∧ Hid (besideS a b ofA ofB = bGo a b ofA ofB (300 - k) k s)) (fun _ _ i _ => 300 - (intOf i).toNat)
      case atStart => exact ⟨0, ⟨crossP a.starts b.starts, []⟩, rfl, Nat.zero_le _, by rw [← HN0.out]; exact hn0.out, Nat.zero_le _, .inl rfl, HC0, HB, rfl⟩
      case round =>
        clear HC0 HB
        obtain ⟨k, s, rfl, hk, hps, har, hk0, HC, HB, HE⟩ := hrel
        obtain ⟨pa, pc, hpv, -⟩ := HC.out.ps.at
        rw [prs_len] at hpv
        subst hpv
        by_cases hlt : k < s.ps.length
        · obtain ⟨p, hp⟩ : ∃ p, Hid (s.ps[k]? = some p) := ⟨_, List.getElem?_eq_getElem hlt⟩
          have hk9 : k ≤ 255 := by omega
          go_wp2_with fail
          go_loopw [13, 16, 18] (fun v13 v16 i wr' => ∃ (e : Nat), i = .int .i64 e ∧ e ≤ a.ev.toNat ∧ Hid (PC X wr' bm a.ev (.slice s2a n0 s2c) v13 v16 n0 (bEvs a b ofA ofB k p s e)) ∧ Hid (Below w.heap.size w wr')) (fun _ _ i _ => a.ev.toNat - (intOf i).toNat)
          case atStart => exact ⟨0, rfl, Nat.zero_le _, HC, HB⟩
          case round =>
            clear HC HB
            obtain ⟨e, rfl, he, HC, HB⟩ := hrel
            have x1 : wr.cell? ⟨w.heap.size, 1, none⟩ = some (.int .i64 a.ev) := (HC.out.kp.blk KA5.out (by have := lA4.out; omega)).cell 1 rfl
            have hev9 := hz2.out
            obtain ⟨pa1, pc1, hpv1, -⟩ := HC.out.ps.at
            rw [prs_len] at hpv1
            subst hpv1
            obtain ⟨hbd, hbd2⟩ := bEvs_bd a b ofA ofB k p s hev9.2.2.1 hev9.2.2.2 e
            by_cases hle : (e : Int) < a.ev
            · go_wp2_with fail
              refine (refHas_any fa fc ofA (e : Int) _ (hA.out.below HB.out (Nat.le_refl _)) lA.out).mono ?_
              rintro r w1 ⟨rfl, hw1⟩
              rw [hw1]
              clear hw1 w1
              go_wp2_with fail
              refine (refHas_any ga gc ofB (e : Int) _ (hB.out.below HB.out (Nat.le_refl _)) lB.out).mono ?_
              rintro r w1 ⟨rfl, hw1⟩
              rw [hw1]
              clear hw1 w1
              have HBV : Hid (bEvs a b ofA ofB k p s (e + 1) = bEv a b ofA ofB k p (bEvs a b ofA ofB k p s e) (e : Int)) := bEvs_succ _ _ _ _ _ _ _ _
              obtain ⟨s1, HS1⟩ : ∃ s1, Hid (s1 = bEvs a b ofA ofB k p s e) := ⟨_, rfl⟩
              rw [← HS1.out] at HC hbd hbd2 HBV ⊢
              have hk1 : k < s1.ps.length := by obtain ⟨t, h1, -⟩ := hbd; rw [h1, List.length_append]; omega
              have hl1 : s1.ps.length ≤ 16777216 * 16 := by obtain ⟨t, h1, h2⟩ := hbd; rw [h1, List.length_append]; omega
              have hl2 : s1.ar.length ≤ 16777216 * 16 := by omega
              obtain ⟨bp, capp, hv, hbp, p', g, o, c, hp', hg, c1, iB, c2, c3⟩ := HC.out.ps.get hk1
              have hpp : p' = p := by
                obtain ⟨t, h1, -⟩ := hbd
                have h2 := hp'.out
                rw [h1, List.getElem?_append_left hlt, hp.out] at h2
                exact (Option.some.inj h2).symm
              subst hpp
              cases hv
              clear iB hbd hbd2
              obtain ⟨inA, HinA⟩ : ∃ inA, Hid (inA = hasB ofA (e : Int)) := ⟨_, rfl⟩
              obtain ⟨inB, HinB⟩ : ∃ inB, Hid (inB = hasB ofB (e : Int)) := ⟨_, rfl⟩
              rw [← HinA.out, ← HinB.out]
              have KAw := Hid.of (HC.out.kp.blk KA5.out (by have := lA4.out; omega))
              have KBw := Hid.of (HC.out.kp.blk KB5.out (by have := lB4.out; omega))
              clear x1
              obtain ⟨x0, x1, x2, x3, x4⟩ := mcell_at KAw.out
              obtain ⟨y0, y1, y2, y3, y4⟩ := mcell_at KBw.out
              have CE := Hid.of (And.intro c2 (And.intro c3 hg))
              have KEY : Hid (Calls Try.prog 19 #[mval a la, mval b lb, .slice (some ⟨g, o, none⟩) 2 c, .int .i64 e, .bool inA, .bool inB] wr.drew fun r w' => Gives2 wr.drew (prs (leadsP a.arrows b.arrows p' e inA inB)) r w') := leads_any a b la lb g o c p' (e : Int) inA inB wr.drew ((ha.out.below HB.out.drew (Nat.le_refl _)).a) ((hb.out.below HB.out.drew (Nat.le_refl _)).a) hev9.2.2.1 hev9.2.2.2 c2 c3 hg
              clear c2 c3
              go_wp2_with fail
              go_region_held3 (fun w' => w'.cell? ⟨w.heap.size, 0, none⟩ = some (.int .i64 a.st) ∧ w'.cell? ⟨w.heap.size, 1, none⟩ = some (.int .i64 a.ev) ∧ w'.cell? ⟨w.heap.size, 2, none⟩ = some (.slice la.a1 a.starts.length la.c1) ∧ w'.cell? ⟨w.heap.size, 3, none⟩ = some (.slice la.a2 a.arrows.length la.c2) ∧ w'.cell? ⟨w.heap.size, 4, none⟩ = some (.slice la.a3 a.ends.length la.c3) ∧ w'.cell? ⟨w.heap.size + 1, 0, none⟩ = some (.int .i64 b.st) ∧ w'.cell? ⟨w.heap.size + 1, 1, none⟩ = some (.int .i64 b.ev) ∧ w'.cell? ⟨w.heap.size + 1, 2, none⟩ = some (.slice lb.a1 b.starts.length lb.c1) ∧ w'.cell? ⟨w.heap.size + 1, 3, none⟩ = some (.slice lb.a2 b.arrows.length lb.c2) ∧ w'.cell? ⟨w.heap.size + 1, 4, none⟩ = some (.slice lb.a3 b.ends.length lb.c3) ∧ w'.cell? ⟨bp, k, none⟩ = some (.slice (some ⟨g, o, none⟩) 2 c)) (go_keep) (first | (go_at_call 19; refine KEY.out.mono ?_; rintro r wL ⟨v21, rfl, own21, hbL⟩; have GL : Hid (Below wr.heap.size wr wL) := ((Below.refl _ wr).drew).trans hbL; obtain ⟨xx0, xx1, xx2, xx3, xx4⟩ := mcell_at (KAw.out.below GL.out KAw.out.lt); obtain ⟨yy0, yy1, yy2, yy3, yy4⟩ := mcell_at (KBw.out.below GL.out KBw.out.lt); have cc1 := (GL.out.cell (p := ⟨bp, k, none⟩) hbp).trans c1; have OWL := Hid.of own21; clear hbL own21))
              clear KEY xx0 xx1 xx2 xx3 xx4 yy0 yy1 yy2 yy3 yy4 cc1 x0 x1 x2 x3 x4 y0 y1 y2 y3 y4 c1
              have HCL := Hid.of (HC.out.below GL.out)
              have HBL := Hid.of (HB.out.trans (GL.out.mono HB.out.size))
              obtain ⟨L, HL⟩ : ∃ L, Hid (L = leadsP a.arrows b.arrows p' e inA inB) := ⟨_, rfl⟩
              rw [← HL.out] at OWL
              have HLQ : Hid (LQ wL (.slice (some ⟨bp, 0, none⟩) s1.ps.length pc1) v21 L) := by
                refine ⟨OWL.out.lower (Nat.zero_le _), ?_⟩
                cases hk21 : v21.ownBlock with
                | none => exact .inl rfl
                | some z =>
                  refine .inr fun h => ?_
                  have h1 := OWL.out.lt z hk21
                  have h2 : z = bp := Option.some.inj h
                  have h3 : z < wr.heap.size := by rw [h2]; exact hbp
                  have h4 : wr.drew.heap.size = wr.heap.size := rfl
                  omega
              have hLl : Hid (L.length ≤ 16777216) := show _ ≤ _ by rw [HL.out]; exact leadsP_len a b p' (e : Int) inA inB hev9.2.2.1 hev9.2.2.2
              obtain ⟨lq, lc, hv21, -⟩ := OWL.out.at
              rw [prs_len] at hv21
              subst hv21
              clear HC HB OWL GL KAw KBw
              go_wp2_with fail
              go_loopw [13, 16, 22] (fun v13 v16 i wr' => ∃ (q : Nat), i = .int .i64 q ∧ q ≤ L.length ∧ Hid (PC X wr' bm a.ev (.slice s2a n0 s2c) v13 v16 n0 ((L.take q).foldl (bAdd k (e : Int)) s1)) ∧ Hid (LQ wr' v13 (.slice lq L.length lc) L) ∧ Hid (Below w.heap.size w wr')) (fun _ _ i _ => L.length - (intOf i).toNat)
              case atStart => exact ⟨0, rfl, Nat.zero_le _, HCL, HLQ, HBL⟩
              case round =>
                clear HCL HLQ HBL CE
                obtain ⟨q, rfl, hq, HC, HLQ, HB⟩ := hrel
                have hL9 := hLl.out
                obtain ⟨t2, hps2, htl2⟩ := bFold_ps k (e : Int) (L.take q) s1
                have har2 := bFold_ar k (e : Int) (L.take q) s1
                have htq : (L.take q).length ≤ 16777216 := Nat.le_trans (List.length_take_le' _ _) hL9
                have HFE : Hid (∀ pp, L[q]? = some pp → (L.take (q + 1)).foldl (bAdd k (e : Int)) s1 = bAdd k (e : Int) ((L.take q).foldl (bAdd k (e : Int)) s1) pp) := fun pp h => bAdd_take h
                have HFD : Hid (¬ q < L.length → (L.take q).foldl (bAdd k (e : Int)) s1 = L.foldl (bAdd k (e : Int)) s1) := fun h => by rw [List.take_of_length_le (by omega)]
                obtain ⟨s2, HS2⟩ : ∃ s2, Hid (s2 = (L.take q).foldl (bAdd k (e : Int)) s1) := ⟨_, rfl⟩
                rw [← HS2.out] at HC hps2 har2 HFE HFD
                have hl5 : s2.ps.length ≤ 16777216 * 18 := by rw [hps2, List.length_append]; omega
                have hl6 : s2.ar.length ≤ 16777216 * 18 := by omega
                clear hps2 har2 htl2 htq
                obtain ⟨pb, pbc, hpv2, hat2, hpl2, hpm2, -⟩ := HC.out.ps.at
                rw [prs_len] at hpv2 hpl2
                subst hpv2
                by_cases hqt : q < L.length
                · obtain ⟨bl, capl, hvl, hbl, pp, g2, o2, c2, hpp, hg2, d1, iB2, d2, d3⟩ := HLQ.out.own.get hqt
                  cases hvl
                  have KEYF : Hid (Calls Try.prog 20 #[.slice pb s2.ps.length pbc, .int .i64 pp.1, .int .i64 pp.2] wr.drew fun r w' => r = .returned (.int .i64 (findP s2.ps pp.1 pp.2 : Nat)) ∧ w' = wr.drew) := find_any pb pbc s2.ps pp.1 pp.2 wr.drew hat2 (Nat.le_trans hpl2 hpm2)
                  have hfl := findP_le s2.ps pp.1 pp.2
                  have HNX1 := Hid.of (HFE.out pp hpp.out)
                  obtain ⟨n, HNF⟩ : ∃ n, Hid (n = findP s2.ps pp.1 pp.2) := ⟨_, rfl⟩
                  rw [← HNF.out] at KEYF hfl
                  have IB := Hid.of iB2
                  clear iB2 hat2
                  go_wp2_with fail
                  go_region_held3 (fun w' => w'.cell? ⟨bl, q, none⟩ = some (.slice (some ⟨g2, o2, none⟩) 2 c2) ∧ w'.cell? ⟨g2, o2, none⟩ = some (.int .i64 pp.1) ∧ w'.cell? ⟨g2, o2 + 1, none⟩ = some (.int .i64 pp.2)) (go_keep) (first | (go_at_call 20; refine KEYF.out.mono ?_; rintro r wF ⟨rfl, rfl⟩))
                  have HCd : Hid (PC X wr.drew bm a.ev (.slice s2a n0 s2c) (.slice pb s2.ps.length pbc) u16 n0 s2) := HC.out.below ((Below.refl _ wr).drew)
                  have HLd : Hid (LQ wr.drew (.slice pb s2.ps.length pbc) (.slice (some ⟨bl, 0, none⟩) L.length lc) L) := HLQ.out.below ((Below.refl _ wr).drew)
                  have HBd : Hid (Below w.heap.size w wr.drew) := HB.out.drew
                  have IBd : Hid (InnB wr.drew (.slice (some ⟨g2, o2, none⟩) 2 c2) [pp.1, pp.2]) := IB.out.below ((Below.refl _ wr).drew)
                  have d1d : wr.drew.cell? ⟨bl, q, none⟩ = some (.slice (some ⟨g2, o2, none⟩) 2 c2) := d1
                  clear KEYF HC HLQ HB IB d1 d2 d3
                  revert HCd HLd HBd IBd d1d
                  generalize wr.drew = U
                  intro HCd HLd HBd IBd d1d
                  by_cases hnew : n = s2.ps.length
                  · have HNX : Hid ((L.take (q + 1)).foldl (bAdd k (e : Int)) s1 = ⟨s2.ps ++ [pp], s2.ar ++ [⟨(k : Int), (e : Int), (n : Int)⟩]⟩) := by
                      show _ = _
                      rw [HNX1.out]; unfold bAdd; rw [← HNF.out, if_pos hnew]
                    have dn : ((n : Int) == (s2.ps.length : Int)) = true := by rw [hnew]; simp
                    have HNE := Hid.of hnew
                    have hnb : n ≤ 16777216 * 18 := by omega
                    clear hnew
                    obtain ⟨vs, ho, hin⟩ := HCd.out.ps
                    have HO1 := Hid.of ho
                    have HI1 := Hid.of hin
                    have HO2 : Hid (U.ownsRow X.heap.size 22 1 (.slice pb s2.ps.length pbc) s2.ps.length vs) := by have h0 := ho; rw [prs_len] at h0; exact h0
                    clear ho hin
                    have hXU := HCd.out.kp.size
                    go_wp2_with (at_builtin; refine wpList_append_block _ rfl (.tmp 144) (.tmp 149) 27 rfl X.heap.size 22 i1 (.slice none 0 0) 1 24 Try.underlying27 hi hz0 hz1 hz2' rfl (by decide) _ _ _ rfl (World.ownsRow.alloc HO2.out _) ⟨U.heap.size, 0, none⟩ 1 1 [.slice (some ⟨g2, o2, none⟩) 2 c2] rfl rfl (cell_one_new _ _ _) (by intro u hu; simp at hu; subst hu; rfl) (by decide) (by unfold maxLen; omega) (by omega) (by simp; omega) ?_)
                    intro v7 w7 o7 g7 n7
                    obtain ⟨qa, qc, hv7⟩ := own_form o7
                    subst hv7
                    have G1 : Hid (PC X w7 bm a.ev (.slice s2a n0 s2c) (.slice qa (s2.ps.length + 1) qc) u16 n0 ⟨s2.ps ++ [pp], s2.ar⟩) := (HCd.out.alloc _).ps1 z5.out (World.ownsRow.alloc HO1.out _) (fun j x xs h1 h2 => (HI1.out j x xs h1 h2).below ((Below.refl _ _).alloc (Nat.le_refl _) _)) (IBd.out.below ((Below.refl _ _).alloc (Nat.le_refl _) _)) (by rw [prs_len]; exact o7) g7
                    have G2 := Hid.of ((HLd.out.below ((Below.refl _ _).alloc (Nat.le_refl _) _)).ps1 (World.ownsRow.alloc HO1.out _) g7 (by rw [World.size_alloc]; exact n7))
                    have G3 : Hid (Below w.heap.size w w7) := (HBd.out.alloc HBd.out.size _).grown g7 (by simp; have := HBd.out.size; omega) (fun j hj => Nat.le_trans (Nat.le_of_lt (Nat.lt_trans lA4.out z5.out)) (HO1.out.lt j hj).1)
                    clear o7 g7 n7 HO1 HO2 HI1 HCd HLd HBd IBd d1d dn
                    have HAR := Hid.of G1.out.ar
                    obtain ⟨ra1, rc1, hra, -⟩ := HAR.out.at
                    subst hra
                    have hXW := G1.out.kp.size
                    go_wp2_with (at_builtin; refine wpList_append_arrs _ rfl (.tmp 151) (.tmp 156) 23 rfl X.heap.size a0 Try.underlying23 ai az0 az1 az2 _ s2.ar rfl (World.ownsRow.alloc HAR.out _) (some ⟨w7.heap.size, 0, none⟩) 1 [⟨(k : Int), (e : Int), (n : Int)⟩] rfl (atA_new _ _ ⟨(k : Int), (e : Int), (n : Int)⟩ _ rfl) (fun h => by cases h) (by simp; omega) (by simp; omega) ?_)
                    intro v8 w8 o8 g8 n8
                    have F1 := Hid.of ((G1.out.alloc _).ar1 z5.out o8 g8)
                    have F2 := Hid.of ((G2.out.below ((Below.refl _ _).alloc (Nat.le_refl _) _)).ar1 (World.ownsRow.alloc HAR.out _) g8)
                    have F3 : Hid (Below w.heap.size w w8) := (G3.out.alloc G3.out.size _).grown g8 (by simp; have := G3.out.size; omega) (fun j hj => Nat.le_trans (Nat.le_of_lt (Nat.lt_trans lA4.out z5.out)) (World.ownsRow.lt HAR.out j hj).1)
                    clear o8 g8 n8 HAR
                    go_wp2_with fail
                    go_roundw
                    case rel => exact ⟨q + 1, by go_num, by omega, by show PC _ _ _ _ _ _ _ _ _; rw [HNX.out]; exact F1.out, F2, F3⟩
                    case measure => simp [intOf]; omega
                  · have HNX : Hid ((L.take (q + 1)).foldl (bAdd k (e : Int)) s1 = ⟨s2.ps, s2.ar ++ [⟨(k : Int), (e : Int), (n : Int)⟩]⟩) := by
                      show _ = _
                      rw [HNX1.out]; unfold bAdd; rw [← HNF.out, if_neg hnew]
                    have dn : ((n : Int) == (s2.ps.length : Int)) = false := by rw [beq_eq_false_iff_ne]; omega
                    have dn2 : ¬ (n : Int) = (s2.ps.length : Int) := by omega
                    clear hnew
                    have HAR := Hid.of HCd.out.ar
                    obtain ⟨ra1, rc1, hra, -⟩ := HAR.out.at
                    subst hra
                    have hXW := HCd.out.kp.size
                    go_wp2_with (at_builtin; refine wpList_append_arrs _ rfl (.tmp 151) (.tmp 156) 23 rfl X.heap.size a0 Try.underlying23 ai az0 az1 az2 _ s2.ar rfl (World.ownsRow.alloc HAR.out _) (some ⟨U.heap.size, 0, none⟩) 1 [⟨(k : Int), (e : Int), (n : Int)⟩] rfl (atA_new _ _ ⟨(k : Int), (e : Int), (n : Int)⟩ _ rfl) (fun h => by cases h) (by simp; omega) (by simp; omega) ?_)
                    intro v8 w8 o8 g8 n8
                    have F1 := Hid.of ((HCd.out.alloc _).ar1 z5.out o8 g8)
                    have F2 := Hid.of ((HLd.out.below ((Below.refl _ _).alloc (Nat.le_refl _) _)).ar1 (World.ownsRow.alloc HAR.out _) g8)
                    have F3 : Hid (Below w.heap.size w w8) := (HBd.out.alloc HBd.out.size _).grown g8 (by simp; have := HBd.out.size; omega) (fun j hj => Nat.le_trans (Nat.le_of_lt (Nat.lt_trans lA4.out z5.out)) (World.ownsRow.lt HAR.out j hj).1)
                    clear o8 g8 n8 HAR
                    go_wp2_with fail
                    go_roundw
                    case rel => exact ⟨q + 1, by go_num, by omega, by show PC _ _ _ _ _ _ _ _ _; rw [HNX.out]; exact F1.out, F2, F3⟩
                    case measure => simp [intOf]; omega
                · have HFIN : Hid (PC X wr bm a.ev (.slice s2a n0 s2c) (.slice pb s2.ps.length pbc) u16 n0 (bEvs a b ofA ofB k p' s (e + 1))) := by
                    show PC _ _ _ _ _ _ _ _ _
                    rw [HBV.out]
                    unfold bEv
                    rw [← HinA.out, ← HinB.out, ← HL.out, ← HFD.out hqt]
                    exact HC.out
                  clear HC hat2
                  go_wp2_with fail
                  go_roundw
                  case rel => exact ⟨e + 1, by go_num, by omega, HFIN, HB⟩
                  case measure => simp [intOf]; omega
            · have hee : e = a.ev.toNat := by omega
              rw [hee] at HC hbd hbd2
              have HE1 := Hid.of (fun hB => bGo_big (a := a) (b := b) (ofA := ofA) (ofB := ofB) (f := 300 - k) hp.out hB (by omega))
              have HE2 := Hid.of (fun hB => bGo_next (a := a) (b := b) (ofA := ofA) (ofB := ofB) (f := 300 - k) hp.out hB (by omega))
              have HEE := Hid.of hee
              clear hee
              obtain ⟨s', HS'⟩ : ∃ s', Hid (s' = bEvs a b ofA ofB k p s a.ev.toNat) := ⟨_, rfl⟩
              rw [HEE.out, ← HS'.out]
              rw [← HS'.out] at HC hbd hbd2 HE1 HE2
              have hk1 : k < s'.ps.length := by obtain ⟨t, h1, -⟩ := hbd; rw [h1, List.length_append]; omega
              have hl1 : s'.ps.length ≤ 16777216 * 16 := by obtain ⟨t, h1, h2⟩ := hbd; rw [h1, List.length_append]; omega
              have hl2 : s'.ar.length ≤ 16777216 * 16 := by omega
              obtain ⟨ra1, rc1, hra, -⟩ := HC.out.ar.at
              subst hra
              clear hbd hbd2
              have hle' : ¬ ((a.ev.toNat : Nat) : Int) < a.ev := by omega
              cases hbig : bBig s' with
              | true =>
                have HBG : Hid (besideS a b ofA ofB = none) := HE.out.trans (HE1.out hbig)
                have NW := Hid.of (HC.out.kp.blk N5.out (by have := lN4.out; omega))
                have RW := Hid.of (HC.out.kp.blk R5.out (by have := lN4.out; omega))
                obtain ⟨zz0, zz1, zz2, zz3, zz4⟩ := zcell_at NW.out
                obtain ⟨r0, r1, r2, r3, r4⟩ := zcell_at RW.out
                have rz := RW.out.frozen
                have RR : Hid (Blk _ (w.heap.size + 2) 25 (mcells m0 ml0)) := RW.out.set5 (.int .i64 0) (.int .i64 0) (.slice none 0 0) (.slice none 0 0) (.slice none 0 0)
                have FIN : Hid (∀ e w', BesErr 1 w e w' → BesGives w a b ofA ofB e w') := fun e w' h => by unfold BesGives; rw [HBG.out]; exact h
                unfold bBig at hbig
                by_cases h1 : 256 < s'.ps.length
                · have d1 : decide ((256 : Int) < (s'.ps.length : Int)) = true := by simp; omega
                  clear hbig
                  go_wp2_with fail
                  refine bodyPost_ret (v := .tuple #[mval m0 ml0, .slice none 0 0, .int .i64 1]) ?_ rfl (FIN.out _ _ ⟨rfl, below_set5 HB.out (b' := w.heap.size + 2) (by omega) _ _ _ _ _⟩)
                  exact results_three (p := 8) (u := 9) (v := 10) rfl _ _ (w.heap.size + 2) m0 ml0 _ _ rfl rfl rfl RR.out
                · have h2 : 4096 < s'.ar.length := by simpa [h1] using hbig
                  have d1 : decide ((256 : Int) < (s'.ps.length : Int)) = false := by simp; omega
                  have d2 : decide ((4096 : Int) < (s'.ar.length : Int)) = true := by simp; omega
                  clear hbig
                  go_wp2_with fail
                  refine bodyPost_ret (v := .tuple #[mval m0 ml0, .slice none 0 0, .int .i64 1]) ?_ rfl (FIN.out _ _ ⟨rfl, below_set5 HB.out (b' := w.heap.size + 2) (by omega) _ _ _ _ _⟩)
                  exact results_three (p := 8) (u := 9) (v := 10) rfl _ _ (w.heap.size + 2) m0 ml0 _ _ rfl rfl rfl RR.out
              | false =>
                have HNB := Hid.of (HE.out.trans (HE2.out hbig))
                have h1 : ¬ 256 < s'.ps.length := by intro h; unfold bBig at hbig; simp [h] at hbig
                have h2 : ¬ 4096 < s'.ar.length := by intro h; unfold bBig at hbig; simp [h] at hbig
                have d1 : decide ((256 : Int) < (s'.ps.length : Int)) = false := by simp; omega
                have d2 : decide ((4096 : Int) < (s'.ar.length : Int)) = false := by simp; omega
                clear hbig
                go_wp2_with fail
                go_roundw
                case rel => exact ⟨k + 1, s', by go_num, by omega, by omega, by omega, .inr (by omega), HC, HB, HNB⟩
                case measure => simp [intOf]; omega
        · have HFIN : Hid (besideS a b ofA ofB = some s) := HE.out.trans (bGo_end hlt)
          have hp256 : s.ps.length ≤ 256 := by omega
          have d1 : decide ((256 : Int) < (s.ps.length : Int)) = false := by simp; omega
          obtain ⟨ra1, rc1, hra, hatA, -⟩ := HC.out.ar.at
          subst hra
          have HAT := Hid.of hatA
          clear hatA HE
          go_wp2_with fail
          refine (refSort_any ra1 rc1 s.ar _ HAT.out (by omega)).mono ?_
          rintro r w9 ⟨aa, ac, rfl, at9, ca1, ca2, ca3, hb9⟩
          have HC9 := Hid.of (HC.out.below hb9)
          have HB9 := Hid.of (HB.out.trans (hb9.mono HB.out.size))
          have A9 := Hid.of at9
          have CA := Hid.of (And.intro ca1 (And.intro ca2 ca3))
          clear HC HB HAT at9 ca1 ca2 ca3 hb9 d1
          have z3 : w9.cell? ⟨bm, 3, none⟩ = some (.slice none 0 0) := HC9.out.blk.cell 3 rfl
          have z0 : w9.cell? ⟨bm, 0, none⟩ = some (.int .i64 0) := HC9.out.blk.cell 0 rfl
          have zf := HC9.out.blk.frozen
          by_cases hz : s.ps.length = 0
          · skip
            have dz : ((s.ps.length : Int) == 0) = true := by rw [hz]; rfl
            have dz2 : (s.ps.length : Int) = 0 := by omega
            have HZ := Hid.of hz
            clear hz
            clear dz2
            have KPY : Hid (Kp bm w9 (((w9.setCell ⟨bm, 3, none⟩ (.slice aa (srtA s.ar).length ac)).setCell ⟨bm, 0, none⟩ (.int .i64 (s.ps.length : Int))).setCell ⟨bm, 0, none⟩ (.int .i64 1))) := (((Kp.refl bm w9).set 3 (.slice aa (srtA s.ar).length ac)).set 0 (.int .i64 (s.ps.length : Int))).set 0 (.int .i64 1)
            have BY : Hid (Blk (((w9.setCell ⟨bm, 3, none⟩ (.slice aa (srtA s.ar).length ac)).setCell ⟨bm, 0, none⟩ (.int .i64 (s.ps.length : Int))).setCell ⟨bm, 0, none⟩ (.int .i64 1)) bm 25 #[.int .i64 1, .int .i64 a.ev, .slice s2a n0 s2c, .slice aa (srtA s.ar).length ac, .slice none 0 0]) := ((HC9.out.blk.set 3 (.slice aa (srtA s.ar).length ac)).set 0 (.int .i64 (s.ps.length : Int))).set 0 (.int .i64 1)
            have BELY : Hid (Below w.heap.size w (((w9.setCell ⟨bm, 3, none⟩ (.slice aa (srtA s.ar).length ac)).setCell ⟨bm, 0, none⟩ (.int .i64 (s.ps.length : Int))).setCell ⟨bm, 0, none⟩ (.int .i64 1))) := ((HB9.out.setCell (p := ⟨bm, 3, none⟩) (Nat.le_of_lt lA4.out) (.slice aa (srtA s.ar).length ac)).setCell (p := ⟨bm, 0, none⟩) (Nat.le_of_lt lA4.out) (.int .i64 (s.ps.length : Int))).setCell (p := ⟨bm, 0, none⟩) (Nat.le_of_lt lA4.out) (.int .i64 1)
            go_wp2_with fail
            revert KPY BY BELY
            generalize ((w9.setCell ⟨bm, 3, none⟩ (.slice aa (srtA s.ar).length ac)).setCell ⟨bm, 0, none⟩ (.int .i64 (s.ps.length : Int))).setCell ⟨bm, 0, none⟩ (.int .i64 1) = Y
            intro KPY BY BELY
            clear z3 z0 zf dz 
            have OY := Hid.of (HC9.out.ps.kp KPY.out HC9.out.blk (by decide) (by decide))
            have SY := Hid.of (HC9.out.st.kp KPY.out HC9.out.blk (by decide))
            have AY := Hid.of ((A9.out.apart HC9.out.blk).kp KPY.out)
            have KXY := Hid.of (HC9.out.kp.trans KPY.out)
            have ZY := Hid.of BY.out.lt
            have lA4' := lA4.out
            clear HC9 A9 KPY HB9
            go_loopw [24] (fun i wr => ∃ (q : Nat) (v4 : Value), i = .int .i64 q ∧ q ≤ s.ps.length ∧ Hid (PD w Y wr bm 1 a.ev (.slice s2a n0 s2c) (.slice aa (srtA s.ar).length ac) v4 (endsP a b s.ps q))) (fun i _ => s.ps.length - (intOf i).toNat)
            case atStart => exact ⟨0, .slice none 0 0, rfl, Nat.zero_le _, ⟨BY.out, Kp.refl _ _, own_nil _ _, BELY.out⟩⟩
            case round =>
              obtain ⟨q, v4, rfl, hq, HD⟩ := hrel
              obtain ⟨ea, ec, hv4, -⟩ := HD.out.own.at2
              subst hv4
              have KXW := Hid.of (KXY.out.trans HD.out.kp)
              by_cases hqt : q < s.ps.length
              · exfalso
                have := HZ.out
                omega
              · have hqe : q = s.ps.length := by omega
                rw [hqe] at HD
                rw [hqe]
                have hqn : ¬ s.ps.length < s.ps.length := by omega
                clear hqe hqt hq
                have RW := Hid.of (KXW.out.blk R5.out (by have := lN4.out; omega))
                have o0 : wr.cell? ⟨bm, 0, none⟩ = some (.int .i64 1) := HD.out.blk.cell 0 rfl
                have o1 : wr.cell? ⟨bm, 1, none⟩ = some (.int .i64 a.ev) := HD.out.blk.cell 1 rfl
                have o2 : wr.cell? ⟨bm, 2, none⟩ = some (.slice s2a n0 s2c) := HD.out.blk.cell 2 rfl
                have o3 : wr.cell? ⟨bm, 3, none⟩ = some (.slice aa (srtA s.ar).length ac) := HD.out.blk.cell 3 rfl
                have o4 : wr.cell? ⟨bm, 4, none⟩ = some (.slice ea (endsP a b s.ps s.ps.length).length ec) := HD.out.blk.cell 4 rfl
                obtain ⟨r0, r1, r2, r3, r4⟩ := zcell_at RW.out
                have rz := RW.out.frozen
                have hne3 : ¬ bm = w.heap.size + 2 := by have := lN4.out; omega
                have hne4 : ¬ w.heap.size + 2 = bm := by have := lN4.out; omega
                have R1 := Hid.of (RW.out.set5 (.int .i64 1) (.int .i64 a.ev) (.slice s2a n0 s2c) (.slice aa (srtA s.ar).length ac) (.slice ea (endsP a b s.ps s.ps.length).length ec))
                have B1 := Hid.of (below_set5 HD.out.bel (b' := w.heap.size + 2) (by omega) (.int .i64 1) (.int .i64 a.ev) (.slice s2a n0 s2c) (.slice aa (srtA s.ar).length ac) (.slice ea (endsP a b s.ps s.ps.length).length ec))
                have KR : Hid (Kp (w.heap.size + 2) wr _) := Kp.set5 (.int .i64 1) (.int .i64 a.ev) (.slice s2a n0 s2c) (.slice aa (srtA s.ar).length ac) (.slice ea (endsP a b s.ps s.ps.length).length ec)
                have F1 := Hid.of ((SY.out.kp HD.out.kp BY.out (by decide)).kp KR.out RW.out (by decide))
                have F2 := Hid.of (((AY.out.apart BY.out).kp HD.out.kp).apart RW.out)
                have F3 := Hid.of ((OY.out.kp HD.out.kp BY.out (by decide) (by decide)).kp KR.out RW.out (by decide) (by decide))
                have F4 := Hid.of (HD.out.own.kp KR.out (show w.heap.size + 2 < Y.heap.size by have h1 := ZY.out; have h2 := lN4.out; omega))
                have HME : Hid (mcells (besideM a b s) ⟨s2a, s2c, aa, ac, ea, ec⟩ = #[.int .i64 1, .int .i64 a.ev, .slice s2a n0 s2c, .slice aa (srtA s.ar).length ac, .slice ea (endsP a b s.ps s.ps.length).length ec]) := by
                  show _ = _
                  unfold besideM
                  simp only [mcells]
                  rw [rngI_len, ← HN0.out, if_pos HZ.out]
                go_wp2_with fail
                refine bodyPost_ret (v := .tuple #[mval (besideM a b s) ⟨s2a, s2c, aa, ac, ea, ec⟩, .slice pa s.ps.length pc, .int .i64 0]) ?_ rfl ?_
                · exact results_three (p := 8) (u := 9) (v := 10) rfl _ _ (w.heap.size + 2) (besideM a b s) ⟨s2a, s2c, aa, ac, ea, ec⟩ _ _ rfl rfl rfl (by rw [HME.out]; exact R1.out)
                · unfold BesGives
                  rw [HFIN.out]
                  obtain ⟨xa, xc, xe, xat, -⟩ := F1.out.at
                  rw [rngI_len] at xe
                  cases xe
                  obtain ⟨ya, yc, ye, yat, y1, y2, y3⟩ := F4.out.at2
                  cases ye
                  refine ⟨⟨s2a, s2c, aa, ac, ea, ec⟩, .slice pa s.ps.length pc, rfl, ⟨?_, F2.out.kp KR.out, yat, ?_, HV2.out.2.1, HV2.out.2.2, CA.out.1, CA.out.2.1, CA.out.2.2, y1, y2, y3⟩, F3.out.lower ?_, B1.out⟩
                  · show At _ _ (rngI (crossP a.starts b.starts).length)
                    rw [← HN0.out]; exact xat
                  · show (rngI (crossP a.starts b.starts).length).length ≤ s2c
                    rw [rngI_len, ← HN0.out]; exact HV2.out.1
                  · exact Nat.le_of_lt (Nat.lt_trans lA4.out z5.out)
          · skip
            have dz : ((s.ps.length : Int) == 0) = false := by rw [beq_eq_false_iff_ne]; omega
            have dz2 : ¬ (s.ps.length : Int) = 0 := by omega
            have HZ := Hid.of hz
            clear hz
            
            have KPY : Hid (Kp bm w9 (((w9.setCell ⟨bm, 3, none⟩ (.slice aa (srtA s.ar).length ac)).setCell ⟨bm, 0, none⟩ (.int .i64 (s.ps.length : Int))))) := (((Kp.refl bm w9).set 3 (.slice aa (srtA s.ar).length ac)).set 0 (.int .i64 (s.ps.length : Int)))
            have BY : Hid (Blk (((w9.setCell ⟨bm, 3, none⟩ (.slice aa (srtA s.ar).length ac)).setCell ⟨bm, 0, none⟩ (.int .i64 (s.ps.length : Int)))) bm 25 #[.int .i64 (s.ps.length : Int), .int .i64 a.ev, .slice s2a n0 s2c, .slice aa (srtA s.ar).length ac, .slice none 0 0]) := ((HC9.out.blk.set 3 (.slice aa (srtA s.ar).length ac)).set 0 (.int .i64 (s.ps.length : Int)))
            have BELY : Hid (Below w.heap.size w (((w9.setCell ⟨bm, 3, none⟩ (.slice aa (srtA s.ar).length ac)).setCell ⟨bm, 0, none⟩ (.int .i64 (s.ps.length : Int))))) := ((HB9.out.setCell (p := ⟨bm, 3, none⟩) (Nat.le_of_lt lA4.out) (.slice aa (srtA s.ar).length ac)).setCell (p := ⟨bm, 0, none⟩) (Nat.le_of_lt lA4.out) (.int .i64 (s.ps.length : Int)))
            go_wp2_with fail
            revert KPY BY BELY
            generalize ((w9.setCell ⟨bm, 3, none⟩ (.slice aa (srtA s.ar).length ac)).setCell ⟨bm, 0, none⟩ (.int .i64 (s.ps.length : Int))) = Y
            intro KPY BY BELY
            clear z3 z0 zf dz dz2
            have OY := Hid.of (HC9.out.ps.kp KPY.out HC9.out.blk (by decide) (by decide))
            have SY := Hid.of (HC9.out.st.kp KPY.out HC9.out.blk (by decide))
            have AY := Hid.of ((A9.out.apart HC9.out.blk).kp KPY.out)
            have KXY := Hid.of (HC9.out.kp.trans KPY.out)
            have ZY := Hid.of BY.out.lt
            have lA4' := lA4.out
            clear HC9 A9 KPY HB9
            go_loopw [24] (fun i wr => ∃ (q : Nat) (v4 : Value), i = .int .i64 q ∧ q ≤ s.ps.length ∧ Hid (PD w Y wr bm (s.ps.length : Int) a.ev (.slice s2a n0 s2c) (.slice aa (srtA s.ar).length ac) v4 (endsP a b s.ps q))) (fun i _ => s.ps.length - (intOf i).toNat)
            case atStart => exact ⟨0, .slice none 0 0, rfl, Nat.zero_le _, ⟨BY.out, Kp.refl _ _, own_nil _ _, BELY.out⟩⟩
            case round =>
              obtain ⟨q, v4, rfl, hq, HD⟩ := hrel
              obtain ⟨ea, ec, hv4, -⟩ := HD.out.own.at2
              subst hv4
              have KXW := Hid.of (KXY.out.trans HD.out.kp)
              by_cases hqt : q < s.ps.length
              · obtain ⟨bp, capp, hv, hbp, pp, g, o, c, hpp, hg, c1, iB, c2, c3⟩ := (OY.out.kp HD.out.kp BY.out (by decide) (by decide)).get hqt
                cases hv
                have x4 : wr.cell? ⟨w.heap.size, 4, none⟩ = some (.slice la.a3 a.ends.length la.c3) := (KXW.out.blk KA5.out (by omega)).cell 4 rfl
                have y4 : wr.cell? ⟨w.heap.size + 1, 4, none⟩ = some (.slice lb.a3 b.ends.length lb.c3) := (KXW.out.blk KB5.out (by have := lB4.out; omega)).cell 4 rfl
                have HES := Hid.of (endsP_succ (a := a) (b := b) hpp)
                clear iB
                by_cases t1 : hasB a.ends pp.1 = true
                · by_cases t2 : hasB b.ends pp.2 = true
                  · skip
                    have KEY1 : Hid (∀ z, Calls Try.prog 18 #[.slice la.a3 a.ends.length la.c3, .int .i64 pp.1] (wr.drewN z) fun r w' => r = .returned (.bool true) ∧ w' = wr.drewN z) := fun z => by
                      have h0 := refHas_any la.a3 la.c3 a.ends pp.1 (wr.drewN z) ((ha.out.below (below_drewN HD.out.bel z) (Nat.le_refl _)).e) (Nat.le_trans ha.out.e1 ha.out.e2)
                      rw [t1] at h0
                      exact h0
                    have KEY2 : Hid (∀ z, Calls Try.prog 18 #[.slice lb.a3 b.ends.length lb.c3, .int .i64 pp.2] (wr.drewN z) fun r w' => r = .returned (.bool true) ∧ w' = wr.drewN z) := fun z => by
                      have h0 := refHas_any lb.a3 lb.c3 b.ends pp.2 (wr.drewN z) ((hb.out.below (below_drewN HD.out.bel z) (Nat.le_refl _)).e) (Nat.le_trans hb.out.e1 hb.out.e2)
                      rw [t2] at h0
                      exact h0
                    go_wp2_with fail
                    go_quiet (first | (go_at_call_of 18 (Value.slice la.a3 a.ends.length la.c3); exact Calls.quiet_of_same (KEY1.out _)) | (go_at_call_of 18 (Value.slice lb.a3 b.ends.length lb.c3); exact Calls.quiet_of_same (KEY2.out _)))
                    have HDd : Hid (PD w Y (wr.drewN nq) bm (s.ps.length : Int) a.ev (.slice s2a n0 s2c) (.slice aa (srtA s.ar).length ac) (.slice ea (endsP a b s.ps q).length ec) (endsP a b s.ps q)) := HD.out.drewNn nq
                    clear HD x4 y4 c1 c2 c3
                    revert HDd
                    generalize wr.drewN nq = U
                    intro HDd
                    have HNX : Hid (endsP a b s.ps (q + 1) = endsP a b s.ps q ++ [(q : Int)]) := by
                      show _ = _
                      rw [HES.out, if_pos (by rw [t1, t2]; rfl)]
                    have o4 : U.cell? ⟨bm, 4, none⟩ = some (.slice ea (endsP a b s.ps q).length ec) := HDd.out.blk.cell 4 rfl
                    have hYU := HDd.out.kp.size
                    have lbU := HDd.out.blk.lt
                    have hel := endsP_len a b s.ps q
                    go_wp2_with (at_builtin; refine wpList_append_own _ rfl (.tmp 208) (.tmp 210) 22 rfl Y.heap.size 3 j0 (.int .i64 0) 1 8 Try.underlying22 ji jz0 jz1 jz2 rfl (by decide) _ _ _ rfl (World.ownsRow.alloc HDd.out.own _) ⟨U.heap.size, 0, none⟩ 1 1 [.int .i64 (q : Int)] rfl rfl (cell_one_new _ _ _) (by intro u hu; simp at hu; subst hu; rfl) (by unfold maxLen; omega) (by omega) (by simp; omega) ?_)
                    intro v6 w6 o6 g6 n6
                    obtain ⟨ea6, ec6, hv6⟩ := own_form o6
                    subst hv6
                    obtain ⟨b6, D6⟩ := HDd.out.one (Nat.le_of_lt lA4.out) ZY.out o6 g6
                    have D7 := Hid.of D6
                    have z6 : w6.cell? ⟨bm, 4, none⟩ = some (.slice ea (endsP a b s.ps q).length ec) := b6.cell 4 rfl
                    have zf6 := b6.frozen
                    clear o6 g6 n6 b6 D6
                    go_wp2_with fail
                    go_roundw
                    case rel => exact ⟨q + 1, _, by go_num, by omega, by show PD _ _ _ _ _ _ _ _ _ _; rw [HNX.out]; exact D7.out⟩
                    case measure => simp [intOf]; omega
                  · have t2 : hasB b.ends pp.2 = false := by simpa using t2
                    have KEY1 : Hid (∀ z, Calls Try.prog 18 #[.slice la.a3 a.ends.length la.c3, .int .i64 pp.1] (wr.drewN z) fun r w' => r = .returned (.bool true) ∧ w' = wr.drewN z) := fun z => by
                      have h0 := refHas_any la.a3 la.c3 a.ends pp.1 (wr.drewN z) ((ha.out.below (below_drewN HD.out.bel z) (Nat.le_refl _)).e) (Nat.le_trans ha.out.e1 ha.out.e2)
                      rw [t1] at h0
                      exact h0
                    have KEY2 : Hid (∀ z, Calls Try.prog 18 #[.slice lb.a3 b.ends.length lb.c3, .int .i64 pp.2] (wr.drewN z) fun r w' => r = .returned (.bool false) ∧ w' = wr.drewN z) := fun z => by
                      have h0 := refHas_any lb.a3 lb.c3 b.ends pp.2 (wr.drewN z) ((hb.out.below (below_drewN HD.out.bel z) (Nat.le_refl _)).e) (Nat.le_trans hb.out.e1 hb.out.e2)
                      rw [t2] at h0
                      exact h0
                    go_wp2_with fail
                    go_quiet (first | (go_at_call_of 18 (Value.slice la.a3 a.ends.length la.c3); exact Calls.quiet_of_same (KEY1.out _)) | (go_at_call_of 18 (Value.slice lb.a3 b.ends.length lb.c3); exact Calls.quiet_of_same (KEY2.out _)))
                    have HDd : Hid (PD w Y (wr.drewN nq) bm (s.ps.length : Int) a.ev (.slice s2a n0 s2c) (.slice aa (srtA s.ar).length ac) (.slice ea (endsP a b s.ps q).length ec) (endsP a b s.ps q)) := HD.out.drewNn nq
                    clear HD x4 y4 c1 c2 c3
                    revert HDd
                    generalize wr.drewN nq = U
                    intro HDd
                    have HNX : Hid (endsP a b s.ps (q + 1) = endsP a b s.ps q) := by
                      show _ = _
                      rw [HES.out, if_neg (by rw [t1, t2]; simp)]
                    go_wp2_with fail
                    go_roundw
                    case rel => exact ⟨q + 1, _, by go_num, by omega, by show PD _ _ _ _ _ _ _ _ _ _; rw [HNX.out]; exact HDd.out⟩
                    case measure => simp [intOf]; omega
                · have t1 : hasB a.ends pp.1 = false := by simpa using t1
                  have KEY1 : Hid (∀ z, Calls Try.prog 18 #[.slice la.a3 a.ends.length la.c3, .int .i64 pp.1] (wr.drewN z) fun r w' => r = .returned (.bool false) ∧ w' = wr.drewN z) := fun z => by
                    have h0 := refHas_any la.a3 la.c3 a.ends pp.1 (wr.drewN z) ((ha.out.below (below_drewN HD.out.bel z) (Nat.le_refl _)).e) (Nat.le_trans ha.out.e1 ha.out.e2)
                    rw [t1] at h0
                    exact h0
                  go_wp2_with fail
                  go_quiet (first | (go_at_call_of 18 (Value.slice la.a3 a.ends.length la.c3); exact Calls.quiet_of_same (KEY1.out _)))
                  have HDd : Hid (PD w Y (wr.drewN nq) bm (s.ps.length : Int) a.ev (.slice s2a n0 s2c) (.slice aa (srtA s.ar).length ac) (.slice ea (endsP a b s.ps q).length ec) (endsP a b s.ps q)) := HD.out.drewNn nq
                  clear HD x4 y4 c1 c2 c3
                  revert HDd
                  generalize wr.drewN nq = U
                  intro HDd
                  have HNX : Hid (endsP a b s.ps (q + 1) = endsP a b s.ps q) := by
                    show _ = _
                    rw [HES.out, if_neg (by rw [t1]; simp)]
                  go_wp2_with fail
                  go_roundw
                  case rel => exact ⟨q + 1, _, by go_num, by omega, by show PD _ _ _ _ _ _ _ _ _ _; rw [HNX.out]; exact HDd.out⟩
                  case measure => simp [intOf]; omega
              · have hqe : q = s.ps.length := by omega
                rw [hqe] at HD
                rw [hqe]
                have hqn : ¬ s.ps.length < s.ps.length := by omega
                clear hqe hqt hq
                have RW := Hid.of (KXW.out.blk R5.out (by have := lN4.out; omega))
                have o0 : wr.cell? ⟨bm, 0, none⟩ = some (.int .i64 (s.ps.length : Int)) := HD.out.blk.cell 0 rfl
                have o1 : wr.cell? ⟨bm, 1, none⟩ = some (.int .i64 a.ev) := HD.out.blk.cell 1 rfl
                have o2 : wr.cell? ⟨bm, 2, none⟩ = some (.slice s2a n0 s2c) := HD.out.blk.cell 2 rfl
                have o3 : wr.cell? ⟨bm, 3, none⟩ = some (.slice aa (srtA s.ar).length ac) := HD.out.blk.cell 3 rfl
                have o4 : wr.cell? ⟨bm, 4, none⟩ = some (.slice ea (endsP a b s.ps s.ps.length).length ec) := HD.out.blk.cell 4 rfl
                obtain ⟨r0, r1, r2, r3, r4⟩ := zcell_at RW.out
                have rz := RW.out.frozen
                have hne3 : ¬ bm = w.heap.size + 2 := by have := lN4.out; omega
                have hne4 : ¬ w.heap.size + 2 = bm := by have := lN4.out; omega
                have R1 := Hid.of (RW.out.set5 (.int .i64 (s.ps.length : Int)) (.int .i64 a.ev) (.slice s2a n0 s2c) (.slice aa (srtA s.ar).length ac) (.slice ea (endsP a b s.ps s.ps.length).length ec))
                have B1 := Hid.of (below_set5 HD.out.bel (b' := w.heap.size + 2) (by omega) (.int .i64 (s.ps.length : Int)) (.int .i64 a.ev) (.slice s2a n0 s2c) (.slice aa (srtA s.ar).length ac) (.slice ea (endsP a b s.ps s.ps.length).length ec))
                have KR : Hid (Kp (w.heap.size + 2) wr _) := Kp.set5 (.int .i64 (s.ps.length : Int)) (.int .i64 a.ev) (.slice s2a n0 s2c) (.slice aa (srtA s.ar).length ac) (.slice ea (endsP a b s.ps s.ps.length).length ec)
                have F1 := Hid.of ((SY.out.kp HD.out.kp BY.out (by decide)).kp KR.out RW.out (by decide))
                have F2 := Hid.of (((AY.out.apart BY.out).kp HD.out.kp).apart RW.out)
                have F3 := Hid.of ((OY.out.kp HD.out.kp BY.out (by decide) (by decide)).kp KR.out RW.out (by decide) (by decide))
                have F4 := Hid.of (HD.out.own.kp KR.out (show w.heap.size + 2 < Y.heap.size by have h1 := ZY.out; have h2 := lN4.out; omega))
                have HME : Hid (mcells (besideM a b s) ⟨s2a, s2c, aa, ac, ea, ec⟩ = #[.int .i64 (s.ps.length : Int), .int .i64 a.ev, .slice s2a n0 s2c, .slice aa (srtA s.ar).length ac, .slice ea (endsP a b s.ps s.ps.length).length ec]) := by
                  show _ = _
                  unfold besideM
                  simp only [mcells]
                  rw [rngI_len, ← HN0.out, if_neg HZ.out]
                go_wp2_with fail
                refine bodyPost_ret (v := .tuple #[mval (besideM a b s) ⟨s2a, s2c, aa, ac, ea, ec⟩, .slice pa s.ps.length pc, .int .i64 0]) ?_ rfl ?_
                · exact results_three (p := 8) (u := 9) (v := 10) rfl _ _ (w.heap.size + 2) (besideM a b s) ⟨s2a, s2c, aa, ac, ea, ec⟩ _ _ rfl rfl rfl (by rw [HME.out]; exact R1.out)
                · unfold BesGives
                  rw [HFIN.out]
                  obtain ⟨xa, xc, xe, xat, -⟩ := F1.out.at
                  rw [rngI_len] at xe
                  cases xe
                  obtain ⟨ya, yc, ye, yat, y1, y2, y3⟩ := F4.out.at2
                  cases ye
                  refine ⟨⟨s2a, s2c, aa, ac, ea, ec⟩, .slice pa s.ps.length pc, rfl, ⟨?_, F2.out.kp KR.out, yat, ?_, HV2.out.2.1, HV2.out.2.2, CA.out.1, CA.out.2.1, CA.out.2.2, y1, y2, y3⟩, F3.out.lower ?_, B1.out⟩
                  · show At _ _ (rngI (crossP a.starts b.starts).length)
                    rw [← HN0.out]; exact xat
                  · show (rngI (crossP a.starts b.starts).length).length ≤ s2c
                    rw [rngI_len, ← HN0.out]; exact HV2.out.1
                  · exact Nat.le_of_lt (Nat.lt_trans lA4.out z5.out)

end Go.Proofs.Ytdnglodemkeooaa
namespace Go.Proofs.Ytdnglodemkeooaa
open Go.RowKit

theorem beside_any (a b : Mach) (la lb : ML) (fa ga : Option Addr) (fc gc : Nat) (ofA ofB : List Int) (w : World) (ha : MAt w a la) (hb : MAt w b lb) (hA : At w fa ofA) (lA : ofA.length ≤ maxLen) (hB : At w ga ofB) (lB : ofB.length ≤ maxLen) :
    Calls Try.prog 6 #[mval a la, mval b lb, .slice fa ofA.length fc, .slice ga ofB.length gc] w fun e w' => BesAll w a b ofA ofB e w' := by
  unfold BesAll
  cases ma : mayB a with
  | false => simpa using bes_mayA a b la lb fa ga fc gc ofA ofB w (Hid.of ha) (Hid.of hb) (Hid.of hA) (Hid.of lA) (Hid.of hB) (Hid.of lB) (Hid.of ma)
  | true =>
    cases mb : mayB b with
    | false => simpa using bes_mayB a b la lb fa ga fc gc ofA ofB w (Hid.of ha) (Hid.of hb) (Hid.of hA) (Hid.of lA) (Hid.of hB) (Hid.of lB) (Hid.of ma) (Hid.of mb)
    | true =>
      by_cases ne : a.ev = b.ev
      · cases ra : rowB a.ev ofA with
        | false => simpa [ne] using bes_isA a b la lb fa ga fc gc ofA ofB w (Hid.of ha) (Hid.of hb) (Hid.of hA) (Hid.of lA) (Hid.of hB) (Hid.of lB) (Hid.of ma) (Hid.of mb) (Hid.of ne) (Hid.of ra)
        | true =>
          cases rb : rowB a.ev ofB with
          | false => simpa [ne] using bes_isB a b la lb fa ga fc gc ofA ofB w (Hid.of ha) (Hid.of hb) (Hid.of hA) (Hid.of lA) (Hid.of hB) (Hid.of lB) (Hid.of ma) (Hid.of mb) (Hid.of ne) (Hid.of ra) (Hid.of rb)
          | true => simpa [ne] using bes_ok a b la lb fa ga fc gc ofA ofB w (Hid.of ha) (Hid.of hb) (Hid.of hA) (Hid.of lA) (Hid.of hB) (Hid.of lB) (Hid.of ma) (Hid.of mb) (Hid.of ne) (Hid.of ra) (Hid.of rb)
      · simpa [ne] using bes_kind a b la lb fa ga fc gc ofA ofB w (Hid.of ha) (Hid.of hb) (Hid.of hA) (Hid.of lA) (Hid.of hB) (Hid.of lB) (Hid.of ma) (Hid.of mb) (Hid.of ne)

end Go.Proofs.Ytdnglodemkeooaa
namespace Go.Proofs.Ytdnglodemkeooaa
open Go.RowKit
set_option linter.unusedVariables false

theorem sameL_self (p : List (List Int)) : sameL p p = true := (sameL_iff p p).2 rfl

set_option maxRecDepth 100000 in
set_option maxHeartbeats 4000000 in
theorem btells_any (a b : Mach) (la lb : ML) (fa ga : Option Addr) (fc gc : Nat) (ofA ofB : List Int) (w : World) (ha : Hid (MAt w a la)) (hb : Hid (MAt w b lb)) (hA : Hid (At w fa ofA)) (lA : Hid (ofA.length ≤ fc ∧ fc ≤ maxLen)) (hB : Hid (At w ga ofB)) (lB : Hid (ofB.length ≤ gc ∧ gc ≤ maxLen)) :
    Calls Try.prog 3 #[mval a la, mval b lb, .slice fa ofA.length fc, .slice ga ofB.length gc] w fun e w' => e = .returned (.bool true) ∧ Below w.heap.size w w' := by
  have B0 : Hid (Below w.heap.size w ((w.alloc (.cells (mcells a la) 25)).alloc (.cells (mcells b lb) 25))) := ((Below.refl _ _).alloc (Nat.le_refl _) _).alloc (by simp) _
  have KA0 : Hid (Blk ((w.alloc (.cells (mcells a la) 25)).alloc (.cells (mcells b lb) 25)) w.heap.size 25 (mcells a la)) := (Blk.new w _ _).alloc _
  have KB0 : Hid (Blk ((w.alloc (.cells (mcells a la) 25)).alloc (.cells (mcells b lb) 25)) (w.heap.size + 1) 25 (mcells b lb)) := by
    have := Blk.new (w.alloc (.cells (mcells a la) 25)) 25 (mcells b lb)
    rwa [World.size_alloc] at this
  go_enter Try.func3, Try.ntmps3
  go_wp2_with fail
  refine (great_any a la _).mono ?_
  rintro e w1 ⟨⟨bb, rfl⟩, hb1⟩
  have B1 := Hid.of (B0.out.trans (hb1.mono B0.out.size))
  have KA1 := Hid.of (KA0.out.below hb1 KA0.out.lt)
  have KB1 := Hid.of (KB0.out.below hb1 KB0.out.lt)
  clear hb1 B0 KA0 KB0
  obtain ⟨y0, y1, y2, y3, y4⟩ := mcell_at KB1.out
  cases bb with
  | true =>
    go_wp2_with fail
    go_ret
    exact ⟨rfl, B1.out⟩
  | false =>
    go_wp2_with fail
    refine (great_any b lb _).mono ?_
    rintro e w2 ⟨⟨bb, rfl⟩, hb2⟩
    have B2 := Hid.of (B1.out.trans (hb2.mono B1.out.size))
    have KA2 := Hid.of (KA1.out.below hb2 KA1.out.lt)
    have KB2 := Hid.of (KB1.out.below hb2 KB1.out.lt)
    clear hb2 B1 KA1 KB1 y0 y1 y2 y3 y4
    obtain ⟨x0, x1, x2, x3, x4⟩ := mcell_at KA2.out
    obtain ⟨y0, y1, y2, y3, y4⟩ := mcell_at KB2.out
    cases bb with
    | true =>
      go_wp2_with fail
      go_ret
      exact ⟨rfl, B2.out⟩
    | false =>
      go_wp2_with fail
      refine (pBeside_any a b la lb fa ga fc gc ofA ofB _ (ha.out.below B2.out (Nat.le_refl _)) (hb.out.below B2.out (Nat.le_refl _)) (hA.out.below B2.out (Nat.le_refl _)) lA.out (hB.out.below B2.out (Nat.le_refl _)) lB.out).mono ?_
      intro e w3 h3
      obtain ⟨L, va, vc, rfl, mt3, at3, hb3, ln3⟩ := besAll_out h3
      clear h3
      obtain ⟨M, LL, c, HR⟩ : ∃ M LL c, Hid (besOut a b ofA ofB = (M, LL, c)) := ⟨_, _, _, rfl⟩
      rw [HR.out] at mt3 at3 ln3 ⊢
      dsimp only at mt3 at3 ln3 ⊢
      have LN := Hid.of ln3
      have B3 := Hid.of (B2.out.trans (hb3.mono B2.out.size))
      have b4 : Below w3.heap.size w3 (w3.alloc (.cells (mcells M L) 25)) := (Below.refl _ _).alloc (Nat.le_refl _) _
      have B4 := Hid.of (B3.out.trans (b4.mono B3.out.size))
      have KA4 := Hid.of ((KA2.out.below hb3 KA2.out.lt).below b4 (KA2.out.below hb3 KA2.out.lt).lt)
      have KB4 := Hid.of ((KB2.out.below hb3 KB2.out.lt).below b4 (KB2.out.below hb3 KB2.out.lt).lt)
      have N4 := Hid.of (Blk.new w3 25 (mcells M L))
      have MT4 := Hid.of (mt3.below b4 (Nat.le_refl _))
      have AT4 := Hid.of (at3.below b4 (Nat.le_refl _))
      clear hb3 b4 mt3 at3 ln3 x0 x1 x2 x3 x4 y0 y1 y2 y3 y4 B2 KA2 KB2 B3
      obtain ⟨x0, x1, x2, x3, x4⟩ := mcell_at KA4.out
      obtain ⟨y0, y1, y2, y3, y4⟩ := mcell_at KB4.out
      go_wp2_with fail
      revert B4 KA4 KB4 N4 MT4 AT4
      show Hid (Below w.heap.size w (w3.alloc (.cells #[.int .i64 M.st, .int .i64 M.ev, .slice L.a1 M.starts.length L.c1, .slice L.a2 M.arrows.length L.c2, .slice L.a3 M.ends.length L.c3] 25))) → _
      generalize w3.alloc (.cells #[.int .i64 M.st, .int .i64 M.ev, .slice L.a1 M.starts.length L.c1, .slice L.a2 M.arrows.length L.c2, .slice L.a3 M.ends.length L.c3] 25) = w4
      intro B4 KA4 KB4 N4 MT4 AT4
      refine (beside_any a b la lb fa ga fc gc ofA ofB _ (ha.out.below B4.out (Nat.le_refl _)) (hb.out.below B4.out (Nat.le_refl _)) (hA.out.below B4.out (Nat.le_refl _)) (Nat.le_trans lA.out.1 lA.out.2) (hB.out.below B4.out (Nat.le_refl _)) (Nat.le_trans lB.out.1 lB.out.2)).mono ?_
      intro e w5 h5
      obtain ⟨L', va', vc', rfl, mt5, at5, hb5, -⟩ := besAll_out h5
      clear h5
      rw [HR.out] at mt5 at5 ⊢
      dsimp only at mt5 at5 ⊢
      have B5 := Hid.of (B4.out.trans (hb5.mono B4.out.size))
      have b6 : Below w5.heap.size w5 (w5.alloc (.cells (mcells M L') 25)) := (Below.refl _ _).alloc (Nat.le_refl _) _
      have B6 := Hid.of (B5.out.trans (b6.mono B5.out.size))
      have N6 := Hid.of ((N4.out.below hb5 N4.out.lt).below b6 (N4.out.below hb5 N4.out.lt).lt)
      have P6 := Hid.of (Blk.new w5 25 (mcells M L'))
      have MT6 := Hid.of ((MT4.out.below hb5 (Nat.le_refl _)).below b6 (Nat.le_refl _))
      have MU6 := Hid.of (mt5.below b6 (Nat.le_refl _))
      have AT6 := Hid.of ((AT4.out.below hb5 (Nat.le_refl _)).below b6 (Nat.le_refl _))
      have AU6 := Hid.of (at5.below b6 (Nat.le_refl _))
      clear hb5 b6 mt5 at5 B4 KA4 KB4 N4 MT4 AT4 B5
      try clear x0 x1 x2 x3 x4
      try clear y0 y1 y2 y3 y4
      obtain ⟨x0, x1, x2, x3, x4⟩ := mcell_at N6.out
      obtain ⟨y0, y1, y2, y3, y4⟩ := mcell_at P6.out
      go_wp2_with fail
      revert B6 N6 P6 MT6 MU6 AT6 AU6
      show Hid (Below w.heap.size w (w5.alloc (.cells #[.int .i64 M.st, .int .i64 M.ev, .slice L'.a1 M.starts.length L'.c1, .slice L'.a2 M.arrows.length L'.c2, .slice L'.a3 M.ends.length L'.c3] 25))) → _
      generalize w5.alloc (.cells #[.int .i64 M.st, .int .i64 M.ev, .slice L'.a1 M.starts.length L'.c1, .slice L'.a2 M.arrows.length L'.c2, .slice L'.a3 M.ends.length L'.c3] 25) = w6
      intro B6 N6 P6 MT6 MU6 AT6 AU6
      refine (machines_any M M L L' _ MT6.out MU6.out).mono ?_
      rintro e w7 ⟨rfl, hb7⟩
      rw [sameM_self]
      have B7 := Hid.of (B6.out.trans (hb7.mono B6.out.size))
      have AT7 := Hid.of (AT6.out.below hb7 (Nat.le_refl _))
      have AU7 := Hid.of (AU6.out.below hb7 (Nat.le_refl _))
      clear hb7 B6 N6 P6 MT6 MU6 AT6 AU6
      try clear x0 x1 x2 x3 x4
      try clear y0 y1 y2 y3 y4
      go_wp2_with fail
      refine (rows_any va va' vc vc' LL LL _ AT7.out AU7.out LN.out LN.out).mono ?_
      rintro e w8 ⟨rfl, q, rfl⟩
      rw [sameL_self]
      go_wp2_with fail
      go_ret
      exact ⟨rfl, below_drewN B7.out q⟩

end Go.Proofs.Ytdnglodemkeooaa
