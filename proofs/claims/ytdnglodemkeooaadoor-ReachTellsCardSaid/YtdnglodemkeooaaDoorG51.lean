/-
  The walk of reach.Trim.
  The walk of the law ReachTells.
-/
import Derived.Test.YtdnglodemkeooaaDoorCPart
import Derived.Test.YtdnglodemkeooaaDoorG49
import Derived.Test.YtdnglodemkeooaaDoorG07
import Derived.Test.YtdnglodemkeooaaDoorG28
import Derived.Test.YtdnglodemkeooaaDoorG50
import Derived.Test.YtdnglodemkeooaaDoorG22
namespace Go.Proofs.YtdnglodemkeooaaDoor
open Go.RowKit
set_option linter.unusedVariables false

theorem part_any (m : Mach) (l : ML) (ta : Option Addr) (tc : Nat) (w : World) (hm : mayB m = true) (h : MAt w m l) (hat : At w ta (trimL m)) :
    Calls Tryd.prog 58 #[mval m l, .slice ta (trimL m).length tc] w fun e w' => ∃ L, e = .returned (mval (trimM m) L) ∧ MAt w' (trimM m) L ∧ FrM w.heap.size (trimM m) L ∧ Below w.heap.size w w' := by
  have hz := mayB_size hm
  unfold sizeOk at hz
  have hl := trim_le hm
  obtain ⟨M, hM⟩ : ∃ M : Int, (if ((trimL m).length : Int) < 1 then (1 : Int) else ((trimL m).length : Int)) = M := ⟨_, rfl⟩
  have e : partM m (trimL m) M = trimM m := by
    unfold partM trimM
    rw [srt_trimA hm, ← hM]
    by_cases c : (trimL m).length = 0
    · rw [if_pos c, if_pos (by omega)]
    · rw [if_neg c, if_neg (by omega)]
  rw [← e]
  exact part_go m l ta tc (trimL m) w hm h hat (inc_trim m) (by omega) M hM

set_option maxRecDepth 100000 in
set_option maxHeartbeats 1000000 in
theorem pTrim_err (m : Mach) (l : ML) (w : World) (h : MAt w m l) (hm : mayB m = false) :
    Calls Tryd.prog 28 #[mval m l] w fun e w' => e = .returned (.tuple #[mval m0 ml0, .slice none 0 0, .int .i64 2]) ∧ Below w.heap.size w w' := by
  have B0 : Hid (Below w.heap.size w ((w.alloc (.cells (mcells m l) 25)).alloc (.cells zcells 25))) := ((Below.refl _ _).alloc (Nat.le_refl _) _).alloc (by simp) _
  have h' := Hid.of (h.below B0.out (Nat.le_refl _))
  have R0 : Hid (Blk ((w.alloc (.cells (mcells m l) 25)).alloc (.cells zcells 25)) (w.heap.size + 1) 25 zcells) := by
    have := Blk.new (w.alloc (.cells (mcells m l) 25)) 25 zcells
    rwa [World.size_alloc] at this
  clear h
  go_enter Tryd.func28, Tryd.ntmps28
  go_wp2_with fail
  refine (pMay_any m l _ h'.out).mono ?_
  rintro e w1 ⟨rfl, hb1⟩
  have HB := Hid.of (B0.out.trans (hb1.mono B0.out.size))
  have R1 := Hid.of (R0.out.below hb1 R0.out.lt)
  obtain ⟨r0, r1, r2, r3, r4⟩ := zcell_at R1.out
  have rz := R1.out.frozen
  have R2 : Hid (Blk _ (w.heap.size + 1) 25 (mcells m0 ml0)) := R1.out.set5 (.int .i64 0) (.int .i64 0) (.slice none 0 0) (.slice none 0 0) (.slice none 0 0)
  clear hb1
  rw [hm]
  go_wp2_with fail
  refine bodyPost_ret (v := .tuple #[mval m0 ml0, .slice none 0 0, .int .i64 2]) ?_ rfl ⟨rfl, below_set5 HB.out (b' := w.heap.size + 1) (by omega) _ _ _ _ _⟩
  exact results_three (p := 2) (u := 3) (v := 4) rfl _ _ (w.heap.size + 1) m0 ml0 _ _ rfl rfl rfl R2.out

/-- What Trim leaves where the machine may be. -/
def PTrimGives (w : World) (m : Mach) (e : Ending) (w' : World) : Prop := ∃ (L : ML) (ba : Option Addr) (bc : Nat), e = .returned (.tuple #[mval (trimM m) L, .slice ba (trimL m).length bc, .int .i64 0]) ∧ MAt w' (trimM m) L ∧ At w' ba (trimL m) ∧ (trimL m).length ≤ maxLen ∧ Below w.heap.size w w'

set_option maxRecDepth 100000 in
set_option maxHeartbeats 4000000 in
theorem pTrim_ok (m : Mach) (l : ML) (w : World) (h : MAt w m l) (hm : mayB m = true) (hT : Tab w) :
    Calls Tryd.prog 28 #[mval m l] w fun e w' => PTrimGives w m e w' := by
  have B0 : Hid (Below w.heap.size w ((w.alloc (.cells (mcells m l) 25)).alloc (.cells zcells 25))) := ((Below.refl _ _).alloc (Nat.le_refl _) _).alloc (by simp) _
  have h' := Hid.of (h.below B0.out (Nat.le_refl _))
  have K0 : Hid (Blk ((w.alloc (.cells (mcells m l) 25)).alloc (.cells zcells 25)) w.heap.size 25 (mcells m l)) := (Blk.new w _ _).alloc _
  have R0 : Hid (Blk ((w.alloc (.cells (mcells m l) 25)).alloc (.cells zcells 25)) (w.heap.size + 1) 25 zcells) := by
    have := Blk.new (w.alloc (.cells (mcells m l) 25)) 25 zcells
    rwa [World.size_alloc] at this
  have HT := Hid.of hT
  have HM := Hid.of h
  clear h hT
  go_enter Tryd.func28, Tryd.ntmps28
  go_wp2_with fail
  refine (pMay_any m l _ h'.out).mono ?_
  rintro e V ⟨rfl, hb1⟩
  have HB := Hid.of (B0.out.trans (hb1.mono B0.out.size))
  have K1 := Hid.of (K0.out.below hb1 K0.out.lt)
  have R1 := Hid.of (R0.out.below hb1 R0.out.lt)
  obtain ⟨x0, x1, x2, x3, x4⟩ := mcell_at K1.out
  clear hb1 K0 R0 B0 h'
  rw [hm]
  go_wp2_with fail
  have KEY1 : Hid (∀ W, Below V.heap.size V W → Calls Tryd.prog 55 #[mval m l] W fun e w' => RchGives W (·.f) (·.t) m.arrows m.starts e w') := fun W hW => reached_any m l W hm (HM.out.below (HB.out.trans (hW.mono HB.out.size)) (Nat.le_refl _)) (HT.out.below (HB.out.trans (hW.mono HB.out.size)) HT.out.lt)
  have KEY2 : Hid (∀ W, Below V.heap.size V W → Calls Tryd.prog 56 #[mval m l] W fun e w' => RchGives W (·.t) (·.f) m.arrows m.ends e w') := fun W hW => alive_any m l W hm (HM.out.below (HB.out.trans (hW.mono HB.out.size)) (Nat.le_refl _)) (HT.out.below (HB.out.trans (hW.mono HB.out.size)) HT.out.lt)
  refine Code.wp_mono (Q := regQ fun a' W' => ∃ (F G : Nat → Nat) (ba : Option Addr) (bc : Nat), a' = { tmps := #[mval m l, .pointer (some ⟨w.heap.size, 0, none⟩), .pointer (some ⟨w.heap.size + 1, 0, none⟩), .slice none 0 0, .int .i64 0, .slice ba (trimL m).length bc, mval m l, .bool true, .bool false, undef, mval m l, sval F, mval m l, sval G, sval (meetS F G), .slice ba (trimL m).length bc, undef, undef, undef, undef], defers := [] } ∧ Hid (At W' ba (trimL m)) ∧ Hid ((trimL m).length ≤ maxLen) ∧ Hid (trimL m = [] ∨ ∃ b off, ba = some ⟨b, off, none⟩ ∧ V.heap.size ≤ b) ∧ Hid (Below V.heap.size V W')) ?aft ?reg
  case reg =>
    go_region_held3 (fun w' => w'.cell? ⟨w.heap.size, 0, none⟩ = some (.int .i64 m.st) ∧ w'.cell? ⟨w.heap.size, 1, none⟩ = some (.int .i64 m.ev) ∧ w'.cell? ⟨w.heap.size, 2, none⟩ = some (.slice l.a1 m.starts.length l.c1) ∧ w'.cell? ⟨w.heap.size, 3, none⟩ = some (.slice l.a2 m.arrows.length l.c2) ∧ w'.cell? ⟨w.heap.size, 4, none⟩ = some (.slice l.a3 m.ends.length l.c3)) (go_keep) (first | (go_at_call 55; refine (KEY1.out _ ((Below.refl _ V).drew)).mono ?_; rintro e wA ⟨F, hF, rfl, hrF, hbA⟩; have GA : Hid (Below V.heap.size V wA) := ((Below.refl _ V).drew).trans hbA; have HF := Hid.of hF; have RF := Hid.of (row_reach hm hrF); obtain ⟨y0, y1, y2, y3, y4⟩ := mcell_at (K1.out.below GA.out K1.out.lt); clear hbA hF hrF) | (go_at_call 56; refine (KEY2.out _ GA.out).mono ?_; rintro e wL ⟨G, hG, rfl, hrG, hbL⟩; have GL : Hid (Below V.heap.size V wL) := GA.out.trans (hbL.mono GA.out.size); have HG := Hid.of hG; have RG := Hid.of (row_live hm hrG); obtain ⟨z0, z1, z2, z3, z4⟩ := mcell_at (K1.out.below GL.out K1.out.lt); clear hbL hG hrG) | (go_at_call 57; refine (meet_any F G _ HF.out HG.out).mono ?_; rintro e wM ⟨rfl, hbM⟩; have GM : Hid (Below V.heap.size V wM) := GL.out.trans (hbM.mono GL.out.size); obtain ⟨g0, g1, g2, g3, g4⟩ := mcell_at (K1.out.below GM.out K1.out.lt); clear hbM) | (go_at_call 50; refine (rowO_any (meetS F G) _ (okS_meet HF.out) (HT.out.below (HB.out.trans (GM.out.mono HB.out.size)) HT.out.lt)).mono ?_; rintro e wR ⟨v, rfl, own, hbR⟩; rw [row_trim RF.out RG.out] at own; obtain ⟨ba, bc, rfl, hat, c1, c2, c3⟩ := own.at2; have HFR := Hid.of (fr_mono own.fr GM.out.size); have hln := Nat.le_trans c1 c2; have GR : Hid (Below V.heap.size V wR) := GM.out.trans (hbR.mono GM.out.size); have HA := Hid.of hat; have HLN := Hid.of hln; obtain ⟨q0, q1, q2, q3, q4⟩ := mcell_at (K1.out.below GR.out K1.out.lt); clear hbR hat hln own c1 c2 c3))
    all_goals exact ⟨F, G, ba, bc, rfl, HA, HLN, HFR, GR⟩
  case aft =>
    clear x0 x1 x2 x3 x4 KEY1 KEY2
    refine regQ_imp ?_
    rintro a' X ⟨F, G, ba, bc, rfl, HA, HLN, HFR, HX⟩
    obtain ⟨x0, x1, x2, x3, x4⟩ := mcell_at (K1.out.below HX.out K1.out.lt)
    have HBX := Hid.of (HB.out.trans (HX.out.mono HB.out.size))
    have RX := Hid.of (R1.out.below HX.out R1.out.lt)
    go_wp2_with fail
    refine (part_any m l ba bc _ hm (HM.out.below HBX.out (Nat.le_refl _)) HA.out).mono ?_
    rintro e w2 ⟨L, rfl, hML, hFM, hb2⟩
    have HB2 := Hid.of (HBX.out.trans (hb2.mono HBX.out.size))
    have R2 := Hid.of (RX.out.below hb2 RX.out.lt)
    have A2 := Hid.of (HA.out.below hb2 (Nat.le_refl _))
    have HML := Hid.of hML
    obtain ⟨r0, r1, r2, r3, r4⟩ := zcell_at R2.out
    have rz := R2.out.frozen
    have HFM := Hid.of hFM
    have lR := Hid.of RX.out.lt
    have lV := Hid.of R1.out.lt
    have R3 := Hid.of (R2.out.set5 (.int .i64 (trimM m).st) (.int .i64 (trimM m).ev) (.slice L.a1 (trimM m).starts.length L.c1) (.slice L.a2 (trimM m).arrows.length L.c2) (.slice L.a3 (trimM m).ends.length L.c3))
    have B3 := Hid.of (below_set5 HB2.out (b' := w.heap.size + 1) (by omega) (.int .i64 (trimM m).st) (.int .i64 (trimM m).ev) (.slice L.a1 (trimM m).starts.length L.c1) (.slice L.a2 (trimM m).arrows.length L.c2) (.slice L.a3 (trimM m).ends.length L.c3))
    have M3 := Hid.of (HML.out.set5 (b := w.heap.size + 1) HFM.out lR.out (.int .i64 (trimM m).st) (.int .i64 (trimM m).ev) (.slice L.a1 (trimM m).starts.length L.c1) (.slice L.a2 (trimM m).arrows.length L.c2) (.slice L.a3 (trimM m).ends.length L.c3))
    have A3 := Hid.of (A2.out.set5 (b := w.heap.size + 1) HFR.out lV.out (.int .i64 (trimM m).st) (.int .i64 (trimM m).ev) (.slice L.a1 (trimM m).starts.length L.c1) (.slice L.a2 (trimM m).arrows.length L.c2) (.slice L.a3 (trimM m).ends.length L.c3))
    clear hb2 hML hFM x0 x1 x2 x3 x4
    go_wp2_with fail
    refine bodyPost_ret (v := .tuple #[mval (trimM m) L, .slice ba (trimL m).length bc, .int .i64 0]) ?_ rfl ⟨L, ba, bc, rfl, M3.out, A3.out, HLN.out, B3.out⟩
    exact results_three (p := 2) (u := 3) (v := 4) rfl _ _ (w.heap.size + 1) (trimM m) L _ _ rfl rfl rfl R3.out

end Go.Proofs.YtdnglodemkeooaaDoor
namespace Go.Proofs.YtdnglodemkeooaaDoor
open Go.RowKit
set_option linter.unusedVariables false

set_option maxRecDepth 100000 in
set_option maxHeartbeats 4000000 in
theorem rtells_no (m : Mach) (l : ML) (w : World) (h : Hid (MAt w m l)) (hm : Hid (mayB m = false)) :
    Calls Tryd.prog 5 #[mval m l] w fun e w' => e = .returned (.bool true) ∧ Below w.heap.size w w' := by
  have B0 : Hid (Below w.heap.size w (w.alloc (.cells (mcells m l) 25))) := (Below.refl _ _).alloc (Nat.le_refl _) _
  have K0 := Hid.of (Blk.new w 25 (mcells m l))
  go_enter Tryd.func5, Tryd.ntmps5
  go_wp2_with fail
  refine (great_any m l _).mono ?_
  rintro e w1 ⟨⟨bb, rfl⟩, hb⟩
  have B1 := Hid.of (B0.out.trans (hb.mono B0.out.size))
  have K1 := Hid.of (K0.out.below hb K0.out.lt)
  obtain ⟨x0, x1, x2, x3, x4⟩ := mcell_at K1.out
  clear hb
  cases bb with
  | true =>
    go_wp2_with fail
    go_ret
    exact ⟨rfl, B1.out⟩
  | false =>
    go_wp2_with fail
    refine (pReach_err m l _ (h.out.below B1.out (Nat.le_refl _)) hm.out).mono ?_
    rintro e w2 ⟨rfl, hb⟩
    have B2 := Hid.of (B1.out.trans (hb.mono B1.out.size))
    have K2 := Hid.of (K1.out.below hb K1.out.lt)
    clear hb x0 x1 x2 x3 x4
    obtain ⟨x0, x1, x2, x3, x4⟩ := mcell_at K2.out
    go_wp2_with fail
    refine (pLive_err m l _ (h.out.below B2.out (Nat.le_refl _)) hm.out).mono ?_
    rintro e w3 ⟨rfl, hb⟩
    have B3 := Hid.of (B2.out.trans (hb.mono B2.out.size))
    have K3 := Hid.of (K2.out.below hb K2.out.lt)
    clear hb x0 x1 x2 x3 x4
    obtain ⟨x0, x1, x2, x3, x4⟩ := mcell_at K3.out
    go_wp2_with fail
    refine (pTrim_err m l _ (h.out.below B3.out (Nat.le_refl _)) hm.out).mono ?_
    rintro e w4 ⟨rfl, hb⟩
    have B4 := Hid.of (B3.out.trans (hb.mono B3.out.size))
    have K4 := Hid.of (K3.out.below hb K3.out.lt)
    have B5 : Hid (Below w.heap.size w (w4.alloc (.cells (mcells m0 ml0) 25))) := B4.out.alloc B4.out.size _
    have N5 := Hid.of (Blk.new w4 25 (mcells m0 ml0))
    have kl := K4.out.lt
    clear hb x0 x1 x2 x3 x4
    obtain ⟨x0, x1, x2, x3, x4⟩ := mcell_at K4.out
    go_wp2_with fail
    refine (refMay_any m l _ (h.out.below B5.out (Nat.le_refl _))).mono ?_
    rintro e w6 ⟨rfl, hb⟩
    have B6 := Hid.of (B5.out.trans (hb.mono B5.out.size))
    have N6 := Hid.of (N5.out.below hb N5.out.lt)
    clear hb x0 x1 x2 x3 x4
    rw [hm.out]
    obtain ⟨n0, n1, n2, n3, n4⟩ := zcell_at N6.out
    go_wp2_with fail
    refine (machines_any m0 m0 ml0 ml0 _ (mat0 _) (mat0 _)).mono ?_
    rintro e w7 ⟨rfl, hb⟩
    have B7 := Hid.of (B6.out.trans (hb.mono B6.out.size))
    clear hb
    rw [sameM_self]
    go_wp2_with fail
    go_ret
    exact ⟨rfl, B7.out⟩

set_option maxRecDepth 100000 in
set_option maxHeartbeats 4000000 in
theorem rtells_yes (m : Mach) (l : ML) (w : World) (hT : Hid (Tab w)) (h : Hid (MAt w m l)) (hm : Hid (mayB m = true)) :
    Calls Tryd.prog 5 #[mval m l] w fun e w' => e = .returned (.bool true) ∧ Below w.heap.size w w' := by
  have B0 : Hid (Below w.heap.size w (w.alloc (.cells (mcells m l) 25))) := (Below.refl _ _).alloc (Nat.le_refl _) _
  have K0 := Hid.of (Blk.new w 25 (mcells m l))
  go_enter Tryd.func5, Tryd.ntmps5
  go_wp2_with fail
  refine (great_any m l _).mono ?_
  rintro e w1 ⟨⟨bb, rfl⟩, hb⟩
  have B1 := Hid.of (B0.out.trans (hb.mono B0.out.size))
  have K1 := Hid.of (K0.out.below hb K0.out.lt)
  obtain ⟨x0, x1, x2, x3, x4⟩ := mcell_at K1.out
  clear hb
  cases bb with
  | true =>
    go_wp2_with fail
    go_ret
    exact ⟨rfl, B1.out⟩
  | false =>
    go_wp2_with fail
    refine (pReach_ok m l _ (h.out.below B1.out (Nat.le_refl _)) hm.out (hT.out.below B1.out hT.out.lt)).mono ?_
    rintro e w2 ⟨ra, rc, rfl, at2, ln2, hb⟩
    have LR := Hid.of ln2
    have AR2 := Hid.of at2
    clear at2 ln2
    have B2 := Hid.of (B1.out.trans (hb.mono B1.out.size))
    have K2 := Hid.of (K1.out.below hb K1.out.lt)
    clear hb x0 x1 x2 x3 x4
    obtain ⟨x0, x1, x2, x3, x4⟩ := mcell_at K2.out
    go_wp2_with fail
    refine (pLive_ok m l _ (h.out.below B2.out (Nat.le_refl _)) hm.out (hT.out.below B2.out hT.out.lt)).mono ?_
    rintro e w3 ⟨va, vc, rfl, at3, ln3, hb⟩
    have LV := Hid.of ln3
    have AV3 := Hid.of at3
    have AR3 := Hid.of (AR2.out.below hb (Nat.le_refl _))
    clear at3 ln3 AR2
    have B3 := Hid.of (B2.out.trans (hb.mono B2.out.size))
    have K3 := Hid.of (K2.out.below hb K2.out.lt)
    clear hb x0 x1 x2 x3 x4
    obtain ⟨x0, x1, x2, x3, x4⟩ := mcell_at K3.out
    go_wp2_with fail
    refine (pTrim_ok m l _ (h.out.below B3.out (Nat.le_refl _)) hm.out (hT.out.below B3.out hT.out.lt)).mono ?_
    rintro e w4 ⟨L, ba, bc, rfl, mt4, at4, ln4, hb⟩
    have LB := Hid.of ln4
    have B4 := Hid.of (B3.out.trans (hb.mono B3.out.size))
    have K4 := Hid.of (K3.out.below hb K3.out.lt)
    have kl := K4.out.lt
    have b5 : Below w4.heap.size w4 (w4.alloc (.cells (mcells (trimM m) L) 25)) := (Below.refl _ _).alloc (Nat.le_refl _) _
    have B5 := Hid.of (B4.out.trans (b5.mono B4.out.size))
    have K5 := Hid.of (K4.out.below b5 K4.out.lt)
    have N5 := Hid.of (Blk.new w4 25 (mcells (trimM m) L))
    have AB5 := Hid.of (at4.below b5 (Nat.le_refl _))
    have MT5 := Hid.of (mt4.below b5 (Nat.le_refl _))
    have AV5 := Hid.of ((AV3.out.below hb (Nat.le_refl _)).below b5 (Nat.le_refl _))
    have AR5 := Hid.of ((AR3.out.below hb (Nat.le_refl _)).below b5 (Nat.le_refl _))
    clear hb x0 x1 x2 x3 x4 b5 at4 mt4 ln4 AV3 AR3
    obtain ⟨x0, x1, x2, x3, x4⟩ := mcell_at K4.out
    go_wp2_with fail
    revert B5 K5 N5 AB5 MT5 AV5 AR5
    show Hid (Below w.heap.size w (w4.alloc (.cells #[.int .i64 (trimM m).st, .int .i64 (trimM m).ev, .slice L.a1 (trimM m).starts.length L.c1, .slice L.a2 (trimM m).arrows.length L.c2, .slice L.a3 (trimM m).ends.length L.c3] 25))) → _
    generalize w4.alloc (.cells #[.int .i64 (trimM m).st, .int .i64 (trimM m).ev, .slice L.a1 (trimM m).starts.length L.c1, .slice L.a2 (trimM m).arrows.length L.c2, .slice L.a3 (trimM m).ends.length L.c3] 25) = w5
    intro B5 K5 N5 AB5 MT5 AV5 AR5
    refine (refMay_any m l _ (h.out.below B5.out (Nat.le_refl _))).mono ?_
    rintro e w6 ⟨rfl, hb⟩
    have B6 := Hid.of (B5.out.trans (hb.mono B5.out.size))
    have K6 := Hid.of (K5.out.below hb K5.out.lt)
    have N6 := Hid.of (N5.out.below hb N5.out.lt)
    have AB6 := Hid.of (AB5.out.below hb (Nat.le_refl _))
    have MT6 := Hid.of (MT5.out.below hb (Nat.le_refl _))
    have AV6 := Hid.of (AV5.out.below hb (Nat.le_refl _))
    have AR6 := Hid.of (AR5.out.below hb (Nat.le_refl _))
    clear hb N5 AB5 MT5 AV5 AR5
    try clear x0 x1 x2 x3 x4
    obtain ⟨x0, x1, x2, x3, x4⟩ := mcell_at K6.out
    rw [hm.out]
    go_wp2_with fail
    refine (refReach_any m l _ hm.out (h.out.below B6.out (Nat.le_refl _))).mono ?_
    rintro e w7 ⟨xa, xc, rfl, at7, ln7, hb⟩
    have AX7 := Hid.of at7
    have LX := Hid.of ln7
    clear at7 ln7
    have B7 := Hid.of (B6.out.trans (hb.mono B6.out.size))
    have K7 := Hid.of (K6.out.below hb K6.out.lt)
    have N7 := Hid.of (N6.out.below hb N6.out.lt)
    have AB7 := Hid.of (AB6.out.below hb (Nat.le_refl _))
    have MT7 := Hid.of (MT6.out.below hb (Nat.le_refl _))
    have AV7 := Hid.of (AV6.out.below hb (Nat.le_refl _))
    have AR7 := Hid.of (AR6.out.below hb (Nat.le_refl _))
    clear hb N6 AB6 MT6 AV6 AR6
    try clear x0 x1 x2 x3 x4
    obtain ⟨x0, x1, x2, x3, x4⟩ := mcell_at K7.out
    go_wp2_with fail
    refine (refLive_any m l _ hm.out (h.out.below B7.out (Nat.le_refl _))).mono ?_
    rintro e w8 ⟨ya, yc, rfl, at8, ln8, hb⟩
    have AY8 := Hid.of at8
    have LY := Hid.of ln8
    clear at8 ln8
    have B8 := Hid.of (B7.out.trans (hb.mono B7.out.size))
    have K8 := Hid.of (K7.out.below hb K7.out.lt)
    have N8 := Hid.of (N7.out.below hb N7.out.lt)
    have AB8 := Hid.of (AB7.out.below hb (Nat.le_refl _))
    have MT8 := Hid.of (MT7.out.below hb (Nat.le_refl _))
    have AV8 := Hid.of (AV7.out.below hb (Nat.le_refl _))
    have AR8 := Hid.of (AR7.out.below hb (Nat.le_refl _))
    have AX8 := Hid.of (AX7.out.below hb (Nat.le_refl _))
    clear hb N7 AB7 MT7 AV7 AR7 AX7
    try clear x0 x1 x2 x3 x4
    obtain ⟨x0, x1, x2, x3, x4⟩ := mcell_at K8.out
    go_wp2_with fail
    refine (refTrim_any m l _ hm.out (h.out.below B8.out (Nat.le_refl _))).mono ?_
    rintro e w9 ⟨L2, ka, kc, rfl, mt9, at9, ln9, hb⟩
    have AK9 := Hid.of at9
    have LK := Hid.of ln9
    have MU9 := Hid.of mt9
    clear at9 ln9 mt9
    have B9 := Hid.of (B8.out.trans (hb.mono B8.out.size))
    have K9 := Hid.of (K8.out.below hb K8.out.lt)
    have N9 := Hid.of (N8.out.below hb N8.out.lt)
    have AB9 := Hid.of (AB8.out.below hb (Nat.le_refl _))
    have MT9 := Hid.of (MT8.out.below hb (Nat.le_refl _))
    have AV9 := Hid.of (AV8.out.below hb (Nat.le_refl _))
    have AR9 := Hid.of (AR8.out.below hb (Nat.le_refl _))
    have AX9 := Hid.of (AX8.out.below hb (Nat.le_refl _))
    have AY9 := Hid.of (AY8.out.below hb (Nat.le_refl _))
    clear hb N8 AB8 MT8 AV8 AR8 AX8 AY8
    clear x0 x1 x2 x3 x4
    have kl9 := N9.out.lt
    have hb : Below w9.heap.size w9 (w9.alloc (.cells (mcells (trimM m) L2) 25)) := (Below.refl _ _).alloc (Nat.le_refl _) _
    have B10 := Hid.of (B9.out.trans (hb.mono B9.out.size))
    have K10 := Hid.of (K9.out.below hb K9.out.lt)
    have N10 := Hid.of (N9.out.below hb N9.out.lt)
    have AB10 := Hid.of (AB9.out.below hb (Nat.le_refl _))
    have MT10 := Hid.of (MT9.out.below hb (Nat.le_refl _))
    have AV10 := Hid.of (AV9.out.below hb (Nat.le_refl _))
    have AR10 := Hid.of (AR9.out.below hb (Nat.le_refl _))
    have AX10 := Hid.of (AX9.out.below hb (Nat.le_refl _))
    have AY10 := Hid.of (AY9.out.below hb (Nat.le_refl _))
    have AK10 := Hid.of (AK9.out.below hb (Nat.le_refl _))
    have MU10 := Hid.of (MU9.out.below hb (Nat.le_refl _))
    clear hb N9 AB9 MT9 AV9 AR9 AX9 AY9 AK9 MU9
    have U10 := Hid.of (Blk.new w9 25 (mcells (trimM m) L2))
    go_wp2_with fail
    revert B10 K10 N10 AB10 MT10 AV10 AR10 AX10 AY10 AK10 MU10 U10
    show Hid (Below w.heap.size w (w9.alloc (.cells #[.int .i64 (trimM m).st, .int .i64 (trimM m).ev, .slice L2.a1 (trimM m).starts.length L2.c1, .slice L2.a2 (trimM m).arrows.length L2.c2, .slice L2.a3 (trimM m).ends.length L2.c3] 25))) → _
    generalize w9.alloc (.cells #[.int .i64 (trimM m).st, .int .i64 (trimM m).ev, .slice L2.a1 (trimM m).starts.length L2.c1, .slice L2.a2 (trimM m).arrows.length L2.c2, .slice L2.a3 (trimM m).ends.length L2.c3] 25) = w10
    intro B10 K10 N10 AB10 MT10 AV10 AR10 AX10 AY10 AK10 MU10 U10
    refine (same_any ra xa rc xc (reachL m) (reachL m) _ AR10.out AX10.out LR.out LX.out).mono ?_
    rintro e w11 ⟨rfl, q11, rfl⟩
    rw [sameB_self]
    go_wp2_with fail
    refine (same_any va ya vc yc (liveL m) (liveL m) _ (AV10.out.drewN q11) (AY10.out.drewN q11) LV.out LY.out).mono ?_
    rintro e w12 ⟨rfl, q12, rfl⟩
    rw [sameB_self]
    go_wp2_with fail
    refine (same_any ba ka bc kc (trimL m) (trimL m) _ (AB10.out.drewN (q11 + q12)) (AK10.out.drewN (q11 + q12)) LB.out LK.out).mono ?_
    rintro e w13 ⟨rfl, q13, rfl⟩
    rw [sameB_self]
    have hb : Below w10.heap.size w10 ((w10.drewN (q11 + q12)).drewN q13) := below_drewN (below_drewN (Below.refl _ _) (q11 + q12)) q13
    have B13 := Hid.of (B10.out.trans (hb.mono B10.out.size))
    have MT13 := Hid.of (MT10.out.below hb (Nat.le_refl _))
    have MU13 := Hid.of (MU10.out.below hb (Nat.le_refl _))
    have N13 := Hid.of (N10.out.below hb N10.out.lt)
    have U13 := Hid.of (U10.out.below hb U10.out.lt)
    clear hb
    revert B13 MT13 MU13 N13 U13
    generalize (w10.drewN (q11 + q12)).drewN q13 = w13
    intro B13 MT13 MU13 N13 U13
    obtain ⟨n0, n1, n2, n3, n4⟩ := mcell_at N13.out
    obtain ⟨u0, u1, u2, u3, u4⟩ := mcell_at U13.out
    go_wp2_with fail
    refine (machines_any (trimM m) (trimM m) L L2 _ MT13.out MU13.out).mono ?_
    rintro e w14 ⟨rfl, hb⟩
    have B14 := Hid.of (B13.out.trans (hb.mono B13.out.size))
    clear hb
    rw [sameM_self]
    go_wp2_with fail
    go_ret
    exact ⟨rfl, B14.out⟩

theorem rtells_any (m : Mach) (l : ML) (w : World) (hT : Tab w) (h : MAt w m l) :
    Calls Tryd.prog 5 #[mval m l] w fun e w' => e = .returned (.bool true) ∧ Below w.heap.size w w' := by
  cases hm : mayB m with
  | false => exact rtells_no m l w h hm
  | true => exact rtells_yes m l w hT h hm

end Go.Proofs.YtdnglodemkeooaaDoor
