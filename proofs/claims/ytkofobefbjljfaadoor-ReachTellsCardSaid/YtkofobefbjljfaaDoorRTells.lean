/-
  The walk of the law ReachTells.
-/
import Derived.Test.YtkofobefbjljfaaDoorG24
import Derived.Test.YtkofobefbjljfaaDoorRefTrim
import Derived.Test.YtkofobefbjljfaaDoorG29
import Derived.Test.YtkofobefbjljfaaDoorRefMay
namespace Go.Proofs.YtkofobefbjljfaaDoor
open Go.RowKit
set_option linter.unusedVariables false

theorem sameB_self : ∀ xs : List Int, sameB xs xs = true := by intro xs; simp [sameB]

theorem sameA_self : ∀ l : List Arr, sameA l l = true
  | [] => rfl
  | a :: r => by simp [sameA, sameA_self r]
theorem sameM_self (m : Mach) : sameM m m = true := by
  rw [sameM_go rfl rfl (sameB_self _) (sameB_self _) rfl]; exact sameA_self _
theorem mat0 (w : World) : MAt w m0 ml0 := ⟨.inl rfl, .inl rfl, .inl rfl, Nat.le_refl _, Nat.zero_le _, fun _ => rfl, Nat.le_refl _, Nat.zero_le _, fun _ => rfl, Nat.le_refl _, Nat.zero_le _, fun _ => rfl⟩
/-- A call has answered yes or no. -/
def IsBool (e : Ending) : Prop := ∃ bb, e = .returned (.bool bb)
theorem isBool (bb : Bool) : IsBool (.returned (.bool bb)) := ⟨bb, rfl⟩

set_option maxHeartbeats 1000000 in
theorem great_any (m : Mach) (l : ML) (w : World) :
    Calls Tryd.prog 17 #[mval m l] w fun e w' => IsBool e ∧ Below w.heap.size w w' := by
  have B0 : Hid (Below w.heap.size w (w.alloc (.cells (mcells m l) 25))) := (Below.refl _ _).alloc (Nat.le_refl _) _
  go_enter Tryd.func17, Tryd.ntmps17
  go_wp2
  all_goals
    go_ret
    exact ⟨isBool _, B0.out⟩

set_option maxHeartbeats 1000000 in
theorem machines_any (m n : Mach) (l k : ML) (w : World) (h : MAt w m l) (h' : MAt w n k) :
    Calls Tryd.prog 21 #[mval m l, mval n k] w fun e w' => e = .returned (.bool (sameM m n)) ∧ Below w.heap.size w w' := by
  have B0 : Hid (Below w.heap.size w ((w.alloc (.cells (mcells m l) 25)).alloc (.cells (mcells n k) 25))) := ((Below.refl _ _).alloc (Nat.le_refl _) _).alloc (by simp) _
  have H := Hid.of (h.below B0.out (Nat.le_refl _))
  have H' := Hid.of (h'.below B0.out (Nat.le_refl _))
  clear h h'
  go_enter Tryd.func21, Tryd.ntmps21
  go_wp2_with fail
  refine (refMSame_any m n l k _ H.out H'.out).mono ?_
  rintro e w1 ⟨rfl, hb⟩
  have HB := Hid.of (B0.out.trans (hb.mono B0.out.size))
  clear hb
  go_wp2
  go_ret
  exact ⟨rfl, HB.out⟩

set_option maxRecDepth 100000 in
set_option maxHeartbeats 4000000 in
theorem rtells_no (m : Mach) (l : ML) (w : World) (h : Hid (MAt w m l)) (hm : Hid (mayB m = false)) :
    Calls Tryd.prog 5 #[mval m l] w fun e w' => e = .returned (.bool true) ∧ Below w.heap.size w w' := by
  have B0 : Hid (Below w.heap.size w (w.alloc (.cells (mcells m l) 25))) := (Below.refl _ _).alloc (Nat.le_refl _) _
  have K0 := Hid.of (Blk.new w 25 (mcells m l))
  go_enter Tryd.func5, Tryd.ntmps5
  go_wp2_with fail
  refine (great_any m l _).mono ?_
  rintro e w1 ⟨⟨bb, rfl⟩, hb⟩
  have B1 := Hid.of (B0.out.trans (hb.mono B0.out.size))
  have K1 := Hid.of (K0.out.below hb K0.out.lt)
  obtain ⟨x0, x1, x2, x3, x4⟩ := mcell_at K1.out
  clear hb
  cases bb with
  | true =>
    go_wp2_with fail
    go_ret
    exact ⟨rfl, B1.out⟩
  | false =>
    go_wp2_with fail
    refine (pReach_err m l _ (h.out.below B1.out (Nat.le_refl _)) hm.out).mono ?_
    rintro e w2 ⟨rfl, hb⟩
    have B2 := Hid.of (B1.out.trans (hb.mono B1.out.size))
    have K2 := Hid.of (K1.out.below hb K1.out.lt)
    clear hb x0 x1 x2 x3 x4
    obtain ⟨x0, x1, x2, x3, x4⟩ := mcell_at K2.out
    go_wp2_with fail
    refine (pLive_err m l _ (h.out.below B2.out (Nat.le_refl _)) hm.out).mono ?_
    rintro e w3 ⟨rfl, hb⟩
    have B3 := Hid.of (B2.out.trans (hb.mono B2.out.size))
    have K3 := Hid.of (K2.out.below hb K2.out.lt)
    clear hb x0 x1 x2 x3 x4
    obtain ⟨x0, x1, x2, x3, x4⟩ := mcell_at K3.out
    go_wp2_with fail
    refine (pTrim_err m l _ (h.out.below B3.out (Nat.le_refl _)) hm.out).mono ?_
    rintro e w4 ⟨rfl, hb⟩
    have B4 := Hid.of (B3.out.trans (hb.mono B3.out.size))
    have K4 := Hid.of (K3.out.below hb K3.out.lt)
    have B5 : Hid (Below w.heap.size w (w4.alloc (.cells (mcells m0 ml0) 25))) := B4.out.alloc B4.out.size _
    have N5 := Hid.of (Blk.new w4 25 (mcells m0 ml0))
    have kl := K4.out.lt
    clear hb x0 x1 x2 x3 x4
    obtain ⟨x0, x1, x2, x3, x4⟩ := mcell_at K4.out
    go_wp2_with fail
    refine (refMay_any m l _ (h.out.below B5.out (Nat.le_refl _))).mono ?_
    rintro e w6 ⟨rfl, hb⟩
    have B6 := Hid.of (B5.out.trans (hb.mono B5.out.size))
    have N6 := Hid.of (N5.out.below hb N5.out.lt)
    clear hb x0 x1 x2 x3 x4
    rw [hm.out]
    obtain ⟨n0, n1, n2, n3, n4⟩ := zcell_at N6.out
    go_wp2_with fail
    refine (machines_any m0 m0 ml0 ml0 _ (mat0 _) (mat0 _)).mono ?_
    rintro e w7 ⟨rfl, hb⟩
    have B7 := Hid.of (B6.out.trans (hb.mono B6.out.size))
    clear hb
    rw [sameM_self]
    go_wp2_with fail
    go_ret
    exact ⟨rfl, B7.out⟩

set_option maxRecDepth 100000 in
set_option maxHeartbeats 4000000 in
theorem rtells_yes (m : Mach) (l : ML) (w : World) (hT : Hid (Tab w)) (h : Hid (MAt w m l)) (hm : Hid (mayB m = true)) :
    Calls Tryd.prog 5 #[mval m l] w fun e w' => e = .returned (.bool true) ∧ Below w.heap.size w w' := by
  have B0 : Hid (Below w.heap.size w (w.alloc (.cells (mcells m l) 25))) := (Below.refl _ _).alloc (Nat.le_refl _) _
  have K0 := Hid.of (Blk.new w 25 (mcells m l))
  go_enter Tryd.func5, Tryd.ntmps5
  go_wp2_with fail
  refine (great_any m l _).mono ?_
  rintro e w1 ⟨⟨bb, rfl⟩, hb⟩
  have B1 := Hid.of (B0.out.trans (hb.mono B0.out.size))
  have K1 := Hid.of (K0.out.below hb K0.out.lt)
  obtain ⟨x0, x1, x2, x3, x4⟩ := mcell_at K1.out
  clear hb
  cases bb with
  | true =>
    go_wp2_with fail
    go_ret
    exact ⟨rfl, B1.out⟩
  | false =>
    go_wp2_with fail
    refine (pReach_ok m l _ (h.out.below B1.out (Nat.le_refl _)) hm.out (hT.out.below B1.out hT.out.lt)).mono ?_
    rintro e w2 ⟨ra, rc, rfl, at2, ln2, hb⟩
    have LR := Hid.of ln2
    have AR2 := Hid.of at2
    clear at2 ln2
    have B2 := Hid.of (B1.out.trans (hb.mono B1.out.size))
    have K2 := Hid.of (K1.out.below hb K1.out.lt)
    clear hb x0 x1 x2 x3 x4
    obtain ⟨x0, x1, x2, x3, x4⟩ := mcell_at K2.out
    go_wp2_with fail
    refine (pLive_ok m l _ (h.out.below B2.out (Nat.le_refl _)) hm.out (hT.out.below B2.out hT.out.lt)).mono ?_
    rintro e w3 ⟨va, vc, rfl, at3, ln3, hb⟩
    have LV := Hid.of ln3
    have AV3 := Hid.of at3
    have AR3 := Hid.of (AR2.out.below hb (Nat.le_refl _))
    clear at3 ln3 AR2
    have B3 := Hid.of (B2.out.trans (hb.mono B2.out.size))
    have K3 := Hid.of (K2.out.below hb K2.out.lt)
    clear hb x0 x1 x2 x3 x4
    obtain ⟨x0, x1, x2, x3, x4⟩ := mcell_at K3.out
    go_wp2_with fail
    refine (pTrim_ok m l _ (h.out.below B3.out (Nat.le_refl _)) hm.out (hT.out.below B3.out hT.out.lt)).mono ?_
    rintro e w4 ⟨L, ba, bc, rfl, mt4, at4, ln4, hb⟩
    have LB := Hid.of ln4
    have B4 := Hid.of (B3.out.trans (hb.mono B3.out.size))
    have K4 := Hid.of (K3.out.below hb K3.out.lt)
    have kl := K4.out.lt
    have b5 : Below w4.heap.size w4 (w4.alloc (.cells (mcells (trimM m) L) 25)) := (Below.refl _ _).alloc (Nat.le_refl _) _
    have B5 := Hid.of (B4.out.trans (b5.mono B4.out.size))
    have K5 := Hid.of (K4.out.below b5 K4.out.lt)
    have N5 := Hid.of (Blk.new w4 25 (mcells (trimM m) L))
    have AB5 := Hid.of (at4.below b5 (Nat.le_refl _))
    have MT5 := Hid.of (mt4.below b5 (Nat.le_refl _))
    have AV5 := Hid.of ((AV3.out.below hb (Nat.le_refl _)).below b5 (Nat.le_refl _))
    have AR5 := Hid.of ((AR3.out.below hb (Nat.le_refl _)).below b5 (Nat.le_refl _))
    clear hb x0 x1 x2 x3 x4 b5 at4 mt4 ln4 AV3 AR3
    obtain ⟨x0, x1, x2, x3, x4⟩ := mcell_at K4.out
    go_wp2_with fail
    revert B5 K5 N5 AB5 MT5 AV5 AR5
    show Hid (Below w.heap.size w (w4.alloc (.cells #[.int .i64 (trimM m).st, .int .i64 (trimM m).ev, .slice L.a1 (trimM m).starts.length L.c1, .slice L.a2 (trimM m).arrows.length L.c2, .slice L.a3 (trimM m).ends.length L.c3] 25))) → _
    generalize w4.alloc (.cells #[.int .i64 (trimM m).st, .int .i64 (trimM m).ev, .slice L.a1 (trimM m).starts.length L.c1, .slice L.a2 (trimM m).arrows.length L.c2, .slice L.a3 (trimM m).ends.length L.c3] 25) = w5
    intro B5 K5 N5 AB5 MT5 AV5 AR5
    refine (refMay_any m l _ (h.out.below B5.out (Nat.le_refl _))).mono ?_
    rintro e w6 ⟨rfl, hb⟩
    have B6 := Hid.of (B5.out.trans (hb.mono B5.out.size))
    have K6 := Hid.of (K5.out.below hb K5.out.lt)
    have N6 := Hid.of (N5.out.below hb N5.out.lt)
    have AB6 := Hid.of (AB5.out.below hb (Nat.le_refl _))
    have MT6 := Hid.of (MT5.out.below hb (Nat.le_refl _))
    have AV6 := Hid.of (AV5.out.below hb (Nat.le_refl _))
    have AR6 := Hid.of (AR5.out.below hb (Nat.le_refl _))
    clear hb N5 AB5 MT5 AV5 AR5
    try clear x0 x1 x2 x3 x4
    obtain ⟨x0, x1, x2, x3, x4⟩ := mcell_at K6.out
    rw [hm.out]
    go_wp2_with fail
    refine (refReach_any m l _ hm.out (h.out.below B6.out (Nat.le_refl _))).mono ?_
    rintro e w7 ⟨xa, xc, rfl, at7, ln7, hb⟩
    have AX7 := Hid.of at7
    have LX := Hid.of ln7
    clear at7 ln7
    have B7 := Hid.of (B6.out.trans (hb.mono B6.out.size))
    have K7 := Hid.of (K6.out.below hb K6.out.lt)
    have N7 := Hid.of (N6.out.below hb N6.out.lt)
    have AB7 := Hid.of (AB6.out.below hb (Nat.le_refl _))
    have MT7 := Hid.of (MT6.out.below hb (Nat.le_refl _))
    have AV7 := Hid.of (AV6.out.below hb (Nat.le_refl _))
    have AR7 := Hid.of (AR6.out.below hb (Nat.le_refl _))
    clear hb N6 AB6 MT6 AV6 AR6
    try clear x0 x1 x2 x3 x4
    obtain ⟨x0, x1, x2, x3, x4⟩ := mcell_at K7.out
    go_wp2_with fail
    refine (refLive_any m l _ hm.out (h.out.below B7.out (Nat.le_refl _))).mono ?_
    rintro e w8 ⟨ya, yc, rfl, at8, ln8, hb⟩
    have AY8 := Hid.of at8
    have LY := Hid.of ln8
    clear at8 ln8
    have B8 := Hid.of (B7.out.trans (hb.mono B7.out.size))
    have K8 := Hid.of (K7.out.below hb K7.out.lt)
    have N8 := Hid.of (N7.out.below hb N7.out.lt)
    have AB8 := Hid.of (AB7.out.below hb (Nat.le_refl _))
    have MT8 := Hid.of (MT7.out.below hb (Nat.le_refl _))
    have AV8 := Hid.of (AV7.out.below hb (Nat.le_refl _))
    have AR8 := Hid.of (AR7.out.below hb (Nat.le_refl _))
    have AX8 := Hid.of (AX7.out.below hb (Nat.le_refl _))
    clear hb N7 AB7 MT7 AV7 AR7 AX7
    try clear x0 x1 x2 x3 x4
    obtain ⟨x0, x1, x2, x3, x4⟩ := mcell_at K8.out
    go_wp2_with fail
    refine (refTrim_any m l _ hm.out (h.out.below B8.out (Nat.le_refl _))).mono ?_
    rintro e w9 ⟨L2, ka, kc, rfl, mt9, at9, ln9, hb⟩
    have AK9 := Hid.of at9
    have LK := Hid.of ln9
    have MU9 := Hid.of mt9
    clear at9 ln9 mt9
    have B9 := Hid.of (B8.out.trans (hb.mono B8.out.size))
    have K9 := Hid.of (K8.out.below hb K8.out.lt)
    have N9 := Hid.of (N8.out.below hb N8.out.lt)
    have AB9 := Hid.of (AB8.out.below hb (Nat.le_refl _))
    have MT9 := Hid.of (MT8.out.below hb (Nat.le_refl _))
    have AV9 := Hid.of (AV8.out.below hb (Nat.le_refl _))
    have AR9 := Hid.of (AR8.out.below hb (Nat.le_refl _))
    have AX9 := Hid.of (AX8.out.below hb (Nat.le_refl _))
    have AY9 := Hid.of (AY8.out.below hb (Nat.le_refl _))
    clear hb N8 AB8 MT8 AV8 AR8 AX8 AY8
    clear x0 x1 x2 x3 x4
    have kl9 := N9.out.lt
    have hb : Below w9.heap.size w9 (w9.alloc (.cells (mcells (trimM m) L2) 25)) := (Below.refl _ _).alloc (Nat.le_refl _) _
    have B10 := Hid.of (B9.out.trans (hb.mono B9.out.size))
    have K10 := Hid.of (K9.out.below hb K9.out.lt)
    have N10 := Hid.of (N9.out.below hb N9.out.lt)
    have AB10 := Hid.of (AB9.out.below hb (Nat.le_refl _))
    have MT10 := Hid.of (MT9.out.below hb (Nat.le_refl _))
    have AV10 := Hid.of (AV9.out.below hb (Nat.le_refl _))
    have AR10 := Hid.of (AR9.out.below hb (Nat.le_refl _))
    have AX10 := Hid.of (AX9.out.below hb (Nat.le_refl _))
    have AY10 := Hid.of (AY9.out.below hb (Nat.le_refl _))
    have AK10 := Hid.of (AK9.out.below hb (Nat.le_refl _))
    have MU10 := Hid.of (MU9.out.below hb (Nat.le_refl _))
    clear hb N9 AB9 MT9 AV9 AR9 AX9 AY9 AK9 MU9
    have U10 := Hid.of (Blk.new w9 25 (mcells (trimM m) L2))
    go_wp2_with fail
    revert B10 K10 N10 AB10 MT10 AV10 AR10 AX10 AY10 AK10 MU10 U10
    show Hid (Below w.heap.size w (w9.alloc (.cells #[.int .i64 (trimM m).st, .int .i64 (trimM m).ev, .slice L2.a1 (trimM m).starts.length L2.c1, .slice L2.a2 (trimM m).arrows.length L2.c2, .slice L2.a3 (trimM m).ends.length L2.c3] 25))) → _
    generalize w9.alloc (.cells #[.int .i64 (trimM m).st, .int .i64 (trimM m).ev, .slice L2.a1 (trimM m).starts.length L2.c1, .slice L2.a2 (trimM m).arrows.length L2.c2, .slice L2.a3 (trimM m).ends.length L2.c3] 25) = w10
    intro B10 K10 N10 AB10 MT10 AV10 AR10 AX10 AY10 AK10 MU10 U10
    refine (same_any ra xa rc xc (reachL m) (reachL m) _ AR10.out AX10.out LR.out LX.out).mono ?_
    rintro e w11 ⟨rfl, q11, rfl⟩
    rw [sameB_self]
    go_wp2_with fail
    refine (same_any va ya vc yc (liveL m) (liveL m) _ (AV10.out.drewN q11) (AY10.out.drewN q11) LV.out LY.out).mono ?_
    rintro e w12 ⟨rfl, q12, rfl⟩
    rw [sameB_self]
    go_wp2_with fail
    refine (same_any ba ka bc kc (trimL m) (trimL m) _ (AB10.out.drewN (q11 + q12)) (AK10.out.drewN (q11 + q12)) LB.out LK.out).mono ?_
    rintro e w13 ⟨rfl, q13, rfl⟩
    rw [sameB_self]
    have hb : Below w10.heap.size w10 ((w10.drewN (q11 + q12)).drewN q13) := below_drewN (below_drewN (Below.refl _ _) (q11 + q12)) q13
    have B13 := Hid.of (B10.out.trans (hb.mono B10.out.size))
    have MT13 := Hid.of (MT10.out.below hb (Nat.le_refl _))
    have MU13 := Hid.of (MU10.out.below hb (Nat.le_refl _))
    have N13 := Hid.of (N10.out.below hb N10.out.lt)
    have U13 := Hid.of (U10.out.below hb U10.out.lt)
    clear hb
    revert B13 MT13 MU13 N13 U13
    generalize (w10.drewN (q11 + q12)).drewN q13 = w13
    intro B13 MT13 MU13 N13 U13
    obtain ⟨n0, n1, n2, n3, n4⟩ := mcell_at N13.out
    obtain ⟨u0, u1, u2, u3, u4⟩ := mcell_at U13.out
    go_wp2_with fail
    refine (machines_any (trimM m) (trimM m) L L2 _ MT13.out MU13.out).mono ?_
    rintro e w14 ⟨rfl, hb⟩
    have B14 := Hid.of (B13.out.trans (hb.mono B13.out.size))
    clear hb
    rw [sameM_self]
    go_wp2_with fail
    go_ret
    exact ⟨rfl, B14.out⟩

theorem rtells_any (m : Mach) (l : ML) (w : World) (hT : Tab w) (h : MAt w m l) :
    Calls Tryd.prog 5 #[mval m l] w fun e w' => e = .returned (.bool true) ∧ Below w.heap.size w w' := by
  cases hm : mayB m with
  | false => exact rtells_no m l w h hm
  | true => exact rtells_yes m l w hT h hm

end Go.Proofs.YtkofobefbjljfaaDoor
