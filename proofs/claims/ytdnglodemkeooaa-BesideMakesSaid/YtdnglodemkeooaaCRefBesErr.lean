/-
  The walk of jalousieref4.Beside where what comes in is wrong.
-/
import Derived.Test.YtdnglodemkeooaaG11
import Derived.Test.YtdnglodemkeooaaCRefMay
import Derived.Test.YtdnglodemkeooaaG03
namespace Go.Proofs.Ytdnglodemkeooaa
open Go.RowKit
set_option linter.unusedVariables false

set_option maxRecDepth 100000 in
set_option maxHeartbeats 4000000 in
theorem bes_mayA (a b : Mach) (la lb : ML) (fa ga : Option Addr) (fc gc : Nat) (ofA ofB : List Int) (w : World) (ha : Hid (MAt w a la)) (hb : Hid (MAt w b lb)) (hA : Hid (At w fa ofA)) (lA : Hid (ofA.length ≤ maxLen)) (hB : Hid (At w ga ofB)) (lB : Hid (ofB.length ≤ maxLen)) (ma : Hid (mayB a = false)) :
    Calls Try.prog 6 #[mval a la, mval b lb, .slice fa ofA.length fc, .slice ga ofB.length gc] w fun e w' => BesErr 2 w e w' := by
  have B0 : Hid (Below w.heap.size w ((((w.alloc (.cells (mcells a la) 25)).alloc (.cells (mcells b lb) 25)).alloc (.cells zcells 25)).alloc (.cells zcells 25))) := ((((Below.refl _ _).alloc (Nat.le_refl _) _).alloc (by simp) _).alloc (by simp; omega) _).alloc (by simp; omega) _
  have KA0 : Hid (Blk ((((w.alloc (.cells (mcells a la) 25)).alloc (.cells (mcells b lb) 25)).alloc (.cells zcells 25)).alloc (.cells zcells 25)) w.heap.size 25 (mcells a la)) := (((Blk.new w _ _).alloc _).alloc _).alloc _
  have KB0 : Hid (Blk ((((w.alloc (.cells (mcells a la) 25)).alloc (.cells (mcells b lb) 25)).alloc (.cells zcells 25)).alloc (.cells zcells 25)) (w.heap.size + 1) 25 (mcells b lb)) := by
    have := ((Blk.new (w.alloc (.cells (mcells a la) 25)) 25 (mcells b lb)).alloc (.cells zcells 25)).alloc (.cells zcells 25)
    rwa [World.size_alloc] at this
  have R0 : Hid (Blk ((((w.alloc (.cells (mcells a la) 25)).alloc (.cells (mcells b lb) 25)).alloc (.cells zcells 25)).alloc (.cells zcells 25)) (w.heap.size + 2) 25 zcells) := by
    have := (Blk.new ((w.alloc (.cells (mcells a la) 25)).alloc (.cells (mcells b lb) 25)) 25 zcells).alloc (.cells zcells 25)
    rwa [World.size_alloc, World.size_alloc] at this
  have N0 : Hid (Blk ((((w.alloc (.cells (mcells a la) 25)).alloc (.cells (mcells b lb) 25)).alloc (.cells zcells 25)).alloc (.cells zcells 25)) (w.heap.size + 3) 25 zcells) := by
    have := Blk.new (((w.alloc (.cells (mcells a la) 25)).alloc (.cells (mcells b lb) 25)).alloc (.cells zcells 25)) 25 zcells
    rwa [World.size_alloc, World.size_alloc, World.size_alloc] at this
  go_enter Try.func6, Try.ntmps6
  go_wp2_with fail
  revert B0 KA0 KB0 R0 N0
  generalize (((w.alloc (.cells (mcells a la) 25)).alloc (.cells (mcells b lb) 25)).alloc (.cells zcells 25)).alloc (.cells zcells 25) = V0
  intro B0 KA0 KB0 R0 N0
  refine (refMay_any a la _ (ha.out.below B0.out (Nat.le_refl _))).mono ?_
  rintro e V1 ⟨rfl, hb1⟩
  have B1 := Hid.of (B0.out.trans (hb1.mono B0.out.size))
  have KA1 := Hid.of (KA0.out.below hb1 KA0.out.lt)
  have KB1 := Hid.of (KB0.out.below hb1 KB0.out.lt)
  have R1 := Hid.of (R0.out.below hb1 R0.out.lt)
  have N1 := Hid.of (N0.out.below hb1 N0.out.lt)
  clear hb1 B0 KA0 KB0 R0 N0
  try clear x0 x1 x2 x3 x4 y0 y1 y2 y3 y4
  obtain ⟨x0, x1, x2, x3, x4⟩ := mcell_at KA1.out
  obtain ⟨y0, y1, y2, y3, y4⟩ := mcell_at KB1.out
  rw [ma.out]
  obtain ⟨z0, z1, z2, z3, z4⟩ := zcell_at N1.out
  obtain ⟨r0, r1, r2, r3, r4⟩ := zcell_at R1.out
  have rz := R1.out.frozen
  have RR : Hid (Blk _ (w.heap.size + 2) 25 (mcells m0 ml0)) := R1.out.set5 (.int .i64 0) (.int .i64 0) (.slice none 0 0) (.slice none 0 0) (.slice none 0 0)
  go_wp2_with fail
  refine bodyPost_ret (v := .tuple #[mval m0 ml0, .slice none 0 0, .int .i64 2]) ?_ rfl ⟨rfl, below_set5 B1.out (b' := w.heap.size + 2) (by omega) _ _ _ _ _⟩
  exact results_three (p := 8) (u := 9) (v := 10) rfl _ _ (w.heap.size + 2) m0 ml0 _ _ rfl rfl rfl RR.out

set_option maxRecDepth 100000 in
set_option maxHeartbeats 4000000 in
theorem bes_mayB (a b : Mach) (la lb : ML) (fa ga : Option Addr) (fc gc : Nat) (ofA ofB : List Int) (w : World) (ha : Hid (MAt w a la)) (hb : Hid (MAt w b lb)) (hA : Hid (At w fa ofA)) (lA : Hid (ofA.length ≤ maxLen)) (hB : Hid (At w ga ofB)) (lB : Hid (ofB.length ≤ maxLen)) (ma : Hid (mayB a = true)) (mb : Hid (mayB b = false)) :
    Calls Try.prog 6 #[mval a la, mval b lb, .slice fa ofA.length fc, .slice ga ofB.length gc] w fun e w' => BesErr 2 w e w' := by
  have B0 : Hid (Below w.heap.size w ((((w.alloc (.cells (mcells a la) 25)).alloc (.cells (mcells b lb) 25)).alloc (.cells zcells 25)).alloc (.cells zcells 25))) := ((((Below.refl _ _).alloc (Nat.le_refl _) _).alloc (by simp) _).alloc (by simp; omega) _).alloc (by simp; omega) _
  have KA0 : Hid (Blk ((((w.alloc (.cells (mcells a la) 25)).alloc (.cells (mcells b lb) 25)).alloc (.cells zcells 25)).alloc (.cells zcells 25)) w.heap.size 25 (mcells a la)) := (((Blk.new w _ _).alloc _).alloc _).alloc _
  have KB0 : Hid (Blk ((((w.alloc (.cells (mcells a la) 25)).alloc (.cells (mcells b lb) 25)).alloc (.cells zcells 25)).alloc (.cells zcells 25)) (w.heap.size + 1) 25 (mcells b lb)) := by
    have := ((Blk.new (w.alloc (.cells (mcells a la) 25)) 25 (mcells b lb)).alloc (.cells zcells 25)).alloc (.cells zcells 25)
    rwa [World.size_alloc] at this
  have R0 : Hid (Blk ((((w.alloc (.cells (mcells a la) 25)).alloc (.cells (mcells b lb) 25)).alloc (.cells zcells 25)).alloc (.cells zcells 25)) (w.heap.size + 2) 25 zcells) := by
    have := (Blk.new ((w.alloc (.cells (mcells a la) 25)).alloc (.cells (mcells b lb) 25)) 25 zcells).alloc (.cells zcells 25)
    rwa [World.size_alloc, World.size_alloc] at this
  have N0 : Hid (Blk ((((w.alloc (.cells (mcells a la) 25)).alloc (.cells (mcells b lb) 25)).alloc (.cells zcells 25)).alloc (.cells zcells 25)) (w.heap.size + 3) 25 zcells) := by
    have := Blk.new (((w.alloc (.cells (mcells a la) 25)).alloc (.cells (mcells b lb) 25)).alloc (.cells zcells 25)) 25 zcells
    rwa [World.size_alloc, World.size_alloc, World.size_alloc] at this
  go_enter Try.func6, Try.ntmps6
  go_wp2_with fail
  revert B0 KA0 KB0 R0 N0
  generalize (((w.alloc (.cells (mcells a la) 25)).alloc (.cells (mcells b lb) 25)).alloc (.cells zcells 25)).alloc (.cells zcells 25) = V0
  intro B0 KA0 KB0 R0 N0
  refine (refMay_any a la _ (ha.out.below B0.out (Nat.le_refl _))).mono ?_
  rintro e V1 ⟨rfl, hb1⟩
  have B1 := Hid.of (B0.out.trans (hb1.mono B0.out.size))
  have KA1 := Hid.of (KA0.out.below hb1 KA0.out.lt)
  have KB1 := Hid.of (KB0.out.below hb1 KB0.out.lt)
  have R1 := Hid.of (R0.out.below hb1 R0.out.lt)
  have N1 := Hid.of (N0.out.below hb1 N0.out.lt)
  clear hb1 B0 KA0 KB0 R0 N0
  try clear x0 x1 x2 x3 x4 y0 y1 y2 y3 y4
  obtain ⟨x0, x1, x2, x3, x4⟩ := mcell_at KA1.out
  obtain ⟨y0, y1, y2, y3, y4⟩ := mcell_at KB1.out
  rw [ma.out]
  go_wp2_with fail
  refine (refMay_any b lb _ (hb.out.below B1.out (Nat.le_refl _))).mono ?_
  rintro e V2 ⟨rfl, hb1⟩
  have B2 := Hid.of (B1.out.trans (hb1.mono B1.out.size))
  have KA2 := Hid.of (KA1.out.below hb1 KA1.out.lt)
  have KB2 := Hid.of (KB1.out.below hb1 KB1.out.lt)
  have R2 := Hid.of (R1.out.below hb1 R1.out.lt)
  have N2 := Hid.of (N1.out.below hb1 N1.out.lt)
  clear hb1 B1 KA1 KB1 R1 N1
  try clear x0 x1 x2 x3 x4 y0 y1 y2 y3 y4
  obtain ⟨x0, x1, x2, x3, x4⟩ := mcell_at KA2.out
  obtain ⟨y0, y1, y2, y3, y4⟩ := mcell_at KB2.out
  rw [mb.out]
  obtain ⟨z0, z1, z2, z3, z4⟩ := zcell_at N2.out
  obtain ⟨r0, r1, r2, r3, r4⟩ := zcell_at R2.out
  have rz := R2.out.frozen
  have RR : Hid (Blk _ (w.heap.size + 2) 25 (mcells m0 ml0)) := R2.out.set5 (.int .i64 0) (.int .i64 0) (.slice none 0 0) (.slice none 0 0) (.slice none 0 0)
  go_wp2_with fail
  refine bodyPost_ret (v := .tuple #[mval m0 ml0, .slice none 0 0, .int .i64 2]) ?_ rfl ⟨rfl, below_set5 B2.out (b' := w.heap.size + 2) (by omega) _ _ _ _ _⟩
  exact results_three (p := 8) (u := 9) (v := 10) rfl _ _ (w.heap.size + 2) m0 ml0 _ _ rfl rfl rfl RR.out

set_option maxRecDepth 100000 in
set_option maxHeartbeats 4000000 in
theorem bes_kind (a b : Mach) (la lb : ML) (fa ga : Option Addr) (fc gc : Nat) (ofA ofB : List Int) (w : World) (ha : Hid (MAt w a la)) (hb : Hid (MAt w b lb)) (hA : Hid (At w fa ofA)) (lA : Hid (ofA.length ≤ maxLen)) (hB : Hid (At w ga ofB)) (lB : Hid (ofB.length ≤ maxLen)) (ma : Hid (mayB a = true)) (mb : Hid (mayB b = true)) (ne : Hid (¬ a.ev = b.ev)) :
    Calls Try.prog 6 #[mval a la, mval b lb, .slice fa ofA.length fc, .slice ga ofB.length gc] w fun e w' => BesErr 3 w e w' := by
  have B0 : Hid (Below w.heap.size w ((((w.alloc (.cells (mcells a la) 25)).alloc (.cells (mcells b lb) 25)).alloc (.cells zcells 25)).alloc (.cells zcells 25))) := ((((Below.refl _ _).alloc (Nat.le_refl _) _).alloc (by simp) _).alloc (by simp; omega) _).alloc (by simp; omega) _
  have KA0 : Hid (Blk ((((w.alloc (.cells (mcells a la) 25)).alloc (.cells (mcells b lb) 25)).alloc (.cells zcells 25)).alloc (.cells zcells 25)) w.heap.size 25 (mcells a la)) := (((Blk.new w _ _).alloc _).alloc _).alloc _
  have KB0 : Hid (Blk ((((w.alloc (.cells (mcells a la) 25)).alloc (.cells (mcells b lb) 25)).alloc (.cells zcells 25)).alloc (.cells zcells 25)) (w.heap.size + 1) 25 (mcells b lb)) := by
    have := ((Blk.new (w.alloc (.cells (mcells a la) 25)) 25 (mcells b lb)).alloc (.cells zcells 25)).alloc (.cells zcells 25)
    rwa [World.size_alloc] at this
  have R0 : Hid (Blk ((((w.alloc (.cells (mcells a la) 25)).alloc (.cells (mcells b lb) 25)).alloc (.cells zcells 25)).alloc (.cells zcells 25)) (w.heap.size + 2) 25 zcells) := by
    have := (Blk.new ((w.alloc (.cells (mcells a la) 25)).alloc (.cells (mcells b lb) 25)) 25 zcells).alloc (.cells zcells 25)
    rwa [World.size_alloc, World.size_alloc] at this
  have N0 : Hid (Blk ((((w.alloc (.cells (mcells a la) 25)).alloc (.cells (mcells b lb) 25)).alloc (.cells zcells 25)).alloc (.cells zcells 25)) (w.heap.size + 3) 25 zcells) := by
    have := Blk.new (((w.alloc (.cells (mcells a la) 25)).alloc (.cells (mcells b lb) 25)).alloc (.cells zcells 25)) 25 zcells
    rwa [World.size_alloc, World.size_alloc, World.size_alloc] at this
  go_enter Try.func6, Try.ntmps6
  go_wp2_with fail
  revert B0 KA0 KB0 R0 N0
  generalize (((w.alloc (.cells (mcells a la) 25)).alloc (.cells (mcells b lb) 25)).alloc (.cells zcells 25)).alloc (.cells zcells 25) = V0
  intro B0 KA0 KB0 R0 N0
  refine (refMay_any a la _ (ha.out.below B0.out (Nat.le_refl _))).mono ?_
  rintro e V1 ⟨rfl, hb1⟩
  have B1 := Hid.of (B0.out.trans (hb1.mono B0.out.size))
  have KA1 := Hid.of (KA0.out.below hb1 KA0.out.lt)
  have KB1 := Hid.of (KB0.out.below hb1 KB0.out.lt)
  have R1 := Hid.of (R0.out.below hb1 R0.out.lt)
  have N1 := Hid.of (N0.out.below hb1 N0.out.lt)
  clear hb1 B0 KA0 KB0 R0 N0
  try clear x0 x1 x2 x3 x4 y0 y1 y2 y3 y4
  obtain ⟨x0, x1, x2, x3, x4⟩ := mcell_at KA1.out
  obtain ⟨y0, y1, y2, y3, y4⟩ := mcell_at KB1.out
  rw [ma.out]
  go_wp2_with fail
  refine (refMay_any b lb _ (hb.out.below B1.out (Nat.le_refl _))).mono ?_
  rintro e V2 ⟨rfl, hb1⟩
  have B2 := Hid.of (B1.out.trans (hb1.mono B1.out.size))
  have KA2 := Hid.of (KA1.out.below hb1 KA1.out.lt)
  have KB2 := Hid.of (KB1.out.below hb1 KB1.out.lt)
  have R2 := Hid.of (R1.out.below hb1 R1.out.lt)
  have N2 := Hid.of (N1.out.below hb1 N1.out.lt)
  clear hb1 B1 KA1 KB1 R1 N1
  try clear x0 x1 x2 x3 x4 y0 y1 y2 y3 y4
  obtain ⟨x0, x1, x2, x3, x4⟩ := mcell_at KA2.out
  obtain ⟨y0, y1, y2, y3, y4⟩ := mcell_at KB2.out
  rw [mb.out]
  have hev : (a.ev != b.ev) = true := by simpa using ne.out
  have hev2 : ¬ a.ev = b.ev := ne.out
  obtain ⟨z0, z1, z2, z3, z4⟩ := zcell_at N2.out
  obtain ⟨r0, r1, r2, r3, r4⟩ := zcell_at R2.out
  have rz := R2.out.frozen
  have RR : Hid (Blk _ (w.heap.size + 2) 25 (mcells m0 ml0)) := R2.out.set5 (.int .i64 0) (.int .i64 0) (.slice none 0 0) (.slice none 0 0) (.slice none 0 0)
  go_wp2_with fail
  refine bodyPost_ret (v := .tuple #[mval m0 ml0, .slice none 0 0, .int .i64 3]) ?_ rfl ⟨rfl, below_set5 B2.out (b' := w.heap.size + 2) (by omega) _ _ _ _ _⟩
  exact results_three (p := 8) (u := 9) (v := 10) rfl _ _ (w.heap.size + 2) m0 ml0 _ _ rfl rfl rfl RR.out

set_option maxRecDepth 100000 in
set_option maxHeartbeats 4000000 in
theorem bes_isA (a b : Mach) (la lb : ML) (fa ga : Option Addr) (fc gc : Nat) (ofA ofB : List Int) (w : World) (ha : Hid (MAt w a la)) (hb : Hid (MAt w b lb)) (hA : Hid (At w fa ofA)) (lA : Hid (ofA.length ≤ maxLen)) (hB : Hid (At w ga ofB)) (lB : Hid (ofB.length ≤ maxLen)) (ma : Hid (mayB a = true)) (mb : Hid (mayB b = true)) (eq : Hid (a.ev = b.ev)) (ra : Hid (rowB a.ev ofA = false)) :
    Calls Try.prog 6 #[mval a la, mval b lb, .slice fa ofA.length fc, .slice ga ofB.length gc] w fun e w' => BesErr 2 w e w' := by
  have B0 : Hid (Below w.heap.size w ((((w.alloc (.cells (mcells a la) 25)).alloc (.cells (mcells b lb) 25)).alloc (.cells zcells 25)).alloc (.cells zcells 25))) := ((((Below.refl _ _).alloc (Nat.le_refl _) _).alloc (by simp) _).alloc (by simp; omega) _).alloc (by simp; omega) _
  have KA0 : Hid (Blk ((((w.alloc (.cells (mcells a la) 25)).alloc (.cells (mcells b lb) 25)).alloc (.cells zcells 25)).alloc (.cells zcells 25)) w.heap.size 25 (mcells a la)) := (((Blk.new w _ _).alloc _).alloc _).alloc _
  have KB0 : Hid (Blk ((((w.alloc (.cells (mcells a la) 25)).alloc (.cells (mcells b lb) 25)).alloc (.cells zcells 25)).alloc (.cells zcells 25)) (w.heap.size + 1) 25 (mcells b lb)) := by
    have := ((Blk.new (w.alloc (.cells (mcells a la) 25)) 25 (mcells b lb)).alloc (.cells zcells 25)).alloc (.cells zcells 25)
    rwa [World.size_alloc] at this
  have R0 : Hid (Blk ((((w.alloc (.cells (mcells a la) 25)).alloc (.cells (mcells b lb) 25)).alloc (.cells zcells 25)).alloc (.cells zcells 25)) (w.heap.size + 2) 25 zcells) := by
    have := (Blk.new ((w.alloc (.cells (mcells a la) 25)).alloc (.cells (mcells b lb) 25)) 25 zcells).alloc (.cells zcells 25)
    rwa [World.size_alloc, World.size_alloc] at this
  have N0 : Hid (Blk ((((w.alloc (.cells (mcells a la) 25)).alloc (.cells (mcells b lb) 25)).alloc (.cells zcells 25)).alloc (.cells zcells 25)) (w.heap.size + 3) 25 zcells) := by
    have := Blk.new (((w.alloc (.cells (mcells a la) 25)).alloc (.cells (mcells b lb) 25)).alloc (.cells zcells 25)) 25 zcells
    rwa [World.size_alloc, World.size_alloc, World.size_alloc] at this
  go_enter Try.func6, Try.ntmps6
  go_wp2_with fail
  revert B0 KA0 KB0 R0 N0
  generalize (((w.alloc (.cells (mcells a la) 25)).alloc (.cells (mcells b lb) 25)).alloc (.cells zcells 25)).alloc (.cells zcells 25) = V0
  intro B0 KA0 KB0 R0 N0
  refine (refMay_any a la _ (ha.out.below B0.out (Nat.le_refl _))).mono ?_
  rintro e V1 ⟨rfl, hb1⟩
  have B1 := Hid.of (B0.out.trans (hb1.mono B0.out.size))
  have KA1 := Hid.of (KA0.out.below hb1 KA0.out.lt)
  have KB1 := Hid.of (KB0.out.below hb1 KB0.out.lt)
  have R1 := Hid.of (R0.out.below hb1 R0.out.lt)
  have N1 := Hid.of (N0.out.below hb1 N0.out.lt)
  clear hb1 B0 KA0 KB0 R0 N0
  try clear x0 x1 x2 x3 x4 y0 y1 y2 y3 y4
  obtain ⟨x0, x1, x2, x3, x4⟩ := mcell_at KA1.out
  obtain ⟨y0, y1, y2, y3, y4⟩ := mcell_at KB1.out
  rw [ma.out]
  go_wp2_with fail
  refine (refMay_any b lb _ (hb.out.below B1.out (Nat.le_refl _))).mono ?_
  rintro e V2 ⟨rfl, hb1⟩
  have B2 := Hid.of (B1.out.trans (hb1.mono B1.out.size))
  have KA2 := Hid.of (KA1.out.below hb1 KA1.out.lt)
  have KB2 := Hid.of (KB1.out.below hb1 KB1.out.lt)
  have R2 := Hid.of (R1.out.below hb1 R1.out.lt)
  have N2 := Hid.of (N1.out.below hb1 N1.out.lt)
  clear hb1 B1 KA1 KB1 R1 N1
  try clear x0 x1 x2 x3 x4 y0 y1 y2 y3 y4
  obtain ⟨x0, x1, x2, x3, x4⟩ := mcell_at KA2.out
  obtain ⟨y0, y1, y2, y3, y4⟩ := mcell_at KB2.out
  rw [mb.out]
  rw [← eq.out] at y1
  go_wp2_with fail
  refine (refIs_any fa fc ofA a.ev _ (hA.out.below B2.out (Nat.le_refl _)) lA.out).mono ?_
  rintro e V3 ⟨rfl, q3, rfl⟩
  have hb1 : Below V2.heap.size V2 (V2.drewN q3) := below_drewN (Below.refl _ _) q3
  revert hb1
  generalize V2.drewN q3 = V3
  intro hb1
  have B3 := Hid.of (B2.out.trans (hb1.mono B2.out.size))
  have KA3 := Hid.of (KA2.out.below hb1 KA2.out.lt)
  have KB3 := Hid.of (KB2.out.below hb1 KB2.out.lt)
  have R3 := Hid.of (R2.out.below hb1 R2.out.lt)
  have N3 := Hid.of (N2.out.below hb1 N2.out.lt)
  clear hb1 B2 KA2 KB2 R2 N2
  try clear x0 x1 x2 x3 x4 y0 y1 y2 y3 y4
  obtain ⟨x0, x1, x2, x3, x4⟩ := mcell_at KA3.out
  obtain ⟨y0, y1, y2, y3, y4⟩ := mcell_at KB3.out
  rw [ra.out]
  obtain ⟨z0, z1, z2, z3, z4⟩ := zcell_at N3.out
  obtain ⟨r0, r1, r2, r3, r4⟩ := zcell_at R3.out
  have rz := R3.out.frozen
  have RR : Hid (Blk _ (w.heap.size + 2) 25 (mcells m0 ml0)) := R3.out.set5 (.int .i64 0) (.int .i64 0) (.slice none 0 0) (.slice none 0 0) (.slice none 0 0)
  go_wp2_with fail
  refine bodyPost_ret (v := .tuple #[mval m0 ml0, .slice none 0 0, .int .i64 2]) ?_ rfl ⟨rfl, below_set5 B3.out (b' := w.heap.size + 2) (by omega) _ _ _ _ _⟩
  exact results_three (p := 8) (u := 9) (v := 10) rfl _ _ (w.heap.size + 2) m0 ml0 _ _ rfl rfl rfl RR.out

set_option maxRecDepth 100000 in
set_option maxHeartbeats 4000000 in
theorem bes_isB (a b : Mach) (la lb : ML) (fa ga : Option Addr) (fc gc : Nat) (ofA ofB : List Int) (w : World) (ha : Hid (MAt w a la)) (hb : Hid (MAt w b lb)) (hA : Hid (At w fa ofA)) (lA : Hid (ofA.length ≤ maxLen)) (hB : Hid (At w ga ofB)) (lB : Hid (ofB.length ≤ maxLen)) (ma : Hid (mayB a = true)) (mb : Hid (mayB b = true)) (eq : Hid (a.ev = b.ev)) (ra : Hid (rowB a.ev ofA = true)) (rb : Hid (rowB a.ev ofB = false)) :
    Calls Try.prog 6 #[mval a la, mval b lb, .slice fa ofA.length fc, .slice ga ofB.length gc] w fun e w' => BesErr 2 w e w' := by
  have B0 : Hid (Below w.heap.size w ((((w.alloc (.cells (mcells a la) 25)).alloc (.cells (mcells b lb) 25)).alloc (.cells zcells 25)).alloc (.cells zcells 25))) := ((((Below.refl _ _).alloc (Nat.le_refl _) _).alloc (by simp) _).alloc (by simp; omega) _).alloc (by simp; omega) _
  have KA0 : Hid (Blk ((((w.alloc (.cells (mcells a la) 25)).alloc (.cells (mcells b lb) 25)).alloc (.cells zcells 25)).alloc (.cells zcells 25)) w.heap.size 25 (mcells a la)) := (((Blk.new w _ _).alloc _).alloc _).alloc _
  have KB0 : Hid (Blk ((((w.alloc (.cells (mcells a la) 25)).alloc (.cells (mcells b lb) 25)).alloc (.cells zcells 25)).alloc (.cells zcells 25)) (w.heap.size + 1) 25 (mcells b lb)) := by
    have := ((Blk.new (w.alloc (.cells (mcells a la) 25)) 25 (mcells b lb)).alloc (.cells zcells 25)).alloc (.cells zcells 25)
    rwa [World.size_alloc] at this
  have R0 : Hid (Blk ((((w.alloc (.cells (mcells a la) 25)).alloc (.cells (mcells b lb) 25)).alloc (.cells zcells 25)).alloc (.cells zcells 25)) (w.heap.size + 2) 25 zcells) := by
    have := (Blk.new ((w.alloc (.cells (mcells a la) 25)).alloc (.cells (mcells b lb) 25)) 25 zcells).alloc (.cells zcells 25)
    rwa [World.size_alloc, World.size_alloc] at this
  have N0 : Hid (Blk ((((w.alloc (.cells (mcells a la) 25)).alloc (.cells (mcells b lb) 25)).alloc (.cells zcells 25)).alloc (.cells zcells 25)) (w.heap.size + 3) 25 zcells) := by
    have := Blk.new (((w.alloc (.cells (mcells a la) 25)).alloc (.cells (mcells b lb) 25)).alloc (.cells zcells 25)) 25 zcells
    rwa [World.size_alloc, World.size_alloc, World.size_alloc] at this
  go_enter Try.func6, Try.ntmps6
  go_wp2_with fail
  revert B0 KA0 KB0 R0 N0
  generalize (((w.alloc (.cells (mcells a la) 25)).alloc (.cells (mcells b lb) 25)).alloc (.cells zcells 25)).alloc (.cells zcells 25) = V0
  intro B0 KA0 KB0 R0 N0
  refine (refMay_any a la _ (ha.out.below B0.out (Nat.le_refl _))).mono ?_
  rintro e V1 ⟨rfl, hb1⟩
  have B1 := Hid.of (B0.out.trans (hb1.mono B0.out.size))
  have KA1 := Hid.of (KA0.out.below hb1 KA0.out.lt)
  have KB1 := Hid.of (KB0.out.below hb1 KB0.out.lt)
  have R1 := Hid.of (R0.out.below hb1 R0.out.lt)
  have N1 := Hid.of (N0.out.below hb1 N0.out.lt)
  clear hb1 B0 KA0 KB0 R0 N0
  try clear x0 x1 x2 x3 x4 y0 y1 y2 y3 y4
  obtain ⟨x0, x1, x2, x3, x4⟩ := mcell_at KA1.out
  obtain ⟨y0, y1, y2, y3, y4⟩ := mcell_at KB1.out
  rw [ma.out]
  go_wp2_with fail
  refine (refMay_any b lb _ (hb.out.below B1.out (Nat.le_refl _))).mono ?_
  rintro e V2 ⟨rfl, hb1⟩
  have B2 := Hid.of (B1.out.trans (hb1.mono B1.out.size))
  have KA2 := Hid.of (KA1.out.below hb1 KA1.out.lt)
  have KB2 := Hid.of (KB1.out.below hb1 KB1.out.lt)
  have R2 := Hid.of (R1.out.below hb1 R1.out.lt)
  have N2 := Hid.of (N1.out.below hb1 N1.out.lt)
  clear hb1 B1 KA1 KB1 R1 N1
  try clear x0 x1 x2 x3 x4 y0 y1 y2 y3 y4
  obtain ⟨x0, x1, x2, x3, x4⟩ := mcell_at KA2.out
  obtain ⟨y0, y1, y2, y3, y4⟩ := mcell_at KB2.out
  rw [mb.out]
  rw [← eq.out] at y1
  go_wp2_with fail
  refine (refIs_any fa fc ofA a.ev _ (hA.out.below B2.out (Nat.le_refl _)) lA.out).mono ?_
  rintro e V3 ⟨rfl, q3, rfl⟩
  have hb1 : Below V2.heap.size V2 (V2.drewN q3) := below_drewN (Below.refl _ _) q3
  revert hb1
  generalize V2.drewN q3 = V3
  intro hb1
  have B3 := Hid.of (B2.out.trans (hb1.mono B2.out.size))
  have KA3 := Hid.of (KA2.out.below hb1 KA2.out.lt)
  have KB3 := Hid.of (KB2.out.below hb1 KB2.out.lt)
  have R3 := Hid.of (R2.out.below hb1 R2.out.lt)
  have N3 := Hid.of (N2.out.below hb1 N2.out.lt)
  clear hb1 B2 KA2 KB2 R2 N2
  try clear x0 x1 x2 x3 x4 y0 y1 y2 y3 y4
  obtain ⟨x0, x1, x2, x3, x4⟩ := mcell_at KA3.out
  obtain ⟨y0, y1, y2, y3, y4⟩ := mcell_at KB3.out
  rw [ra.out]
  go_wp2_with fail
  refine (refIs_any ga gc ofB a.ev _ (hB.out.below B3.out (Nat.le_refl _)) lB.out).mono ?_
  rintro e V4 ⟨rfl, q4, rfl⟩
  have hb1 : Below V3.heap.size V3 (V3.drewN q4) := below_drewN (Below.refl _ _) q4
  revert hb1
  generalize V3.drewN q4 = V4
  intro hb1
  have B4 := Hid.of (B3.out.trans (hb1.mono B3.out.size))
  have KA4 := Hid.of (KA3.out.below hb1 KA3.out.lt)
  have KB4 := Hid.of (KB3.out.below hb1 KB3.out.lt)
  have R4 := Hid.of (R3.out.below hb1 R3.out.lt)
  have N4 := Hid.of (N3.out.below hb1 N3.out.lt)
  clear hb1 B3 KA3 KB3 R3 N3
  try clear x0 x1 x2 x3 x4 y0 y1 y2 y3 y4
  obtain ⟨x0, x1, x2, x3, x4⟩ := mcell_at KA4.out
  obtain ⟨y0, y1, y2, y3, y4⟩ := mcell_at KB4.out
  rw [rb.out]
  obtain ⟨z0, z1, z2, z3, z4⟩ := zcell_at N4.out
  obtain ⟨r0, r1, r2, r3, r4⟩ := zcell_at R4.out
  have rz := R4.out.frozen
  have RR : Hid (Blk _ (w.heap.size + 2) 25 (mcells m0 ml0)) := R4.out.set5 (.int .i64 0) (.int .i64 0) (.slice none 0 0) (.slice none 0 0) (.slice none 0 0)
  go_wp2_with fail
  refine bodyPost_ret (v := .tuple #[mval m0 ml0, .slice none 0 0, .int .i64 2]) ?_ rfl ⟨rfl, below_set5 B4.out (b' := w.heap.size + 2) (by omega) _ _ _ _ _⟩
  exact results_three (p := 8) (u := 9) (v := 10) rfl _ _ (w.heap.size + 2) m0 ml0 _ _ rfl rfl rfl RR.out

end Go.Proofs.Ytdnglodemkeooaa
