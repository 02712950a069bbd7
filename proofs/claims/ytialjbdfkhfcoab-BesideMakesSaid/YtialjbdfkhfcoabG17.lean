/-
  The walk of jalousieref4.Beside where what comes in is wrong.
  The walk of jalousieref4.find: a pair's place.
  The walk of jalousieref4.leads: where a pair leads to, at an event.
  jalousieref4.leads, at whatever event.
-/
import Derived.Test.YtialjbdfkhfcoabG14
import Derived.Test.YtialjbdfkhfcoabG07
import Derived.Test.YtialjbdfkhfcoabRefMay
import Derived.Test.YtialjbdfkhfcoabG01
import Derived.Test.YtialjbdfkhfcoabG05
import Derived.Test.YtialjbdfkhfcoabG02
import Derived.Test.YtialjbdfkhfcoabG06
import Derived.Deep.RegionHeld3
import Derived.Deep.RegionLaw
namespace Go.Proofs.Ytialjbdfkhfcoab
open Go.RowKit
set_option linter.unusedVariables false

set_option maxRecDepth 100000 in
set_option maxHeartbeats 4000000 in
theorem bes_mayA (a b : Mach) (la lb : ML) (fa ga : Option Addr) (fc gc : Nat) (ofA ofB : List Int) (w : World) (ha : Hid (MAt w a la)) (hb : Hid (MAt w b lb)) (hA : Hid (At w fa ofA)) (lA : Hid (ofA.length ≤ maxLen)) (hB : Hid (At w ga ofB)) (lB : Hid (ofB.length ≤ maxLen)) (ma : Hid (mayB a = false)) :
    Calls Try.prog 6 #[mval a la, mval b lb, .slice fa ofA.length fc, .slice ga ofB.length gc] w fun e w' => BesErr 2 w e w' := by
  have B0 : Hid (Below w.heap.size w ((((w.alloc (.cells (mcells a la) 25)).alloc (.cells (mcells b lb) 25)).alloc (.cells zcells 25)).alloc (.cells zcells 25))) := ((((Below.refl _ _).alloc (Nat.le_refl _) _).alloc (by simp) _).alloc (by simp; omega) _).alloc (by simp; omega) _
  have KA0 : Hid (Blk ((((w.alloc (.cells (mcells a la) 25)).alloc (.cells (mcells b lb) 25)).alloc (.cells zcells 25)).alloc (.cells zcells 25)) w.heap.size 25 (mcells a la)) := (((Blk.new w _ _).alloc _).alloc _).alloc _
  have KB0 : Hid (Blk ((((w.alloc (.cells (mcells a la) 25)).alloc (.cells (mcells b lb) 25)).alloc (.cells zcells 25)).alloc (.cells zcells 25)) (w.heap.size + 1) 25 (mcells b lb)) := by
    have := ((Blk.new (w.alloc (.cells (mcells a la) 25)) 25 (mcells b lb)).alloc (.cells zcells 25)).alloc (.cells zcells 25)
    rwa [World.size_alloc] at this
  have R0 : Hid (Blk ((((w.alloc (.cells (mcells a la) 25)).alloc (.cells (mcells b lb) 25)).alloc (.cells zcells 25)).alloc (.cells zcells 25)) (w.heap.size + 2) 25 zcells) := by
    have := (Blk.new ((w.alloc (.cells (mcells a la) 25)).alloc (.cells (mcells b lb) 25)) 25 zcells).alloc (.cells zcells 25)
    rwa [World.size_alloc, World.size_alloc] at this
  have N0 : Hid (Blk ((((w.alloc (.cells (mcells a la) 25)).alloc (.cells (mcells b lb) 25)).alloc (.cells zcells 25)).alloc (.cells zcells 25)) (w.heap.size + 3) 25 zcells) := by
    have := Blk.new (((w.alloc (.cells (mcells a la) 25)).alloc (.cells (mcells b lb) 25)).alloc (.cells zcells 25)) 25 zcells
    rwa [World.size_alloc, World.size_alloc, World.size_alloc] at this
  go_enter Try.func6, Try.ntmps6
  go_wp2_with fail
  revert B0 KA0 KB0 R0 N0
  generalize (((w.alloc (.cells (mcells a la) 25)).alloc (.cells (mcells b lb) 25)).alloc (.cells zcells 25)).alloc (.cells zcells 25) = V0
  intro B0 KA0 KB0 R0 N0
  refine (refMay_any a la _ (ha.out.below B0.out (Nat.le_refl _))).mono ?_
  rintro e V1 ⟨rfl, hb1⟩
  have B1 := Hid.of (B0.out.trans (hb1.mono B0.out.size))
  have KA1 := Hid.of (KA0.out.below hb1 KA0.out.lt)
  have KB1 := Hid.of (KB0.out.below hb1 KB0.out.lt)
  have R1 := Hid.of (R0.out.below hb1 R0.out.lt)
  have N1 := Hid.of (N0.out.below hb1 N0.out.lt)
  clear hb1 B0 KA0 KB0 R0 N0
  try clear x0 x1 x2 x3 x4 y0 y1 y2 y3 y4
  obtain ⟨x0, x1, x2, x3, x4⟩ := mcell_at KA1.out
  obtain ⟨y0, y1, y2, y3, y4⟩ := mcell_at KB1.out
  rw [ma.out]
  obtain ⟨z0, z1, z2, z3, z4⟩ := zcell_at N1.out
  obtain ⟨r0, r1, r2, r3, r4⟩ := zcell_at R1.out
  have rz := R1.out.frozen
  have RR : Hid (Blk _ (w.heap.size + 2) 25 (mcells m0 ml0)) := R1.out.set5 (.int .i64 0) (.int .i64 0) (.slice none 0 0) (.slice none 0 0) (.slice none 0 0)
  go_wp2_with fail
  refine bodyPost_ret (v := .tuple #[mval m0 ml0, .slice none 0 0, .int .i64 2]) ?_ rfl ⟨rfl, below_set5 B1.out (b' := w.heap.size + 2) (by omega) _ _ _ _ _⟩
  exact results_three (p := 8) (u := 9) (v := 10) rfl _ _ (w.heap.size + 2) m0 ml0 _ _ rfl rfl rfl RR.out

set_option maxRecDepth 100000 in
set_option maxHeartbeats 4000000 in
theorem bes_mayB (a b : Mach) (la lb : ML) (fa ga : Option Addr) (fc gc : Nat) (ofA ofB : List Int) (w : World) (ha : Hid (MAt w a la)) (hb : Hid (MAt w b lb)) (hA : Hid (At w fa ofA)) (lA : Hid (ofA.length ≤ maxLen)) (hB : Hid (At w ga ofB)) (lB : Hid (ofB.length ≤ maxLen)) (ma : Hid (mayB a = true)) (mb : Hid (mayB b = false)) :
    Calls Try.prog 6 #[mval a la, mval b lb, .slice fa ofA.length fc, .slice ga ofB.length gc] w fun e w' => BesErr 2 w e w' := by
  have B0 : Hid (Below w.heap.size w ((((w.alloc (.cells (mcells a la) 25)).alloc (.cells (mcells b lb) 25)).alloc (.cells zcells 25)).alloc (.cells zcells 25))) := ((((Below.refl _ _).alloc (Nat.le_refl _) _).alloc (by simp) _).alloc (by simp; omega) _).alloc (by simp; omega) _
  have KA0 : Hid (Blk ((((w.alloc (.cells (mcells a la) 25)).alloc (.cells (mcells b lb) 25)).alloc (.cells zcells 25)).alloc (.cells zcells 25)) w.heap.size 25 (mcells a la)) := (((Blk.new w _ _).alloc _).alloc _).alloc _
  have KB0 : Hid (Blk ((((w.alloc (.cells (mcells a la) 25)).alloc (.cells (mcells b lb) 25)).alloc (.cells zcells 25)).alloc (.cells zcells 25)) (w.heap.size + 1) 25 (mcells b lb)) := by
    have := ((Blk.new (w.alloc (.cells (mcells a la) 25)) 25 (mcells b lb)).alloc (.cells zcells 25)).alloc (.cells zcells 25)
    rwa [World.size_alloc] at this
  have R0 : Hid (Blk ((((w.alloc (.cells (mcells a la) 25)).alloc (.cells (mcells b lb) 25)).alloc (.cells zcells 25)).alloc (.cells zcells 25)) (w.heap.size + 2) 25 zcells) := by
    have := (Blk.new ((w.alloc (.cells (mcells a la) 25)).alloc (.cells (mcells b lb) 25)) 25 zcells).alloc (.cells zcells 25)
    rwa [World.size_alloc, World.size_alloc] at this
  have N0 : Hid (Blk ((((w.alloc (.cells (mcells a la) 25)).alloc (.cells (mcells b lb) 25)).alloc (.cells zcells 25)).alloc (.cells zcells 25)) (w.heap.size + 3) 25 zcells) := by
    have := Blk.new (((w.alloc (.cells (mcells a la) 25)).alloc (.cells (mcells b lb) 25)).alloc (.cells zcells 25)) 25 zcells
    rwa [World.size_alloc, World.size_alloc, World.size_alloc] at this
  go_enter Try.func6, Try.ntmps6
  go_wp2_with fail
  revert B0 KA0 KB0 R0 N0
  generalize (((w.alloc (.cells (mcells a la) 25)).alloc (.cells (mcells b lb) 25)).alloc (.cells zcells 25)).alloc (.cells zcells 25) = V0
  intro B0 KA0 KB0 R0 N0
  refine (refMay_any a la _ (ha.out.below B0.out (Nat.le_refl _))).mono ?_
  rintro e V1 ⟨rfl, hb1⟩
  have B1 := Hid.of (B0.out.trans (hb1.mono B0.out.size))
  have KA1 := Hid.of (KA0.out.below hb1 KA0.out.lt)
  have KB1 := Hid.of (KB0.out.below hb1 KB0.out.lt)
  have R1 := Hid.of (R0.out.below hb1 R0.out.lt)
  have N1 := Hid.of (N0.out.below hb1 N0.out.lt)
  clear hb1 B0 KA0 KB0 R0 N0
  try clear x0 x1 x2 x3 x4 y0 y1 y2 y3 y4
  obtain ⟨x0, x1, x2, x3, x4⟩ := mcell_at KA1.out
  obtain ⟨y0, y1, y2, y3, y4⟩ := mcell_at KB1.out
  rw [ma.out]
  go_wp2_with fail
  refine (refMay_any b lb _ (hb.out.below B1.out (Nat.le_refl _))).mono ?_
  rintro e V2 ⟨rfl, hb1⟩
  have B2 := Hid.of (B1.out.trans (hb1.mono B1.out.size))
  have KA2 := Hid.of (KA1.out.below hb1 KA1.out.lt)
  have KB2 := Hid.of (KB1.out.below hb1 KB1.out.lt)
  have R2 := Hid.of (R1.out.below hb1 R1.out.lt)
  have N2 := Hid.of (N1.out.below hb1 N1.out.lt)
  clear hb1 B1 KA1 KB1 R1 N1
  try clear x0 x1 x2 x3 x4 y0 y1 y2 y3 y4
  obtain ⟨x0, x1, x2, x3, x4⟩ := mcell_at KA2.out
  obtain ⟨y0, y1, y2, y3, y4⟩ := mcell_at KB2.out
  rw [mb.out]
  obtain ⟨z0, z1, z2, z3, z4⟩ := zcell_at N2.out
  obtain ⟨r0, r1, r2, r3, r4⟩ := zcell_at R2.out
  have rz := R2.out.frozen
  have RR : Hid (Blk _ (w.heap.size + 2) 25 (mcells m0 ml0)) := R2.out.set5 (.int .i64 0) (.int .i64 0) (.slice none 0 0) (.slice none 0 0) (.slice none 0 0)
  go_wp2_with fail
  refine bodyPost_ret (v := .tuple #[mval m0 ml0, .slice none 0 0, .int .i64 2]) ?_ rfl ⟨rfl, below_set5 B2.out (b' := w.heap.size + 2) (by omega) _ _ _ _ _⟩
  exact results_three (p := 8) (u := 9) (v := 10) rfl _ _ (w.heap.size + 2) m0 ml0 _ _ rfl rfl rfl RR.out

set_option maxRecDepth 100000 in
set_option maxHeartbeats 4000000 in
theorem bes_kind (a b : Mach) (la lb : ML) (fa ga : Option Addr) (fc gc : Nat) (ofA ofB : List Int) (w : World) (ha : Hid (MAt w a la)) (hb : Hid (MAt w b lb)) (hA : Hid (At w fa ofA)) (lA : Hid (ofA.length ≤ maxLen)) (hB : Hid (At w ga ofB)) (lB : Hid (ofB.length ≤ maxLen)) (ma : Hid (mayB a = true)) (mb : Hid (mayB b = true)) (ne : Hid (¬ a.ev = b.ev)) :
    Calls Try.prog 6 #[mval a la, mval b lb, .slice fa ofA.length fc, .slice ga ofB.length gc] w fun e w' => BesErr 3 w e w' := by
  have B0 : Hid (Below w.heap.size w ((((w.alloc (.cells (mcells a la) 25)).alloc (.cells (mcells b lb) 25)).alloc (.cells zcells 25)).alloc (.cells zcells 25))) := ((((Below.refl _ _).alloc (Nat.le_refl _) _).alloc (by simp) _).alloc (by simp; omega) _).alloc (by simp; omega) _
  have KA0 : Hid (Blk ((((w.alloc (.cells (mcells a la) 25)).alloc (.cells (mcells b lb) 25)).alloc (.cells zcells 25)).alloc (.cells zcells 25)) w.heap.size 25 (mcells a la)) := (((Blk.new w _ _).alloc _).alloc _).alloc _
  have KB0 : Hid (Blk ((((w.alloc (.cells (mcells a la) 25)).alloc (.cells (mcells b lb) 25)).alloc (.cells zcells 25)).alloc (.cells zcells 25)) (w.heap.size + 1) 25 (mcells b lb)) := by
    have := ((Blk.new (w.alloc (.cells (mcells a la) 25)) 25 (mcells b lb)).alloc (.cells zcells 25)).alloc (.cells zcells 25)
    rwa [World.size_alloc] at this
  have R0 : Hid (Blk ((((w.alloc (.cells (mcells a la) 25)).alloc (.cells (mcells b lb) 25)).alloc (.cells zcells 25)).alloc (.cells zcells 25)) (w.heap.size + 2) 25 zcells) := by
    have := (Blk.new ((w.alloc (.cells (mcells a la) 25)).alloc (.cells (mcells b lb) 25)) 25 zcells).alloc (.cells zcells 25)
    rwa [World.size_alloc, World.size_alloc] at this
  have N0 : Hid (Blk ((((w.alloc (.cells (mcells a la) 25)).alloc (.cells (mcells b lb) 25)).alloc (.cells zcells 25)).alloc (.cells zcells 25)) (w.heap.size + 3) 25 zcells) := by
    have := Blk.new (((w.alloc (.cells (mcells a la) 25)).alloc (.cells (mcells b lb) 25)).alloc (.cells zcells 25)) 25 zcells
    rwa [World.size_alloc, World.size_alloc, World.size_alloc] at this
  go_enter Try.func6, Try.ntmps6
  go_wp2_with fail
  revert B0 KA0 KB0 R0 N0
  generalize (((w.alloc (.cells (mcells a la) 25)).alloc (.cells (mcells b lb) 25)).alloc (.cells zcells 25)).alloc (.cells zcells 25) = V0
  intro B0 KA0 KB0 R0 N0
  refine (refMay_any a la _ (ha.out.below B0.out (Nat.le_refl _))).mono ?_
  rintro e V1 ⟨rfl, hb1⟩
  have B1 := Hid.of (B0.out.trans (hb1.mono B0.out.size))
  have KA1 := Hid.of (KA0.out.below hb1 KA0.out.lt)
  have KB1 := Hid.of (KB0.out.below hb1 KB0.out.lt)
  have R1 := Hid.of (R0.out.below hb1 R0.out.lt)
  have N1 := Hid.of (N0.out.below hb1 N0.out.lt)
  clear hb1 B0 KA0 KB0 R0 N0
  try clear x0 x1 x2 x3 x4 y0 y1 y2 y3 y4
  obtain ⟨x0, x1, x2, x3, x4⟩ := mcell_at KA1.out
  obtain ⟨y0, y1, y2, y3, y4⟩ := mcell_at KB1.out
  rw [ma.out]
  go_wp2_with fail
  refine (refMay_any b lb _ (hb.out.below B1.out (Nat.le_refl _))).mono ?_
  rintro e V2 ⟨rfl, hb1⟩
  have B2 := Hid.of (B1.out.trans (hb1.mono B1.out.size))
  have KA2 := Hid.of (KA1.out.below hb1 KA1.out.lt)
  have KB2 := Hid.of (KB1.out.below hb1 KB1.out.lt)
  have R2 := Hid.of (R1.out.below hb1 R1.out.lt)
  have N2 := Hid.of (N1.out.below hb1 N1.out.lt)
  clear hb1 B1 KA1 KB1 R1 N1
  try clear x0 x1 x2 x3 x4 y0 y1 y2 y3 y4
  obtain ⟨x0, x1, x2, x3, x4⟩ := mcell_at KA2.out
  obtain ⟨y0, y1, y2, y3, y4⟩ := mcell_at KB2.out
  rw [mb.out]
  have hev : (a.ev != b.ev) = true := by simpa using ne.out
  have hev2 : ¬ a.ev = b.ev := ne.out
  obtain ⟨z0, z1, z2, z3, z4⟩ := zcell_at N2.out
  obtain ⟨r0, r1, r2, r3, r4⟩ := zcell_at R2.out
  have rz := R2.out.frozen
  have RR : Hid (Blk _ (w.heap.size + 2) 25 (mcells m0 ml0)) := R2.out.set5 (.int .i64 0) (.int .i64 0) (.slice none 0 0) (.slice none 0 0) (.slice none 0 0)
  go_wp2_with fail
  refine bodyPost_ret (v := .tuple #[mval m0 ml0, .slice none 0 0, .int .i64 3]) ?_ rfl ⟨rfl, below_set5 B2.out (b' := w.heap.size + 2) (by omega) _ _ _ _ _⟩
  exact results_three (p := 8) (u := 9) (v := 10) rfl _ _ (w.heap.size + 2) m0 ml0 _ _ rfl rfl rfl RR.out

set_option maxRecDepth 100000 in
set_option maxHeartbeats 4000000 in
theorem bes_isA (a b : Mach) (la lb : ML) (fa ga : Option Addr) (fc gc : Nat) (ofA ofB : List Int) (w : World) (ha : Hid (MAt w a la)) (hb : Hid (MAt w b lb)) (hA : Hid (At w fa ofA)) (lA : Hid (ofA.length ≤ maxLen)) (hB : Hid (At w ga ofB)) (lB : Hid (ofB.length ≤ maxLen)) (ma : Hid (mayB a = true)) (mb : Hid (mayB b = true)) (eq : Hid (a.ev = b.ev)) (ra : Hid (rowB a.ev ofA = false)) :
    Calls Try.prog 6 #[mval a la, mval b lb, .slice fa ofA.length fc, .slice ga ofB.length gc] w fun e w' => BesErr 2 w e w' := by
  have B0 : Hid (Below w.heap.size w ((((w.alloc (.cells (mcells a la) 25)).alloc (.cells (mcells b lb) 25)).alloc (.cells zcells 25)).alloc (.cells zcells 25))) := ((((Below.refl _ _).alloc (Nat.le_refl _) _).alloc (by simp) _).alloc (by simp; omega) _).alloc (by simp; omega) _
  have KA0 : Hid (Blk ((((w.alloc (.cells (mcells a la) 25)).alloc (.cells (mcells b lb) 25)).alloc (.cells zcells 25)).alloc (.cells zcells 25)) w.heap.size 25 (mcells a la)) := (((Blk.new w _ _).alloc _).alloc _).alloc _
  have KB0 : Hid (Blk ((((w.alloc (.cells (mcells a la) 25)).alloc (.cells (mcells b lb) 25)).alloc (.cells zcells 25)).alloc (.cells zcells 25)) (w.heap.size + 1) 25 (mcells b lb)) := by
    have := ((Blk.new (w.alloc (.cells (mcells a la) 25)) 25 (mcells b lb)).alloc (.cells zcells 25)).alloc (.cells zcells 25)
    rwa [World.size_alloc] at this
  have R0 : Hid (Blk ((((w.alloc (.cells (mcells a la) 25)).alloc (.cells (mcells b lb) 25)).alloc (.cells zcells 25)).alloc (.cells zcells 25)) (w.heap.size + 2) 25 zcells) := by
    have := (Blk.new ((w.alloc (.cells (mcells a la) 25)).alloc (.cells (mcells b lb) 25)) 25 zcells).alloc (.cells zcells 25)
    rwa [World.size_alloc, World.size_alloc] at this
  have N0 : Hid (Blk ((((w.alloc (.cells (mcells a la) 25)).alloc (.cells (mcells b lb) 25)).alloc (.cells zcells 25)).alloc (.cells zcells 25)) (w.heap.size + 3) 25 zcells) := by
    have := Blk.new (((w.alloc (.cells (mcells a la) 25)).alloc (.cells (mcells b lb) 25)).alloc (.cells zcells 25)) 25 zcells
    rwa [World.size_alloc, World.size_alloc, World.size_alloc] at this
  go_enter Try.func6, Try.ntmps6
  go_wp2_with fail
  revert B0 KA0 KB0 R0 N0
  generalize (((w.alloc (.cells (mcells a la) 25)).alloc (.cells (mcells b lb) 25)).alloc (.cells zcells 25)).alloc (.cells zcells 25) = V0
  intro B0 KA0 KB0 R0 N0
  refine (refMay_any a la _ (ha.out.below B0.out (Nat.le_refl _))).mono ?_
  rintro e V1 ⟨rfl, hb1⟩
  have B1 := Hid.of (B0.out.trans (hb1.mono B0.out.size))
  have KA1 := Hid.of (KA0.out.below hb1 KA0.out.lt)
  have KB1 := Hid.of (KB0.out.below hb1 KB0.out.lt)
  have R1 := Hid.of (R0.out.below hb1 R0.out.lt)
  have N1 := Hid.of (N0.out.below hb1 N0.out.lt)
  clear hb1 B0 KA0 KB0 R0 N0
  try clear x0 x1 x2 x3 x4 y0 y1 y2 y3 y4
  obtain ⟨x0, x1, x2, x3, x4⟩ := mcell_at KA1.out
  obtain ⟨y0, y1, y2, y3, y4⟩ := mcell_at KB1.out
  rw [ma.out]
  go_wp2_with fail
  refine (refMay_any b lb _ (hb.out.below B1.out (Nat.le_refl _))).mono ?_
  rintro e V2 ⟨rfl, hb1⟩
  have B2 := Hid.of (B1.out.trans (hb1.mono B1.out.size))
  have KA2 := Hid.of (KA1.out.below hb1 KA1.out.lt)
  have KB2 := Hid.of (KB1.out.below hb1 KB1.out.lt)
  have R2 := Hid.of (R1.out.below hb1 R1.out.lt)
  have N2 := Hid.of (N1.out.below hb1 N1.out.lt)
  clear hb1 B1 KA1 KB1 R1 N1
  try clear x0 x1 x2 x3 x4 y0 y1 y2 y3 y4
  obtain ⟨x0, x1, x2, x3, x4⟩ := mcell_at KA2.out
  obtain ⟨y0, y1, y2, y3, y4⟩ := mcell_at KB2.out
  rw [mb.out]
  rw [← eq.out] at y1
  go_wp2_with fail
  refine (refIs_any fa fc ofA a.ev _ (hA.out.below B2.out (Nat.le_refl _)) lA.out).mono ?_
  rintro e V3 ⟨rfl, q3, rfl⟩
  have hb1 : Below V2.heap.size V2 (V2.drewN q3) := below_drewN (Below.refl _ _) q3
  revert hb1
  generalize V2.drewN q3 = V3
  intro hb1
  have B3 := Hid.of (B2.out.trans (hb1.mono B2.out.size))
  have KA3 := Hid.of (KA2.out.below hb1 KA2.out.lt)
  have KB3 := Hid.of (KB2.out.below hb1 KB2.out.lt)
  have R3 := Hid.of (R2.out.below hb1 R2.out.lt)
  have N3 := Hid.of (N2.out.below hb1 N2.out.lt)
  clear hb1 B2 KA2 KB2 R2 N2
  try clear x0 x1 x2 x3 x4 y0 y1 y2 y3 y4
  obtain ⟨x0, x1, x2, x3, x4⟩ := mcell_at KA3.out
  obtain ⟨y0, y1, y2, y3, y4⟩ := mcell_at KB3.out
  rw [ra.out]
  obtain ⟨z0, z1, z2, z3, z4⟩ := zcell_at N3.out
  obtain ⟨r0, r1, r2, r3, r4⟩ := zcell_at R3.out
  have rz := R3.out.frozen
  have RR : Hid (Blk _ (w.heap.size + 2) 25 (mcells m0 ml0)) := R3.out.set5 (.int .i64 0) (.int .i64 0) (.slice none 0 0) (.slice none 0 0) (.slice none 0 0)
  go_wp2_with fail
  refine bodyPost_ret (v := .tuple #[mval m0 ml0, .slice none 0 0, .int .i64 2]) ?_ rfl ⟨rfl, below_set5 B3.out (b' := w.heap.size + 2) (by omega) _ _ _ _ _⟩
  exact results_three (p := 8) (u := 9) (v := 10) rfl _ _ (w.heap.size + 2) m0 ml0 _ _ rfl rfl rfl RR.out

set_option maxRecDepth 100000 in
set_option maxHeartbeats 4000000 in
theorem bes_isB (a b : Mach) (la lb : ML) (fa ga : Option Addr) (fc gc : Nat) (ofA ofB : List Int) (w : World) (ha : Hid (MAt w a la)) (hb : Hid (MAt w b lb)) (hA : Hid (At w fa ofA)) (lA : Hid (ofA.length ≤ maxLen)) (hB : Hid (At w ga ofB)) (lB : Hid (ofB.length ≤ maxLen)) (ma : Hid (mayB a = true)) (mb : Hid (mayB b = true)) (eq : Hid (a.ev = b.ev)) (ra : Hid (rowB a.ev ofA = true)) (rb : Hid (rowB a.ev ofB = false)) :
    Calls Try.prog 6 #[mval a la, mval b lb, .slice fa ofA.length fc, .slice ga ofB.length gc] w fun e w' => BesErr 2 w e w' := by
  have B0 : Hid (Below w.heap.size w ((((w.alloc (.cells (mcells a la) 25)).alloc (.cells (mcells b lb) 25)).alloc (.cells zcells 25)).alloc (.cells zcells 25))) := ((((Below.refl _ _).alloc (Nat.le_refl _) _).alloc (by simp) _).alloc (by simp; omega) _).alloc (by simp; omega) _
  have KA0 : Hid (Blk ((((w.alloc (.cells (mcells a la) 25)).alloc (.cells (mcells b lb) 25)).alloc (.cells zcells 25)).alloc (.cells zcells 25)) w.heap.size 25 (mcells a la)) := (((Blk.new w _ _).alloc _).alloc _).alloc _
  have KB0 : Hid (Blk ((((w.alloc (.cells (mcells a la) 25)).alloc (.cells (mcells b lb) 25)).alloc (.cells zcells 25)).alloc (.cells zcells 25)) (w.heap.size + 1) 25 (mcells b lb)) := by
    have := ((Blk.new (w.alloc (.cells (mcells a la) 25)) 25 (mcells b lb)).alloc (.cells zcells 25)).alloc (.cells zcells 25)
    rwa [World.size_alloc] at this
  have R0 : Hid (Blk ((((w.alloc (.cells (mcells a la) 25)).alloc (.cells (mcells b lb) 25)).alloc (.cells zcells 25)).alloc (.cells zcells 25)) (w.heap.size + 2) 25 zcells) := by
    have := (Blk.new ((w.alloc (.cells (mcells a la) 25)).alloc (.cells (mcells b lb) 25)) 25 zcells).alloc (.cells zcells 25)
    rwa [World.size_alloc, World.size_alloc] at this
  have N0 : Hid (Blk ((((w.alloc (.cells (mcells a la) 25)).alloc (.cells (mcells b lb) 25)).alloc (.cells zcells 25)).alloc (.cells zcells 25)) (w.heap.size + 3) 25 zcells) := by
    have := Blk.new (((w.alloc (.cells (mcells a la) 25)).alloc (.cells (mcells b lb) 25)).alloc (.cells zcells 25)) 25 zcells
    rwa [World.size_alloc, World.size_alloc, World.size_alloc] at this
  go_enter Try.func6, Try.ntmps6
  go_wp2_with fail
  revert B0 KA0 KB0 R0 N0
  generalize (((w.alloc (.cells (mcells a la) 25)).alloc (.cells (mcells b lb) 25)).alloc (.cells zcells 25)).alloc (.cells zcells 25) = V0
  intro B0 KA0 KB0 R0 N0
  refine (refMay_any a la _ (ha.out.below B0.out (Nat.le_refl _))).mono ?_
  rintro e V1 ⟨rfl, hb1⟩
  have B1 := Hid.of (B0.out.trans (hb1.mono B0.out.size))
  have KA1 := Hid.of (KA0.out.below hb1 KA0.out.lt)
  have KB1 := Hid.of (KB0.out.below hb1 KB0.out.lt)
  have R1 := Hid.of (R0.out.below hb1 R0.out.lt)
  have N1 := Hid.of (N0.out.below hb1 N0.out.lt)
  clear hb1 B0 KA0 KB0 R0 N0
  try clear x0 x1 x2 x3 x4 y0 y1 y2 y3 y4
  obtain ⟨x0, x1, x2, x3, x4⟩ := mcell_at KA1.out
  obtain ⟨y0, y1, y2, y3, y4⟩ := mcell_at KB1.out
  rw [ma.out]
  go_wp2_with fail
  refine (refMay_any b lb _ (hb.out.below B1.out (Nat.le_refl _))).mono ?_
  rintro e V2 ⟨rfl, hb1⟩
  have B2 := Hid.of (B1.out.trans (hb1.mono B1.out.size))
  have KA2 := Hid.of (KA1.out.below hb1 KA1.out.lt)
  have KB2 := Hid.of (KB1.out.below hb1 KB1.out.lt)
  have R2 := Hid.of (R1.out.below hb1 R1.out.lt)
  have N2 := Hid.of (N1.out.below hb1 N1.out.lt)
  clear hb1 B1 KA1 KB1 R1 N1
  try clear x0 x1 x2 x3 x4 y0 y1 y2 y3 y4
  obtain ⟨x0, x1, x2, x3, x4⟩ := mcell_at KA2.out
  obtain ⟨y0, y1, y2, y3, y4⟩ := mcell_at KB2.out
  rw [mb.out]
  rw [← eq.out] at y1
  go_wp2_with fail
  refine (refIs_any fa fc ofA a.ev _ (hA.out.below B2.out (Nat.le_refl _)) lA.out).mono ?_
  rintro e V3 ⟨rfl, q3, rfl⟩
  have hb1 : Below V2.heap.size V2 (V2.drewN q3) := below_drewN (Below.refl _ _) q3
  revert hb1
  generalize V2.drewN q3 = V3
  intro hb1
  have B3 := Hid.of (B2.out.trans (hb1.mono B2.out.size))
  have KA3 := Hid.of (KA2.out.below hb1 KA2.out.lt)
  have KB3 := Hid.of (KB2.out.below hb1 KB2.out.lt)
  have R3 := Hid.of (R2.out.below hb1 R2.out.lt)
  have N3 := Hid.of (N2.out.below hb1 N2.out.lt)
  clear hb1 B2 KA2 KB2 R2 N2
  try clear x0 x1 x2 x3 x4 y0 y1 y2 y3 y4
  obtain ⟨x0, x1, x2, x3, x4⟩ := mcell_at KA3.out
  obtain ⟨y0, y1, y2, y3, y4⟩ := mcell_at KB3.out
  rw [ra.out]
  go_wp2_with fail
  refine (refIs_any ga gc ofB a.ev _ (hB.out.below B3.out (Nat.le_refl _)) lB.out).mono ?_
  rintro e V4 ⟨rfl, q4, rfl⟩
  have hb1 : Below V3.heap.size V3 (V3.drewN q4) := below_drewN (Below.refl _ _) q4
  revert hb1
  generalize V3.drewN q4 = V4
  intro hb1
  have B4 := Hid.of (B3.out.trans (hb1.mono B3.out.size))
  have KA4 := Hid.of (KA3.out.below hb1 KA3.out.lt)
  have KB4 := Hid.of (KB3.out.below hb1 KB3.out.lt)
  have R4 := Hid.of (R3.out.below hb1 R3.out.lt)
  have N4 := Hid.of (N3.out.below hb1 N3.out.lt)
  clear hb1 B3 KA3 KB3 R3 N3
  try clear x0 x1 x2 x3 x4 y0 y1 y2 y3 y4
  obtain ⟨x0, x1, x2, x3, x4⟩ := mcell_at KA4.out
  obtain ⟨y0, y1, y2, y3, y4⟩ := mcell_at KB4.out
  rw [rb.out]
  obtain ⟨z0, z1, z2, z3, z4⟩ := zcell_at N4.out
  obtain ⟨r0, r1, r2, r3, r4⟩ := zcell_at R4.out
  have rz := R4.out.frozen
  have RR : Hid (Blk _ (w.heap.size + 2) 25 (mcells m0 ml0)) := R4.out.set5 (.int .i64 0) (.int .i64 0) (.slice none 0 0) (.slice none 0 0) (.slice none 0 0)
  go_wp2_with fail
  refine bodyPost_ret (v := .tuple #[mval m0 ml0, .slice none 0 0, .int .i64 2]) ?_ rfl ⟨rfl, below_set5 B4.out (b' := w.heap.size + 2) (by omega) _ _ _ _ _⟩
  exact results_three (p := 8) (u := 9) (v := 10) rfl _ _ (w.heap.size + 2) m0 ml0 _ _ rfl rfl rfl RR.out

end Go.Proofs.Ytialjbdfkhfcoab
namespace Go.Proofs.Ytialjbdfkhfcoab
open Go.RowKit
set_option linter.unusedVariables false

theorem pdrop_cons {L : List (Int × Int)} {k : Nat} {p : Int × Int} (h : L[k]? = some p) : L.drop k = p :: L.drop (k + 1) := by
  obtain ⟨h1, h2⟩ := List.getElem?_eq_some_iff.1 h
  rw [List.drop_eq_getElem_cons h1, h2]
theorem find_hit {L : List (Int × Int)} {k : Nat} {p : Int × Int} {x y : Int} (h : Hid (L[k]? = some p)) (e : Hid (findP L x y = k + findP (L.drop k) x y)) (h1 : p.1 = x) (h2 : p.2 = y) : (k : Int) = (findP L x y : Nat) := by
  rw [e.out, pdrop_cons h.out, findP, if_pos ⟨h1, h2⟩]; simp
theorem find_miss {L : List (Int × Int)} {k : Nat} {p : Int × Int} {x y : Int} (h : Hid (L[k]? = some p)) (e : Hid (findP L x y = k + findP (L.drop k) x y)) (hn : ¬ (p.1 = x ∧ p.2 = y)) : Hid (findP L x y = (k + 1) + findP (L.drop (k + 1)) x y) := by
  show _ = _
  rw [e.out, pdrop_cons h.out, findP, if_neg hn]; omega
theorem find_end {L : List (Int × Int)} {k : Nat} {x y : Int} (h : ¬ k < L.length) (hk : k ≤ L.length) (e : Hid (findP L x y = k + findP (L.drop k) x y)) : (L.length : Int) = (findP L x y : Nat) := by
  rw [e.out, List.drop_eq_nil_of_le (by omega)]; simp [findP]; omega
theorem ret_i64f {a b : Int} (h : a = b) : Ending.returned (.int .i64 a) = .returned (.int .i64 b) := by rw [h]

set_option maxHeartbeats 1000000 in
theorem find_some (b off cap : Nat) (L : List (Int × Int)) (x y : Int) (w : World) (hl : L.length ≤ 9223372036854775807) (hc : ∀ k, k < L.length → ∃ p g o c, Hid (L[k]? = some p) ∧ g < w.heap.size ∧ w.cell? ⟨b, off + k, none⟩ = some (.slice (some ⟨g, o, none⟩) 2 c) ∧ w.cell? ⟨g, o, none⟩ = some (.int .i64 p.1) ∧ w.cell? ⟨g, o + 1, none⟩ = some (.int .i64 p.2)) :
    Calls Try.prog 20 #[.slice (some ⟨b, off, none⟩) L.length cap, .int .i64 x, .int .i64 y] w fun e w' => e = .returned (.int .i64 (findP L x y : Nat)) ∧ w' = w := by
  have HC := Hid.of hc
  clear hc
  go_enter Try.func20, Try.ntmps20
  go_wp2
  go_loop [7] (fun i => ∃ k : Nat, k ≤ L.length ∧ i = .int .i64 k ∧ Hid (findP L x y = k + findP (L.drop k) x y)) (fun i => L.length - (intOf i).toNat)
  case atStart => exact ⟨0, Nat.zero_le _, rfl, (by show _ = _; simp)⟩
  case round =>
    obtain ⟨k, hk, rfl, he⟩ := hrel
    by_cases hlt : k < L.length
    · obtain ⟨p, g, o, c, hp, -, c1, c2, c3⟩ := HC.out k hlt
      by_cases e1 : p.1 = x
      · by_cases e2 : p.2 = y
        · have d1 : (p.1 == x) = true := by simpa using e1
          have d2 : (p.2 == y) = true := by simpa using e2
          have E1 := Hid.of e1
          have E2 := Hid.of e2
          clear e1 e2
          go_wp2
          go_ret
          exact ⟨ret_i64f (find_hit hp he E1.out E2.out), rfl⟩
        · have d1 : (p.1 == x) = true := by simpa using e1
          have d2 : (p.2 == y) = false := by simpa using e2
          have E2 : Hid (¬ (p.1 = x ∧ p.2 = y)) := fun h => e2 h.2
          clear e1 e2
          go_wp2
          go_round
          case rel => exact ⟨k + 1, by omega, by go_num, find_miss hp he E2.out⟩
          case measure => simp [intOf]; omega
      · have d1 : (p.1 == x) = false := by simpa using e1
        have E2 : Hid (¬ (p.1 = x ∧ p.2 = y)) := fun h => e1 h.1
        clear e1
        go_wp2
        go_round
        case rel => exact ⟨k + 1, by omega, by go_num, find_miss hp he E2.out⟩
        case measure => simp [intOf]; omega
    · go_wp2
      go_ret
      exact ⟨ret_i64f (find_end hlt hk he), rfl⟩

set_option maxHeartbeats 400000 in
theorem find_nil (a : Option Addr) (cap : Nat) (x y : Int) (w : World) :
    Calls Try.prog 20 #[.slice a 0 cap, .int .i64 x, .int .i64 y] w fun e w' => e = .returned (.int .i64 (findP [] x y : Nat)) ∧ w' = w := by
  go_enter Try.func20, Try.ntmps20
  go_wp2
  refine wp_loop_rounds 1 ?_
  rw [rounds_succ]
  go_wp2
  go_ret
  exact ⟨rfl, rfl⟩

theorem find_any (a : Option Addr) (cap : Nat) (L : List (Int × Int)) (x y : Int) (w : World) (h : At2 w a (prs L)) (hl : L.length ≤ maxLen) :
    Calls Try.prog 20 #[.slice a L.length cap, .int .i64 x, .int .i64 y] w fun e w' => e = .returned (.int .i64 (findP L x y : Nat)) ∧ w' = w := by
  cases L with
  | nil => exact find_nil a cap x y w
  | cons p r =>
    obtain ⟨b, off, rfl, -, hc⟩ := h.pair (k := 0) (by simp)
    exact find_some b off cap (p :: r) x y w hl hc

end Go.Proofs.Ytialjbdfkhfcoab
namespace Go.Proofs.Ytialjbdfkhfcoab
open Go.RowKit
set_option linter.unusedVariables false

set_option maxRecDepth 100000 in
set_option maxHeartbeats 4000000 in
theorem leads_tt (a b : Mach) (la lb : ML) (g o c : Nat) (x0 y0 e : Int) (w : World) (ha : Hid (AtA w la.a2 a.arrows)) (hb : Hid (AtA w lb.a2 b.arrows)) (la4 : a.arrows.length ≤ 4096) (lb4 : b.arrows.length ≤ 4096) (c0 : w.cell? ⟨g, o, none⟩ = some (.int .i64 x0)) (c1 : w.cell? ⟨g, o + 1, none⟩ = some (.int .i64 y0)) (hg : g < w.heap.size) :
    Calls Try.prog 19 #[mval a la, mval b lb, .slice (some ⟨g, o, none⟩) 2 c, .int .i64 e, .bool true, .bool true] w fun r w' => Gives2 w (prs (crossP (stepL a.arrows [x0] e) (stepL b.arrows [y0] e))) r w' := by
  obtain ⟨i1, hi, hz0, hz1, hz2⟩ := info_parts Try.infoInts
  have B0 : Hid (Below w.heap.size w ((((w.alloc (.cells (mcells a la) 25)).alloc (.cells (mcells b lb) 25)).alloc (.cells #[.int .i64 x0] 3)).alloc (.cells #[.int .i64 y0] 3))) := ((((Below.refl _ _).alloc (Nat.le_refl _) _).alloc (by simp) _).alloc (by simp; omega) _).alloc (by simp; omega) _
  have S0 : Hid (At ((((w.alloc (.cells (mcells a la) 25)).alloc (.cells (mcells b lb) 25)).alloc (.cells #[.int .i64 x0] 3)).alloc (.cells #[.int .i64 y0] 3)) (some ⟨w.heap.size + 1 + 1, 0, none⟩) [x0]) := by
    have := at_one ((w.alloc (.cells (mcells a la) 25)).alloc (.cells (mcells b lb) 25)) x0
    rw [World.size_alloc, World.size_alloc] at this
    exact this.below ((Below.refl _ _).alloc (Nat.le_refl _) _) (Nat.le_refl _)
  have T0 : Hid (At ((((w.alloc (.cells (mcells a la) 25)).alloc (.cells (mcells b lb) 25)).alloc (.cells #[.int .i64 x0] 3)).alloc (.cells #[.int .i64 y0] 3)) (some ⟨w.heap.size + 1 + 1 + 1, 0, none⟩) [y0]) := by
    have := at_one (((w.alloc (.cells (mcells a la) 25)).alloc (.cells (mcells b lb) 25)).alloc (.cells #[.int .i64 x0] 3)) y0
    rw [World.size_alloc, World.size_alloc, World.size_alloc] at this
    exact this
  have K0 : Hid (Blk ((((w.alloc (.cells (mcells a la) 25)).alloc (.cells (mcells b lb) 25)).alloc (.cells #[.int .i64 x0] 3)).alloc (.cells #[.int .i64 y0] 3)) (w.heap.size + 1) 25 (mcells b lb)) := by
    have := ((Blk.new (w.alloc (.cells (mcells a la) 25)) 25 (mcells b lb)).alloc (.cells #[.int .i64 x0] 3)).alloc (.cells #[.int .i64 y0] 3)
    rwa [World.size_alloc] at this
  have c1' : (((w.alloc (.cells (mcells a la) 25)).alloc (.cells (mcells b lb) 25)).alloc (.cells #[.int .i64 x0] 3)).cell? ⟨g, o + 1, none⟩ = some (.int .i64 y0) := (Below.cell (p := ⟨g, o + 1, none⟩) ((((Below.refl w.heap.size w).alloc (Nat.le_refl _) _).alloc (by simp) _).alloc (by simp; omega) _) hg).trans c1
  go_enter Try.func19, Try.ntmps19
  go_wp2_with fail
  clear c1'
  revert B0 S0 T0 K0
  generalize (((w.alloc (.cells (mcells a la) 25)).alloc (.cells (mcells b lb) 25)).alloc (.cells #[.int .i64 x0] 3)).alloc (.cells #[.int .i64 y0] 3) = V
  intro B0 S0 T0 K0
  refine (refStep_any a la (some ⟨w.heap.size + 1 + 1, 0, none⟩) 1 [x0] e _ (ha.out.below B0.out (Nat.le_refl _)) (by omega) S0.out (show 1 ≤ maxLen by decide)).mono ?_
  rintro r w1 ⟨sa, sc, rfl, at1, ln1, hb1⟩
  have S1 := Hid.of at1
  have T1 := Hid.of (T0.out.below hb1 (Nat.le_refl _))
  have B1 := Hid.of (B0.out.trans (hb1.mono B0.out.size))
  have K1 := Hid.of (K0.out.below hb1 K0.out.lt)
  clear at1 ln1 hb1 S0 T0 B0 K0
  obtain ⟨k0, k1, k2, k3, k4⟩ := mcell_at2 K1.out
  go_wp2_with fail
  refine (refStep_any b lb (some ⟨w.heap.size + 1 + 1 + 1, 0, none⟩) 1 [y0] e _ (hb.out.below B1.out (Nat.le_refl _)) (by omega) T1.out (show 1 ≤ maxLen by decide)).mono ?_
  rintro r w2 ⟨ta, tc, rfl, at2, ln2, hb2⟩
  have T2 := Hid.of at2
  have S2 := Hid.of (S1.out.below hb2 (Nat.le_refl _))
  have B2 := Hid.of (B1.out.trans (hb2.mono B1.out.size))
  clear at2 ln2 hb2 S1 T1 B1 K1 k0 k1 k2 k3 k4
  go_wp2_with fail
  have hSl : Hid ((stepL a.arrows [x0] e).length ≤ 4096) := show _ ≤ _ by have := stepL_len a.arrows [x0] e; omega
  have hTl : Hid ((stepL b.arrows [y0] e).length ≤ 4096) := show _ ≤ _ by have := stepL_len b.arrows [y0] e; omega
  obtain ⟨S, HS⟩ : ∃ S, Hid (S = stepL a.arrows [x0] e) := ⟨_, rfl⟩
  rw [← HS.out] at S2 hSl ⊢
  obtain ⟨T, HT⟩ : ∃ T, Hid (T = stepL b.arrows [y0] e) := ⟨_, rfl⟩
  rw [← HT.out] at T2 hTl ⊢
  go_loopw [15, 16] (fun v i wr => ∃ k : Nat, k ≤ S.length ∧ i = .int .i64 k ∧ Hid (Own2 wr w2.heap.size v (prs (crossP (S.take k) T))) ∧ Hid (Below w2.heap.size w2 wr)) (fun _ i _ => S.length - (intOf i).toNat)
  case atStart => exact ⟨0, Nat.zero_le _, rfl, own2_nil _ _, Below.refl _ _⟩
  case round =>
    obtain ⟨k, hk, rfl, HO, HB⟩ := hrel
    by_cases hlt : k < S.length
    · obtain ⟨bs, os, hsa, hbs, hcs⟩ := S2.out.cells_of (k := k) hlt
      obtain ⟨x, HX, cx0⟩ := hcs.at (k := k) hlt
      subst hsa
      have HSC : Hid (∀ wr' : World, Below w2.heap.size w2 wr' → wr'.cell? ⟨bs, os + k, none⟩ = some (.int .i64 x)) := fun wr' hw => by
        have := (hw.cell hbs).trans cx0
        exact this
      have HBS := Hid.of hbs
      clear hcs cx0
      have hS4 := hSl.out
      have hT4 := hTl.out
      go_wp2_with fail
      go_loopw [15, 17] (fun v i wr' => ∃ q : Nat, q ≤ T.length ∧ i = .int .i64 q ∧ Hid (Own2 wr' w2.heap.size v (prs (crossP (S.take k) T ++ (T.take q).map fun z => (x, z)))) ∧ Hid (Below w2.heap.size w2 wr')) (fun _ i _ => T.length - (intOf i).toNat)
      case atStart => exact ⟨0, Nat.zero_le _, rfl, (by show Own2 _ _ _ _; rw [List.take_zero, List.map_nil, List.append_nil]; exact HO.out), HB⟩
      case round =>
        clear HO HB
        obtain ⟨q, hq, rfl, HO, HB⟩ := hrel
        by_cases hqt : q < T.length
        · obtain ⟨bt, ot, hta, hbt, hct⟩ := T2.out.cells_of (k := q) hqt
          obtain ⟨y, HY, cy0⟩ := hct.at (k := q) hqt
          subst hta
          have cx := HSC.out wr HB.out
          have cy : wr.cell? ⟨bt, ot + q, none⟩ = some (.int .i64 y) := by
            have := (HB.out.cell hbt).trans cy0
            exact this
          clear hct cy0
          have hlw : (prs (crossP (S.take k) T ++ (T.take q).map fun z => (x, z))).length ≤ 16777216 + 4096 := by
            rw [prs_len, List.length_append, List.length_map]
            have h1 := crossP_le (S := S) (T := T) hSl.out hTl.out k
            have h2 : (T.take q).length ≤ 4096 := Nat.le_trans (List.length_take_le' _ _) hTl.out
            omega
          have HN : Hid (prs (crossP (S.take k) T ++ (T.take (q + 1)).map fun z => (x, z)) = prs (crossP (S.take k) T ++ (T.take q).map fun z => (x, z)) ++ [[x, y]]) := by
            show _ = _
            rw [mapP_take hqt HY, ← List.append_assoc, prs_snoc]
          have hsz := HB.out.size
          generalize prs (crossP (S.take k) T ++ (T.take q).map fun z => (x, z)) = LL at *
          obtain ⟨vs, ho, hin⟩ := HO.out
          have HO1 := Hid.of ho
          have HI1 := Hid.of hin
          clear ho hin HO
          go_wp2_with fail
          go_region_held3 (fun w' => w'.cell? ⟨bs, os + k, none⟩ = some (.int .i64 x) ∧ w'.cell? ⟨bt, ot + q, none⟩ = some (.int .i64 y)) (go_keep) (first | (refine step_append_own rfl (.tmp 54) (.tmp 64) 27 rfl w2.heap.size 22 i1 (.slice none 0 0) 1 24 Try.underlying27 hi hz0 hz1 hz2 rfl (by decide) u15 LL.length vs rfl (ownsRow_lay2 HO1.out _ _) ⟨wr.heap.size + 1, 0, none⟩ 1 1 [.slice (some ⟨wr.heap.size, 0, none⟩) 2 2] rfl rfl (cell_lay2 wr _ _ _) (fun u hu => by simp at hu; subst hu; rfl) (by unfold maxLen; omega) (by omega) (by simp; omega) ?_; intro v1 w10 o10 g10; have E1 := Hid.of (cell_grown2 cx g10 HO1.out HBS.out); have E2 := Hid.of (cell_grown2 cy g10 HO1.out hbt); have ex := E1.out; have ey := E2.out))
          have hlay : Below wr.heap.size wr ((wr.alloc (.cells #[.int .i64 x, .int .i64 y] 3)).alloc (.cells #[.slice (some ⟨wr.heap.size, 0, none⟩) 2 2] 22)).drew := (((Below.refl _ _).alloc (Nat.le_refl _) _).alloc (by simp) _).drew
          have hx0 : InnB ((wr.alloc (.cells #[.int .i64 x, .int .i64 y] 3)).alloc (.cells #[.slice (some ⟨wr.heap.size, 0, none⟩) 2 2] 22)).drew (.slice (some ⟨wr.heap.size, 0, none⟩) 2 2) [x, y] := (innB_new wr x y).below (((Below.refl _ _).alloc (Nat.le_refl _) _).drew)
          have R1 := Hid.of (Own2.snoc (ownsRow_lay2 HO1.out _ _) (fun j z zs h1 h2 => (HI1.out j z zs h1 h2).below hlay) hx0 o10 g10)
          have R2 : Hid (Below w2.heap.size w2 w10) := (HB.out.trans (hlay.mono hsz)).grown g10 (by show w2.heap.size ≤ ((wr.alloc _).alloc _).heap.size; simp; omega) (fun j hj => (HO1.out.lt j hj).1)
          clear hlay hx0 o10 g10 cx cy E1 E2 ex ey
          go_wp2_with fail
          go_roundw
          case rel => exact ⟨q + 1, by omega, by go_num, by show Own2 _ _ _ _; rw [HN.out]; exact R1.out, R2⟩
          case measure => simp [intOf]; omega
        · rw [List.take_of_length_le (show T.length ≤ q by first | omega | (simp; omega))] at HO
          have HN : Hid (crossP (S.take (k + 1)) T = crossP (S.take k) T ++ T.map fun z => (x, z)) := crossP_take hlt HX
          go_wp2_with fail
          go_roundw
          case rel => exact ⟨k + 1, by omega, by go_num, by show Own2 _ _ _ _; rw [HN.out]; exact HO.out, HB⟩
          case measure => simp [intOf]; omega
    · rw [List.take_of_length_le (show S.length ≤ k by first | omega | (simp; omega))] at HO
      rw [HS.out] at HO
      rw [HT.out] at HO
      go_wp2_with fail
      go_ret
      exact ⟨u15, rfl, HO.out.lower B2.out.size, B2.out.trans (HB.out.mono B2.out.size)⟩

set_option maxRecDepth 100000 in
set_option maxHeartbeats 4000000 in
theorem leads_tf (a b : Mach) (la lb : ML) (g o c : Nat) (x0 y0 e : Int) (w : World) (ha : Hid (AtA w la.a2 a.arrows)) (hb : Hid (AtA w lb.a2 b.arrows)) (la4 : a.arrows.length ≤ 4096) (lb4 : b.arrows.length ≤ 4096) (c0 : w.cell? ⟨g, o, none⟩ = some (.int .i64 x0)) (c1 : w.cell? ⟨g, o + 1, none⟩ = some (.int .i64 y0)) (hg : g < w.heap.size) :
    Calls Try.prog 19 #[mval a la, mval b lb, .slice (some ⟨g, o, none⟩) 2 c, .int .i64 e, .bool true, .bool false] w fun r w' => Gives2 w (prs (crossP (stepL a.arrows [x0] e) ([y0]))) r w' := by
  obtain ⟨i1, hi, hz0, hz1, hz2⟩ := info_parts Try.infoInts
  have B0 : Hid (Below w.heap.size w ((((w.alloc (.cells (mcells a la) 25)).alloc (.cells (mcells b lb) 25)).alloc (.cells #[.int .i64 x0] 3)).alloc (.cells #[.int .i64 y0] 3))) := ((((Below.refl _ _).alloc (Nat.le_refl _) _).alloc (by simp) _).alloc (by simp; omega) _).alloc (by simp; omega) _
  have S0 : Hid (At ((((w.alloc (.cells (mcells a la) 25)).alloc (.cells (mcells b lb) 25)).alloc (.cells #[.int .i64 x0] 3)).alloc (.cells #[.int .i64 y0] 3)) (some ⟨w.heap.size + 1 + 1, 0, none⟩) [x0]) := by
    have := at_one ((w.alloc (.cells (mcells a la) 25)).alloc (.cells (mcells b lb) 25)) x0
    rw [World.size_alloc, World.size_alloc] at this
    exact this.below ((Below.refl _ _).alloc (Nat.le_refl _) _) (Nat.le_refl _)
  have T0 : Hid (At ((((w.alloc (.cells (mcells a la) 25)).alloc (.cells (mcells b lb) 25)).alloc (.cells #[.int .i64 x0] 3)).alloc (.cells #[.int .i64 y0] 3)) (some ⟨w.heap.size + 1 + 1 + 1, 0, none⟩) [y0]) := by
    have := at_one (((w.alloc (.cells (mcells a la) 25)).alloc (.cells (mcells b lb) 25)).alloc (.cells #[.int .i64 x0] 3)) y0
    rw [World.size_alloc, World.size_alloc, World.size_alloc] at this
    exact this
  have K0 : Hid (Blk ((((w.alloc (.cells (mcells a la) 25)).alloc (.cells (mcells b lb) 25)).alloc (.cells #[.int .i64 x0] 3)).alloc (.cells #[.int .i64 y0] 3)) (w.heap.size + 1) 25 (mcells b lb)) := by
    have := ((Blk.new (w.alloc (.cells (mcells a la) 25)) 25 (mcells b lb)).alloc (.cells #[.int .i64 x0] 3)).alloc (.cells #[.int .i64 y0] 3)
    rwa [World.size_alloc] at this
  have c1' : (((w.alloc (.cells (mcells a la) 25)).alloc (.cells (mcells b lb) 25)).alloc (.cells #[.int .i64 x0] 3)).cell? ⟨g, o + 1, none⟩ = some (.int .i64 y0) := (Below.cell (p := ⟨g, o + 1, none⟩) ((((Below.refl w.heap.size w).alloc (Nat.le_refl _) _).alloc (by simp) _).alloc (by simp; omega) _) hg).trans c1
  go_enter Try.func19, Try.ntmps19
  go_wp2_with fail
  clear c1'
  revert B0 S0 T0 K0
  generalize (((w.alloc (.cells (mcells a la) 25)).alloc (.cells (mcells b lb) 25)).alloc (.cells #[.int .i64 x0] 3)).alloc (.cells #[.int .i64 y0] 3) = V
  intro B0 S0 T0 K0
  refine (refStep_any a la (some ⟨w.heap.size + 1 + 1, 0, none⟩) 1 [x0] e _ (ha.out.below B0.out (Nat.le_refl _)) (by omega) S0.out (show 1 ≤ maxLen by decide)).mono ?_
  rintro r w1 ⟨sa, sc, rfl, at1, ln1, hb1⟩
  have S1 := Hid.of at1
  have T1 := Hid.of (T0.out.below hb1 (Nat.le_refl _))
  have B1 := Hid.of (B0.out.trans (hb1.mono B0.out.size))
  have K1 := Hid.of (K0.out.below hb1 K0.out.lt)
  clear at1 ln1 hb1 S0 T0 B0 K0
  obtain ⟨k0, k1, k2, k3, k4⟩ := mcell_at2 K1.out
  go_wp2_with fail
  clear k0 k1 k2 k3 k4 K1
  have hSl : Hid ((stepL a.arrows [x0] e).length ≤ 4096) := show _ ≤ _ by have := stepL_len a.arrows [x0] e; omega
  have hTl : Hid (([y0]).length ≤ 4096) := show _ ≤ _ by simp
  obtain ⟨S, HS⟩ : ∃ S, Hid (S = stepL a.arrows [x0] e) := ⟨_, rfl⟩
  rw [← HS.out] at S1 hSl ⊢
  go_loopw [15, 16] (fun v i wr => ∃ k : Nat, k ≤ S.length ∧ i = .int .i64 k ∧ Hid (Own2 wr w1.heap.size v (prs (crossP (S.take k) [y0]))) ∧ Hid (Below w1.heap.size w1 wr)) (fun _ i _ => S.length - (intOf i).toNat)
  case atStart => exact ⟨0, Nat.zero_le _, rfl, own2_nil _ _, Below.refl _ _⟩
  case round =>
    obtain ⟨k, hk, rfl, HO, HB⟩ := hrel
    by_cases hlt : k < S.length
    · obtain ⟨bs, os, hsa, hbs, hcs⟩ := S1.out.cells_of (k := k) hlt
      obtain ⟨x, HX, cx0⟩ := hcs.at (k := k) hlt
      subst hsa
      have HSC : Hid (∀ wr' : World, Below w1.heap.size w1 wr' → wr'.cell? ⟨bs, os + k, none⟩ = some (.int .i64 x)) := fun wr' hw => by
        have := (hw.cell hbs).trans cx0
        exact this
      have HBS := Hid.of hbs
      clear hcs cx0
      have hS4 := hSl.out
      have hT4 := hTl.out
      go_wp2_with fail
      go_loopw [15, 17] (fun v i wr' => ∃ q : Nat, q ≤ 1 ∧ i = .int .i64 q ∧ Hid (Own2 wr' w1.heap.size v (prs (crossP (S.take k) [y0] ++ ([y0].take q).map fun z => (x, z)))) ∧ Hid (Below w1.heap.size w1 wr')) (fun _ i _ => 1 - (intOf i).toNat)
      case atStart => exact ⟨0, Nat.zero_le _, rfl, (by show Own2 _ _ _ _; rw [List.take_zero, List.map_nil, List.append_nil]; exact HO.out), HB⟩
      case round =>
        clear HO HB
        obtain ⟨q, hq, rfl, HO, HB⟩ := hrel
        by_cases hqt : q < 1
        · obtain ⟨bt, ot, hta, hbt, hct⟩ := T1.out.cells_of (k := q) hqt
          obtain ⟨y, HY, cy0⟩ := hct.at (k := q) hqt
          cases hta
          have cx := HSC.out wr HB.out
          have cy : wr.cell? ⟨w.heap.size + 1 + 1 + 1, q, none⟩ = some (.int .i64 y) := by
            have := (HB.out.cell hbt).trans cy0
            rw [Nat.zero_add] at this; exact this
          clear hct cy0
          have hlw : (prs (crossP (S.take k) [y0] ++ ([y0].take q).map fun z => (x, z))).length ≤ 16777216 + 4096 := by
            rw [prs_len, List.length_append, List.length_map]
            have h1 := crossP_le (S := S) (T := [y0]) hSl.out hTl.out k
            have h2 : ([y0].take q).length ≤ 4096 := Nat.le_trans (List.length_take_le' _ _) hTl.out
            omega
          have HN : Hid (prs (crossP (S.take k) [y0] ++ ([y0].take (q + 1)).map fun z => (x, z)) = prs (crossP (S.take k) [y0] ++ ([y0].take q).map fun z => (x, z)) ++ [[x, y]]) := by
            show _ = _
            rw [mapP_take hqt HY, ← List.append_assoc, prs_snoc]
          have hsz := HB.out.size
          generalize prs (crossP (S.take k) [y0] ++ ([y0].take q).map fun z => (x, z)) = LL at *
          obtain ⟨vs, ho, hin⟩ := HO.out
          have HO1 := Hid.of ho
          have HI1 := Hid.of hin
          clear ho hin HO
          go_wp2_with fail
          go_region_held3 (fun w' => w'.cell? ⟨bs, os + k, none⟩ = some (.int .i64 x) ∧ w'.cell? ⟨w.heap.size + 1 + 1 + 1, q, none⟩ = some (.int .i64 y)) (go_keep) (first | (refine step_append_own rfl (.tmp 54) (.tmp 64) 27 rfl w1.heap.size 22 i1 (.slice none 0 0) 1 24 Try.underlying27 hi hz0 hz1 hz2 rfl (by decide) u15 LL.length vs rfl (ownsRow_lay2 HO1.out _ _) ⟨wr.heap.size + 1, 0, none⟩ 1 1 [.slice (some ⟨wr.heap.size, 0, none⟩) 2 2] rfl rfl (cell_lay2 wr _ _ _) (fun u hu => by simp at hu; subst hu; rfl) (by unfold maxLen; omega) (by omega) (by simp; omega) ?_; intro v1 w10 o10 g10; have E1 := Hid.of (cell_grown2 cx g10 HO1.out HBS.out); have E2 := Hid.of (cell_grown2 cy g10 HO1.out hbt); have ex := E1.out; have ey := E2.out))
          have hlay : Below wr.heap.size wr ((wr.alloc (.cells #[.int .i64 x, .int .i64 y] 3)).alloc (.cells #[.slice (some ⟨wr.heap.size, 0, none⟩) 2 2] 22)).drew := (((Below.refl _ _).alloc (Nat.le_refl _) _).alloc (by simp) _).drew
          have hx0 : InnB ((wr.alloc (.cells #[.int .i64 x, .int .i64 y] 3)).alloc (.cells #[.slice (some ⟨wr.heap.size, 0, none⟩) 2 2] 22)).drew (.slice (some ⟨wr.heap.size, 0, none⟩) 2 2) [x, y] := (innB_new wr x y).below (((Below.refl _ _).alloc (Nat.le_refl _) _).drew)
          have R1 := Hid.of (Own2.snoc (ownsRow_lay2 HO1.out _ _) (fun j z zs h1 h2 => (HI1.out j z zs h1 h2).below hlay) hx0 o10 g10)
          have R2 : Hid (Below w1.heap.size w1 w10) := (HB.out.trans (hlay.mono hsz)).grown g10 (by show w1.heap.size ≤ ((wr.alloc _).alloc _).heap.size; simp; omega) (fun j hj => (HO1.out.lt j hj).1)
          clear hlay hx0 o10 g10 cx cy E1 E2 ex ey
          go_wp2_with fail
          go_roundw
          case rel => exact ⟨q + 1, by omega, by go_num, by show Own2 _ _ _ _; rw [HN.out]; exact R1.out, R2⟩
          case measure => simp [intOf]; omega
        · rw [List.take_of_length_le (show [y0].length ≤ q by first | omega | (simp; omega))] at HO
          have HN : Hid (crossP (S.take (k + 1)) [y0] = crossP (S.take k) [y0] ++ [y0].map fun z => (x, z)) := crossP_take hlt HX
          go_wp2_with fail
          go_roundw
          case rel => exact ⟨k + 1, by omega, by go_num, by show Own2 _ _ _ _; rw [HN.out]; exact HO.out, HB⟩
          case measure => simp [intOf]; omega
    · rw [List.take_of_length_le (show S.length ≤ k by first | omega | (simp; omega))] at HO
      rw [HS.out] at HO
      go_wp2_with fail
      go_ret
      exact ⟨u15, rfl, HO.out.lower B1.out.size, B1.out.trans (HB.out.mono B1.out.size)⟩

set_option maxRecDepth 100000 in
set_option maxHeartbeats 4000000 in
theorem leads_ft (a b : Mach) (la lb : ML) (g o c : Nat) (x0 y0 e : Int) (w : World) (ha : Hid (AtA w la.a2 a.arrows)) (hb : Hid (AtA w lb.a2 b.arrows)) (la4 : a.arrows.length ≤ 4096) (lb4 : b.arrows.length ≤ 4096) (c0 : w.cell? ⟨g, o, none⟩ = some (.int .i64 x0)) (c1 : w.cell? ⟨g, o + 1, none⟩ = some (.int .i64 y0)) (hg : g < w.heap.size) :
    Calls Try.prog 19 #[mval a la, mval b lb, .slice (some ⟨g, o, none⟩) 2 c, .int .i64 e, .bool false, .bool true] w fun r w' => Gives2 w (prs (crossP ([x0]) (stepL b.arrows [y0] e))) r w' := by
  obtain ⟨i1, hi, hz0, hz1, hz2⟩ := info_parts Try.infoInts
  have B0 : Hid (Below w.heap.size w ((((w.alloc (.cells (mcells a la) 25)).alloc (.cells (mcells b lb) 25)).alloc (.cells #[.int .i64 x0] 3)).alloc (.cells #[.int .i64 y0] 3))) := ((((Below.refl _ _).alloc (Nat.le_refl _) _).alloc (by simp) _).alloc (by simp; omega) _).alloc (by simp; omega) _
  have S0 : Hid (At ((((w.alloc (.cells (mcells a la) 25)).alloc (.cells (mcells b lb) 25)).alloc (.cells #[.int .i64 x0] 3)).alloc (.cells #[.int .i64 y0] 3)) (some ⟨w.heap.size + 1 + 1, 0, none⟩) [x0]) := by
    have := at_one ((w.alloc (.cells (mcells a la) 25)).alloc (.cells (mcells b lb) 25)) x0
    rw [World.size_alloc, World.size_alloc] at this
    exact this.below ((Below.refl _ _).alloc (Nat.le_refl _) _) (Nat.le_refl _)
  have T0 : Hid (At ((((w.alloc (.cells (mcells a la) 25)).alloc (.cells (mcells b lb) 25)).alloc (.cells #[.int .i64 x0] 3)).alloc (.cells #[.int .i64 y0] 3)) (some ⟨w.heap.size + 1 + 1 + 1, 0, none⟩) [y0]) := by
    have := at_one (((w.alloc (.cells (mcells a la) 25)).alloc (.cells (mcells b lb) 25)).alloc (.cells #[.int .i64 x0] 3)) y0
    rw [World.size_alloc, World.size_alloc, World.size_alloc] at this
    exact this
  have K0 : Hid (Blk ((((w.alloc (.cells (mcells a la) 25)).alloc (.cells (mcells b lb) 25)).alloc (.cells #[.int .i64 x0] 3)).alloc (.cells #[.int .i64 y0] 3)) (w.heap.size + 1) 25 (mcells b lb)) := by
    have := ((Blk.new (w.alloc (.cells (mcells a la) 25)) 25 (mcells b lb)).alloc (.cells #[.int .i64 x0] 3)).alloc (.cells #[.int .i64 y0] 3)
    rwa [World.size_alloc] at this
  have c1' : (((w.alloc (.cells (mcells a la) 25)).alloc (.cells (mcells b lb) 25)).alloc (.cells #[.int .i64 x0] 3)).cell? ⟨g, o + 1, none⟩ = some (.int .i64 y0) := (Below.cell (p := ⟨g, o + 1, none⟩) ((((Below.refl w.heap.size w).alloc (Nat.le_refl _) _).alloc (by simp) _).alloc (by simp; omega) _) hg).trans c1
  go_enter Try.func19, Try.ntmps19
  go_wp2_with fail
  clear c1'
  revert B0 S0 T0 K0
  generalize (((w.alloc (.cells (mcells a la) 25)).alloc (.cells (mcells b lb) 25)).alloc (.cells #[.int .i64 x0] 3)).alloc (.cells #[.int .i64 y0] 3) = V
  intro B0 S0 T0 K0
  obtain ⟨k0, k1, k2, k3, k4⟩ := mcell_at2 K0.out
  go_wp2_with fail
  refine (refStep_any b lb (some ⟨w.heap.size + 1 + 1 + 1, 0, none⟩) 1 [y0] e _ (hb.out.below B0.out (Nat.le_refl _)) (by omega) T0.out (show 1 ≤ maxLen by decide)).mono ?_
  rintro r w2 ⟨ta, tc, rfl, at2, ln2, hb2⟩
  have T2 := Hid.of at2
  have S2 := Hid.of (S0.out.below hb2 (Nat.le_refl _))
  have B2 := Hid.of (B0.out.trans (hb2.mono B0.out.size))
  clear at2 ln2 hb2 S0 T0 B0 K0 k0 k1 k2 k3 k4
  go_wp2_with fail
  have hSl : Hid (([x0]).length ≤ 4096) := show _ ≤ _ by simp
  have hTl : Hid ((stepL b.arrows [y0] e).length ≤ 4096) := show _ ≤ _ by have := stepL_len b.arrows [y0] e; omega
  obtain ⟨T, HT⟩ : ∃ T, Hid (T = stepL b.arrows [y0] e) := ⟨_, rfl⟩
  rw [← HT.out] at T2 hTl ⊢
  go_loopw [15, 16] (fun v i wr => ∃ k : Nat, k ≤ 1 ∧ i = .int .i64 k ∧ Hid (Own2 wr w2.heap.size v (prs (crossP ([x0].take k) T))) ∧ Hid (Below w2.heap.size w2 wr)) (fun _ i _ => 1 - (intOf i).toNat)
  case atStart => exact ⟨0, Nat.zero_le _, rfl, own2_nil _ _, Below.refl _ _⟩
  case round =>
    obtain ⟨k, hk, rfl, HO, HB⟩ := hrel
    by_cases hlt : k < 1
    · obtain ⟨bs, os, hsa, hbs, hcs⟩ := S2.out.cells_of (k := k) hlt
      obtain ⟨x, HX, cx0⟩ := hcs.at (k := k) hlt
      cases hsa
      have HSC : Hid (∀ wr' : World, Below w2.heap.size w2 wr' → wr'.cell? ⟨w.heap.size + 1 + 1, k, none⟩ = some (.int .i64 x)) := fun wr' hw => by
        have := (hw.cell hbs).trans cx0
        rw [Nat.zero_add] at this; exact this
      have HBS := Hid.of hbs
      clear hcs cx0
      have hS4 := hSl.out
      have hT4 := hTl.out
      go_wp2_with fail
      go_loopw [15, 17] (fun v i wr' => ∃ q : Nat, q ≤ T.length ∧ i = .int .i64 q ∧ Hid (Own2 wr' w2.heap.size v (prs (crossP ([x0].take k) T ++ (T.take q).map fun z => (x, z)))) ∧ Hid (Below w2.heap.size w2 wr')) (fun _ i _ => T.length - (intOf i).toNat)
      case atStart => exact ⟨0, Nat.zero_le _, rfl, (by show Own2 _ _ _ _; rw [List.take_zero, List.map_nil, List.append_nil]; exact HO.out), HB⟩
      case round =>
        clear HO HB
        obtain ⟨q, hq, rfl, HO, HB⟩ := hrel
        by_cases hqt : q < T.length
        · obtain ⟨bt, ot, hta, hbt, hct⟩ := T2.out.cells_of (k := q) hqt
          obtain ⟨y, HY, cy0⟩ := hct.at (k := q) hqt
          subst hta
          have cx := HSC.out wr HB.out
          have cy : wr.cell? ⟨bt, ot + q, none⟩ = some (.int .i64 y) := by
            have := (HB.out.cell hbt).trans cy0
            exact this
          clear hct cy0
          have hlw : (prs (crossP ([x0].take k) T ++ (T.take q).map fun z => (x, z))).length ≤ 16777216 + 4096 := by
            rw [prs_len, List.length_append, List.length_map]
            have h1 := crossP_le (S := [x0]) (T := T) hSl.out hTl.out k
            have h2 : (T.take q).length ≤ 4096 := Nat.le_trans (List.length_take_le' _ _) hTl.out
            omega
          have HN : Hid (prs (crossP ([x0].take k) T ++ (T.take (q + 1)).map fun z => (x, z)) = prs (crossP ([x0].take k) T ++ (T.take q).map fun z => (x, z)) ++ [[x, y]]) := by
            show _ = _
            rw [mapP_take hqt HY, ← List.append_assoc, prs_snoc]
          have hsz := HB.out.size
          generalize prs (crossP ([x0].take k) T ++ (T.take q).map fun z => (x, z)) = LL at *
          obtain ⟨vs, ho, hin⟩ := HO.out
          have HO1 := Hid.of ho
          have HI1 := Hid.of hin
          clear ho hin HO
          go_wp2_with fail
          go_region_held3 (fun w' => w'.cell? ⟨w.heap.size + 1 + 1, k, none⟩ = some (.int .i64 x) ∧ w'.cell? ⟨bt, ot + q, none⟩ = some (.int .i64 y)) (go_keep) (first | (refine step_append_own rfl (.tmp 54) (.tmp 64) 27 rfl w2.heap.size 22 i1 (.slice none 0 0) 1 24 Try.underlying27 hi hz0 hz1 hz2 rfl (by decide) u15 LL.length vs rfl (ownsRow_lay2 HO1.out _ _) ⟨wr.heap.size + 1, 0, none⟩ 1 1 [.slice (some ⟨wr.heap.size, 0, none⟩) 2 2] rfl rfl (cell_lay2 wr _ _ _) (fun u hu => by simp at hu; subst hu; rfl) (by unfold maxLen; omega) (by omega) (by simp; omega) ?_; intro v1 w10 o10 g10; have E1 := Hid.of (cell_grown2 cx g10 HO1.out HBS.out); have E2 := Hid.of (cell_grown2 cy g10 HO1.out hbt); have ex := E1.out; have ey := E2.out))
          have hlay : Below wr.heap.size wr ((wr.alloc (.cells #[.int .i64 x, .int .i64 y] 3)).alloc (.cells #[.slice (some ⟨wr.heap.size, 0, none⟩) 2 2] 22)).drew := (((Below.refl _ _).alloc (Nat.le_refl _) _).alloc (by simp) _).drew
          have hx0 : InnB ((wr.alloc (.cells #[.int .i64 x, .int .i64 y] 3)).alloc (.cells #[.slice (some ⟨wr.heap.size, 0, none⟩) 2 2] 22)).drew (.slice (some ⟨wr.heap.size, 0, none⟩) 2 2) [x, y] := (innB_new wr x y).below (((Below.refl _ _).alloc (Nat.le_refl _) _).drew)
          have R1 := Hid.of (Own2.snoc (ownsRow_lay2 HO1.out _ _) (fun j z zs h1 h2 => (HI1.out j z zs h1 h2).below hlay) hx0 o10 g10)
          have R2 : Hid (Below w2.heap.size w2 w10) := (HB.out.trans (hlay.mono hsz)).grown g10 (by show w2.heap.size ≤ ((wr.alloc _).alloc _).heap.size; simp; omega) (fun j hj => (HO1.out.lt j hj).1)
          clear hlay hx0 o10 g10 cx cy E1 E2 ex ey
          go_wp2_with fail
          go_roundw
          case rel => exact ⟨q + 1, by omega, by go_num, by show Own2 _ _ _ _; rw [HN.out]; exact R1.out, R2⟩
          case measure => simp [intOf]; omega
        · rw [List.take_of_length_le (show T.length ≤ q by first | omega | (simp; omega))] at HO
          have HN : Hid (crossP ([x0].take (k + 1)) T = crossP ([x0].take k) T ++ T.map fun z => (x, z)) := crossP_take hlt HX
          go_wp2_with fail
          go_roundw
          case rel => exact ⟨k + 1, by omega, by go_num, by show Own2 _ _ _ _; rw [HN.out]; exact HO.out, HB⟩
          case measure => simp [intOf]; omega
    · rw [List.take_of_length_le (show [x0].length ≤ k by first | omega | (simp; omega))] at HO
      rw [HT.out] at HO
      go_wp2_with fail
      go_ret
      exact ⟨u15, rfl, HO.out.lower B2.out.size, B2.out.trans (HB.out.mono B2.out.size)⟩

end Go.Proofs.Ytialjbdfkhfcoab
namespace Go.Proofs.Ytialjbdfkhfcoab
open Go.RowKit
set_option linter.unusedVariables false

set_option maxRecDepth 100000 in
set_option maxHeartbeats 1000000 in
theorem leads_ff (a b : Mach) (la lb : ML) (g o c : Nat) (x0 y0 e : Int) (w : World) (c0 : w.cell? ⟨g, o, none⟩ = some (.int .i64 x0)) (c1 : w.cell? ⟨g, o + 1, none⟩ = some (.int .i64 y0)) (hg : g < w.heap.size) :
    Calls Try.prog 19 #[mval a la, mval b lb, .slice (some ⟨g, o, none⟩) 2 c, .int .i64 e, .bool false, .bool false] w fun r w' => Gives2 w (prs []) r w' := by
  have B0 : Hid (Below w.heap.size w ((((w.alloc (.cells (mcells a la) 25)).alloc (.cells (mcells b lb) 25)).alloc (.cells #[.int .i64 x0] 3)).alloc (.cells #[.int .i64 y0] 3))) := ((((Below.refl _ _).alloc (Nat.le_refl _) _).alloc (by simp) _).alloc (by simp; omega) _).alloc (by simp; omega) _
  have c1' : (((w.alloc (.cells (mcells a la) 25)).alloc (.cells (mcells b lb) 25)).alloc (.cells #[.int .i64 x0] 3)).cell? ⟨g, o + 1, none⟩ = some (.int .i64 y0) := (Below.cell (p := ⟨g, o + 1, none⟩) ((((Below.refl w.heap.size w).alloc (Nat.le_refl _) _).alloc (by simp) _).alloc (by simp; omega) _) hg).trans c1
  go_enter Try.func19, Try.ntmps19
  go_wp2_with fail
  clear c1'
  refine wp_loop_rounds 1 ?_
  rw [rounds_succ]
  go_wp2_with fail
  go_ret
  exact ⟨_, rfl, own2_nil _ _, B0.out⟩

theorem leads_any (a b : Mach) (la lb : ML) (g o c : Nat) (p : Int × Int) (e : Int) (inA inB : Bool) (w : World) (ha : AtA w la.a2 a.arrows) (hb : AtA w lb.a2 b.arrows) (la4 : a.arrows.length ≤ 4096) (lb4 : b.arrows.length ≤ 4096) (c0 : w.cell? ⟨g, o, none⟩ = some (.int .i64 p.1)) (c1 : w.cell? ⟨g, o + 1, none⟩ = some (.int .i64 p.2)) (hg : g < w.heap.size) :
    Calls Try.prog 19 #[mval a la, mval b lb, .slice (some ⟨g, o, none⟩) 2 c, .int .i64 e, .bool inA, .bool inB] w fun r w' => Gives2 w (prs (leadsP a.arrows b.arrows p e inA inB)) r w' := by
  cases inA with
  | true =>
    cases inB with
    | true => exact leads_tt a b la lb g o c p.1 p.2 e w ha hb la4 lb4 c0 c1 hg
    | false => exact leads_tf a b la lb g o c p.1 p.2 e w ha hb la4 lb4 c0 c1 hg
  | false =>
    cases inB with
    | true => exact leads_ft a b la lb g o c p.1 p.2 e w ha hb la4 lb4 c0 c1 hg
    | false => exact leads_ff a b la lb g o c p.1 p.2 e w c0 c1 hg

end Go.Proofs.Ytialjbdfkhfcoab
