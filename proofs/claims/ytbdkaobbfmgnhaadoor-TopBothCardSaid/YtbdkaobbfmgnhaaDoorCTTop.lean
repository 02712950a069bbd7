/-
  The walk of the law TopBoth.
-/
import Derived.Test.YtbdkaobbfmgnhaaDoorG41
import Derived.Test.YtbdkaobbfmgnhaaDoorG40
import Derived.Test.YtbdkaobbfmgnhaaDoorCPWith
import Derived.Test.YtbdkaobbfmgnhaaDoorG38
import Derived.Test.YtbdkaobbfmgnhaaDoorCRefMay
import Derived.Test.YtbdkaobbfmgnhaaDoorG04
namespace Go.Proofs.YtbdkaobbfmgnhaaDoor
open Go.RowKit
set_option linter.unusedVariables false

/-! What Within tells, of the machine of both. -/
theorem withOut_in {a b : Mach} (ha : mayB a = true) (hb : mayB b = true) (he : a.ev = b.ev) (za : a.st ≤ 6) (zb : b.st ≤ 6) : withOut a b = ((outW a b).isNone, (outW a b).getD [], 0) := by
  unfold withOut; rw [if_pos ⟨ha, hb⟩, if_pos he, if_pos ⟨za, zb⟩]
theorem withOut_zero {a b : Mach} (h : (withOut a b).2.2 = 0) : mayB a = true ∧ mayB b = true ∧ a.ev = b.ev ∧ a.st ≤ 6 ∧ b.st ≤ 6 := by
  unfold withOut at h
  by_cases h1 : mayB a = true ∧ mayB b = true
  · rw [if_pos h1] at h
    by_cases h2 : a.ev = b.ev
    · rw [if_pos h2] at h
      by_cases h3 : a.st ≤ 6 ∧ b.st ≤ 6
      · exact ⟨h1.1, h1.2, h2, h3.1, h3.2⟩
      · rw [if_neg h3] at h; simp at h
    · rw [if_neg h2] at h; simp at h
  · rw [if_neg h1] at h; simp at h
theorem top_last {a b : Mach} (ha : mayB a = true) (hb : mayB b = true) (he : a.ev = b.ev) (za : a.st ≤ 6) (zb : b.st ≤ 6) {s : BS} (h : besideS a b (rngI a.ev.toNat) (rngI a.ev.toNat) = some s) (zm : (besideM a b s).st ≤ 6) (c : Mach) (h1 : (withOut c a).2.2 = 0) (h2 : (withOut c b).2.2 = 0) : (withOut c (besideM a b s)).2.2 = 0 ∧ (withOut c (besideM a b s)).1 = ((withOut c a).1 && (withOut c b).1) := by
  obtain ⟨hc, -, ec, zc, -⟩ := withOut_zero h1
  obtain ⟨-, -, t3⟩ := top_in ha hb he za zb h zm
  rw [withOut_in hc (may_beside ha hb h) ec zc zm, withOut_in hc ha ec zc za, withOut_in hc hb (ec.trans he) zc zb]
  exact ⟨rfl, t3 c hc ec zc⟩

set_option maxRecDepth 100000 in
set_option maxHeartbeats 8000000 in
theorem top_ma (a b c : Mach) (la lb lc : ML) (w : World) (hT : Hid (Tab w)) (h : Hid (MAt w a la)) (h' : Hid (MAt w b lb)) (h'' : Hid (MAt w c lc)) (hm : Hid (mayB a = false)) :
    Calls Tryd.prog 14 #[mval a la, mval b lb, mval c lc] w fun e w' => e = .returned (.bool true) ∧ Below w.heap.size w w' := by
  have B0 : Hid (Below w.heap.size w (((w.alloc (.cells (mcells a la) 25)).alloc (.cells (mcells b lb) 25)).alloc (.cells (mcells c lc) 25))) := (((Below.refl _ _).alloc (Nat.le_refl _) _).alloc (by simp) _).alloc (by simp; omega) _
  have KA0 : Hid (Blk (((w.alloc (.cells (mcells a la) 25)).alloc (.cells (mcells b lb) 25)).alloc (.cells (mcells c lc) 25)) w.heap.size 25 (mcells a la)) := ((Blk.new w _ _).alloc _).alloc _
  have KB0 : Hid (Blk (((w.alloc (.cells (mcells a la) 25)).alloc (.cells (mcells b lb) 25)).alloc (.cells (mcells c lc) 25)) (w.heap.size + 1) 25 (mcells b lb)) := by
    have := (Blk.new (w.alloc (.cells (mcells a la) 25)) 25 (mcells b lb)).alloc (.cells (mcells c lc) 25)
    rwa [World.size_alloc] at this
  have KC0 : Hid (Blk (((w.alloc (.cells (mcells a la) 25)).alloc (.cells (mcells b lb) 25)).alloc (.cells (mcells c lc) 25)) (w.heap.size + 1 + 1) 25 (mcells c lc)) := by
    have := Blk.new ((w.alloc (.cells (mcells a la) 25)).alloc (.cells (mcells b lb) 25)) 25 (mcells c lc)
    rwa [World.size_alloc, World.size_alloc] at this
  go_enter Tryd.func14, Tryd.ntmps14
  go_wp2_with fail
  revert B0 KA0 KB0 KC0
  generalize (((w.alloc (.cells (mcells a la) 25)).alloc (.cells (mcells b lb) 25)).alloc (.cells (mcells c lc) 25)) = V0
  intro B0 KA0 KB0 KC0
  refine (refMay_any a la _ (h.out.below B0.out (Nat.le_refl _))).mono ?_
  rintro e V1 ⟨rfl, hb⟩
  rw [hm.out]
  have B1 := Hid.of (B0.out.trans (hb.mono B0.out.size))
  have KA1 := Hid.of (KA0.out.below hb KA0.out.lt)
  have KB1 := Hid.of (KB0.out.below hb KB0.out.lt)
  have KC1 := Hid.of (KC0.out.below hb KC0.out.lt)
  clear hb B0 KA0 KB0 KC0
  try clear x0 x1 x2 x3 x4 y0 y1 y2 y3 y4 z0 z1 z2 z3 z4
  try clear n0 n1 n2 n3 n4
  obtain ⟨x0, x1, x2, x3, x4⟩ := mcell_at KA1.out
  obtain ⟨y0, y1, y2, y3, y4⟩ := mcell_at KB1.out
  go_wp2
  go_ret
  exact ⟨rfl, B1.out⟩

set_option maxRecDepth 100000 in
set_option maxHeartbeats 8000000 in
theorem top_mb (a b c : Mach) (la lb lc : ML) (w : World) (hT : Hid (Tab w)) (h : Hid (MAt w a la)) (h' : Hid (MAt w b lb)) (h'' : Hid (MAt w c lc)) (hm : Hid (mayB a = true)) (hm' : Hid (mayB b = false)) :
    Calls Tryd.prog 14 #[mval a la, mval b lb, mval c lc] w fun e w' => e = .returned (.bool true) ∧ Below w.heap.size w w' := by
  have B0 : Hid (Below w.heap.size w (((w.alloc (.cells (mcells a la) 25)).alloc (.cells (mcells b lb) 25)).alloc (.cells (mcells c lc) 25))) := (((Below.refl _ _).alloc (Nat.le_refl _) _).alloc (by simp) _).alloc (by simp; omega) _
  have KA0 : Hid (Blk (((w.alloc (.cells (mcells a la) 25)).alloc (.cells (mcells b lb) 25)).alloc (.cells (mcells c lc) 25)) w.heap.size 25 (mcells a la)) := ((Blk.new w _ _).alloc _).alloc _
  have KB0 : Hid (Blk (((w.alloc (.cells (mcells a la) 25)).alloc (.cells (mcells b lb) 25)).alloc (.cells (mcells c lc) 25)) (w.heap.size + 1) 25 (mcells b lb)) := by
    have := (Blk.new (w.alloc (.cells (mcells a la) 25)) 25 (mcells b lb)).alloc (.cells (mcells c lc) 25)
    rwa [World.size_alloc] at this
  have KC0 : Hid (Blk (((w.alloc (.cells (mcells a la) 25)).alloc (.cells (mcells b lb) 25)).alloc (.cells (mcells c lc) 25)) (w.heap.size + 1 + 1) 25 (mcells c lc)) := by
    have := Blk.new ((w.alloc (.cells (mcells a la) 25)).alloc (.cells (mcells b lb) 25)) 25 (mcells c lc)
    rwa [World.size_alloc, World.size_alloc] at this
  go_enter Tryd.func14, Tryd.ntmps14
  go_wp2_with fail
  revert B0 KA0 KB0 KC0
  generalize (((w.alloc (.cells (mcells a la) 25)).alloc (.cells (mcells b lb) 25)).alloc (.cells (mcells c lc) 25)) = V0
  intro B0 KA0 KB0 KC0
  refine (refMay_any a la _ (h.out.below B0.out (Nat.le_refl _))).mono ?_
  rintro e V1 ⟨rfl, hb⟩
  rw [hm.out]
  have B1 := Hid.of (B0.out.trans (hb.mono B0.out.size))
  have KA1 := Hid.of (KA0.out.below hb KA0.out.lt)
  have KB1 := Hid.of (KB0.out.below hb KB0.out.lt)
  have KC1 := Hid.of (KC0.out.below hb KC0.out.lt)
  clear hb B0 KA0 KB0 KC0
  try clear x0 x1 x2 x3 x4 y0 y1 y2 y3 y4 z0 z1 z2 z3 z4
  try clear n0 n1 n2 n3 n4
  obtain ⟨x0, x1, x2, x3, x4⟩ := mcell_at KA1.out
  obtain ⟨y0, y1, y2, y3, y4⟩ := mcell_at KB1.out
  go_wp2_with fail
  refine (refMay_any b lb _ (h'.out.below B1.out (Nat.le_refl _))).mono ?_
  rintro e V2 ⟨rfl, hb⟩
  rw [hm'.out]
  have B2 := Hid.of (B1.out.trans (hb.mono B1.out.size))
  have KA2 := Hid.of (KA1.out.below hb KA1.out.lt)
  have KB2 := Hid.of (KB1.out.below hb KB1.out.lt)
  have KC2 := Hid.of (KC1.out.below hb KC1.out.lt)
  clear hb B1 KA1 KB1 KC1
  try clear x0 x1 x2 x3 x4 y0 y1 y2 y3 y4 z0 z1 z2 z3 z4
  try clear n0 n1 n2 n3 n4
  obtain ⟨x0, x1, x2, x3, x4⟩ := mcell_at KA2.out
  obtain ⟨y0, y1, y2, y3, y4⟩ := mcell_at KB2.out
  go_wp2
  go_ret
  exact ⟨rfl, B2.out⟩

set_option maxRecDepth 100000 in
set_option maxHeartbeats 8000000 in
theorem top_ev (a b c : Mach) (la lb lc : ML) (w : World) (hT : Hid (Tab w)) (h : Hid (MAt w a la)) (h' : Hid (MAt w b lb)) (h'' : Hid (MAt w c lc)) (hm : Hid (mayB a = true)) (hm' : Hid (mayB b = true)) (he : (a.ev != b.ev) = true) :
    Calls Tryd.prog 14 #[mval a la, mval b lb, mval c lc] w fun e w' => e = .returned (.bool true) ∧ Below w.heap.size w w' := by
  have B0 : Hid (Below w.heap.size w (((w.alloc (.cells (mcells a la) 25)).alloc (.cells (mcells b lb) 25)).alloc (.cells (mcells c lc) 25))) := (((Below.refl _ _).alloc (Nat.le_refl _) _).alloc (by simp) _).alloc (by simp; omega) _
  have KA0 : Hid (Blk (((w.alloc (.cells (mcells a la) 25)).alloc (.cells (mcells b lb) 25)).alloc (.cells (mcells c lc) 25)) w.heap.size 25 (mcells a la)) := ((Blk.new w _ _).alloc _).alloc _
  have KB0 : Hid (Blk (((w.alloc (.cells (mcells a la) 25)).alloc (.cells (mcells b lb) 25)).alloc (.cells (mcells c lc) 25)) (w.heap.size + 1) 25 (mcells b lb)) := by
    have := (Blk.new (w.alloc (.cells (mcells a la) 25)) 25 (mcells b lb)).alloc (.cells (mcells c lc) 25)
    rwa [World.size_alloc] at this
  have KC0 : Hid (Blk (((w.alloc (.cells (mcells a la) 25)).alloc (.cells (mcells b lb) 25)).alloc (.cells (mcells c lc) 25)) (w.heap.size + 1 + 1) 25 (mcells c lc)) := by
    have := Blk.new ((w.alloc (.cells (mcells a la) 25)).alloc (.cells (mcells b lb) 25)) 25 (mcells c lc)
    rwa [World.size_alloc, World.size_alloc] at this
  go_enter Tryd.func14, Tryd.ntmps14
  go_wp2_with fail
  revert B0 KA0 KB0 KC0
  generalize (((w.alloc (.cells (mcells a la) 25)).alloc (.cells (mcells b lb) 25)).alloc (.cells (mcells c lc) 25)) = V0
  intro B0 KA0 KB0 KC0
  refine (refMay_any a la _ (h.out.below B0.out (Nat.le_refl _))).mono ?_
  rintro e V1 ⟨rfl, hb⟩
  rw [hm.out]
  have B1 := Hid.of (B0.out.trans (hb.mono B0.out.size))
  have KA1 := Hid.of (KA0.out.below hb KA0.out.lt)
  have KB1 := Hid.of (KB0.out.below hb KB0.out.lt)
  have KC1 := Hid.of (KC0.out.below hb KC0.out.lt)
  clear hb B0 KA0 KB0 KC0
  try clear x0 x1 x2 x3 x4 y0 y1 y2 y3 y4 z0 z1 z2 z3 z4
  try clear n0 n1 n2 n3 n4
  obtain ⟨x0, x1, x2, x3, x4⟩ := mcell_at KA1.out
  obtain ⟨y0, y1, y2, y3, y4⟩ := mcell_at KB1.out
  go_wp2_with fail
  refine (refMay_any b lb _ (h'.out.below B1.out (Nat.le_refl _))).mono ?_
  rintro e V2 ⟨rfl, hb⟩
  rw [hm'.out]
  have B2 := Hid.of (B1.out.trans (hb.mono B1.out.size))
  have KA2 := Hid.of (KA1.out.below hb KA1.out.lt)
  have KB2 := Hid.of (KB1.out.below hb KB1.out.lt)
  have KC2 := Hid.of (KC1.out.below hb KC1.out.lt)
  clear hb B1 KA1 KB1 KC1
  try clear x0 x1 x2 x3 x4 y0 y1 y2 y3 y4 z0 z1 z2 z3 z4
  try clear n0 n1 n2 n3 n4
  obtain ⟨x0, x1, x2, x3, x4⟩ := mcell_at KA2.out
  obtain ⟨y0, y1, y2, y3, y4⟩ := mcell_at KB2.out
  go_wp2
  go_ret
  exact ⟨rfl, B2.out⟩

set_option maxRecDepth 100000 in
set_option maxHeartbeats 8000000 in
theorem top_za (a b c : Mach) (la lb lc : ML) (w : World) (hT : Hid (Tab w)) (h : Hid (MAt w a la)) (h' : Hid (MAt w b lb)) (h'' : Hid (MAt w c lc)) (hm : Hid (mayB a = true)) (hm' : Hid (mayB b = true)) (he : (a.ev != b.ev) = false) (hz : 6 < a.st) :
    Calls Tryd.prog 14 #[mval a la, mval b lb, mval c lc] w fun e w' => e = .returned (.bool true) ∧ Below w.heap.size w w' := by
  have B0 : Hid (Below w.heap.size w (((w.alloc (.cells (mcells a la) 25)).alloc (.cells (mcells b lb) 25)).alloc (.cells (mcells c lc) 25))) := (((Below.refl _ _).alloc (Nat.le_refl _) _).alloc (by simp) _).alloc (by simp; omega) _
  have KA0 : Hid (Blk (((w.alloc (.cells (mcells a la) 25)).alloc (.cells (mcells b lb) 25)).alloc (.cells (mcells c lc) 25)) w.heap.size 25 (mcells a la)) := ((Blk.new w _ _).alloc _).alloc _
  have KB0 : Hid (Blk (((w.alloc (.cells (mcells a la) 25)).alloc (.cells (mcells b lb) 25)).alloc (.cells (mcells c lc) 25)) (w.heap.size + 1) 25 (mcells b lb)) := by
    have := (Blk.new (w.alloc (.cells (mcells a la) 25)) 25 (mcells b lb)).alloc (.cells (mcells c lc) 25)
    rwa [World.size_alloc] at this
  have KC0 : Hid (Blk (((w.alloc (.cells (mcells a la) 25)).alloc (.cells (mcells b lb) 25)).alloc (.cells (mcells c lc) 25)) (w.heap.size + 1 + 1) 25 (mcells c lc)) := by
    have := Blk.new ((w.alloc (.cells (mcells a la) 25)).alloc (.cells (mcells b lb) 25)) 25 (mcells c lc)
    rwa [World.size_alloc, World.size_alloc] at this
  go_enter Tryd.func14, Tryd.ntmps14
  go_wp2_with fail
  revert B0 KA0 KB0 KC0
  generalize (((w.alloc (.cells (mcells a la) 25)).alloc (.cells (mcells b lb) 25)).alloc (.cells (mcells c lc) 25)) = V0
  intro B0 KA0 KB0 KC0
  refine (refMay_any a la _ (h.out.below B0.out (Nat.le_refl _))).mono ?_
  rintro e V1 ⟨rfl, hb⟩
  rw [hm.out]
  have B1 := Hid.of (B0.out.trans (hb.mono B0.out.size))
  have KA1 := Hid.of (KA0.out.below hb KA0.out.lt)
  have KB1 := Hid.of (KB0.out.below hb KB0.out.lt)
  have KC1 := Hid.of (KC0.out.below hb KC0.out.lt)
  clear hb B0 KA0 KB0 KC0
  try clear x0 x1 x2 x3 x4 y0 y1 y2 y3 y4 z0 z1 z2 z3 z4
  try clear n0 n1 n2 n3 n4
  obtain ⟨x0, x1, x2, x3, x4⟩ := mcell_at KA1.out
  obtain ⟨y0, y1, y2, y3, y4⟩ := mcell_at KB1.out
  go_wp2_with fail
  refine (refMay_any b lb _ (h'.out.below B1.out (Nat.le_refl _))).mono ?_
  rintro e V2 ⟨rfl, hb⟩
  rw [hm'.out]
  have B2 := Hid.of (B1.out.trans (hb.mono B1.out.size))
  have KA2 := Hid.of (KA1.out.below hb KA1.out.lt)
  have KB2 := Hid.of (KB1.out.below hb KB1.out.lt)
  have KC2 := Hid.of (KC1.out.below hb KC1.out.lt)
  clear hb B1 KA1 KB1 KC1
  try clear x0 x1 x2 x3 x4 y0 y1 y2 y3 y4 z0 z1 z2 z3 z4
  try clear n0 n1 n2 n3 n4
  obtain ⟨x0, x1, x2, x3, x4⟩ := mcell_at KA2.out
  obtain ⟨y0, y1, y2, y3, y4⟩ := mcell_at KB2.out
  go_wp2
  go_ret
  exact ⟨rfl, B2.out⟩

set_option maxRecDepth 100000 in
set_option maxHeartbeats 8000000 in
theorem top_zb (a b c : Mach) (la lb lc : ML) (w : World) (hT : Hid (Tab w)) (h : Hid (MAt w a la)) (h' : Hid (MAt w b lb)) (h'' : Hid (MAt w c lc)) (hm : Hid (mayB a = true)) (hm' : Hid (mayB b = true)) (he : (a.ev != b.ev) = false) (hz : a.st ≤ 6) (hz' : 6 < b.st) :
    Calls Tryd.prog 14 #[mval a la, mval b lb, mval c lc] w fun e w' => e = .returned (.bool true) ∧ Below w.heap.size w w' := by
  have B0 : Hid (Below w.heap.size w (((w.alloc (.cells (mcells a la) 25)).alloc (.cells (mcells b lb) 25)).alloc (.cells (mcells c lc) 25))) := (((Below.refl _ _).alloc (Nat.le_refl _) _).alloc (by simp) _).alloc (by simp; omega) _
  have KA0 : Hid (Blk (((w.alloc (.cells (mcells a la) 25)).alloc (.cells (mcells b lb) 25)).alloc (.cells (mcells c lc) 25)) w.heap.size 25 (mcells a la)) := ((Blk.new w _ _).alloc _).alloc _
  have KB0 : Hid (Blk (((w.alloc (.cells (mcells a la) 25)).alloc (.cells (mcells b lb) 25)).alloc (.cells (mcells c lc) 25)) (w.heap.size + 1) 25 (mcells b lb)) := by
    have := (Blk.new (w.alloc (.cells (mcells a la) 25)) 25 (mcells b lb)).alloc (.cells (mcells c lc) 25)
    rwa [World.size_alloc] at this
  have KC0 : Hid (Blk (((w.alloc (.cells (mcells a la) 25)).alloc (.cells (mcells b lb) 25)).alloc (.cells (mcells c lc) 25)) (w.heap.size + 1 + 1) 25 (mcells c lc)) := by
    have := Blk.new ((w.alloc (.cells (mcells a la) 25)).alloc (.cells (mcells b lb) 25)) 25 (mcells c lc)
    rwa [World.size_alloc, World.size_alloc] at this
  go_enter Tryd.func14, Tryd.ntmps14
  go_wp2_with fail
  revert B0 KA0 KB0 KC0
  generalize (((w.alloc (.cells (mcells a la) 25)).alloc (.cells (mcells b lb) 25)).alloc (.cells (mcells c lc) 25)) = V0
  intro B0 KA0 KB0 KC0
  refine (refMay_any a la _ (h.out.below B0.out (Nat.le_refl _))).mono ?_
  rintro e V1 ⟨rfl, hb⟩
  rw [hm.out]
  have B1 := Hid.of (B0.out.trans (hb.mono B0.out.size))
  have KA1 := Hid.of (KA0.out.below hb KA0.out.lt)
  have KB1 := Hid.of (KB0.out.below hb KB0.out.lt)
  have KC1 := Hid.of (KC0.out.below hb KC0.out.lt)
  clear hb B0 KA0 KB0 KC0
  try clear x0 x1 x2 x3 x4 y0 y1 y2 y3 y4 z0 z1 z2 z3 z4
  try clear n0 n1 n2 n3 n4
  obtain ⟨x0, x1, x2, x3, x4⟩ := mcell_at KA1.out
  obtain ⟨y0, y1, y2, y3, y4⟩ := mcell_at KB1.out
  go_wp2_with fail
  refine (refMay_any b lb _ (h'.out.below B1.out (Nat.le_refl _))).mono ?_
  rintro e V2 ⟨rfl, hb⟩
  rw [hm'.out]
  have B2 := Hid.of (B1.out.trans (hb.mono B1.out.size))
  have KA2 := Hid.of (KA1.out.below hb KA1.out.lt)
  have KB2 := Hid.of (KB1.out.below hb KB1.out.lt)
  have KC2 := Hid.of (KC1.out.below hb KC1.out.lt)
  clear hb B1 KA1 KB1 KC1
  try clear x0 x1 x2 x3 x4 y0 y1 y2 y3 y4 z0 z1 z2 z3 z4
  try clear n0 n1 n2 n3 n4
  obtain ⟨x0, x1, x2, x3, x4⟩ := mcell_at KA2.out
  obtain ⟨y0, y1, y2, y3, y4⟩ := mcell_at KB2.out
  go_wp2
  go_ret
  exact ⟨rfl, B2.out⟩

set_option maxRecDepth 100000 in
set_option maxHeartbeats 8000000 in
theorem top_none (a b c : Mach) (la lb lc : ML) (w : World) (hT : Hid (Tab w)) (h : Hid (MAt w a la)) (h' : Hid (MAt w b lb)) (h'' : Hid (MAt w c lc)) (hm : Hid (mayB a = true)) (hm' : Hid (mayB b = true)) (he : (a.ev != b.ev) = false) (HE : Hid (a.ev = b.ev)) (hz : a.st ≤ 6) (hz' : b.st ≤ 6) (hs : Hid (besideS a b (rngI a.ev.toNat) (rngI a.ev.toNat) = none)) :
    Calls Tryd.prog 14 #[mval a la, mval b lb, mval c lc] w fun e w' => e = .returned (.bool true) ∧ Below w.heap.size w w' := by
  have hN := beside_none hm.out hm'.out hz hz' (fun e h0 h1 => has_rng _ e h0 (by omega)) (fun e h0 h1 => has_rng _ e h0 (by omega)) hs.out
  have hA := (mayB_size hm.out).2.2.2.2
  have hB := (mayB_size hm'.out).2.2.2.2
  obtain ⟨N, HN⟩ : ∃ N, Hid (N = a.arrows.length * b.arrows.length) := ⟨_, rfl⟩
  rw [← HN.out] at hN
  have hNb : N ≤ 4096 * 4096 := by rw [HN.out]; exact Nat.mul_le_mul hA hB
  have hw0 : IntKind.i64.wrap ((a.arrows.length : Int) * (b.arrows.length : Int)) = (N : Int) := by rw [IntKind.wrap_i64, ← Int.natCast_mul, ← HN.out]; omega
  have hza := mayB_size hm.out
  unfold sizeOk at hza
  obtain ⟨v, hv⟩ : ∃ v : Nat, a.ev = (v : Int) := ⟨a.ev.toNat, by omega⟩
  have hv8 : v ≤ 8 := by omega
  have hvN : a.ev.toNat = v := by omega
  clear hza
  rw [hvN] at hs
  have KALL : Hid (∀ W, Calls Tryd.prog 45 #[.int .i64 a.ev] W fun e w' => GivesO W (rngI v) e w') := fun W => by rw [hv]; exact allT_any v hv8 W
  have HROW : Hid (rowB a.ev (rngI v) = true) := by show _ = _; rw [hv]; exact (rowB_iff _ (by omega) _).2 ⟨inc_rngI _, fun x hx => (mem_rngI _ x).1 hx⟩
  clear hv hv8 hvN
  have B0 : Hid (Below w.heap.size w (((w.alloc (.cells (mcells a la) 25)).alloc (.cells (mcells b lb) 25)).alloc (.cells (mcells c lc) 25))) := (((Below.refl _ _).alloc (Nat.le_refl _) _).alloc (by simp) _).alloc (by simp; omega) _
  have KA0 : Hid (Blk (((w.alloc (.cells (mcells a la) 25)).alloc (.cells (mcells b lb) 25)).alloc (.cells (mcells c lc) 25)) w.heap.size 25 (mcells a la)) := ((Blk.new w _ _).alloc _).alloc _
  have KB0 : Hid (Blk (((w.alloc (.cells (mcells a la) 25)).alloc (.cells (mcells b lb) 25)).alloc (.cells (mcells c lc) 25)) (w.heap.size + 1) 25 (mcells b lb)) := by
    have := (Blk.new (w.alloc (.cells (mcells a la) 25)) 25 (mcells b lb)).alloc (.cells (mcells c lc) 25)
    rwa [World.size_alloc] at this
  have KC0 : Hid (Blk (((w.alloc (.cells (mcells a la) 25)).alloc (.cells (mcells b lb) 25)).alloc (.cells (mcells c lc) 25)) (w.heap.size + 1 + 1) 25 (mcells c lc)) := by
    have := Blk.new ((w.alloc (.cells (mcells a la) 25)).alloc (.cells (mcells b lb) 25)) 25 (mcells c lc)
    rwa [World.size_alloc, World.size_alloc] at this
  go_enter Tryd.func14, Tryd.ntmps14
  go_wp2_with fail
  revert B0 KA0 KB0 KC0
  generalize (((w.alloc (.cells (mcells a la) 25)).alloc (.cells (mcells b lb) 25)).alloc (.cells (mcells c lc) 25)) = V0
  intro B0 KA0 KB0 KC0
  refine (refMay_any a la _ (h.out.below B0.out (Nat.le_refl _))).mono ?_
  rintro e V1 ⟨rfl, hb⟩
  rw [hm.out]
  have B1 := Hid.of (B0.out.trans (hb.mono B0.out.size))
  have KA1 := Hid.of (KA0.out.below hb KA0.out.lt)
  have KB1 := Hid.of (KB0.out.below hb KB0.out.lt)
  have KC1 := Hid.of (KC0.out.below hb KC0.out.lt)
  clear hb B0 KA0 KB0 KC0
  try clear x0 x1 x2 x3 x4 y0 y1 y2 y3 y4 z0 z1 z2 z3 z4
  try clear n0 n1 n2 n3 n4
  obtain ⟨x0, x1, x2, x3, x4⟩ := mcell_at KA1.out
  obtain ⟨y0, y1, y2, y3, y4⟩ := mcell_at KB1.out
  go_wp2_with fail
  refine (refMay_any b lb _ (h'.out.below B1.out (Nat.le_refl _))).mono ?_
  rintro e V2 ⟨rfl, hb⟩
  rw [hm'.out]
  have B2 := Hid.of (B1.out.trans (hb.mono B1.out.size))
  have KA2 := Hid.of (KA1.out.below hb KA1.out.lt)
  have KB2 := Hid.of (KB1.out.below hb KB1.out.lt)
  have KC2 := Hid.of (KC1.out.below hb KC1.out.lt)
  clear hb B1 KA1 KB1 KC1
  try clear x0 x1 x2 x3 x4 y0 y1 y2 y3 y4 z0 z1 z2 z3 z4
  try clear n0 n1 n2 n3 n4
  obtain ⟨x0, x1, x2, x3, x4⟩ := mcell_at KA2.out
  obtain ⟨y0, y1, y2, y3, y4⟩ := mcell_at KB2.out
  go_wp2_with fail
  refine (KALL.out _).mono ?_
  rintro e V3 ⟨ev3, rfl, o3, hb⟩
  have B3 := Hid.of (B2.out.trans (hb.mono B2.out.size))
  have KA3 := Hid.of (KA2.out.below hb KA2.out.lt)
  have KB3 := Hid.of (KB2.out.below hb KB2.out.lt)
  have KC3 := Hid.of (KC2.out.below hb KC2.out.lt)
  clear hb B2 KA2 KB2 KC2
  try clear x0 x1 x2 x3 x4 y0 y1 y2 y3 y4 z0 z1 z2 z3 z4
  try clear n0 n1 n2 n3 n4
  obtain ⟨x0, x1, x2, x3, x4⟩ := mcell_at KA3.out
  obtain ⟨y0, y1, y2, y3, y4⟩ := mcell_at KB3.out
  obtain ⟨ea, ec, rfl, e1, e2, e3, -⟩ := o3.at2
  clear o3
  go_wp2_with fail
  refine (pBeside_any a b la lb ea ea ec ec (rngI v) (rngI v) _ (h.out.below B3.out (Nat.le_refl _)) (h'.out.below B3.out (Nat.le_refl _)) e1 ⟨e2, e3⟩ e1 ⟨e2, e3⟩).mono ?_
  intro e V4 hp
  unfold BesAll at hp
  rw [if_neg (by rw [hm.out, hm'.out]; simp), if_neg (fun hn => hn HE.out), if_neg (by rw [HROW.out]; simp)] at hp
  unfold BesGives at hp
  rw [hs.out] at hp
  clear e1 e2 e3 HROW
  dsimp only at hp
  obtain ⟨rfl, hb⟩ := hp
  have B4 := Hid.of (B3.out.trans (hb.mono B3.out.size))
  have KA4 := Hid.of (KA3.out.below hb KA3.out.lt)
  have KB4 := Hid.of (KB3.out.below hb KB3.out.lt)
  have KC4 := Hid.of (KC3.out.below hb KC3.out.lt)
  clear hb B3 KA3 KB3 KC3
  have b5 : Below V4.heap.size V4 (V4.alloc (.cells #[.int .i64 0, .int .i64 0, .slice none 0 0, .slice none 0 0, .slice none 0 0] 25)) := (Below.refl _ _).alloc (Nat.le_refl _) _
  have B5 := Hid.of (B4.out.trans (b5.mono B4.out.size))
  have KA5 := Hid.of (KA4.out.below b5 KA4.out.lt)
  have KB5 := Hid.of (KB4.out.below b5 KB4.out.lt)
  clear b5
  try clear x0 x1 x2 x3 x4 y0 y1 y2 y3 y4 z0 z1 z2 z3 z4
  try clear n0 n1 n2 n3 n4
  obtain ⟨x0, x1, x2, x3, x4⟩ := mcell_at KA5.out
  obtain ⟨y0, y1, y2, y3, y4⟩ := mcell_at KB5.out
  go_wp2
  go_ret
  exact ⟨ret_bool (decide_eq_true (by omega)), B5.out⟩

set_option maxRecDepth 100000 in
set_option maxHeartbeats 8000000 in
theorem top_some (a b c : Mach) (la lb lc : ML) (w : World) (hT : Hid (Tab w)) (h : Hid (MAt w a la)) (h' : Hid (MAt w b lb)) (h'' : Hid (MAt w c lc)) (hm : Hid (mayB a = true)) (hm' : Hid (mayB b = true)) (he : (a.ev != b.ev) = false) (HE : Hid (a.ev = b.ev)) (hz : a.st ≤ 6) (hz' : b.st ≤ 6) (s : BS) (hs : Hid (besideS a b (rngI a.ev.toNat) (rngI a.ev.toNat) = some s)) :
    Calls Tryd.prog 14 #[mval a la, mval b lb, mval c lc] w fun e w' => e = .returned (.bool true) ∧ Below w.heap.size w w' := by
  have HS0 := Hid.of hs.out
  have hza := mayB_size hm.out
  unfold sizeOk at hza
  obtain ⟨v, hv⟩ : ∃ v : Nat, a.ev = (v : Int) := ⟨a.ev.toNat, by omega⟩
  have hv8 : v ≤ 8 := by omega
  have hvN : a.ev.toNat = v := by omega
  clear hza
  rw [hvN] at hs
  have KALL : Hid (∀ W, Calls Tryd.prog 45 #[.int .i64 a.ev] W fun e w' => GivesO W (rngI v) e w') := fun W => by rw [hv]; exact allT_any v hv8 W
  have HROW : Hid (rowB a.ev (rngI v) = true) := by show _ = _; rw [hv]; exact (rowB_iff _ (by omega) _).2 ⟨inc_rngI _, fun x hx => (mem_rngI _ x).1 hx⟩
  clear hv hv8 hvN
  have B0 : Hid (Below w.heap.size w (((w.alloc (.cells (mcells a la) 25)).alloc (.cells (mcells b lb) 25)).alloc (.cells (mcells c lc) 25))) := (((Below.refl _ _).alloc (Nat.le_refl _) _).alloc (by simp) _).alloc (by simp; omega) _
  have KA0 : Hid (Blk (((w.alloc (.cells (mcells a la) 25)).alloc (.cells (mcells b lb) 25)).alloc (.cells (mcells c lc) 25)) w.heap.size 25 (mcells a la)) := ((Blk.new w _ _).alloc _).alloc _
  have KB0 : Hid (Blk (((w.alloc (.cells (mcells a la) 25)).alloc (.cells (mcells b lb) 25)).alloc (.cells (mcells c lc) 25)) (w.heap.size + 1) 25 (mcells b lb)) := by
    have := (Blk.new (w.alloc (.cells (mcells a la) 25)) 25 (mcells b lb)).alloc (.cells (mcells c lc) 25)
    rwa [World.size_alloc] at this
  have KC0 : Hid (Blk (((w.alloc (.cells (mcells a la) 25)).alloc (.cells (mcells b lb) 25)).alloc (.cells (mcells c lc) 25)) (w.heap.size + 1 + 1) 25 (mcells c lc)) := by
    have := Blk.new ((w.alloc (.cells (mcells a la) 25)).alloc (.cells (mcells b lb) 25)) 25 (mcells c lc)
    rwa [World.size_alloc, World.size_alloc] at this
  go_enter Tryd.func14, Tryd.ntmps14
  go_wp2_with fail
  revert B0 KA0 KB0 KC0
  generalize (((w.alloc (.cells (mcells a la) 25)).alloc (.cells (mcells b lb) 25)).alloc (.cells (mcells c lc) 25)) = V0
  intro B0 KA0 KB0 KC0
  refine (refMay_any a la _ (h.out.below B0.out (Nat.le_refl _))).mono ?_
  rintro e V1 ⟨rfl, hb⟩
  rw [hm.out]
  have B1 := Hid.of (B0.out.trans (hb.mono B0.out.size))
  have KA1 := Hid.of (KA0.out.below hb KA0.out.lt)
  have KB1 := Hid.of (KB0.out.below hb KB0.out.lt)
  have KC1 := Hid.of (KC0.out.below hb KC0.out.lt)
  clear hb B0 KA0 KB0 KC0
  try clear x0 x1 x2 x3 x4 y0 y1 y2 y3 y4 z0 z1 z2 z3 z4
  try clear n0 n1 n2 n3 n4
  obtain ⟨x0, x1, x2, x3, x4⟩ := mcell_at KA1.out
  obtain ⟨y0, y1, y2, y3, y4⟩ := mcell_at KB1.out
  go_wp2_with fail
  refine (refMay_any b lb _ (h'.out.below B1.out (Nat.le_refl _))).mono ?_
  rintro e V2 ⟨rfl, hb⟩
  rw [hm'.out]
  have B2 := Hid.of (B1.out.trans (hb.mono B1.out.size))
  have KA2 := Hid.of (KA1.out.below hb KA1.out.lt)
  have KB2 := Hid.of (KB1.out.below hb KB1.out.lt)
  have KC2 := Hid.of (KC1.out.below hb KC1.out.lt)
  clear hb B1 KA1 KB1 KC1
  try clear x0 x1 x2 x3 x4 y0 y1 y2 y3 y4 z0 z1 z2 z3 z4
  try clear n0 n1 n2 n3 n4
  obtain ⟨x0, x1, x2, x3, x4⟩ := mcell_at KA2.out
  obtain ⟨y0, y1, y2, y3, y4⟩ := mcell_at KB2.out
  go_wp2_with fail
  refine (KALL.out _).mono ?_
  rintro e V3 ⟨ev3, rfl, o3, hb⟩
  have B3 := Hid.of (B2.out.trans (hb.mono B2.out.size))
  have KA3 := Hid.of (KA2.out.below hb KA2.out.lt)
  have KB3 := Hid.of (KB2.out.below hb KB2.out.lt)
  have KC3 := Hid.of (KC2.out.below hb KC2.out.lt)
  clear hb B2 KA2 KB2 KC2
  try clear x0 x1 x2 x3 x4 y0 y1 y2 y3 y4 z0 z1 z2 z3 z4
  try clear n0 n1 n2 n3 n4
  obtain ⟨x0, x1, x2, x3, x4⟩ := mcell_at KA3.out
  obtain ⟨y0, y1, y2, y3, y4⟩ := mcell_at KB3.out
  obtain ⟨ea, ec, rfl, e1, e2, e3, -⟩ := o3.at2
  clear o3
  go_wp2_with fail
  refine (pBeside_any a b la lb ea ea ec ec (rngI v) (rngI v) _ (h.out.below B3.out (Nat.le_refl _)) (h'.out.below B3.out (Nat.le_refl _)) e1 ⟨e2, e3⟩ e1 ⟨e2, e3⟩).mono ?_
  intro e V4 hp
  unfold BesAll at hp
  rw [if_neg (by rw [hm.out, hm'.out]; simp), if_neg (fun hn => hn HE.out), if_neg (by rw [HROW.out]; simp)] at hp
  unfold BesGives at hp
  rw [hs.out] at hp
  clear e1 e2 e3 HROW
  dsimp only at hp
  obtain ⟨L, vp, rfl, mt4, -, hb⟩ := hp
  have B4 := Hid.of (B3.out.trans (hb.mono B3.out.size))
  have KA4 := Hid.of (KA3.out.below hb KA3.out.lt)
  have KB4 := Hid.of (KB3.out.below hb KB3.out.lt)
  have KC4 := Hid.of (KC3.out.below hb KC3.out.lt)
  have MT4 := Hid.of mt4
  clear hb B3 KA3 KB3 KC3 mt4
  obtain ⟨M, HM⟩ : ∃ M, Hid (M = besideM a b s) := ⟨_, rfl⟩
  rw [← HM.out] at MT4 ⊢
  have b5 : Below V4.heap.size V4 (V4.alloc (.cells (mcells M L) 25)) := (Below.refl _ _).alloc (Nat.le_refl _) _
  have B5 := Hid.of (B4.out.trans (b5.mono B4.out.size))
  have KA5 := Hid.of (KA4.out.below b5 KA4.out.lt)
  have KB5 := Hid.of (KB4.out.below b5 KB4.out.lt)
  have KC5 := Hid.of (KC4.out.below b5 KC4.out.lt)
  have KM5 := Hid.of (Blk.new V4 25 (mcells M L))
  have MT5 := Hid.of (MT4.out.below b5 (Nat.le_refl _))
  clear b5 B4 KA4 KB4 KC4 MT4
  try clear x0 x1 x2 x3 x4 y0 y1 y2 y3 y4 z0 z1 z2 z3 z4
  try clear n0 n1 n2 n3 n4
  obtain ⟨x0, x1, x2, x3, x4⟩ := mcell_at KA5.out
  obtain ⟨y0, y1, y2, y3, y4⟩ := mcell_at KB5.out
  obtain ⟨z0, z1, z2, z3, z4⟩ := mcell_at KC5.out
  obtain ⟨n0, n1, n2, n3, n4⟩ := mcell_at KM5.out
  by_cases h6 : M.st ≤ 6
  · have zm : (besideM a b s).st ≤ 6 := by rw [← HM.out]; exact h6
    obtain ⟨t1, t2, -⟩ := top_in hm.out hm'.out HE.out hz hz' HS0.out zm
    have hmm := may_beside hm.out hm'.out HS0.out
    have HLAST := Hid.of (top_last hm.out hm'.out HE.out hz hz' HS0.out zm c)
    have HW1 : Hid (withOut M a = (true, (outW M a).getD [], 0)) := by show _ = _; rw [HM.out, withOut_in hmm hm.out rfl zm hz, t1]
    have HW2 : Hid (withOut M b = (true, (outW M b).getD [], 0)) := by show _ = _; rw [HM.out, withOut_in hmm hm'.out (show a.ev = b.ev from HE.out) zm hz', t2]
    rw [← HM.out] at HLAST
    clear zm t1 t2 hmm
    go_wp2_with fail
    revert B5 KA5 KB5 KC5 KM5 MT5
    try clear x0 x1 x2 x3 x4 y0 y1 y2 y3 y4 z0 z1 z2 z3 z4 n0 n1 n2 n3 n4
    show Hid (Below w.heap.size w (V4.alloc (.cells #[.int .i64 M.st, .int .i64 M.ev, .slice L.a1 M.starts.length L.c1, .slice L.a2 M.arrows.length L.c2, .slice L.a3 M.ends.length L.c3] 25))) → _
    generalize V4.alloc (.cells #[.int .i64 M.st, .int .i64 M.ev, .slice L.a1 M.starts.length L.c1, .slice L.a2 M.arrows.length L.c2, .slice L.a3 M.ends.length L.c3] 25) = V5
    intro B5 KA5 KB5 KC5 KM5 MT5
    obtain ⟨bd, hbd⟩ : ∃ bd, Hid (bd = V4.heap.size) := ⟨_, rfl⟩
    rw [← hbd.out] at KM5 ⊢
    obtain ⟨n0, n1, n2, n3, n4⟩ := mcell_at KM5.out
    obtain ⟨x0, x1, x2, x3, x4⟩ := mcell_at KA5.out
    obtain ⟨y0, y1, y2, y3, y4⟩ := mcell_at KB5.out
    obtain ⟨z0, z1, z2, z3, z4⟩ := mcell_at KC5.out
    go_wp2_with fail
    refine (pWith_any M a L la _ MT5.out (h.out.below B5.out (Nat.le_refl _)) (hT.out.below B5.out hT.out.lt)).mono ?_
    intro e V6 hp
    unfold WithPost at hp
    rw [HW1.out] at hp
    obtain ⟨va6, vc6, rfl, -, -, hb⟩ := hp
    have B6 := Hid.of (B5.out.trans (hb.mono B5.out.size))
    have KA6 := Hid.of (KA5.out.below hb KA5.out.lt)
    have KB6 := Hid.of (KB5.out.below hb KB5.out.lt)
    have KC6 := Hid.of (KC5.out.below hb KC5.out.lt)
    have KM6 := Hid.of (KM5.out.below hb KM5.out.lt)
    have MT6 := Hid.of (MT5.out.below hb (Nat.le_refl _))
    clear hb B5 KA5 KB5 KC5 KM5 MT5
    try clear x0 x1 x2 x3 x4 y0 y1 y2 y3 y4 z0 z1 z2 z3 z4
    try clear n0 n1 n2 n3 n4
    obtain ⟨x0, x1, x2, x3, x4⟩ := mcell_at KA6.out
    obtain ⟨y0, y1, y2, y3, y4⟩ := mcell_at KB6.out
    obtain ⟨z0, z1, z2, z3, z4⟩ := mcell_at KC6.out
    obtain ⟨n0, n1, n2, n3, n4⟩ := mcell_at KM6.out
    go_wp2_with fail
    refine (pWith_any M b L lb _ MT6.out (h'.out.below B6.out (Nat.le_refl _)) (hT.out.below B6.out hT.out.lt)).mono ?_
    intro e V7 hp
    unfold WithPost at hp
    rw [HW2.out] at hp
    obtain ⟨va7, vc7, rfl, -, -, hb⟩ := hp
    have B7 := Hid.of (B6.out.trans (hb.mono B6.out.size))
    have KA7 := Hid.of (KA6.out.below hb KA6.out.lt)
    have KB7 := Hid.of (KB6.out.below hb KB6.out.lt)
    have KC7 := Hid.of (KC6.out.below hb KC6.out.lt)
    have KM7 := Hid.of (KM6.out.below hb KM6.out.lt)
    have MT7 := Hid.of (MT6.out.below hb (Nat.le_refl _))
    clear hb B6 KA6 KB6 KC6 KM6 MT6
    try clear x0 x1 x2 x3 x4 y0 y1 y2 y3 y4 z0 z1 z2 z3 z4
    try clear n0 n1 n2 n3 n4
    obtain ⟨x0, x1, x2, x3, x4⟩ := mcell_at KA7.out
    obtain ⟨y0, y1, y2, y3, y4⟩ := mcell_at KB7.out
    obtain ⟨z0, z1, z2, z3, z4⟩ := mcell_at KC7.out
    obtain ⟨n0, n1, n2, n3, n4⟩ := mcell_at KM7.out
    obtain ⟨⟨p, wp, hh⟩, HP⟩ : ∃ o, Hid (o = withOut c a) := ⟨_, rfl⟩
    obtain ⟨⟨q, wq, ii⟩, HQ⟩ : ∃ o, Hid (o = withOut c b) := ⟨_, rfl⟩
    obtain ⟨⟨r, wr, kk⟩, HR⟩ : ∃ o, Hid (o = withOut c M) := ⟨_, rfl⟩
    rw [← HP.out, ← HQ.out, ← HR.out] at HLAST
    dsimp only at HLAST
    go_wp2_with fail
    refine (pWith_any c a lc la _ (h''.out.below B7.out (Nat.le_refl _)) (h.out.below B7.out (Nat.le_refl _)) (hT.out.below B7.out hT.out.lt)).mono ?_
    intro e V8 hp
    unfold WithPost at hp
    rw [← HP.out] at hp
    obtain ⟨va8, vc8, rfl, -, -, hb⟩ := hp
    have B8 := Hid.of (B7.out.trans (hb.mono B7.out.size))
    have KA8 := Hid.of (KA7.out.below hb KA7.out.lt)
    have KB8 := Hid.of (KB7.out.below hb KB7.out.lt)
    have KC8 := Hid.of (KC7.out.below hb KC7.out.lt)
    have KM8 := Hid.of (KM7.out.below hb KM7.out.lt)
    have MT8 := Hid.of (MT7.out.below hb (Nat.le_refl _))
    clear hb B7 KA7 KB7 KC7 KM7 MT7
    try clear x0 x1 x2 x3 x4 y0 y1 y2 y3 y4 z0 z1 z2 z3 z4
    try clear n0 n1 n2 n3 n4
    obtain ⟨x0, x1, x2, x3, x4⟩ := mcell_at KA8.out
    obtain ⟨y0, y1, y2, y3, y4⟩ := mcell_at KB8.out
    obtain ⟨z0, z1, z2, z3, z4⟩ := mcell_at KC8.out
    obtain ⟨n0, n1, n2, n3, n4⟩ := mcell_at KM8.out
    go_wp2_with fail
    refine (pWith_any c b lc lb _ (h''.out.below B8.out (Nat.le_refl _)) (h'.out.below B8.out (Nat.le_refl _)) (hT.out.below B8.out hT.out.lt)).mono ?_
    intro e V9 hp
    unfold WithPost at hp
    rw [← HQ.out] at hp
    obtain ⟨va9, vc9, rfl, -, -, hb⟩ := hp
    have B9 := Hid.of (B8.out.trans (hb.mono B8.out.size))
    have KA9 := Hid.of (KA8.out.below hb KA8.out.lt)
    have KB9 := Hid.of (KB8.out.below hb KB8.out.lt)
    have KC9 := Hid.of (KC8.out.below hb KC8.out.lt)
    have KM9 := Hid.of (KM8.out.below hb KM8.out.lt)
    have MT9 := Hid.of (MT8.out.below hb (Nat.le_refl _))
    clear hb B8 KA8 KB8 KC8 KM8 MT8
    try clear x0 x1 x2 x3 x4 y0 y1 y2 y3 y4 z0 z1 z2 z3 z4
    try clear n0 n1 n2 n3 n4
    obtain ⟨x0, x1, x2, x3, x4⟩ := mcell_at KA9.out
    obtain ⟨y0, y1, y2, y3, y4⟩ := mcell_at KB9.out
    obtain ⟨z0, z1, z2, z3, z4⟩ := mcell_at KC9.out
    obtain ⟨n0, n1, n2, n3, n4⟩ := mcell_at KM9.out
    go_wp2_with fail
    refine (pWith_any c M lc L _ (h''.out.below B9.out (Nat.le_refl _)) MT9.out (hT.out.below B9.out hT.out.lt)).mono ?_
    intro e V10 hp
    unfold WithPost at hp
    rw [← HR.out] at hp
    obtain ⟨va10, vc10, rfl, -, -, hb⟩ := hp
    have B10 := Hid.of (B9.out.trans (hb.mono B9.out.size))
    have KA10 := Hid.of (KA9.out.below hb KA9.out.lt)
    have KB10 := Hid.of (KB9.out.below hb KB9.out.lt)
    have KC10 := Hid.of (KC9.out.below hb KC9.out.lt)
    have KM10 := Hid.of (KM9.out.below hb KM9.out.lt)
    have MT10 := Hid.of (MT9.out.below hb (Nat.le_refl _))
    clear hb B9 KA9 KB9 KC9 KM9 MT9
    try clear x0 x1 x2 x3 x4 y0 y1 y2 y3 y4 z0 z1 z2 z3 z4
    try clear n0 n1 n2 n3 n4
    obtain ⟨x0, x1, x2, x3, x4⟩ := mcell_at KA10.out
    obtain ⟨y0, y1, y2, y3, y4⟩ := mcell_at KB10.out
    obtain ⟨z0, z1, z2, z3, z4⟩ := mcell_at KC10.out
    obtain ⟨n0, n1, n2, n3, n4⟩ := mcell_at KM10.out
    by_cases hh0 : hh = 0
    · by_cases ii0 : ii = 0
      · obtain ⟨l1, l2⟩ := HLAST.out hh0 ii0
        subst hh0; subst ii0; subst l1; subst l2
        cases p <;> cases q <;> (go_wp2; go_ret; exact ⟨rfl, B10.out⟩)
      · have d1 : (hh != 0) = false := by rw [hh0]; rfl
        have d2 : (ii != 0) = true := by rw [bne_iff_ne]; exact ii0
        clear hh0 ii0
        go_wp2
        go_ret
        exact ⟨rfl, B10.out⟩
    · have d1 : (hh != 0) = true := by rw [bne_iff_ne]; exact hh0
      clear hh0
      go_wp2
      go_ret
      exact ⟨rfl, B10.out⟩
  · go_wp2
    go_ret
    exact ⟨rfl, B5.out⟩

theorem ttop_any (a b c : Mach) (la lb lc : ML) (w : World) (hT : Tab w) (h : MAt w a la) (h' : MAt w b lb) (h'' : MAt w c lc) :
    Calls Tryd.prog 14 #[mval a la, mval b lb, mval c lc] w fun e w' => e = .returned (.bool true) ∧ Below w.heap.size w w' := by
  cases hm : mayB a with
  | false => exact top_ma a b c la lb lc w (Hid.of hT) (Hid.of h) (Hid.of h') (Hid.of h'') (Hid.of hm)
  | true =>
    cases hm' : mayB b with
    | false => exact top_mb a b c la lb lc w (Hid.of hT) (Hid.of h) (Hid.of h') (Hid.of h'') (Hid.of hm) (Hid.of hm')
    | true =>
      by_cases he : a.ev = b.ev
      · have d : (a.ev != b.ev) = false := by rw [he]; simp
        by_cases z1 : a.st ≤ 6
        · by_cases z2 : b.st ≤ 6
          · cases hs : besideS a b (rngI a.ev.toNat) (rngI a.ev.toNat) with
            | none => exact top_none a b c la lb lc w (Hid.of hT) (Hid.of h) (Hid.of h') (Hid.of h'') (Hid.of hm) (Hid.of hm') d (Hid.of he) z1 z2 (Hid.of hs)
            | some s => exact top_some a b c la lb lc w (Hid.of hT) (Hid.of h) (Hid.of h') (Hid.of h'') (Hid.of hm) (Hid.of hm') d (Hid.of he) z1 z2 s (Hid.of hs)
          · exact top_zb a b c la lb lc w (Hid.of hT) (Hid.of h) (Hid.of h') (Hid.of h'') (Hid.of hm) (Hid.of hm') d z1 (by omega)
        · exact top_za a b c la lb lc w (Hid.of hT) (Hid.of h) (Hid.of h') (Hid.of h'') (Hid.of hm) (Hid.of hm') d (by omega)
      · exact top_ev a b c la lb lc w (Hid.of hT) (Hid.of h) (Hid.of h') (Hid.of h'') (Hid.of hm) (Hid.of hm') (by simp [he])

end Go.Proofs.YtbdkaobbfmgnhaaDoor
