/-
  reach.reached and reach.alive, of whatever machine may be.
  The walks of cmp.Compare, cmp.Or (at integers) and of machine.compare: which of two arrows stands ahead.
  The walk of machine.compare.
-/
import Derived.Test.YtcjcjaeaoianfaaDoorCAlive
import Derived.Test.YtcjcjaeaoianfaaDoorG07
import Derived.Test.YtcjcjaeaoianfaaDoorG03
namespace Go.Proofs.YtcjcjaeaoianfaaDoor
open Go.RowKit
set_option linter.unusedVariables false

set_option maxRecDepth 100000 in
set_option maxHeartbeats 4000000 in
theorem reached_none (st : Nat) (ev : Int) (starts : List Int) (ends : List Int) (l : ML) (w : World) (hst : st ≤ 256) (hs : Hid (At w l.a1 starts)) (hsl : Hid (starts.length ≤ maxLen)) (hsb : Hid (∀ x ∈ starts, 0 ≤ x ∧ x < (st : Int))) (hT : Hid (Tab w)) :
    Calls Tryd.prog 44 #[mval ⟨st, ev, starts, [], ends⟩ l] w fun e w' => RchGives w (·.f) (·.t) [] starts e w' := by
  obtain ⟨i0, hi, hz0, hz1, hz2⟩ := info_parts Tryd.infoSet
  have hmk : ∀ w : World, (Instr.makeSlice 80 (.int .i64 st) (.int .i64 st)).run Tryd.prog w = .ok (.slice (some ⟨w.heap.size, 0, none⟩) st st) (w.alloc (.cells (madeCells #[.int .u64 0, .int .u64 0, .int .u64 0, .int .u64 0] (st * 4)) 55)) := fun w => by
    have := run_make (P := Tryd.prog) w 80 55 i0 (sval zeroS) Tryd.underlying80 hi hz0 .i64 .i64 st st (by omega) (by omega) (by rw [hz2]; omega) (by omega)
    rw [hz1, Int.toNat_natCast] at this
    exact this
  clear hi hz0 hz1 hz2
  go_enter Tryd.func44, Tryd.ntmps44
  go_wp2
  have HM : Hid (Blk (((w.alloc (.cells (mcells ⟨st, ev, starts, [], ends⟩ l) 25)).alloc (.cells #[.int .u64 0, .int .u64 0, .int .u64 0, .int .u64 0] 55)).alloc (.cells (madeCells #[.int .u64 0, .int .u64 0, .int .u64 0, .int .u64 0] (st * 4)) 55)) w.heap.size 25 (mcells ⟨st, ev, starts, [], ends⟩ l)) := ((Blk.new w _ _).alloc _).alloc _
  have HS : Hid (SB (((w.alloc (.cells (mcells ⟨st, ev, starts, [], ends⟩ l) 25)).alloc (.cells #[.int .u64 0, .int .u64 0, .int .u64 0, .int .u64 0] 55)).alloc (.cells (madeCells #[.int .u64 0, .int .u64 0, .int .u64 0, .int .u64 0] (st * 4)) 55)) (w.heap.size + 1) zeroS) := by
    have := (Blk.new (w.alloc (.cells (mcells ⟨st, ev, starts, [], ends⟩ l) 25)) 55 (scells zeroS)).alloc (.cells (madeCells #[.int .u64 0, .int .u64 0, .int .u64 0, .int .u64 0] (st * 4)) 55)
    rwa [World.size_alloc] at this
  have HT : Hid (TB (((w.alloc (.cells (mcells ⟨st, ev, starts, [], ends⟩ l) 25)).alloc (.cells #[.int .u64 0, .int .u64 0, .int .u64 0, .int .u64 0] 55)).alloc (.cells (madeCells #[.int .u64 0, .int .u64 0, .int .u64 0, .int .u64 0] (st * 4)) 55)) (w.heap.size + 2) st (tabK (·.f) (·.t) [])) := by
    have := Blk.new ((w.alloc (.cells (mcells ⟨st, ev, starts, [], ends⟩ l) 25)).alloc (.cells #[.int .u64 0, .int .u64 0, .int .u64 0, .int .u64 0] 55)) 55 (madeCells #[.int .u64 0, .int .u64 0, .int .u64 0, .int .u64 0] (st * 4))
    rw [World.size_alloc, World.size_alloc] at this
    exact TB.made this
  have HB : Hid (Below w.heap.size w (((w.alloc (.cells (mcells ⟨st, ev, starts, [], ends⟩ l) 25)).alloc (.cells #[.int .u64 0, .int .u64 0, .int .u64 0, .int .u64 0] 55)).alloc (.cells (madeCells #[.int .u64 0, .int .u64 0, .int .u64 0, .int .u64 0] (st * 4)) 55))) := (((Below.refl _ _).alloc (Nat.le_refl _) _).alloc (by simp) _).alloc (by simp; omega) _
  refine wp_loop_rounds 1 ?_
  rw [rounds_succ]
  revert HM HS HT HB
  generalize ((w.alloc (.cells (mcells ⟨st, ev, starts, [], ends⟩ l) 25)).alloc (.cells #[.int .u64 0, .int .u64 0, .int .u64 0, .int .u64 0] 55)).alloc (.cells (madeCells #[.int .u64 0, .int .u64 0, .int .u64 0, .int .u64 0] (st * 4)) 55) = wr
  intro HM HS HT HB
  have x2 : wr.cell? ⟨w.heap.size, 2, none⟩ = some (.slice l.a1 starts.length l.c1) := HM.out.cell 2 rfl
  clear hmk
  go_wp2_with fail
  refine (of_any l.a1 l.c1 starts _ (hs.out.below HB.out (Nat.le_refl _)) hsl.out (fun x hx => by have := hsb.out x hx; omega)).mono ?_
  rintro e w1 ⟨rfl, hb1⟩
  have HB1 := Hid.of (HB.out.trans (hb1.mono HB.out.size))
  have HT1 := Hid.of (HT.out.below hb1 HT.out.lt)
  have HS1 := Hid.of (HS.out.below hb1 HS.out.lt)
  clear hb1 x2
  go_wp2_with fail
  refine (spread_any (·.f) (·.t) [] starts st hst hsb.out (fun a ha => by simp at ha) _ _ (hT.out.below HB1.out hT.out.lt) HT1.out).mono ?_
  rintro e w2 ⟨F, hok, rfl, hrch, hb2⟩
  have HB2 := Hid.of (HB1.out.trans (hb2.mono HB1.out.size))
  have s2 := HS1.out.below hb2 HS1.out.lt
  obtain ⟨r0, r1, r2, r3⟩ := SB.cells s2
  have rz := s2.frozen
  have k2 := Hid.of (SB.set4 s2 F)
  have HR := Hid.of hrch
  have HO := Hid.of hok
  clear hb2 hrch hok s2
  go_wp2
  refine bodyPost_ret (v := sval F) ?_ rfl ⟨F, HO.out, rfl, HR.out, below_set4 HB2.out (b' := w.heap.size + 1) (by omega) _ _ _ _⟩
  exact results_cell_row (g := w.heap.size + 1) (p := 2) rfl _ _ _ _ _ _ rfl k2.out Tryd.underlying55 rfl (by kernel_rfl)

theorem reached_any (m : Mach) (l : ML) (w : World) (hm : mayB m = true) (h : MAt w m l) (hT : Tab w) :
    Calls Tryd.prog 44 #[mval m l] w fun e w' => RchGives w (·.f) (·.t) m.arrows m.starts e w' := by
  have hz := mayB_size hm
  have ha := may_arrs hm
  have hb := (may_starts hm).2
  obtain ⟨st, ev, starts, arrows, ends⟩ := m
  obtain ⟨z1, z2, z3, z4, z5⟩ := hz
  simp only at z1 z2 z3 z4 z5 ha hb
  obtain ⟨s, rfl⟩ : ∃ s : Nat, st = (s : Int) := ⟨st.toNat, by omega⟩
  obtain ⟨a1, c1, a2, c2, a3, c3⟩ := l
  have hsl : starts.length ≤ maxLen := Nat.le_trans h.s1 h.s2
  rcases h.a with h0 | ⟨b, off, h0, hlt, hc⟩
  · have h0 : arrows = [] := h0
    subst h0
    exact reached_none s ev starts ends _ w (by omega) h.s hsl hb hT
  · have h0 : a2 = some ⟨b, off, none⟩ := h0
    subst h0
    exact reached_some s ev starts arrows ends a1 c1 b off c2 a3 c3 w (by omega) z5 hlt hc (fun a h => by have := ha a h; exact ⟨⟨this.1, this.2.1⟩, this.2.2.1, this.2.2.2.1⟩) h.s hsl hb hT

set_option maxRecDepth 100000 in
set_option maxHeartbeats 4000000 in
theorem alive_none (st : Nat) (ev : Int) (starts : List Int) (ends : List Int) (l : ML) (w : World) (hst : st ≤ 256) (hs : Hid (At w l.a3 ends)) (hsl : Hid (ends.length ≤ maxLen)) (hsb : Hid (∀ x ∈ ends, 0 ≤ x ∧ x < (st : Int))) (hT : Hid (Tab w)) :
    Calls Tryd.prog 46 #[mval ⟨st, ev, starts, [], ends⟩ l] w fun e w' => RchGives w (·.t) (·.f) [] ends e w' := by
  obtain ⟨i0, hi, hz0, hz1, hz2⟩ := info_parts Tryd.infoSet
  have hmk : ∀ w : World, (Instr.makeSlice 80 (.int .i64 st) (.int .i64 st)).run Tryd.prog w = .ok (.slice (some ⟨w.heap.size, 0, none⟩) st st) (w.alloc (.cells (madeCells #[.int .u64 0, .int .u64 0, .int .u64 0, .int .u64 0] (st * 4)) 55)) := fun w => by
    have := run_make (P := Tryd.prog) w 80 55 i0 (sval zeroS) Tryd.underlying80 hi hz0 .i64 .i64 st st (by omega) (by omega) (by rw [hz2]; omega) (by omega)
    rw [hz1, Int.toNat_natCast] at this
    exact this
  clear hi hz0 hz1 hz2
  go_enter Tryd.func46, Tryd.ntmps46
  go_wp2
  have HM : Hid (Blk (((w.alloc (.cells (mcells ⟨st, ev, starts, [], ends⟩ l) 25)).alloc (.cells #[.int .u64 0, .int .u64 0, .int .u64 0, .int .u64 0] 55)).alloc (.cells (madeCells #[.int .u64 0, .int .u64 0, .int .u64 0, .int .u64 0] (st * 4)) 55)) w.heap.size 25 (mcells ⟨st, ev, starts, [], ends⟩ l)) := ((Blk.new w _ _).alloc _).alloc _
  have HS : Hid (SB (((w.alloc (.cells (mcells ⟨st, ev, starts, [], ends⟩ l) 25)).alloc (.cells #[.int .u64 0, .int .u64 0, .int .u64 0, .int .u64 0] 55)).alloc (.cells (madeCells #[.int .u64 0, .int .u64 0, .int .u64 0, .int .u64 0] (st * 4)) 55)) (w.heap.size + 1) zeroS) := by
    have := (Blk.new (w.alloc (.cells (mcells ⟨st, ev, starts, [], ends⟩ l) 25)) 55 (scells zeroS)).alloc (.cells (madeCells #[.int .u64 0, .int .u64 0, .int .u64 0, .int .u64 0] (st * 4)) 55)
    rwa [World.size_alloc] at this
  have HT : Hid (TB (((w.alloc (.cells (mcells ⟨st, ev, starts, [], ends⟩ l) 25)).alloc (.cells #[.int .u64 0, .int .u64 0, .int .u64 0, .int .u64 0] 55)).alloc (.cells (madeCells #[.int .u64 0, .int .u64 0, .int .u64 0, .int .u64 0] (st * 4)) 55)) (w.heap.size + 2) st (tabK (·.t) (·.f) [])) := by
    have := Blk.new ((w.alloc (.cells (mcells ⟨st, ev, starts, [], ends⟩ l) 25)).alloc (.cells #[.int .u64 0, .int .u64 0, .int .u64 0, .int .u64 0] 55)) 55 (madeCells #[.int .u64 0, .int .u64 0, .int .u64 0, .int .u64 0] (st * 4))
    rw [World.size_alloc, World.size_alloc] at this
    exact TB.made this
  have HB : Hid (Below w.heap.size w (((w.alloc (.cells (mcells ⟨st, ev, starts, [], ends⟩ l) 25)).alloc (.cells #[.int .u64 0, .int .u64 0, .int .u64 0, .int .u64 0] 55)).alloc (.cells (madeCells #[.int .u64 0, .int .u64 0, .int .u64 0, .int .u64 0] (st * 4)) 55))) := (((Below.refl _ _).alloc (Nat.le_refl _) _).alloc (by simp) _).alloc (by simp; omega) _
  refine wp_loop_rounds 1 ?_
  rw [rounds_succ]
  revert HM HS HT HB
  generalize ((w.alloc (.cells (mcells ⟨st, ev, starts, [], ends⟩ l) 25)).alloc (.cells #[.int .u64 0, .int .u64 0, .int .u64 0, .int .u64 0] 55)).alloc (.cells (madeCells #[.int .u64 0, .int .u64 0, .int .u64 0, .int .u64 0] (st * 4)) 55) = wr
  intro HM HS HT HB
  have x2 : wr.cell? ⟨w.heap.size, 4, none⟩ = some (.slice l.a3 ends.length l.c3) := HM.out.cell 4 rfl
  clear hmk
  go_wp2_with fail
  refine (of_any l.a3 l.c3 ends _ (hs.out.below HB.out (Nat.le_refl _)) hsl.out (fun x hx => by have := hsb.out x hx; omega)).mono ?_
  rintro e w1 ⟨rfl, hb1⟩
  have HB1 := Hid.of (HB.out.trans (hb1.mono HB.out.size))
  have HT1 := Hid.of (HT.out.below hb1 HT.out.lt)
  have HS1 := Hid.of (HS.out.below hb1 HS.out.lt)
  clear hb1 x2
  go_wp2_with fail
  refine (spread_any (·.t) (·.f) [] ends st hst hsb.out (fun a ha => by simp at ha) _ _ (hT.out.below HB1.out hT.out.lt) HT1.out).mono ?_
  rintro e w2 ⟨F, hok, rfl, hrch, hb2⟩
  have HB2 := Hid.of (HB1.out.trans (hb2.mono HB1.out.size))
  have s2 := HS1.out.below hb2 HS1.out.lt
  obtain ⟨r0, r1, r2, r3⟩ := SB.cells s2
  have rz := s2.frozen
  have k2 := Hid.of (SB.set4 s2 F)
  have HR := Hid.of hrch
  have HO := Hid.of hok
  clear hb2 hrch hok s2
  go_wp2
  refine bodyPost_ret (v := sval F) ?_ rfl ⟨F, HO.out, rfl, HR.out, below_set4 HB2.out (b' := w.heap.size + 1) (by omega) _ _ _ _⟩
  exact results_cell_row (g := w.heap.size + 1) (p := 2) rfl _ _ _ _ _ _ rfl k2.out Tryd.underlying55 rfl (by kernel_rfl)

theorem alive_any (m : Mach) (l : ML) (w : World) (hm : mayB m = true) (h : MAt w m l) (hT : Tab w) :
    Calls Tryd.prog 46 #[mval m l] w fun e w' => RchGives w (·.t) (·.f) m.arrows m.ends e w' := by
  have hz := mayB_size hm
  have ha := may_arrs hm
  have hb := (may_ends hm).2
  obtain ⟨st, ev, starts, arrows, ends⟩ := m
  obtain ⟨z1, z2, z3, z4, z5⟩ := hz
  simp only at z1 z2 z3 z4 z5 ha hb
  obtain ⟨s, rfl⟩ : ∃ s : Nat, st = (s : Int) := ⟨st.toNat, by omega⟩
  obtain ⟨a1, c1, a2, c2, a3, c3⟩ := l
  have hsl : ends.length ≤ maxLen := Nat.le_trans h.e1 h.e2
  rcases h.a with h0 | ⟨b, off, h0, hlt, hc⟩
  · have h0 : arrows = [] := h0
    subst h0
    exact alive_none s ev starts ends _ w (by omega) h.e hsl hb hT
  · have h0 : a2 = some ⟨b, off, none⟩ := h0
    subst h0
    exact alive_some s ev starts arrows ends a1 c1 b off c2 a3 c3 w (by omega) z5 hlt hc (fun a h => by have := ha a h; exact ⟨⟨this.1, this.2.1⟩, this.2.2.1, this.2.2.2.1⟩) h.e hsl hb hT

end Go.Proofs.YtcjcjaeaoianfaaDoor
namespace Go.Proofs.YtcjcjaeaoianfaaDoor
open Go.RowKit
set_option linter.unusedVariables false
set_option maxRecDepth 100000

set_option maxHeartbeats 400000 in
theorem isNaN_any (x : Int) (w : World) : Calls Tryd.prog 119 #[.int .i64 x] w fun e w' => e = .returned (.bool false) ∧ w' = w := by
  have h : (x != x) = false := by simp
  go_enter Tryd.func119, Tryd.ntmps119
  go_wp2
  go_ret
  exact ⟨rfl, rfl⟩

/-- -1, 0 or 1. -/
def cmpI (x y : Int) : Int := if x < y then -1 else if y < x then 1 else 0

theorem ret_i64 {a b : Int} (h : a = b) : Ending.returned (.int .i64 a) = .returned (.int .i64 b) := by rw [h]

set_option maxHeartbeats 1000000 in
theorem cmp_any (x y : Int) (w : World) : Calls Tryd.prog 96 #[.int .i64 x, .int .i64 y] w fun e w' => e = .returned (.int .i64 (cmpI x y)) ∧ w' = w := by
  have c1 := isNaN_any x
  have c2 := isNaN_any y
  by_cases h1 : x < y
  · have hr : Hid ((-1 : Int) = cmpI x y) := by show _ = _; simp [cmpI, h1]
    have f1 : decide (x < y) = true := by simpa using h1
    go_enter Tryd.func96, Tryd.ntmps96
    go_wp2_with (first | (go_at_call 119; refine (c1 _).mono ?_; rintro e w' ⟨rfl, rfl⟩) | (go_at_call 119; refine (c2 _).mono ?_; rintro e w' ⟨rfl, rfl⟩))
    go_ret
    exact ⟨ret_i64 hr.out, rfl⟩
  · have f1 : decide (x < y) = false := by simpa using h1
    by_cases h2 : y < x
    · have hr : Hid ((1 : Int) = cmpI x y) := by show _ = _; simp [cmpI, h1, h2]
      have f2 : decide (y < x) = true := by simpa using h2
      go_enter Tryd.func96, Tryd.ntmps96
      go_wp2_with (first | (go_at_call 119; refine (c1 _).mono ?_; rintro e w' ⟨rfl, rfl⟩) | (go_at_call 119; refine (c2 _).mono ?_; rintro e w' ⟨rfl, rfl⟩))
      go_ret
      exact ⟨ret_i64 hr.out, rfl⟩
    · have hr : Hid ((0 : Int) = cmpI x y) := by show _ = _; simp [cmpI, h1, h2]
      have f2 : decide (y < x) = false := by simpa using h2
      go_enter Tryd.func96, Tryd.ntmps96
      go_wp2_with (first | (go_at_call 119; refine (c1 _).mono ?_; rintro e w' ⟨rfl, rfl⟩) | (go_at_call 119; refine (c2 _).mono ?_; rintro e w' ⟨rfl, rfl⟩))
      go_ret
      exact ⟨ret_i64 hr.out, rfl⟩

/-- The first that is not 0. -/
def orI (x y z : Int) : Int := if x = 0 then (if y = 0 then z else y) else x

set_option maxHeartbeats 1000000 in
theorem or_any (x y z : Int) (b : Nat) (w : World) (h0 : w.cell? ⟨b, 0, none⟩ = some (.int .i64 x)) (h1 : w.cell? ⟨b, 1, none⟩ = some (.int .i64 y)) (h2 : w.cell? ⟨b, 2, none⟩ = some (.int .i64 z)) :
    Calls Tryd.prog 95 #[.slice (some ⟨b, 0, none⟩) 3 3] w fun e w' => e = .returned (.int .i64 (orI x y z)) ∧ w' = w := by
  by_cases e0 : x = 0
  · subst e0
    by_cases e1 : y = 0
    · subst e1
      by_cases e2 : z = 0
      · subst e2
        go_enter Tryd.func95, Tryd.ntmps95
        go_wp2
        refine wp_loop_rounds 4 ?_
        rw [rounds_succ]
        go_wp2
        rw [rounds_succ]
        go_wp2
        rw [rounds_succ]
        go_wp2
        rw [rounds_succ]
        go_wp2
        go_ret
        exact ⟨ret_i64 (by simp [orI]), rfl⟩
      · have f2 : (z == 0) = false := by simpa using e2
        have f2' : (z != 0) = true := by simpa using e2
        have hr : Hid (z = orI 0 0 z) := by show _ = _; simp [orI]
        go_enter Tryd.func95, Tryd.ntmps95
        go_wp2
        refine wp_loop_rounds 4 ?_
        rw [rounds_succ]
        go_wp2
        rw [rounds_succ]
        go_wp2
        rw [rounds_succ]
        go_wp2
        go_ret
        exact ⟨ret_i64 hr.out, rfl⟩
    · have f1 : (y == 0) = false := by simpa using e1
      have f1' : (y != 0) = true := by simpa using e1
      have hr : Hid (y = orI 0 y z) := by show _ = _; simp [orI, e1]
      go_enter Tryd.func95, Tryd.ntmps95
      go_wp2
      refine wp_loop_rounds 4 ?_
      rw [rounds_succ]
      go_wp2
      rw [rounds_succ]
      go_wp2
      go_ret
      exact ⟨ret_i64 hr.out, rfl⟩
  · have f0 : (x == 0) = false := by simpa using e0
    have f0' : (x != 0) = true := by simpa using e0
    have hr : Hid (x = orI x y z) := by show _ = _; simp [orI, e0]
    go_enter Tryd.func95, Tryd.ntmps95
    go_wp2
    refine wp_loop_rounds 4 ?_
    rw [rounds_succ]
    go_wp2
    go_ret
    exact ⟨ret_i64 hr.out, rfl⟩

/-- Which of two arrows stands ahead, by its sign. -/
def cmpA (a b : Arr) : Int := orI (cmpI a.f b.f) (cmpI a.e b.e) (cmpI a.t b.t)

theorem cmpA_ahead (a b : Arr) : decide (0 ≤ cmpA a b) = !aheadB a b := by
  unfold cmpA aheadB orI cmpI
  by_cases h1 : a.f < b.f
  · simp [h1, show ¬ a.f = b.f by omega]
  · by_cases h2 : b.f < a.f
    · simp [h1, h2, show ¬ a.f = b.f by omega]
    · have e : a.f = b.f := by omega
      by_cases h3 : a.e < b.e
      · simp [e, h3, show ¬ a.e = b.e by omega]
      · by_cases h4 : b.e < a.e
        · simp [e, h3, h4, show ¬ a.e = b.e by omega]
        · have e' : a.e = b.e := by omega
          by_cases h5 : a.t < b.t
          · simp [e, e', h5]
          · by_cases h6 : b.t < a.t
            · simp [e, e', h5, h6]
            · simp [e, e', h5, h6]

end Go.Proofs.YtcjcjaeaoianfaaDoor
namespace Go.Proofs.YtcjcjaeaoianfaaDoor
open Go.RowKit
set_option linter.unusedVariables false

/-- An arrow's cells. -/
abbrev acells (a : Arr) : Array Value := #[.int .i64 a.f, .int .i64 a.e, .int .i64 a.t]

set_option maxRecDepth 100000 in
set_option maxHeartbeats 4000000 in
theorem compare_any (a b : Arr) (w : World) :
    Calls Tryd.prog 71 #[.agg (acells a), .agg (acells b)] w fun e w' => e = .returned (.int .i64 (cmpA a b)) ∧ Below w.heap.size w w' := by
  have k1 : Blk ((w.alloc (.cells (acells a) 51)).alloc (.cells (acells b) 51)) w.heap.size 51 (acells a) := (Blk.new w _ _).alloc _
  have k2 : Blk ((w.alloc (.cells (acells a) 51)).alloc (.cells (acells b) 51)) (w.heap.size + 1) 51 (acells b) := by
    have := Blk.new (w.alloc (.cells (acells a) 51)) 51 (acells b)
    rwa [World.size_alloc] at this
  have hB : Below w.heap.size w ((w.alloc (.cells (acells a) 51)).alloc (.cells (acells b) 51)) := ((Below.refl _ _).alloc (Nat.le_refl _) _).alloc (by simp) _
  have hsz : ((w.alloc (.cells (acells a) 51)).alloc (.cells (acells b) 51)).heap.size = w.heap.size + 2 := by simp
  have K1 := Hid.of k1
  have K2 := Hid.of k2
  have HB := Hid.of hB
  have HS := Hid.of hsz
  clear k1 k2 hB hsz
  go_enter Tryd.func71, Tryd.ntmps71
  go_wp2
  revert K1 K2 HB HS
  generalize (w.alloc (.cells (acells a) 51)).alloc (.cells (acells b) 51) = V
  intro K1 K2 HB HS
  have a0 : V.cell? ⟨w.heap.size, 0, none⟩ = some (.int .i64 a.f) := K1.out.cell 0 rfl
  have a1 : V.cell? ⟨w.heap.size, 1, none⟩ = some (.int .i64 a.e) := K1.out.cell 1 rfl
  have a2 : V.cell? ⟨w.heap.size, 2, none⟩ = some (.int .i64 a.t) := K1.out.cell 2 rfl
  have b0 : V.cell? ⟨w.heap.size + 1, 0, none⟩ = some (.int .i64 b.f) := K2.out.cell 0 rfl
  have b1 : V.cell? ⟨w.heap.size + 1, 1, none⟩ = some (.int .i64 b.e) := K2.out.cell 1 rfl
  have b2 : V.cell? ⟨w.heap.size + 1, 2, none⟩ = some (.int .i64 b.t) := K2.out.cell 2 rfl
  have hs := HS.out
  have hn1 : w.heap.size < V.heap.size := by omega
  have hn2 : w.heap.size + 1 < V.heap.size := by omega
  have n1 := World.new_ne V _ a0
  have n2 := World.new_ne V _ b0
  go_region_held3 (fun w' => w'.cell? ⟨w.heap.size, 0, none⟩ = some (.int .i64 a.f) ∧ w'.cell? ⟨w.heap.size, 1, none⟩ = some (.int .i64 a.e) ∧ w'.cell? ⟨w.heap.size, 2, none⟩ = some (.int .i64 a.t) ∧ w'.cell? ⟨w.heap.size + 1, 0, none⟩ = some (.int .i64 b.f) ∧ w'.cell? ⟨w.heap.size + 1, 1, none⟩ = some (.int .i64 b.e) ∧ w'.cell? ⟨w.heap.size + 1, 2, none⟩ = some (.int .i64 b.t)) (go_keep) (first | (go_at_call 96; refine (cmp_any _ _ _).mono ?_; rintro e w1 ⟨rfl, rfl⟩) | (go_at_call 95; refine (or_any (cmpI a.f b.f) (cmpI a.e b.e) (cmpI a.t b.t) _ _ (by go_simp) (by go_simp) (by go_simp)).mono ?_; rintro e w1 ⟨rfl, rfl⟩))
  go_wp2
  go_ret
  exact ⟨rfl, (HB.out.alloc HB.out.size _).drew⟩

end Go.Proofs.YtcjcjaeaoianfaaDoor
