/-
  reach.reached and reach.alive, of whatever machine may be.
-/
import Derived.Test.YtkofobefbjljfaaDoorAlive
namespace Go.Proofs.YtkofobefbjljfaaDoor
open Go.RowKit
set_option linter.unusedVariables false

set_option maxRecDepth 100000 in
set_option maxHeartbeats 4000000 in
theorem reached_none (st : Nat) (ev : Int) (starts : List Int) (ends : List Int) (l : ML) (w : World) (hst : st ≤ 256) (hs : Hid (At w l.a1 starts)) (hsl : Hid (starts.length ≤ maxLen)) (hsb : Hid (∀ x ∈ starts, 0 ≤ x ∧ x < (st : Int))) (hT : Hid (Tab w)) :
    Calls Tryd.prog 33 #[mval ⟨st, ev, starts, [], ends⟩ l] w fun e w' => RchGives w (·.f) (·.t) [] starts e w' := by
  obtain ⟨i0, hi, hz0, hz1, hz2⟩ := info_parts Tryd.infoSet
  have hmk : ∀ w : World, (Instr.makeSlice 74 (.int .i64 st) (.int .i64 st)).run Tryd.prog w = .ok (.slice (some ⟨w.heap.size, 0, none⟩) st st) (w.alloc (.cells (madeCells #[.int .u64 0, .int .u64 0, .int .u64 0, .int .u64 0] (st * 4)) 50)) := fun w => by
    have := run_make (P := Tryd.prog) w 74 50 i0 (sval zeroS) Tryd.underlying74 hi hz0 .i64 .i64 st st (by omega) (by omega) (by rw [hz2]; omega) (by omega)
    rw [hz1, Int.toNat_natCast] at this
    exact this
  clear hi hz0 hz1 hz2
  go_enter Tryd.func33, Tryd.ntmps33
  go_wp2
  have HM : Hid (Blk (((w.alloc (.cells (mcells ⟨st, ev, starts, [], ends⟩ l) 25)).alloc (.cells #[.int .u64 0, .int .u64 0, .int .u64 0, .int .u64 0] 50)).alloc (.cells (madeCells #[.int .u64 0, .int .u64 0, .int .u64 0, .int .u64 0] (st * 4)) 50)) w.heap.size 25 (mcells ⟨st, ev, starts, [], ends⟩ l)) := ((Blk.new w _ _).alloc _).alloc _
  have HS : Hid (SB (((w.alloc (.cells (mcells ⟨st, ev, starts, [], ends⟩ l) 25)).alloc (.cells #[.int .u64 0, .int .u64 0, .int .u64 0, .int .u64 0] 50)).alloc (.cells (madeCells #[.int .u64 0, .int .u64 0, .int .u64 0, .int .u64 0] (st * 4)) 50)) (w.heap.size + 1) zeroS) := by
    have := (Blk.new (w.alloc (.cells (mcells ⟨st, ev, starts, [], ends⟩ l) 25)) 50 (scells zeroS)).alloc (.cells (madeCells #[.int .u64 0, .int .u64 0, .int .u64 0, .int .u64 0] (st * 4)) 50)
    rwa [World.size_alloc] at this
  have HT : Hid (TB (((w.alloc (.cells (mcells ⟨st, ev, starts, [], ends⟩ l) 25)).alloc (.cells #[.int .u64 0, .int .u64 0, .int .u64 0, .int .u64 0] 50)).alloc (.cells (madeCells #[.int .u64 0, .int .u64 0, .int .u64 0, .int .u64 0] (st * 4)) 50)) (w.heap.size + 2) st (tabK (·.f) (·.t) [])) := by
    have := Blk.new ((w.alloc (.cells (mcells ⟨st, ev, starts, [], ends⟩ l) 25)).alloc (.cells #[.int .u64 0, .int .u64 0, .int .u64 0, .int .u64 0] 50)) 50 (madeCells #[.int .u64 0, .int .u64 0, .int .u64 0, .int .u64 0] (st * 4))
    rw [World.size_alloc, World.size_alloc] at this
    exact TB.made this
  have HB : Hid (Below w.heap.size w (((w.alloc (.cells (mcells ⟨st, ev, starts, [], ends⟩ l) 25)).alloc (.cells #[.int .u64 0, .int .u64 0, .int .u64 0, .int .u64 0] 50)).alloc (.cells (madeCells #[.int .u64 0, .int .u64 0, .int .u64 0, .int .u64 0] (st * 4)) 50))) := (((Below.refl _ _).alloc (Nat.le_refl _) _).alloc (by simp) _).alloc (by simp; omega) _
  refine wp_loop_rounds 1 ?_
  rw [rounds_succ]
  revert HM HS HT HB
  generalize ((w.alloc (.cells (mcells ⟨st, ev, starts, [], ends⟩ l) 25)).alloc (.cells #[.int .u64 0, .int .u64 0, .int .u64 0, .int .u64 0] 50)).alloc (.cells (madeCells #[.int .u64 0, .int .u64 0, .int .u64 0, .int .u64 0] (st * 4)) 50) = wr
  intro HM HS HT HB
  have x2 : wr.cell? ⟨w.heap.size, 2, none⟩ = some (.slice l.a1 starts.length l.c1) := HM.out.cell 2 rfl
  clear hmk
  go_wp2_with fail
  refine (of_any l.a1 l.c1 starts _ (hs.out.below HB.out (Nat.le_refl _)) hsl.out (fun x hx => by have := hsb.out x hx; omega)).mono ?_
  rintro e w1 ⟨rfl, hb1⟩
  have HB1 := Hid.of (HB.out.trans (hb1.mono HB.out.size))
  have HT1 := Hid.of (HT.out.below hb1 HT.out.lt)
  have HS1 := Hid.of (HS.out.below hb1 HS.out.lt)
  clear hb1 x2
  go_wp2_with fail
  refine (spread_any (·.f) (·.t) [] starts st hst hsb.out (fun a ha => by simp at ha) _ _ (hT.out.below HB1.out hT.out.lt) HT1.out).mono ?_
  rintro e w2 ⟨F, hok, rfl, hrch, hb2⟩
  have HB2 := Hid.of (HB1.out.trans (hb2.mono HB1.out.size))
  have s2 := HS1.out.below hb2 HS1.out.lt
  obtain ⟨r0, r1, r2, r3⟩ := SB.cells s2
  have rz := s2.frozen
  have k2 := Hid.of (SB.set4 s2 F)
  have HR := Hid.of hrch
  have HO := Hid.of hok
  clear hb2 hrch hok s2
  go_wp2
  refine bodyPost_ret (v := sval F) ?_ rfl ⟨F, HO.out, rfl, HR.out, below_set4 HB2.out (b' := w.heap.size + 1) (by omega) _ _ _ _⟩
  exact results_cell_row (g := w.heap.size + 1) (p := 2) rfl _ _ _ _ _ _ rfl k2.out Tryd.underlying50 rfl (by kernel_rfl)

theorem reached_any (m : Mach) (l : ML) (w : World) (hm : mayB m = true) (h : MAt w m l) (hT : Tab w) :
    Calls Tryd.prog 33 #[mval m l] w fun e w' => RchGives w (·.f) (·.t) m.arrows m.starts e w' := by
  have hz := mayB_size hm
  have ha := may_arrs hm
  have hb := (may_starts hm).2
  obtain ⟨st, ev, starts, arrows, ends⟩ := m
  obtain ⟨z1, z2, z3, z4, z5⟩ := hz
  simp only at z1 z2 z3 z4 z5 ha hb
  obtain ⟨s, rfl⟩ : ∃ s : Nat, st = (s : Int) := ⟨st.toNat, by omega⟩
  obtain ⟨a1, c1, a2, c2, a3, c3⟩ := l
  have hsl : starts.length ≤ maxLen := Nat.le_trans h.s1 h.s2
  rcases h.a with h0 | ⟨b, off, h0, hlt, hc⟩
  · have h0 : arrows = [] := h0
    subst h0
    exact reached_none s ev starts ends _ w (by omega) h.s hsl hb hT
  · have h0 : a2 = some ⟨b, off, none⟩ := h0
    subst h0
    exact reached_some s ev starts arrows ends a1 c1 b off c2 a3 c3 w (by omega) z5 hlt hc (fun a h => by have := ha a h; exact ⟨⟨this.1, this.2.1⟩, this.2.2.1, this.2.2.2.1⟩) h.s hsl hb hT

set_option maxRecDepth 100000 in
set_option maxHeartbeats 4000000 in
theorem alive_none (st : Nat) (ev : Int) (starts : List Int) (ends : List Int) (l : ML) (w : World) (hst : st ≤ 256) (hs : Hid (At w l.a3 ends)) (hsl : Hid (ends.length ≤ maxLen)) (hsb : Hid (∀ x ∈ ends, 0 ≤ x ∧ x < (st : Int))) (hT : Hid (Tab w)) :
    Calls Tryd.prog 34 #[mval ⟨st, ev, starts, [], ends⟩ l] w fun e w' => RchGives w (·.t) (·.f) [] ends e w' := by
  obtain ⟨i0, hi, hz0, hz1, hz2⟩ := info_parts Tryd.infoSet
  have hmk : ∀ w : World, (Instr.makeSlice 74 (.int .i64 st) (.int .i64 st)).run Tryd.prog w = .ok (.slice (some ⟨w.heap.size, 0, none⟩) st st) (w.alloc (.cells (madeCells #[.int .u64 0, .int .u64 0, .int .u64 0, .int .u64 0] (st * 4)) 50)) := fun w => by
    have := run_make (P := Tryd.prog) w 74 50 i0 (sval zeroS) Tryd.underlying74 hi hz0 .i64 .i64 st st (by omega) (by omega) (by rw [hz2]; omega) (by omega)
    rw [hz1, Int.toNat_natCast] at this
    exact this
  clear hi hz0 hz1 hz2
  go_enter Tryd.func34, Tryd.ntmps34
  go_wp2
  have HM : Hid (Blk (((w.alloc (.cells (mcells ⟨st, ev, starts, [], ends⟩ l) 25)).alloc (.cells #[.int .u64 0, .int .u64 0, .int .u64 0, .int .u64 0] 50)).alloc (.cells (madeCells #[.int .u64 0, .int .u64 0, .int .u64 0, .int .u64 0] (st * 4)) 50)) w.heap.size 25 (mcells ⟨st, ev, starts, [], ends⟩ l)) := ((Blk.new w _ _).alloc _).alloc _
  have HS : Hid (SB (((w.alloc (.cells (mcells ⟨st, ev, starts, [], ends⟩ l) 25)).alloc (.cells #[.int .u64 0, .int .u64 0, .int .u64 0, .int .u64 0] 50)).alloc (.cells (madeCells #[.int .u64 0, .int .u64 0, .int .u64 0, .int .u64 0] (st * 4)) 50)) (w.heap.size + 1) zeroS) := by
    have := (Blk.new (w.alloc (.cells (mcells ⟨st, ev, starts, [], ends⟩ l) 25)) 50 (scells zeroS)).alloc (.cells (madeCells #[.int .u64 0, .int .u64 0, .int .u64 0, .int .u64 0] (st * 4)) 50)
    rwa [World.size_alloc] at this
  have HT : Hid (TB (((w.alloc (.cells (mcells ⟨st, ev, starts, [], ends⟩ l) 25)).alloc (.cells #[.int .u64 0, .int .u64 0, .int .u64 0, .int .u64 0] 50)).alloc (.cells (madeCells #[.int .u64 0, .int .u64 0, .int .u64 0, .int .u64 0] (st * 4)) 50)) (w.heap.size + 2) st (tabK (·.t) (·.f) [])) := by
    have := Blk.new ((w.alloc (.cells (mcells ⟨st, ev, starts, [], ends⟩ l) 25)).alloc (.cells #[.int .u64 0, .int .u64 0, .int .u64 0, .int .u64 0] 50)) 50 (madeCells #[.int .u64 0, .int .u64 0, .int .u64 0, .int .u64 0] (st * 4))
    rw [World.size_alloc, World.size_alloc] at this
    exact TB.made this
  have HB : Hid (Below w.heap.size w (((w.alloc (.cells (mcells ⟨st, ev, starts, [], ends⟩ l) 25)).alloc (.cells #[.int .u64 0, .int .u64 0, .int .u64 0, .int .u64 0] 50)).alloc (.cells (madeCells #[.int .u64 0, .int .u64 0, .int .u64 0, .int .u64 0] (st * 4)) 50))) := (((Below.refl _ _).alloc (Nat.le_refl _) _).alloc (by simp) _).alloc (by simp; omega) _
  refine wp_loop_rounds 1 ?_
  rw [rounds_succ]
  revert HM HS HT HB
  generalize ((w.alloc (.cells (mcells ⟨st, ev, starts, [], ends⟩ l) 25)).alloc (.cells #[.int .u64 0, .int .u64 0, .int .u64 0, .int .u64 0] 50)).alloc (.cells (madeCells #[.int .u64 0, .int .u64 0, .int .u64 0, .int .u64 0] (st * 4)) 50) = wr
  intro HM HS HT HB
  have x2 : wr.cell? ⟨w.heap.size, 4, none⟩ = some (.slice l.a3 ends.length l.c3) := HM.out.cell 4 rfl
  clear hmk
  go_wp2_with fail
  refine (of_any l.a3 l.c3 ends _ (hs.out.below HB.out (Nat.le_refl _)) hsl.out (fun x hx => by have := hsb.out x hx; omega)).mono ?_
  rintro e w1 ⟨rfl, hb1⟩
  have HB1 := Hid.of (HB.out.trans (hb1.mono HB.out.size))
  have HT1 := Hid.of (HT.out.below hb1 HT.out.lt)
  have HS1 := Hid.of (HS.out.below hb1 HS.out.lt)
  clear hb1 x2
  go_wp2_with fail
  refine (spread_any (·.t) (·.f) [] ends st hst hsb.out (fun a ha => by simp at ha) _ _ (hT.out.below HB1.out hT.out.lt) HT1.out).mono ?_
  rintro e w2 ⟨F, hok, rfl, hrch, hb2⟩
  have HB2 := Hid.of (HB1.out.trans (hb2.mono HB1.out.size))
  have s2 := HS1.out.below hb2 HS1.out.lt
  obtain ⟨r0, r1, r2, r3⟩ := SB.cells s2
  have rz := s2.frozen
  have k2 := Hid.of (SB.set4 s2 F)
  have HR := Hid.of hrch
  have HO := Hid.of hok
  clear hb2 hrch hok s2
  go_wp2
  refine bodyPost_ret (v := sval F) ?_ rfl ⟨F, HO.out, rfl, HR.out, below_set4 HB2.out (b' := w.heap.size + 1) (by omega) _ _ _ _⟩
  exact results_cell_row (g := w.heap.size + 1) (p := 2) rfl _ _ _ _ _ _ rfl k2.out Tryd.underlying50 rfl (by kernel_rfl)

theorem alive_any (m : Mach) (l : ML) (w : World) (hm : mayB m = true) (h : MAt w m l) (hT : Tab w) :
    Calls Tryd.prog 34 #[mval m l] w fun e w' => RchGives w (·.t) (·.f) m.arrows m.ends e w' := by
  have hz := mayB_size hm
  have ha := may_arrs hm
  have hb := (may_ends hm).2
  obtain ⟨st, ev, starts, arrows, ends⟩ := m
  obtain ⟨z1, z2, z3, z4, z5⟩ := hz
  simp only at z1 z2 z3 z4 z5 ha hb
  obtain ⟨s, rfl⟩ : ∃ s : Nat, st = (s : Int) := ⟨st.toNat, by omega⟩
  obtain ⟨a1, c1, a2, c2, a3, c3⟩ := l
  have hsl : ends.length ≤ maxLen := Nat.le_trans h.e1 h.e2
  rcases h.a with h0 | ⟨b, off, h0, hlt, hc⟩
  · have h0 : arrows = [] := h0
    subst h0
    exact alive_none s ev starts ends _ w (by omega) h.e hsl hb hT
  · have h0 : a2 = some ⟨b, off, none⟩ := h0
    subst h0
    exact alive_some s ev starts arrows ends a1 c1 b off c2 a3 c3 w (by omega) z5 hlt hc (fun a h => by have := ha a h; exact ⟨⟨this.1, this.2.1⟩, this.2.2.1, this.2.2.2.1⟩) h.e hsl hb hT

end Go.Proofs.YtkofobefbjljfaaDoor
