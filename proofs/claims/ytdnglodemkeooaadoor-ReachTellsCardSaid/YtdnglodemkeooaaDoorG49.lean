/-
  reach.reached and reach.alive, of whatever machine may be.
  The walks of reach.Reach and reach.Live.
  The walks of jalousieref3.place and places.
  The walks of jalousieref3.Reach and Live.
-/
import Derived.Test.YtdnglodemkeooaaDoorCAlive
import Derived.Test.YtdnglodemkeooaaDoorG07
import Derived.Test.YtdnglodemkeooaaDoorCTrimBase
import Derived.Test.YtdnglodemkeooaaDoorG04
import Derived.Test.YtdnglodemkeooaaDoorG03
import Derived.Test.YtdnglodemkeooaaDoorCSorted
import Derived.Test.YtdnglodemkeooaaDoorCAppInts
namespace Go.Proofs.YtdnglodemkeooaaDoor
open Go.RowKit
set_option linter.unusedVariables false

set_option maxRecDepth 100000 in
set_option maxHeartbeats 4000000 in
theorem reached_none (st : Nat) (ev : Int) (starts : List Int) (ends : List Int) (l : ML) (w : World) (hst : st ≤ 256) (hs : Hid (At w l.a1 starts)) (hsl : Hid (starts.length ≤ maxLen)) (hsb : Hid (∀ x ∈ starts, 0 ≤ x ∧ x < (st : Int))) (hT : Hid (Tab w)) :
    Calls Tryd.prog 55 #[mval ⟨st, ev, starts, [], ends⟩ l] w fun e w' => RchGives w (·.f) (·.t) [] starts e w' := by
  obtain ⟨i0, hi, hz0, hz1, hz2⟩ := info_parts Tryd.infoSet
  have hmk : ∀ w : World, (Instr.makeSlice 89 (.int .i64 st) (.int .i64 st)).run Tryd.prog w = .ok (.slice (some ⟨w.heap.size, 0, none⟩) st st) (w.alloc (.cells (madeCells #[.int .u64 0, .int .u64 0, .int .u64 0, .int .u64 0] (st * 4)) 62)) := fun w => by
    have := run_make (P := Tryd.prog) w 89 62 i0 (sval zeroS) Tryd.underlying89 hi hz0 .i64 .i64 st st (by omega) (by omega) (by rw [hz2]; omega) (by omega)
    rw [hz1, Int.toNat_natCast] at this
    exact this
  clear hi hz0 hz1 hz2
  go_enter Tryd.func55, Tryd.ntmps55
  go_wp2
  have HM : Hid (Blk (((w.alloc (.cells (mcells ⟨st, ev, starts, [], ends⟩ l) 25)).alloc (.cells #[.int .u64 0, .int .u64 0, .int .u64 0, .int .u64 0] 62)).alloc (.cells (madeCells #[.int .u64 0, .int .u64 0, .int .u64 0, .int .u64 0] (st * 4)) 62)) w.heap.size 25 (mcells ⟨st, ev, starts, [], ends⟩ l)) := ((Blk.new w _ _).alloc _).alloc _
  have HS : Hid (SB (((w.alloc (.cells (mcells ⟨st, ev, starts, [], ends⟩ l) 25)).alloc (.cells #[.int .u64 0, .int .u64 0, .int .u64 0, .int .u64 0] 62)).alloc (.cells (madeCells #[.int .u64 0, .int .u64 0, .int .u64 0, .int .u64 0] (st * 4)) 62)) (w.heap.size + 1) zeroS) := by
    have := (Blk.new (w.alloc (.cells (mcells ⟨st, ev, starts, [], ends⟩ l) 25)) 62 (scells zeroS)).alloc (.cells (madeCells #[.int .u64 0, .int .u64 0, .int .u64 0, .int .u64 0] (st * 4)) 62)
    rwa [World.size_alloc] at this
  have HT : Hid (TB (((w.alloc (.cells (mcells ⟨st, ev, starts, [], ends⟩ l) 25)).alloc (.cells #[.int .u64 0, .int .u64 0, .int .u64 0, .int .u64 0] 62)).alloc (.cells (madeCells #[.int .u64 0, .int .u64 0, .int .u64 0, .int .u64 0] (st * 4)) 62)) (w.heap.size + 2) st (tabK (·.f) (·.t) [])) := by
    have := Blk.new ((w.alloc (.cells (mcells ⟨st, ev, starts, [], ends⟩ l) 25)).alloc (.cells #[.int .u64 0, .int .u64 0, .int .u64 0, .int .u64 0] 62)) 62 (madeCells #[.int .u64 0, .int .u64 0, .int .u64 0, .int .u64 0] (st * 4))
    rw [World.size_alloc, World.size_alloc] at this
    exact TB.made this
  have HB : Hid (Below w.heap.size w (((w.alloc (.cells (mcells ⟨st, ev, starts, [], ends⟩ l) 25)).alloc (.cells #[.int .u64 0, .int .u64 0, .int .u64 0, .int .u64 0] 62)).alloc (.cells (madeCells #[.int .u64 0, .int .u64 0, .int .u64 0, .int .u64 0] (st * 4)) 62))) := (((Below.refl _ _).alloc (Nat.le_refl _) _).alloc (by simp) _).alloc (by simp; omega) _
  refine wp_loop_rounds 1 ?_
  rw [rounds_succ]
  revert HM HS HT HB
  generalize ((w.alloc (.cells (mcells ⟨st, ev, starts, [], ends⟩ l) 25)).alloc (.cells #[.int .u64 0, .int .u64 0, .int .u64 0, .int .u64 0] 62)).alloc (.cells (madeCells #[.int .u64 0, .int .u64 0, .int .u64 0, .int .u64 0] (st * 4)) 62) = wr
  intro HM HS HT HB
  have x2 : wr.cell? ⟨w.heap.size, 2, none⟩ = some (.slice l.a1 starts.length l.c1) := HM.out.cell 2 rfl
  clear hmk
  go_wp2_with fail
  refine (of_any l.a1 l.c1 starts _ (hs.out.below HB.out (Nat.le_refl _)) hsl.out (fun x hx => by have := hsb.out x hx; omega)).mono ?_
  rintro e w1 ⟨rfl, hb1⟩
  have HB1 := Hid.of (HB.out.trans (hb1.mono HB.out.size))
  have HT1 := Hid.of (HT.out.below hb1 HT.out.lt)
  have HS1 := Hid.of (HS.out.below hb1 HS.out.lt)
  clear hb1 x2
  go_wp2_with fail
  refine (spread_any (·.f) (·.t) [] starts st hst hsb.out (fun a ha => by simp at ha) _ _ (hT.out.below HB1.out hT.out.lt) HT1.out).mono ?_
  rintro e w2 ⟨F, hok, rfl, hrch, hb2⟩
  have HB2 := Hid.of (HB1.out.trans (hb2.mono HB1.out.size))
  have s2 := HS1.out.below hb2 HS1.out.lt
  obtain ⟨r0, r1, r2, r3⟩ := SB.cells s2
  have rz := s2.frozen
  have k2 := Hid.of (SB.set4 s2 F)
  have HR := Hid.of hrch
  have HO := Hid.of hok
  clear hb2 hrch hok s2
  go_wp2
  refine bodyPost_ret (v := sval F) ?_ rfl ⟨F, HO.out, rfl, HR.out, below_set4 HB2.out (b' := w.heap.size + 1) (by omega) _ _ _ _⟩
  exact results_cell_row (g := w.heap.size + 1) (p := 2) rfl _ _ _ _ _ _ rfl k2.out Tryd.underlying62 rfl (by kernel_rfl)

theorem reached_any (m : Mach) (l : ML) (w : World) (hm : mayB m = true) (h : MAt w m l) (hT : Tab w) :
    Calls Tryd.prog 55 #[mval m l] w fun e w' => RchGives w (·.f) (·.t) m.arrows m.starts e w' := by
  have hz := mayB_size hm
  have ha := may_arrs hm
  have hb := (may_starts hm).2
  obtain ⟨st, ev, starts, arrows, ends⟩ := m
  obtain ⟨z1, z2, z3, z4, z5⟩ := hz
  simp only at z1 z2 z3 z4 z5 ha hb
  obtain ⟨s, rfl⟩ : ∃ s : Nat, st = (s : Int) := ⟨st.toNat, by omega⟩
  obtain ⟨a1, c1, a2, c2, a3, c3⟩ := l
  have hsl : starts.length ≤ maxLen := Nat.le_trans h.s1 h.s2
  rcases h.a with h0 | ⟨b, off, h0, hlt, hc⟩
  · have h0 : arrows = [] := h0
    subst h0
    exact reached_none s ev starts ends _ w (by omega) h.s hsl hb hT
  · have h0 : a2 = some ⟨b, off, none⟩ := h0
    subst h0
    exact reached_some s ev starts arrows ends a1 c1 b off c2 a3 c3 w (by omega) z5 hlt hc (fun a h => by have := ha a h; exact ⟨⟨this.1, this.2.1⟩, this.2.2.1, this.2.2.2.1⟩) h.s hsl hb hT

set_option maxRecDepth 100000 in
set_option maxHeartbeats 4000000 in
theorem alive_none (st : Nat) (ev : Int) (starts : List Int) (ends : List Int) (l : ML) (w : World) (hst : st ≤ 256) (hs : Hid (At w l.a3 ends)) (hsl : Hid (ends.length ≤ maxLen)) (hsb : Hid (∀ x ∈ ends, 0 ≤ x ∧ x < (st : Int))) (hT : Hid (Tab w)) :
    Calls Tryd.prog 56 #[mval ⟨st, ev, starts, [], ends⟩ l] w fun e w' => RchGives w (·.t) (·.f) [] ends e w' := by
  obtain ⟨i0, hi, hz0, hz1, hz2⟩ := info_parts Tryd.infoSet
  have hmk : ∀ w : World, (Instr.makeSlice 89 (.int .i64 st) (.int .i64 st)).run Tryd.prog w = .ok (.slice (some ⟨w.heap.size, 0, none⟩) st st) (w.alloc (.cells (madeCells #[.int .u64 0, .int .u64 0, .int .u64 0, .int .u64 0] (st * 4)) 62)) := fun w => by
    have := run_make (P := Tryd.prog) w 89 62 i0 (sval zeroS) Tryd.underlying89 hi hz0 .i64 .i64 st st (by omega) (by omega) (by rw [hz2]; omega) (by omega)
    rw [hz1, Int.toNat_natCast] at this
    exact this
  clear hi hz0 hz1 hz2
  go_enter Tryd.func56, Tryd.ntmps56
  go_wp2
  have HM : Hid (Blk (((w.alloc (.cells (mcells ⟨st, ev, starts, [], ends⟩ l) 25)).alloc (.cells #[.int .u64 0, .int .u64 0, .int .u64 0, .int .u64 0] 62)).alloc (.cells (madeCells #[.int .u64 0, .int .u64 0, .int .u64 0, .int .u64 0] (st * 4)) 62)) w.heap.size 25 (mcells ⟨st, ev, starts, [], ends⟩ l)) := ((Blk.new w _ _).alloc _).alloc _
  have HS : Hid (SB (((w.alloc (.cells (mcells ⟨st, ev, starts, [], ends⟩ l) 25)).alloc (.cells #[.int .u64 0, .int .u64 0, .int .u64 0, .int .u64 0] 62)).alloc (.cells (madeCells #[.int .u64 0, .int .u64 0, .int .u64 0, .int .u64 0] (st * 4)) 62)) (w.heap.size + 1) zeroS) := by
    have := (Blk.new (w.alloc (.cells (mcells ⟨st, ev, starts, [], ends⟩ l) 25)) 62 (scells zeroS)).alloc (.cells (madeCells #[.int .u64 0, .int .u64 0, .int .u64 0, .int .u64 0] (st * 4)) 62)
    rwa [World.size_alloc] at this
  have HT : Hid (TB (((w.alloc (.cells (mcells ⟨st, ev, starts, [], ends⟩ l) 25)).alloc (.cells #[.int .u64 0, .int .u64 0, .int .u64 0, .int .u64 0] 62)).alloc (.cells (madeCells #[.int .u64 0, .int .u64 0, .int .u64 0, .int .u64 0] (st * 4)) 62)) (w.heap.size + 2) st (tabK (·.t) (·.f) [])) := by
    have := Blk.new ((w.alloc (.cells (mcells ⟨st, ev, starts, [], ends⟩ l) 25)).alloc (.cells #[.int .u64 0, .int .u64 0, .int .u64 0, .int .u64 0] 62)) 62 (madeCells #[.int .u64 0, .int .u64 0, .int .u64 0, .int .u64 0] (st * 4))
    rw [World.size_alloc, World.size_alloc] at this
    exact TB.made this
  have HB : Hid (Below w.heap.size w (((w.alloc (.cells (mcells ⟨st, ev, starts, [], ends⟩ l) 25)).alloc (.cells #[.int .u64 0, .int .u64 0, .int .u64 0, .int .u64 0] 62)).alloc (.cells (madeCells #[.int .u64 0, .int .u64 0, .int .u64 0, .int .u64 0] (st * 4)) 62))) := (((Below.refl _ _).alloc (Nat.le_refl _) _).alloc (by simp) _).alloc (by simp; omega) _
  refine wp_loop_rounds 1 ?_
  rw [rounds_succ]
  revert HM HS HT HB
  generalize ((w.alloc (.cells (mcells ⟨st, ev, starts, [], ends⟩ l) 25)).alloc (.cells #[.int .u64 0, .int .u64 0, .int .u64 0, .int .u64 0] 62)).alloc (.cells (madeCells #[.int .u64 0, .int .u64 0, .int .u64 0, .int .u64 0] (st * 4)) 62) = wr
  intro HM HS HT HB
  have x2 : wr.cell? ⟨w.heap.size, 4, none⟩ = some (.slice l.a3 ends.length l.c3) := HM.out.cell 4 rfl
  clear hmk
  go_wp2_with fail
  refine (of_any l.a3 l.c3 ends _ (hs.out.below HB.out (Nat.le_refl _)) hsl.out (fun x hx => by have := hsb.out x hx; omega)).mono ?_
  rintro e w1 ⟨rfl, hb1⟩
  have HB1 := Hid.of (HB.out.trans (hb1.mono HB.out.size))
  have HT1 := Hid.of (HT.out.below hb1 HT.out.lt)
  have HS1 := Hid.of (HS.out.below hb1 HS.out.lt)
  clear hb1 x2
  go_wp2_with fail
  refine (spread_any (·.t) (·.f) [] ends st hst hsb.out (fun a ha => by simp at ha) _ _ (hT.out.below HB1.out hT.out.lt) HT1.out).mono ?_
  rintro e w2 ⟨F, hok, rfl, hrch, hb2⟩
  have HB2 := Hid.of (HB1.out.trans (hb2.mono HB1.out.size))
  have s2 := HS1.out.below hb2 HS1.out.lt
  obtain ⟨r0, r1, r2, r3⟩ := SB.cells s2
  have rz := s2.frozen
  have k2 := Hid.of (SB.set4 s2 F)
  have HR := Hid.of hrch
  have HO := Hid.of hok
  clear hb2 hrch hok s2
  go_wp2
  refine bodyPost_ret (v := sval F) ?_ rfl ⟨F, HO.out, rfl, HR.out, below_set4 HB2.out (b' := w.heap.size + 1) (by omega) _ _ _ _⟩
  exact results_cell_row (g := w.heap.size + 1) (p := 2) rfl _ _ _ _ _ _ rfl k2.out Tryd.underlying62 rfl (by kernel_rfl)

theorem alive_any (m : Mach) (l : ML) (w : World) (hm : mayB m = true) (h : MAt w m l) (hT : Tab w) :
    Calls Tryd.prog 56 #[mval m l] w fun e w' => RchGives w (·.t) (·.f) m.arrows m.ends e w' := by
  have hz := mayB_size hm
  have ha := may_arrs hm
  have hb := (may_ends hm).2
  obtain ⟨st, ev, starts, arrows, ends⟩ := m
  obtain ⟨z1, z2, z3, z4, z5⟩ := hz
  simp only at z1 z2 z3 z4 z5 ha hb
  obtain ⟨s, rfl⟩ : ∃ s : Nat, st = (s : Int) := ⟨st.toNat, by omega⟩
  obtain ⟨a1, c1, a2, c2, a3, c3⟩ := l
  have hsl : ends.length ≤ maxLen := Nat.le_trans h.e1 h.e2
  rcases h.a with h0 | ⟨b, off, h0, hlt, hc⟩
  · have h0 : arrows = [] := h0
    subst h0
    exact alive_none s ev starts ends _ w (by omega) h.e hsl hb hT
  · have h0 : a2 = some ⟨b, off, none⟩ := h0
    subst h0
    exact alive_some s ev starts arrows ends a1 c1 b off c2 a3 c3 w (by omega) z5 hlt hc (fun a h => by have := ha a h; exact ⟨⟨this.1, this.2.1⟩, this.2.2.1, this.2.2.2.1⟩) h.e hsl hb hT

end Go.Proofs.YtdnglodemkeooaaDoor
namespace Go.Proofs.YtdnglodemkeooaaDoor
open Go.RowKit
set_option linter.unusedVariables false

/-- What Reach and Live leave where the machine may be. -/
def RowGives (w : World) (xs : List Int) (e : Ending) (w' : World) : Prop := ∃ a cap, e = .returned (.tuple #[.slice a xs.length cap, .int .i64 0]) ∧ At w' a xs ∧ xs.length ≤ maxLen ∧ Below w.heap.size w w'

set_option maxRecDepth 100000 in
set_option maxHeartbeats 1000000 in
theorem pReach_err (m : Mach) (l : ML) (w : World) (h : MAt w m l) (hm : mayB m = false) :
    Calls Tryd.prog 26 #[mval m l] w fun e w' => e = .returned (.tuple #[.slice none 0 0, .int .i64 2]) ∧ Below w.heap.size w w' := by
  have B0 : Hid (Below w.heap.size w (w.alloc (.cells (mcells m l) 25))) := (Below.refl _ _).alloc (Nat.le_refl _) _
  have h' := Hid.of (h.below B0.out (Nat.le_refl _))
  clear h
  go_enter Tryd.func26, Tryd.ntmps26
  go_wp2_with fail
  refine (pMay_any m l _ h'.out).mono ?_
  rintro e w1 ⟨rfl, hb1⟩
  have HB := Hid.of (B0.out.trans (hb1.mono B0.out.size))
  clear hb1
  rw [hm]
  go_wp2_with fail
  refine bodyPost_ret (results_tmp2 rfl _ _ _) rfl ?_
  exact ⟨rfl, HB.out⟩

set_option maxRecDepth 100000 in
set_option maxHeartbeats 1000000 in
theorem pReach_ok (m : Mach) (l : ML) (w : World) (h : MAt w m l) (hm : mayB m = true) (hT : Tab w) :
    Calls Tryd.prog 26 #[mval m l] w fun e w' => RowGives w (reachL m) e w' := by
  have B0 : Hid (Below w.heap.size w (w.alloc (.cells (mcells m l) 25))) := (Below.refl _ _).alloc (Nat.le_refl _) _
  have h' := Hid.of (h.below B0.out (Nat.le_refl _))
  have HT := Hid.of hT
  have K0 := Hid.of (Blk.new w 25 (mcells m l))
  have HM := Hid.of h
  clear h hT
  go_enter Tryd.func26, Tryd.ntmps26
  go_wp2_with fail
  refine (pMay_any m l _ h'.out).mono ?_
  rintro e w1 ⟨rfl, hb1⟩
  have HB := Hid.of (B0.out.trans (hb1.mono B0.out.size))
  obtain ⟨x0, x1, x2, x3, x4⟩ := mcell_at (K0.out.below hb1 K0.out.lt)
  clear hb1
  rw [hm]
  go_wp2_with fail
  refine (reached_any m l _ hm (HM.out.below HB.out (Nat.le_refl _)) (HT.out.below HB.out HT.out.lt)).mono ?_
  rintro e w2 ⟨F, hok, rfl, hr, hb2⟩
  have HB2 := Hid.of (HB.out.trans (hb2.mono HB.out.size))
  have HO := Hid.of hok
  have HR := Hid.of (row_reach hm hr)
  clear hb2 hok hr x0 x1 x2 x3 x4
  go_wp2_with fail
  refine (row_any F _ HO.out (HT.out.below HB2.out HT.out.lt)).mono ?_
  rintro e w3 ⟨a, cap, rfl, hat, hlen, hb3⟩
  have HB3 := Hid.of (HB2.out.trans (hb3.mono HB2.out.size))
  rw [HR.out] at hat hlen ⊢
  have HA := Hid.of hat
  have HL := Hid.of hlen
  clear hb3 hat hlen
  go_wp2_with fail
  refine bodyPost_ret (results_tmp2 rfl _ _ _) rfl ?_
  exact ⟨a, cap, rfl, HA.out, HL.out, HB3.out⟩

set_option maxRecDepth 100000 in
set_option maxHeartbeats 1000000 in
theorem pLive_err (m : Mach) (l : ML) (w : World) (h : MAt w m l) (hm : mayB m = false) :
    Calls Tryd.prog 27 #[mval m l] w fun e w' => e = .returned (.tuple #[.slice none 0 0, .int .i64 2]) ∧ Below w.heap.size w w' := by
  have B0 : Hid (Below w.heap.size w (w.alloc (.cells (mcells m l) 25))) := (Below.refl _ _).alloc (Nat.le_refl _) _
  have h' := Hid.of (h.below B0.out (Nat.le_refl _))
  clear h
  go_enter Tryd.func27, Tryd.ntmps27
  go_wp2_with fail
  refine (pMay_any m l _ h'.out).mono ?_
  rintro e w1 ⟨rfl, hb1⟩
  have HB := Hid.of (B0.out.trans (hb1.mono B0.out.size))
  clear hb1
  rw [hm]
  go_wp2_with fail
  refine bodyPost_ret (results_tmp2 rfl _ _ _) rfl ?_
  exact ⟨rfl, HB.out⟩

set_option maxRecDepth 100000 in
set_option maxHeartbeats 1000000 in
theorem pLive_ok (m : Mach) (l : ML) (w : World) (h : MAt w m l) (hm : mayB m = true) (hT : Tab w) :
    Calls Tryd.prog 27 #[mval m l] w fun e w' => RowGives w (liveL m) e w' := by
  have B0 : Hid (Below w.heap.size w (w.alloc (.cells (mcells m l) 25))) := (Below.refl _ _).alloc (Nat.le_refl _) _
  have h' := Hid.of (h.below B0.out (Nat.le_refl _))
  have HT := Hid.of hT
  have K0 := Hid.of (Blk.new w 25 (mcells m l))
  have HM := Hid.of h
  clear h hT
  go_enter Tryd.func27, Tryd.ntmps27
  go_wp2_with fail
  refine (pMay_any m l _ h'.out).mono ?_
  rintro e w1 ⟨rfl, hb1⟩
  have HB := Hid.of (B0.out.trans (hb1.mono B0.out.size))
  obtain ⟨x0, x1, x2, x3, x4⟩ := mcell_at (K0.out.below hb1 K0.out.lt)
  clear hb1
  rw [hm]
  go_wp2_with fail
  refine (alive_any m l _ hm (HM.out.below HB.out (Nat.le_refl _)) (HT.out.below HB.out HT.out.lt)).mono ?_
  rintro e w2 ⟨F, hok, rfl, hr, hb2⟩
  have HB2 := Hid.of (HB.out.trans (hb2.mono HB.out.size))
  have HO := Hid.of hok
  have HR := Hid.of (row_live hm hr)
  clear hb2 hok hr x0 x1 x2 x3 x4
  go_wp2_with fail
  refine (row_any F _ HO.out (HT.out.below HB2.out HT.out.lt)).mono ?_
  rintro e w3 ⟨a, cap, rfl, hat, hlen, hb3⟩
  have HB3 := Hid.of (HB2.out.trans (hb3.mono HB2.out.size))
  rw [HR.out] at hat hlen ⊢
  have HA := Hid.of hat
  have HL := Hid.of hlen
  clear hb3 hat hlen
  go_wp2_with fail
  refine bodyPost_ret (results_tmp2 rfl _ _ _) rfl ?_
  exact ⟨a, cap, rfl, HA.out, HL.out, HB3.out⟩

end Go.Proofs.YtdnglodemkeooaaDoor
namespace Go.Proofs.YtdnglodemkeooaaDoor
open Go.RowKit
set_option linter.unusedVariables false

theorem ret_int64 {a b : Int} (h : a = b) : Ending.returned (.int .i64 a) = .returned (.int .i64 b) := by rw [h]

set_option maxHeartbeats 400000 in
theorem place_some (b off cap : Nat) (xs : List Int) (n : Int) (w : World) (hl : xs.length ≤ 9223372036854775807) (hc : Cells w b off xs) :
    Calls Tryd.prog 63 #[.slice (some ⟨b, off, none⟩) xs.length cap, .int .i64 n] w fun e w' => e = .returned (.int .i64 (placeI xs n)) ∧ w' = w := by
  go_enter Tryd.func63, Tryd.ntmps63
  go_wp2
  go_loop [5] (fun i => ∃ k : Nat, k ≤ xs.length ∧ i = .int .i64 k ∧ Hid (placeI xs n = placeF k (xs.drop k) n)) (fun i => xs.length - (intOf i).toNat)
  case atStart => exact ⟨0, Nat.zero_le _, rfl, rfl⟩
  case round =>
    obtain ⟨k, hk, rfl, he⟩ := hrel
    by_cases hlt : k < xs.length
    · obtain ⟨x, HX, hcx⟩ := hc.at hlt
      by_cases hx : x = n
      · have d : (x == n) = true := by simp [hx]
        have HH : Hid (x = n) := hx
        clear hx
        go_wp2
        go_ret
        exact ⟨ret_int64 (place_hit hlt HX he HH.out), rfl⟩
      · have d : (x == n) = false := by simp [hx]
        have HH : Hid (¬ x = n) := hx
        clear hx
        go_wp2
        go_round
        case rel => exact ⟨k + 1, by omega, by go_num, place_miss hlt HX he HH.out⟩
        case measure => simp [intOf]; omega
    · go_wp2
      go_ret
      exact ⟨ret_int64 (place_end hlt he), rfl⟩

set_option maxHeartbeats 400000 in
theorem place_nil (a : Option Addr) (cap : Nat) (n : Int) (w : World) :
    Calls Tryd.prog 63 #[.slice a 0 cap, .int .i64 n] w fun e w' => e = .returned (.int .i64 (placeI [] n)) ∧ w' = w := by
  go_enter Tryd.func63, Tryd.ntmps63
  go_wp2
  refine wp_loop_rounds 1 ?_
  rw [rounds_succ]
  go_wp2
  go_ret
  exact ⟨rfl, rfl⟩

theorem place_any (a : Option Addr) (cap : Nat) (xs : List Int) (n : Int) (w : World) (hs : At w a xs) (hl : xs.length ≤ maxLen) :
    Calls Tryd.prog 63 #[.slice a xs.length cap, .int .i64 n] w fun e w' => e = .returned (.int .i64 (placeI xs n)) ∧ w' = w := by
  rcases hs with rfl | ⟨b, off, rfl, -, hc⟩
  · exact place_nil a cap n w
  · exact place_some b off cap xs n w hl hc

set_option maxRecDepth 100000 in
set_option maxHeartbeats 2000000 in
theorem places_some (la : Option Addr) (lc b off cap : Nat) (l ss : List Int) (w : World) (hat : At w la l) (hll : l.length ≤ maxLen) (hl : ss.length ≤ 17592186044416) (hb : b < w.heap.size) (hc : Cells w b off ss) :
    Calls Tryd.prog 62 #[.slice la l.length lc, .slice (some ⟨b, off, none⟩) ss.length cap] w fun e w' => GivesO w (placesL l ss) e w' := by
  obtain ⟨i0, hi, hz0, hz1, hz2⟩ := info_parts Tryd.infoInt
  have HL : Hid (l.length ≤ maxLen) := hll
  have HA0 : Hid (At w la l) := hat
  clear hll hat
  go_enter Tryd.func62, Tryd.ntmps62
  go_wp2
  go_loopw [5, 6] (fun v i wr => ∃ k : Nat, k ≤ ss.length ∧ i = .int .i64 k ∧ Own wr w.heap.size v (placesL l (ss.take k)) ∧ Below w.heap.size w wr) (fun _ i _ => ss.length - (intOf i).toNat)
  case atStart => exact ⟨0, Nat.zero_le _, rfl, own_nil _ _, Below.refl _ _⟩
  case round =>
    obtain ⟨k, hk, rfl, hown, hbel⟩ := hrel
    have hsz := hbel.size
    by_cases hlt : k < ss.length
    · obtain ⟨x, HX, y0⟩ := hc.at hlt
      have y0' := (hbel.cell (p := ⟨b, off + k, none⟩) hb).trans y0
      clear y0
      have hlw := placesL_len l (ss.take k)
      rw [List.length_take] at hlw
      have HN : Hid (placesL l (ss.take (k + 1)) = if 0 ≤ placeI l x then placesL l (ss.take k) ++ [placeI l x] else placesL l (ss.take k)) := placesL_take hlt HX
      have HAT : Hid (At wr la l) := HA0.out.below hbel (Nat.le_refl _)
      go_wp2_with fail
      refine (place_any la lc l x _ HAT.out HL.out).mono ?_
      rintro e w1 ⟨rfl, rfl⟩
      by_cases d : 0 ≤ placeI l x
      · have HR : Hid (placesL l (ss.take (k + 1)) = placesL l (ss.take k) ++ [placeI l x]) := by show _ = _; rw [HN.out, if_pos d]
        have dd : decide (0 ≤ placeI l x) = true := by simpa using d
        clear HN
        generalize placeI l x = q at *
        go_wp2_with (at_builtin; refine wpList_append_own _ rfl _ _ 22 rfl w.heap.size 3 i0 (.int .i64 0) 1 8 Tryd.underlying22 hi hz0 hz1 hz2 rfl (by decide) _ _ _ rfl (World.ownsRow.alloc hown _) ⟨_, 0, none⟩ 1 1 [.int .i64 q] rfl rfl (cell_one_new _ _ _) (by intro u hu; simp at hu; subst hu; rfl) (by unfold maxLen; omega) (by omega) (by simp; omega) ?_)
        intro v' w2 hown' hgrow _
        obtain ⟨r1, r2, -⟩ := own_snoc hown hbel (by omega) hown' hgrow
        rw [← HR.out] at r1
        clear hown' hgrow hown
        go_wp2
        go_roundw
        case rel => exact ⟨k + 1, by omega, by go_num, r1, r2⟩
        case measure => simp [intOf]; omega
      · have HR : Hid (placesL l (ss.take (k + 1)) = placesL l (ss.take k)) := by show _ = _; rw [HN.out, if_neg d]
        have dd : decide (0 ≤ placeI l x) = false := by simpa using d
        clear HN
        have r1 := hown
        rw [← HR.out] at r1
        generalize placeI l x = q at *
        go_wp2
        go_roundw
        case rel => exact ⟨k + 1, by omega, by go_num, r1, hbel⟩
        case measure => simp [intOf]; omega
    · rw [List.take_of_length_le (by omega)] at hown
      go_wp2
      go_ret
      exact ⟨_, rfl, hown, hbel⟩

set_option maxHeartbeats 400000 in
theorem places_nil (la a : Option Addr) (lc cap : Nat) (l : List Int) (w : World) :
    Calls Tryd.prog 62 #[.slice la l.length lc, .slice a 0 cap] w fun e w' => GivesO w (placesL l []) e w' := by
  go_enter Tryd.func62, Tryd.ntmps62
  go_wp2
  refine wp_loop_rounds 1 ?_
  rw [rounds_succ]
  go_wp2
  go_ret
  exact ⟨_, rfl, own_nil _ _, Below.refl _ _⟩

theorem places_any (la a : Option Addr) (lc cap : Nat) (l ss : List Int) (w : World) (hat : At w la l) (hll : l.length ≤ maxLen) (hs : At w a ss) (hl : ss.length ≤ 17592186044416) :
    Calls Tryd.prog 62 #[.slice la l.length lc, .slice a ss.length cap] w fun e w' => GivesO w (placesL l ss) e w' := by
  rcases hs with rfl | ⟨b, off, rfl, hb, hc⟩
  · exact places_nil la a lc cap l w
  · exact places_some la lc b off cap l ss w hat hll hl hb hc

end Go.Proofs.YtdnglodemkeooaaDoor
namespace Go.Proofs.YtdnglodemkeooaaDoor
open Go.RowKit
set_option linter.unusedVariables false

theorem Hid.of3 {p : Prop} (h : p) : Hid p := h

set_option maxHeartbeats 4000000 in
set_option maxRecDepth 100000 in
theorem refReach_some (st ev : Int) (starts : List Int) (ars : List Arr) (ends : List Int) (a1 : Option Addr) (c1 b off c2 : Nat) (a3 : Option Addr) (c3 : Nat) (w : World) (h1 : 0 ≤ st) (h2 : st ≤ 256) (hlen : ars.length ≤ 4096) (hb : b < w.heap.size) (hca : CellsA w b off ars) (hs : At w a1 starts) (hsl : starts.length ≤ 4096) (hn : Hid (a1 = none → c1 = 0)) :
    Calls Tryd.prog 30 #[mval ⟨st, ev, starts, ars, ends⟩ ⟨a1, c1, some ⟨b, off, none⟩, c2, a3, c3⟩] w fun e w' => Gives w (srt (closeN (·.f) (·.t) ars st.toNat starts)) e w' := by
  obtain ⟨i0, hi, hz0, hz1, hz2⟩ := info_parts Tryd.infoInt
  have o0 : Own ((w.alloc (.cells (mcells ⟨st, ev, starts, ars, ends⟩ ⟨a1, c1, some ⟨b, off, none⟩, c2, a3, c3⟩) 25)).alloc (.cells #[] 3)) (w.heap.size + 1) (.slice (some ⟨w.heap.size + 1, 0, none⟩) 0 0) [] := by
    have := own_empty (w.alloc (.cells (mcells ⟨st, ev, starts, ars, ends⟩ ⟨a1, c1, some ⟨b, off, none⟩, c2, a3, c3⟩) 25))
    rwa [World.size_alloc] at this
  have b0 : Below w.heap.size w ((w.alloc (.cells (mcells ⟨st, ev, starts, ars, ends⟩ ⟨a1, c1, some ⟨b, off, none⟩, c2, a3, c3⟩) 25)).alloc (.cells #[] 3)) := ((Below.refl _ _).alloc (Nat.le_refl _) _).alloc (by simp) _
  have bb0 : Below (w.heap.size + 1) (w.alloc (.cells (mcells ⟨st, ev, starts, ars, ends⟩ ⟨a1, c1, some ⟨b, off, none⟩, c2, a3, c3⟩) 25)) ((w.alloc (.cells (mcells ⟨st, ev, starts, ars, ends⟩ ⟨a1, c1, some ⟨b, off, none⟩, c2, a3, c3⟩) 25)).alloc (.cells #[] 3)) := (Below.refl _ _).alloc (by simp) _
  have s0 := hs.below b0 (Nat.le_refl _)
  go_enter Tryd.func30, Tryd.ntmps30
  go_wp2_with (at_builtin; refine wpList_append_ints _ rfl _ _ 22 rfl (w.heap.size + 1) i0 Tryd.underlying22 hi hz0 hz1 hz2 _ [] rfl o0 a1 c1 starts rfl s0 hn.out (by simp only [List.length_nil]; omega) (by simp) ?_)
  intro v0 w0 o1 b1 z1
  have B1 : Hid (Below (w.heap.size + 1) (w.alloc (.cells (mcells ⟨st, ev, starts, ars, ends⟩ ⟨a1, c1, some ⟨b, off, none⟩, c2, a3, c3⟩) 25)) w0) := bb0.trans b1
  have O1 : Hid (Own w0 (w.heap.size + 1) v0 starts) := o1
  clear o0 b0 bb0 s0 o1 b1
  go_wp2
  go_loopw [3, 4] (fun v i wr => ∃ (k : Nat) (L : List Int), (k : Int) ≤ st ∧ i = .int .i64 k ∧ Hid (Own wr (w.heap.size + 1) v L) ∧ Hid (Below (w.heap.size + 1) (w.alloc (.cells (mcells ⟨st, ev, starts, ars, ends⟩ ⟨a1, c1, some ⟨b, off, none⟩, c2, a3, c3⟩) 25)) wr) ∧ Hid (closeN (·.f) (·.t) ars st.toNat starts = closeN (·.f) (·.t) ars (st.toNat - k) L) ∧ L.length ≤ 4096 + k * 4096) (fun _ i _ => st.toNat - (intOf i).toNat)
  case atStart => exact ⟨0, starts, by omega, rfl, O1, B1, rfl, by omega⟩
  case round =>
    clear O1 B1
    obtain ⟨k, L, hk, rfl, hown, hbel, hc, hll⟩ := hrel
    have hold := Hid.of3 (below_box hbel.out)
    have hsz := hbel.out.size
    rw [World.size_alloc] at hsz
    have hbx : w.heap.size < wr.heap.size := by omega
    obtain ⟨x0, -, -, x3, -⟩ := box_cells hbel.out
    dsimp only at x0 x3
    obtain ⟨la, lc, rfl, hat, hln⟩ := hown.out.at
    by_cases hks : (k : Int) < st
    · go_wp2
      go_loopw [3, 6] (fun v i wr' => ∃ (j : Nat), j ≤ ars.length ∧ i = .int .i64 j ∧ Hid (Own wr' (w.heap.size + 1) v (sweep (·.f) (·.t) (ars.take j) L)) ∧ Hid (Below (w.heap.size + 1) (w.alloc (.cells (mcells ⟨st, ev, starts, ars, ends⟩ ⟨a1, c1, some ⟨b, off, none⟩, c2, a3, c3⟩) 25)) wr') ∧ (sweep (·.f) (·.t) (ars.take j) L).length ≤ L.length + j) (fun _ i _ => ars.length - (intOf i).toNat)
      case atStart => exact ⟨0, Nat.zero_le _, rfl, hown, hbel, Nat.le_refl _⟩
      case round =>
        clear hown hbel hold hat x0 x3 hsz hbx hln
        obtain ⟨j, hj, rfl, hown, hbel, hlj⟩ := hrel
        have hold := Hid.of3 (below_box hbel.out)
        have hsz := hbel.out.size
        rw [World.size_alloc] at hsz
        have hbx : w.heap.size < wr.heap.size := by omega
        obtain ⟨x0, -, -, x3, -⟩ := box_cells hbel.out
        dsimp only at x0 x3
        by_cases hlt : j < ars.length
        · obtain ⟨a, HA, y0, y1, y2⟩ := hca.at hlt
          have y0' := (hold.out.cell (p := ⟨b, off + j * 3, none⟩) hb).trans y0
          have y2' := (hold.out.cell (p := ⟨b, off + j * 3 + 2, none⟩) hb).trans y2
          clear y0 y1 y2
          have HN := Hid.of3 (sweep_take (fr := (·.f)) (to := (·.t)) (l := L) hlt HA)
          obtain ⟨T, hT⟩ : ∃ T, T = sweep (·.f) (·.t) (ars.take j) L := ⟨_, rfl⟩
          rw [← hT] at hown hlj HN
          clear hT
          obtain ⟨la', lc', rfl, hat, hln⟩ := hown.out.at
          have HAT := Hid.of3 hat
          have hln2 := Hid.of3 hln
          clear hat hln
          by_cases d1 : hasB T a.f = true
          · by_cases d2 : hasB T a.t = true
            · have HR : Hid (sweep (·.f) (·.t) (ars.take (j + 1)) L = T) := by show _ = _; rw [HN.out]; unfold along; rw [if_neg (by rw [d2]; simp)]
              clear HN
              go_wp2_with (go_at_call 60; refine (refHas_any la' lc' T _ _ HAT.out hln2.out).mono ?_; rintro e w1 ⟨rfl, rfl⟩)
              go_roundw
              case rel => exact ⟨j + 1, by omega, by go_num, by rw [HR.out]; exact hown, hbel, by rw [HR.out]; omega⟩
              case measure => simp [intOf]; omega
            · have d2 : hasB T a.t = false := by simpa using d2
              have HR : Hid (sweep (·.f) (·.t) (ars.take (j + 1)) L = T ++ [a.t]) := by show _ = _; rw [HN.out]; unfold along; rw [if_pos (by rw [d1, d2]; rfl)]
              clear HN
              have hT2 : T.length ≤ 2000000 := by omega
              go_wp2_with (first | (go_at_call 60; refine (refHas_any la' lc' T _ _ HAT.out hln2.out).mono ?_; rintro e w1 ⟨rfl, rfl⟩) | (at_builtin; refine wpList_append_own _ rfl _ _ 22 rfl (w.heap.size + 1) 3 i0 (.int .i64 0) 1 8 Tryd.underlying22 hi hz0 hz1 hz2 rfl (by decide) _ _ _ rfl (World.ownsRow.alloc hown.out _) ⟨_, 0, none⟩ 1 1 [.int .i64 a.t] rfl rfl (cell_one_new _ _ _) (by intro u hu; simp at hu; subst hu; rfl) (by unfold maxLen; omega) (by omega) (by simp; omega) ?_; intro v' w2 hown' hgrow _; obtain ⟨r1, r2, -⟩ := own_snoc hown.out hbel.out (by omega) hown' hgrow; have R1 := Hid.of3 r1; have R2 := Hid.of3 r2; clear r1 r2 hown' hgrow))
              go_roundw
              case rel => exact ⟨j + 1, by omega, by go_num, by rw [HR.out]; exact R1, R2, by rw [HR.out]; simp only [List.length_append, List.length_cons, List.length_nil]; omega⟩
              case measure => simp [intOf]; omega
          · have d1 : hasB T a.f = false := by simpa using d1
            have HR : Hid (sweep (·.f) (·.t) (ars.take (j + 1)) L = T) := by show _ = _; rw [HN.out]; unfold along; rw [if_neg (by rw [d1]; simp)]
            clear HN
            go_wp2_with (go_at_call 60; refine (refHas_any la' lc' T _ _ HAT.out hln2.out).mono ?_; rintro e w1 ⟨rfl, rfl⟩)
            go_roundw
            case rel => exact ⟨j + 1, by omega, by go_num, by rw [HR.out]; exact hown, hbel, by rw [HR.out]; omega⟩
            case measure => simp [intOf]; omega
        · have htk : ars.take j = ars := List.take_of_length_le (by omega)
          rw [htk] at hown hlj
          clear htk
          obtain ⟨T, hT⟩ : ∃ T, T = sweep (·.f) (·.t) ars L := ⟨_, rfl⟩
          have HT := Hid.of3 hT
          rw [← hT] at hown hlj
          clear hT
          have hle := sweep_le (fr := (·.f)) (to := (·.t)) ars L
          rw [← HT.out] at hle
          obtain ⟨la', lc', rfl, hat, hln⟩ := hown.out.at
          have HAT := Hid.of3 hat
          have hln2 := Hid.of3 hln
          clear hat hln
          have hks2 : st.toNat - k = (st.toNat - (k + 1)) + 1 := by omega
          by_cases hq : T.length = L.length
          · have HC : Hid (closeN (·.f) (·.t) ars st.toNat starts = T) := by
              show _ = _
              rw [hc.out, hks2, closeN, ← HT.out, if_pos hq]
            have dq : ((T.length : Int) == (L.length : Int)) = true := by simp; omega
            clear hks2 hq
            go_wp2_with (go_at_call 61; refine (sorted_any la' lc' T _ HAT.out (by omega)).mono ?_; rintro e w1 ⟨a4, c4, rfl, h4, l4, b4⟩; have H4 := Hid.of3 h4; have L4 := Hid.of3 l4; have B4 := Hid.of3 b4; clear h4 l4 b4)
            go_ret
            exact ⟨a4, c4, by rw [HC.out]; rfl, by rw [HC.out]; exact H4.out, by rw [HC.out]; exact L4.out, hold.out.trans (B4.out.mono (by omega))⟩
          · have HC : Hid (closeN (·.f) (·.t) ars st.toNat starts = closeN (·.f) (·.t) ars (st.toNat - (k + 1)) T) := by
              show _ = _
              rw [hc.out, hks2, closeN, ← HT.out, if_neg hq]
            have dq : ((T.length : Int) == (L.length : Int)) = false := by simp; omega
            clear hks2 hq
            go_wp2
            exact ⟨⟨k + 1, T, by omega, by go_num, hown, hbel, HC, by omega⟩, by simp [intOf]; omega⟩
    · have HC : Hid (closeN (·.f) (·.t) ars st.toNat starts = L) := by
        show _ = _
        rw [hc.out, show st.toNat - k = 0 by omega]; rfl
      have HAT := Hid.of3 hat
      clear hat
      go_wp2_with (go_at_call 61; refine (sorted_any la lc L _ HAT.out (by omega)).mono ?_; rintro e w1 ⟨a4, c4, rfl, h4, l4, b4⟩; have H4 := Hid.of3 h4; have L4 := Hid.of3 l4; have B4 := Hid.of3 b4; clear h4 l4 b4)
      go_ret
      exact ⟨a4, c4, by rw [HC.out]; rfl, by rw [HC.out]; exact H4.out, by rw [HC.out]; exact L4.out, hold.out.trans (B4.out.mono (by omega))⟩

set_option maxHeartbeats 4000000 in
set_option maxRecDepth 100000 in
theorem refLive_some (st ev : Int) (starts : List Int) (ars : List Arr) (ends : List Int) (a1 : Option Addr) (c1 b off c2 : Nat) (a3 : Option Addr) (c3 : Nat) (w : World) (h1 : 0 ≤ st) (h2 : st ≤ 256) (hlen : ars.length ≤ 4096) (hb : b < w.heap.size) (hca : CellsA w b off ars) (hs : At w a3 ends) (hsl : ends.length ≤ 4096) (hn : Hid (a3 = none → c3 = 0)) :
    Calls Tryd.prog 31 #[mval ⟨st, ev, starts, ars, ends⟩ ⟨a1, c1, some ⟨b, off, none⟩, c2, a3, c3⟩] w fun e w' => Gives w (srt (closeN (·.t) (·.f) ars st.toNat ends)) e w' := by
  obtain ⟨i0, hi, hz0, hz1, hz2⟩ := info_parts Tryd.infoInt
  have o0 : Own ((w.alloc (.cells (mcells ⟨st, ev, starts, ars, ends⟩ ⟨a1, c1, some ⟨b, off, none⟩, c2, a3, c3⟩) 25)).alloc (.cells #[] 3)) (w.heap.size + 1) (.slice (some ⟨w.heap.size + 1, 0, none⟩) 0 0) [] := by
    have := own_empty (w.alloc (.cells (mcells ⟨st, ev, starts, ars, ends⟩ ⟨a1, c1, some ⟨b, off, none⟩, c2, a3, c3⟩) 25))
    rwa [World.size_alloc] at this
  have b0 : Below w.heap.size w ((w.alloc (.cells (mcells ⟨st, ev, starts, ars, ends⟩ ⟨a1, c1, some ⟨b, off, none⟩, c2, a3, c3⟩) 25)).alloc (.cells #[] 3)) := ((Below.refl _ _).alloc (Nat.le_refl _) _).alloc (by simp) _
  have bb0 : Below (w.heap.size + 1) (w.alloc (.cells (mcells ⟨st, ev, starts, ars, ends⟩ ⟨a1, c1, some ⟨b, off, none⟩, c2, a3, c3⟩) 25)) ((w.alloc (.cells (mcells ⟨st, ev, starts, ars, ends⟩ ⟨a1, c1, some ⟨b, off, none⟩, c2, a3, c3⟩) 25)).alloc (.cells #[] 3)) := (Below.refl _ _).alloc (by simp) _
  have s0 := hs.below b0 (Nat.le_refl _)
  go_enter Tryd.func31, Tryd.ntmps31
  go_wp2_with (at_builtin; refine wpList_append_ints _ rfl _ _ 22 rfl (w.heap.size + 1) i0 Tryd.underlying22 hi hz0 hz1 hz2 _ [] rfl o0 a3 c3 ends rfl s0 hn.out (by simp only [List.length_nil]; omega) (by simp) ?_)
  intro v0 w0 o1 b1 z1
  have B1 : Hid (Below (w.heap.size + 1) (w.alloc (.cells (mcells ⟨st, ev, starts, ars, ends⟩ ⟨a1, c1, some ⟨b, off, none⟩, c2, a3, c3⟩) 25)) w0) := bb0.trans b1
  have O1 : Hid (Own w0 (w.heap.size + 1) v0 ends) := o1
  clear o0 b0 bb0 s0 o1 b1
  go_wp2
  go_loopw [3, 4] (fun v i wr => ∃ (k : Nat) (L : List Int), (k : Int) ≤ st ∧ i = .int .i64 k ∧ Hid (Own wr (w.heap.size + 1) v L) ∧ Hid (Below (w.heap.size + 1) (w.alloc (.cells (mcells ⟨st, ev, starts, ars, ends⟩ ⟨a1, c1, some ⟨b, off, none⟩, c2, a3, c3⟩) 25)) wr) ∧ Hid (closeN (·.t) (·.f) ars st.toNat ends = closeN (·.t) (·.f) ars (st.toNat - k) L) ∧ L.length ≤ 4096 + k * 4096) (fun _ i _ => st.toNat - (intOf i).toNat)
  case atStart => exact ⟨0, ends, by omega, rfl, O1, B1, rfl, by omega⟩
  case round =>
    clear O1 B1
    obtain ⟨k, L, hk, rfl, hown, hbel, hc, hll⟩ := hrel
    have hold := Hid.of3 (below_box hbel.out)
    have hsz := hbel.out.size
    rw [World.size_alloc] at hsz
    have hbx : w.heap.size < wr.heap.size := by omega
    obtain ⟨x0, -, -, x3, -⟩ := box_cells hbel.out
    dsimp only at x0 x3
    obtain ⟨la, lc, rfl, hat, hln⟩ := hown.out.at
    by_cases hks : (k : Int) < st
    · go_wp2
      go_loopw [3, 6] (fun v i wr' => ∃ (j : Nat), j ≤ ars.length ∧ i = .int .i64 j ∧ Hid (Own wr' (w.heap.size + 1) v (sweep (·.t) (·.f) (ars.take j) L)) ∧ Hid (Below (w.heap.size + 1) (w.alloc (.cells (mcells ⟨st, ev, starts, ars, ends⟩ ⟨a1, c1, some ⟨b, off, none⟩, c2, a3, c3⟩) 25)) wr') ∧ (sweep (·.t) (·.f) (ars.take j) L).length ≤ L.length + j) (fun _ i _ => ars.length - (intOf i).toNat)
      case atStart => exact ⟨0, Nat.zero_le _, rfl, hown, hbel, Nat.le_refl _⟩
      case round =>
        clear hown hbel hold hat x0 x3 hsz hbx hln
        obtain ⟨j, hj, rfl, hown, hbel, hlj⟩ := hrel
        have hold := Hid.of3 (below_box hbel.out)
        have hsz := hbel.out.size
        rw [World.size_alloc] at hsz
        have hbx : w.heap.size < wr.heap.size := by omega
        obtain ⟨x0, -, -, x3, -⟩ := box_cells hbel.out
        dsimp only at x0 x3
        by_cases hlt : j < ars.length
        · obtain ⟨a, HA, y0, y1, y2⟩ := hca.at hlt
          have y0' := (hold.out.cell (p := ⟨b, off + j * 3, none⟩) hb).trans y0
          have y2' := (hold.out.cell (p := ⟨b, off + j * 3 + 2, none⟩) hb).trans y2
          clear y0 y1 y2
          have HN := Hid.of3 (sweep_take (fr := (·.t)) (to := (·.f)) (l := L) hlt HA)
          obtain ⟨T, hT⟩ : ∃ T, T = sweep (·.t) (·.f) (ars.take j) L := ⟨_, rfl⟩
          rw [← hT] at hown hlj HN
          clear hT
          obtain ⟨la', lc', rfl, hat, hln⟩ := hown.out.at
          have HAT := Hid.of3 hat
          have hln2 := Hid.of3 hln
          clear hat hln
          by_cases d1 : hasB T a.t = true
          · by_cases d2 : hasB T a.f = true
            · have HR : Hid (sweep (·.t) (·.f) (ars.take (j + 1)) L = T) := by show _ = _; rw [HN.out]; unfold along; rw [if_neg (by rw [d2]; simp)]
              clear HN
              go_wp2_with (go_at_call 60; refine (refHas_any la' lc' T _ _ HAT.out hln2.out).mono ?_; rintro e w1 ⟨rfl, rfl⟩)
              go_roundw
              case rel => exact ⟨j + 1, by omega, by go_num, by rw [HR.out]; exact hown, hbel, by rw [HR.out]; omega⟩
              case measure => simp [intOf]; omega
            · have d2 : hasB T a.f = false := by simpa using d2
              have HR : Hid (sweep (·.t) (·.f) (ars.take (j + 1)) L = T ++ [a.f]) := by show _ = _; rw [HN.out]; unfold along; rw [if_pos (by rw [d1, d2]; rfl)]
              clear HN
              have hT2 : T.length ≤ 2000000 := by omega
              go_wp2_with (first | (go_at_call 60; refine (refHas_any la' lc' T _ _ HAT.out hln2.out).mono ?_; rintro e w1 ⟨rfl, rfl⟩) | (at_builtin; refine wpList_append_own _ rfl _ _ 22 rfl (w.heap.size + 1) 3 i0 (.int .i64 0) 1 8 Tryd.underlying22 hi hz0 hz1 hz2 rfl (by decide) _ _ _ rfl (World.ownsRow.alloc hown.out _) ⟨_, 0, none⟩ 1 1 [.int .i64 a.f] rfl rfl (cell_one_new _ _ _) (by intro u hu; simp at hu; subst hu; rfl) (by unfold maxLen; omega) (by omega) (by simp; omega) ?_; intro v' w2 hown' hgrow _; obtain ⟨r1, r2, -⟩ := own_snoc hown.out hbel.out (by omega) hown' hgrow; have R1 := Hid.of3 r1; have R2 := Hid.of3 r2; clear r1 r2 hown' hgrow))
              go_roundw
              case rel => exact ⟨j + 1, by omega, by go_num, by rw [HR.out]; exact R1, R2, by rw [HR.out]; simp only [List.length_append, List.length_cons, List.length_nil]; omega⟩
              case measure => simp [intOf]; omega
          · have d1 : hasB T a.t = false := by simpa using d1
            have HR : Hid (sweep (·.t) (·.f) (ars.take (j + 1)) L = T) := by show _ = _; rw [HN.out]; unfold along; rw [if_neg (by rw [d1]; simp)]
            clear HN
            go_wp2_with (go_at_call 60; refine (refHas_any la' lc' T _ _ HAT.out hln2.out).mono ?_; rintro e w1 ⟨rfl, rfl⟩)
            go_roundw
            case rel => exact ⟨j + 1, by omega, by go_num, by rw [HR.out]; exact hown, hbel, by rw [HR.out]; omega⟩
            case measure => simp [intOf]; omega
        · have htk : ars.take j = ars := List.take_of_length_le (by omega)
          rw [htk] at hown hlj
          clear htk
          obtain ⟨T, hT⟩ : ∃ T, T = sweep (·.t) (·.f) ars L := ⟨_, rfl⟩
          have HT := Hid.of3 hT
          rw [← hT] at hown hlj
          clear hT
          have hle := sweep_le (fr := (·.t)) (to := (·.f)) ars L
          rw [← HT.out] at hle
          obtain ⟨la', lc', rfl, hat, hln⟩ := hown.out.at
          have HAT := Hid.of3 hat
          have hln2 := Hid.of3 hln
          clear hat hln
          have hks2 : st.toNat - k = (st.toNat - (k + 1)) + 1 := by omega
          by_cases hq : T.length = L.length
          · have HC : Hid (closeN (·.t) (·.f) ars st.toNat ends = T) := by
              show _ = _
              rw [hc.out, hks2, closeN, ← HT.out, if_pos hq]
            have dq : ((T.length : Int) == (L.length : Int)) = true := by simp; omega
            clear hks2 hq
            go_wp2_with (go_at_call 61; refine (sorted_any la' lc' T _ HAT.out (by omega)).mono ?_; rintro e w1 ⟨a4, c4, rfl, h4, l4, b4⟩; have H4 := Hid.of3 h4; have L4 := Hid.of3 l4; have B4 := Hid.of3 b4; clear h4 l4 b4)
            go_ret
            exact ⟨a4, c4, by rw [HC.out]; rfl, by rw [HC.out]; exact H4.out, by rw [HC.out]; exact L4.out, hold.out.trans (B4.out.mono (by omega))⟩
          · have HC : Hid (closeN (·.t) (·.f) ars st.toNat ends = closeN (·.t) (·.f) ars (st.toNat - (k + 1)) T) := by
              show _ = _
              rw [hc.out, hks2, closeN, ← HT.out, if_neg hq]
            have dq : ((T.length : Int) == (L.length : Int)) = false := by simp; omega
            clear hks2 hq
            go_wp2
            exact ⟨⟨k + 1, T, by omega, by go_num, hown, hbel, HC, by omega⟩, by simp [intOf]; omega⟩
    · have HC : Hid (closeN (·.t) (·.f) ars st.toNat ends = L) := by
        show _ = _
        rw [hc.out, show st.toNat - k = 0 by omega]; rfl
      have HAT := Hid.of3 hat
      clear hat
      go_wp2_with (go_at_call 61; refine (sorted_any la lc L _ HAT.out (by omega)).mono ?_; rintro e w1 ⟨a4, c4, rfl, h4, l4, b4⟩; have H4 := Hid.of3 h4; have L4 := Hid.of3 l4; have B4 := Hid.of3 b4; clear h4 l4 b4)
      go_ret
      exact ⟨a4, c4, by rw [HC.out]; rfl, by rw [HC.out]; exact H4.out, by rw [HC.out]; exact L4.out, hold.out.trans (B4.out.mono (by omega))⟩

set_option maxHeartbeats 4000000 in
set_option maxRecDepth 100000 in
theorem refReach_none (st ev : Int) (starts ends : List Int) (l : ML) (w : World) (h1 : 1 ≤ st) (hs : At w l.a1 starts) (hsl : starts.length ≤ 4096) (hn : Hid (l.a1 = none → l.c1 = 0)) :
    Calls Tryd.prog 30 #[mval ⟨st, ev, starts, [], ends⟩ l] w fun e w' => Gives w (srt starts) e w' := by
  obtain ⟨i0, hi, hz0, hz1, hz2⟩ := info_parts Tryd.infoInt
  have o0 : Own ((w.alloc (.cells (mcells ⟨st, ev, starts, [], ends⟩ l) 25)).alloc (.cells #[] 3)) (w.heap.size + 1) (.slice (some ⟨w.heap.size + 1, 0, none⟩) 0 0) [] := by
    have := own_empty (w.alloc (.cells (mcells ⟨st, ev, starts, [], ends⟩ l) 25))
    rwa [World.size_alloc] at this
  have b0 : Below w.heap.size w ((w.alloc (.cells (mcells ⟨st, ev, starts, [], ends⟩ l) 25)).alloc (.cells #[] 3)) := ((Below.refl _ _).alloc (Nat.le_refl _) _).alloc (by simp) _
  have bb0 : Below (w.heap.size + 1) (w.alloc (.cells (mcells ⟨st, ev, starts, [], ends⟩ l) 25)) ((w.alloc (.cells (mcells ⟨st, ev, starts, [], ends⟩ l) 25)).alloc (.cells #[] 3)) := (Below.refl _ _).alloc (by simp) _
  have s0 := hs.below b0 (Nat.le_refl _)
  go_enter Tryd.func30, Tryd.ntmps30
  go_wp2_with (at_builtin; refine wpList_append_ints _ rfl _ _ 22 rfl (w.heap.size + 1) i0 Tryd.underlying22 hi hz0 hz1 hz2 _ [] rfl o0 l.a1 l.c1 starts rfl s0 hn.out (by simp only [List.length_nil]; omega) (by simp) ?_)
  intro v0 w0 o1 b1 z1
  have B1 : Hid (Below (w.heap.size + 1) (w.alloc (.cells (mcells ⟨st, ev, starts, [], ends⟩ l) 25)) w0) := bb0.trans b1
  obtain ⟨la, lc, rfl, hat, hln⟩ := Own.at (show Own w0 (w.heap.size + 1) v0 starts from o1)
  have HAT := Hid.of3 hat
  obtain ⟨x0, -, -, x3, -⟩ := box_cells B1.out
  dsimp only at x0 x3
  clear o0 b0 bb0 s0 o1 b1 hat
  have hd : decide (0 < st) = true := by simp; omega
  have hd' : 0 < st := by omega
  go_wp2
  refine wp_loop_rounds 1 ?_
  rw [rounds_succ]
  go_wp2
  refine wp_loop_rounds 1 ?_
  rw [rounds_succ]
  go_wp2_with (go_at_call 61; refine (sorted_any la lc starts _ HAT.out (by omega)).mono ?_; rintro e w1 ⟨a4, c4, rfl, h4, l4, b4⟩; have H4 := Hid.of3 h4; have L4 := Hid.of3 l4; have B4 := Hid.of3 b4; clear h4 l4 b4)
  go_ret
  exact ⟨a4, c4, rfl, H4.out, L4.out, (below_box B1.out).trans (B4.out.mono (by have := B1.out.size; rw [World.size_alloc] at this; omega))⟩

theorem refReach_any (m : Mach) (l : ML) (w : World) (hm : mayB m = true) (h : MAt w m l) :
    Calls Tryd.prog 30 #[mval m l] w fun e w' => Gives w (reachL m) e w' := by
  have hz := mayB_size hm
  have hr := mayB_starts hm
  unfold sizeOk at hz
  have hl : m.starts.length ≤ 4096 := by
    unfold rowB at hr
    have := goIs_len _ _ _ (by omega) hr
    omega
  obtain ⟨st, ev, starts, arrows, ends⟩ := m
  obtain ⟨a1, c1, a2, c2, a3, c3⟩ := l
  simp only at hz hl
  rcases h.a with h0 | ⟨b, off, h0, hb, hc⟩
  · have h0 : arrows = [] := h0
    subst h0
    have e : reachL ⟨st, ev, starts, [], ends⟩ = srt starts := by
      unfold reachL
      simp only
      obtain ⟨k, hk⟩ : ∃ k, st.toNat = k + 1 := ⟨st.toNat - 1, by omega⟩
      rw [hk, closeN]
      simp [sweep]
    rw [e]
    exact refReach_none st ev starts ends ⟨a1, c1, a2, c2, a3, c3⟩ w hz.1 h.s hl (Hid.of3 h.s3)
  · have h0 : a2 = some ⟨b, off, none⟩ := h0
    subst h0
    exact refReach_some st ev starts arrows ends a1 c1 b off c2 a3 c3 w (by omega) (by omega) (by omega) hb hc h.s hl (Hid.of3 h.s3)

set_option maxHeartbeats 4000000 in
set_option maxRecDepth 100000 in
theorem refLive_none (st ev : Int) (starts ends : List Int) (l : ML) (w : World) (h1 : 1 ≤ st) (hs : At w l.a3 ends) (hsl : ends.length ≤ 4096) (hn : Hid (l.a3 = none → l.c3 = 0)) :
    Calls Tryd.prog 31 #[mval ⟨st, ev, starts, [], ends⟩ l] w fun e w' => Gives w (srt ends) e w' := by
  obtain ⟨i0, hi, hz0, hz1, hz2⟩ := info_parts Tryd.infoInt
  have o0 : Own ((w.alloc (.cells (mcells ⟨st, ev, starts, [], ends⟩ l) 25)).alloc (.cells #[] 3)) (w.heap.size + 1) (.slice (some ⟨w.heap.size + 1, 0, none⟩) 0 0) [] := by
    have := own_empty (w.alloc (.cells (mcells ⟨st, ev, starts, [], ends⟩ l) 25))
    rwa [World.size_alloc] at this
  have b0 : Below w.heap.size w ((w.alloc (.cells (mcells ⟨st, ev, starts, [], ends⟩ l) 25)).alloc (.cells #[] 3)) := ((Below.refl _ _).alloc (Nat.le_refl _) _).alloc (by simp) _
  have bb0 : Below (w.heap.size + 1) (w.alloc (.cells (mcells ⟨st, ev, starts, [], ends⟩ l) 25)) ((w.alloc (.cells (mcells ⟨st, ev, starts, [], ends⟩ l) 25)).alloc (.cells #[] 3)) := (Below.refl _ _).alloc (by simp) _
  have s0 := hs.below b0 (Nat.le_refl _)
  go_enter Tryd.func31, Tryd.ntmps31
  go_wp2_with (at_builtin; refine wpList_append_ints _ rfl _ _ 22 rfl (w.heap.size + 1) i0 Tryd.underlying22 hi hz0 hz1 hz2 _ [] rfl o0 l.a3 l.c3 ends rfl s0 hn.out (by simp only [List.length_nil]; omega) (by simp) ?_)
  intro v0 w0 o1 b1 z1
  have B1 : Hid (Below (w.heap.size + 1) (w.alloc (.cells (mcells ⟨st, ev, starts, [], ends⟩ l) 25)) w0) := bb0.trans b1
  obtain ⟨la, lc, rfl, hat, hln⟩ := Own.at (show Own w0 (w.heap.size + 1) v0 ends from o1)
  have HAT := Hid.of3 hat
  obtain ⟨x0, -, -, x3, -⟩ := box_cells B1.out
  dsimp only at x0 x3
  clear o0 b0 bb0 s0 o1 b1 hat
  have hd : decide (0 < st) = true := by simp; omega
  have hd' : 0 < st := by omega
  go_wp2
  refine wp_loop_rounds 1 ?_
  rw [rounds_succ]
  go_wp2
  refine wp_loop_rounds 1 ?_
  rw [rounds_succ]
  go_wp2_with (go_at_call 61; refine (sorted_any la lc ends _ HAT.out (by omega)).mono ?_; rintro e w1 ⟨a4, c4, rfl, h4, l4, b4⟩; have H4 := Hid.of3 h4; have L4 := Hid.of3 l4; have B4 := Hid.of3 b4; clear h4 l4 b4)
  go_ret
  exact ⟨a4, c4, rfl, H4.out, L4.out, (below_box B1.out).trans (B4.out.mono (by have := B1.out.size; rw [World.size_alloc] at this; omega))⟩

theorem refLive_any (m : Mach) (l : ML) (w : World) (hm : mayB m = true) (h : MAt w m l) :
    Calls Tryd.prog 31 #[mval m l] w fun e w' => Gives w (liveL m) e w' := by
  have hz := mayB_size hm
  have hr := mayB_ends hm
  unfold sizeOk at hz
  have hl : m.ends.length ≤ 4096 := by
    unfold rowB at hr
    have := goIs_len _ _ _ (by omega) hr
    omega
  obtain ⟨st, ev, starts, arrows, ends⟩ := m
  obtain ⟨a1, c1, a2, c2, a3, c3⟩ := l
  simp only at hz hl
  rcases h.a with h0 | ⟨b, off, h0, hb, hc⟩
  · have h0 : arrows = [] := h0
    subst h0
    have e : liveL ⟨st, ev, starts, [], ends⟩ = srt ends := by
      unfold liveL
      simp only
      obtain ⟨k, hk⟩ : ∃ k, st.toNat = k + 1 := ⟨st.toNat - 1, by omega⟩
      rw [hk, closeN]
      simp [sweep]
    rw [e]
    exact refLive_none st ev starts ends ⟨a1, c1, a2, c2, a3, c3⟩ w hz.1 h.e hl (Hid.of3 h.e3)
  · have h0 : a2 = some ⟨b, off, none⟩ := h0
    subst h0
    exact refLive_some st ev starts arrows ends a1 c1 b off c2 a3 c3 w (by omega) (by omega) (by omega) hb hc h.e hl (Hid.of3 h.e3)

end Go.Proofs.YtdnglodemkeooaaDoor
