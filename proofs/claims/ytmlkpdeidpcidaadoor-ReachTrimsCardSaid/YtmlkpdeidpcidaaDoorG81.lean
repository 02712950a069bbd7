/-
  reach.reached and reach.alive, of whatever machine may be.
  The walk of reach.Trim.
  The walk of the law ReachTrims.
-/
import Derived.Test.YtmlkpdeidpcidaaDoorCAlive
import Derived.Test.YtmlkpdeidpcidaaDoorCPart
import Derived.Test.YtmlkpdeidpcidaaDoorG07
import Derived.Test.YtmlkpdeidpcidaaDoorG22
import Derived.Test.YtmlkpdeidpcidaaDoorCPAccepts
namespace Go.Proofs.YtmlkpdeidpcidaaDoor
open Go.RowKit
set_option linter.unusedVariables false

set_option maxRecDepth 100000 in
set_option maxHeartbeats 4000000 in
theorem reached_none (st : Nat) (ev : Int) (starts : List Int) (ends : List Int) (l : ML) (w : World) (hst : st ≤ 256) (hs : Hid (At w l.a1 starts)) (hsl : Hid (starts.length ≤ maxLen)) (hsb : Hid (∀ x ∈ starts, 0 ≤ x ∧ x < (st : Int))) (hT : Hid (Tab w)) :
    Calls Tryd.prog 62 #[mval ⟨st, ev, starts, [], ends⟩ l] w fun e w' => RchGives w (·.f) (·.t) [] starts e w' := by
  obtain ⟨i0, hi, hz0, hz1, hz2⟩ := info_parts Tryd.infoSet
  have hmk : ∀ w : World, (Instr.makeSlice 100 (.int .i64 st) (.int .i64 st)).run Tryd.prog w = .ok (.slice (some ⟨w.heap.size, 0, none⟩) st st) (w.alloc (.cells (madeCells #[.int .u64 0, .int .u64 0, .int .u64 0, .int .u64 0] (st * 4)) 85)) := fun w => by
    have := run_make (P := Tryd.prog) w 100 85 i0 (sval zeroS) Tryd.underlying100 hi hz0 .i64 .i64 st st (by omega) (by omega) (by rw [hz2]; omega) (by omega)
    rw [hz1, Int.toNat_natCast] at this
    exact this
  clear hi hz0 hz1 hz2
  go_enter Tryd.func62, Tryd.ntmps62
  go_wp2
  have HM : Hid (Blk (((w.alloc (.cells (mcells ⟨st, ev, starts, [], ends⟩ l) 25)).alloc (.cells #[.int .u64 0, .int .u64 0, .int .u64 0, .int .u64 0] 85)).alloc (.cells (madeCells #[.int .u64 0, .int .u64 0, .int .u64 0, .int .u64 0] (st * 4)) 85)) w.heap.size 25 (mcells ⟨st, ev, starts, [], ends⟩ l)) := ((Blk.new w _ _).alloc _).alloc _
  have HS : Hid (SB (((w.alloc (.cells (mcells ⟨st, ev, starts, [], ends⟩ l) 25)).alloc (.cells #[.int .u64 0, .int .u64 0, .int .u64 0, .int .u64 0] 85)).alloc (.cells (madeCells #[.int .u64 0, .int .u64 0, .int .u64 0, .int .u64 0] (st * 4)) 85)) (w.heap.size + 1) zeroS) := by
    have := (Blk.new (w.alloc (.cells (mcells ⟨st, ev, starts, [], ends⟩ l) 25)) 85 (scells zeroS)).alloc (.cells (madeCells #[.int .u64 0, .int .u64 0, .int .u64 0, .int .u64 0] (st * 4)) 85)
    rwa [World.size_alloc] at this
  have HT : Hid (TB (((w.alloc (.cells (mcells ⟨st, ev, starts, [], ends⟩ l) 25)).alloc (.cells #[.int .u64 0, .int .u64 0, .int .u64 0, .int .u64 0] 85)).alloc (.cells (madeCells #[.int .u64 0, .int .u64 0, .int .u64 0, .int .u64 0] (st * 4)) 85)) (w.heap.size + 2) st (tabK (·.f) (·.t) [])) := by
    have := Blk.new ((w.alloc (.cells (mcells ⟨st, ev, starts, [], ends⟩ l) 25)).alloc (.cells #[.int .u64 0, .int .u64 0, .int .u64 0, .int .u64 0] 85)) 85 (madeCells #[.int .u64 0, .int .u64 0, .int .u64 0, .int .u64 0] (st * 4))
    rw [World.size_alloc, World.size_alloc] at this
    exact TB.made this
  have HB : Hid (Below w.heap.size w (((w.alloc (.cells (mcells ⟨st, ev, starts, [], ends⟩ l) 25)).alloc (.cells #[.int .u64 0, .int .u64 0, .int .u64 0, .int .u64 0] 85)).alloc (.cells (madeCells #[.int .u64 0, .int .u64 0, .int .u64 0, .int .u64 0] (st * 4)) 85))) := (((Below.refl _ _).alloc (Nat.le_refl _) _).alloc (by simp) _).alloc (by simp; omega) _
  refine wp_loop_rounds 1 ?_
  rw [rounds_succ]
  revert HM HS HT HB
  generalize ((w.alloc (.cells (mcells ⟨st, ev, starts, [], ends⟩ l) 25)).alloc (.cells #[.int .u64 0, .int .u64 0, .int .u64 0, .int .u64 0] 85)).alloc (.cells (madeCells #[.int .u64 0, .int .u64 0, .int .u64 0, .int .u64 0] (st * 4)) 85) = wr
  intro HM HS HT HB
  have x2 : wr.cell? ⟨w.heap.size, 2, none⟩ = some (.slice l.a1 starts.length l.c1) := HM.out.cell 2 rfl
  clear hmk
  go_wp2_with fail
  refine (of_any l.a1 l.c1 starts _ (hs.out.below HB.out (Nat.le_refl _)) hsl.out (fun x hx => by have := hsb.out x hx; omega)).mono ?_
  rintro e w1 ⟨rfl, hb1⟩
  have HB1 := Hid.of (HB.out.trans (hb1.mono HB.out.size))
  have HT1 := Hid.of (HT.out.below hb1 HT.out.lt)
  have HS1 := Hid.of (HS.out.below hb1 HS.out.lt)
  clear hb1 x2
  go_wp2_with fail
  refine (spread_any (·.f) (·.t) [] starts st hst hsb.out (fun a ha => by simp at ha) _ _ (hT.out.below HB1.out hT.out.lt) HT1.out).mono ?_
  rintro e w2 ⟨F, hok, rfl, hrch, hb2⟩
  have HB2 := Hid.of (HB1.out.trans (hb2.mono HB1.out.size))
  have s2 := HS1.out.below hb2 HS1.out.lt
  obtain ⟨r0, r1, r2, r3⟩ := SB.cells s2
  have rz := s2.frozen
  have k2 := Hid.of (SB.set4 s2 F)
  have HR := Hid.of hrch
  have HO := Hid.of hok
  clear hb2 hrch hok s2
  go_wp2
  refine bodyPost_ret (v := sval F) ?_ rfl ⟨F, HO.out, rfl, HR.out, below_set4 HB2.out (b' := w.heap.size + 1) (by omega) _ _ _ _⟩
  exact results_cell_row (g := w.heap.size + 1) (p := 2) rfl _ _ _ _ _ _ rfl k2.out Tryd.underlying85 rfl (by kernel_rfl)

theorem reached_any (m : Mach) (l : ML) (w : World) (hm : mayB m = true) (h : MAt w m l) (hT : Tab w) :
    Calls Tryd.prog 62 #[mval m l] w fun e w' => RchGives w (·.f) (·.t) m.arrows m.starts e w' := by
  have hz := mayB_size hm
  have ha := may_arrs hm
  have hb := (may_starts hm).2
  obtain ⟨st, ev, starts, arrows, ends⟩ := m
  obtain ⟨z1, z2, z3, z4, z5⟩ := hz
  simp only at z1 z2 z3 z4 z5 ha hb
  obtain ⟨s, rfl⟩ : ∃ s : Nat, st = (s : Int) := ⟨st.toNat, by omega⟩
  obtain ⟨a1, c1, a2, c2, a3, c3⟩ := l
  have hsl : starts.length ≤ maxLen := Nat.le_trans h.s1 h.s2
  rcases h.a with h0 | ⟨b, off, h0, hlt, hc⟩
  · have h0 : arrows = [] := h0
    subst h0
    exact reached_none s ev starts ends _ w (by omega) h.s hsl hb hT
  · have h0 : a2 = some ⟨b, off, none⟩ := h0
    subst h0
    exact reached_some s ev starts arrows ends a1 c1 b off c2 a3 c3 w (by omega) z5 hlt hc (fun a h => by have := ha a h; exact ⟨⟨this.1, this.2.1⟩, this.2.2.1, this.2.2.2.1⟩) h.s hsl hb hT

set_option maxRecDepth 100000 in
set_option maxHeartbeats 4000000 in
theorem alive_none (st : Nat) (ev : Int) (starts : List Int) (ends : List Int) (l : ML) (w : World) (hst : st ≤ 256) (hs : Hid (At w l.a3 ends)) (hsl : Hid (ends.length ≤ maxLen)) (hsb : Hid (∀ x ∈ ends, 0 ≤ x ∧ x < (st : Int))) (hT : Hid (Tab w)) :
    Calls Tryd.prog 64 #[mval ⟨st, ev, starts, [], ends⟩ l] w fun e w' => RchGives w (·.t) (·.f) [] ends e w' := by
  obtain ⟨i0, hi, hz0, hz1, hz2⟩ := info_parts Tryd.infoSet
  have hmk : ∀ w : World, (Instr.makeSlice 100 (.int .i64 st) (.int .i64 st)).run Tryd.prog w = .ok (.slice (some ⟨w.heap.size, 0, none⟩) st st) (w.alloc (.cells (madeCells #[.int .u64 0, .int .u64 0, .int .u64 0, .int .u64 0] (st * 4)) 85)) := fun w => by
    have := run_make (P := Tryd.prog) w 100 85 i0 (sval zeroS) Tryd.underlying100 hi hz0 .i64 .i64 st st (by omega) (by omega) (by rw [hz2]; omega) (by omega)
    rw [hz1, Int.toNat_natCast] at this
    exact this
  clear hi hz0 hz1 hz2
  go_enter Tryd.func64, Tryd.ntmps64
  go_wp2
  have HM : Hid (Blk (((w.alloc (.cells (mcells ⟨st, ev, starts, [], ends⟩ l) 25)).alloc (.cells #[.int .u64 0, .int .u64 0, .int .u64 0, .int .u64 0] 85)).alloc (.cells (madeCells #[.int .u64 0, .int .u64 0, .int .u64 0, .int .u64 0] (st * 4)) 85)) w.heap.size 25 (mcells ⟨st, ev, starts, [], ends⟩ l)) := ((Blk.new w _ _).alloc _).alloc _
  have HS : Hid (SB (((w.alloc (.cells (mcells ⟨st, ev, starts, [], ends⟩ l) 25)).alloc (.cells #[.int .u64 0, .int .u64 0, .int .u64 0, .int .u64 0] 85)).alloc (.cells (madeCells #[.int .u64 0, .int .u64 0, .int .u64 0, .int .u64 0] (st * 4)) 85)) (w.heap.size + 1) zeroS) := by
    have := (Blk.new (w.alloc (.cells (mcells ⟨st, ev, starts, [], ends⟩ l) 25)) 85 (scells zeroS)).alloc (.cells (madeCells #[.int .u64 0, .int .u64 0, .int .u64 0, .int .u64 0] (st * 4)) 85)
    rwa [World.size_alloc] at this
  have HT : Hid (TB (((w.alloc (.cells (mcells ⟨st, ev, starts, [], ends⟩ l) 25)).alloc (.cells #[.int .u64 0, .int .u64 0, .int .u64 0, .int .u64 0] 85)).alloc (.cells (madeCells #[.int .u64 0, .int .u64 0, .int .u64 0, .int .u64 0] (st * 4)) 85)) (w.heap.size + 2) st (tabK (·.t) (·.f) [])) := by
    have := Blk.new ((w.alloc (.cells (mcells ⟨st, ev, starts, [], ends⟩ l) 25)).alloc (.cells #[.int .u64 0, .int .u64 0, .int .u64 0, .int .u64 0] 85)) 85 (madeCells #[.int .u64 0, .int .u64 0, .int .u64 0, .int .u64 0] (st * 4))
    rw [World.size_alloc, World.size_alloc] at this
    exact TB.made this
  have HB : Hid (Below w.heap.size w (((w.alloc (.cells (mcells ⟨st, ev, starts, [], ends⟩ l) 25)).alloc (.cells #[.int .u64 0, .int .u64 0, .int .u64 0, .int .u64 0] 85)).alloc (.cells (madeCells #[.int .u64 0, .int .u64 0, .int .u64 0, .int .u64 0] (st * 4)) 85))) := (((Below.refl _ _).alloc (Nat.le_refl _) _).alloc (by simp) _).alloc (by simp; omega) _
  refine wp_loop_rounds 1 ?_
  rw [rounds_succ]
  revert HM HS HT HB
  generalize ((w.alloc (.cells (mcells ⟨st, ev, starts, [], ends⟩ l) 25)).alloc (.cells #[.int .u64 0, .int .u64 0, .int .u64 0, .int .u64 0] 85)).alloc (.cells (madeCells #[.int .u64 0, .int .u64 0, .int .u64 0, .int .u64 0] (st * 4)) 85) = wr
  intro HM HS HT HB
  have x2 : wr.cell? ⟨w.heap.size, 4, none⟩ = some (.slice l.a3 ends.length l.c3) := HM.out.cell 4 rfl
  clear hmk
  go_wp2_with fail
  refine (of_any l.a3 l.c3 ends _ (hs.out.below HB.out (Nat.le_refl _)) hsl.out (fun x hx => by have := hsb.out x hx; omega)).mono ?_
  rintro e w1 ⟨rfl, hb1⟩
  have HB1 := Hid.of (HB.out.trans (hb1.mono HB.out.size))
  have HT1 := Hid.of (HT.out.below hb1 HT.out.lt)
  have HS1 := Hid.of (HS.out.below hb1 HS.out.lt)
  clear hb1 x2
  go_wp2_with fail
  refine (spread_any (·.t) (·.f) [] ends st hst hsb.out (fun a ha => by simp at ha) _ _ (hT.out.below HB1.out hT.out.lt) HT1.out).mono ?_
  rintro e w2 ⟨F, hok, rfl, hrch, hb2⟩
  have HB2 := Hid.of (HB1.out.trans (hb2.mono HB1.out.size))
  have s2 := HS1.out.below hb2 HS1.out.lt
  obtain ⟨r0, r1, r2, r3⟩ := SB.cells s2
  have rz := s2.frozen
  have k2 := Hid.of (SB.set4 s2 F)
  have HR := Hid.of hrch
  have HO := Hid.of hok
  clear hb2 hrch hok s2
  go_wp2
  refine bodyPost_ret (v := sval F) ?_ rfl ⟨F, HO.out, rfl, HR.out, below_set4 HB2.out (b' := w.heap.size + 1) (by omega) _ _ _ _⟩
  exact results_cell_row (g := w.heap.size + 1) (p := 2) rfl _ _ _ _ _ _ rfl k2.out Tryd.underlying85 rfl (by kernel_rfl)

theorem alive_any (m : Mach) (l : ML) (w : World) (hm : mayB m = true) (h : MAt w m l) (hT : Tab w) :
    Calls Tryd.prog 64 #[mval m l] w fun e w' => RchGives w (·.t) (·.f) m.arrows m.ends e w' := by
  have hz := mayB_size hm
  have ha := may_arrs hm
  have hb := (may_ends hm).2
  obtain ⟨st, ev, starts, arrows, ends⟩ := m
  obtain ⟨z1, z2, z3, z4, z5⟩ := hz
  simp only at z1 z2 z3 z4 z5 ha hb
  obtain ⟨s, rfl⟩ : ∃ s : Nat, st = (s : Int) := ⟨st.toNat, by omega⟩
  obtain ⟨a1, c1, a2, c2, a3, c3⟩ := l
  have hsl : ends.length ≤ maxLen := Nat.le_trans h.e1 h.e2
  rcases h.a with h0 | ⟨b, off, h0, hlt, hc⟩
  · have h0 : arrows = [] := h0
    subst h0
    exact alive_none s ev starts ends _ w (by omega) h.e hsl hb hT
  · have h0 : a2 = some ⟨b, off, none⟩ := h0
    subst h0
    exact alive_some s ev starts arrows ends a1 c1 b off c2 a3 c3 w (by omega) z5 hlt hc (fun a h => by have := ha a h; exact ⟨⟨this.1, this.2.1⟩, this.2.2.1, this.2.2.2.1⟩) h.e hsl hb hT

end Go.Proofs.YtmlkpdeidpcidaaDoor
namespace Go.Proofs.YtmlkpdeidpcidaaDoor
open Go.RowKit
set_option linter.unusedVariables false

theorem part_any (m : Mach) (l : ML) (ta : Option Addr) (tc : Nat) (w : World) (hm : mayB m = true) (h : MAt w m l) (hat : At w ta (trimL m)) :
    Calls Tryd.prog 65 #[mval m l, .slice ta (trimL m).length tc] w fun e w' => ∃ L, e = .returned (mval (trimM m) L) ∧ MAt w' (trimM m) L ∧ FrM w.heap.size (trimM m) L ∧ Below w.heap.size w w' := by
  have hz := mayB_size hm
  unfold sizeOk at hz
  have hl := trim_le hm
  obtain ⟨M, hM⟩ : ∃ M : Int, (if ((trimL m).length : Int) < 1 then (1 : Int) else ((trimL m).length : Int)) = M := ⟨_, rfl⟩
  have e : partM m (trimL m) M = trimM m := by
    unfold partM trimM
    rw [srt_trimA hm, ← hM]
    by_cases c : (trimL m).length = 0
    · rw [if_pos c, if_pos (by omega)]
    · rw [if_neg c, if_neg (by omega)]
  rw [← e]
  exact part_go m l ta tc (trimL m) w hm h hat (inc_trim m) (by omega) M hM

set_option maxRecDepth 100000 in
set_option maxHeartbeats 1000000 in
theorem pTrim_err (m : Mach) (l : ML) (w : World) (h : MAt w m l) (hm : mayB m = false) :
    Calls Tryd.prog 21 #[mval m l] w fun e w' => e = .returned (.tuple #[mval m0 ml0, .slice none 0 0, .int .i64 2]) ∧ Below w.heap.size w w' := by
  have B0 : Hid (Below w.heap.size w ((w.alloc (.cells (mcells m l) 25)).alloc (.cells zcells 25))) := ((Below.refl _ _).alloc (Nat.le_refl _) _).alloc (by simp) _
  have h' := Hid.of (h.below B0.out (Nat.le_refl _))
  have R0 : Hid (Blk ((w.alloc (.cells (mcells m l) 25)).alloc (.cells zcells 25)) (w.heap.size + 1) 25 zcells) := by
    have := Blk.new (w.alloc (.cells (mcells m l) 25)) 25 zcells
    rwa [World.size_alloc] at this
  clear h
  go_enter Tryd.func21, Tryd.ntmps21
  go_wp2_with fail
  refine (pMay_any m l _ h'.out).mono ?_
  rintro e w1 ⟨rfl, hb1⟩
  have HB := Hid.of (B0.out.trans (hb1.mono B0.out.size))
  have R1 := Hid.of (R0.out.below hb1 R0.out.lt)
  obtain ⟨r0, r1, r2, r3, r4⟩ := zcell_at R1.out
  have rz := R1.out.frozen
  have R2 : Hid (Blk _ (w.heap.size + 1) 25 (mcells m0 ml0)) := R1.out.set5 (.int .i64 0) (.int .i64 0) (.slice none 0 0) (.slice none 0 0) (.slice none 0 0)
  clear hb1
  rw [hm]
  go_wp2_with fail
  refine bodyPost_ret (v := .tuple #[mval m0 ml0, .slice none 0 0, .int .i64 2]) ?_ rfl ⟨rfl, below_set5 HB.out (b' := w.heap.size + 1) (by omega) _ _ _ _ _⟩
  exact results_three (p := 2) (u := 3) (v := 4) rfl _ _ (w.heap.size + 1) m0 ml0 _ _ rfl rfl rfl R2.out

/-- What Trim leaves where the machine may be. -/
def PTrimGives (w : World) (m : Mach) (e : Ending) (w' : World) : Prop := ∃ (L : ML) (ba : Option Addr) (bc : Nat), e = .returned (.tuple #[mval (trimM m) L, .slice ba (trimL m).length bc, .int .i64 0]) ∧ MAt w' (trimM m) L ∧ At w' ba (trimL m) ∧ (trimL m).length ≤ maxLen ∧ Below w.heap.size w w'

set_option maxRecDepth 100000 in
set_option maxHeartbeats 4000000 in
theorem pTrim_ok (m : Mach) (l : ML) (w : World) (h : MAt w m l) (hm : mayB m = true) (hT : Tab w) :
    Calls Tryd.prog 21 #[mval m l] w fun e w' => PTrimGives w m e w' := by
  have B0 : Hid (Below w.heap.size w ((w.alloc (.cells (mcells m l) 25)).alloc (.cells zcells 25))) := ((Below.refl _ _).alloc (Nat.le_refl _) _).alloc (by simp) _
  have h' := Hid.of (h.below B0.out (Nat.le_refl _))
  have K0 : Hid (Blk ((w.alloc (.cells (mcells m l) 25)).alloc (.cells zcells 25)) w.heap.size 25 (mcells m l)) := (Blk.new w _ _).alloc _
  have R0 : Hid (Blk ((w.alloc (.cells (mcells m l) 25)).alloc (.cells zcells 25)) (w.heap.size + 1) 25 zcells) := by
    have := Blk.new (w.alloc (.cells (mcells m l) 25)) 25 zcells
    rwa [World.size_alloc] at this
  have HT := Hid.of hT
  have HM := Hid.of h
  clear h hT
  go_enter Tryd.func21, Tryd.ntmps21
  go_wp2_with fail
  refine (pMay_any m l _ h'.out).mono ?_
  rintro e V ⟨rfl, hb1⟩
  have HB := Hid.of (B0.out.trans (hb1.mono B0.out.size))
  have K1 := Hid.of (K0.out.below hb1 K0.out.lt)
  have R1 := Hid.of (R0.out.below hb1 R0.out.lt)
  obtain ⟨x0, x1, x2, x3, x4⟩ := mcell_at K1.out
  clear hb1 K0 R0 B0 h'
  rw [hm]
  go_wp2_with fail
  have KEY1 : Hid (∀ W, Below V.heap.size V W → Calls Tryd.prog 62 #[mval m l] W fun e w' => RchGives W (·.f) (·.t) m.arrows m.starts e w') := fun W hW => reached_any m l W hm (HM.out.below (HB.out.trans (hW.mono HB.out.size)) (Nat.le_refl _)) (HT.out.below (HB.out.trans (hW.mono HB.out.size)) HT.out.lt)
  have KEY2 : Hid (∀ W, Below V.heap.size V W → Calls Tryd.prog 64 #[mval m l] W fun e w' => RchGives W (·.t) (·.f) m.arrows m.ends e w') := fun W hW => alive_any m l W hm (HM.out.below (HB.out.trans (hW.mono HB.out.size)) (Nat.le_refl _)) (HT.out.below (HB.out.trans (hW.mono HB.out.size)) HT.out.lt)
  refine Code.wp_mono (Q := regQ fun a' W' => ∃ (F G : Nat → Nat) (ba : Option Addr) (bc : Nat), a' = { tmps := #[mval m l, .pointer (some ⟨w.heap.size, 0, none⟩), .pointer (some ⟨w.heap.size + 1, 0, none⟩), .slice none 0 0, .int .i64 0, .slice ba (trimL m).length bc, mval m l, .bool true, .bool false, undef, mval m l, sval F, mval m l, sval G, sval (meetS F G), .slice ba (trimL m).length bc, undef, undef, undef, undef], defers := [] } ∧ Hid (At W' ba (trimL m)) ∧ Hid ((trimL m).length ≤ maxLen) ∧ Hid (trimL m = [] ∨ ∃ b off, ba = some ⟨b, off, none⟩ ∧ V.heap.size ≤ b) ∧ Hid (Below V.heap.size V W')) ?aft ?reg
  case reg =>
    go_region_held3 (fun w' => w'.cell? ⟨w.heap.size, 0, none⟩ = some (.int .i64 m.st) ∧ w'.cell? ⟨w.heap.size, 1, none⟩ = some (.int .i64 m.ev) ∧ w'.cell? ⟨w.heap.size, 2, none⟩ = some (.slice l.a1 m.starts.length l.c1) ∧ w'.cell? ⟨w.heap.size, 3, none⟩ = some (.slice l.a2 m.arrows.length l.c2) ∧ w'.cell? ⟨w.heap.size, 4, none⟩ = some (.slice l.a3 m.ends.length l.c3)) (go_keep) (first | (go_at_call 62; refine (KEY1.out _ ((Below.refl _ V).drew)).mono ?_; rintro e wA ⟨F, hF, rfl, hrF, hbA⟩; have GA : Hid (Below V.heap.size V wA) := ((Below.refl _ V).drew).trans hbA; have HF := Hid.of hF; have RF := Hid.of (row_reach hm hrF); obtain ⟨y0, y1, y2, y3, y4⟩ := mcell_at (K1.out.below GA.out K1.out.lt); clear hbA hF hrF) | (go_at_call 64; refine (KEY2.out _ GA.out).mono ?_; rintro e wL ⟨G, hG, rfl, hrG, hbL⟩; have GL : Hid (Below V.heap.size V wL) := GA.out.trans (hbL.mono GA.out.size); have HG := Hid.of hG; have RG := Hid.of (row_live hm hrG); obtain ⟨z0, z1, z2, z3, z4⟩ := mcell_at (K1.out.below GL.out K1.out.lt); clear hbL hG hrG) | (go_at_call 63; refine (meet_any F G _ HF.out HG.out).mono ?_; rintro e wM ⟨rfl, hbM⟩; have GM : Hid (Below V.heap.size V wM) := GL.out.trans (hbM.mono GL.out.size); obtain ⟨g0, g1, g2, g3, g4⟩ := mcell_at (K1.out.below GM.out K1.out.lt); clear hbM) | (go_at_call 57; refine (rowO_any (meetS F G) _ (okS_meet HF.out) (HT.out.below (HB.out.trans (GM.out.mono HB.out.size)) HT.out.lt)).mono ?_; rintro e wR ⟨v, rfl, own, hbR⟩; rw [row_trim RF.out RG.out] at own; obtain ⟨ba, bc, rfl, hat, c1, c2, c3⟩ := own.at2; have HFR := Hid.of (fr_mono own.fr GM.out.size); have hln := Nat.le_trans c1 c2; have GR : Hid (Below V.heap.size V wR) := GM.out.trans (hbR.mono GM.out.size); have HA := Hid.of hat; have HLN := Hid.of hln; obtain ⟨q0, q1, q2, q3, q4⟩ := mcell_at (K1.out.below GR.out K1.out.lt); clear hbR hat hln own c1 c2 c3))
    all_goals exact ⟨F, G, ba, bc, rfl, HA, HLN, HFR, GR⟩
  case aft =>
    clear x0 x1 x2 x3 x4 KEY1 KEY2
    refine regQ_imp ?_
    rintro a' X ⟨F, G, ba, bc, rfl, HA, HLN, HFR, HX⟩
    obtain ⟨x0, x1, x2, x3, x4⟩ := mcell_at (K1.out.below HX.out K1.out.lt)
    have HBX := Hid.of (HB.out.trans (HX.out.mono HB.out.size))
    have RX := Hid.of (R1.out.below HX.out R1.out.lt)
    go_wp2_with fail
    refine (part_any m l ba bc _ hm (HM.out.below HBX.out (Nat.le_refl _)) HA.out).mono ?_
    rintro e w2 ⟨L, rfl, hML, hFM, hb2⟩
    have HB2 := Hid.of (HBX.out.trans (hb2.mono HBX.out.size))
    have R2 := Hid.of (RX.out.below hb2 RX.out.lt)
    have A2 := Hid.of (HA.out.below hb2 (Nat.le_refl _))
    have HML := Hid.of hML
    obtain ⟨r0, r1, r2, r3, r4⟩ := zcell_at R2.out
    have rz := R2.out.frozen
    have HFM := Hid.of hFM
    have lR := Hid.of RX.out.lt
    have lV := Hid.of R1.out.lt
    have R3 := Hid.of (R2.out.set5 (.int .i64 (trimM m).st) (.int .i64 (trimM m).ev) (.slice L.a1 (trimM m).starts.length L.c1) (.slice L.a2 (trimM m).arrows.length L.c2) (.slice L.a3 (trimM m).ends.length L.c3))
    have B3 := Hid.of (below_set5 HB2.out (b' := w.heap.size + 1) (by omega) (.int .i64 (trimM m).st) (.int .i64 (trimM m).ev) (.slice L.a1 (trimM m).starts.length L.c1) (.slice L.a2 (trimM m).arrows.length L.c2) (.slice L.a3 (trimM m).ends.length L.c3))
    have M3 := Hid.of (HML.out.set5 (b := w.heap.size + 1) HFM.out lR.out (.int .i64 (trimM m).st) (.int .i64 (trimM m).ev) (.slice L.a1 (trimM m).starts.length L.c1) (.slice L.a2 (trimM m).arrows.length L.c2) (.slice L.a3 (trimM m).ends.length L.c3))
    have A3 := Hid.of (A2.out.set5 (b := w.heap.size + 1) HFR.out lV.out (.int .i64 (trimM m).st) (.int .i64 (trimM m).ev) (.slice L.a1 (trimM m).starts.length L.c1) (.slice L.a2 (trimM m).arrows.length L.c2) (.slice L.a3 (trimM m).ends.length L.c3))
    clear hb2 hML hFM x0 x1 x2 x3 x4
    go_wp2_with fail
    refine bodyPost_ret (v := .tuple #[mval (trimM m) L, .slice ba (trimL m).length bc, .int .i64 0]) ?_ rfl ⟨L, ba, bc, rfl, M3.out, A3.out, HLN.out, B3.out⟩
    exact results_three (p := 2) (u := 3) (v := 4) rfl _ _ (w.heap.size + 1) (trimM m) L _ _ rfl rfl rfl R3.out

end Go.Proofs.YtmlkpdeidpcidaaDoor
namespace Go.Proofs.YtmlkpdeidpcidaaDoor
open Go.RowKit
set_option linter.unusedVariables false

/-- What Accepts answers of a machine that may be, and of whatever word. -/
def accB (m : Mach) (word : List Int) : Bool := wordB m.ev word && acceptsB m word
def accC (m : Mach) (word : List Int) : Int := if wordB m.ev word = true then 0 else 6
theorem pAcc_any (m : Mach) (l : ML) (wa : Option Addr) (wc : Nat) (word : List Int) (w : World) (h : MAt w m l) (hT : Tab w) (hm : mayB m = true) (hv : At w wa word) (hwl : word.length ≤ maxLen) :
    Calls Tryd.prog 15 #[mval m l, .slice wa word.length wc] w fun e w' => e = .returned (.tuple #[.bool (accB m word), .int .i64 (accC m word)]) ∧ Below w.heap.size w w' := by
  unfold accB accC
  cases hw : wordB m.ev word with
  | true => exact pAccepts_ok m l wa wc word w h hT hm hv hwl hw
  | false =>
    exact pAccepts_err m l wa wc word 6 w rfl (fun W hW => after_range m l l.a1 wa l.c1 wc m.starts word W (h.below hW (Nat.le_refl _)) hm (h.below hW (Nat.le_refl _)).s (Nat.le_trans h.s1 h.s2) (mayB_starts hm) (hv.below hW (Nat.le_refl _)) hwl hw)
theorem acc_trim {m : Mach} (hm : mayB m = true) (word : List Int) : accB (trimM m) word = accB m word ∧ accC (trimM m) word = accC m word := by
  unfold accB accC
  rw [trim_accepts hm word]
  exact ⟨rfl, rfl⟩
theorem trim_st {m : Mach} (hm : mayB m = true) : 0 < (trimM m).st := by
  have := mayB_size (may_trim hm)
  unfold sizeOk at this
  omega

set_option maxRecDepth 100000 in
set_option maxHeartbeats 4000000 in
theorem rtrims_no (m : Mach) (l : ML) (wa : Option Addr) (wc : Nat) (word : List Int) (w : World) (h : Hid (MAt w m l)) (hm : Hid (mayB m = false)) :
    Calls Tryd.prog 4 #[mval m l, .slice wa word.length wc] w fun e w' => e = .returned (.bool true) ∧ Below w.heap.size w w' := by
  have B0 : Hid (Below w.heap.size w (w.alloc (.cells (mcells m l) 25))) := (Below.refl _ _).alloc (Nat.le_refl _) _
  have K0 := Hid.of (Blk.new w 25 (mcells m l))
  go_enter Tryd.func4, Tryd.ntmps4
  go_wp2_with fail
  refine (pTrim_err m l _ (h.out.below B0.out (Nat.le_refl _)) hm.out).mono ?_
  rintro e w1 ⟨rfl, hb⟩
  have B1 := Hid.of (B0.out.trans (hb.mono B0.out.size))
  have K1 := Hid.of (K0.out.below hb K0.out.lt)
  have B2 : Hid (Below w.heap.size w (w1.alloc (.cells (mcells m0 ml0) 25))) := B1.out.alloc B1.out.size _
  have kl := K1.out.lt
  clear hb
  obtain ⟨x0, x1, x2, x3, x4⟩ := mcell_at K1.out
  go_wp2_with fail
  refine (pMay_any m l _ (h.out.below B2.out (Nat.le_refl _))).mono ?_
  rintro e w3 ⟨rfl, hb⟩
  have B3 := Hid.of (B2.out.trans (hb.mono B2.out.size))
  clear hb
  rw [hm.out]
  go_wp2_with fail
  go_ret
  exact ⟨rfl, B3.out⟩

set_option maxRecDepth 100000 in
set_option maxHeartbeats 4000000 in
theorem rtrims_yes (m : Mach) (l : ML) (wa : Option Addr) (wc : Nat) (word : List Int) (w : World) (hT : Hid (Tab w)) (h : Hid (MAt w m l)) (hv : Hid (At w wa word)) (hwl : Hid (word.length ≤ maxLen)) (hm : Hid (mayB m = true)) :
    Calls Tryd.prog 4 #[mval m l, .slice wa word.length wc] w fun e w' => e = .returned (.bool true) ∧ Below w.heap.size w w' := by
  have B0 : Hid (Below w.heap.size w (w.alloc (.cells (mcells m l) 25))) := (Below.refl _ _).alloc (Nat.le_refl _) _
  have K0 := Hid.of (Blk.new w 25 (mcells m l))
  go_enter Tryd.func4, Tryd.ntmps4
  go_wp2_with fail
  refine (pTrim_ok m l _ (h.out.below B0.out (Nat.le_refl _)) hm.out (hT.out.below B0.out hT.out.lt)).mono ?_
  rintro e w1 ⟨L, ba, bc, rfl, mt1, -, -, hb⟩
  have B1 := Hid.of (B0.out.trans (hb.mono B0.out.size))
  have K1 := Hid.of (K0.out.below hb K0.out.lt)
  have kl := K1.out.lt
  have b2 : Below w1.heap.size w1 (w1.alloc (.cells (mcells (trimM m) L) 25)) := (Below.refl _ _).alloc (Nat.le_refl _) _
  have B2 := Hid.of (B1.out.trans (b2.mono B1.out.size))
  have N2 := Hid.of (Blk.new w1 25 (mcells (trimM m) L))
  have M2 := Hid.of (mt1.below b2 (Nat.le_refl _))
  clear hb b2 mt1
  obtain ⟨x0, x1, x2, x3, x4⟩ := mcell_at K1.out
  go_wp2_with fail
  revert B2 N2 M2
  show Hid (Below w.heap.size w (w1.alloc (.cells #[.int .i64 (trimM m).st, .int .i64 (trimM m).ev, .slice L.a1 (trimM m).starts.length L.c1, .slice L.a2 (trimM m).arrows.length L.c2, .slice L.a3 (trimM m).ends.length L.c3] 25))) → _
  generalize w1.alloc (.cells #[.int .i64 (trimM m).st, .int .i64 (trimM m).ev, .slice L.a1 (trimM m).starts.length L.c1, .slice L.a2 (trimM m).arrows.length L.c2, .slice L.a3 (trimM m).ends.length L.c3] 25) = w2
  intro B2 N2 M2
  refine (pAcc_any m l wa wc word _ (h.out.below B2.out (Nat.le_refl _)) (hT.out.below B2.out hT.out.lt) hm.out (hv.out.below B2.out (Nat.le_refl _)) hwl.out).mono ?_
  rintro e w3 ⟨rfl, hb⟩
  have B3 := Hid.of (B2.out.trans (hb.mono B2.out.size))
  have N3 := Hid.of (N2.out.below hb N2.out.lt)
  have M3 := Hid.of (M2.out.below hb (Nat.le_refl _))
  clear hb x0 x1 x2 x3 x4
  obtain ⟨x0, x1, x2, x3, x4⟩ := mcell_at N3.out
  go_wp2_with fail
  refine (pAcc_any (trimM m) L wa wc word _ M3.out (hT.out.below B3.out hT.out.lt) (may_trim hm.out) (hv.out.below B3.out (Nat.le_refl _)) hwl.out).mono ?_
  rintro e w4 ⟨rfl, hb⟩
  have B4 := Hid.of (B3.out.trans (hb.mono B3.out.size))
  have N4 := Hid.of (N3.out.below hb N3.out.lt)
  clear hb x0 x1 x2 x3 x4
  have n0 : w4.cell? ⟨w1.heap.size, 0, none⟩ = some (.int .i64 (trimM m).st) := N4.out.cell 0 rfl
  have ht := trim_st hm.out
  rw [(acc_trim hm.out word).1, (acc_trim hm.out word).2]
  go_wp2_with fail
  go_ret
  exact ⟨rfl, B4.out⟩

theorem rtrims_any (m : Mach) (l : ML) (wa : Option Addr) (wc : Nat) (word : List Int) (w : World) (hT : Tab w) (h : MAt w m l) (hv : At w wa word) (hwl : word.length ≤ maxLen) :
    Calls Tryd.prog 4 #[mval m l, .slice wa word.length wc] w fun e w' => e = .returned (.bool true) ∧ Below w.heap.size w w' := by
  cases hm : mayB m with
  | false => exact rtrims_no m l wa wc word w h hm
  | true => exact rtrims_yes m l wa wc word w hT h hv hwl hm

end Go.Proofs.YtmlkpdeidpcidaaDoor
