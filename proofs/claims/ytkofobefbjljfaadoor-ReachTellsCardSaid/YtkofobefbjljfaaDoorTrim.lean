/-
  The walk of reach.Trim.
-/
import Derived.Test.YtkofobefbjljfaaDoorPart
import Derived.Test.YtkofobefbjljfaaDoorReachAny
import Derived.Test.YtkofobefbjljfaaDoorPMay
import Derived.Test.YtkofobefbjljfaaDoorRowOwn
namespace Go.Proofs.YtkofobefbjljfaaDoor
open Go.RowKit
set_option linter.unusedVariables false

theorem part_any (m : Mach) (l : ML) (ta : Option Addr) (tc : Nat) (w : World) (hm : mayB m = true) (h : MAt w m l) (hat : At w ta (trimL m)) :
    Calls Tryd.prog 36 #[mval m l, .slice ta (trimL m).length tc] w fun e w' => ∃ L, e = .returned (mval (trimM m) L) ∧ MAt w' (trimM m) L ∧ FrM w.heap.size (trimM m) L ∧ Below w.heap.size w w' := by
  have hz := mayB_size hm
  unfold sizeOk at hz
  have hl := trim_le hm
  obtain ⟨M, hM⟩ : ∃ M : Int, (if ((trimL m).length : Int) < 1 then (1 : Int) else ((trimL m).length : Int)) = M := ⟨_, rfl⟩
  have e : partM m (trimL m) M = trimM m := by
    unfold partM trimM
    rw [srt_trimA hm, ← hM]
    by_cases c : (trimL m).length = 0
    · rw [if_pos c, if_pos (by omega)]
    · rw [if_neg c, if_neg (by omega)]
  rw [← e]
  exact part_go m l ta tc (trimL m) w hm h hat (inc_trim m) (by omega) M hM

theorem results_three {fn : Func} {p u v : Tmp} (h : fn.results = #[.cell p 25, .tmp u, .tmp v]) (tmps : Array Value) (w : World) (g : Nat) (m : Mach) (l : ML) (x y : Value) (hp : tmps.getD p undef = .pointer (some ⟨g, 0, none⟩)) (hu : tmps.getD u undef = x) (hv : tmps.getD v undef = y) (hB : Blk w g 25 (mcells m l)) :
    (results fn tmps).run Tryd.prog w = .ok (.tuple #[mval m l, x, y]) w := by
  obtain ⟨x0, x1, x2, x3, x4⟩ := mcell_at hB
  have e : (results fn tmps).run Tryd.prog w = ((asAddr (tmps.getD p undef)).run Tryd.prog w).andThen fun a w₁ => ((loadVar 25 a).run Tryd.prog w₁).andThen fun r w₂ => .ok (.tuple #[r, tmps.getD u undef, tmps.getD v undef]) w₂ := by
    simp only [results, h]
    simp [Sem.run_bind, Result.andThen]
  rw [e, hp, hu, hv]
  go_simp

abbrev m0 : Mach := ⟨0, 0, [], [], []⟩
abbrev ml0 : ML := ⟨none, 0, none, 0, none, 0⟩

set_option maxRecDepth 100000 in
set_option maxHeartbeats 1000000 in
theorem pTrim_err (m : Mach) (l : ML) (w : World) (h : MAt w m l) (hm : mayB m = false) :
    Calls Tryd.prog 20 #[mval m l] w fun e w' => e = .returned (.tuple #[mval m0 ml0, .slice none 0 0, .int .i64 2]) ∧ Below w.heap.size w w' := by
  have B0 : Hid (Below w.heap.size w ((w.alloc (.cells (mcells m l) 25)).alloc (.cells zcells 25))) := ((Below.refl _ _).alloc (Nat.le_refl _) _).alloc (by simp) _
  have h' := Hid.of (h.below B0.out (Nat.le_refl _))
  have R0 : Hid (Blk ((w.alloc (.cells (mcells m l) 25)).alloc (.cells zcells 25)) (w.heap.size + 1) 25 zcells) := by
    have := Blk.new (w.alloc (.cells (mcells m l) 25)) 25 zcells
    rwa [World.size_alloc] at this
  clear h
  go_enter Tryd.func20, Tryd.ntmps20
  go_wp2_with fail
  refine (pMay_any m l _ h'.out).mono ?_
  rintro e w1 ⟨rfl, hb1⟩
  have HB := Hid.of (B0.out.trans (hb1.mono B0.out.size))
  have R1 := Hid.of (R0.out.below hb1 R0.out.lt)
  obtain ⟨r0, r1, r2, r3, r4⟩ := zcell_at R1.out
  have rz := R1.out.frozen
  have R2 : Hid (Blk _ (w.heap.size + 1) 25 (mcells m0 ml0)) := R1.out.set5 (.int .i64 0) (.int .i64 0) (.slice none 0 0) (.slice none 0 0) (.slice none 0 0)
  clear hb1
  rw [hm]
  go_wp2_with fail
  refine bodyPost_ret (v := .tuple #[mval m0 ml0, .slice none 0 0, .int .i64 2]) ?_ rfl ⟨rfl, below_set5 HB.out (b' := w.heap.size + 1) (by omega) _ _ _ _ _⟩
  exact results_three (p := 2) (u := 3) (v := 4) rfl _ _ (w.heap.size + 1) m0 ml0 _ _ rfl rfl rfl R2.out

/-- What Trim leaves where the machine may be. -/
def PTrimGives (w : World) (m : Mach) (e : Ending) (w' : World) : Prop := ∃ (L : ML) (ba : Option Addr) (bc : Nat), e = .returned (.tuple #[mval (trimM m) L, .slice ba (trimL m).length bc, .int .i64 0]) ∧ MAt w' (trimM m) L ∧ At w' ba (trimL m) ∧ (trimL m).length ≤ maxLen ∧ Below w.heap.size w w'

set_option maxRecDepth 100000 in
set_option maxHeartbeats 4000000 in
theorem pTrim_ok (m : Mach) (l : ML) (w : World) (h : MAt w m l) (hm : mayB m = true) (hT : Tab w) :
    Calls Tryd.prog 20 #[mval m l] w fun e w' => PTrimGives w m e w' := by
  have B0 : Hid (Below w.heap.size w ((w.alloc (.cells (mcells m l) 25)).alloc (.cells zcells 25))) := ((Below.refl _ _).alloc (Nat.le_refl _) _).alloc (by simp) _
  have h' := Hid.of (h.below B0.out (Nat.le_refl _))
  have K0 : Hid (Blk ((w.alloc (.cells (mcells m l) 25)).alloc (.cells zcells 25)) w.heap.size 25 (mcells m l)) := (Blk.new w _ _).alloc _
  have R0 : Hid (Blk ((w.alloc (.cells (mcells m l) 25)).alloc (.cells zcells 25)) (w.heap.size + 1) 25 zcells) := by
    have := Blk.new (w.alloc (.cells (mcells m l) 25)) 25 zcells
    rwa [World.size_alloc] at this
  have HT := Hid.of hT
  have HM := Hid.of h
  clear h hT
  go_enter Tryd.func20, Tryd.ntmps20
  go_wp2_with fail
  refine (pMay_any m l _ h'.out).mono ?_
  rintro e V ⟨rfl, hb1⟩
  have HB := Hid.of (B0.out.trans (hb1.mono B0.out.size))
  have K1 := Hid.of (K0.out.below hb1 K0.out.lt)
  have R1 := Hid.of (R0.out.below hb1 R0.out.lt)
  obtain ⟨x0, x1, x2, x3, x4⟩ := mcell_at K1.out
  clear hb1 K0 R0 B0 h'
  rw [hm]
  go_wp2_with fail
  have KEY1 : Hid (∀ W, Below V.heap.size V W → Calls Tryd.prog 33 #[mval m l] W fun e w' => RchGives W (·.f) (·.t) m.arrows m.starts e w') := fun W hW => reached_any m l W hm (HM.out.below (HB.out.trans (hW.mono HB.out.size)) (Nat.le_refl _)) (HT.out.below (HB.out.trans (hW.mono HB.out.size)) HT.out.lt)
  have KEY2 : Hid (∀ W, Below V.heap.size V W → Calls Tryd.prog 34 #[mval m l] W fun e w' => RchGives W (·.t) (·.f) m.arrows m.ends e w') := fun W hW => alive_any m l W hm (HM.out.below (HB.out.trans (hW.mono HB.out.size)) (Nat.le_refl _)) (HT.out.below (HB.out.trans (hW.mono HB.out.size)) HT.out.lt)
  refine Code.wp_mono (Q := regQ fun a' W' => ∃ (F G : Nat → Nat) (ba : Option Addr) (bc : Nat), a' = { tmps := #[mval m l, .pointer (some ⟨w.heap.size, 0, none⟩), .pointer (some ⟨w.heap.size + 1, 0, none⟩), .slice none 0 0, .int .i64 0, .slice ba (trimL m).length bc, mval m l, .bool true, .bool false, undef, mval m l, sval F, mval m l, sval G, sval (meetS F G), .slice ba (trimL m).length bc, undef, undef, undef, undef], defers := [] } ∧ Hid (At W' ba (trimL m)) ∧ Hid ((trimL m).length ≤ maxLen) ∧ Hid (trimL m = [] ∨ ∃ b off, ba = some ⟨b, off, none⟩ ∧ V.heap.size ≤ b) ∧ Hid (Below V.heap.size V W')) ?aft ?reg
  case reg =>
    go_region_held3 (fun w' => w'.cell? ⟨w.heap.size, 0, none⟩ = some (.int .i64 m.st) ∧ w'.cell? ⟨w.heap.size, 1, none⟩ = some (.int .i64 m.ev) ∧ w'.cell? ⟨w.heap.size, 2, none⟩ = some (.slice l.a1 m.starts.length l.c1) ∧ w'.cell? ⟨w.heap.size, 3, none⟩ = some (.slice l.a2 m.arrows.length l.c2) ∧ w'.cell? ⟨w.heap.size, 4, none⟩ = some (.slice l.a3 m.ends.length l.c3)) (go_keep) (first | (go_at_call 33; refine (KEY1.out _ ((Below.refl _ V).drew)).mono ?_; rintro e wA ⟨F, hF, rfl, hrF, hbA⟩; have GA : Hid (Below V.heap.size V wA) := ((Below.refl _ V).drew).trans hbA; have HF := Hid.of hF; have RF := Hid.of (row_reach hm hrF); obtain ⟨y0, y1, y2, y3, y4⟩ := mcell_at (K1.out.below GA.out K1.out.lt); clear hbA hF hrF) | (go_at_call 34; refine (KEY2.out _ GA.out).mono ?_; rintro e wL ⟨G, hG, rfl, hrG, hbL⟩; have GL : Hid (Below V.heap.size V wL) := GA.out.trans (hbL.mono GA.out.size); have HG := Hid.of hG; have RG := Hid.of (row_live hm hrG); obtain ⟨z0, z1, z2, z3, z4⟩ := mcell_at (K1.out.below GL.out K1.out.lt); clear hbL hG hrG) | (go_at_call 35; refine (meet_any F G _ HF.out HG.out).mono ?_; rintro e wM ⟨rfl, hbM⟩; have GM : Hid (Below V.heap.size V wM) := GL.out.trans (hbM.mono GL.out.size); obtain ⟨g0, g1, g2, g3, g4⟩ := mcell_at (K1.out.below GM.out K1.out.lt); clear hbM) | (go_at_call 28; refine (rowO_any (meetS F G) _ (okS_meet HF.out) (HT.out.below (HB.out.trans (GM.out.mono HB.out.size)) HT.out.lt)).mono ?_; rintro e wR ⟨v, rfl, own, hbR⟩; rw [row_trim RF.out RG.out] at own; obtain ⟨ba, bc, rfl, hat, c1, c2, c3⟩ := own.at2; have HFR := Hid.of (fr_mono own.fr GM.out.size); have hln := Nat.le_trans c1 c2; have GR : Hid (Below V.heap.size V wR) := GM.out.trans (hbR.mono GM.out.size); have HA := Hid.of hat; have HLN := Hid.of hln; obtain ⟨q0, q1, q2, q3, q4⟩ := mcell_at (K1.out.below GR.out K1.out.lt); clear hbR hat hln own c1 c2 c3))
    all_goals exact ⟨F, G, ba, bc, rfl, HA, HLN, HFR, GR⟩
  case aft =>
    clear x0 x1 x2 x3 x4 KEY1 KEY2
    refine regQ_imp ?_
    rintro a' X ⟨F, G, ba, bc, rfl, HA, HLN, HFR, HX⟩
    obtain ⟨x0, x1, x2, x3, x4⟩ := mcell_at (K1.out.below HX.out K1.out.lt)
    have HBX := Hid.of (HB.out.trans (HX.out.mono HB.out.size))
    have RX := Hid.of (R1.out.below HX.out R1.out.lt)
    go_wp2_with fail
    refine (part_any m l ba bc _ hm (HM.out.below HBX.out (Nat.le_refl _)) HA.out).mono ?_
    rintro e w2 ⟨L, rfl, hML, hFM, hb2⟩
    have HB2 := Hid.of (HBX.out.trans (hb2.mono HBX.out.size))
    have R2 := Hid.of (RX.out.below hb2 RX.out.lt)
    have A2 := Hid.of (HA.out.below hb2 (Nat.le_refl _))
    have HML := Hid.of hML
    obtain ⟨r0, r1, r2, r3, r4⟩ := zcell_at R2.out
    have rz := R2.out.frozen
    have HFM := Hid.of hFM
    have lR := Hid.of RX.out.lt
    have lV := Hid.of R1.out.lt
    have R3 := Hid.of (R2.out.set5 (.int .i64 (trimM m).st) (.int .i64 (trimM m).ev) (.slice L.a1 (trimM m).starts.length L.c1) (.slice L.a2 (trimM m).arrows.length L.c2) (.slice L.a3 (trimM m).ends.length L.c3))
    have B3 := Hid.of (below_set5 HB2.out (b' := w.heap.size + 1) (by omega) (.int .i64 (trimM m).st) (.int .i64 (trimM m).ev) (.slice L.a1 (trimM m).starts.length L.c1) (.slice L.a2 (trimM m).arrows.length L.c2) (.slice L.a3 (trimM m).ends.length L.c3))
    have M3 := Hid.of (HML.out.set5 (b := w.heap.size + 1) HFM.out lR.out (.int .i64 (trimM m).st) (.int .i64 (trimM m).ev) (.slice L.a1 (trimM m).starts.length L.c1) (.slice L.a2 (trimM m).arrows.length L.c2) (.slice L.a3 (trimM m).ends.length L.c3))
    have A3 := Hid.of (A2.out.set5 (b := w.heap.size + 1) HFR.out lV.out (.int .i64 (trimM m).st) (.int .i64 (trimM m).ev) (.slice L.a1 (trimM m).starts.length L.c1) (.slice L.a2 (trimM m).arrows.length L.c2) (.slice L.a3 (trimM m).ends.length L.c3))
    clear hb2 hML hFM x0 x1 x2 x3 x4
    go_wp2_with fail
    refine bodyPost_ret (v := .tuple #[mval (trimM m) L, .slice ba (trimL m).length bc, .int .i64 0]) ?_ rfl ⟨L, ba, bc, rfl, M3.out, A3.out, HLN.out, B3.out⟩
    exact results_three (p := 2) (u := 3) (v := 4) rfl _ _ (w.heap.size + 1) (trimM m) L _ _ rfl rfl rfl R3.out

end Go.Proofs.YtkofobefbjljfaaDoor
