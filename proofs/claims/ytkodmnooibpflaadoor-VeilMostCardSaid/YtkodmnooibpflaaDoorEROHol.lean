/-
 The walk of jalousieref15.holds.
-/
import Derived.Deep.RegionHeld3
import Derived.Deep.QuietTactic
import Derived.Deep.RegionWith
import Derived.BigQuiet
import Derived.Test.YtkodmnooibpflaaDoorI15
import Derived.Test.YtkodmnooibpflaaDoorEROWid
namespace Go.Proofs.YtkodmnooibpflaaDoor
open Go.RowKit
set_option linter.unusedVariables false

theorem mem_rngO (n : Nat) (x : Int) : x ∈ rngI n ↔ 0 ≤ x ∧ x < (n : Int) := by
 unfold rngI
 rw [List.mem_map]
 constructor
 ·rintro ⟨a, h, rfl⟩
  have := List.mem_range.1 h
  omega
 ·intro h
  exact ⟨x.toNat, List.mem_range.2 (by omega), by omega⟩
section
variable {p : Plant} {free : List Int} {o : Mach} {x : PlO} {e : Int}
theorem okO_on (h : (onO p o x e).isSome = true) : okO p free o x e = true := by unfold okO; cases hq : onO p o x e with | none => rw [hq] at h; cases h | some z => simp
theorem okO_free (h : hasB free e = true) : okO p free o x e = true := by unfold okO; rw [h]; simp
theorem okO_many (h : ¬ (stepL p.m.arrows [x.1] e).length = 1) : okO p free o x e = true := by unfold okO; rw [decide_eq_false h]; simp
theorem okO_no (h : (stepL p.m.arrows [x.1] e).length = 1) (h1 : onO p o x e = none) (h2 : hasB free e = false) : okO p free o x e = false := by unfold okO; rw [decide_eq_true h, h1, h2]; rfl
end
theorem holdsO_no {p : Plant} {free : List Int} {o : Mach} {l : List PlO} {k j : Nat} {x : PlO} (hx : l[k]? = some x) (hj : (j : Int) < p.m.ev) (h : okO p free o x (j : Int) = false) : holdsO p free o l = false := by
 apply Classical.byContradiction
 intro hc
 have hc : holdsO p free o l = true := by simpa using hc
 unfold holdsO at hc
 rw [Bool.and_eq_true, List.all_eq_true] at hc
 have := List.all_eq_true.1 (hc.1 x (List.mem_of_getElem? hx)) (j : Int) ((mem_rngO _ _).2 (by omega))
 rw [h] at this
 cases this
def opnO (p : Plant) (l : List PlO) (k : Nat) : Bool := (l.take k).any fun x => !hasB p.secret x.1
theorem opnO_succ {p : Plant} {l : List PlO} {k : Nat} {x : PlO} (h : l[k]? = some x) : opnO p l (k + 1) = (opnO p l k || !hasB p.secret x.1) := by
 unfold opnO
 rw [List.take_add_one, h, List.any_append]; simp
theorem holdsO_end {p : Plant} {free : List Int} {o : Mach} {l : List PlO} {ev : Nat} (hev : p.m.ev = (ev : Int)) (h : ∀ (k : Nat) (x : PlO), k < l.length → l[k]? = some x → ∀ i : Nat, i < ev → okO p free o x (i : Int) = true) : holdsO p free o l = (opnO p l l.length || decide (l.length = 0)) := by
 unfold holdsO opnO
 rw [List.take_length]
 have e : (l.all fun x => (rngI p.m.ev.toNat).all (okO p free o x)) = true := by
  rw [List.all_eq_true]
  intro x hx
  obtain ⟨k, hk⟩ := List.mem_iff_getElem?.1 hx
  rw [List.all_eq_true]
  intro i hi
  have := (mem_rngO _ _).1 hi
  have h1 := h k x (List.getElem?_eq_some_iff.1 hk).1 hk i.toNat (by omega)
  rw [Int.toNat_of_nonneg (by omega)] at h1
  exact h1
 rw [e, Bool.true_and]

set_option maxRecDepth 100000 in
set_option maxHeartbeats 16000000 in
theorem roholds_any (p : Plant) (Pl : ML) (sa : Option Addr) (sc : Nat) (ta : Option Addr) (tc : Nat) (o : Mach) (lo : ML) (fa : Option Addr) (fc : Nat) (free : List Int) (la : Option Addr) (lc : Nat) (l : List PlO) (n : Nat) (w : World) (hp : Hid (PAt w p ⟨Pl, sa, sc, ta, tc⟩)) (ho : Hid (MAt w o lo)) (hF : Hid (At w fa free)) (hFl : Hid (free.length ≤ maxLen)) (hm : Hid (mayB p.m = true)) (hmo : Hid (mayB o = true)) (hla : Hid (AtQ n w la l)) (hll : l.length ≤ 384) (hnw : Hid (n ≤ w.heap.size)) :
  Calls Tryd.prog 95 #[ptval p ⟨Pl, sa, sc, ta, tc⟩, .slice fa free.length fc, mval o lo, .slice la l.length lc] w fun e w' => e = .returned (.bool (holdsO p free o l)) ∧ Below w.heap.size w w' := by
 have hz := mayB_size hm.out
 have hz2' := mayB_size hmo.out
 unfold sizeOk at hz hz2'
 have hl1 : Hid (p.m.arrows.length ≤ 4096) := show _ ≤ _ by omega
 have hl2 : Hid (o.arrows.length ≤ 4096) := show _ ≤ _ by omega
 obtain ⟨ev, HEV⟩ : ∃ ev : Nat, Hid (p.m.ev = (ev : Int)) := ⟨p.m.ev.toNat, by show _ = _; omega⟩
 have hev8 : ev ≤ 8 := by have := HEV.out; omega
 clear hz hz2'
 have HVB : Hid (Below w.heap.size w ((w.alloc (.cells (ptcells p ⟨Pl, sa, sc, ta, tc⟩) 44)).alloc (.cells (mcells o lo) 25))) := ((Below.refl _ _).alloc (Nat.le_refl _) _).alloc (by simp) _
 have KP : Hid (Blk ((w.alloc (.cells (ptcells p ⟨Pl, sa, sc, ta, tc⟩) 44)).alloc (.cells (mcells o lo) 25)) w.heap.size 44 (ptcells p ⟨Pl, sa, sc, ta, tc⟩)) := (Blk.new w _ _).alloc _
 have KO : Hid (Blk ((w.alloc (.cells (ptcells p ⟨Pl, sa, sc, ta, tc⟩) 44)).alloc (.cells (mcells o lo) 25)) (w.heap.size + 1) 25 (mcells o lo)) := by
  have := Blk.new (w.alloc (.cells (ptcells p ⟨Pl, sa, sc, ta, tc⟩) 44)) 25 (mcells o lo)
  rwa [World.size_alloc] at this
 go_enter Tryd.func95, Tryd.ntmps95
 go_wp2_with fail
 revert HVB KP KO
 generalize ((w.alloc (.cells (ptcells p ⟨Pl, sa, sc, ta, tc⟩) 44)).alloc (.cells (mcells o lo) 25)) = V0
 intro HVB KP KO
 go_loopw [9, 10] (fun b i wr => ∃ k : Nat, b = .bool (opnO p l k) ∧ i = .int .i64 (k : Int) ∧ k ≤ l.length ∧ Hid (∀ (q : Nat) (x : PlO), q < k → l[q]? = some x → ∀ i : Nat, i < ev → okO p free o x (i : Int) = true) ∧ Hid (Below V0.heap.size V0 wr)) (fun _ i _ => l.length - (intOf i).toNat)
 case atStart => exact ⟨0, rfl, rfl, Nat.zero_le _, fun q x h => absurd h (by omega), Below.refl _ _⟩
 case round =>
  obtain ⟨k, rfl, rfl, hk, HAL, HYV⟩ := hrel
  by_cases hlt : k < l.length
  ·obtain ⟨⟨ym, ys⟩, HCY⟩ : ∃ y, Hid (l[k]? = some y) := ⟨_, List.getElem?_eq_getElem hlt⟩
   have hkD : decide ((k : Int) < (l.length : Int)) = true := by simp; omega
   have hk0 : (0 : Int) ≤ (k : Int) := by omega
   have hk1 : (k : Int) < (l.length : Int) := by omega
   obtain ⟨g, og, sy, sk, hga, hg, c1q, c2q, i1, i2, -⟩ := (hla.out.below HVB.out hnw.out).get HCY.out
   dsimp only at c1q c2q i1 i2
   subst hga
   have J1 := Hid.of i1
   have I2 := Hid.of i2
   have HG := Hid.of hg
   have C1 := Hid.of c1q
   have C2 := Hid.of c2q
   clear c1q c2q i1 i2 hg
   obtain ⟨b0, HB0⟩ : ∃ b0, Hid (b0 = opnO p l k) := ⟨_, rfl⟩
   obtain ⟨hs, HHS⟩ : ∃ hs, Hid (hasB p.secret ym = hs) := ⟨_, rfl⟩
   have HBN : Hid (opnO p l (k + 1) = (b0 || !hs)) := by show _ = _; rw [opnO_succ HCY.out, ← HB0.out, HHS.out]
   rw [← HB0.out]
   have x6 := (ptcell_at (KP.out.below HYV.out KP.out.lt)).2.2.2.2.2.2
   have z1 := (HYV.out.cell (p := ⟨g, og + k * 2, none⟩) HG.out).trans C1.out
   have KEY1 : Hid (∀ r, Calls Tryd.prog 46 #[.slice ta p.secret.length tc, .int .i64 ym] (wr.drewN r) fun e w' => e = .returned (.bool hs) ∧ w' = wr.drewN r) := fun r => by
    have := refHas_any ta tc p.secret ym (wr.drewN r) (At.drewN (hp.out.below (HVB.out.trans (HYV.out.mono HVB.out.size)) (Nat.le_refl _)).t.at_ r) hp.out.t.len
    rw [HHS.out] at this
    exact this
   cases hhs : hs with
   | true =>
    subst hhs
    go_wp2_with fail
    go_quiet (first | (go_at_call 46; exact Calls.quiet_of_same (KEY1.out _)))
    clear x6 z1 KEY1 hkD
    replace HYV : Hid (Below V0.heap.size V0 (wr.drewN nq)) := below_drewN HYV.out nq
    revert HYV
    generalize wr.drewN nq = wr1
    intro HYV
    go_wp2_with fail
    go_loopw [11] (fun i wr' => ∃ j : Nat, i = .int .i64 (j : Int) ∧ j ≤ ev ∧ Hid (∀ i : Nat, i < j → okO p free o (ym, ys) (i : Int) = true) ∧ Hid (Below V0.heap.size V0 wr')) (fun i _ => ev - (intOf i).toNat)
    case atStart => exact ⟨0, rfl, Nat.zero_le _, fun i h => absurd h (by omega), HYV⟩
    case round =>
     clear HYV
     obtain ⟨j, rfl, hj, HJ, HYV⟩ := hrel
     obtain ⟨x0, x1, x2, x3, x4, x5, x6⟩ := ptcell_at (KP.out.below HYV.out KP.out.lt)
     by_cases hjl : j < ev
     ·have hjD : decide ((j : Int) < p.m.ev) = true := by rw [HEV.out]; simp; omega
      obtain ⟨to, HTO⟩ : ∃ to, Hid (to = stepL p.m.arrows [ym] (j : Int)) := ⟨_, rfl⟩
      obtain ⟨fr, HFR⟩ : ∃ fr, Hid (hasB free (j : Int) = fr) := ⟨_, rfl⟩
      have HY0 := HYV
      have HW0B := Hid.of (HVB.out.trans (HYV.out.mono HVB.out.size))
      have SA : Hid (∀ W, Below wr.heap.size wr W → W.cell? ⟨w.heap.size, 0, none⟩ = some (.int .i64 p.m.st) ∧ W.cell? ⟨w.heap.size, 1, none⟩ = some (.int .i64 p.m.ev) ∧ W.cell? ⟨w.heap.size, 2, none⟩ = some (.slice Pl.a1 p.m.starts.length Pl.c1) ∧ W.cell? ⟨w.heap.size, 3, none⟩ = some (.slice Pl.a2 p.m.arrows.length Pl.c2) ∧ W.cell? ⟨w.heap.size, 4, none⟩ = some (.slice Pl.a3 p.m.ends.length Pl.c3) ∧ W.cell? ⟨w.heap.size, 5, none⟩ = some (.slice sa p.seen.length sc) ∧ W.cell? ⟨w.heap.size, 6, none⟩ = some (.slice ta p.secret.length tc) ∧ W.cell? ⟨w.heap.size + 1, 0, none⟩ = some (.int .i64 o.st) ∧ W.cell? ⟨w.heap.size + 1, 1, none⟩ = some (.int .i64 o.ev) ∧ W.cell? ⟨w.heap.size + 1, 2, none⟩ = some (.slice lo.a1 o.starts.length lo.c1) ∧ W.cell? ⟨w.heap.size + 1, 3, none⟩ = some (.slice lo.a2 o.arrows.length lo.c2) ∧ W.cell? ⟨w.heap.size + 1, 4, none⟩ = some (.slice lo.a3 o.ends.length lo.c3) ∧ W.cell? ⟨g, og + k * 2, none⟩ = some (.int .i64 ym) ∧ W.cell? ⟨g, og + k * 2 + 1, none⟩ = some (.slice sy ys.length sk)) := fun W hb => by
       have q := HY0.out.trans (hb.mono HY0.out.size)
       obtain ⟨x0, x1, x2, x3, x4, x5, x6⟩ := ptcell_at (KP.out.below q KP.out.lt)
       obtain ⟨y0, y1, y2, y3, y4⟩ := mcell_at (KO.out.below q KO.out.lt)
       exact ⟨x0, x1, x2, x3, x4, x5, x6, y0, y1, y2, y3, y4, (q.cell (p := ⟨g, og + k * 2, none⟩) HG.out).trans C1.out, (q.cell (p := ⟨g, og + k * 2 + 1, none⟩) HG.out).trans C2.out⟩
      go_wp2_with fail
      clear x0 x1 x2 x3 x4 x5 x6
      refine wp_region_held_drew (S := fun w' => w'.cell? ⟨w.heap.size, 0, none⟩ = some (.int .i64 p.m.st) ∧ w'.cell? ⟨w.heap.size, 1, none⟩ = some (.int .i64 p.m.ev) ∧ w'.cell? ⟨w.heap.size, 2, none⟩ = some (.slice Pl.a1 p.m.starts.length Pl.c1) ∧ w'.cell? ⟨w.heap.size, 3, none⟩ = some (.slice Pl.a2 p.m.arrows.length Pl.c2) ∧ w'.cell? ⟨w.heap.size, 4, none⟩ = some (.slice Pl.a3 p.m.ends.length Pl.c3) ∧ w'.cell? ⟨w.heap.size, 5, none⟩ = some (.slice sa p.seen.length sc) ∧ w'.cell? ⟨w.heap.size, 6, none⟩ = some (.slice ta p.secret.length tc) ∧ w'.cell? ⟨w.heap.size + 1, 0, none⟩ = some (.int .i64 o.st) ∧ w'.cell? ⟨w.heap.size + 1, 1, none⟩ = some (.int .i64 o.ev) ∧ w'.cell? ⟨w.heap.size + 1, 2, none⟩ = some (.slice lo.a1 o.starts.length lo.c1) ∧ w'.cell? ⟨w.heap.size + 1, 3, none⟩ = some (.slice lo.a2 o.arrows.length lo.c2) ∧ w'.cell? ⟨w.heap.size + 1, 4, none⟩ = some (.slice lo.a3 o.ends.length lo.c3) ∧ w'.cell? ⟨g, og + k * 2, none⟩ = some (.int .i64 ym) ∧ w'.cell? ⟨g, og + k * 2 + 1, none⟩ = some (.slice sy ys.length sk)) (by kernel_rfl) (SA.out _ (Below.refl _ _).drew) (fun hS => ?_)
      have HY : Hid (Below wr.heap.size wr wr.drew) := (Below.refl _ _).drew
      revert hS HY
      generalize wr.drew = Y0
      intro hS HY
      refine tkH 0 (.pointer (some ⟨w.heap.size, 0, none⟩)) rfl (fun w' hw' => by obtain ⟨q0, q1, q2, q3, q4, q5, q6, q7, q8, q9, q10, q11, q12, q13⟩ := hw'; go_simp) hS ?_
      refine tkH 1 (mval p.m Pl) rfl (fun w' hw' => by obtain ⟨q0, q1, q2, q3, q4, q5, q6, q7, q8, q9, q10, q11, q12, q13⟩ := hw'; go_simp) hS ?_
      refine tkH 2 (.slice (some ⟨g, og, none⟩) l.length lc) rfl (fun w' hw' => by obtain ⟨q0, q1, q2, q3, q4, q5, q6, q7, q8, q9, q10, q11, q12, q13⟩ := hw'; go_simp) hS ?_
      refine tkH 3 (.int .i64 (k : Int)) rfl (fun w' hw' => by obtain ⟨q0, q1, q2, q3, q4, q5, q6, q7, q8, q9, q10, q11, q12, q13⟩ := hw'; go_simp) hS ?_
      refine tkH 4 (.pointer (some ⟨g, og + k * 2, none⟩)) rfl (fun w' hw' => by obtain ⟨q0, q1, q2, q3, q4, q5, q6, q7, q8, q9, q10, q11, q12, q13⟩ := hw'; go_simp) hS ?_
      refine tkH 5 (.pointer (some ⟨g, og + k * 2, none⟩)) rfl (fun w' hw' => by obtain ⟨q0, q1, q2, q3, q4, q5, q6, q7, q8, q9, q10, q11, q12, q13⟩ := hw'; go_simp) hS ?_
      refine tkH 6 (.int .i64 ym) rfl (fun w' hw' => by obtain ⟨q0, q1, q2, q3, q4, q5, q6, q7, q8, q9, q10, q11, q12, q13⟩ := hw'; go_simp) hS ?_
      refine tkH 8 (.int .i64 (j : Int)) rfl (fun w' hw' => by obtain ⟨q0, q1, q2, q3, q4, q5, q6, q7, q8, q9, q10, q11, q12, q13⟩ := hw'; go_simp) hS ?_
      simp only [Act.put, List.setIfInBounds_toArray]
      refine wpAnyH_ready (rs := [7]) (by kernel_rfl) (by simp) ?_
      refine AllReadyH.cons rfl (fun K' hK' => ?_) AllReadyH.nil
      clear hS
      go_simp
      have hb : Below Y0.heap.size Y0 (Y0.alloc (.cells #[.int .i64 ym] 3)) := (Below.refl _ _).alloc (Nat.le_refl _) _
      have A1 : Hid (At (Y0.alloc (.cells #[.int .i64 ym] 3)) (some ⟨Y0.heap.size, 0, none⟩) [ym]) := at_one15 Y0 ym
      replace HY := Hid.of (HY.out.trans (hb.mono HY.out.size))
      refine hK'.out _ _ (SA.out _ HY.out) (fun hS => ?_)
      clear hK' K' hb
      revert A1 HY hS
      generalize Y0.alloc (.cells #[.int .i64 ym] 3) = Y1
      generalize Y0.heap.size = sb
      intro A1 HY hS
      refine wpAnyH_ready (rs := [9]) (by kernel_rfl) (by simp) ?_
      refine AllReadyH.cons rfl (fun K' hK' => ?_) AllReadyH.nil
      clear hS
      go_simp
      refine (refStep_any p.m Pl (some ⟨sb, 0, none⟩) 1 [ym] (j : Int) Y1 (hp.out.below (HW0B.out.trans (HY.out.mono HW0B.out.size)) (Nat.le_refl _)).m.a (by have := hl1.out; omega) A1.out (by show 1 ≤ maxLen; decide)).mono ?_
      rw [← HTO.out]
      rintro e1 Y2 ⟨ua, uc, rfl, -, -, hb⟩
      replace HY := Hid.of (HY.out.trans (hb.mono HY.out.size))
      refine hK'.out _ _ (SA.out _ HY.out) (fun hS => ?_)
      clear hK' K' hb A1
      refine tkH 10 (.slice ua to.length uc) rfl (fun w' hw' => by obtain ⟨q0, q1, q2, q3, q4, q5, q6, q7, q8, q9, q10, q11, q12, q13⟩ := hw'; go_simp) hS ?_
      refine wpAnyH_done (by kernel_rfl) ?_ _
      clear hS
      go_wp2_with fail
      replace HYV := Hid.of (HYV.out.trans (HY.out.mono HYV.out.size))
      clear HY SA HW0B HY0
      revert HYV
      generalize Y2 = W1
      intro HYV
      have HY0 := HYV
      have HW0B := Hid.of (HVB.out.trans (HYV.out.mono HVB.out.size))
      have I1 := Hid.of (J1.out.below HYV.out (Nat.le_refl _))
      have HNW : Hid (n ≤ W1.heap.size) := Nat.le_trans hnw.out HW0B.out.size
      have SA : Hid (∀ W, Below W1.heap.size W1 W → W.cell? ⟨w.heap.size, 0, none⟩ = some (.int .i64 p.m.st) ∧ W.cell? ⟨w.heap.size, 1, none⟩ = some (.int .i64 p.m.ev) ∧ W.cell? ⟨w.heap.size, 2, none⟩ = some (.slice Pl.a1 p.m.starts.length Pl.c1) ∧ W.cell? ⟨w.heap.size, 3, none⟩ = some (.slice Pl.a2 p.m.arrows.length Pl.c2) ∧ W.cell? ⟨w.heap.size, 4, none⟩ = some (.slice Pl.a3 p.m.ends.length Pl.c3) ∧ W.cell? ⟨w.heap.size, 5, none⟩ = some (.slice sa p.seen.length sc) ∧ W.cell? ⟨w.heap.size, 6, none⟩ = some (.slice ta p.secret.length tc) ∧ W.cell? ⟨w.heap.size + 1, 0, none⟩ = some (.int .i64 o.st) ∧ W.cell? ⟨w.heap.size + 1, 1, none⟩ = some (.int .i64 o.ev) ∧ W.cell? ⟨w.heap.size + 1, 2, none⟩ = some (.slice lo.a1 o.starts.length lo.c1) ∧ W.cell? ⟨w.heap.size + 1, 3, none⟩ = some (.slice lo.a2 o.arrows.length lo.c2) ∧ W.cell? ⟨w.heap.size + 1, 4, none⟩ = some (.slice lo.a3 o.ends.length lo.c3) ∧ W.cell? ⟨g, og + k * 2, none⟩ = some (.int .i64 ym) ∧ W.cell? ⟨g, og + k * 2 + 1, none⟩ = some (.slice sy ys.length sk)) := fun W hb => by
       have q := HY0.out.trans (hb.mono HY0.out.size)
       obtain ⟨x0, x1, x2, x3, x4, x5, x6⟩ := ptcell_at (KP.out.below q KP.out.lt)
       obtain ⟨y0, y1, y2, y3, y4⟩ := mcell_at (KO.out.below q KO.out.lt)
       exact ⟨x0, x1, x2, x3, x4, x5, x6, y0, y1, y2, y3, y4, (q.cell (p := ⟨g, og + k * 2, none⟩) HG.out).trans C1.out, (q.cell (p := ⟨g, og + k * 2 + 1, none⟩) HG.out).trans C2.out⟩
      cases hon : onO p o (ym, ys) (j : Int) with
      | none =>
       have HON := Hid.of hon
       clear hon
       refine wp_region_held_drew (S := fun w' => w'.cell? ⟨w.heap.size, 0, none⟩ = some (.int .i64 p.m.st) ∧ w'.cell? ⟨w.heap.size, 1, none⟩ = some (.int .i64 p.m.ev) ∧ w'.cell? ⟨w.heap.size, 2, none⟩ = some (.slice Pl.a1 p.m.starts.length Pl.c1) ∧ w'.cell? ⟨w.heap.size, 3, none⟩ = some (.slice Pl.a2 p.m.arrows.length Pl.c2) ∧ w'.cell? ⟨w.heap.size, 4, none⟩ = some (.slice Pl.a3 p.m.ends.length Pl.c3) ∧ w'.cell? ⟨w.heap.size, 5, none⟩ = some (.slice sa p.seen.length sc) ∧ w'.cell? ⟨w.heap.size, 6, none⟩ = some (.slice ta p.secret.length tc) ∧ w'.cell? ⟨w.heap.size + 1, 0, none⟩ = some (.int .i64 o.st) ∧ w'.cell? ⟨w.heap.size + 1, 1, none⟩ = some (.int .i64 o.ev) ∧ w'.cell? ⟨w.heap.size + 1, 2, none⟩ = some (.slice lo.a1 o.starts.length lo.c1) ∧ w'.cell? ⟨w.heap.size + 1, 3, none⟩ = some (.slice lo.a2 o.arrows.length lo.c2) ∧ w'.cell? ⟨w.heap.size + 1, 4, none⟩ = some (.slice lo.a3 o.ends.length lo.c3) ∧ w'.cell? ⟨g, og + k * 2, none⟩ = some (.int .i64 ym) ∧ w'.cell? ⟨g, og + k * 2 + 1, none⟩ = some (.slice sy ys.length sk)) (by kernel_rfl) (SA.out _ (Below.refl _ _).drew) (fun hS => ?_)
       have HY : Hid (Below W1.heap.size W1 W1.drew) := (Below.refl _ _).drew
       revert hS HY
       generalize W1.drew = Y0
       intro hS HY
       refine tkH 0 (ptval p ⟨Pl, sa, sc, ta, tc⟩) rfl (fun w' hw' => by obtain ⟨q0, q1, q2, q3, q4, q5, q6, q7, q8, q9, q10, q11, q12, q13⟩ := hw'; go_simp) hS ?_
       refine tkH 1 (mval o lo) rfl (fun w' hw' => by obtain ⟨q0, q1, q2, q3, q4, q5, q6, q7, q8, q9, q10, q11, q12, q13⟩ := hw'; go_simp) hS ?_
       refine tkH 2 (.slice (some ⟨g, og, none⟩) l.length lc) rfl (fun w' hw' => by obtain ⟨q0, q1, q2, q3, q4, q5, q6, q7, q8, q9, q10, q11, q12, q13⟩ := hw'; go_simp) hS ?_
       refine tkH 3 (.int .i64 (k : Int)) rfl (fun w' hw' => by obtain ⟨q0, q1, q2, q3, q4, q5, q6, q7, q8, q9, q10, q11, q12, q13⟩ := hw'; go_simp) hS ?_
       refine tkH 4 (.pointer (some ⟨g, og + k * 2, none⟩)) rfl (fun w' hw' => by obtain ⟨q0, q1, q2, q3, q4, q5, q6, q7, q8, q9, q10, q11, q12, q13⟩ := hw'; go_simp) hS ?_
       refine tkH 5 (.agg #[.int .i64 ym, .slice sy ys.length sk]) rfl (fun w' hw' => by obtain ⟨q0, q1, q2, q3, q4, q5, q6, q7, q8, q9, q10, q11, q12, q13⟩ := hw'; go_simp) hS ?_
       refine tkH 6 (.int .i64 (j : Int)) rfl (fun w' hw' => by obtain ⟨q0, q1, q2, q3, q4, q5, q6, q7, q8, q9, q10, q11, q12, q13⟩ := hw'; go_simp) hS ?_
       simp only [Act.put, List.setIfInBounds_toArray]
       refine wpAnyH_ready (rs := [7, 11]) (by kernel_rfl) (by simp) ?_
       refine AllReadyH.cons rfl (fun K' hK' => ?_) (AllReadyH.cons rfl (fun K' hK' => ?_) AllReadyH.nil)
       ·clear hS
        go_simp
        refine (ron_any p Pl sa sc ta tc o lo ym sy sk ys (j : Int) Y0 (Hid.of (hp.out.below (HW0B.out.trans (HY.out.mono HW0B.out.size)) (Nat.le_refl _))) (Hid.of (ho.out.below (HW0B.out.trans (HY.out.mono HW0B.out.size)) (Nat.le_refl _))) (Hid.of (I1.out.below HY.out (Nat.le_refl _))) I2 hl1 hl2).mono ?_
        rintro e1 Y1 hO
        rw [HON.out] at hO
        obtain ⟨rfl, hb⟩ := hO
        replace HY := Hid.of (HY.out.trans (hb.mono HY.out.size))
        refine hK'.out _ _ (SA.out _ HY.out) (fun hS => ?_)
        clear hK' K' hb
        refine tkH 8 (.tuple #[.agg #[.int .i64 0, .slice none 0 0], .bool false]) rfl (fun w' hw' => by obtain ⟨q0, q1, q2, q3, q4, q5, q6, q7, q8, q9, q10, q11, q12, q13⟩ := hw'; go_simp) hS ?_
        refine tkH 9 (.agg #[.int .i64 0, .slice none 0 0]) rfl (fun w' hw' => by obtain ⟨q0, q1, q2, q3, q4, q5, q6, q7, q8, q9, q10, q11, q12, q13⟩ := hw'; go_simp) hS ?_
        refine tkH 10 (.bool false) rfl (fun w' hw' => by obtain ⟨q0, q1, q2, q3, q4, q5, q6, q7, q8, q9, q10, q11, q12, q13⟩ := hw'; go_simp) hS ?_
        refine wpAnyH_ready (rs := [11]) (by kernel_rfl) (by simp) ?_
        refine AllReadyH.cons rfl (fun K' hK' => ?_) AllReadyH.nil
        clear hS
        go_simp
        have hb : Below Y1.heap.size Y1 (Y1.alloc (.cells #[.int .i64 0, .slice none 0 0] 135)) := (Below.refl _ _).alloc (Nat.le_refl _) _
        have KX := Hid.of (Blk.new Y1 135 #[.int .i64 0, .slice none 0 0])
        have HPB : Hid (W1.heap.size ≤ Y1.heap.size) := HY.out.size
        replace HY := Hid.of (HY.out.trans (hb.mono HY.out.size))
        refine hK'.out _ _ (SA.out _ HY.out) (fun hS => ?_)
        clear hK' K' hb
        revert KX HPB HY hS
        generalize Y1.alloc (.cells #[.int .i64 0, .slice none 0 0] 135) = Y2
        generalize Y1.heap.size = pb
        intro KX HPB HY hS
        refine wpAnyH_ready (rs := [12]) (by kernel_rfl) (by simp) ?_
        refine AllReadyH.cons rfl (fun K' hK' => ?_) AllReadyH.nil
        clear hS
        have f := KX.out.frozen
        have r0 := KX.out.cell 0 rfl
        have r1 := KX.out.cell 1 rfl
        go_simp
        replace HY := Hid.of (below_set2 HY.out HPB.out (.int .i64 0) (.slice none 0 0))
        replace KX := Hid.of ((KX.out.set 0 (.int .i64 0)).set 1 (.slice none 0 0))
        refine hK'.out _ _ (SA.out _ HY.out) (fun hS => ?_)
        clear hK' K' f r0 r1
        revert HY KX hS
        generalize (Y2.setCell ⟨pb, 0, none⟩ (.int .i64 0)).setCell ⟨pb, 1, none⟩ (.slice none 0 0) = Y3
        intro HY KX hS
        refine tkH 13 (.bool false) rfl (fun w' hw' => by obtain ⟨q0, q1, q2, q3, q4, q5, q6, q7, q8, q9, q10, q11, q12, q13⟩ := hw'; go_simp) hS ?_
        refine wpAnyH_done (by kernel_rfl) ?_ _
        clear hS
        have HZ := Hid.of (HYV.out.trans (HY.out.mono HYV.out.size))
        clear HY KX HPB
        by_cases h1 : to.length = 1
        ·have d1 : ((to.length : Int) == 1) = true := by rw [h1]; rfl
         cases hfr : fr with
         | true =>
          subst hfr
          have HNX : Hid (∀ i : Nat, i < j + 1 → okO p free o (ym, ys) (i : Int) = true) := fun i hi => by
           rcases Nat.lt_succ_iff_lt_or_eq.1 hi with q | q
           ·exact HJ.out i q
           ·rw [q]; exact okO_free HFR.out
          clear h1
          go_wp2_with fail
          refine (refHas_any fa fc free (j : Int) _ (hF.out.below (HVB.out.trans (HZ.out.mono HVB.out.size)) (Nat.le_refl _)) hFl.out).mono ?_
          rintro e1 Z ⟨rfl, rfl⟩
          rw [HFR.out]
          go_wp2_with fail
          go_roundw
          case rel => exact ⟨j + 1, by go_num, by omega, HNX, HZ⟩
          case measure => simp [intOf]; omega
         | false =>
          subst hfr
          have HNO : Hid (holdsO p free o l = false) := holdsO_no HCY.out (by have := HEV.out; omega) (okO_no (by rw [← HTO.out]; exact h1) HON.out HFR.out)
          clear h1
          go_wp2_with fail
          refine (refHas_any fa fc free (j : Int) _ (hF.out.below (HVB.out.trans (HZ.out.mono HVB.out.size)) (Nat.le_refl _)) hFl.out).mono ?_
          rintro e1 Z ⟨rfl, rfl⟩
          rw [HFR.out]
          go_wp2_with fail
          exact bodyPost_ret (v := .bool false) (by simp [results, go_sem]) rfl ⟨by rw [HNO.out], HVB.out.trans (HZ.out.mono HVB.out.size)⟩
        ·have d1 : ((to.length : Int) == 1) = false := by simpa using (by omega : (to.length : Int) ≠ 1)
         have HNX : Hid (∀ i : Nat, i < j + 1 → okO p free o (ym, ys) (i : Int) = true) := fun i hi => by
          rcases Nat.lt_succ_iff_lt_or_eq.1 hi with q | q
          ·exact HJ.out i q
          ·rw [q]; exact okO_many (by rw [← HTO.out]; exact h1)
         clear h1
         go_wp2_with fail
         go_roundw
         case rel => exact ⟨j + 1, by go_num, by omega, HNX, HZ⟩
         case measure => simp [intOf]; omega
       ·clear hS
        go_simp
        have hb : Below Y0.heap.size Y0 (Y0.alloc (.cells #[.int .i64 0, .slice none 0 0] 135)) := (Below.refl _ _).alloc (Nat.le_refl _) _
        have KX := Hid.of (Blk.new Y0 135 #[.int .i64 0, .slice none 0 0])
        have HPB : Hid (W1.heap.size ≤ Y0.heap.size) := HY.out.size
        replace HY := Hid.of (HY.out.trans (hb.mono HY.out.size))
        refine hK'.out _ _ (SA.out _ HY.out) (fun hS => ?_)
        clear hK' K' hb
        revert KX HPB HY hS
        generalize Y0.alloc (.cells #[.int .i64 0, .slice none 0 0] 135) = Y4
        generalize Y0.heap.size = pb
        intro KX HPB HY hS
        refine wpAnyH_ready (rs := [7]) (by kernel_rfl) (by simp) ?_
        refine AllReadyH.cons rfl (fun K' hK' => ?_) AllReadyH.nil
        clear hS
        go_simp
        refine (ron_any p Pl sa sc ta tc o lo ym sy sk ys (j : Int) Y4 (Hid.of (hp.out.below (HW0B.out.trans (HY.out.mono HW0B.out.size)) (Nat.le_refl _))) (Hid.of (ho.out.below (HW0B.out.trans (HY.out.mono HW0B.out.size)) (Nat.le_refl _))) (Hid.of (I1.out.below HY.out (Nat.le_refl _))) I2 hl1 hl2).mono ?_
        rintro e1 Y5 hO
        rw [HON.out] at hO
        obtain ⟨rfl, hb⟩ := hO
        replace HY := Hid.of (HY.out.trans (hb.mono HY.out.size))
        replace KX := Hid.of (KX.out.below hb KX.out.lt)
        refine hK'.out _ _ (SA.out _ HY.out) (fun hS => ?_)
        clear hK' K' hb
        refine tkH 8 (.tuple #[.agg #[.int .i64 0, .slice none 0 0], .bool false]) rfl (fun w' hw' => by obtain ⟨q0, q1, q2, q3, q4, q5, q6, q7, q8, q9, q10, q11, q12, q13⟩ := hw'; go_simp) hS ?_
        refine tkH 9 (.agg #[.int .i64 0, .slice none 0 0]) rfl (fun w' hw' => by obtain ⟨q0, q1, q2, q3, q4, q5, q6, q7, q8, q9, q10, q11, q12, q13⟩ := hw'; go_simp) hS ?_
        refine tkH 10 (.bool false) rfl (fun w' hw' => by obtain ⟨q0, q1, q2, q3, q4, q5, q6, q7, q8, q9, q10, q11, q12, q13⟩ := hw'; go_simp) hS ?_
        refine wpAnyH_ready (rs := [12]) (by kernel_rfl) (by simp) ?_
        refine AllReadyH.cons rfl (fun K' hK' => ?_) AllReadyH.nil
        clear hS
        have f := KX.out.frozen
        have r0 := KX.out.cell 0 rfl
        have r1 := KX.out.cell 1 rfl
        go_simp
        replace HY := Hid.of (below_set2 HY.out HPB.out (.int .i64 0) (.slice none 0 0))
        replace KX := Hid.of ((KX.out.set 0 (.int .i64 0)).set 1 (.slice none 0 0))
        refine hK'.out _ _ (SA.out _ HY.out) (fun hS => ?_)
        clear hK' K' f r0 r1
        revert HY KX hS
        generalize (Y5.setCell ⟨pb, 0, none⟩ (.int .i64 0)).setCell ⟨pb, 1, none⟩ (.slice none 0 0) = Y6
        intro HY KX hS
        refine tkH 13 (.bool false) rfl (fun w' hw' => by obtain ⟨q0, q1, q2, q3, q4, q5, q6, q7, q8, q9, q10, q11, q12, q13⟩ := hw'; go_simp) hS ?_
        refine wpAnyH_done (by kernel_rfl) ?_ _
        clear hS
        have HZ := Hid.of (HYV.out.trans (HY.out.mono HYV.out.size))
        clear HY KX HPB
        by_cases h1 : to.length = 1
        ·have d1 : ((to.length : Int) == 1) = true := by rw [h1]; rfl
         cases hfr : fr with
         | true =>
          subst hfr
          have HNX : Hid (∀ i : Nat, i < j + 1 → okO p free o (ym, ys) (i : Int) = true) := fun i hi => by
           rcases Nat.lt_succ_iff_lt_or_eq.1 hi with q | q
           ·exact HJ.out i q
           ·rw [q]; exact okO_free HFR.out
          clear h1
          go_wp2_with fail
          refine (refHas_any fa fc free (j : Int) _ (hF.out.below (HVB.out.trans (HZ.out.mono HVB.out.size)) (Nat.le_refl _)) hFl.out).mono ?_
          rintro e1 Z ⟨rfl, rfl⟩
          rw [HFR.out]
          go_wp2_with fail
          go_roundw
          case rel => exact ⟨j + 1, by go_num, by omega, HNX, HZ⟩
          case measure => simp [intOf]; omega
         | false =>
          subst hfr
          have HNO : Hid (holdsO p free o l = false) := holdsO_no HCY.out (by have := HEV.out; omega) (okO_no (by rw [← HTO.out]; exact h1) HON.out HFR.out)
          clear h1
          go_wp2_with fail
          refine (refHas_any fa fc free (j : Int) _ (hF.out.below (HVB.out.trans (HZ.out.mono HVB.out.size)) (Nat.le_refl _)) hFl.out).mono ?_
          rintro e1 Z ⟨rfl, rfl⟩
          rw [HFR.out]
          go_wp2_with fail
          exact bodyPost_ret (v := .bool false) (by simp [results, go_sem]) rfl ⟨by rw [HNO.out], HVB.out.trans (HZ.out.mono HVB.out.size)⟩
        ·have d1 : ((to.length : Int) == 1) = false := by simpa using (by omega : (to.length : Int) ≠ 1)
         have HNX : Hid (∀ i : Nat, i < j + 1 → okO p free o (ym, ys) (i : Int) = true) := fun i hi => by
          rcases Nat.lt_succ_iff_lt_or_eq.1 hi with q | q
          ·exact HJ.out i q
          ·rw [q]; exact okO_many (by rw [← HTO.out]; exact h1)
         clear h1
         go_wp2_with fail
         go_roundw
         case rel => exact ⟨j + 1, by go_num, by omega, HNX, HZ⟩
         case measure => simp [intOf]; omega
      | some zz =>
       obtain ⟨zm, zs⟩ := zz
       have HON := Hid.of hon
       clear hon
       refine wp_region_held_drew (S := fun w' => w'.cell? ⟨w.heap.size, 0, none⟩ = some (.int .i64 p.m.st) ∧ w'.cell? ⟨w.heap.size, 1, none⟩ = some (.int .i64 p.m.ev) ∧ w'.cell? ⟨w.heap.size, 2, none⟩ = some (.slice Pl.a1 p.m.starts.length Pl.c1) ∧ w'.cell? ⟨w.heap.size, 3, none⟩ = some (.slice Pl.a2 p.m.arrows.length Pl.c2) ∧ w'.cell? ⟨w.heap.size, 4, none⟩ = some (.slice Pl.a3 p.m.ends.length Pl.c3) ∧ w'.cell? ⟨w.heap.size, 5, none⟩ = some (.slice sa p.seen.length sc) ∧ w'.cell? ⟨w.heap.size, 6, none⟩ = some (.slice ta p.secret.length tc) ∧ w'.cell? ⟨w.heap.size + 1, 0, none⟩ = some (.int .i64 o.st) ∧ w'.cell? ⟨w.heap.size + 1, 1, none⟩ = some (.int .i64 o.ev) ∧ w'.cell? ⟨w.heap.size + 1, 2, none⟩ = some (.slice lo.a1 o.starts.length lo.c1) ∧ w'.cell? ⟨w.heap.size + 1, 3, none⟩ = some (.slice lo.a2 o.arrows.length lo.c2) ∧ w'.cell? ⟨w.heap.size + 1, 4, none⟩ = some (.slice lo.a3 o.ends.length lo.c3) ∧ w'.cell? ⟨g, og + k * 2, none⟩ = some (.int .i64 ym) ∧ w'.cell? ⟨g, og + k * 2 + 1, none⟩ = some (.slice sy ys.length sk)) (by kernel_rfl) (SA.out _ (Below.refl _ _).drew) (fun hS => ?_)
       have HY : Hid (Below W1.heap.size W1 W1.drew) := (Below.refl _ _).drew
       revert hS HY
       generalize W1.drew = Y0
       intro hS HY
       refine tkH 0 (ptval p ⟨Pl, sa, sc, ta, tc⟩) rfl (fun w' hw' => by obtain ⟨q0, q1, q2, q3, q4, q5, q6, q7, q8, q9, q10, q11, q12, q13⟩ := hw'; go_simp) hS ?_
       refine tkH 1 (mval o lo) rfl (fun w' hw' => by obtain ⟨q0, q1, q2, q3, q4, q5, q6, q7, q8, q9, q10, q11, q12, q13⟩ := hw'; go_simp) hS ?_
       refine tkH 2 (.slice (some ⟨g, og, none⟩) l.length lc) rfl (fun w' hw' => by obtain ⟨q0, q1, q2, q3, q4, q5, q6, q7, q8, q9, q10, q11, q12, q13⟩ := hw'; go_simp) hS ?_
       refine tkH 3 (.int .i64 (k : Int)) rfl (fun w' hw' => by obtain ⟨q0, q1, q2, q3, q4, q5, q6, q7, q8, q9, q10, q11, q12, q13⟩ := hw'; go_simp) hS ?_
       refine tkH 4 (.pointer (some ⟨g, og + k * 2, none⟩)) rfl (fun w' hw' => by obtain ⟨q0, q1, q2, q3, q4, q5, q6, q7, q8, q9, q10, q11, q12, q13⟩ := hw'; go_simp) hS ?_
       refine tkH 5 (.agg #[.int .i64 ym, .slice sy ys.length sk]) rfl (fun w' hw' => by obtain ⟨q0, q1, q2, q3, q4, q5, q6, q7, q8, q9, q10, q11, q12, q13⟩ := hw'; go_simp) hS ?_
       refine tkH 6 (.int .i64 (j : Int)) rfl (fun w' hw' => by obtain ⟨q0, q1, q2, q3, q4, q5, q6, q7, q8, q9, q10, q11, q12, q13⟩ := hw'; go_simp) hS ?_
       simp only [Act.put, List.setIfInBounds_toArray]
       refine wpAnyH_ready (rs := [7, 11]) (by kernel_rfl) (by simp) ?_
       refine AllReadyH.cons rfl (fun K' hK' => ?_) (AllReadyH.cons rfl (fun K' hK' => ?_) AllReadyH.nil)
       ·clear hS
        go_simp
        refine (ron_any p Pl sa sc ta tc o lo ym sy sk ys (j : Int) Y0 (Hid.of (hp.out.below (HW0B.out.trans (HY.out.mono HW0B.out.size)) (Nat.le_refl _))) (Hid.of (ho.out.below (HW0B.out.trans (HY.out.mono HW0B.out.size)) (Nat.le_refl _))) (Hid.of (I1.out.below HY.out (Nat.le_refl _))) I2 hl1 hl2).mono ?_
        rintro e1 Y1 hO
        rw [HON.out] at hO
        obtain ⟨za, zc, rfl, hiz, hb⟩ := hO
        have OZ := Hid.of (hiz n)
        replace HY := Hid.of (HY.out.trans (hb.mono HY.out.size))
        refine hK'.out _ _ (SA.out _ HY.out) (fun hS => ?_)
        clear hK' K' hb hiz
        refine tkH 8 (.tuple #[.agg #[.int .i64 zm, .slice za zs.length zc], .bool true]) rfl (fun w' hw' => by obtain ⟨q0, q1, q2, q3, q4, q5, q6, q7, q8, q9, q10, q11, q12, q13⟩ := hw'; go_simp) hS ?_
        refine tkH 9 (.agg #[.int .i64 zm, .slice za zs.length zc]) rfl (fun w' hw' => by obtain ⟨q0, q1, q2, q3, q4, q5, q6, q7, q8, q9, q10, q11, q12, q13⟩ := hw'; go_simp) hS ?_
        refine tkH 10 (.bool true) rfl (fun w' hw' => by obtain ⟨q0, q1, q2, q3, q4, q5, q6, q7, q8, q9, q10, q11, q12, q13⟩ := hw'; go_simp) hS ?_
        refine wpAnyH_ready (rs := [11]) (by kernel_rfl) (by simp) ?_
        refine AllReadyH.cons rfl (fun K' hK' => ?_) AllReadyH.nil
        clear hS
        go_simp
        have hb : Below Y1.heap.size Y1 (Y1.alloc (.cells #[.int .i64 0, .slice none 0 0] 135)) := (Below.refl _ _).alloc (Nat.le_refl _) _
        have KX := Hid.of (Blk.new Y1 135 #[.int .i64 0, .slice none 0 0])
        have HPB : Hid (W1.heap.size ≤ Y1.heap.size) := HY.out.size
        replace OZ := Hid.of (OZ.out.below hb (Nat.le_trans HNW.out HY.out.size))
        replace HY := Hid.of (HY.out.trans (hb.mono HY.out.size))
        refine hK'.out _ _ (SA.out _ HY.out) (fun hS => ?_)
        clear hK' K' hb
        revert KX HPB OZ HY hS
        generalize Y1.alloc (.cells #[.int .i64 0, .slice none 0 0] 135) = Y2
        generalize Y1.heap.size = pb
        intro KX HPB OZ HY hS
        refine wpAnyH_ready (rs := [12]) (by kernel_rfl) (by simp) ?_
        refine AllReadyH.cons rfl (fun K' hK' => ?_) AllReadyH.nil
        clear hS
        have f := KX.out.frozen
        have r0 := KX.out.cell 0 rfl
        have r1 := KX.out.cell 1 rfl
        go_simp
        replace OZ := Hid.of (innW_box OZ.out (Nat.le_trans HNW.out HPB.out) KX.out (.int .i64 zm) (.slice za zs.length zc))
        replace HY := Hid.of (below_set2 HY.out HPB.out (.int .i64 zm) (.slice za zs.length zc))
        replace KX := Hid.of ((KX.out.set 0 (.int .i64 zm)).set 1 (.slice za zs.length zc))
        refine hK'.out _ _ (SA.out _ HY.out) (fun hS => ?_)
        clear hK' K' f r0 r1
        revert OZ HY KX hS
        generalize (Y2.setCell ⟨pb, 0, none⟩ (.int .i64 zm)).setCell ⟨pb, 1, none⟩ (.slice za zs.length zc) = Y3
        intro OZ HY KX hS
        refine tkH 13 (.bool true) rfl (fun w' hw' => by obtain ⟨q0, q1, q2, q3, q4, q5, q6, q7, q8, q9, q10, q11, q12, q13⟩ := hw'; go_simp) hS ?_
        refine wpAnyH_done (by kernel_rfl) ?_ _
        clear hS
        have HZ := Hid.of (HYV.out.trans (HY.out.mono HYV.out.size))
        clear HY KX HPB OZ
        by_cases h1 : to.length = 1
        ·have d1 : ((to.length : Int) == 1) = true := by rw [h1]; rfl
         have HNX : Hid (∀ i : Nat, i < j + 1 → okO p free o (ym, ys) (i : Int) = true) := fun i hi => by
          rcases Nat.lt_succ_iff_lt_or_eq.1 hi with q | q
          ·exact HJ.out i q
          ·rw [q]; exact okO_on (by rw [HON.out]; rfl)
         clear h1
         go_wp2_with fail
         go_roundw
         case rel => exact ⟨j + 1, by go_num, by omega, HNX, HZ⟩
         case measure => simp [intOf]; omega
        ·have d1 : ((to.length : Int) == 1) = false := by simpa using (by omega : (to.length : Int) ≠ 1)
         have HNX : Hid (∀ i : Nat, i < j + 1 → okO p free o (ym, ys) (i : Int) = true) := fun i hi => by
          rcases Nat.lt_succ_iff_lt_or_eq.1 hi with q | q
          ·exact HJ.out i q
          ·rw [q]; exact okO_many (by rw [← HTO.out]; exact h1)
         clear h1
         go_wp2_with fail
         go_roundw
         case rel => exact ⟨j + 1, by go_num, by omega, HNX, HZ⟩
         case measure => simp [intOf]; omega
       ·clear hS
        go_simp
        have hb : Below Y0.heap.size Y0 (Y0.alloc (.cells #[.int .i64 0, .slice none 0 0] 135)) := (Below.refl _ _).alloc (Nat.le_refl _) _
        have KX := Hid.of (Blk.new Y0 135 #[.int .i64 0, .slice none 0 0])
        have HPB : Hid (W1.heap.size ≤ Y0.heap.size) := HY.out.size
        replace HY := Hid.of (HY.out.trans (hb.mono HY.out.size))
        refine hK'.out _ _ (SA.out _ HY.out) (fun hS => ?_)
        clear hK' K' hb
        revert KX HPB HY hS
        generalize Y0.alloc (.cells #[.int .i64 0, .slice none 0 0] 135) = Y4
        generalize Y0.heap.size = pb
        intro KX HPB HY hS
        refine wpAnyH_ready (rs := [7]) (by kernel_rfl) (by simp) ?_
        refine AllReadyH.cons rfl (fun K' hK' => ?_) AllReadyH.nil
        clear hS
        go_simp
        refine (ron_any p Pl sa sc ta tc o lo ym sy sk ys (j : Int) Y4 (Hid.of (hp.out.below (HW0B.out.trans (HY.out.mono HW0B.out.size)) (Nat.le_refl _))) (Hid.of (ho.out.below (HW0B.out.trans (HY.out.mono HW0B.out.size)) (Nat.le_refl _))) (Hid.of (I1.out.below HY.out (Nat.le_refl _))) I2 hl1 hl2).mono ?_
        rintro e1 Y5 hO
        rw [HON.out] at hO
        obtain ⟨za, zc, rfl, hiz, hb⟩ := hO
        have OZ := Hid.of (hiz n)
        replace HY := Hid.of (HY.out.trans (hb.mono HY.out.size))
        replace KX := Hid.of (KX.out.below hb KX.out.lt)
        refine hK'.out _ _ (SA.out _ HY.out) (fun hS => ?_)
        clear hK' K' hb hiz
        refine tkH 8 (.tuple #[.agg #[.int .i64 zm, .slice za zs.length zc], .bool true]) rfl (fun w' hw' => by obtain ⟨q0, q1, q2, q3, q4, q5, q6, q7, q8, q9, q10, q11, q12, q13⟩ := hw'; go_simp) hS ?_
        refine tkH 9 (.agg #[.int .i64 zm, .slice za zs.length zc]) rfl (fun w' hw' => by obtain ⟨q0, q1, q2, q3, q4, q5, q6, q7, q8, q9, q10, q11, q12, q13⟩ := hw'; go_simp) hS ?_
        refine tkH 10 (.bool true) rfl (fun w' hw' => by obtain ⟨q0, q1, q2, q3, q4, q5, q6, q7, q8, q9, q10, q11, q12, q13⟩ := hw'; go_simp) hS ?_
        refine wpAnyH_ready (rs := [12]) (by kernel_rfl) (by simp) ?_
        refine AllReadyH.cons rfl (fun K' hK' => ?_) AllReadyH.nil
        clear hS
        have f := KX.out.frozen
        have r0 := KX.out.cell 0 rfl
        have r1 := KX.out.cell 1 rfl
        go_simp
        replace OZ := Hid.of (innW_box OZ.out (Nat.le_trans HNW.out HPB.out) KX.out (.int .i64 zm) (.slice za zs.length zc))
        replace HY := Hid.of (below_set2 HY.out HPB.out (.int .i64 zm) (.slice za zs.length zc))
        replace KX := Hid.of ((KX.out.set 0 (.int .i64 zm)).set 1 (.slice za zs.length zc))
        refine hK'.out _ _ (SA.out _ HY.out) (fun hS => ?_)
        clear hK' K' f r0 r1
        revert OZ HY KX hS
        generalize (Y5.setCell ⟨pb, 0, none⟩ (.int .i64 zm)).setCell ⟨pb, 1, none⟩ (.slice za zs.length zc) = Y6
        intro OZ HY KX hS
        refine tkH 13 (.bool true) rfl (fun w' hw' => by obtain ⟨q0, q1, q2, q3, q4, q5, q6, q7, q8, q9, q10, q11, q12, q13⟩ := hw'; go_simp) hS ?_
        refine wpAnyH_done (by kernel_rfl) ?_ _
        clear hS
        have HZ := Hid.of (HYV.out.trans (HY.out.mono HYV.out.size))
        clear HY KX HPB OZ
        by_cases h1 : to.length = 1
        ·have d1 : ((to.length : Int) == 1) = true := by rw [h1]; rfl
         have HNX : Hid (∀ i : Nat, i < j + 1 → okO p free o (ym, ys) (i : Int) = true) := fun i hi => by
          rcases Nat.lt_succ_iff_lt_or_eq.1 hi with q | q
          ·exact HJ.out i q
          ·rw [q]; exact okO_on (by rw [HON.out]; rfl)
         clear h1
         go_wp2_with fail
         go_roundw
         case rel => exact ⟨j + 1, by go_num, by omega, HNX, HZ⟩
         case measure => simp [intOf]; omega
        ·have d1 : ((to.length : Int) == 1) = false := by simpa using (by omega : (to.length : Int) ≠ 1)
         have HNX : Hid (∀ i : Nat, i < j + 1 → okO p free o (ym, ys) (i : Int) = true) := fun i hi => by
          rcases Nat.lt_succ_iff_lt_or_eq.1 hi with q | q
          ·exact HJ.out i q
          ·rw [q]; exact okO_many (by rw [← HTO.out]; exact h1)
         clear h1
         go_wp2_with fail
         go_roundw
         case rel => exact ⟨j + 1, by go_num, by omega, HNX, HZ⟩
         case measure => simp [intOf]; omega
     ·have hjD : decide ((j : Int) < p.m.ev) = false := by rw [HEV.out]; simp; omega
      have HAN : Hid (∀ (q : Nat) (x : PlO), q < k + 1 → l[q]? = some x → ∀ i : Nat, i < ev → okO p free o x (i : Int) = true) := fun q x hq hx i hi => by
       rcases Nat.lt_succ_iff_lt_or_eq.1 hq with c | c
       ·exact HAL.out q x c hx i hi
       ·rw [c, HCY.out] at hx
        cases hx
        exact HJ.out i (by omega)
      go_wp2_with fail
      go_roundw
      case rel => exact ⟨k + 1, (by rw [HBN.out]; simp), by go_num, by omega, HAN, HYV⟩
      case measure => simp [intOf]; omega
   | false =>
    subst hhs
    go_wp2_with fail
    go_quiet (first | (go_at_call 46; exact Calls.quiet_of_same (KEY1.out _)))
    clear x6 z1 KEY1 hkD
    replace HYV : Hid (Below V0.heap.size V0 (wr.drewN nq)) := below_drewN HYV.out nq
    revert HYV
    generalize wr.drewN nq = wr1
    intro HYV
    go_wp2_with fail
    go_loopw [11] (fun i wr' => ∃ j : Nat, i = .int .i64 (j : Int) ∧ j ≤ ev ∧ Hid (∀ i : Nat, i < j → okO p free o (ym, ys) (i : Int) = true) ∧ Hid (Below V0.heap.size V0 wr')) (fun i _ => ev - (intOf i).toNat)
    case atStart => exact ⟨0, rfl, Nat.zero_le _, fun i h => absurd h (by omega), HYV⟩
    case round =>
     clear HYV
     obtain ⟨j, rfl, hj, HJ, HYV⟩ := hrel
     obtain ⟨x0, x1, x2, x3, x4, x5, x6⟩ := ptcell_at (KP.out.below HYV.out KP.out.lt)
     by_cases hjl : j < ev
     ·have hjD : decide ((j : Int) < p.m.ev) = true := by rw [HEV.out]; simp; omega
      obtain ⟨to, HTO⟩ : ∃ to, Hid (to = stepL p.m.arrows [ym] (j : Int)) := ⟨_, rfl⟩
      obtain ⟨fr, HFR⟩ : ∃ fr, Hid (hasB free (j : Int) = fr) := ⟨_, rfl⟩
      have HY0 := HYV
      have HW0B := Hid.of (HVB.out.trans (HYV.out.mono HVB.out.size))
      have SA : Hid (∀ W, Below wr.heap.size wr W → W.cell? ⟨w.heap.size, 0, none⟩ = some (.int .i64 p.m.st) ∧ W.cell? ⟨w.heap.size, 1, none⟩ = some (.int .i64 p.m.ev) ∧ W.cell? ⟨w.heap.size, 2, none⟩ = some (.slice Pl.a1 p.m.starts.length Pl.c1) ∧ W.cell? ⟨w.heap.size, 3, none⟩ = some (.slice Pl.a2 p.m.arrows.length Pl.c2) ∧ W.cell? ⟨w.heap.size, 4, none⟩ = some (.slice Pl.a3 p.m.ends.length Pl.c3) ∧ W.cell? ⟨w.heap.size, 5, none⟩ = some (.slice sa p.seen.length sc) ∧ W.cell? ⟨w.heap.size, 6, none⟩ = some (.slice ta p.secret.length tc) ∧ W.cell? ⟨w.heap.size + 1, 0, none⟩ = some (.int .i64 o.st) ∧ W.cell? ⟨w.heap.size + 1, 1, none⟩ = some (.int .i64 o.ev) ∧ W.cell? ⟨w.heap.size + 1, 2, none⟩ = some (.slice lo.a1 o.starts.length lo.c1) ∧ W.cell? ⟨w.heap.size + 1, 3, none⟩ = some (.slice lo.a2 o.arrows.length lo.c2) ∧ W.cell? ⟨w.heap.size + 1, 4, none⟩ = some (.slice lo.a3 o.ends.length lo.c3) ∧ W.cell? ⟨g, og + k * 2, none⟩ = some (.int .i64 ym) ∧ W.cell? ⟨g, og + k * 2 + 1, none⟩ = some (.slice sy ys.length sk)) := fun W hb => by
       have q := HY0.out.trans (hb.mono HY0.out.size)
       obtain ⟨x0, x1, x2, x3, x4, x5, x6⟩ := ptcell_at (KP.out.below q KP.out.lt)
       obtain ⟨y0, y1, y2, y3, y4⟩ := mcell_at (KO.out.below q KO.out.lt)
       exact ⟨x0, x1, x2, x3, x4, x5, x6, y0, y1, y2, y3, y4, (q.cell (p := ⟨g, og + k * 2, none⟩) HG.out).trans C1.out, (q.cell (p := ⟨g, og + k * 2 + 1, none⟩) HG.out).trans C2.out⟩
      go_wp2_with fail
      clear x0 x1 x2 x3 x4 x5 x6
      refine wp_region_held_drew (S := fun w' => w'.cell? ⟨w.heap.size, 0, none⟩ = some (.int .i64 p.m.st) ∧ w'.cell? ⟨w.heap.size, 1, none⟩ = some (.int .i64 p.m.ev) ∧ w'.cell? ⟨w.heap.size, 2, none⟩ = some (.slice Pl.a1 p.m.starts.length Pl.c1) ∧ w'.cell? ⟨w.heap.size, 3, none⟩ = some (.slice Pl.a2 p.m.arrows.length Pl.c2) ∧ w'.cell? ⟨w.heap.size, 4, none⟩ = some (.slice Pl.a3 p.m.ends.length Pl.c3) ∧ w'.cell? ⟨w.heap.size, 5, none⟩ = some (.slice sa p.seen.length sc) ∧ w'.cell? ⟨w.heap.size, 6, none⟩ = some (.slice ta p.secret.length tc) ∧ w'.cell? ⟨w.heap.size + 1, 0, none⟩ = some (.int .i64 o.st) ∧ w'.cell? ⟨w.heap.size + 1, 1, none⟩ = some (.int .i64 o.ev) ∧ w'.cell? ⟨w.heap.size + 1, 2, none⟩ = some (.slice lo.a1 o.starts.length lo.c1) ∧ w'.cell? ⟨w.heap.size + 1, 3, none⟩ = some (.slice lo.a2 o.arrows.length lo.c2) ∧ w'.cell? ⟨w.heap.size + 1, 4, none⟩ = some (.slice lo.a3 o.ends.length lo.c3) ∧ w'.cell? ⟨g, og + k * 2, none⟩ = some (.int .i64 ym) ∧ w'.cell? ⟨g, og + k * 2 + 1, none⟩ = some (.slice sy ys.length sk)) (by kernel_rfl) (SA.out _ (Below.refl _ _).drew) (fun hS => ?_)
      have HY : Hid (Below wr.heap.size wr wr.drew) := (Below.refl _ _).drew
      revert hS HY
      generalize wr.drew = Y0
      intro hS HY
      refine tkH 0 (.pointer (some ⟨w.heap.size, 0, none⟩)) rfl (fun w' hw' => by obtain ⟨q0, q1, q2, q3, q4, q5, q6, q7, q8, q9, q10, q11, q12, q13⟩ := hw'; go_simp) hS ?_
      refine tkH 1 (mval p.m Pl) rfl (fun w' hw' => by obtain ⟨q0, q1, q2, q3, q4, q5, q6, q7, q8, q9, q10, q11, q12, q13⟩ := hw'; go_simp) hS ?_
      refine tkH 2 (.slice (some ⟨g, og, none⟩) l.length lc) rfl (fun w' hw' => by obtain ⟨q0, q1, q2, q3, q4, q5, q6, q7, q8, q9, q10, q11, q12, q13⟩ := hw'; go_simp) hS ?_
      refine tkH 3 (.int .i64 (k : Int)) rfl (fun w' hw' => by obtain ⟨q0, q1, q2, q3, q4, q5, q6, q7, q8, q9, q10, q11, q12, q13⟩ := hw'; go_simp) hS ?_
      refine tkH 4 (.pointer (some ⟨g, og + k * 2, none⟩)) rfl (fun w' hw' => by obtain ⟨q0, q1, q2, q3, q4, q5, q6, q7, q8, q9, q10, q11, q12, q13⟩ := hw'; go_simp) hS ?_
      refine tkH 5 (.pointer (some ⟨g, og + k * 2, none⟩)) rfl (fun w' hw' => by obtain ⟨q0, q1, q2, q3, q4, q5, q6, q7, q8, q9, q10, q11, q12, q13⟩ := hw'; go_simp) hS ?_
      refine tkH 6 (.int .i64 ym) rfl (fun w' hw' => by obtain ⟨q0, q1, q2, q3, q4, q5, q6, q7, q8, q9, q10, q11, q12, q13⟩ := hw'; go_simp) hS ?_
      refine tkH 8 (.int .i64 (j : Int)) rfl (fun w' hw' => by obtain ⟨q0, q1, q2, q3, q4, q5, q6, q7, q8, q9, q10, q11, q12, q13⟩ := hw'; go_simp) hS ?_
      simp only [Act.put, List.setIfInBounds_toArray]
      refine wpAnyH_ready (rs := [7]) (by kernel_rfl) (by simp) ?_
      refine AllReadyH.cons rfl (fun K' hK' => ?_) AllReadyH.nil
      clear hS
      go_simp
      have hb : Below Y0.heap.size Y0 (Y0.alloc (.cells #[.int .i64 ym] 3)) := (Below.refl _ _).alloc (Nat.le_refl _) _
      have A1 : Hid (At (Y0.alloc (.cells #[.int .i64 ym] 3)) (some ⟨Y0.heap.size, 0, none⟩) [ym]) := at_one15 Y0 ym
      replace HY := Hid.of (HY.out.trans (hb.mono HY.out.size))
      refine hK'.out _ _ (SA.out _ HY.out) (fun hS => ?_)
      clear hK' K' hb
      revert A1 HY hS
      generalize Y0.alloc (.cells #[.int .i64 ym] 3) = Y1
      generalize Y0.heap.size = sb
      intro A1 HY hS
      refine wpAnyH_ready (rs := [9]) (by kernel_rfl) (by simp) ?_
      refine AllReadyH.cons rfl (fun K' hK' => ?_) AllReadyH.nil
      clear hS
      go_simp
      refine (refStep_any p.m Pl (some ⟨sb, 0, none⟩) 1 [ym] (j : Int) Y1 (hp.out.below (HW0B.out.trans (HY.out.mono HW0B.out.size)) (Nat.le_refl _)).m.a (by have := hl1.out; omega) A1.out (by show 1 ≤ maxLen; decide)).mono ?_
      rw [← HTO.out]
      rintro e1 Y2 ⟨ua, uc, rfl, -, -, hb⟩
      replace HY := Hid.of (HY.out.trans (hb.mono HY.out.size))
      refine hK'.out _ _ (SA.out _ HY.out) (fun hS => ?_)
      clear hK' K' hb A1
      refine tkH 10 (.slice ua to.length uc) rfl (fun w' hw' => by obtain ⟨q0, q1, q2, q3, q4, q5, q6, q7, q8, q9, q10, q11, q12, q13⟩ := hw'; go_simp) hS ?_
      refine wpAnyH_done (by kernel_rfl) ?_ _
      clear hS
      go_wp2_with fail
      replace HYV := Hid.of (HYV.out.trans (HY.out.mono HYV.out.size))
      clear HY SA HW0B HY0
      revert HYV
      generalize Y2 = W1
      intro HYV
      have HY0 := HYV
      have HW0B := Hid.of (HVB.out.trans (HYV.out.mono HVB.out.size))
      have I1 := Hid.of (J1.out.below HYV.out (Nat.le_refl _))
      have HNW : Hid (n ≤ W1.heap.size) := Nat.le_trans hnw.out HW0B.out.size
      have SA : Hid (∀ W, Below W1.heap.size W1 W → W.cell? ⟨w.heap.size, 0, none⟩ = some (.int .i64 p.m.st) ∧ W.cell? ⟨w.heap.size, 1, none⟩ = some (.int .i64 p.m.ev) ∧ W.cell? ⟨w.heap.size, 2, none⟩ = some (.slice Pl.a1 p.m.starts.length Pl.c1) ∧ W.cell? ⟨w.heap.size, 3, none⟩ = some (.slice Pl.a2 p.m.arrows.length Pl.c2) ∧ W.cell? ⟨w.heap.size, 4, none⟩ = some (.slice Pl.a3 p.m.ends.length Pl.c3) ∧ W.cell? ⟨w.heap.size, 5, none⟩ = some (.slice sa p.seen.length sc) ∧ W.cell? ⟨w.heap.size, 6, none⟩ = some (.slice ta p.secret.length tc) ∧ W.cell? ⟨w.heap.size + 1, 0, none⟩ = some (.int .i64 o.st) ∧ W.cell? ⟨w.heap.size + 1, 1, none⟩ = some (.int .i64 o.ev) ∧ W.cell? ⟨w.heap.size + 1, 2, none⟩ = some (.slice lo.a1 o.starts.length lo.c1) ∧ W.cell? ⟨w.heap.size + 1, 3, none⟩ = some (.slice lo.a2 o.arrows.length lo.c2) ∧ W.cell? ⟨w.heap.size + 1, 4, none⟩ = some (.slice lo.a3 o.ends.length lo.c3) ∧ W.cell? ⟨g, og + k * 2, none⟩ = some (.int .i64 ym) ∧ W.cell? ⟨g, og + k * 2 + 1, none⟩ = some (.slice sy ys.length sk)) := fun W hb => by
       have q := HY0.out.trans (hb.mono HY0.out.size)
       obtain ⟨x0, x1, x2, x3, x4, x5, x6⟩ := ptcell_at (KP.out.below q KP.out.lt)
       obtain ⟨y0, y1, y2, y3, y4⟩ := mcell_at (KO.out.below q KO.out.lt)
       exact ⟨x0, x1, x2, x3, x4, x5, x6, y0, y1, y2, y3, y4, (q.cell (p := ⟨g, og + k * 2, none⟩) HG.out).trans C1.out, (q.cell (p := ⟨g, og + k * 2 + 1, none⟩) HG.out).trans C2.out⟩
      cases hon : onO p o (ym, ys) (j : Int) with
      | none =>
       have HON := Hid.of hon
       clear hon
       refine wp_region_held_drew (S := fun w' => w'.cell? ⟨w.heap.size, 0, none⟩ = some (.int .i64 p.m.st) ∧ w'.cell? ⟨w.heap.size, 1, none⟩ = some (.int .i64 p.m.ev) ∧ w'.cell? ⟨w.heap.size, 2, none⟩ = some (.slice Pl.a1 p.m.starts.length Pl.c1) ∧ w'.cell? ⟨w.heap.size, 3, none⟩ = some (.slice Pl.a2 p.m.arrows.length Pl.c2) ∧ w'.cell? ⟨w.heap.size, 4, none⟩ = some (.slice Pl.a3 p.m.ends.length Pl.c3) ∧ w'.cell? ⟨w.heap.size, 5, none⟩ = some (.slice sa p.seen.length sc) ∧ w'.cell? ⟨w.heap.size, 6, none⟩ = some (.slice ta p.secret.length tc) ∧ w'.cell? ⟨w.heap.size + 1, 0, none⟩ = some (.int .i64 o.st) ∧ w'.cell? ⟨w.heap.size + 1, 1, none⟩ = some (.int .i64 o.ev) ∧ w'.cell? ⟨w.heap.size + 1, 2, none⟩ = some (.slice lo.a1 o.starts.length lo.c1) ∧ w'.cell? ⟨w.heap.size + 1, 3, none⟩ = some (.slice lo.a2 o.arrows.length lo.c2) ∧ w'.cell? ⟨w.heap.size + 1, 4, none⟩ = some (.slice lo.a3 o.ends.length lo.c3) ∧ w'.cell? ⟨g, og + k * 2, none⟩ = some (.int .i64 ym) ∧ w'.cell? ⟨g, og + k * 2 + 1, none⟩ = some (.slice sy ys.length sk)) (by kernel_rfl) (SA.out _ (Below.refl _ _).drew) (fun hS => ?_)
       have HY : Hid (Below W1.heap.size W1 W1.drew) := (Below.refl _ _).drew
       revert hS HY
       generalize W1.drew = Y0
       intro hS HY
       refine tkH 0 (ptval p ⟨Pl, sa, sc, ta, tc⟩) rfl (fun w' hw' => by obtain ⟨q0, q1, q2, q3, q4, q5, q6, q7, q8, q9, q10, q11, q12, q13⟩ := hw'; go_simp) hS ?_
       refine tkH 1 (mval o lo) rfl (fun w' hw' => by obtain ⟨q0, q1, q2, q3, q4, q5, q6, q7, q8, q9, q10, q11, q12, q13⟩ := hw'; go_simp) hS ?_
       refine tkH 2 (.slice (some ⟨g, og, none⟩) l.length lc) rfl (fun w' hw' => by obtain ⟨q0, q1, q2, q3, q4, q5, q6, q7, q8, q9, q10, q11, q12, q13⟩ := hw'; go_simp) hS ?_
       refine tkH 3 (.int .i64 (k : Int)) rfl (fun w' hw' => by obtain ⟨q0, q1, q2, q3, q4, q5, q6, q7, q8, q9, q10, q11, q12, q13⟩ := hw'; go_simp) hS ?_
       refine tkH 4 (.pointer (some ⟨g, og + k * 2, none⟩)) rfl (fun w' hw' => by obtain ⟨q0, q1, q2, q3, q4, q5, q6, q7, q8, q9, q10, q11, q12, q13⟩ := hw'; go_simp) hS ?_
       refine tkH 5 (.agg #[.int .i64 ym, .slice sy ys.length sk]) rfl (fun w' hw' => by obtain ⟨q0, q1, q2, q3, q4, q5, q6, q7, q8, q9, q10, q11, q12, q13⟩ := hw'; go_simp) hS ?_
       refine tkH 6 (.int .i64 (j : Int)) rfl (fun w' hw' => by obtain ⟨q0, q1, q2, q3, q4, q5, q6, q7, q8, q9, q10, q11, q12, q13⟩ := hw'; go_simp) hS ?_
       simp only [Act.put, List.setIfInBounds_toArray]
       refine wpAnyH_ready (rs := [7, 11]) (by kernel_rfl) (by simp) ?_
       refine AllReadyH.cons rfl (fun K' hK' => ?_) (AllReadyH.cons rfl (fun K' hK' => ?_) AllReadyH.nil)
       ·clear hS
        go_simp
        refine (ron_any p Pl sa sc ta tc o lo ym sy sk ys (j : Int) Y0 (Hid.of (hp.out.below (HW0B.out.trans (HY.out.mono HW0B.out.size)) (Nat.le_refl _))) (Hid.of (ho.out.below (HW0B.out.trans (HY.out.mono HW0B.out.size)) (Nat.le_refl _))) (Hid.of (I1.out.below HY.out (Nat.le_refl _))) I2 hl1 hl2).mono ?_
        rintro e1 Y1 hO
        rw [HON.out] at hO
        obtain ⟨rfl, hb⟩ := hO
        replace HY := Hid.of (HY.out.trans (hb.mono HY.out.size))
        refine hK'.out _ _ (SA.out _ HY.out) (fun hS => ?_)
        clear hK' K' hb
        refine tkH 8 (.tuple #[.agg #[.int .i64 0, .slice none 0 0], .bool false]) rfl (fun w' hw' => by obtain ⟨q0, q1, q2, q3, q4, q5, q6, q7, q8, q9, q10, q11, q12, q13⟩ := hw'; go_simp) hS ?_
        refine tkH 9 (.agg #[.int .i64 0, .slice none 0 0]) rfl (fun w' hw' => by obtain ⟨q0, q1, q2, q3, q4, q5, q6, q7, q8, q9, q10, q11, q12, q13⟩ := hw'; go_simp) hS ?_
        refine tkH 10 (.bool false) rfl (fun w' hw' => by obtain ⟨q0, q1, q2, q3, q4, q5, q6, q7, q8, q9, q10, q11, q12, q13⟩ := hw'; go_simp) hS ?_
        refine wpAnyH_ready (rs := [11]) (by kernel_rfl) (by simp) ?_
        refine AllReadyH.cons rfl (fun K' hK' => ?_) AllReadyH.nil
        clear hS
        go_simp
        have hb : Below Y1.heap.size Y1 (Y1.alloc (.cells #[.int .i64 0, .slice none 0 0] 135)) := (Below.refl _ _).alloc (Nat.le_refl _) _
        have KX := Hid.of (Blk.new Y1 135 #[.int .i64 0, .slice none 0 0])
        have HPB : Hid (W1.heap.size ≤ Y1.heap.size) := HY.out.size
        replace HY := Hid.of (HY.out.trans (hb.mono HY.out.size))
        refine hK'.out _ _ (SA.out _ HY.out) (fun hS => ?_)
        clear hK' K' hb
        revert KX HPB HY hS
        generalize Y1.alloc (.cells #[.int .i64 0, .slice none 0 0] 135) = Y2
        generalize Y1.heap.size = pb
        intro KX HPB HY hS
        refine wpAnyH_ready (rs := [12]) (by kernel_rfl) (by simp) ?_
        refine AllReadyH.cons rfl (fun K' hK' => ?_) AllReadyH.nil
        clear hS
        have f := KX.out.frozen
        have r0 := KX.out.cell 0 rfl
        have r1 := KX.out.cell 1 rfl
        go_simp
        replace HY := Hid.of (below_set2 HY.out HPB.out (.int .i64 0) (.slice none 0 0))
        replace KX := Hid.of ((KX.out.set 0 (.int .i64 0)).set 1 (.slice none 0 0))
        refine hK'.out _ _ (SA.out _ HY.out) (fun hS => ?_)
        clear hK' K' f r0 r1
        revert HY KX hS
        generalize (Y2.setCell ⟨pb, 0, none⟩ (.int .i64 0)).setCell ⟨pb, 1, none⟩ (.slice none 0 0) = Y3
        intro HY KX hS
        refine tkH 13 (.bool false) rfl (fun w' hw' => by obtain ⟨q0, q1, q2, q3, q4, q5, q6, q7, q8, q9, q10, q11, q12, q13⟩ := hw'; go_simp) hS ?_
        refine wpAnyH_done (by kernel_rfl) ?_ _
        clear hS
        have HZ := Hid.of (HYV.out.trans (HY.out.mono HYV.out.size))
        clear HY KX HPB
        by_cases h1 : to.length = 1
        ·have d1 : ((to.length : Int) == 1) = true := by rw [h1]; rfl
         cases hfr : fr with
         | true =>
          subst hfr
          have HNX : Hid (∀ i : Nat, i < j + 1 → okO p free o (ym, ys) (i : Int) = true) := fun i hi => by
           rcases Nat.lt_succ_iff_lt_or_eq.1 hi with q | q
           ·exact HJ.out i q
           ·rw [q]; exact okO_free HFR.out
          clear h1
          go_wp2_with fail
          refine (refHas_any fa fc free (j : Int) _ (hF.out.below (HVB.out.trans (HZ.out.mono HVB.out.size)) (Nat.le_refl _)) hFl.out).mono ?_
          rintro e1 Z ⟨rfl, rfl⟩
          rw [HFR.out]
          go_wp2_with fail
          go_roundw
          case rel => exact ⟨j + 1, by go_num, by omega, HNX, HZ⟩
          case measure => simp [intOf]; omega
         | false =>
          subst hfr
          have HNO : Hid (holdsO p free o l = false) := holdsO_no HCY.out (by have := HEV.out; omega) (okO_no (by rw [← HTO.out]; exact h1) HON.out HFR.out)
          clear h1
          go_wp2_with fail
          refine (refHas_any fa fc free (j : Int) _ (hF.out.below (HVB.out.trans (HZ.out.mono HVB.out.size)) (Nat.le_refl _)) hFl.out).mono ?_
          rintro e1 Z ⟨rfl, rfl⟩
          rw [HFR.out]
          go_wp2_with fail
          exact bodyPost_ret (v := .bool false) (by simp [results, go_sem]) rfl ⟨by rw [HNO.out], HVB.out.trans (HZ.out.mono HVB.out.size)⟩
        ·have d1 : ((to.length : Int) == 1) = false := by simpa using (by omega : (to.length : Int) ≠ 1)
         have HNX : Hid (∀ i : Nat, i < j + 1 → okO p free o (ym, ys) (i : Int) = true) := fun i hi => by
          rcases Nat.lt_succ_iff_lt_or_eq.1 hi with q | q
          ·exact HJ.out i q
          ·rw [q]; exact okO_many (by rw [← HTO.out]; exact h1)
         clear h1
         go_wp2_with fail
         go_roundw
         case rel => exact ⟨j + 1, by go_num, by omega, HNX, HZ⟩
         case measure => simp [intOf]; omega
       ·clear hS
        go_simp
        have hb : Below Y0.heap.size Y0 (Y0.alloc (.cells #[.int .i64 0, .slice none 0 0] 135)) := (Below.refl _ _).alloc (Nat.le_refl _) _
        have KX := Hid.of (Blk.new Y0 135 #[.int .i64 0, .slice none 0 0])
        have HPB : Hid (W1.heap.size ≤ Y0.heap.size) := HY.out.size
        replace HY := Hid.of (HY.out.trans (hb.mono HY.out.size))
        refine hK'.out _ _ (SA.out _ HY.out) (fun hS => ?_)
        clear hK' K' hb
        revert KX HPB HY hS
        generalize Y0.alloc (.cells #[.int .i64 0, .slice none 0 0] 135) = Y4
        generalize Y0.heap.size = pb
        intro KX HPB HY hS
        refine wpAnyH_ready (rs := [7]) (by kernel_rfl) (by simp) ?_
        refine AllReadyH.cons rfl (fun K' hK' => ?_) AllReadyH.nil
        clear hS
        go_simp
        refine (ron_any p Pl sa sc ta tc o lo ym sy sk ys (j : Int) Y4 (Hid.of (hp.out.below (HW0B.out.trans (HY.out.mono HW0B.out.size)) (Nat.le_refl _))) (Hid.of (ho.out.below (HW0B.out.trans (HY.out.mono HW0B.out.size)) (Nat.le_refl _))) (Hid.of (I1.out.below HY.out (Nat.le_refl _))) I2 hl1 hl2).mono ?_
        rintro e1 Y5 hO
        rw [HON.out] at hO
        obtain ⟨rfl, hb⟩ := hO
        replace HY := Hid.of (HY.out.trans (hb.mono HY.out.size))
        replace KX := Hid.of (KX.out.below hb KX.out.lt)
        refine hK'.out _ _ (SA.out _ HY.out) (fun hS => ?_)
        clear hK' K' hb
        refine tkH 8 (.tuple #[.agg #[.int .i64 0, .slice none 0 0], .bool false]) rfl (fun w' hw' => by obtain ⟨q0, q1, q2, q3, q4, q5, q6, q7, q8, q9, q10, q11, q12, q13⟩ := hw'; go_simp) hS ?_
        refine tkH 9 (.agg #[.int .i64 0, .slice none 0 0]) rfl (fun w' hw' => by obtain ⟨q0, q1, q2, q3, q4, q5, q6, q7, q8, q9, q10, q11, q12, q13⟩ := hw'; go_simp) hS ?_
        refine tkH 10 (.bool false) rfl (fun w' hw' => by obtain ⟨q0, q1, q2, q3, q4, q5, q6, q7, q8, q9, q10, q11, q12, q13⟩ := hw'; go_simp) hS ?_
        refine wpAnyH_ready (rs := [12]) (by kernel_rfl) (by simp) ?_
        refine AllReadyH.cons rfl (fun K' hK' => ?_) AllReadyH.nil
        clear hS
        have f := KX.out.frozen
        have r0 := KX.out.cell 0 rfl
        have r1 := KX.out.cell 1 rfl
        go_simp
        replace HY := Hid.of (below_set2 HY.out HPB.out (.int .i64 0) (.slice none 0 0))
        replace KX := Hid.of ((KX.out.set 0 (.int .i64 0)).set 1 (.slice none 0 0))
        refine hK'.out _ _ (SA.out _ HY.out) (fun hS => ?_)
        clear hK' K' f r0 r1
        revert HY KX hS
        generalize (Y5.setCell ⟨pb, 0, none⟩ (.int .i64 0)).setCell ⟨pb, 1, none⟩ (.slice none 0 0) = Y6
        intro HY KX hS
        refine tkH 13 (.bool false) rfl (fun w' hw' => by obtain ⟨q0, q1, q2, q3, q4, q5, q6, q7, q8, q9, q10, q11, q12, q13⟩ := hw'; go_simp) hS ?_
        refine wpAnyH_done (by kernel_rfl) ?_ _
        clear hS
        have HZ := Hid.of (HYV.out.trans (HY.out.mono HYV.out.size))
        clear HY KX HPB
        by_cases h1 : to.length = 1
        ·have d1 : ((to.length : Int) == 1) = true := by rw [h1]; rfl
         cases hfr : fr with
         | true =>
          subst hfr
          have HNX : Hid (∀ i : Nat, i < j + 1 → okO p free o (ym, ys) (i : Int) = true) := fun i hi => by
           rcases Nat.lt_succ_iff_lt_or_eq.1 hi with q | q
           ·exact HJ.out i q
           ·rw [q]; exact okO_free HFR.out
          clear h1
          go_wp2_with fail
          refine (refHas_any fa fc free (j : Int) _ (hF.out.below (HVB.out.trans (HZ.out.mono HVB.out.size)) (Nat.le_refl _)) hFl.out).mono ?_
          rintro e1 Z ⟨rfl, rfl⟩
          rw [HFR.out]
          go_wp2_with fail
          go_roundw
          case rel => exact ⟨j + 1, by go_num, by omega, HNX, HZ⟩
          case measure => simp [intOf]; omega
         | false =>
          subst hfr
          have HNO : Hid (holdsO p free o l = false) := holdsO_no HCY.out (by have := HEV.out; omega) (okO_no (by rw [← HTO.out]; exact h1) HON.out HFR.out)
          clear h1
          go_wp2_with fail
          refine (refHas_any fa fc free (j : Int) _ (hF.out.below (HVB.out.trans (HZ.out.mono HVB.out.size)) (Nat.le_refl _)) hFl.out).mono ?_
          rintro e1 Z ⟨rfl, rfl⟩
          rw [HFR.out]
          go_wp2_with fail
          exact bodyPost_ret (v := .bool false) (by simp [results, go_sem]) rfl ⟨by rw [HNO.out], HVB.out.trans (HZ.out.mono HVB.out.size)⟩
        ·have d1 : ((to.length : Int) == 1) = false := by simpa using (by omega : (to.length : Int) ≠ 1)
         have HNX : Hid (∀ i : Nat, i < j + 1 → okO p free o (ym, ys) (i : Int) = true) := fun i hi => by
          rcases Nat.lt_succ_iff_lt_or_eq.1 hi with q | q
          ·exact HJ.out i q
          ·rw [q]; exact okO_many (by rw [← HTO.out]; exact h1)
         clear h1
         go_wp2_with fail
         go_roundw
         case rel => exact ⟨j + 1, by go_num, by omega, HNX, HZ⟩
         case measure => simp [intOf]; omega
      | some zz =>
       obtain ⟨zm, zs⟩ := zz
       have HON := Hid.of hon
       clear hon
       refine wp_region_held_drew (S := fun w' => w'.cell? ⟨w.heap.size, 0, none⟩ = some (.int .i64 p.m.st) ∧ w'.cell? ⟨w.heap.size, 1, none⟩ = some (.int .i64 p.m.ev) ∧ w'.cell? ⟨w.heap.size, 2, none⟩ = some (.slice Pl.a1 p.m.starts.length Pl.c1) ∧ w'.cell? ⟨w.heap.size, 3, none⟩ = some (.slice Pl.a2 p.m.arrows.length Pl.c2) ∧ w'.cell? ⟨w.heap.size, 4, none⟩ = some (.slice Pl.a3 p.m.ends.length Pl.c3) ∧ w'.cell? ⟨w.heap.size, 5, none⟩ = some (.slice sa p.seen.length sc) ∧ w'.cell? ⟨w.heap.size, 6, none⟩ = some (.slice ta p.secret.length tc) ∧ w'.cell? ⟨w.heap.size + 1, 0, none⟩ = some (.int .i64 o.st) ∧ w'.cell? ⟨w.heap.size + 1, 1, none⟩ = some (.int .i64 o.ev) ∧ w'.cell? ⟨w.heap.size + 1, 2, none⟩ = some (.slice lo.a1 o.starts.length lo.c1) ∧ w'.cell? ⟨w.heap.size + 1, 3, none⟩ = some (.slice lo.a2 o.arrows.length lo.c2) ∧ w'.cell? ⟨w.heap.size + 1, 4, none⟩ = some (.slice lo.a3 o.ends.length lo.c3) ∧ w'.cell? ⟨g, og + k * 2, none⟩ = some (.int .i64 ym) ∧ w'.cell? ⟨g, og + k * 2 + 1, none⟩ = some (.slice sy ys.length sk)) (by kernel_rfl) (SA.out _ (Below.refl _ _).drew) (fun hS => ?_)
       have HY : Hid (Below W1.heap.size W1 W1.drew) := (Below.refl _ _).drew
       revert hS HY
       generalize W1.drew = Y0
       intro hS HY
       refine tkH 0 (ptval p ⟨Pl, sa, sc, ta, tc⟩) rfl (fun w' hw' => by obtain ⟨q0, q1, q2, q3, q4, q5, q6, q7, q8, q9, q10, q11, q12, q13⟩ := hw'; go_simp) hS ?_
       refine tkH 1 (mval o lo) rfl (fun w' hw' => by obtain ⟨q0, q1, q2, q3, q4, q5, q6, q7, q8, q9, q10, q11, q12, q13⟩ := hw'; go_simp) hS ?_
       refine tkH 2 (.slice (some ⟨g, og, none⟩) l.length lc) rfl (fun w' hw' => by obtain ⟨q0, q1, q2, q3, q4, q5, q6, q7, q8, q9, q10, q11, q12, q13⟩ := hw'; go_simp) hS ?_
       refine tkH 3 (.int .i64 (k : Int)) rfl (fun w' hw' => by obtain ⟨q0, q1, q2, q3, q4, q5, q6, q7, q8, q9, q10, q11, q12, q13⟩ := hw'; go_simp) hS ?_
       refine tkH 4 (.pointer (some ⟨g, og + k * 2, none⟩)) rfl (fun w' hw' => by obtain ⟨q0, q1, q2, q3, q4, q5, q6, q7, q8, q9, q10, q11, q12, q13⟩ := hw'; go_simp) hS ?_
       refine tkH 5 (.agg #[.int .i64 ym, .slice sy ys.length sk]) rfl (fun w' hw' => by obtain ⟨q0, q1, q2, q3, q4, q5, q6, q7, q8, q9, q10, q11, q12, q13⟩ := hw'; go_simp) hS ?_
       refine tkH 6 (.int .i64 (j : Int)) rfl (fun w' hw' => by obtain ⟨q0, q1, q2, q3, q4, q5, q6, q7, q8, q9, q10, q11, q12, q13⟩ := hw'; go_simp) hS ?_
       simp only [Act.put, List.setIfInBounds_toArray]
       refine wpAnyH_ready (rs := [7, 11]) (by kernel_rfl) (by simp) ?_
       refine AllReadyH.cons rfl (fun K' hK' => ?_) (AllReadyH.cons rfl (fun K' hK' => ?_) AllReadyH.nil)
       ·clear hS
        go_simp
        refine (ron_any p Pl sa sc ta tc o lo ym sy sk ys (j : Int) Y0 (Hid.of (hp.out.below (HW0B.out.trans (HY.out.mono HW0B.out.size)) (Nat.le_refl _))) (Hid.of (ho.out.below (HW0B.out.trans (HY.out.mono HW0B.out.size)) (Nat.le_refl _))) (Hid.of (I1.out.below HY.out (Nat.le_refl _))) I2 hl1 hl2).mono ?_
        rintro e1 Y1 hO
        rw [HON.out] at hO
        obtain ⟨za, zc, rfl, hiz, hb⟩ := hO
        have OZ := Hid.of (hiz n)
        replace HY := Hid.of (HY.out.trans (hb.mono HY.out.size))
        refine hK'.out _ _ (SA.out _ HY.out) (fun hS => ?_)
        clear hK' K' hb hiz
        refine tkH 8 (.tuple #[.agg #[.int .i64 zm, .slice za zs.length zc], .bool true]) rfl (fun w' hw' => by obtain ⟨q0, q1, q2, q3, q4, q5, q6, q7, q8, q9, q10, q11, q12, q13⟩ := hw'; go_simp) hS ?_
        refine tkH 9 (.agg #[.int .i64 zm, .slice za zs.length zc]) rfl (fun w' hw' => by obtain ⟨q0, q1, q2, q3, q4, q5, q6, q7, q8, q9, q10, q11, q12, q13⟩ := hw'; go_simp) hS ?_
        refine tkH 10 (.bool true) rfl (fun w' hw' => by obtain ⟨q0, q1, q2, q3, q4, q5, q6, q7, q8, q9, q10, q11, q12, q13⟩ := hw'; go_simp) hS ?_
        refine wpAnyH_ready (rs := [11]) (by kernel_rfl) (by simp) ?_
        refine AllReadyH.cons rfl (fun K' hK' => ?_) AllReadyH.nil
        clear hS
        go_simp
        have hb : Below Y1.heap.size Y1 (Y1.alloc (.cells #[.int .i64 0, .slice none 0 0] 135)) := (Below.refl _ _).alloc (Nat.le_refl _) _
        have KX := Hid.of (Blk.new Y1 135 #[.int .i64 0, .slice none 0 0])
        have HPB : Hid (W1.heap.size ≤ Y1.heap.size) := HY.out.size
        replace OZ := Hid.of (OZ.out.below hb (Nat.le_trans HNW.out HY.out.size))
        replace HY := Hid.of (HY.out.trans (hb.mono HY.out.size))
        refine hK'.out _ _ (SA.out _ HY.out) (fun hS => ?_)
        clear hK' K' hb
        revert KX HPB OZ HY hS
        generalize Y1.alloc (.cells #[.int .i64 0, .slice none 0 0] 135) = Y2
        generalize Y1.heap.size = pb
        intro KX HPB OZ HY hS
        refine wpAnyH_ready (rs := [12]) (by kernel_rfl) (by simp) ?_
        refine AllReadyH.cons rfl (fun K' hK' => ?_) AllReadyH.nil
        clear hS
        have f := KX.out.frozen
        have r0 := KX.out.cell 0 rfl
        have r1 := KX.out.cell 1 rfl
        go_simp
        replace OZ := Hid.of (innW_box OZ.out (Nat.le_trans HNW.out HPB.out) KX.out (.int .i64 zm) (.slice za zs.length zc))
        replace HY := Hid.of (below_set2 HY.out HPB.out (.int .i64 zm) (.slice za zs.length zc))
        replace KX := Hid.of ((KX.out.set 0 (.int .i64 zm)).set 1 (.slice za zs.length zc))
        refine hK'.out _ _ (SA.out _ HY.out) (fun hS => ?_)
        clear hK' K' f r0 r1
        revert OZ HY KX hS
        generalize (Y2.setCell ⟨pb, 0, none⟩ (.int .i64 zm)).setCell ⟨pb, 1, none⟩ (.slice za zs.length zc) = Y3
        intro OZ HY KX hS
        refine tkH 13 (.bool true) rfl (fun w' hw' => by obtain ⟨q0, q1, q2, q3, q4, q5, q6, q7, q8, q9, q10, q11, q12, q13⟩ := hw'; go_simp) hS ?_
        refine wpAnyH_done (by kernel_rfl) ?_ _
        clear hS
        have HZ := Hid.of (HYV.out.trans (HY.out.mono HYV.out.size))
        clear HY KX HPB OZ
        by_cases h1 : to.length = 1
        ·have d1 : ((to.length : Int) == 1) = true := by rw [h1]; rfl
         have HNX : Hid (∀ i : Nat, i < j + 1 → okO p free o (ym, ys) (i : Int) = true) := fun i hi => by
          rcases Nat.lt_succ_iff_lt_or_eq.1 hi with q | q
          ·exact HJ.out i q
          ·rw [q]; exact okO_on (by rw [HON.out]; rfl)
         clear h1
         go_wp2_with fail
         go_roundw
         case rel => exact ⟨j + 1, by go_num, by omega, HNX, HZ⟩
         case measure => simp [intOf]; omega
        ·have d1 : ((to.length : Int) == 1) = false := by simpa using (by omega : (to.length : Int) ≠ 1)
         have HNX : Hid (∀ i : Nat, i < j + 1 → okO p free o (ym, ys) (i : Int) = true) := fun i hi => by
          rcases Nat.lt_succ_iff_lt_or_eq.1 hi with q | q
          ·exact HJ.out i q
          ·rw [q]; exact okO_many (by rw [← HTO.out]; exact h1)
         clear h1
         go_wp2_with fail
         go_roundw
         case rel => exact ⟨j + 1, by go_num, by omega, HNX, HZ⟩
         case measure => simp [intOf]; omega
       ·clear hS
        go_simp
        have hb : Below Y0.heap.size Y0 (Y0.alloc (.cells #[.int .i64 0, .slice none 0 0] 135)) := (Below.refl _ _).alloc (Nat.le_refl _) _
        have KX := Hid.of (Blk.new Y0 135 #[.int .i64 0, .slice none 0 0])
        have HPB : Hid (W1.heap.size ≤ Y0.heap.size) := HY.out.size
        replace HY := Hid.of (HY.out.trans (hb.mono HY.out.size))
        refine hK'.out _ _ (SA.out _ HY.out) (fun hS => ?_)
        clear hK' K' hb
        revert KX HPB HY hS
        generalize Y0.alloc (.cells #[.int .i64 0, .slice none 0 0] 135) = Y4
        generalize Y0.heap.size = pb
        intro KX HPB HY hS
        refine wpAnyH_ready (rs := [7]) (by kernel_rfl) (by simp) ?_
        refine AllReadyH.cons rfl (fun K' hK' => ?_) AllReadyH.nil
        clear hS
        go_simp
        refine (ron_any p Pl sa sc ta tc o lo ym sy sk ys (j : Int) Y4 (Hid.of (hp.out.below (HW0B.out.trans (HY.out.mono HW0B.out.size)) (Nat.le_refl _))) (Hid.of (ho.out.below (HW0B.out.trans (HY.out.mono HW0B.out.size)) (Nat.le_refl _))) (Hid.of (I1.out.below HY.out (Nat.le_refl _))) I2 hl1 hl2).mono ?_
        rintro e1 Y5 hO
        rw [HON.out] at hO
        obtain ⟨za, zc, rfl, hiz, hb⟩ := hO
        have OZ := Hid.of (hiz n)
        replace HY := Hid.of (HY.out.trans (hb.mono HY.out.size))
        replace KX := Hid.of (KX.out.below hb KX.out.lt)
        refine hK'.out _ _ (SA.out _ HY.out) (fun hS => ?_)
        clear hK' K' hb hiz
        refine tkH 8 (.tuple #[.agg #[.int .i64 zm, .slice za zs.length zc], .bool true]) rfl (fun w' hw' => by obtain ⟨q0, q1, q2, q3, q4, q5, q6, q7, q8, q9, q10, q11, q12, q13⟩ := hw'; go_simp) hS ?_
        refine tkH 9 (.agg #[.int .i64 zm, .slice za zs.length zc]) rfl (fun w' hw' => by obtain ⟨q0, q1, q2, q3, q4, q5, q6, q7, q8, q9, q10, q11, q12, q13⟩ := hw'; go_simp) hS ?_
        refine tkH 10 (.bool true) rfl (fun w' hw' => by obtain ⟨q0, q1, q2, q3, q4, q5, q6, q7, q8, q9, q10, q11, q12, q13⟩ := hw'; go_simp) hS ?_
        refine wpAnyH_ready (rs := [12]) (by kernel_rfl) (by simp) ?_
        refine AllReadyH.cons rfl (fun K' hK' => ?_) AllReadyH.nil
        clear hS
        have f := KX.out.frozen
        have r0 := KX.out.cell 0 rfl
        have r1 := KX.out.cell 1 rfl
        go_simp
        replace OZ := Hid.of (innW_box OZ.out (Nat.le_trans HNW.out HPB.out) KX.out (.int .i64 zm) (.slice za zs.length zc))
        replace HY := Hid.of (below_set2 HY.out HPB.out (.int .i64 zm) (.slice za zs.length zc))
        replace KX := Hid.of ((KX.out.set 0 (.int .i64 zm)).set 1 (.slice za zs.length zc))
        refine hK'.out _ _ (SA.out _ HY.out) (fun hS => ?_)
        clear hK' K' f r0 r1
        revert OZ HY KX hS
        generalize (Y5.setCell ⟨pb, 0, none⟩ (.int .i64 zm)).setCell ⟨pb, 1, none⟩ (.slice za zs.length zc) = Y6
        intro OZ HY KX hS
        refine tkH 13 (.bool true) rfl (fun w' hw' => by obtain ⟨q0, q1, q2, q3, q4, q5, q6, q7, q8, q9, q10, q11, q12, q13⟩ := hw'; go_simp) hS ?_
        refine wpAnyH_done (by kernel_rfl) ?_ _
        clear hS
        have HZ := Hid.of (HYV.out.trans (HY.out.mono HYV.out.size))
        clear HY KX HPB OZ
        by_cases h1 : to.length = 1
        ·have d1 : ((to.length : Int) == 1) = true := by rw [h1]; rfl
         have HNX : Hid (∀ i : Nat, i < j + 1 → okO p free o (ym, ys) (i : Int) = true) := fun i hi => by
          rcases Nat.lt_succ_iff_lt_or_eq.1 hi with q | q
          ·exact HJ.out i q
          ·rw [q]; exact okO_on (by rw [HON.out]; rfl)
         clear h1
         go_wp2_with fail
         go_roundw
         case rel => exact ⟨j + 1, by go_num, by omega, HNX, HZ⟩
         case measure => simp [intOf]; omega
        ·have d1 : ((to.length : Int) == 1) = false := by simpa using (by omega : (to.length : Int) ≠ 1)
         have HNX : Hid (∀ i : Nat, i < j + 1 → okO p free o (ym, ys) (i : Int) = true) := fun i hi => by
          rcases Nat.lt_succ_iff_lt_or_eq.1 hi with q | q
          ·exact HJ.out i q
          ·rw [q]; exact okO_many (by rw [← HTO.out]; exact h1)
         clear h1
         go_wp2_with fail
         go_roundw
         case rel => exact ⟨j + 1, by go_num, by omega, HNX, HZ⟩
         case measure => simp [intOf]; omega
     ·have hjD : decide ((j : Int) < p.m.ev) = false := by rw [HEV.out]; simp; omega
      have HAN : Hid (∀ (q : Nat) (x : PlO), q < k + 1 → l[q]? = some x → ∀ i : Nat, i < ev → okO p free o x (i : Int) = true) := fun q x hq hx i hi => by
       rcases Nat.lt_succ_iff_lt_or_eq.1 hq with c | c
       ·exact HAL.out q x c hx i hi
       ·rw [c, HCY.out] at hx
        cases hx
        exact HJ.out i (by omega)
      go_wp2_with fail
      go_roundw
      case rel => exact ⟨k + 1, (by rw [HBN.out]; simp), by go_num, by omega, HAN, HYV⟩
      case measure => simp [intOf]; omega
  ·have hkD : decide ((k : Int) < (l.length : Int)) = false := by simp; omega
   have hke : k = l.length := by omega
   subst hke
   have HE : Hid (holdsO p free o l = (opnO p l l.length || decide (l.length = 0))) := holdsO_end HEV.out (fun q x hq hx => HAL.out q x hq hx)
   have HWB := Hid.of (HVB.out.trans (HYV.out.mono HVB.out.size))
   cases hb0 : opnO p l l.length with
   | true =>
    rw [hb0] at HE
    clear hb0 hlt hk
    go_wp2_with fail
    exact bodyPost_ret (v := .bool true) (by simp [results, go_sem]) rfl ⟨by rw [HE.out]; rfl, HWB.out⟩
   | false =>
    rw [hb0] at HE
    clear hb0 hlt hk
    obtain ⟨em, HEM⟩ : ∃ em, Hid (em = decide (l.length = 0)) := ⟨_, rfl⟩
    have d0 : ((l.length : Int) == 0) = em := by
     rw [HEM.out]
     by_cases q : l.length = 0
     ·rw [q]; rfl
     ·rw [decide_eq_false q]; exact beq_eq_false_iff_ne.2 (by omega)
    go_wp2_with fail
    exact bodyPost_ret (v := .bool em) (by simp [results, go_sem]) rfl ⟨by rw [HE.out, HEM.out, Bool.false_or], HWB.out⟩

end Go.Proofs.YtkodmnooibpflaaDoor
