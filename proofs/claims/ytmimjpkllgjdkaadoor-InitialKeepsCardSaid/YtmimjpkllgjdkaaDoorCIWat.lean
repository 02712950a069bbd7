/-
  The walk of initial.watch.
-/
import Derived.Deep.RegionHeld3
import Derived.Test.YtmimjpkllgjdkaaDoorG35
import Derived.Test.YtmimjpkllgjdkaaDoorG27
import Derived.Test.YtmimjpkllgjdkaaDoorG15
namespace Go.Proofs.YtmimjpkllgjdkaaDoor
open Go.RowKit
set_option linter.unusedVariables false

/-- The closure that goes one event back. -/
abbrev backV (pa : Nat) : Value := .func (.func 114) #[] #[.pointer (some ⟨pa, 0, none⟩)]

set_option maxRecDepth 100000 in
theorem zero_ti : ∀ e n j, e < 8 → n < 6 → j < 4 → Tryd.zeroCells138[e * 24 + n * 4 + j]? = some (.int .u64 (zeroS j)) := by
  have hz : Tryd.zeroCells138 = Array.replicate 192 (Value.int .u64 0) := by kernel_rfl
  intro e n j he hn hj
  rw [hz, Array.getElem?_replicate, if_pos (by omega)]
  rfl

set_option maxRecDepth 100000 in
set_option maxHeartbeats 8000000 in
theorem iwatch_bad (p : Plant) (P : PTL) (w : World) (h : Hid (PAt w p P)) (hp : Hid (mayP p = false)) :
    Calls Tryd.prog 82 #[ptval p P] w fun e w' => e = .returned (.tuple #[.nilFunc, .int .i64 2]) ∧ Below w.heap.size w w' := by
  have B : Hid (Below w.heap.size w (w.alloc (.cells (ptcells p P) 44))) := (Below.refl _ _).alloc (Nat.le_refl _) _
  have KP : Hid (Blk (w.alloc (.cells (ptcells p P) 44)) w.heap.size 44 (ptcells p P)) := Blk.new w _ _
  go_enter Tryd.func82, Tryd.ntmps82
  obtain ⟨x0, x1, x2, x3, x4, x5, x6⟩ := ptcell_at KP.out
  go_wp2_with fail
  clear x0 x1 x2 x3 x4 x5 x6
  revert B KP
  generalize (w.alloc (.cells (ptcells p P) 44)) = V0
  intro B KP
  refine (pCurMay_any p P V0 (h.out.below B.out (Nat.le_refl _))).mono ?_
  rintro e W1 ⟨rfl, hb⟩
  replace B := Hid.of (B.out.trans (hb.mono B.out.size))
  clear hb
  rw [hp.out]
  go_wp2_with fail
  exact bodyPost_ret (v := .tuple #[.nilFunc, .int .i64 2]) (by simp [results, go_sem]) rfl ⟨rfl, B.out⟩

set_option maxRecDepth 100000 in
set_option maxHeartbeats 8000000 in
theorem iwatch_ok (p : Plant) (Pl : ML) (sa : Option Addr) (sc : Nat) (ta : Option Addr) (tc : Nat) (w : World) (h : Hid (PAt w p ⟨Pl, sa, sc, ta, tc⟩)) (hT : Hid (Tab w)) (hp : Hid (mayP p = true)) :
    Calls Tryd.prog 82 #[ptval p ⟨Pl, sa, sc, ta, tc⟩] w fun e w' => ∃ pa, e = .returned (.tuple #[backV pa, .int .i64 0]) ∧ TI w' pa (baT p) ∧ Below w.heap.size w w' := by
  have hmf : ∀ (fn : Fn) (first cap : Array Value) (w : World), (Instr.makeFunc fn first cap).run Tryd.prog w = .ok (.func fn first cap) w := fun _ _ _ _ => rfl
  obtain ⟨hm, z6, hr, -⟩ := (mayP_iff p).1 hp.out
  have hz := mayB_size hm
  unfold sizeOk at hz
  have hrow := (rowB_iff _ (by omega) _).1 hr
  have hft := hide_small hm z6 hr
  have HMH := Hid.of (may_hide hm hr hft)
  have HI : Hid (∀ a ∈ (hideM p.m p.seen).arrows, 0 ≤ a.f ∧ a.f < 6 ∧ 0 ≤ a.e ∧ a.e < (p.seen.length : Int) ∧ 0 ≤ a.t ∧ a.t < 6) := fun a ha => by
    have := may_arrs HMH.out a ha
    have e1 : (hideM p.m p.seen).st = p.m.st := rfl
    have e2 : (hideM p.m p.seen).ev = (p.seen.length : Int) := rfl
    unfold arrIn at this
    omega
  have HS : Hid (∀ k : Nat, k < p.seen.length → 0 ≤ p.seen[k]?.getD 0 ∧ p.seen[k]?.getD 0 < 8) := fun k hk => by
    rw [List.getElem?_eq_getElem hk, Option.getD_some]
    have := hrow.2 _ (List.getElem_mem hk)
    omega
  have HMM := Hid.of hm
  have HRR := Hid.of hr
  have HFT := Hid.of hft
  clear hm hr hft z6 hz hrow
  have B : Hid (Below w.heap.size w (w.alloc (.cells (ptcells p ⟨Pl, sa, sc, ta, tc⟩) 44))) := (Below.refl _ _).alloc (Nat.le_refl _) _
  have KP : Hid (Blk (w.alloc (.cells (ptcells p ⟨Pl, sa, sc, ta, tc⟩) 44)) w.heap.size 44 (ptcells p ⟨Pl, sa, sc, ta, tc⟩)) := Blk.new w _ _
  go_enter Tryd.func82, Tryd.ntmps82
  obtain ⟨x0, x1, x2, x3, x4, x5, x6⟩ := ptcell_at KP.out
  go_wp2_with fail
  clear x0 x1 x2 x3 x4 x5 x6
  revert B KP
  generalize (w.alloc (.cells (ptcells p ⟨Pl, sa, sc, ta, tc⟩) 44)) = V0
  intro B KP
  refine (pCurMay_any p ⟨Pl, sa, sc, ta, tc⟩ V0 (h.out.below B.out (Nat.le_refl _))).mono ?_
  rintro e W1 ⟨rfl, hb⟩
  replace B := Hid.of (B.out.trans (hb.mono B.out.size))
  replace KP := Hid.of (KP.out.below hb KP.out.lt)
  clear hb
  rw [hp.out]
  obtain ⟨x0, x1, x2, x3, x4, x5, x6⟩ := ptcell_at KP.out
  go_wp2_with fail
  clear x0 x1 x2 x3 x4 x5 x6
  refine (hide_okp p.m Pl sa sc p.seen W1 (h.out.m.below B.out (Nat.le_refl _)) (h.out.s.at_.below B.out (Nat.le_refl _)) h.out.s.len (hT.out.below B.out hT.out.lt) HMM.out HRR.out HFT.out).mono ?_
  rintro e W2 ⟨Lh, rfl, mt, hb⟩
  replace B := Hid.of (B.out.trans (hb.mono B.out.size))
  replace KP := Hid.of (KP.out.below hb KP.out.lt)
  clear hb
  have HBT : Hid (∀ T, T = tabK (frI p.seen) Arr.f (hideM p.m p.seen).arrows → T = baT p) := fun T hT => hT
  obtain ⟨M, HM⟩ : ∃ M, Hid (M = hideM p.m p.seen) := ⟨_, rfl⟩
  rw [← HM.out] at mt HMH HI HBT
  rw [← HM.out]
  obtain ⟨a1, c1, a2, c2, a3, c3⟩ := Lh
  have hb : Below W2.heap.size W2 (W2.alloc (.cells (mcells M ⟨a1, c1, a2, c2, a3, c3⟩) 25)) := (Below.refl _ _).alloc (Nat.le_refl _) _
  have MT := Hid.of (mt.below hb (Nat.le_refl _))
  have KM := Hid.of (Blk.new W2 25 (mcells M ⟨a1, c1, a2, c2, a3, c3⟩))
  have MT0 := mt
  clear hb mt
  have MT2 := Hid.of MT0
  have T0 : Hid (TI ((W2.alloc (.cells (mcells M ⟨a1, c1, a2, c2, a3, c3⟩) 25)).alloc (.cells Tryd.zeroCells138 138)) (W2.heap.size + 1) (tabK (frI p.seen) Arr.f (M.arrows.take 0))) := by
    have := Blk.new (W2.alloc (.cells (mcells M ⟨a1, c1, a2, c2, a3, c3⟩) 25)) 138 Tryd.zeroCells138
    rw [World.size_alloc] at this
    exact ⟨_, this, by kernel_rfl, zero_ti⟩
  have B2 : Hid (Below W2.heap.size W2 ((W2.alloc (.cells (mcells M ⟨a1, c1, a2, c2, a3, c3⟩) 25)).alloc (.cells Tryd.zeroCells138 138))) := ((Below.refl _ _).alloc (Nat.le_refl _) _).alloc (by simp) _
  obtain ⟨x0, x1, x2, x3, x4⟩ := mcell_at KM.out
  go_wp2_with fail
  clear x0 x1 x2 x3 x4 KM MT MT0
  revert T0 B2
  show Hid (TI ((W2.alloc (.cells #[.int .i64 M.st, .int .i64 M.ev, .slice a1 M.starts.length c1, .slice a2 M.arrows.length c2, .slice a3 M.ends.length c3] 25)).alloc (.cells Tryd.zeroCells138 138)) (W2.heap.size + 1) (tabK (frI p.seen) Arr.f (M.arrows.take 0))) → Hid (Below W2.heap.size W2 ((W2.alloc (.cells #[.int .i64 M.st, .int .i64 M.ev, .slice a1 M.starts.length c1, .slice a2 M.arrows.length c2, .slice a3 M.ends.length c3] 25)).alloc (.cells Tryd.zeroCells138 138))) → _
  generalize (W2.alloc (.cells #[.int .i64 M.st, .int .i64 M.ev, .slice a1 M.starts.length c1, .slice a2 M.arrows.length c2, .slice a3 M.ends.length c3] 25)).alloc (.cells Tryd.zeroCells138 138) = X0
  intro T0 B2
  have hpa : Hid (W2.heap.size ≤ W2.heap.size + 1) := Nat.le_succ _
  have hpl : Hid (w.heap.size < W2.heap.size) := KP.out.lt
  revert T0 hpa
  generalize W2.heap.size + 1 = pa
  intro T0 hpa
  have HML : Hid (M.arrows.length ≤ 9223372036854775807) := by
    have q1 := MT2.out.a1
    have q2 := MT2.out.a2
    show M.arrows.length ≤ _
    have q3 : maxLen ≤ 9223372036854775807 := by decide
    exact Nat.le_trans q1 (Nat.le_trans q2 q3)
  have hml := HML.out
  go_loopw [27] (fun i wr => ∃ k : Nat, k ≤ M.arrows.length ∧ i = .int .i64 k ∧ Hid (TI wr pa (tabK (frI p.seen) Arr.f (M.arrows.take k))) ∧ Hid (Below W2.heap.size W2 wr)) (fun i _ => M.arrows.length - (intOf i).toNat)
  case atStart => exact ⟨0, Nat.zero_le _, rfl, T0, B2⟩
  case round =>
    clear T0 B2
    obtain ⟨k, hk, rfl, LT, LB⟩ := hrel
    by_cases hlt : k < M.arrows.length
    · obtain ⟨b, off, rfl, hb, hca⟩ : ∃ b off, a2 = some ⟨b, off, none⟩ ∧ b < W2.heap.size ∧ CellsA W2 b off M.arrows := by
        rcases MT2.out.a with h0 | ⟨b, off, h0⟩
        · rw [h0] at hlt; simp at hlt
        · exact ⟨b, off, h0⟩
      obtain ⟨a, HA, x1, x2, x3⟩ := hca.at hlt
      have hia := HI.out a (by
        have h := HA.out
        rw [List.getElem?_eq_getElem hlt, Option.getD_some] at h
        rw [h]; exact List.getElem_mem hlt)
      obtain ⟨f, ef⟩ : ∃ f : Nat, a.f = (f : Int) := ⟨a.f.toNat, by omega⟩
      obtain ⟨e, ee⟩ : ∃ e : Nat, a.e = (e : Int) := ⟨a.e.toNat, by omega⟩
      obtain ⟨t, et⟩ : ∃ t : Nat, a.t = (t : Int) := ⟨a.t.toNat, by omega⟩
      rw [ef] at x1
      rw [ee] at x2
      rw [et] at x3
      have hf : f < 6 := by omega
      have he : e < p.seen.length := by omega
      have ht : t < 6 := by omega
      obtain ⟨sb, so, rfl, hsb, hcs⟩ : ∃ sb so, sa = some ⟨sb, so, none⟩ ∧ sb < w.heap.size ∧ Cells w sb so p.seen := by
        rcases h.out.s.at_ with h0 | ⟨b, off, h0⟩
        · rw [h0] at he; simp at he
        · exact ⟨b, off, h0⟩
      obtain ⟨sv, HSV, z1⟩ := hcs.at he
      have hsv := HS.out e he
      rw [← HSV.out] at hsv
      obtain ⟨se, ese⟩ : ∃ se : Nat, sv = (se : Int) := ⟨sv.toNat, by omega⟩
      rw [ese] at z1
      have hse : se < 8 := by omega
      have HT : Hid (tabK (frI p.seen) Arr.f (M.arrows.take (k + 1)) = fun r => if r = se * 6 + t then withS (tabK (frI p.seen) Arr.f (M.arrows.take k) r) f else tabK (frI p.seen) Arr.f (M.arrows.take k) r) := by
        show _ = _
        rw [tabK_take hlt HA]
        funext r
        have e1 : (frI p.seen a).toNat = se * 6 + t := by
          unfold frI
          rw [ee, et, Int.toNat_natCast, ← HSV.out, ese]; omega
        simp only [tabKStep, e1, ef, Int.toNat_natCast]
      clear hia ef ee et HA hsv ese HSV
      have lb := LB.out
      have y1 := (lb.cell (p := ⟨b, off + k * 3, none⟩) hb).trans x1
      have y2 := (lb.cell (p := ⟨b, off + k * 3 + 1, none⟩) hb).trans x2
      have y3 := (lb.cell (p := ⟨b, off + k * 3 + 2, none⟩) hb).trans x3
      clear x1 x2 x3 lb
      have hBV : Below wr.heap.size wr (wr.alloc (.cells #[.int .i64 f, .int .i64 e, .int .i64 t] 65)) := (Below.refl _ _).alloc (Nat.le_refl _) _
      have B3 := LB.out.trans (hBV.mono LB.out.size)
      have HT3 := Hid.of (LT.out.below hBV LT.out.lt)
      have HA3 := Hid.of (Blk.new wr 65 #[.int .i64 f, .int .i64 e, .int .i64 t])
      have x5 : (wr.alloc (.cells #[.int .i64 f, .int .i64 e, .int .i64 t] 65)).cell? ⟨w.heap.size, 5, none⟩ = some (.slice (some ⟨sb, so, none⟩) p.seen.length sc) := (KP.out.below B3 hpl.out).cell 5 rfl
      have z2 : (wr.alloc (.cells #[.int .i64 f, .int .i64 e, .int .i64 t] 65)).cell? ⟨sb, so + e, none⟩ = some (.int .i64 se) := (((B.out.trans (B3.mono B.out.size)).cell (p := ⟨sb, so + e, none⟩) hsb)).trans z1
      have LB3 := Hid.of B3
      have HPW : Hid (pa < wr.heap.size) := LT.out.lt
      clear B3 hBV z1
      go_wp2_with fail
      clear y1 y2 y3 x5 z2
      have hse0 : (0 : Int) ≤ (se : Int) := by omega
      have hse8 : (se : Int) < 8 := by omega
      have ht0 : (0 : Int) ≤ (t : Int) := by omega
      have ht6 : (t : Int) < 6 := by omega
      revert HT3 HA3 LB3
      generalize wr.alloc (.cells #[.int .i64 f, .int .i64 e, .int .i64 t] 65) = V
      intro HT3 HA3 LB3
      obtain ⟨R, HR⟩ : ∃ R, Hid (R = tabK (frI p.seen) Arr.f (M.arrows.take k) (se * 6 + t)) := ⟨_, rfl⟩
      have hok : Hid (okS R) := by show okS R; rw [HR.out]; exact okS_tabK _ _ _ _
      refine wp_region_held_drew (S := fun w' => w'.cell? ⟨wr.heap.size, 0, none⟩ = some (.int .i64 f) ∧ w'.cell? ⟨wr.heap.size, 2, none⟩ = some (.int .i64 t)) (by kernel_rfl) ⟨HA3.out.cell 0 rfl, HA3.out.cell 2 rfl⟩ (fun hSd => ?_)
      refine wpAnyH_take (i := 0) (v := .int .i64 se) rfl (by kernel_rfl) (by kernel_rfl) (by kernel_rfl) (fun _ _ _ h => h) (Or.inl ⟨by kernel_rfl, fun w' hw' => by obtain ⟨q0, q1⟩ := hw'; go_simp⟩) hSd ?_
      refine wpAnyH_take (i := 1) (v := .pointer (some ⟨wr.heap.size, 2, none⟩)) rfl (by kernel_rfl) (by kernel_rfl) (by kernel_rfl) (fun _ _ _ h => h) (Or.inl ⟨by kernel_rfl, fun w' hw' => by obtain ⟨q0, q1⟩ := hw'; go_simp⟩) hSd ?_
      refine wpAnyH_take (i := 2) (v := .int .i64 t) rfl (by kernel_rfl) (by kernel_rfl) (by kernel_rfl) (fun _ _ _ h => h) (Or.inl ⟨by kernel_rfl, fun w' hw' => by obtain ⟨q0, q1⟩ := hw'; go_simp⟩) hSd ?_
      refine wpAnyH_take (i := 3) (v := .int .i64 se) rfl (by kernel_rfl) (by kernel_rfl) (by kernel_rfl) (fun _ _ _ h => h) (Or.inl ⟨by kernel_rfl, fun w' hw' => by obtain ⟨q0, q1⟩ := hw'; go_simp⟩) hSd ?_
      refine wpAnyH_take (i := 4) (v := .pointer (some ⟨wr.heap.size, 2, none⟩)) rfl (by kernel_rfl) (by kernel_rfl) (by kernel_rfl) (fun _ _ _ h => h) (Or.inl ⟨by kernel_rfl, fun w' hw' => by obtain ⟨q0, q1⟩ := hw'; go_simp⟩) hSd ?_
      refine wpAnyH_take (i := 5) (v := .int .i64 t) rfl (by kernel_rfl) (by kernel_rfl) (by kernel_rfl) (fun _ _ _ h => h) (Or.inl ⟨by kernel_rfl, fun w' hw' => by obtain ⟨q0, q1⟩ := hw'; go_simp⟩) hSd ?_
      refine wpAnyH_take (i := 6) (v := .pointer (some ⟨pa, se * 24, none⟩)) rfl (by kernel_rfl) (by kernel_rfl) (by kernel_rfl) (fun _ _ _ h => h) (Or.inl ⟨by kernel_rfl, fun w' hw' => by obtain ⟨q0, q1⟩ := hw'; go_simp⟩) hSd ?_
      refine wpAnyH_take (i := 7) (v := .pointer (some ⟨pa, se * 24 + t * 4, none⟩)) rfl (by kernel_rfl) (by kernel_rfl) (by kernel_rfl) (fun _ _ _ h => h) (Or.inl ⟨by kernel_rfl, fun w' hw' => by obtain ⟨q0, q1⟩ := hw'; go_simp⟩) hSd ?_
      refine wpAnyH_take (i := 9) (v := .pointer (some ⟨wr.heap.size, 0, none⟩)) rfl (by kernel_rfl) (by kernel_rfl) (by kernel_rfl) (fun _ _ _ h => h) (Or.inl ⟨by kernel_rfl, fun w' hw' => by obtain ⟨q0, q1⟩ := hw'; go_simp⟩) hSd ?_
      refine wpAnyH_take (i := 10) (v := .int .i64 f) rfl (by kernel_rfl) (by kernel_rfl) (by kernel_rfl) (fun _ _ _ h => h) (Or.inl ⟨by kernel_rfl, fun w' hw' => by obtain ⟨q0, q1⟩ := hw'; go_simp⟩) hSd ?_
      refine wpAnyH_take (i := 12) (v := .pointer (some ⟨pa, se * 24, none⟩)) rfl (by kernel_rfl) (by kernel_rfl) (by kernel_rfl) (fun _ _ _ h => h) (Or.inl ⟨by kernel_rfl, fun w' hw' => by obtain ⟨q0, q1⟩ := hw'; go_simp⟩) hSd ?_
      have HT4 : Hid (TI V.drew pa (tabK (frI p.seen) Arr.f (M.arrows.take k))) := HT3.out
      have HA4 : Hid (Blk V.drew wr.heap.size 65 #[.int .i64 f, .int .i64 e, .int .i64 t]) := HA3.out.drew
      have LB4 : Hid (Below W2.heap.size W2 V.drew) := LB3.out.drew
      clear HT3 HA3 LB3
      revert HT4 HA4 LB4 hSd
      generalize V.drew = Y
      intro hSd HT4 HA4 LB4
      simp only [Act.put, List.setIfInBounds_toArray]
      obtain ⟨t0, t1, t2, t3⟩ := HT4.out.cells hse ht
      rw [← HR.out] at t0 t1 t2 t3
      refine wpAnyH_ready (rs := [8]) (by kernel_rfl) (by simp) ?_
      refine AllReadyH.cons rfl (fun K' hK' => ?_) AllReadyH.nil
      go_simp
      refine hK'.out _ _ hSd (fun _ => ?_)
      clear hK' K' t0 t1 t2 t3
      refine wpAnyH_ready (rs := [11]) (by kernel_rfl) (by simp) ?_
      refine AllReadyH.cons rfl (fun K' hK' => ?_) AllReadyH.nil
      go_simp
      refine (with_any R (f : Int) _ hok.out (by omega) (by omega)).mono ?_
      rintro e' w1 ⟨rfl, hb1⟩
      rw [Int.toNat_natCast]
      have T9 := HT4.out.below hb1 HT4.out.lt
      have A9 := HA4.out.below hb1 HA4.out.lt
      have L9 := LB4.out.trans (hb1.mono LB4.out.size)
      obtain ⟨v0, v1, v2, v3⟩ := T9.cells hse ht
      have fz := T9.frozen
      have T10 := Hid.of (T9.store hse ht (withS R f))
      have L10 := Hid.of (below_set4' L9 (se * 24 + t * 4) (b' := pa) hpa.out (.int .u64 (withS R f 0)) (.int .u64 (withS R f 1)) (.int .u64 (withS R f 2)) (.int .u64 (withS R f 3)))
      have A10 := Hid.of (Blk.other4' A9 (se * 24 + t * 4) (b' := pa) (by have := HPW.out; omega) (.int .u64 (withS R f 0)) (.int .u64 (withS R f 1)) (.int .u64 (withS R f 2)) (.int .u64 (withS R f 3)))
      refine hK'.out _ _ ⟨A9.cell 0 rfl, A9.cell 2 rfl⟩ (fun hS1 => ?_)
      clear hK' K'
      refine wpAnyH_take (i := 13) (v := .pointer (some ⟨pa, se * 24 + t * 4, none⟩)) rfl (by kernel_rfl) (by kernel_rfl) (by kernel_rfl) (fun _ _ _ h => h) (Or.inl ⟨by kernel_rfl, fun w' hw' => by obtain ⟨q0, q1⟩ := hw'; go_simp⟩) hS1 ?_
      refine wpAnyH_ready (rs := [14]) (by kernel_rfl) (by simp) ?_
      refine AllReadyH.cons rfl (fun K' hK' => ?_) AllReadyH.nil
      clear L9 A9 T9 hb1 hSd
      go_simp
      refine hK'.out _ _ ⟨A10.out.cell 0 rfl, A10.out.cell 2 rfl⟩ (fun _ => ?_)
      clear hK' K' v0 v1 v2 v3 fz hS1 A10
      refine wpAnyH_done (by kernel_rfl) ?_ _
      revert T10 L10
      generalize (((w1.setCell ⟨pa, se * 24 + t * 4, none⟩ (.int .u64 (withS R f 0))).setCell ⟨pa, se * 24 + t * 4 + 1, none⟩ (.int .u64 (withS R f 1))).setCell ⟨pa, se * 24 + t * 4 + 2, none⟩ (.int .u64 (withS R f 2))).setCell ⟨pa, se * 24 + t * 4 + 3, none⟩ (.int .u64 (withS R f 3)) = X
      intro T10 L10
      go_wp2
      go_roundw
      case rel =>
        refine ⟨k + 1, by omega, by go_num, ?_, L10⟩
        rw [HT.out]
        have e1 : (fun r => if r = se * 6 + t then withS (tabK (frI p.seen) Arr.f (M.arrows.take k) r) f else tabK (frI p.seen) Arr.f (M.arrows.take k) r) = (fun q => if q = se * 6 + t then withS R f else tabK (frI p.seen) Arr.f (M.arrows.take k) q) := by
          funext r
          by_cases e : r = se * 6 + t
          · subst e; simp only [if_true, HR.out]
          · rw [if_neg e, if_neg e]
        rw [e1]
        exact T10
      case measure => simp [intOf]; omega
    · have hk2 : M.arrows.length = k := by omega
      have LT2 : Hid (TI wr pa (tabK (frI p.seen) Arr.f M.arrows)) := by
        have := LT.out
        rw [List.take_of_length_le (by omega)] at this
        exact this
      clear LT
      go_wp2_with fail
      refine bodyPost_ret (v := .tuple #[backV pa, .int .i64 0]) (by simp [results, go_sem]) rfl ⟨pa, rfl, ?_, B.out.trans (LB.out.mono B.out.size)⟩
      rw [← HBT.out _ rfl]; exact LT2.out

end Go.Proofs.YtmimjpkllgjdkaaDoor
