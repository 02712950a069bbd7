/-
  The walk of reach.alive.
-/
import Derived.Test.YtdnglodemkeooaaDoorCReached
namespace Go.Proofs.YtdnglodemkeooaaDoor
open Go.RowKit
set_option linter.unusedVariables false

set_option maxRecDepth 100000 in
set_option maxHeartbeats 4000000 in
theorem alive_some (st : Nat) (ev : Int) (starts : List Int) (ars : List Arr) (ends : List Int) (a1 : Option Addr) (c1 b off c2 : Nat) (a3 : Option Addr) (c3 : Nat) (w : World) (hst : st ≤ 256) (hlen : ars.length ≤ 4096) (hb : b < w.heap.size) (hca : CellsA w b off ars) (hin : Hid (∀ a ∈ ars, (0 ≤ a.f ∧ a.f < st) ∧ 0 ≤ a.t ∧ a.t < st)) (hs : Hid (At w a3 ends)) (hsl : Hid (ends.length ≤ maxLen)) (hsb : Hid (∀ x ∈ ends, 0 ≤ x ∧ x < (st : Int))) (hT : Hid (Tab w)) :
    Calls Tryd.prog 56 #[mval ⟨st, ev, starts, ars, ends⟩ ⟨a1, c1, some ⟨b, off, none⟩, c2, a3, c3⟩] w fun e w' => RchGives w (·.t) (·.f) ars ends e w' := by
  obtain ⟨i0, hi, hz0, hz1, hz2⟩ := info_parts Tryd.infoSet
  have hmk : ∀ w : World, (Instr.makeSlice 89 (.int .i64 st) (.int .i64 st)).run Tryd.prog w = .ok (.slice (some ⟨w.heap.size, 0, none⟩) st st) (w.alloc (.cells (madeCells #[.int .u64 0, .int .u64 0, .int .u64 0, .int .u64 0] (st * 4)) 62)) := fun w => by
    have := run_make (P := Tryd.prog) w 89 62 i0 (sval zeroS) Tryd.underlying89 hi hz0 .i64 .i64 st st (by omega) (by omega) (by rw [hz2]; omega) (by omega)
    rw [hz1, Int.toNat_natCast] at this
    exact this
  clear hi hz0 hz1 hz2
  go_enter Tryd.func56, Tryd.ntmps56
  go_wp2
  go_loopw [12] (fun i wr => ∃ k : Nat, k ≤ ars.length ∧ i = .int .i64 k ∧ Hid (Blk wr w.heap.size 25 (mcells ⟨st, ev, starts, ars, ends⟩ ⟨a1, c1, some ⟨b, off, none⟩, c2, a3, c3⟩)) ∧ Hid (SB wr (w.heap.size + 1) zeroS) ∧ Hid (TB wr (w.heap.size + 2) st (tabK (·.t) (·.f) (ars.take k))) ∧ Hid (Below w.heap.size w wr)) (fun i _ => ars.length - (intOf i).toNat)
  case atStart =>
    refine ⟨0, by omega, rfl, ((Blk.new w _ _).alloc _).alloc _, ?_, TB.made ?_, (((Below.refl _ _).alloc (Nat.le_refl _) _).alloc (by simp) _).alloc (by simp; omega) _⟩
    · have := (Blk.new (w.alloc (.cells (mcells ⟨st, ev, starts, ars, ends⟩ ⟨a1, c1, some ⟨b, off, none⟩, c2, a3, c3⟩) 25)) 62 (scells zeroS)).alloc (.cells (madeCells #[.int .u64 0, .int .u64 0, .int .u64 0, .int .u64 0] (st * 4)) 62)
      rwa [World.size_alloc] at this
    · have := Blk.new ((w.alloc (.cells (mcells ⟨st, ev, starts, ars, ends⟩ ⟨a1, c1, some ⟨b, off, none⟩, c2, a3, c3⟩) 25)).alloc (.cells (scells zeroS) 62)) 62 (madeCells #[.int .u64 0, .int .u64 0, .int .u64 0, .int .u64 0] (st * 4))
      rwa [World.size_alloc, World.size_alloc] at this
  case round =>
    obtain ⟨k, hk, rfl, HM, HS, HT, HB⟩ := hrel
    have l1 := HM.out.lt
    have l2 := HS.out.lt
    have l3 := HT.out.lt
    by_cases hlt : k < ars.length
    · obtain ⟨a, HA, x1, x2, x3⟩ := hca.at hlt
      have hia : (0 ≤ a.f ∧ a.f < st) ∧ 0 ≤ a.t ∧ a.t < st := by
        have h := HA.out
        rw [List.getElem?_eq_getElem hlt, Option.getD_some] at h
        rw [h]; exact hin.out _ (List.getElem_mem hlt)
      obtain ⟨f, ef⟩ : ∃ f : Nat, a.f = (f : Int) := ⟨a.f.toNat, by omega⟩
      obtain ⟨e, ee⟩ : ∃ e : Int, a.e = e := ⟨_, rfl⟩
      obtain ⟨t, et⟩ : ∃ t : Nat, a.t = (t : Int) := ⟨a.t.toNat, by omega⟩
      rw [ef] at x1
      rw [ee] at x2
      rw [et] at x3
      have hf : f < st := by omega
      have ht : t < st := by omega
      have HN : Hid (tabK (·.t) (·.f) (ars.take (k + 1)) = fun r => if r = t then withS (tabK (·.t) (·.f) (ars.take k) r) f else tabK (·.t) (·.f) (ars.take k) r) := by
        show _ = _
        rw [tabK_take hlt HA]
        funext r
        simp only [tabKStep, ef, et, Int.toNat_natCast]
      have hp0 : (0 : Int) ≤ (t : Int) := by omega
      have hpI : (t : Int) < (st : Int) := by omega
      clear hia ef ee et HA
      have y1 := (HB.out.cell (p := ⟨b, off + k * 3, none⟩) hb).trans x1
      have y2 := (HB.out.cell (p := ⟨b, off + k * 3 + 1, none⟩) hb).trans x2
      have y3 := (HB.out.cell (p := ⟨b, off + k * 3 + 2, none⟩) hb).trans x3
      clear x1 x2 x3
      have hBV : Below wr.heap.size wr (wr.alloc (.cells #[.int .i64 f, .int .i64 e, .int .i64 t] 58)) := (Below.refl _ _).alloc (Nat.le_refl _) _
      have HMV := Hid.of (HM.out.below hBV HM.out.lt)
      have HSV := Hid.of (HS.out.below hBV HS.out.lt)
      have HTV := Hid.of (HT.out.below hBV HT.out.lt)
      have HAV := Hid.of (Blk.new wr 58 #[.int .i64 f, .int .i64 e, .int .i64 t])
      have HBV := Hid.of (HB.out.trans (hBV.mono HB.out.size))
      have HSZ : Hid ((wr.alloc (.cells #[.int .i64 f, .int .i64 e, .int .i64 t] 58)).heap.size = wr.heap.size + 1) := World.size_alloc _ _
      clear hBV HM HS HT HB
      go_wp2
      revert HMV HSV HTV HAV HBV HSZ
      generalize wr.alloc (.cells #[.int .i64 f, .int .i64 e, .int .i64 t] 58) = V
      intro HMV HSV HTV HAV HBV HSZ
      obtain ⟨t0, t1, t2, t3⟩ := HTV.out.cells ht
      have d1 : V.cell? ⟨wr.heap.size, 2, none⟩ = some (.int .i64 t) := HAV.out.cell 2 rfl
      have d2 : V.cell? ⟨wr.heap.size, 0, none⟩ = some (.int .i64 f) := HAV.out.cell 0 rfl
      have hsz := HSZ.out
      obtain ⟨R, HR⟩ : ∃ R, Hid (R = tabK (·.t) (·.f) (ars.take k) t) := ⟨_, rfl⟩
      have hok : Hid (okS R) := by show okS R; rw [HR.out]; exact okS_tabK _ _ _ _
      rw [← HR.out] at t0 t1 t2 t3
      have HTd : Hid (TB V.drew (w.heap.size + 2) st (tabK (·.t) (·.f) (ars.take k))) := HTV.out
      have HAd : Hid (Blk V.drew wr.heap.size 58 #[.int .i64 f, .int .i64 e, .int .i64 t]) := HAV.out
      have hne1 : ¬ w.heap.size + 2 = wr.heap.size := by omega
      have hne2 : ¬ wr.heap.size = w.heap.size + 2 := by omega
      refine Code.wp_mono (Q := regQ fun a' W' => (∃ r16 r17 r18 r19 r20 r21 r22 r23 r24 r25 r26 r27, a' = { tmps := #[mval ⟨st, ev, starts, ars, ends⟩ ⟨a1, c1, some ⟨b, off, none⟩, c2, a3, c3⟩, .pointer (some ⟨w.heap.size, 0, none⟩), .pointer (some ⟨w.heap.size + 1, 0, none⟩), .slice (some ⟨w.heap.size + 1 + 1, 0, none⟩) st st, undef, .pointer (some ⟨wr.heap.size, 0, none⟩), .pointer (some ⟨w.heap.size, 0, none⟩), .int .i64 st, .slice (some ⟨w.heap.size + 1 + 1, 0, none⟩) st st, .pointer (some ⟨w.heap.size, 3, none⟩), .slice (some ⟨b, off, none⟩) ars.length c2, .int .i64 ars.length, .int .i64 k, .bool true, .pointer (some ⟨b, off + k * 3, none⟩), .agg #[.int .i64 f, .int .i64 e, .int .i64 t], r16, r17, r18, r19, r20, r21, r22, r23, r24, r25, r26, r27, u28, undef, undef, undef, undef, undef], defers := [] }) ∧ ∃ w1, Below V.heap.size V.drew w1 ∧ W' = ((((w1.setCell ⟨w.heap.size + 2, t * 4, none⟩ (.int .u64 (withS R f 0))).setCell ⟨w.heap.size + 2, t * 4 + 1, none⟩ (.int .u64 (withS R f 1))).setCell ⟨w.heap.size + 2, t * 4 + 2, none⟩ (.int .u64 (withS R f 2))).setCell ⟨w.heap.size + 2, t * 4 + 3, none⟩ (.int .u64 (withS R f 3)))) ?aft ?reg
      case reg =>
        clear HN HBV hca y1 y2 y3 hmk
        go_region_with (go_at_call 95; refine (with_any R f _ hok.out (by omega) (by omega)).mono ?_; rintro e' w1 ⟨rfl, hb1⟩; have HTW := Hid.of (TB.below HTd.out hb1 (show _ < V.heap.size by omega)); obtain ⟨v0, v1, v2, v3⟩ := HTW.out.cells ht; rw [← HR.out] at v0 v1 v2 v3; have fz := HTW.out.frozen; have d3 : w1.cell? ⟨wr.heap.size, 2, none⟩ = some (.int .i64 t) := (Blk.below HAd.out hb1 (show _ < V.heap.size by omega)).cell 2 rfl; have d4 : w1.cell? ⟨wr.heap.size, 0, none⟩ = some (.int .i64 f) := (Blk.below HAd.out hb1 (show _ < V.heap.size by omega)).cell 0 rfl)
        all_goals exact ⟨⟨_, _, _, _, _, _, _, _, _, _, _, _, rfl⟩, _, hb1, rfl⟩
      case aft =>
        refine regQ_imp ?_
        rintro a' W' ⟨⟨r16, r17, r18, r19, r20, r21, r22, r23, r24, r25, r26, r27, rfl⟩, w1, hb1, rfl⟩
        have hTW := TB.below HTd.out hb1 (show _ < V.heap.size by omega)
        have hbW := HBV.out.drew.trans (hb1.mono HBV.out.size)
        have hfin := Hid.of (TB.store hTW ht (withS R f))
        have hmm := Hid.of (Blk.other4' (Blk.below HMV.out.drew hb1 (show _ < V.heap.size by omega)) (t * 4) (b' := w.heap.size + 2) (by omega) (.int .u64 (withS R f 0)) (.int .u64 (withS R f 1)) (.int .u64 (withS R f 2)) (.int .u64 (withS R f 3)))
        have hss := Hid.of (Blk.other4' (Blk.below HSV.out.drew hb1 (show _ < V.heap.size by omega)) (t * 4) (b' := w.heap.size + 2) (by omega) (.int .u64 (withS R f 0)) (.int .u64 (withS R f 1)) (.int .u64 (withS R f 2)) (.int .u64 (withS R f 3)))
        have hbb := Hid.of (below_set4' hbW (t * 4) (b' := w.heap.size + 2) (by omega) (.int .u64 (withS R f 0)) (.int .u64 (withS R f 1)) (.int .u64 (withS R f 2)) (.int .u64 (withS R f 3)))
        clear hTW hbW hb1
        revert hfin hmm hss hbb
        generalize ((((w1.setCell ⟨w.heap.size + 2, t * 4, none⟩ (.int .u64 (withS R f 0))).setCell ⟨w.heap.size + 2, t * 4 + 1, none⟩ (.int .u64 (withS R f 1))).setCell ⟨w.heap.size + 2, t * 4 + 2, none⟩ (.int .u64 (withS R f 2))).setCell ⟨w.heap.size + 2, t * 4 + 3, none⟩ (.int .u64 (withS R f 3))) = X
        intro hfin hmm hss hbb
        go_wp2
        go_roundw
        case rel =>
          refine ⟨k + 1, by omega, by go_num, hmm, hss, ?_, hbb⟩
          show TB _ _ _ _
          rw [HN.out]
          have e1 : (fun r => if r = t then withS (tabK (·.t) (·.f) (ars.take k) r) f else tabK (·.t) (·.f) (ars.take k) r) = (fun q => if q = t then withS R f else tabK (·.t) (·.f) (ars.take k) q) := by
            funext r
            by_cases e : r = t
            · subst e; simp only [if_true, HR.out]
            · rw [if_neg e, if_neg e]
          rw [e1]
          exact hfin.out
        case measure => simp [intOf]; omega
    · rw [List.take_of_length_le (by omega)] at HT
      have x2 : wr.cell? ⟨w.heap.size, 4, none⟩ = some (.slice a3 ends.length c3) := HM.out.cell 4 rfl
      clear hca hmk
      go_wp2_with fail
      refine (of_any a3 c3 ends _ (hs.out.below HB.out (Nat.le_refl _)) hsl.out (fun x hx => by have := hsb.out x hx; omega)).mono ?_
      rintro e w1 ⟨rfl, hb1⟩
      have HB1 := Hid.of (HB.out.trans (hb1.mono HB.out.size))
      have HT1 := Hid.of (HT.out.below hb1 HT.out.lt)
      have HS1 := Hid.of (HS.out.below hb1 HS.out.lt)
      clear hb1 x2
      go_wp2_with fail
      refine (spread_any (·.t) (·.f) ars ends st hst hsb.out (fun a ha => (hin.out a ha).symm) _ _ (hT.out.below HB1.out hT.out.lt) HT1.out).mono ?_
      rintro e w2 ⟨F, hok, rfl, hrch, hb2⟩
      have HB2 := Hid.of (HB1.out.trans (hb2.mono HB1.out.size))
      have s2 := HS1.out.below hb2 HS1.out.lt
      obtain ⟨r0, r1, r2, r3⟩ := SB.cells s2
      have rz := s2.frozen
      have k2 := Hid.of (SB.set4 s2 F)
      have HR := Hid.of hrch
      have HO := Hid.of hok
      clear hb2 hrch hok s2
      go_wp2
      refine bodyPost_ret (v := sval F) ?_ rfl ⟨F, HO.out, rfl, HR.out, below_set4 HB2.out (b' := w.heap.size + 1) (by omega) _ _ _ _⟩
      exact results_cell_row (g := w.heap.size + 1) (p := 2) rfl _ _ _ _ _ _ rfl k2.out Tryd.underlying62 rfl (by kernel_rfl)

end Go.Proofs.YtdnglodemkeooaaDoor
