/-
  The walk of jalousieref2.May: it answers 'mayB'.
-/
import Derived.Deep.RegionHeld3
import Derived.Deep.RegionWith
import Derived.Test.YtbdkaobbfmgnhaaDoorG06
namespace Go.Proofs.YtbdkaobbfmgnhaaDoor
open Go.RowKit
set_option linter.unusedVariables false

theorem Hid.of' {p : Prop} (h : p) : Hid p := h

set_option maxHeartbeats 4000000 in
set_option maxRecDepth 100000 in
theorem refMay_big (m : Mach) (a1 : Option Addr) (c1 b off c2 : Nat) (a3 : Option Addr) (c3 : Nat) (w : World) (h : MAt w m ⟨a1, c1, some ⟨b, off, none⟩, c2, a3, c3⟩) (hb : b < w.heap.size) (hca : CellsA w b off m.arrows) (hz : Hid (sizeOk m)) (hs : Hid (rowB m.st m.starts = true)) (he : Hid (rowB m.st m.ends = true)) :
    Calls Tryd.prog 16 #[mval m ⟨a1, c1, some ⟨b, off, none⟩, c2, a3, c3⟩] w fun e w' => e = .returned (.bool (mayB m)) ∧ Below w.heap.size w w' := by
  obtain ⟨z1, z2, z3, z4, z5⟩ := hz.out
  have b0 : Below w.heap.size w (w.alloc (.cells (mcells m ⟨a1, c1, some ⟨b, off, none⟩, c2, a3, c3⟩) 25)) := (Below.refl _ _).alloc (Nat.le_refl _) _
  have h' := h.below b0 (Nat.le_refl _)
  have l1 : m.starts.length ≤ maxLen := Nat.le_trans h.s1 h.s2
  have l3 : m.ends.length ≤ maxLen := Nat.le_trans h.e1 h.e2
  have hgo : Hid (mayB m = arrsFrom m.st m.ev (lastA m.arrows 0) (m.arrows.drop 0)) := mayB_go hz.out hs.out he.out
  have d1 : decide (m.st < 1) = false := by simp; omega
  have d2 : decide (256 < m.st) = false := by simp; omega
  have d3 : decide (m.ev < 0) = false := by simp; omega
  have d4 : decide (8 < m.ev) = false := by simp; omega
  have d5 : decide ((4096 : Int) < (m.arrows.length : Int)) = false := by simp; omega
  go_enter Tryd.func16, Tryd.ntmps16
  go_wp2_with fail
  refine (refIs_any a1 c1 m.starts m.st _ h'.s l1).mono ?_
  rintro e w1 ⟨rfl, q1, rfl⟩
  rw [hs.out]
  go_wp2_with fail
  refine (refIs_any a3 c3 m.ends m.st _ (At.drewN h'.e q1) l3).mono ?_
  rintro e w1 ⟨rfl, q2, rfl⟩
  rw [he.out]
  go_wp2_with fail
  clear h' b0 h
  go_loopw [3] (fun i wr => ∃ k : Nat, k ≤ m.arrows.length ∧ i = .int .i64 k ∧ Below (w.heap.size + 1) (w.alloc (.cells (mcells m ⟨a1, c1, some ⟨b, off, none⟩, c2, a3, c3⟩) 25)) wr ∧ Hid (mayB m = arrsFrom m.st m.ev (lastA m.arrows k) (m.arrows.drop k))) (fun i _ => m.arrows.length - (intOf i).toNat)
  case atStart => exact ⟨0, Nat.zero_le _, rfl, below_drewN (Below.refl _ _) _, hgo⟩
  case round =>
    obtain ⟨k, hk, rfl, hbel, hr⟩ := hrel
    obtain ⟨x0, x1, x2, x3, x4⟩ := box_cells hbel
    have hold := below_box hbel
    have hsz := hbel.size
    rw [World.size_alloc] at hsz
    have hbx : w.heap.size < wr.heap.size := by omega
    have hbr : b < wr.heap.size := by omega
    by_cases hlt : k < m.arrows.length
    · obtain ⟨a, HA, y0, y1, y2⟩ := hca.at hlt
      have y0' := (hold.cell (p := ⟨b, off + k * 3, none⟩) hb).trans y0
      have y1' := (hold.cell (p := ⟨b, off + k * 3 + 1, none⟩) hb).trans y1
      have y2' := (hold.cell (p := ⟨b, off + k * 3 + 2, none⟩) hb).trans y2
      clear y0 y1 y2
      by_cases e1 : a.f < 0
      · have f1 : decide (a.f < 0) = true := by simpa using e1
        go_wp2
        go_ret
        exact ⟨ret_bool (arrs_no hlt HA hr (fun h => by unfold arrIn at h; omega)), hold.alloc (by omega) _⟩
      · have f1 : decide (a.f < 0) = false := by simpa using e1
        by_cases e2 : m.st ≤ a.f
        · have f2 : decide (m.st ≤ a.f) = true := by simpa using e2
          go_wp2
          go_ret
          exact ⟨ret_bool (arrs_no hlt HA hr (fun h => by unfold arrIn at h; omega)), hold.alloc (by omega) _⟩
        · have f2 : decide (m.st ≤ a.f) = false := by simpa using e2
          by_cases e3 : a.t < 0
          · have f3 : decide (a.t < 0) = true := by simpa using e3
            go_wp2
            go_ret
            exact ⟨ret_bool (arrs_no hlt HA hr (fun h => by unfold arrIn at h; omega)), hold.alloc (by omega) _⟩
          · have f3 : decide (a.t < 0) = false := by simpa using e3
            by_cases e4 : m.st ≤ a.t
            · have f4 : decide (m.st ≤ a.t) = true := by simpa using e4
              go_wp2
              go_ret
              exact ⟨ret_bool (arrs_no hlt HA hr (fun h => by unfold arrIn at h; omega)), hold.alloc (by omega) _⟩
            · have f4 : decide (m.st ≤ a.t) = false := by simpa using e4
              by_cases e5 : a.e < 0
              · have f5 : decide (a.e < 0) = true := by simpa using e5
                go_wp2
                go_ret
                exact ⟨ret_bool (arrs_no hlt HA hr (fun h => by unfold arrIn at h; omega)), hold.alloc (by omega) _⟩
              · have f5 : decide (a.e < 0) = false := by simpa using e5
                by_cases e6 : m.ev ≤ a.e
                · have f6 : decide (m.ev ≤ a.e) = true := by simpa using e6
                  go_wp2
                  go_ret
                  exact ⟨ret_bool (arrs_no hlt HA hr (fun h => by unfold arrIn at h; omega)), hold.alloc (by omega) _⟩
                · have f6 : decide (m.ev ≤ a.e) = false := by simpa using e6
                  have HIN : Hid (arrIn m.st m.ev a) := by show arrIn _ _ _; unfold arrIn; omega
                  by_cases e7 : k = 0
                  · subst e7
                    rw [Nat.zero_mul, Nat.add_zero] at y0' y1' y2'
                    go_wp2
                    go_quiet (fail)
                    go_wp2
                    go_roundw
                    case rel => exact ⟨0 + 1, by omega, by go_num, below_drewN (hbel.alloc (by omega) _) _, arrs_yes0 hlt HA hr HIN.out⟩
                    case measure => simp [intOf]; omega
                  · obtain ⟨j, rfl⟩ : ∃ j, k = j + 1 := ⟨k - 1, by omega⟩
                    obtain ⟨p, HP, u0, u1, u2⟩ := hca.at (k := j) (by omega)
                    have u0' := (hold.cell (p := ⟨b, off + j * 3, none⟩) hb).trans u0
                    have u1' := (hold.cell (p := ⟨b, off + j * 3 + 1, none⟩) hb).trans u1
                    have u2' := (hold.cell (p := ⟨b, off + j * 3 + 2, none⟩) hb).trans u2
                    clear u0 u1 u2
                    have f7 : decide (0 < (j : Int) + 1) = true := by simp
                    have HX : Hid (Below wr.heap.size wr (wr.alloc (.cells #[.int .i64 a.f, .int .i64 a.e, .int .i64 a.t] 58))) := (Below.refl _ _).alloc (Nat.le_refl _) _
                    have HZ : Hid ((wr.alloc (.cells #[.int .i64 a.f, .int .i64 a.e, .int .i64 a.t] 58)).heap.size = wr.heap.size + 1) := World.size_alloc _ _
                    have HQ : Hid ((wr.alloc (.cells #[.int .i64 a.f, .int .i64 a.e, .int .i64 a.t] 58)).cell? ⟨wr.heap.size, 0, none⟩ = some (.int .i64 a.f) ∧ (wr.alloc (.cells #[.int .i64 a.f, .int .i64 a.e, .int .i64 a.t] 58)).cell? ⟨wr.heap.size, 1, none⟩ = some (.int .i64 a.e) ∧ (wr.alloc (.cells #[.int .i64 a.f, .int .i64 a.e, .int .i64 a.t] 58)).cell? ⟨wr.heap.size, 2, none⟩ = some (.int .i64 a.t)) := by
                      refine ⟨?_, ?_, ?_⟩ <;> (rw [World.cell?_alloc_at _ _ _ _ rfl]; rfl)
                    have HU : Hid (Below (w.heap.size + 1) (w.alloc (.cells (mcells m ⟨a1, c1, some ⟨b, off, none⟩, c2, a3, c3⟩) 25)) (wr.alloc (.cells #[.int .i64 a.f, .int .i64 a.e, .int .i64 a.t] 58))) := hbel.alloc (by omega) _
                    have U0 := Hid.of' u0'
                    have U1 := Hid.of' u1'
                    have U2 := Hid.of' u2'
                    have X3 := Hid.of' x3
                    go_wp2
                    clear u0' u1' u2' y0' y1' y2' x0 x1 x2 x3 x4
                    revert HX HZ HQ HU
                    generalize wr.alloc (.cells #[.int .i64 a.f, .int .i64 a.e, .int .i64 a.t] 58) = X
                    intro HX HZ HQ HU
                    obtain ⟨q0, q1, q2⟩ := HQ.out
                    have v0 := (HX.out.cell (p := ⟨b, off + j * 3, none⟩) hbr).trans U0.out
                    have v1 := (HX.out.cell (p := ⟨b, off + j * 3 + 1, none⟩) hbr).trans U1.out
                    have v2 := (HX.out.cell (p := ⟨b, off + j * 3 + 2, none⟩) hbr).trans U2.out
                    have c3' := (HX.out.cell (p := ⟨w.heap.size, 3, none⟩) hbx).trans X3.out
                    have hzX := HZ.out
                    have ib2 : j < m.arrows.length := by omega
                    have wj : IntKind.i64.wrap (j : Int) = (j : Int) := by rw [IntKind.wrap_i64]; omega
                    go_region_held3 (fun w' => w'.cell? ⟨w.heap.size, 3, none⟩ = some (.slice (some ⟨b, off, none⟩) m.arrows.length c2) ∧ w'.cell? ⟨wr.heap.size, 0, none⟩ = some (.int .i64 a.f) ∧ w'.cell? ⟨wr.heap.size, 1, none⟩ = some (.int .i64 a.e) ∧ w'.cell? ⟨wr.heap.size, 2, none⟩ = some (.int .i64 a.t) ∧ w'.cell? ⟨b, off + j * 3, none⟩ = some (.int .i64 p.f) ∧ w'.cell? ⟨b, off + j * 3 + 1, none⟩ = some (.int .i64 p.e) ∧ w'.cell? ⟨b, off + j * 3 + 2, none⟩ = some (.int .i64 p.t)) (go_keep) (first | (go_at_call 48; refine (refAhead_any p a _).mono ?_; rintro e w1 ⟨rfl, hb1⟩; have g0 := (hb1.cell (p := ⟨b, off + j * 3, none⟩) (show b < X.heap.size by omega)).trans v0; have g1 := (hb1.cell (p := ⟨b, off + j * 3 + 1, none⟩) (show b < X.heap.size by omega)).trans v1; have g2 := (hb1.cell (p := ⟨b, off + j * 3 + 2, none⟩) (show b < X.heap.size by omega)).trans v2; have g3 := (hb1.cell (p := ⟨w.heap.size, 3, none⟩) (show w.heap.size < X.heap.size by omega)).trans c3'; have g4 := (hb1.cell (p := ⟨wr.heap.size, 0, none⟩) (show wr.heap.size < X.heap.size by omega)).trans q0; have g5 := (hb1.cell (p := ⟨wr.heap.size, 1, none⟩) (show wr.heap.size < X.heap.size by omega)).trans q1; have g6 := (hb1.cell (p := ⟨wr.heap.size, 2, none⟩) (show wr.heap.size < X.heap.size by omega)).trans q2))
                    have hU : Hid (Below (w.heap.size + 1) (w.alloc (.cells (mcells m ⟨a1, c1, some ⟨b, off, none⟩, c2, a3, c3⟩) 25)) w1) := HU.out.drew.trans (hb1.mono (show _ ≤ X.heap.size by omega))
                    clear v0 v1 v2 c3' q0 q1 q2 g0 g1 g2 g3 g4 g5 g6 wj ib2 hb1
                    by_cases hh : aheadB p a = true
                    · have HH := Hid.of' hh
                      rw [hh]
                      clear hh
                      go_wp2
                      go_roundw
                      case rel => exact ⟨j + 1 + 1, by omega, by go_num, hU.out, arrs_yes hlt HA HP hr HIN.out HH.out⟩
                      case measure => simp [intOf]; omega
                    · have hh : aheadB p a = false := by simpa using hh
                      have HH := Hid.of' hh
                      rw [hh]
                      clear hh
                      go_wp2
                      go_ret
                      exact ⟨ret_bool (arrs_no2 hlt HA HP hr HH.out), below_box hU.out⟩
    · go_wp2
      go_ret
      exact ⟨ret_bool (arrs_end hlt hr), hold⟩

set_option maxHeartbeats 1000000 in
theorem refMay_size (m : Mach) (l : ML) (w : World) (hz : Hid (¬ sizeOk m)) :
    Calls Tryd.prog 16 #[mval m l] w fun e w' => e = .returned (.bool (mayB m)) ∧ Below w.heap.size w w' := by
  by_cases e1 : m.st < 1
  · have f1 : decide (m.st < 1) = true := by simpa using e1
    go_enter Tryd.func16, Tryd.ntmps16
    go_wp2
    go_ret
    exact ⟨ret_bool (mayB_no1 hz.out), (Below.refl _ _).alloc (Nat.le_refl _) _⟩
  · have f1 : decide (m.st < 1) = false := by simpa using e1
    by_cases e2 : 256 < m.st
    · have f2 : decide (256 < m.st) = true := by simpa using e2
      go_enter Tryd.func16, Tryd.ntmps16
      go_wp2
      go_ret
      exact ⟨ret_bool (mayB_no1 hz.out), (Below.refl _ _).alloc (Nat.le_refl _) _⟩
    · have f2 : decide (256 < m.st) = false := by simpa using e2
      by_cases e3 : m.ev < 0
      · have f3 : decide (m.ev < 0) = true := by simpa using e3
        go_enter Tryd.func16, Tryd.ntmps16
        go_wp2
        go_ret
        exact ⟨ret_bool (mayB_no1 hz.out), (Below.refl _ _).alloc (Nat.le_refl _) _⟩
      · have f3 : decide (m.ev < 0) = false := by simpa using e3
        by_cases e4 : 8 < m.ev
        · have f4 : decide (8 < m.ev) = true := by simpa using e4
          go_enter Tryd.func16, Tryd.ntmps16
          go_wp2
          go_ret
          exact ⟨ret_bool (mayB_no1 hz.out), (Below.refl _ _).alloc (Nat.le_refl _) _⟩
        · have f4 : decide (8 < m.ev) = false := by simpa using e4
          by_cases e5 : (4096 : Int) < (m.arrows.length : Int)
          · have f5 : decide ((4096 : Int) < (m.arrows.length : Int)) = true := by simpa using e5
            go_enter Tryd.func16, Tryd.ntmps16
            go_wp2
            go_ret
            exact ⟨ret_bool (mayB_no1 hz.out), (Below.refl _ _).alloc (Nat.le_refl _) _⟩
          · exact absurd (show sizeOk m by unfold sizeOk; omega) hz.out

set_option maxHeartbeats 1000000 in
theorem refMay_starts (m : Mach) (l : ML) (w : World) (h : MAt w m l) (hz : Hid (sizeOk m)) (hs : Hid (rowB m.st m.starts = false)) :
    Calls Tryd.prog 16 #[mval m l] w fun e w' => e = .returned (.bool (mayB m)) ∧ Below w.heap.size w w' := by
  obtain ⟨z1, z2, z3, z4, z5⟩ := hz.out
  have b0 : Below w.heap.size w (w.alloc (.cells (mcells m l) 25)) := (Below.refl _ _).alloc (Nat.le_refl _) _
  have h' := h.below b0 (Nat.le_refl _)
  have l1 : m.starts.length ≤ maxLen := Nat.le_trans h.s1 h.s2
  have d1 : decide (m.st < 1) = false := by simp; omega
  have d2 : decide (256 < m.st) = false := by simp; omega
  have d3 : decide (m.ev < 0) = false := by simp; omega
  have d4 : decide (8 < m.ev) = false := by simp; omega
  have d5 : decide ((4096 : Int) < (m.arrows.length : Int)) = false := by simp; omega
  go_enter Tryd.func16, Tryd.ntmps16
  go_wp2_with fail
  refine (refIs_any l.a1 l.c1 m.starts m.st _ h'.s l1).mono ?_
  rintro e w1 ⟨rfl, q1, rfl⟩
  rw [hs.out]
  go_wp2
  go_ret
  exact ⟨ret_bool (mayB_no2 hs.out), below_drewN b0 _⟩

set_option maxHeartbeats 1000000 in
theorem refMay_ends (m : Mach) (l : ML) (w : World) (h : MAt w m l) (hz : Hid (sizeOk m)) (hs : Hid (rowB m.st m.starts = true)) (he : Hid (rowB m.st m.ends = false)) :
    Calls Tryd.prog 16 #[mval m l] w fun e w' => e = .returned (.bool (mayB m)) ∧ Below w.heap.size w w' := by
  obtain ⟨z1, z2, z3, z4, z5⟩ := hz.out
  have b0 : Below w.heap.size w (w.alloc (.cells (mcells m l) 25)) := (Below.refl _ _).alloc (Nat.le_refl _) _
  have h' := h.below b0 (Nat.le_refl _)
  have l1 : m.starts.length ≤ maxLen := Nat.le_trans h.s1 h.s2
  have l3 : m.ends.length ≤ maxLen := Nat.le_trans h.e1 h.e2
  have d1 : decide (m.st < 1) = false := by simp; omega
  have d2 : decide (256 < m.st) = false := by simp; omega
  have d3 : decide (m.ev < 0) = false := by simp; omega
  have d4 : decide (8 < m.ev) = false := by simp; omega
  have d5 : decide ((4096 : Int) < (m.arrows.length : Int)) = false := by simp; omega
  go_enter Tryd.func16, Tryd.ntmps16
  go_wp2_with fail
  refine (refIs_any l.a1 l.c1 m.starts m.st _ h'.s l1).mono ?_
  rintro e w1 ⟨rfl, q1, rfl⟩
  rw [hs.out]
  go_wp2_with fail
  refine (refIs_any l.a3 l.c3 m.ends m.st _ (At.drewN h'.e q1) l3).mono ?_
  rintro e w1 ⟨rfl, q2, rfl⟩
  rw [he.out]
  go_wp2
  go_ret
  exact ⟨ret_bool (mayB_no3 he.out), below_drewN b0 _⟩

set_option maxHeartbeats 1000000 in
theorem refMay_none (st ev : Int) (starts ends : List Int) (l : ML) (w : World) (h : MAt w ⟨st, ev, starts, [], ends⟩ l) (hz : Hid (sizeOk ⟨st, ev, starts, [], ends⟩)) (hs : Hid (rowB st starts = true)) (he : Hid (rowB st ends = true)) :
    Calls Tryd.prog 16 #[mval ⟨st, ev, starts, [], ends⟩ l] w fun e w' => e = .returned (.bool (mayB ⟨st, ev, starts, [], ends⟩)) ∧ Below w.heap.size w w' := by
  obtain ⟨z1, z2, z3, z4, z5⟩ := hz.out
  have b0 : Below w.heap.size w (w.alloc (.cells (mcells ⟨st, ev, starts, [], ends⟩ l) 25)) := (Below.refl _ _).alloc (Nat.le_refl _) _
  have h' := h.below b0 (Nat.le_refl _)
  have l1 : starts.length ≤ maxLen := Nat.le_trans h.s1 h.s2
  have l3 : ends.length ≤ maxLen := Nat.le_trans h.e1 h.e2
  have HG : Hid (true = mayB ⟨st, ev, starts, [], ends⟩) := (mayB_go hz.out hs.out he.out).symm
  have d1 : decide (st < 1) = false := by simp; omega
  have d2 : decide (256 < st) = false := by simp; omega
  have d3 : decide (ev < 0) = false := by simp; omega
  have d4 : decide (8 < ev) = false := by simp; omega
  go_enter Tryd.func16, Tryd.ntmps16
  go_wp2_with fail
  refine (refIs_any l.a1 l.c1 starts st _ h'.s l1).mono ?_
  rintro e w1 ⟨rfl, q1, rfl⟩
  rw [hs.out]
  go_wp2_with fail
  refine (refIs_any l.a3 l.c3 ends st _ (At.drewN h'.e q1) l3).mono ?_
  rintro e w1 ⟨rfl, q2, rfl⟩
  rw [he.out]
  go_wp2_with fail
  refine wp_loop_rounds 1 ?_
  rw [rounds_succ]
  go_wp2
  go_ret
  exact ⟨ret_bool HG.out, below_drewN b0 _⟩

theorem refMay_any (m : Mach) (l : ML) (w : World) (h : MAt w m l) :
    Calls Tryd.prog 16 #[mval m l] w fun e w' => e = .returned (.bool (mayB m)) ∧ Below w.heap.size w w' := by
  by_cases hz : sizeOk m
  · by_cases hs : rowB m.st m.starts = true
    · by_cases he : rowB m.st m.ends = true
      · obtain ⟨st, ev, starts, arrows, ends⟩ := m
        obtain ⟨a1, c1, a2, c2, a3, c3⟩ := l
        rcases h.a with h0 | ⟨b, off, h0, hb, hc⟩
        · have h0 : arrows = [] := h0
          subst h0
          exact refMay_none st ev starts ends _ w h hz hs he
        · have h0 : a2 = some ⟨b, off, none⟩ := h0
          subst h0
          exact refMay_big _ a1 c1 b off c2 a3 c3 w h hb hc hz hs he
      · exact refMay_ends m l w h hz hs (by show _ = _; rw [← Bool.not_eq_true]; exact he)
    · exact refMay_starts m l w h hz (by show _ = _; rw [← Bool.not_eq_true]; exact hs)
  · exact refMay_size m l w hz

end Go.Proofs.YtbdkaobbfmgnhaaDoor
