/-
  The walk of machine.arrowsMay.
-/
import Derived.Test.YtbdkaobbfmgnhaaDoorG08
namespace Go.Proofs.YtbdkaobbfmgnhaaDoor
open Go.RowKit
set_option linter.unusedVariables false

/-- At most MaxArrows arrows, and all as B1 asks. -/
def arrsB (m : Mach) : Bool := decide (m.arrows.length ≤ 4096) && arrsFrom m.st m.ev none m.arrows

/-- What the walk knows at each round: the machine's box and the boxes of the two closures. -/
structure AM (W : World) (B : Nat) (m : Mach) (l : ML) : Prop where
  box : Blk W B 25 (mcells m l)
  s : Boxed W (B + 1) 3 (.int .i64 m.st)
  e : Boxed W (B + 2) 3 (.int .i64 m.ev)
theorem AM.below {W W' : World} {B C : Nat} {m : Mach} {l : ML} (h : AM W B m l) (hb : Below C W W') (hC : B + 2 < C) : AM W' B m l :=
  ⟨h.box.below hb (by omega), (hb.block _ (by omega)).trans h.s, (hb.block _ (by omega)).trans h.e⟩

set_option maxRecDepth 100000 in
set_option maxHeartbeats 4000000 in
theorem arrowsMay_big (m : Mach) (l : ML) (w : World) (hlen : 4096 < m.arrows.length) (hl : m.arrows.length ≤ 9223372036854775807) :
    Calls Tryd.prog 47 #[mval m l] w fun e w' => e = .returned (.bool (arrsB m)) ∧ Below w.heap.size w w' := by
  have hr : Hid (false = arrsB m) := by show _ = _; simp [arrsB]; omega
  go_enter Tryd.func47, Tryd.ntmps47
  go_wp2
  go_ret
  exact ⟨ret_bool hr.out, (Below.refl _ _).alloc (Nat.le_refl _) _⟩

set_option maxRecDepth 100000 in
set_option maxHeartbeats 4000000 in
theorem arrowsMay_some (m : Mach) (a1 : Option Addr) (c1 b off c2 : Nat) (a3 : Option Addr) (c3 : Nat) (w : World) (hlen : m.arrows.length ≤ 4096) (hb : b < w.heap.size) (hca : CellsA w b off m.arrows) :
    Calls Tryd.prog 47 #[mval m ⟨a1, c1, some ⟨b, off, none⟩, c2, a3, c3⟩] w fun e w' => e = .returned (.bool (arrsB m)) ∧ Below w.heap.size w w' := by
  have hr0 : Hid (arrsB m = arrsFrom m.st m.ev (lastA m.arrows 0) (m.arrows.drop 0)) := by show _ = _; simp [arrsB, hlen, lastA]
  have K1 := Hid.of (Blk.new w 25 (mcells m ⟨a1, c1, some ⟨b, off, none⟩, c2, a3, c3⟩))
  have HB : Hid (Below w.heap.size w (w.alloc (.cells (mcells m ⟨a1, c1, some ⟨b, off, none⟩, c2, a3, c3⟩) 25))) := (Below.refl _ _).alloc (Nat.le_refl _) _
  have HS : Hid ((w.alloc (.cells (mcells m ⟨a1, c1, some ⟨b, off, none⟩, c2, a3, c3⟩) 25)).heap.size = w.heap.size + 1) := World.size_alloc _ _
  have hd : decide ((4096 : Int) < (m.arrows.length : Int)) = false := by simp; omega
  go_enter Tryd.func47, Tryd.ntmps47
  go_wp2
  revert K1 HB HS
  generalize w.alloc (.cells (mcells m ⟨a1, c1, some ⟨b, off, none⟩, c2, a3, c3⟩) 25) = V
  intro K1 HB HS
  have x0 : V.cell? ⟨w.heap.size, 0, none⟩ = some (.int .i64 m.st) := K1.out.cell 0 rfl
  have x1 : V.cell? ⟨w.heap.size, 1, none⟩ = some (.int .i64 m.ev) := K1.out.cell 1 rfl
  have hs := HS.out
  have n1 := World.new_ne V _ x0
  have n2 : w.heap.size < V.heap.size := by omega
  go_region_held3 (fun w' => w'.cell? ⟨w.heap.size, 0, none⟩ = some (.int .i64 m.st) ∧ w'.cell? ⟨w.heap.size, 1, none⟩ = some (.int .i64 m.ev)) (go_keep) (first | (go_at_call 91; refine (within_any _ _).mono ?_; rintro e w1 ⟨rfl, rfl⟩))
  have A0 : Hid (AM (((V.alloc (.cells #[.int .i64 m.st] 3)).alloc (.cells #[.int .i64 m.ev] 3)).drew) w.heap.size m ⟨a1, c1, some ⟨b, off, none⟩, c2, a3, c3⟩) := by
    refine ⟨(K1.out.alloc _).alloc _, ?_, ?_⟩
    · have := (Boxed.new V 3 (.int .i64 m.st)).alloc (.cells #[.int .i64 m.ev] 3)
      rw [hs] at this; exact this
    · have := Boxed.new (V.alloc (.cells #[.int .i64 m.st] 3)) 3 (.int .i64 m.ev)
      rw [World.size_alloc, hs] at this; exact this
  have HB2 : Hid (Below w.heap.size w (((V.alloc (.cells #[.int .i64 m.st] 3)).alloc (.cells #[.int .i64 m.ev] 3)).drew)) := ((HB.out.alloc HB.out.size _).alloc (by simp; omega) _).drew
  have HS2 : Hid ((((V.alloc (.cells #[.int .i64 m.st] 3)).alloc (.cells #[.int .i64 m.ev] 3)).drew).heap.size = w.heap.size + 3) := by
    show ((V.alloc _).alloc _).heap.size = _
    rw [World.size_alloc, World.size_alloc, hs]
  clear K1 HB HS x0 x1 hs n1 n2
  revert A0 HB2 HS2
  generalize ((V.alloc (.cells #[.int .i64 m.st] 3)).alloc (.cells #[.int .i64 m.ev] 3)).drew = U
  intro A0 HB2 HS2
  have x3 : U.cell? ⟨w.heap.size, 3, none⟩ = some (.slice (some ⟨b, off, none⟩) m.arrows.length c2) := A0.out.box.cell 3 rfl
  go_wp2
  go_loopw [20] (fun i wr => ∃ k : Nat, k ≤ m.arrows.length ∧ i = .int .i64 k ∧ Below (w.heap.size + 3) U wr ∧ Hid (arrsB m = arrsFrom m.st m.ev (lastA m.arrows k) (m.arrows.drop k))) (fun i _ => m.arrows.length - (intOf i).toNat)
  case atStart => exact ⟨0, Nat.zero_le _, rfl, Below.refl _ _, hr0⟩
  case round =>
    obtain ⟨k, hk, rfl, hbel, hr⟩ := hrel
    have hW : Hid (Below w.heap.size w wr) := HB2.out.trans (hbel.mono (by omega))
    by_cases hlt : k < m.arrows.length
    · obtain ⟨a, HA, y1, y2, y3⟩ := hca.at hlt
      have z1 := (hW.out.cell (p := ⟨b, off + k * 3, none⟩) hb).trans y1
      have z2 := (hW.out.cell (p := ⟨b, off + k * 3 + 1, none⟩) hb).trans y2
      have z3 := (hW.out.cell (p := ⟨b, off + k * 3 + 2, none⟩) hb).trans y3
      clear y1 y2 y3
      have hsw : w.heap.size + 3 ≤ wr.heap.size := by have := hbel.size; have := HS2.out; omega
      have hbX : Hid (Below (w.heap.size + 3) U (wr.alloc (.cells (acells a) 58))) := hbel.alloc hsw _
      have AX := Hid.of (A0.out.below hbX.out (by omega))
      have hA6 := Hid.of (Blk.new wr 58 (acells a))
      have s1 : (wr.alloc (.cells (acells a) 58)).cell? ⟨w.heap.size + 1, 0, none⟩ = some (.int .i64 m.st) := AX.out.s.cell
      have s2 : (wr.alloc (.cells (acells a) 58)).cell? ⟨w.heap.size + 2, 0, none⟩ = some (.int .i64 m.ev) := AX.out.e.cell
      have HW2 : Hid (Below w.heap.size w (wr.alloc (.cells (acells a) 58))) := hW.out.alloc hW.out.size _
      have HZ : Hid ((wr.alloc (.cells (acells a) 58)).heap.size = wr.heap.size + 1) := World.size_alloc _ _
      by_cases e1 : inB m.st a.f = true
      · by_cases e2 : inB m.ev a.e = true
        · by_cases e3 : inB m.st a.t = true
          · have HIN : Hid (arrIn m.st m.ev a) := by
              have g1 : 0 ≤ a.f ∧ a.f < m.st := of_decide_eq_true e1
              have g2 : 0 ≤ a.e ∧ a.e < m.ev := of_decide_eq_true e2
              have g3 : 0 ≤ a.t ∧ a.t < m.st := of_decide_eq_true e3
              exact ⟨g1.1, g1.2, g3.1, g3.2, g2.1, g2.2⟩
            by_cases e7 : k = 0
            · subst e7
              rw [Nat.zero_mul, Nat.add_zero] at z1 z2 z3
              go_wp2_with (go_at_call 121; refine (within1_any _ _ _ _ (by first | exact s1 | exact s2)).mono ?_; rintro e w1 ⟨rfl, rfl⟩)
              clear s1 s2 z1 z2 z3
              go_quiet (fail)
              go_wp2
              go_roundw
              case rel => exact ⟨0 + 1, by omega, by go_num, below_drewN hbX.out _, arrs_yes0 hlt HA hr HIN.out⟩
              case measure => simp [intOf]; omega
            · obtain ⟨j, rfl⟩ : ∃ j, k = j + 1 := ⟨k - 1, by omega⟩
              obtain ⟨p, HP, u0, u1, u2⟩ := hca.at (k := j) (by omega)
              have v0 := (HW2.out.cell (p := ⟨b, off + j * 3, none⟩) hb).trans u0
              have v1 := (HW2.out.cell (p := ⟨b, off + j * 3 + 1, none⟩) hb).trans u1
              have v2 := (HW2.out.cell (p := ⟨b, off + j * 3 + 2, none⟩) hb).trans u2
              have V0 := Hid.of v0
              have V1 := Hid.of v1
              have V2 := Hid.of v2
              clear u0 u1 u2 v0 v1 v2
              have f7 : decide (0 < (j : Int) + 1) = true := by simp
              go_wp2_with (go_at_call 121; refine (within1_any _ _ _ _ (by first | exact s1 | exact s2)).mono ?_; rintro e w1 ⟨rfl, rfl⟩)
              clear s1 s2 z1 z2 z3
              revert hbX AX hA6 HW2 HZ V0 V1 V2
              generalize wr.alloc (.cells (acells a) 58) = X
              intro hbX AX hA6 HW2 HZ V0 V1 V2
              have v0 := V0.out
              have v1 := V1.out
              have v2 := V2.out
              have c3' : X.cell? ⟨w.heap.size, 3, none⟩ = some (.slice (some ⟨b, off, none⟩) m.arrows.length c2) := AX.out.box.cell 3 rfl
              have q0 : X.cell? ⟨wr.heap.size, 0, none⟩ = some (.int .i64 a.f) := hA6.out.cell 0 rfl
              have q1 : X.cell? ⟨wr.heap.size, 1, none⟩ = some (.int .i64 a.e) := hA6.out.cell 1 rfl
              have q2 : X.cell? ⟨wr.heap.size, 2, none⟩ = some (.int .i64 a.t) := hA6.out.cell 2 rfl
              have hzX := HZ.out
              have ib2 : j < m.arrows.length := by omega
              have wj : IntKind.i64.wrap (j : Int) = (j : Int) := by rw [IntKind.wrap_i64]; omega
              have hcmp := Hid.of (cmpA_ahead p a)
              go_region_held3 (fun w' => w'.cell? ⟨w.heap.size, 3, none⟩ = some (.slice (some ⟨b, off, none⟩) m.arrows.length c2) ∧ w'.cell? ⟨wr.heap.size, 0, none⟩ = some (.int .i64 a.f) ∧ w'.cell? ⟨wr.heap.size, 1, none⟩ = some (.int .i64 a.e) ∧ w'.cell? ⟨wr.heap.size, 2, none⟩ = some (.int .i64 a.t) ∧ w'.cell? ⟨b, off + j * 3, none⟩ = some (.int .i64 p.f) ∧ w'.cell? ⟨b, off + j * 3 + 1, none⟩ = some (.int .i64 p.e) ∧ w'.cell? ⟨b, off + j * 3 + 2, none⟩ = some (.int .i64 p.t)) (go_keep) (first | (go_at_call 92; refine (compare_any p a _).mono ?_; rintro e w1 ⟨rfl, hb1⟩; have g0 := (hb1.cell (p := ⟨b, off + j * 3, none⟩) (show b < X.heap.size by omega)).trans v0; have g1 := (hb1.cell (p := ⟨b, off + j * 3 + 1, none⟩) (show b < X.heap.size by omega)).trans v1; have g2 := (hb1.cell (p := ⟨b, off + j * 3 + 2, none⟩) (show b < X.heap.size by omega)).trans v2; have g3 := (hb1.cell (p := ⟨w.heap.size, 3, none⟩) (show w.heap.size < X.heap.size by omega)).trans c3'; have g4 := (hb1.cell (p := ⟨wr.heap.size, 0, none⟩) (show wr.heap.size < X.heap.size by omega)).trans q0; have g5 := (hb1.cell (p := ⟨wr.heap.size, 1, none⟩) (show wr.heap.size < X.heap.size by omega)).trans q1; have g6 := (hb1.cell (p := ⟨wr.heap.size, 2, none⟩) (show wr.heap.size < X.heap.size by omega)).trans q2))
              have hU : Hid (Below (w.heap.size + 3) U w1) := hbX.out.drew.trans (hb1.mono (show _ ≤ X.heap.size by omega))
              clear v0 v1 v2 c3' q0 q1 q2 g0 g1 g2 g3 g4 g5 g6 wj ib2 hb1
              by_cases hh : aheadB p a = true
              · have hg : decide (0 ≤ cmpA p a) = false := by rw [hcmp.out, hh]; rfl
                have HH := Hid.of hh
                have hg1 : ¬ 0 ≤ cmpA p a := of_decide_eq_false hg
                have hg2 : cmpA p a < 0 := by omega
                clear hh
                go_wp2
                go_roundw
                case rel => exact ⟨j + 1 + 1, by omega, by go_num, hU.out, arrs_yes hlt HA HP hr HIN.out HH.out⟩
                case measure => simp [intOf]; omega
              · have hh : aheadB p a = false := by simpa using hh
                have hg : decide (0 ≤ cmpA p a) = true := by rw [hcmp.out, hh]; rfl
                have HH := Hid.of hh
                have hg1 : 0 ≤ cmpA p a := of_decide_eq_true hg
                clear hh
                go_wp2
                go_ret
                exact ⟨ret_bool (arrs_no2 hlt HA HP hr HH.out), HB2.out.trans (hU.out.mono (by omega))⟩
          · have e3 : inB m.st a.t = false := by simpa using e3
            have hnot : Hid (¬ arrIn m.st m.ev a) := fun h => by have g := of_decide_eq_false e3; unfold arrIn at h; omega
            go_wp2_with (go_at_call 121; refine (within1_any _ _ _ _ (by first | exact s1 | exact s2)).mono ?_; rintro e w1 ⟨rfl, rfl⟩)
            go_ret
            exact ⟨ret_bool (arrs_no hlt HA hr hnot.out), HW2.out⟩
        · have e2 : inB m.ev a.e = false := by simpa using e2
          have hnot : Hid (¬ arrIn m.st m.ev a) := fun h => by have g := of_decide_eq_false e2; unfold arrIn at h; omega
          go_wp2_with (go_at_call 121; refine (within1_any _ _ _ _ (by first | exact s1 | exact s2)).mono ?_; rintro e w1 ⟨rfl, rfl⟩)
          go_ret
          exact ⟨ret_bool (arrs_no hlt HA hr hnot.out), HW2.out⟩
      · have e1 : inB m.st a.f = false := by simpa using e1
        have hnot : Hid (¬ arrIn m.st m.ev a) := fun h => by have g := of_decide_eq_false e1; unfold arrIn at h; omega
        go_wp2_with (go_at_call 121; refine (within1_any _ _ _ _ (by first | exact s1 | exact s2)).mono ?_; rintro e w1 ⟨rfl, rfl⟩)
        go_ret
        exact ⟨ret_bool (arrs_no hlt HA hr hnot.out), HW2.out⟩
    · go_wp2
      go_ret
      exact ⟨ret_bool (arrs_end hlt (show Hid (arrsB m = _) from hr)), hW.out⟩

set_option maxRecDepth 100000 in
set_option maxHeartbeats 4000000 in
theorem arrowsMay_none (st ev : Int) (starts ends : List Int) (l : ML) (w : World) :
    Calls Tryd.prog 47 #[mval ⟨st, ev, starts, [], ends⟩ l] w fun e w' => e = .returned (.bool (arrsB ⟨st, ev, starts, [], ends⟩)) ∧ Below w.heap.size w w' := by
  have K1 := Hid.of (Blk.new w 25 (mcells ⟨st, ev, starts, [], ends⟩ l))
  have HB : Hid (Below w.heap.size w (w.alloc (.cells (mcells ⟨st, ev, starts, [], ends⟩ l) 25))) := (Below.refl _ _).alloc (Nat.le_refl _) _
  have HS : Hid ((w.alloc (.cells (mcells ⟨st, ev, starts, [], ends⟩ l) 25)).heap.size = w.heap.size + 1) := World.size_alloc _ _
  go_enter Tryd.func47, Tryd.ntmps47
  go_wp2
  revert K1 HB HS
  generalize w.alloc (.cells (mcells ⟨st, ev, starts, [], ends⟩ l) 25) = V
  intro K1 HB HS
  have x0 : V.cell? ⟨w.heap.size, 0, none⟩ = some (.int .i64 st) := K1.out.cell 0 rfl
  have x1 : V.cell? ⟨w.heap.size, 1, none⟩ = some (.int .i64 ev) := K1.out.cell 1 rfl
  have x3 : V.cell? ⟨w.heap.size, 3, none⟩ = some (.slice l.a2 0 l.c2) := K1.out.cell 3 rfl
  have hs := HS.out
  have n1 := World.new_ne V _ x0
  have n2 : w.heap.size < V.heap.size := by omega
  go_region_held3 (fun w' => w'.cell? ⟨w.heap.size, 0, none⟩ = some (.int .i64 st) ∧ w'.cell? ⟨w.heap.size, 1, none⟩ = some (.int .i64 ev)) (go_keep) (first | (go_at_call 91; refine (within_any _ _).mono ?_; rintro e w1 ⟨rfl, rfl⟩))
  go_wp2
  refine wp_loop_rounds 1 ?_
  rw [rounds_succ]
  go_wp2
  go_ret
  exact ⟨rfl, ((HB.out.alloc HB.out.size _).alloc (by simp; omega) _).drew⟩

theorem arrowsMay_any (m : Mach) (l : ML) (w : World) (h : MAt w m l) :
    Calls Tryd.prog 47 #[mval m l] w fun e w' => e = .returned (.bool (arrsB m)) ∧ Below w.heap.size w w' := by
  by_cases hl : m.arrows.length ≤ 4096
  · obtain ⟨st, ev, starts, arrows, ends⟩ := m
    obtain ⟨a1, c1, a2, c2, a3, c3⟩ := l
    rcases h.a with h0 | ⟨b, off, h0, hb, hc⟩
    · have h0 : arrows = [] := h0
      subst h0
      exact arrowsMay_none st ev starts ends _ w
    · have h0 : a2 = some ⟨b, off, none⟩ := h0
      subst h0
      exact arrowsMay_some _ a1 c1 b off c2 a3 c3 w hl hb hc
  · have := h.a1
    have := h.a2
    unfold maxLen at this
    exact arrowsMay_big m l w (by omega) (by omega)

end Go.Proofs.YtbdkaobbfmgnhaaDoor
