/-
  The walk of control.spoil: what is lost.
-/
import Derived.Deep.LoopGhost
import Derived.Deep.RegionHeld3
import Derived.Test.YtmlkpdeidpcidaaDoorJ14
import Derived.Test.YtmlkpdeidpcidaaDoorFSetOps
import Derived.Test.YtmlkpdeidpcidaaDoorJ10
import Derived.Test.YtmlkpdeidpcidaaDoorJ12
import Derived.Test.YtmlkpdeidpcidaaDoorJ21
namespace Go.Proofs.YtmlkpdeidpcidaaDoor
open Go.RowKit
set_option linter.unusedVariables false

theorem run_equalIn_two (S T : Nat → Nat) (w : World) : (Op.equalIn 10000 85 (sval S) (sval T)).run Tryd.prog w = .ok (sameC S T) w := by
  obtain ⟨i0, hi, hz0, hz1, hz2⟩ := info_parts Tryd.infoU64
  rw [run_equalIn_array w 9999 _ _ Tryd.underlying85 hi]
  have hc : Tryd.prog.cellsOf 83 = 1 := by kernel_rfl
  have hl : List.range 4 = [0, 1, 2, 3] := rfl
  rw [hc, hl]
  unfold sameC
  by_cases h0 : S 0 = T 0 <;> by_cases h1 : S 1 = T 1 <;> by_cases h2 : S 2 = T 2 <;> by_cases h3 : S 3 = T 3 <;> (simp [Op.eqItems, go_sem, h0, h1, h2, h3]; try (intros; omega))

set_option maxRecDepth 100000 in
set_option maxHeartbeats 4000000 in
theorem spoil_any (N : Nat) (T : Nat → Nat → Nat) (L0 : Nat → Nat) (b : Nat) (w : World) (hN : N ≤ 256) (hT : Hid (∀ n, okS (T n))) (h0 : Hid (okS L0)) (hTB : Hid (TB w b N T)) :
    Calls Tryd.prog 195 #[sval L0, .slice (some ⟨b, 0, none⟩) N N] w fun e w' => (∃ L, e = .returned (sval L) ∧ SpIC N T L0 L ∧ ∀ n, n < N → hasS L n = false → meetB (T n) L = false) ∧ Below w.heap.size w w' := by
  have hgd := run_guard_set
  have B0 : Hid (Below w.heap.size w ((w.alloc (.cells (scells L0) 85)).alloc (.cells #[.int .u64 0, .int .u64 0, .int .u64 0, .int .u64 0] 85))) := ((Below.refl _ _).alloc (Nat.le_refl _) _).alloc (by simp) _
  have K2 : Hid (SB ((w.alloc (.cells (scells L0) 85)).alloc (.cells #[.int .u64 0, .int .u64 0, .int .u64 0, .int .u64 0] 85)) w.heap.size L0) := (Blk.new w _ _).alloc _
  have K4 : Hid (SB ((w.alloc (.cells (scells L0) 85)).alloc (.cells #[.int .u64 0, .int .u64 0, .int .u64 0, .int .u64 0] 85)) (w.heap.size + 1) zeroS) := by
    have := Blk.new (w.alloc (.cells (scells L0) 85)) 85 #[.int .u64 0, .int .u64 0, .int .u64 0, .int .u64 0]
    rwa [World.size_alloc] at this
  have hbw := hTB.out.lt
  go_enter Tryd.func195, Tryd.ntmps195
  go_wp2
  go_step3
  go_wp2
  go_step3
  go_wp2
  revert B0 K2 K4
  generalize ((w.alloc (.cells (scells L0) 85)).alloc (.cells #[.int .u64 0, .int .u64 0, .int .u64 0, .int .u64 0] 85)) = V
  intro B0 K2 K4
  go_loopg [] (cntF N L0) (fun g wx => ∃ L, Hid (cntF N L = g) ∧ Hid (SpIC N T L0 L) ∧ Hid (SB wx w.heap.size L) ∧ Hid (SB wx (w.heap.size + 1) zeroS) ∧ Hid (Below w.heap.size w wx))
  case atStart => exact ⟨L0, rfl, SpIC.start h0.out, K2, K4, B0⟩
  case round =>
    clear B0 K2 K4
    obtain ⟨L, HC, HI, KL, KZ, BW⟩ := hrel
    go_wp2
    go_loopg [9] N (fun g2 s9 wy => ∃ j : Nat, j + g2 = N ∧ s9 = .int .i64 (j : Int) ∧ Hid (∀ n, n < j → hasS L n = false → meetB (T n) L = false) ∧ Hid (SB wy w.heap.size L) ∧ Hid (SB wy (w.heap.size + 1) zeroS) ∧ Hid (Below w.heap.size w wy))
    case atStart => exact ⟨0, by omega, rfl, fun n hn => absurd hn (by omega), KL, KZ, BW⟩
    case round =>
      clear KL KZ BW
      obtain ⟨j, hj, rfl, HB, KL, KZ, BW⟩ := hrel
      obtain ⟨s0, s1, s2, s3⟩ := SB.cells KL.out
      cases gk with
      | zero =>
        have hjz : ¬ ((j : Int) < (N : Int)) := by omega
        obtain ⟨z0, z1, z2, z3⟩ := SB.cells KZ.out
        have rz := KZ.out.frozen
        have k2 := Hid.of (SB.set4 KZ.out L)
        have k3 := Hid.of (below_set4 BW.out (b' := w.heap.size + 1) (by omega) (.int .u64 (L 0)) (.int .u64 (L 1)) (.int .u64 (L 2)) (.int .u64 (L 3)))
        go_wp2
        refine bodyPost_ret (v := sval L) ?_ rfl ⟨⟨L, rfl, HI.out, fun n hn => HB.out n (by omega)⟩, k3.out⟩
        obtain ⟨y0, y1, y2, y3⟩ := SB.cells k2.out
        simp [results, go_sem, y0, y1, y2, y3]
      | succ g2 =>
        have hjz : ((j : Int) < (N : Int)) := by omega
        have hok := Hid.of HI.out.ok
        have hlt := KL.out.lt
        go_wp2_with fail
        refine (with_any L (j : Int) _ hok.out (by omega) (by omega)).mono ?_
        rintro e w1 ⟨rfl, hb⟩
        rw [Int.toNat_natCast]
        obtain ⟨M, HM⟩ : ∃ M, Hid (M = withS L j) := ⟨_, rfl⟩
        rw [← HM.out]
        have KL1 := Hid.of ((KL.out.below hb KL.out.lt).alloc (.cells #[.int .u64 (M 0), .int .u64 (M 1), .int .u64 (M 2), .int .u64 (M 3)] 85))
        have KZ1 := Hid.of ((KZ.out.below hb KZ.out.lt).alloc (.cells #[.int .u64 (M 0), .int .u64 (M 1), .int .u64 (M 2), .int .u64 (M 3)] 85))
        have KM1 : Hid (SB (w1.alloc (.cells #[.int .u64 (M 0), .int .u64 (M 1), .int .u64 (M 2), .int .u64 (M 3)] 85)) w1.heap.size M) := Blk.new w1 85 _
        have BW1 := Hid.of ((BW.out.trans (hb.mono (Nat.le_of_lt (Nat.lt_of_lt_of_le (Nat.lt_of_lt_of_le KL.out.lt (Nat.le_refl _)) (Nat.le_refl _))))).alloc (Nat.le_trans (Nat.le_of_lt hlt) hb.size) (.cells #[.int .u64 (M 0), .int .u64 (M 1), .int .u64 (M 2), .int .u64 (M 3)] 85))
        clear s0 s1 s2 s3 hb KL KZ BW
        go_wp2
        revert KL1 KZ1 KM1 BW1
        generalize w1.alloc (.cells #[.int .u64 (M 0), .int .u64 (M 1), .int .u64 (M 2), .int .u64 (M 3)] 85) = W1
        obtain ⟨bM, hbM⟩ : ∃ bM, bM = w1.heap.size := ⟨_, rfl⟩
        rw [← hbM]
        intro KL1 KZ1 KM1 BW1
        obtain ⟨s0, s1, s2, s3⟩ := SB.cells KL1.out
        obtain ⟨m0, m1, m2, m3⟩ := SB.cells KM1.out
        obtain ⟨t0, t1, t2, t3⟩ := (hTB.out.below BW1.out hbw).cells (p := j) (by omega)
        have hsm : sameC M L = hasS L j := by rw [HM.out]; exact same_with (by omega)
        cases hh : hasS L j with
        | true =>
          rw [hh] at hsm
          have heq : ∀ V, (Op.equalIn 10000 85 (.agg #[.int .u64 (M 0), .int .u64 (M 1), .int .u64 (M 2), .int .u64 (M 3)]) (.agg #[.int .u64 (L 0), .int .u64 (L 1), .int .u64 (L 2), .int .u64 (L 3)])).run Tryd.prog V = .ok true V := fun V => by rw [← hsm]; exact run_equalIn_two M L V
          have HH := Hid.of hh
          clear hsm hh hbM
          go_quiet (fail)
          clear s0 s1 s2 s3 m0 m1 m2 m3 t0 t1 t2 t3 heq
          go_wp2
          go_roundg g2
          case measure => omega
          case rel => exact ⟨j + 1, by omega, by go_num, (fun n hn hf => by
            by_cases e : n = j
            · subst e; rw [HH.out] at hf; cases hf
            · exact HB.out n (by omega) hf), KL1, KZ1, below_drewN BW1.out _⟩
        | false =>
          rw [hh] at hsm
          have heq : ∀ V, (Op.equalIn 10000 85 (.agg #[.int .u64 (M 0), .int .u64 (M 1), .int .u64 (M 2), .int .u64 (M 3)]) (.agg #[.int .u64 (L 0), .int .u64 (L 1), .int .u64 (L 2), .int .u64 (L 3)])).run Tryd.prog V = .ok false V := fun V => by rw [← hsm]; exact run_equalIn_two M L V
          have HH := Hid.of hh
          have hok2 := Hid.of (hT.out j)
          have BWd := Hid.of BW1.out.drew
          have KLd : Hid (SB W1.drew w.heap.size L) := KL1.out
          have KZd : Hid (SB W1.drew (w.heap.size + 1) zeroS) := KZ1.out
          have KMd : Hid (SB W1.drew bM M) := KM1.out
          clear hsm hh hbM
          go_region_with (go_at_call 58; refine (meets_any (T j) L _ hok2.out hok.out).mono ?_; rintro e' w2 ⟨rfl, hb2⟩)
          all_goals
            have KL2 := Hid.of (KLd.out.below hb2 KLd.out.lt)
            have KZ2 := Hid.of (KZd.out.below hb2 KZd.out.lt)
            have KM2 := Hid.of (KMd.out.below hb2 KMd.out.lt)
            have BW2 := Hid.of (BWd.out.trans (hb2.mono BWd.out.size))
            clear s0 s1 s2 s3 m0 m1 m2 m3 t0 t1 t2 t3 heq hb2 KLd KZd KMd BWd KL1 KZ1 KM1 BW1
            cases hm : meetB (T j) L with
            | false =>
              have HM2 := Hid.of hm
              clear hm
              go_wp2
              go_roundg g2
              case measure => omega
              case rel => exact ⟨j + 1, by omega, by go_num, (fun n hn hf => by
                by_cases e : n = j
                · subst e; exact HM2.out
                · exact HB.out n (by omega) hf), KL2, KZ2, BW2⟩
            | true =>
              have HM2 := Hid.of hm
              clear hm
              obtain ⟨m0, m1, m2, m3⟩ := SB.cells KM2.out
              obtain ⟨s0, s1, s2, s3⟩ := SB.cells KL2.out
              have fz := KL2.out.frozen
              have KL3 := Hid.of (SB.set4 KL2.out M)
              have KZ3 := Hid.of (Blk.other4 KZ2.out (b' := w.heap.size) (by omega) (.int .u64 (M 0)) (.int .u64 (M 1)) (.int .u64 (M 2)) (.int .u64 (M 3)))
              have BW3 := Hid.of (below_set4 BW2.out (b' := w.heap.size) (Nat.le_refl _) (.int .u64 (M 0)) (.int .u64 (M 1)) (.int .u64 (M 2)) (.int .u64 (M 3)))
              go_wp2
              go_roundg (cntF N M)
              case measure => rw [← HC.out, HM.out]; exact cnt_lt (by omega) HH.out
              case rel => exact ⟨M, rfl, by rw [HM.out]; exact SpIC.more HI.out hT.out (by omega) HM2.out, KL3, KZ3, BW3⟩

end Go.Proofs.YtmlkpdeidpcidaaDoor
