/-
  The walks of Set.With, Set.Meets and machine.Of.
-/
import Derived.Test.YtbdkaobbfmgnhaaDoorG10
namespace Go.Proofs.YtbdkaobbfmgnhaaDoor
open Go.RowKit
set_option linter.unusedVariables false

theorem with_word {S : Nat → Nat} (h : okS S) (k r : Nat) (hr : r < 64) : bits .or .u64 (S k : Int) (IntKind.u64.wrap (2 ^ r)) = ((S k ||| 2 ^ r : Nat) : Int) := by
  have h2 : 2 ^ r < 2 ^ 64 := Nat.pow_lt_pow_right (by omega) hr
  have e : IntKind.u64.wrap (2 ^ r : Int) = ((2 ^ r : Nat) : Int) := by
    rw [IntKind.wrap_u64]
    have : ((2 : Int) ^ r) = ((2 ^ r : Nat) : Int) := by simp
    rw [this]
    generalize 2 ^ r = p at h2
    omega
  rw [e]
  exact bits_or_u64_nat _ _ (h k) (by omega)

theorem with_cells0 {S : Nat → Nat} {n : Int} {r : Nat} (h : okS S) (hr : r < 64) (hn : n = (0 : Int) + r) : (scells S).setIfInBounds 0 (.int .u64 (bits .or .u64 (S 0 : Int) (IntKind.u64.wrap (2 ^ r)))) = scells (withS S n.toNat) := by
  have e1 : n.toNat / 64 = 0 := by omega
  have e2 : n.toNat % 64 = r := by omega
  show (#[.int .u64 (bits .or .u64 (S 0 : Int) (IntKind.u64.wrap (2 ^ r))), .int .u64 (S 1), .int .u64 (S 2), .int .u64 (S 3)] : Array Value) = _
  rw [with_word h 0 r hr]
  simp [scells, withS, e1, e2]

set_option maxHeartbeats 2000000 in
theorem with0 (S : Nat → Nat) (n : Int) (r : Nat) (w : World) (h : okS S) (hr : r < 64) (hn : Hid (n = (0 : Int) + r)) (hq : n.tdiv 64 = 0) (hm : n.tmod 64 = (r : Int)) (hin : inB 256 n = true) :
    Calls Tryd.prog 95 #[sval S, .int .i64 n] w fun e w' => e = .returned (sval (withS S n.toNat)) ∧ Below w.heap.size w w' := by
  go_enter Tryd.func95, Tryd.ntmps95
  go_wp2_with (first | (go_at_call 91; refine (within_any 256 _).mono ?_; rintro e w' ⟨rfl, rfl⟩) | (go_at_call 121; refine (within1_any 256 n _ _ (by go_simp)).mono ?_; rintro e w' ⟨rfl, rfl⟩))
  have b1 : SB (((w.alloc (.cells (scells S) 62)).alloc (.cells #[.int .u64 0, .int .u64 0, .int .u64 0, .int .u64 0] 62)).alloc (.cells #[.int .i64 256] 3)) w.heap.size S := ((Blk.new w _ _).alloc _).alloc _
  have b2 : SB (((w.alloc (.cells (scells S) 62)).alloc (.cells #[.int .u64 0, .int .u64 0, .int .u64 0, .int .u64 0] 62)).alloc (.cells #[.int .i64 256] 3)) (w.heap.size + 1) zeroS := by
    have := (Blk.new (w.alloc (.cells (scells S) 62)) 62 (scells zeroS)).alloc (.cells #[.int .i64 256] 3)
    rwa [World.size_alloc] at this
  have hB : Below w.heap.size w (((w.alloc (.cells (scells S) 62)).alloc (.cells #[.int .u64 0, .int .u64 0, .int .u64 0, .int .u64 0] 62)).alloc (.cells #[.int .i64 256] 3)) := (((Below.refl _ _).alloc (Nat.le_refl _) _).alloc (by simp) _).alloc (by simp; omega) _
  revert b1 b2 hB
  generalize ((w.alloc (.cells (scells S) 62)).alloc (.cells #[.int .u64 0, .int .u64 0, .int .u64 0, .int .u64 0] 62)).alloc (.cells #[.int .i64 256] 3) = W
  intro b1 b2 hB
  obtain ⟨p0, p1, p2, p3⟩ := b1.cells
  have fz := b1.frozen
  go_region
  have c1 := b1.set 0 (.int .u64 (bits .or .u64 (S 0 : Int) (IntKind.u64.wrap (2 ^ r))))
  rw [with_cells0 h hr hn.out] at c1
  have c2 := b2.other (b' := w.heap.size) (j := 0) (by omega) (.int .u64 (bits .or .u64 (S 0 : Int) (IntKind.u64.wrap (2 ^ r))))
  have cB := hB.setCell (p := ⟨w.heap.size, 0, none⟩) (by simp) (.int .u64 (bits .or .u64 (S 0 : Int) (IntKind.u64.wrap (2 ^ r))))
  clear p0 p1 p2 p3 fz b1 b2 hB
  revert c1 c2 cB
  generalize W.setCell ⟨w.heap.size, 0, none⟩ (.int .u64 (bits .or .u64 (S 0 : Int) (IntKind.u64.wrap (2 ^ r)))) = V
  intro c1 c2 cB
  obtain ⟨p0, p1, p2, p3⟩ := SB.cells c1
  obtain ⟨r0, r1, r2, r3⟩ := SB.cells c2
  have fz3 := c2.frozen
  have k2 := Hid.of ((((c2.set 0 (.int .u64 (withS S n.toNat 0))).set 1 (.int .u64 (withS S n.toNat 1))).set 2 (.int .u64 (withS S n.toNat 2))).set 3 (.int .u64 (withS S n.toNat 3)))
  go_wp2
  have k1 := k2.out
  refine bodyPost_ret (v := sval (withS S n.toNat)) ?_ rfl ⟨rfl, ((((cB.setCell (p := ⟨w.heap.size + 1, 0, none⟩) (by simp) _).setCell (p := ⟨w.heap.size + 1, 1, none⟩) (by simp) _).setCell (p := ⟨w.heap.size + 1, 2, none⟩) (by simp) _).setCell (p := ⟨w.heap.size + 1, 3, none⟩) (by simp) _).drew⟩
  exact results_cell_row (g := w.heap.size + 1) (p := 4) rfl _ _ _ _ _ _ rfl k1 Tryd.underlying62 rfl (by kernel_rfl)

theorem with_cells1 {S : Nat → Nat} {n : Int} {r : Nat} (h : okS S) (hr : r < 64) (hn : n = (64 : Int) + r) : (scells S).setIfInBounds 1 (.int .u64 (bits .or .u64 (S 1 : Int) (IntKind.u64.wrap (2 ^ r)))) = scells (withS S n.toNat) := by
  have e1 : n.toNat / 64 = 1 := by omega
  have e2 : n.toNat % 64 = r := by omega
  show (#[.int .u64 (S 0), .int .u64 (bits .or .u64 (S 1 : Int) (IntKind.u64.wrap (2 ^ r))), .int .u64 (S 2), .int .u64 (S 3)] : Array Value) = _
  rw [with_word h 1 r hr]
  simp [scells, withS, e1, e2]

set_option maxHeartbeats 2000000 in
theorem with1 (S : Nat → Nat) (n : Int) (r : Nat) (w : World) (h : okS S) (hr : r < 64) (hn : Hid (n = (64 : Int) + r)) (hq : n.tdiv 64 = 1) (hm : n.tmod 64 = (r : Int)) (hin : inB 256 n = true) :
    Calls Tryd.prog 95 #[sval S, .int .i64 n] w fun e w' => e = .returned (sval (withS S n.toNat)) ∧ Below w.heap.size w w' := by
  go_enter Tryd.func95, Tryd.ntmps95
  go_wp2_with (first | (go_at_call 91; refine (within_any 256 _).mono ?_; rintro e w' ⟨rfl, rfl⟩) | (go_at_call 121; refine (within1_any 256 n _ _ (by go_simp)).mono ?_; rintro e w' ⟨rfl, rfl⟩))
  have b1 : SB (((w.alloc (.cells (scells S) 62)).alloc (.cells #[.int .u64 0, .int .u64 0, .int .u64 0, .int .u64 0] 62)).alloc (.cells #[.int .i64 256] 3)) w.heap.size S := ((Blk.new w _ _).alloc _).alloc _
  have b2 : SB (((w.alloc (.cells (scells S) 62)).alloc (.cells #[.int .u64 0, .int .u64 0, .int .u64 0, .int .u64 0] 62)).alloc (.cells #[.int .i64 256] 3)) (w.heap.size + 1) zeroS := by
    have := (Blk.new (w.alloc (.cells (scells S) 62)) 62 (scells zeroS)).alloc (.cells #[.int .i64 256] 3)
    rwa [World.size_alloc] at this
  have hB : Below w.heap.size w (((w.alloc (.cells (scells S) 62)).alloc (.cells #[.int .u64 0, .int .u64 0, .int .u64 0, .int .u64 0] 62)).alloc (.cells #[.int .i64 256] 3)) := (((Below.refl _ _).alloc (Nat.le_refl _) _).alloc (by simp) _).alloc (by simp; omega) _
  revert b1 b2 hB
  generalize ((w.alloc (.cells (scells S) 62)).alloc (.cells #[.int .u64 0, .int .u64 0, .int .u64 0, .int .u64 0] 62)).alloc (.cells #[.int .i64 256] 3) = W
  intro b1 b2 hB
  obtain ⟨p0, p1, p2, p3⟩ := b1.cells
  have fz := b1.frozen
  go_region
  have c1 := b1.set 1 (.int .u64 (bits .or .u64 (S 1 : Int) (IntKind.u64.wrap (2 ^ r))))
  rw [with_cells1 h hr hn.out] at c1
  have c2 := b2.other (b' := w.heap.size) (j := 1) (by omega) (.int .u64 (bits .or .u64 (S 1 : Int) (IntKind.u64.wrap (2 ^ r))))
  have cB := hB.setCell (p := ⟨w.heap.size, 1, none⟩) (by simp) (.int .u64 (bits .or .u64 (S 1 : Int) (IntKind.u64.wrap (2 ^ r))))
  clear p0 p1 p2 p3 fz b1 b2 hB
  revert c1 c2 cB
  generalize W.setCell ⟨w.heap.size, 1, none⟩ (.int .u64 (bits .or .u64 (S 1 : Int) (IntKind.u64.wrap (2 ^ r)))) = V
  intro c1 c2 cB
  obtain ⟨p0, p1, p2, p3⟩ := SB.cells c1
  obtain ⟨r0, r1, r2, r3⟩ := SB.cells c2
  have fz3 := c2.frozen
  have k2 := Hid.of ((((c2.set 0 (.int .u64 (withS S n.toNat 0))).set 1 (.int .u64 (withS S n.toNat 1))).set 2 (.int .u64 (withS S n.toNat 2))).set 3 (.int .u64 (withS S n.toNat 3)))
  go_wp2
  have k1 := k2.out
  refine bodyPost_ret (v := sval (withS S n.toNat)) ?_ rfl ⟨rfl, ((((cB.setCell (p := ⟨w.heap.size + 1, 0, none⟩) (by simp) _).setCell (p := ⟨w.heap.size + 1, 1, none⟩) (by simp) _).setCell (p := ⟨w.heap.size + 1, 2, none⟩) (by simp) _).setCell (p := ⟨w.heap.size + 1, 3, none⟩) (by simp) _).drew⟩
  exact results_cell_row (g := w.heap.size + 1) (p := 4) rfl _ _ _ _ _ _ rfl k1 Tryd.underlying62 rfl (by kernel_rfl)

theorem with_cells2 {S : Nat → Nat} {n : Int} {r : Nat} (h : okS S) (hr : r < 64) (hn : n = (128 : Int) + r) : (scells S).setIfInBounds 2 (.int .u64 (bits .or .u64 (S 2 : Int) (IntKind.u64.wrap (2 ^ r)))) = scells (withS S n.toNat) := by
  have e1 : n.toNat / 64 = 2 := by omega
  have e2 : n.toNat % 64 = r := by omega
  show (#[.int .u64 (S 0), .int .u64 (S 1), .int .u64 (bits .or .u64 (S 2 : Int) (IntKind.u64.wrap (2 ^ r))), .int .u64 (S 3)] : Array Value) = _
  rw [with_word h 2 r hr]
  simp [scells, withS, e1, e2]

set_option maxHeartbeats 2000000 in
theorem with2 (S : Nat → Nat) (n : Int) (r : Nat) (w : World) (h : okS S) (hr : r < 64) (hn : Hid (n = (128 : Int) + r)) (hq : n.tdiv 64 = 2) (hm : n.tmod 64 = (r : Int)) (hin : inB 256 n = true) :
    Calls Tryd.prog 95 #[sval S, .int .i64 n] w fun e w' => e = .returned (sval (withS S n.toNat)) ∧ Below w.heap.size w w' := by
  go_enter Tryd.func95, Tryd.ntmps95
  go_wp2_with (first | (go_at_call 91; refine (within_any 256 _).mono ?_; rintro e w' ⟨rfl, rfl⟩) | (go_at_call 121; refine (within1_any 256 n _ _ (by go_simp)).mono ?_; rintro e w' ⟨rfl, rfl⟩))
  have b1 : SB (((w.alloc (.cells (scells S) 62)).alloc (.cells #[.int .u64 0, .int .u64 0, .int .u64 0, .int .u64 0] 62)).alloc (.cells #[.int .i64 256] 3)) w.heap.size S := ((Blk.new w _ _).alloc _).alloc _
  have b2 : SB (((w.alloc (.cells (scells S) 62)).alloc (.cells #[.int .u64 0, .int .u64 0, .int .u64 0, .int .u64 0] 62)).alloc (.cells #[.int .i64 256] 3)) (w.heap.size + 1) zeroS := by
    have := (Blk.new (w.alloc (.cells (scells S) 62)) 62 (scells zeroS)).alloc (.cells #[.int .i64 256] 3)
    rwa [World.size_alloc] at this
  have hB : Below w.heap.size w (((w.alloc (.cells (scells S) 62)).alloc (.cells #[.int .u64 0, .int .u64 0, .int .u64 0, .int .u64 0] 62)).alloc (.cells #[.int .i64 256] 3)) := (((Below.refl _ _).alloc (Nat.le_refl _) _).alloc (by simp) _).alloc (by simp; omega) _
  revert b1 b2 hB
  generalize ((w.alloc (.cells (scells S) 62)).alloc (.cells #[.int .u64 0, .int .u64 0, .int .u64 0, .int .u64 0] 62)).alloc (.cells #[.int .i64 256] 3) = W
  intro b1 b2 hB
  obtain ⟨p0, p1, p2, p3⟩ := b1.cells
  have fz := b1.frozen
  go_region
  have c1 := b1.set 2 (.int .u64 (bits .or .u64 (S 2 : Int) (IntKind.u64.wrap (2 ^ r))))
  rw [with_cells2 h hr hn.out] at c1
  have c2 := b2.other (b' := w.heap.size) (j := 2) (by omega) (.int .u64 (bits .or .u64 (S 2 : Int) (IntKind.u64.wrap (2 ^ r))))
  have cB := hB.setCell (p := ⟨w.heap.size, 2, none⟩) (by simp) (.int .u64 (bits .or .u64 (S 2 : Int) (IntKind.u64.wrap (2 ^ r))))
  clear p0 p1 p2 p3 fz b1 b2 hB
  revert c1 c2 cB
  generalize W.setCell ⟨w.heap.size, 2, none⟩ (.int .u64 (bits .or .u64 (S 2 : Int) (IntKind.u64.wrap (2 ^ r)))) = V
  intro c1 c2 cB
  obtain ⟨p0, p1, p2, p3⟩ := SB.cells c1
  obtain ⟨r0, r1, r2, r3⟩ := SB.cells c2
  have fz3 := c2.frozen
  have k2 := Hid.of ((((c2.set 0 (.int .u64 (withS S n.toNat 0))).set 1 (.int .u64 (withS S n.toNat 1))).set 2 (.int .u64 (withS S n.toNat 2))).set 3 (.int .u64 (withS S n.toNat 3)))
  go_wp2
  have k1 := k2.out
  refine bodyPost_ret (v := sval (withS S n.toNat)) ?_ rfl ⟨rfl, ((((cB.setCell (p := ⟨w.heap.size + 1, 0, none⟩) (by simp) _).setCell (p := ⟨w.heap.size + 1, 1, none⟩) (by simp) _).setCell (p := ⟨w.heap.size + 1, 2, none⟩) (by simp) _).setCell (p := ⟨w.heap.size + 1, 3, none⟩) (by simp) _).drew⟩
  exact results_cell_row (g := w.heap.size + 1) (p := 4) rfl _ _ _ _ _ _ rfl k1 Tryd.underlying62 rfl (by kernel_rfl)

theorem with_cells3 {S : Nat → Nat} {n : Int} {r : Nat} (h : okS S) (hr : r < 64) (hn : n = (192 : Int) + r) : (scells S).setIfInBounds 3 (.int .u64 (bits .or .u64 (S 3 : Int) (IntKind.u64.wrap (2 ^ r)))) = scells (withS S n.toNat) := by
  have e1 : n.toNat / 64 = 3 := by omega
  have e2 : n.toNat % 64 = r := by omega
  show (#[.int .u64 (S 0), .int .u64 (S 1), .int .u64 (S 2), .int .u64 (bits .or .u64 (S 3 : Int) (IntKind.u64.wrap (2 ^ r)))] : Array Value) = _
  rw [with_word h 3 r hr]
  simp [scells, withS, e1, e2]

set_option maxHeartbeats 2000000 in
theorem with3 (S : Nat → Nat) (n : Int) (r : Nat) (w : World) (h : okS S) (hr : r < 64) (hn : Hid (n = (192 : Int) + r)) (hq : n.tdiv 64 = 3) (hm : n.tmod 64 = (r : Int)) (hin : inB 256 n = true) :
    Calls Tryd.prog 95 #[sval S, .int .i64 n] w fun e w' => e = .returned (sval (withS S n.toNat)) ∧ Below w.heap.size w w' := by
  go_enter Tryd.func95, Tryd.ntmps95
  go_wp2_with (first | (go_at_call 91; refine (within_any 256 _).mono ?_; rintro e w' ⟨rfl, rfl⟩) | (go_at_call 121; refine (within1_any 256 n _ _ (by go_simp)).mono ?_; rintro e w' ⟨rfl, rfl⟩))
  have b1 : SB (((w.alloc (.cells (scells S) 62)).alloc (.cells #[.int .u64 0, .int .u64 0, .int .u64 0, .int .u64 0] 62)).alloc (.cells #[.int .i64 256] 3)) w.heap.size S := ((Blk.new w _ _).alloc _).alloc _
  have b2 : SB (((w.alloc (.cells (scells S) 62)).alloc (.cells #[.int .u64 0, .int .u64 0, .int .u64 0, .int .u64 0] 62)).alloc (.cells #[.int .i64 256] 3)) (w.heap.size + 1) zeroS := by
    have := (Blk.new (w.alloc (.cells (scells S) 62)) 62 (scells zeroS)).alloc (.cells #[.int .i64 256] 3)
    rwa [World.size_alloc] at this
  have hB : Below w.heap.size w (((w.alloc (.cells (scells S) 62)).alloc (.cells #[.int .u64 0, .int .u64 0, .int .u64 0, .int .u64 0] 62)).alloc (.cells #[.int .i64 256] 3)) := (((Below.refl _ _).alloc (Nat.le_refl _) _).alloc (by simp) _).alloc (by simp; omega) _
  revert b1 b2 hB
  generalize ((w.alloc (.cells (scells S) 62)).alloc (.cells #[.int .u64 0, .int .u64 0, .int .u64 0, .int .u64 0] 62)).alloc (.cells #[.int .i64 256] 3) = W
  intro b1 b2 hB
  obtain ⟨p0, p1, p2, p3⟩ := b1.cells
  have fz := b1.frozen
  go_region
  have c1 := b1.set 3 (.int .u64 (bits .or .u64 (S 3 : Int) (IntKind.u64.wrap (2 ^ r))))
  rw [with_cells3 h hr hn.out] at c1
  have c2 := b2.other (b' := w.heap.size) (j := 3) (by omega) (.int .u64 (bits .or .u64 (S 3 : Int) (IntKind.u64.wrap (2 ^ r))))
  have cB := hB.setCell (p := ⟨w.heap.size, 3, none⟩) (by simp) (.int .u64 (bits .or .u64 (S 3 : Int) (IntKind.u64.wrap (2 ^ r))))
  clear p0 p1 p2 p3 fz b1 b2 hB
  revert c1 c2 cB
  generalize W.setCell ⟨w.heap.size, 3, none⟩ (.int .u64 (bits .or .u64 (S 3 : Int) (IntKind.u64.wrap (2 ^ r)))) = V
  intro c1 c2 cB
  obtain ⟨p0, p1, p2, p3⟩ := SB.cells c1
  obtain ⟨r0, r1, r2, r3⟩ := SB.cells c2
  have fz3 := c2.frozen
  have k2 := Hid.of ((((c2.set 0 (.int .u64 (withS S n.toNat 0))).set 1 (.int .u64 (withS S n.toNat 1))).set 2 (.int .u64 (withS S n.toNat 2))).set 3 (.int .u64 (withS S n.toNat 3)))
  go_wp2
  have k1 := k2.out
  refine bodyPost_ret (v := sval (withS S n.toNat)) ?_ rfl ⟨rfl, ((((cB.setCell (p := ⟨w.heap.size + 1, 0, none⟩) (by simp) _).setCell (p := ⟨w.heap.size + 1, 1, none⟩) (by simp) _).setCell (p := ⟨w.heap.size + 1, 2, none⟩) (by simp) _).setCell (p := ⟨w.heap.size + 1, 3, none⟩) (by simp) _).drew⟩
  exact results_cell_row (g := w.heap.size + 1) (p := 4) rfl _ _ _ _ _ _ rfl k1 Tryd.underlying62 rfl (by kernel_rfl)

theorem with_any (S : Nat → Nat) (n : Int) (w : World) (h : okS S) (h0 : 0 ≤ n) (h1 : n < 256) :
    Calls Tryd.prog 95 #[sval S, .int .i64 n] w fun e w' => e = .returned (sval (withS S n.toNat)) ∧ Below w.heap.size w w' := by
  have hin : inB 256 n = true := by simp [inB]; omega
  have hk : n / 64 = 0 ∨ n / 64 = 1 ∨ n / 64 = 2 ∨ n / 64 = 3 := by omega
  have hd : n.tdiv 64 = n / 64 := Int.tdiv_eq_ediv_of_nonneg h0
  have hm : n.tmod 64 = ((n % 64).toNat : Int) := by rw [Int.tmod_eq_emod_of_nonneg h0]; omega
  rcases hk with hk | hk | hk | hk
  · exact with0 S n (n % 64).toNat w h (by omega) (show n = _ by omega) (hd.trans hk) hm hin
  · exact with1 S n (n % 64).toNat w h (by omega) (show n = _ by omega) (hd.trans hk) hm hin
  · exact with2 S n (n % 64).toNat w h (by omega) (show n = _ by omega) (hd.trans hk) hm hin
  · exact with3 S n (n % 64).toNat w h (by omega) (show n = _ by omega) (hd.trans hk) hm hin

theorem and_words {S T : Nat → Nat} (h : okS S) (h' : okS T) (k : Nat) : bits .and .u64 (S k : Int) (T k : Int) = ((S k &&& T k : Nat) : Int) := bits_and_u64_nat _ _ (h k) (h' k)

/-- The first k words of both have nothing in common. -/
def apart (S T : Nat → Nat) (k : Nat) : Prop := ∀ j, j < k → S j &&& T j = 0
theorem apart_hit {S T : Nat → Nat} {k : Nat} (hk : k < 4) (hz : ¬ S k &&& T k = 0) : true = meetB S T := by
  unfold meetB
  have hk' : k = 0 ∨ k = 1 ∨ k = 2 ∨ k = 3 := by omega
  symm
  apply decide_eq_true
  rintro ⟨a, b, c, d⟩
  rcases hk' with rfl | rfl | rfl | rfl
  · exact hz a
  · exact hz b
  · exact hz c
  · exact hz d
theorem apart_end {S T : Nat → Nat} (h : apart S T 4) : false = meetB S T := by
  unfold meetB
  symm
  apply decide_eq_false
  intro hn
  exact hn ⟨h 0 (by omega), h 1 (by omega), h 2 (by omega), h 3 (by omega)⟩
theorem apart_step {S T : Nat → Nat} {k : Nat} (h : apart S T k) (hz : S k &&& T k = 0) : apart S T (k + 1) := fun j hj => by
  by_cases e : j = k
  · subst e; exact hz
  · exact h j (by omega)

set_option maxHeartbeats 2000000 in
theorem meets_any (S T : Nat → Nat) (w : World) (h : okS S) (h' : okS T) :
    Calls Tryd.prog 51 #[sval S, sval T] w fun e w' => e = .returned (.bool (meetB S T)) ∧ Below w.heap.size w w' := by
  go_enter Tryd.func51, Tryd.ntmps51
  go_wp2
  go_loopw [6] (fun i wr => ∃ k : Nat, k ≤ 4 ∧ i = .int .i64 k ∧ Hid (apart S T k) ∧ SB wr w.heap.size S ∧ SB wr (w.heap.size + 1) T ∧ Below w.heap.size w wr) (fun i _ => 4 - (intOf i).toNat)
  case atStart =>
    refine ⟨0, by omega, rfl, (fun j hj => by omega), (Blk.new w _ _).alloc _, ?_, ((Below.refl _ _).alloc (Nat.le_refl _) _).alloc (by simp) _⟩
    have := (Blk.new (w.alloc (.cells (scells S) 62)) 62 (scells T))
    rwa [World.size_alloc] at this
  case round =>
    obtain ⟨k, hk, rfl, ha, s1, s2, hB⟩ := hrel
    have hk' : k = 4 ∨ k = 0 ∨ k = 1 ∨ k = 2 ∨ k = 3 := by omega
    obtain ⟨p0, p1, p2, p3⟩ := s1.cells
    obtain ⟨q0, q1, q2, q3⟩ := s2.cells
    rcases hk' with rfl | rfl | rfl | rfl | rfl
    · go_wp2
      go_ret
      exact ⟨ret_bool (apart_end ha.out), hB⟩
    · have hb := and_words h h' 0
      by_cases hz : S 0 &&& T 0 = 0
      · have hb0 : bits .and .u64 (S 0 : Int) (T 0 : Int) = 0 := by rw [hb, hz]; rfl
        have HZ := Hid.of hz
        clear hb hz
        go_wp2
        go_quiet (fail)
        go_wp2
        go_roundw
        case rel => exact ⟨1, by omega, by go_num, apart_step ha.out HZ.out, s1, s2, below_drewN hB _⟩
        case measure => simp [intOf]
      · have hb0 : (bits .and .u64 (S 0 : Int) (T 0 : Int) == 0) = false := by rw [hb]; simp; omega
        have hb1 : ¬ bits .and .u64 (S 0 : Int) (T 0 : Int) = 0 := by rw [hb]; simp; omega
        have HZ := Hid.of hz
        clear hb hz
        go_wp2
        go_quiet (fail)
        go_wp2
        go_ret
        exact ⟨ret_bool (apart_hit (by omega) HZ.out), below_drewN hB _⟩
    · have hb := and_words h h' 1
      by_cases hz : S 1 &&& T 1 = 0
      · have hb0 : bits .and .u64 (S 1 : Int) (T 1 : Int) = 0 := by rw [hb, hz]; rfl
        have HZ := Hid.of hz
        clear hb hz
        go_wp2
        go_quiet (fail)
        go_wp2
        go_roundw
        case rel => exact ⟨2, by omega, by go_num, apart_step ha.out HZ.out, s1, s2, below_drewN hB _⟩
        case measure => simp [intOf]
      · have hb0 : (bits .and .u64 (S 1 : Int) (T 1 : Int) == 0) = false := by rw [hb]; simp; omega
        have hb1 : ¬ bits .and .u64 (S 1 : Int) (T 1 : Int) = 0 := by rw [hb]; simp; omega
        have HZ := Hid.of hz
        clear hb hz
        go_wp2
        go_quiet (fail)
        go_wp2
        go_ret
        exact ⟨ret_bool (apart_hit (by omega) HZ.out), below_drewN hB _⟩
    · have hb := and_words h h' 2
      by_cases hz : S 2 &&& T 2 = 0
      · have hb0 : bits .and .u64 (S 2 : Int) (T 2 : Int) = 0 := by rw [hb, hz]; rfl
        have HZ := Hid.of hz
        clear hb hz
        go_wp2
        go_quiet (fail)
        go_wp2
        go_roundw
        case rel => exact ⟨3, by omega, by go_num, apart_step ha.out HZ.out, s1, s2, below_drewN hB _⟩
        case measure => simp [intOf]
      · have hb0 : (bits .and .u64 (S 2 : Int) (T 2 : Int) == 0) = false := by rw [hb]; simp; omega
        have hb1 : ¬ bits .and .u64 (S 2 : Int) (T 2 : Int) = 0 := by rw [hb]; simp; omega
        have HZ := Hid.of hz
        clear hb hz
        go_wp2
        go_quiet (fail)
        go_wp2
        go_ret
        exact ⟨ret_bool (apart_hit (by omega) HZ.out), below_drewN hB _⟩
    · have hb := and_words h h' 3
      by_cases hz : S 3 &&& T 3 = 0
      · have hb0 : bits .and .u64 (S 3 : Int) (T 3 : Int) = 0 := by rw [hb, hz]; rfl
        have HZ := Hid.of hz
        clear hb hz
        go_wp2
        go_quiet (fail)
        go_wp2
        go_roundw
        case rel => exact ⟨4, by omega, by go_num, apart_step ha.out HZ.out, s1, s2, below_drewN hB _⟩
        case measure => simp [intOf]
      · have hb0 : (bits .and .u64 (S 3 : Int) (T 3 : Int) == 0) = false := by rw [hb]; simp; omega
        have hb1 : ¬ bits .and .u64 (S 3 : Int) (T 3 : Int) = 0 := by rw [hb]; simp; omega
        have HZ := Hid.of hz
        clear hb hz
        go_wp2
        go_quiet (fail)
        go_wp2
        go_ret
        exact ⟨ret_bool (apart_hit (by omega) HZ.out), below_drewN hB _⟩

end Go.Proofs.YtbdkaobbfmgnhaaDoor
