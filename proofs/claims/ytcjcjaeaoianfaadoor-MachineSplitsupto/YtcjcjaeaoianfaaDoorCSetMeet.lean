/-
  The walks of Set.Meet and Set.Less.
-/
import Derived.Test.YtcjcjaeaoianfaaDoorCSetOps
import Derived.Test.YtcjcjaeaoianfaaDoorCSpreadM
import Derived.Laws.BitsAllLaws
namespace Go.Proofs.YtcjcjaeaoianfaaDoor
open Go.RowKit
set_option linter.unusedVariables false

theorem andw_words {S T : Nat → Nat} (h : okS S) (h' : okS T) (k : Nat) : bits .and .u64 (S k : Int) (T k : Int) = ((S k &&& T k : Nat) : Int) := bits_and_u64_nat _ _ (h k) (h' k)
theorem less_words {S T : Nat → Nat} (h : okS S) (h' : okS T) (k : Nat) : bits .andNot .u64 (S k : Int) (T k : Int) = ((S k &&& (18446744073709551615 - T k) : Nat) : Int) := u64_andNot_nat _ _ (h k) (h' k)

/-- The first k words met. -/
def mixM (k : Nat) (S T : Nat → Nat) : Nat → Nat := fun j => if j < k then S j &&& T j else S j

theorem mixM_step0 {S T : Nat → Nat} (h : okS S) (h' : okS T) : (scells (mixM 0 S T)).setIfInBounds 0 (.int .u64 (bits .and .u64 (mixM 0 S T 0) (T 0))) = scells (mixM 1 S T) := by
  show (#[.int .u64 (bits .and .u64 (S 0) (T 0)), .int .u64 (S 1), .int .u64 (S 2), .int .u64 (S 3)] : Array Value) = _
  rw [andw_words h h']; rfl
theorem mixM_step1 {S T : Nat → Nat} (h : okS S) (h' : okS T) : (scells (mixM 1 S T)).setIfInBounds 1 (.int .u64 (bits .and .u64 (mixM 1 S T 1) (T 1))) = scells (mixM 2 S T) := by
  show (#[.int .u64 (mixM 1 S T 0), .int .u64 (bits .and .u64 (S 1) (T 1)), .int .u64 (S 2), .int .u64 (S 3)] : Array Value) = _
  rw [andw_words h h']; rfl
theorem mixM_step2 {S T : Nat → Nat} (h : okS S) (h' : okS T) : (scells (mixM 2 S T)).setIfInBounds 2 (.int .u64 (bits .and .u64 (mixM 2 S T 2) (T 2))) = scells (mixM 3 S T) := by
  show (#[.int .u64 (mixM 2 S T 0), .int .u64 (mixM 2 S T 1), .int .u64 (bits .and .u64 (S 2) (T 2)), .int .u64 (S 3)] : Array Value) = _
  rw [andw_words h h']; rfl
theorem mixM_step3 {S T : Nat → Nat} (h : okS S) (h' : okS T) : (scells (mixM 3 S T)).setIfInBounds 3 (.int .u64 (bits .and .u64 (mixM 3 S T 3) (T 3))) = scells (mixM 4 S T) := by
  show (#[.int .u64 (mixM 3 S T 0), .int .u64 (mixM 3 S T 1), .int .u64 (mixM 3 S T 2), .int .u64 (bits .and .u64 (S 3) (T 3))] : Array Value) = _
  rw [andw_words h h']; rfl

set_option maxHeartbeats 2000000 in
theorem meet_any (S T : Nat → Nat) (w : World) (h : okS S) (h' : okS T) :
    Calls Tryd.prog 45 #[sval S, sval T] w fun e w' => e = .returned (sval (meetS S T)) ∧ Below w.heap.size w w' := by
  go_enter Tryd.func45, Tryd.ntmps45
  go_wp2
  go_loopw [6] (fun i wr => ∃ k : Nat, k ≤ 4 ∧ i = .int .i64 k ∧ SB wr w.heap.size (mixM k S T) ∧ SB wr (w.heap.size + 1) T ∧ SB wr (w.heap.size + 2) zeroS ∧ Below w.heap.size w wr) (fun i _ => 4 - (intOf i).toNat)
  case atStart =>
    refine ⟨0, by omega, rfl, ((Blk.new w _ _).alloc _).alloc _, ?_, ?_, (((Below.refl _ _).alloc (Nat.le_refl _) _).alloc (by simp) _).alloc (by simp; omega) _⟩
    · have := (Blk.new (w.alloc (.cells (scells S) 55)) 55 (scells T)).alloc (.cells (scells zeroS) 55)
      rwa [World.size_alloc] at this
    · have := (Blk.new ((w.alloc (.cells (scells S) 55)).alloc (.cells (scells T) 55)) 55 (scells zeroS))
      rwa [World.size_alloc, World.size_alloc] at this
  case round =>
    obtain ⟨k, hk, rfl, s1, s2, s3, hB⟩ := hrel
    have hk' : k = 4 ∨ k = 0 ∨ k = 1 ∨ k = 2 ∨ k = 3 := by omega
    obtain ⟨p0, p1, p2, p3⟩ := s1.cells
    obtain ⟨q0, q1, q2, q3⟩ := s2.cells
    have fz := s1.frozen
    rcases hk' with rfl | rfl | rfl | rfl | rfl
    · obtain ⟨r0, r1, r2, r3⟩ := s3.cells
      have fz3 := s3.frozen
      have e4 : Hid (scells (mixM 4 S T) = scells (meetS S T)) := rfl
      have k1 := (((s3.set 0 (.int .u64 (mixM 4 S T 0))).set 1 (.int .u64 (mixM 4 S T 1))).set 2 (.int .u64 (mixM 4 S T 2))).set 3 (.int .u64 (mixM 4 S T 3))
      have k2 := Hid.of k1
      clear k1
      go_wp2
      have k1 := k2.out
      refine bodyPost_ret (v := sval (meetS S T)) ?_ rfl ⟨rfl, (((hB.setCell (p := ⟨w.heap.size + 1 + 1, 0, none⟩) (by simp; omega) _).setCell (p := ⟨w.heap.size + 1 + 1, 1, none⟩) (by simp; omega) _).setCell (p := ⟨w.heap.size + 1 + 1, 2, none⟩) (by simp; omega) _).setCell (p := ⟨w.heap.size + 1 + 1, 3, none⟩) (by simp; omega) _⟩
      exact results_cell_row (g := w.heap.size + 2) (p := 4) rfl _ _ _ _ _ _ rfl k1 Tryd.underlying55 rfl (by kernel_rfl)
    · go_wp2
      go_region
      go_wp2
      exact ⟨⟨1, by omega, rfl, (by have := s1.set 0 (.int .u64 (bits .and .u64 (mixM 0 S T 0) (T 0))); rwa [mixM_step0 h h'] at this), s2.other (by omega) _, s3.other (by omega) _, (hB.setCell (p := ⟨w.heap.size, 0, none⟩) (by simp) _).drew⟩, by simp [intOf]⟩
    · go_wp2
      go_region
      go_wp2
      exact ⟨⟨2, by omega, rfl, (by have := s1.set 1 (.int .u64 (bits .and .u64 (mixM 1 S T 1) (T 1))); rwa [mixM_step1 h h'] at this), s2.other (by omega) _, s3.other (by omega) _, (hB.setCell (p := ⟨w.heap.size, 1, none⟩) (by simp) _).drew⟩, by simp [intOf]⟩
    · go_wp2
      go_region
      go_wp2
      exact ⟨⟨3, by omega, rfl, (by have := s1.set 2 (.int .u64 (bits .and .u64 (mixM 2 S T 2) (T 2))); rwa [mixM_step2 h h'] at this), s2.other (by omega) _, s3.other (by omega) _, (hB.setCell (p := ⟨w.heap.size, 2, none⟩) (by simp) _).drew⟩, by simp [intOf]⟩
    · go_wp2
      go_region
      go_wp2
      exact ⟨⟨4, by omega, rfl, (by have := s1.set 3 (.int .u64 (bits .and .u64 (mixM 3 S T 3) (T 3))); rwa [mixM_step3 h h'] at this), s2.other (by omega) _, s3.other (by omega) _, (hB.setCell (p := ⟨w.heap.size, 3, none⟩) (by simp) _).drew⟩, by simp [intOf]⟩

/-- The first k words less. -/
def mixL (k : Nat) (S T : Nat → Nat) : Nat → Nat := fun j => if j < k then S j &&& (18446744073709551615 - T j) else S j

theorem mixL_step0 {S T : Nat → Nat} (h : okS S) (h' : okS T) : (scells (mixL 0 S T)).setIfInBounds 0 (.int .u64 (bits .andNot .u64 (mixL 0 S T 0) (T 0))) = scells (mixL 1 S T) := by
  show (#[.int .u64 (bits .andNot .u64 (S 0) (T 0)), .int .u64 (S 1), .int .u64 (S 2), .int .u64 (S 3)] : Array Value) = _
  rw [less_words h h']; rfl
theorem mixL_step1 {S T : Nat → Nat} (h : okS S) (h' : okS T) : (scells (mixL 1 S T)).setIfInBounds 1 (.int .u64 (bits .andNot .u64 (mixL 1 S T 1) (T 1))) = scells (mixL 2 S T) := by
  show (#[.int .u64 (mixL 1 S T 0), .int .u64 (bits .andNot .u64 (S 1) (T 1)), .int .u64 (S 2), .int .u64 (S 3)] : Array Value) = _
  rw [less_words h h']; rfl
theorem mixL_step2 {S T : Nat → Nat} (h : okS S) (h' : okS T) : (scells (mixL 2 S T)).setIfInBounds 2 (.int .u64 (bits .andNot .u64 (mixL 2 S T 2) (T 2))) = scells (mixL 3 S T) := by
  show (#[.int .u64 (mixL 2 S T 0), .int .u64 (mixL 2 S T 1), .int .u64 (bits .andNot .u64 (S 2) (T 2)), .int .u64 (S 3)] : Array Value) = _
  rw [less_words h h']; rfl
theorem mixL_step3 {S T : Nat → Nat} (h : okS S) (h' : okS T) : (scells (mixL 3 S T)).setIfInBounds 3 (.int .u64 (bits .andNot .u64 (mixL 3 S T 3) (T 3))) = scells (mixL 4 S T) := by
  show (#[.int .u64 (mixL 3 S T 0), .int .u64 (mixL 3 S T 1), .int .u64 (mixL 3 S T 2), .int .u64 (bits .andNot .u64 (S 3) (T 3))] : Array Value) = _
  rw [less_words h h']; rfl

set_option maxHeartbeats 2000000 in
theorem less_any (S T : Nat → Nat) (w : World) (h : okS S) (h' : okS T) :
    Calls Tryd.prog 101 #[sval S, sval T] w fun e w' => e = .returned (sval (lessS S T)) ∧ Below w.heap.size w w' := by
  go_enter Tryd.func101, Tryd.ntmps101
  go_wp2
  go_loopw [6] (fun i wr => ∃ k : Nat, k ≤ 4 ∧ i = .int .i64 k ∧ SB wr w.heap.size (mixL k S T) ∧ SB wr (w.heap.size + 1) T ∧ SB wr (w.heap.size + 2) zeroS ∧ Below w.heap.size w wr) (fun i _ => 4 - (intOf i).toNat)
  case atStart =>
    refine ⟨0, by omega, rfl, ((Blk.new w _ _).alloc _).alloc _, ?_, ?_, (((Below.refl _ _).alloc (Nat.le_refl _) _).alloc (by simp) _).alloc (by simp; omega) _⟩
    · have := (Blk.new (w.alloc (.cells (scells S) 55)) 55 (scells T)).alloc (.cells (scells zeroS) 55)
      rwa [World.size_alloc] at this
    · have := (Blk.new ((w.alloc (.cells (scells S) 55)).alloc (.cells (scells T) 55)) 55 (scells zeroS))
      rwa [World.size_alloc, World.size_alloc] at this
  case round =>
    obtain ⟨k, hk, rfl, s1, s2, s3, hB⟩ := hrel
    have hk' : k = 4 ∨ k = 0 ∨ k = 1 ∨ k = 2 ∨ k = 3 := by omega
    obtain ⟨p0, p1, p2, p3⟩ := s1.cells
    obtain ⟨q0, q1, q2, q3⟩ := s2.cells
    have fz := s1.frozen
    rcases hk' with rfl | rfl | rfl | rfl | rfl
    · obtain ⟨r0, r1, r2, r3⟩ := s3.cells
      have fz3 := s3.frozen
      have e4 : Hid (scells (mixL 4 S T) = scells (lessS S T)) := rfl
      have k1 := (((s3.set 0 (.int .u64 (mixL 4 S T 0))).set 1 (.int .u64 (mixL 4 S T 1))).set 2 (.int .u64 (mixL 4 S T 2))).set 3 (.int .u64 (mixL 4 S T 3))
      have k2 := Hid.of k1
      clear k1
      go_wp2
      have k1 := k2.out
      refine bodyPost_ret (v := sval (lessS S T)) ?_ rfl ⟨rfl, (((hB.setCell (p := ⟨w.heap.size + 1 + 1, 0, none⟩) (by simp; omega) _).setCell (p := ⟨w.heap.size + 1 + 1, 1, none⟩) (by simp; omega) _).setCell (p := ⟨w.heap.size + 1 + 1, 2, none⟩) (by simp; omega) _).setCell (p := ⟨w.heap.size + 1 + 1, 3, none⟩) (by simp; omega) _⟩
      exact results_cell_row (g := w.heap.size + 2) (p := 4) rfl _ _ _ _ _ _ rfl k1 Tryd.underlying55 rfl (by kernel_rfl)
    · go_wp2
      go_region
      go_wp2
      exact ⟨⟨1, by omega, rfl, (by have := s1.set 0 (.int .u64 (bits .andNot .u64 (mixL 0 S T 0) (T 0))); rwa [mixL_step0 h h'] at this), s2.other (by omega) _, s3.other (by omega) _, (hB.setCell (p := ⟨w.heap.size, 0, none⟩) (by simp) _).drew⟩, by simp [intOf]⟩
    · go_wp2
      go_region
      go_wp2
      exact ⟨⟨2, by omega, rfl, (by have := s1.set 1 (.int .u64 (bits .andNot .u64 (mixL 1 S T 1) (T 1))); rwa [mixL_step1 h h'] at this), s2.other (by omega) _, s3.other (by omega) _, (hB.setCell (p := ⟨w.heap.size, 1, none⟩) (by simp) _).drew⟩, by simp [intOf]⟩
    · go_wp2
      go_region
      go_wp2
      exact ⟨⟨3, by omega, rfl, (by have := s1.set 2 (.int .u64 (bits .andNot .u64 (mixL 2 S T 2) (T 2))); rwa [mixL_step2 h h'] at this), s2.other (by omega) _, s3.other (by omega) _, (hB.setCell (p := ⟨w.heap.size, 2, none⟩) (by simp) _).drew⟩, by simp [intOf]⟩
    · go_wp2
      go_region
      go_wp2
      exact ⟨⟨4, by omega, rfl, (by have := s1.set 3 (.int .u64 (bits .andNot .u64 (mixL 3 S T 3) (T 3))); rwa [mixL_step3 h h'] at this), s2.other (by omega) _, s3.other (by omega) _, (hB.setCell (p := ⟨w.heap.size, 3, none⟩) (by simp) _).drew⟩, by simp [intOf]⟩

end Go.Proofs.YtcjcjaeaoianfaaDoor
