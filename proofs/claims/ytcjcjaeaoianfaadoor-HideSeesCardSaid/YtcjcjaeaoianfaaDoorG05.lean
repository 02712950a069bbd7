/-
  What is said of one block of memory: its cells.
  The walks of machine.within and of its closure.
  What is said of a set of states (an array of four words) in a world. The walks of Set.With, Set.Join and Set.Meets.
-/
import Derived.Test.YtcjcjaeaoianfaaDoorG03
import Derived.RangeFuncBox
import Derived.Test.YtcjcjaeaoianfaaDoorG04
import Derived.Laws.EntriesVeiled
import Derived.Laws.Bits64b
import Derived.BigQuiet
import Derived.BigRegion
import Derived.Deep.RegionHeld3
namespace Go.Proofs.YtcjcjaeaoianfaaDoor
open Go.RowKit
set_option linter.unusedVariables false

/-- Block b is cells of type t, which hold cs. -/
def Blk (W : World) (b : Nat) (t : TypeId) (cs : Array Value) : Prop := W.heap[b]? = some (.cells cs t (0, 0))

theorem Blk.lt {W : World} {b : Nat} {t : TypeId} {cs : Array Value} (h : Blk W b t cs) : b < W.heap.size := (Array.getElem?_eq_some_iff.1 h).1
theorem Blk.cell {W : World} {b : Nat} {t : TypeId} {cs : Array Value} (h : Blk W b t cs) (j : Nat) {v : Value} (hv : cs[j]? = some v) : W.cell? ⟨b, j, none⟩ = some v := by simp [World.cell?, show W.heap[b]? = _ from h, hv]
theorem Blk.frozen {W : World} {b : Nat} {t : TypeId} {cs : Array Value} (h : Blk W b t cs) (j : Nat) : W.frozen? ⟨b, j, none⟩ = false := by simp [World.frozen?, show W.heap[b]? = _ from h]
theorem Blk.new (W : World) (t : TypeId) (cs : Array Value) : Blk (W.alloc (.cells cs t)) W.heap.size t cs := World.alloc_heap_new W _
theorem Blk.alloc {W : World} {b : Nat} {t : TypeId} {cs : Array Value} (h : Blk W b t cs) (o : Obj) : Blk (W.alloc o) b t cs := (Below.heap_alloc W o b h.lt).trans h
theorem Blk.below {W W' : World} {b B : Nat} {t : TypeId} {cs : Array Value} (h : Blk W b t cs) (hb : Below B W W') (hB : b < B) : Blk W' b t cs := (hb.block b hB).trans h
theorem Blk.other {W : World} {b b' j : Nat} {t : TypeId} {cs : Array Value} (h : Blk W b t cs) (hne : b ≠ b') (v : Value) : Blk (W.setCell ⟨b', j, none⟩ v) b t cs := (Below.heap_setCell W ⟨b', j, none⟩ v b hne).trans h
theorem Blk.set {W : World} {b : Nat} {t : TypeId} {cs : Array Value} (h : Blk W b t cs) (j : Nat) (v : Value) : Blk (W.setCell ⟨b, j, none⟩ v) b t (cs.setIfInBounds j v) := by
  obtain ⟨hlt, hk⟩ := Array.getElem?_eq_some_iff.1 h
  show (W.heap.modify b _)[b]? = _
  rw [Array.getElem?_eq_getElem (by rw [Array.size_modify]; exact hlt), Array.getElem_modify_self, hk]
  rfl
theorem Blk.drew {W : World} {b : Nat} {t : TypeId} {cs : Array Value} (h : Blk W b t cs) : Blk W.drew b t cs := h

theorem Hid.of {p : Prop} (h : p) : Hid p := h

end Go.Proofs.YtcjcjaeaoianfaaDoor
namespace Go.Proofs.YtcjcjaeaoianfaaDoor
open Go.RowKit
set_option linter.unusedVariables false

set_option maxHeartbeats 400000 in
theorem within_any (b : Int) (w : World) :
    Calls Tryd.prog 70 #[.int .i64 b] w fun e w' => e = .returned (.func (.func 94) #[] #[.pointer (some ⟨w.heap.size, 0, none⟩)]) ∧ w' = w.alloc (.cells #[.int .i64 b] 3) := by
  have hmf : ∀ (fn : Fn) (first cap : Array Value) (w : World), (Instr.makeFunc fn first cap).run Tryd.prog w = .ok (.func fn first cap) w := fun _ _ _ _ => rfl
  go_enter Tryd.func70, Tryd.ntmps70
  go_wp2
  go_ret
  exact ⟨rfl, rfl⟩

/-- Is a number from 0 to below a bound? -/
def inB (b n : Int) : Bool := decide (0 ≤ n ∧ n < b)

set_option maxHeartbeats 400000 in
theorem within1_any (b n : Int) (B : Nat) (w : World) (hc : w.cell? ⟨B, 0, none⟩ = some (.int .i64 b)) :
    Calls Tryd.prog 94 #[.int .i64 n, .pointer (some ⟨B, 0, none⟩)] w fun e w' => e = .returned (.bool (inB b n)) ∧ w' = w := by
  by_cases h1 : 0 ≤ n
  · by_cases h2 : n < b
    · have hr : Hid (true = inB b n) := show true = inB b n by simp [inB, h1, h2]
      have f1 : decide (0 ≤ n) = true := by simpa using h1
      have f2 : decide (n < b) = true := by simpa using h2
      go_enter Tryd.func94, Tryd.ntmps94
      go_wp2
      go_ret
      exact ⟨ret_bool hr.out, rfl⟩
    · have hr : Hid (false = inB b n) := show false = inB b n by simp [inB]; omega
      have f1 : decide (0 ≤ n) = true := by simpa using h1
      have f2 : decide (n < b) = false := by simpa using h2
      go_enter Tryd.func94, Tryd.ntmps94
      go_wp2
      go_ret
      exact ⟨ret_bool hr.out, rfl⟩
  · have hr : Hid (false = inB b n) := show false = inB b n by simp [inB]; omega
    have f1 : decide (0 ≤ n) = false := by simpa using h1
    go_enter Tryd.func94, Tryd.ntmps94
    go_wp2
    go_ret
    exact ⟨ret_bool hr.out, rfl⟩

theorem size_alloc2 (w : World) (o o' : Obj) : ((w.alloc o).alloc o').heap.size = w.heap.size + 2 := by simp

end Go.Proofs.YtcjcjaeaoianfaaDoor
namespace Go.Proofs.YtcjcjaeaoianfaaDoor
open Go.RowKit
set_option linter.unusedVariables false

/-- A set's cells, and its value. -/
abbrev scells (S : Nat → Nat) : Array Value := #[.int .u64 (S 0), .int .u64 (S 1), .int .u64 (S 2), .int .u64 (S 3)]
abbrev sval (S : Nat → Nat) : Value := .agg (scells S)

/-- The first k words joined. -/
def mixS (k : Nat) (S T : Nat → Nat) : Nat → Nat := fun j => if j < k then S j ||| T j else S j

theorem or_words {S T : Nat → Nat} (h : okS S) (h' : okS T) (k : Nat) : bits .or .u64 (S k : Int) (T k : Int) = ((S k ||| T k : Nat) : Int) := bits_or_u64_nat _ _ (h k) (h' k)

/-- A set's block. -/
abbrev SB (W : World) (b : Nat) (S : Nat → Nat) : Prop := Blk W b 55 (scells S)

theorem SB.cells {W : World} {b : Nat} {S : Nat → Nat} (h : SB W b S) : W.cell? ⟨b, 0, none⟩ = some (.int .u64 (S 0)) ∧ W.cell? ⟨b, 1, none⟩ = some (.int .u64 (S 1)) ∧ W.cell? ⟨b, 2, none⟩ = some (.int .u64 (S 2)) ∧ W.cell? ⟨b, 3, none⟩ = some (.int .u64 (S 3)) :=
  ⟨h.cell 0 rfl, h.cell 1 rfl, h.cell 2 rfl, h.cell 3 rfl⟩

theorem mix_step0 {S T : Nat → Nat} (h : okS S) (h' : okS T) : (scells (mixS 0 S T)).setIfInBounds 0 (.int .u64 (bits .or .u64 (mixS 0 S T 0) (T 0))) = scells (mixS 1 S T) := by
  show (#[.int .u64 (bits .or .u64 (S 0) (T 0)), .int .u64 (S 1), .int .u64 (S 2), .int .u64 (S 3)] : Array Value) = _
  rw [or_words h h']; rfl
theorem mix_step1 {S T : Nat → Nat} (h : okS S) (h' : okS T) : (scells (mixS 1 S T)).setIfInBounds 1 (.int .u64 (bits .or .u64 (mixS 1 S T 1) (T 1))) = scells (mixS 2 S T) := by
  show (#[.int .u64 (mixS 1 S T 0), .int .u64 (bits .or .u64 (S 1) (T 1)), .int .u64 (S 2), .int .u64 (S 3)] : Array Value) = _
  rw [or_words h h']; rfl
theorem mix_step2 {S T : Nat → Nat} (h : okS S) (h' : okS T) : (scells (mixS 2 S T)).setIfInBounds 2 (.int .u64 (bits .or .u64 (mixS 2 S T 2) (T 2))) = scells (mixS 3 S T) := by
  show (#[.int .u64 (mixS 2 S T 0), .int .u64 (mixS 2 S T 1), .int .u64 (bits .or .u64 (S 2) (T 2)), .int .u64 (S 3)] : Array Value) = _
  rw [or_words h h']; rfl
theorem mix_step3 {S T : Nat → Nat} (h : okS S) (h' : okS T) : (scells (mixS 3 S T)).setIfInBounds 3 (.int .u64 (bits .or .u64 (mixS 3 S T 3) (T 3))) = scells (mixS 4 S T) := by
  show (#[.int .u64 (mixS 3 S T 0), .int .u64 (mixS 3 S T 1), .int .u64 (mixS 3 S T 2), .int .u64 (bits .or .u64 (S 3) (T 3))] : Array Value) = _
  rw [or_words h h']; rfl

set_option maxHeartbeats 2000000 in
theorem join_any (S T : Nat → Nat) (w : World) (h : okS S) (h' : okS T) :
    Calls Tryd.prog 91 #[sval S, sval T] w fun e w' => e = .returned (sval (joinS S T)) ∧ Below w.heap.size w w' := by
  go_enter Tryd.func91, Tryd.ntmps91
  go_wp2
  go_loopw [6] (fun i wr => ∃ k : Nat, k ≤ 4 ∧ i = .int .i64 k ∧ SB wr w.heap.size (mixS k S T) ∧ SB wr (w.heap.size + 1) T ∧ SB wr (w.heap.size + 2) zeroS ∧ Below w.heap.size w wr) (fun i _ => 4 - (intOf i).toNat)
  case atStart =>
    refine ⟨0, by omega, rfl, ((Blk.new w _ _).alloc _).alloc _, ?_, ?_, (((Below.refl _ _).alloc (Nat.le_refl _) _).alloc (by simp) _).alloc (by simp; omega) _⟩
    · have := (Blk.new (w.alloc (.cells (scells S) 55)) 55 (scells T)).alloc (.cells (scells zeroS) 55)
      rwa [World.size_alloc] at this
    · have := (Blk.new ((w.alloc (.cells (scells S) 55)).alloc (.cells (scells T) 55)) 55 (scells zeroS))
      rwa [World.size_alloc, World.size_alloc] at this
  case round =>
    obtain ⟨k, hk, rfl, s1, s2, s3, hB⟩ := hrel
    have hk' : k = 4 ∨ k = 0 ∨ k = 1 ∨ k = 2 ∨ k = 3 := by omega
    obtain ⟨p0, p1, p2, p3⟩ := s1.cells
    obtain ⟨q0, q1, q2, q3⟩ := s2.cells
    have fz := s1.frozen
    rcases hk' with rfl | rfl | rfl | rfl | rfl
    · obtain ⟨r0, r1, r2, r3⟩ := s3.cells
      have fz3 := s3.frozen
      have e4 : Hid (scells (mixS 4 S T) = scells (joinS S T)) := rfl
      have k1 := (((s3.set 0 (.int .u64 (mixS 4 S T 0))).set 1 (.int .u64 (mixS 4 S T 1))).set 2 (.int .u64 (mixS 4 S T 2))).set 3 (.int .u64 (mixS 4 S T 3))
      have k2 := Hid.of k1
      clear k1
      go_wp2
      have k1 := k2.out
      refine bodyPost_ret (v := sval (joinS S T)) ?_ rfl ⟨rfl, (((hB.setCell (p := ⟨w.heap.size + 1 + 1, 0, none⟩) (by simp; omega) _).setCell (p := ⟨w.heap.size + 1 + 1, 1, none⟩) (by simp; omega) _).setCell (p := ⟨w.heap.size + 1 + 1, 2, none⟩) (by simp; omega) _).setCell (p := ⟨w.heap.size + 1 + 1, 3, none⟩) (by simp; omega) _⟩
      exact results_cell_row (g := w.heap.size + 2) (p := 4) rfl _ _ _ _ _ _ rfl k1 Tryd.underlying55 rfl (by kernel_rfl)
    · go_wp2
      go_region
      go_wp2
      exact ⟨⟨1, by omega, rfl, (by have := s1.set 0 (.int .u64 (bits .or .u64 (mixS 0 S T 0) (T 0))); rwa [mix_step0 h h'] at this), s2.other (by omega) _, s3.other (by omega) _, (hB.setCell (p := ⟨w.heap.size, 0, none⟩) (by simp) _).drew⟩, by simp [intOf]⟩
    · go_wp2
      go_region
      go_wp2
      exact ⟨⟨2, by omega, rfl, (by have := s1.set 1 (.int .u64 (bits .or .u64 (mixS 1 S T 1) (T 1))); rwa [mix_step1 h h'] at this), s2.other (by omega) _, s3.other (by omega) _, (hB.setCell (p := ⟨w.heap.size, 1, none⟩) (by simp) _).drew⟩, by simp [intOf]⟩
    · go_wp2
      go_region
      go_wp2
      exact ⟨⟨3, by omega, rfl, (by have := s1.set 2 (.int .u64 (bits .or .u64 (mixS 2 S T 2) (T 2))); rwa [mix_step2 h h'] at this), s2.other (by omega) _, s3.other (by omega) _, (hB.setCell (p := ⟨w.heap.size, 2, none⟩) (by simp) _).drew⟩, by simp [intOf]⟩
    · go_wp2
      go_region
      go_wp2
      exact ⟨⟨4, by omega, rfl, (by have := s1.set 3 (.int .u64 (bits .or .u64 (mixS 3 S T 3) (T 3))); rwa [mix_step3 h h'] at this), s2.other (by omega) _, s3.other (by omega) _, (hB.setCell (p := ⟨w.heap.size, 3, none⟩) (by simp) _).drew⟩, by simp [intOf]⟩

end Go.Proofs.YtcjcjaeaoianfaaDoor
