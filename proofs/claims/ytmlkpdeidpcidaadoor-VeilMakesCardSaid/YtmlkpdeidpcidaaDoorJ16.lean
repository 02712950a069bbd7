/-
  Plain mathematics of what a set of states leads to, in any number of steps. No program, no model.
  The walk of Set.Less.
  The walks of Set.Meet and Set.Less.
-/
import Derived.Test.YtmlkpdeidpcidaaDoorJ04
import Derived.Test.YtmlkpdeidpcidaaDoorJ15
import Derived.Laws.BitsAllLaws
import Derived.Test.YtmlkpdeidpcidaaDoorFSetOps
namespace Go.Proofs.YtmlkpdeidpcidaaDoor
open Go.RowKit
set_option linter.unusedVariables false

def lessS (S T : Nat → Nat) : Nat → Nat := fun k => S k &&& (18446744073709551615 - T k)
theorem okS_less {S T : Nat → Nat} (h : okS S) : okS (lessS S T) := fun k => Nat.lt_of_le_of_lt Nat.and_le_left (h k)
theorem hasS_less {S T : Nat → Nat} (h : okS T) (n : Nat) : hasS (lessS S T) n = (hasS S n && !hasS T n) := by
  unfold hasS lessS
  rw [Nat.testBit_and]
  have e : 18446744073709551615 - T (n / 64) = 2 ^ 64 - (T (n / 64) + 1) := by
    show _ = 18446744073709551616 - _
    omega
  rw [e, Nat.testBit_two_pow_sub_succ (h _)]
  have : n % 64 < 64 := by omega
  simp [this]

/-- The table: where each state leads in one step. -/
def tabKStep (fr to : Arr → Int) (T : Nat → Nat → Nat) (a : Arr) : Nat → Nat → Nat := fun p => if p = (fr a).toNat then withS (T p) (to a).toNat else T p
def tabK (fr to : Arr → Int) (ars : List Arr) : Nat → Nat → Nat := ars.foldl (tabKStep fr to) (fun _ => zeroS)
theorem okS_tabKStep {fr to : Arr → Int} {T : Nat → Nat → Nat} (h : ∀ p, okS (T p)) (a : Arr) : ∀ p, okS (tabKStep fr to T a p) := fun p => by
  unfold tabKStep; split
  · exact okS_with (h p) _
  · exact h p
theorem okS_foldTabK {fr to : Arr → Int} : ∀ (ars : List Arr) (T : Nat → Nat → Nat), (∀ p, okS (T p)) → ∀ p, okS (ars.foldl (tabKStep fr to) T p)
  | [], _, h => h
  | a :: r, T, h => okS_foldTabK r _ (okS_tabKStep h a)
theorem okS_tabK (fr to : Arr → Int) (ars : List Arr) (p : Nat) : okS (tabK fr to ars p) := okS_foldTabK ars _ (fun _ => okS_zero) p
theorem has_foldTabK {fr to : Arr → Int} {p n : Nat} : ∀ (ars : List Arr) (T : Nat → Nat → Nat), hasS (ars.foldl (tabKStep fr to) T p) n = true ↔ hasS (T p) n = true ∨ ∃ a ∈ ars, p = (fr a).toNat ∧ n = (to a).toNat
  | [], T => by simp
  | a :: r, T => by
    rw [List.foldl_cons, has_foldTabK r]
    have e : hasS (tabKStep fr to T a p) n = true ↔ hasS (T p) n = true ∨ (p = (fr a).toNat ∧ n = (to a).toNat) := by
      unfold tabKStep
      by_cases h : p = (fr a).toNat
      · rw [if_pos h, hasS_with, Bool.or_eq_true, decide_eq_true_eq]; simp [h]
      · rw [if_neg h]; simp [h]
    rw [e]
    simp only [List.mem_cons, exists_eq_or_imp]
    rw [or_assoc]
theorem has_tabK (fr to : Arr → Int) (p n : Nat) (ars : List Arr) : hasS (tabK fr to ars p) n = true ↔ ∃ a ∈ ars, p = (fr a).toNat ∧ n = (to a).toNat := by
  unfold tabK; rw [has_foldTabK]; simp [hasS_zero]

/-- Where states lead to, by a table. -/
def toF (T : Nat → Nat → Nat) (ns : List Nat) : Nat → Nat := ns.foldl (fun o n => joinS o (T n)) zeroS
theorem toF_snoc (T : Nat → Nat → Nat) (ns : List Nat) (n : Nat) : toF T (ns ++ [n]) = joinS (toF T ns) (T n) := by simp [toF, List.foldl_append]
theorem ok_toG {T : Nat → Nat → Nat} (h : ∀ p, okS (T p)) : ∀ (ns : List Nat) (o : Nat → Nat), okS o → okS (ns.foldl (fun o n => joinS o (T n)) o)
  | [], _, ho => ho
  | n :: r, o, ho => ok_toG h r _ (okS_join ho (h _))
theorem ok_toF {T : Nat → Nat → Nat} (h : ∀ p, okS (T p)) (ns : List Nat) : okS (toF T ns) := ok_toG h ns _ okS_zero
theorem has_toG {T : Nat → Nat → Nat} {k : Nat} : ∀ (ns : List Nat) (o : Nat → Nat), hasS (ns.foldl (fun o n => joinS o (T n)) o) k = true ↔ hasS o k = true ∨ ∃ n ∈ ns, hasS (T n) k = true
  | [], o => by simp
  | n :: r, o => by
    rw [List.foldl_cons, has_toG r, hasS_join, Bool.or_eq_true]
    simp only [List.mem_cons, exists_eq_or_imp]
    rw [or_assoc]
theorem has_toF (T : Nat → Nat → Nat) (k : Nat) (ns : List Nat) : hasS (toF T ns) k = true ↔ ∃ n ∈ ns, hasS (T n) k = true := by
  unfold toF; rw [has_toG]; simp [hasS_zero]

theorem empty_has {S : Nat → Nat} (he : emptyB S = true) (n : Nat) (hn : n < 256) : hasS S n = false := by
  obtain ⟨e0, e1, e2, e3⟩ := of_decide_eq_true he
  unfold hasS
  have hk : n / 64 = 0 ∨ n / 64 = 1 ∨ n / 64 = 2 ∨ n / 64 = 3 := by omega
  rcases hk with hk | hk | hk | hk <;> rw [hk] <;> simp [e0, e1, e2, e3]
theorem empty_not {S : Nat → Nat} (ho : okS S) (he : emptyB S = false) : ∃ n, n < 256 ∧ hasS S n = true := by
  apply Classical.byContradiction
  intro hn
  have hw : ∀ i, i < 4 → S i = 0 := fun i hi => word_zero (ho i) fun j hj => by
    cases hb : (S i).testBit j with
    | false => rfl
    | true =>
      exfalso
      apply hn
      refine ⟨64 * i + j, by omega, ?_⟩
      unfold hasS
      rw [show (64 * i + j) / 64 = i by omega, show (64 * i + j) % 64 = j by omega]
      exact hb
  have : emptyB S = true := decide_eq_true ⟨hw 0 (by omega), hw 1 (by omega), hw 2 (by omega), hw 3 (by omega)⟩
  rw [this] at he; cases he
end Go.Proofs.YtmlkpdeidpcidaaDoor
namespace Go.Proofs.YtmlkpdeidpcidaaDoor
open Go.RowKit
set_option linter.unusedVariables false

theorem lessc_words {S T : Nat → Nat} (h : okS S) (h' : okS T) (k : Nat) : bits .andNot .u64 (S k : Int) (T k : Int) = ((S k &&& (18446744073709551615 - T k) : Nat) : Int) := u64_andNot_nat _ _ (h k) (h' k)

/-- The first k words less. -/
def mixLc (k : Nat) (S T : Nat → Nat) : Nat → Nat := fun j => if j < k then S j &&& (18446744073709551615 - T j) else S j

theorem mixLc_step0 {S T : Nat → Nat} (h : okS S) (h' : okS T) : (scells (mixLc 0 S T)).setIfInBounds 0 (.int .u64 (bits .andNot .u64 (mixLc 0 S T 0) (T 0))) = scells (mixLc 1 S T) := by
  show (#[.int .u64 (bits .andNot .u64 (S 0) (T 0)), .int .u64 (S 1), .int .u64 (S 2), .int .u64 (S 3)] : Array Value) = _
  rw [lessc_words h h']; rfl
theorem mixLc_step1 {S T : Nat → Nat} (h : okS S) (h' : okS T) : (scells (mixLc 1 S T)).setIfInBounds 1 (.int .u64 (bits .andNot .u64 (mixLc 1 S T 1) (T 1))) = scells (mixLc 2 S T) := by
  show (#[.int .u64 (mixLc 1 S T 0), .int .u64 (bits .andNot .u64 (S 1) (T 1)), .int .u64 (S 2), .int .u64 (S 3)] : Array Value) = _
  rw [lessc_words h h']; rfl
theorem mixLc_step2 {S T : Nat → Nat} (h : okS S) (h' : okS T) : (scells (mixLc 2 S T)).setIfInBounds 2 (.int .u64 (bits .andNot .u64 (mixLc 2 S T 2) (T 2))) = scells (mixLc 3 S T) := by
  show (#[.int .u64 (mixLc 2 S T 0), .int .u64 (mixLc 2 S T 1), .int .u64 (bits .andNot .u64 (S 2) (T 2)), .int .u64 (S 3)] : Array Value) = _
  rw [lessc_words h h']; rfl
theorem mixLc_step3 {S T : Nat → Nat} (h : okS S) (h' : okS T) : (scells (mixLc 3 S T)).setIfInBounds 3 (.int .u64 (bits .andNot .u64 (mixLc 3 S T 3) (T 3))) = scells (mixLc 4 S T) := by
  show (#[.int .u64 (mixLc 3 S T 0), .int .u64 (mixLc 3 S T 1), .int .u64 (mixLc 3 S T 2), .int .u64 (bits .andNot .u64 (S 3) (T 3))] : Array Value) = _
  rw [lessc_words h h']; rfl

set_option maxHeartbeats 2000000 in
theorem lessc_any (S T : Nat → Nat) (w : World) (h : okS S) (h' : okS T) :
    Calls Tryd.prog 134 #[sval S, sval T] w fun e w' => e = .returned (sval (lessS S T)) ∧ Below w.heap.size w w' := by
  go_enter Tryd.func134, Tryd.ntmps134
  go_wp2
  go_loopw [6] (fun i wr => ∃ k : Nat, k ≤ 4 ∧ i = .int .i64 k ∧ SB wr w.heap.size (mixLc k S T) ∧ SB wr (w.heap.size + 1) T ∧ SB wr (w.heap.size + 2) zeroS ∧ Below w.heap.size w wr) (fun i _ => 4 - (intOf i).toNat)
  case atStart =>
    refine ⟨0, by omega, rfl, ((Blk.new w _ _).alloc _).alloc _, ?_, ?_, (((Below.refl _ _).alloc (Nat.le_refl _) _).alloc (by simp) _).alloc (by simp; omega) _⟩
    · have := (Blk.new (w.alloc (.cells (scells S) 85)) 85 (scells T)).alloc (.cells (scells zeroS) 85)
      rwa [World.size_alloc] at this
    · have := (Blk.new ((w.alloc (.cells (scells S) 85)).alloc (.cells (scells T) 85)) 85 (scells zeroS))
      rwa [World.size_alloc, World.size_alloc] at this
  case round =>
    obtain ⟨k, hk, rfl, s1, s2, s3, hB⟩ := hrel
    have hk' : k = 4 ∨ k = 0 ∨ k = 1 ∨ k = 2 ∨ k = 3 := by omega
    obtain ⟨p0, p1, p2, p3⟩ := s1.cells
    obtain ⟨q0, q1, q2, q3⟩ := s2.cells
    have fz := s1.frozen
    rcases hk' with rfl | rfl | rfl | rfl | rfl
    · obtain ⟨r0, r1, r2, r3⟩ := s3.cells
      have fz3 := s3.frozen
      have e4 : Hid (scells (mixLc 4 S T) = scells (lessS S T)) := rfl
      have k1 := (((s3.set 0 (.int .u64 (mixLc 4 S T 0))).set 1 (.int .u64 (mixLc 4 S T 1))).set 2 (.int .u64 (mixLc 4 S T 2))).set 3 (.int .u64 (mixLc 4 S T 3))
      have k2 := Hid.of k1
      clear k1
      go_wp2
      have k1 := k2.out
      refine bodyPost_ret (v := sval (lessS S T)) ?_ rfl ⟨rfl, (((hB.setCell (p := ⟨w.heap.size + 1 + 1, 0, none⟩) (by simp; omega) _).setCell (p := ⟨w.heap.size + 1 + 1, 1, none⟩) (by simp; omega) _).setCell (p := ⟨w.heap.size + 1 + 1, 2, none⟩) (by simp; omega) _).setCell (p := ⟨w.heap.size + 1 + 1, 3, none⟩) (by simp; omega) _⟩
      exact results_cell_row (g := w.heap.size + 2) (p := 4) rfl _ _ _ _ _ _ rfl k1 Tryd.underlying85 rfl (by kernel_rfl)
    · go_wp2
      go_region
      go_wp2
      exact ⟨⟨1, by omega, rfl, (by have := s1.set 0 (.int .u64 (bits .andNot .u64 (mixLc 0 S T 0) (T 0))); rwa [mixLc_step0 h h'] at this), s2.other (by omega) _, s3.other (by omega) _, (hB.setCell (p := ⟨w.heap.size, 0, none⟩) (by simp) _).drew⟩, by simp [intOf]⟩
    · go_wp2
      go_region
      go_wp2
      exact ⟨⟨2, by omega, rfl, (by have := s1.set 1 (.int .u64 (bits .andNot .u64 (mixLc 1 S T 1) (T 1))); rwa [mixLc_step1 h h'] at this), s2.other (by omega) _, s3.other (by omega) _, (hB.setCell (p := ⟨w.heap.size, 1, none⟩) (by simp) _).drew⟩, by simp [intOf]⟩
    · go_wp2
      go_region
      go_wp2
      exact ⟨⟨3, by omega, rfl, (by have := s1.set 2 (.int .u64 (bits .andNot .u64 (mixLc 2 S T 2) (T 2))); rwa [mixLc_step2 h h'] at this), s2.other (by omega) _, s3.other (by omega) _, (hB.setCell (p := ⟨w.heap.size, 2, none⟩) (by simp) _).drew⟩, by simp [intOf]⟩
    · go_wp2
      go_region
      go_wp2
      exact ⟨⟨4, by omega, rfl, (by have := s1.set 3 (.int .u64 (bits .andNot .u64 (mixLc 3 S T 3) (T 3))); rwa [mixLc_step3 h h'] at this), s2.other (by omega) _, s3.other (by omega) _, (hB.setCell (p := ⟨w.heap.size, 3, none⟩) (by simp) _).drew⟩, by simp [intOf]⟩

end Go.Proofs.YtmlkpdeidpcidaaDoor
namespace Go.Proofs.YtmlkpdeidpcidaaDoor
open Go.RowKit
set_option linter.unusedVariables false

theorem less_words {S T : Nat → Nat} (h : okS S) (h' : okS T) (k : Nat) : bits .andNot .u64 (S k : Int) (T k : Int) = ((S k &&& (18446744073709551615 - T k) : Nat) : Int) := u64_andNot_nat _ _ (h k) (h' k)

/-- The first k words less. -/
def mixL (k : Nat) (S T : Nat → Nat) : Nat → Nat := fun j => if j < k then S j &&& (18446744073709551615 - T j) else S j

theorem mixL_step0 {S T : Nat → Nat} (h : okS S) (h' : okS T) : (scells (mixL 0 S T)).setIfInBounds 0 (.int .u64 (bits .andNot .u64 (mixL 0 S T 0) (T 0))) = scells (mixL 1 S T) := by
  show (#[.int .u64 (bits .andNot .u64 (S 0) (T 0)), .int .u64 (S 1), .int .u64 (S 2), .int .u64 (S 3)] : Array Value) = _
  rw [less_words h h']; rfl
theorem mixL_step1 {S T : Nat → Nat} (h : okS S) (h' : okS T) : (scells (mixL 1 S T)).setIfInBounds 1 (.int .u64 (bits .andNot .u64 (mixL 1 S T 1) (T 1))) = scells (mixL 2 S T) := by
  show (#[.int .u64 (mixL 1 S T 0), .int .u64 (bits .andNot .u64 (S 1) (T 1)), .int .u64 (S 2), .int .u64 (S 3)] : Array Value) = _
  rw [less_words h h']; rfl
theorem mixL_step2 {S T : Nat → Nat} (h : okS S) (h' : okS T) : (scells (mixL 2 S T)).setIfInBounds 2 (.int .u64 (bits .andNot .u64 (mixL 2 S T 2) (T 2))) = scells (mixL 3 S T) := by
  show (#[.int .u64 (mixL 2 S T 0), .int .u64 (mixL 2 S T 1), .int .u64 (bits .andNot .u64 (S 2) (T 2)), .int .u64 (S 3)] : Array Value) = _
  rw [less_words h h']; rfl
theorem mixL_step3 {S T : Nat → Nat} (h : okS S) (h' : okS T) : (scells (mixL 3 S T)).setIfInBounds 3 (.int .u64 (bits .andNot .u64 (mixL 3 S T 3) (T 3))) = scells (mixL 4 S T) := by
  show (#[.int .u64 (mixL 3 S T 0), .int .u64 (mixL 3 S T 1), .int .u64 (mixL 3 S T 2), .int .u64 (bits .andNot .u64 (S 3) (T 3))] : Array Value) = _
  rw [less_words h h']; rfl

set_option maxHeartbeats 2000000 in
theorem less_any (S T : Nat → Nat) (w : World) (h : okS S) (h' : okS T) :
    Calls Tryd.prog 134 #[sval S, sval T] w fun e w' => e = .returned (sval (lessS S T)) ∧ Below w.heap.size w w' := by
  go_enter Tryd.func134, Tryd.ntmps134
  go_wp2
  go_loopw [6] (fun i wr => ∃ k : Nat, k ≤ 4 ∧ i = .int .i64 k ∧ SB wr w.heap.size (mixL k S T) ∧ SB wr (w.heap.size + 1) T ∧ SB wr (w.heap.size + 2) zeroS ∧ Below w.heap.size w wr) (fun i _ => 4 - (intOf i).toNat)
  case atStart =>
    refine ⟨0, by omega, rfl, ((Blk.new w _ _).alloc _).alloc _, ?_, ?_, (((Below.refl _ _).alloc (Nat.le_refl _) _).alloc (by simp) _).alloc (by simp; omega) _⟩
    · have := (Blk.new (w.alloc (.cells (scells S) 85)) 85 (scells T)).alloc (.cells (scells zeroS) 85)
      rwa [World.size_alloc] at this
    · have := (Blk.new ((w.alloc (.cells (scells S) 85)).alloc (.cells (scells T) 85)) 85 (scells zeroS))
      rwa [World.size_alloc, World.size_alloc] at this
  case round =>
    obtain ⟨k, hk, rfl, s1, s2, s3, hB⟩ := hrel
    have hk' : k = 4 ∨ k = 0 ∨ k = 1 ∨ k = 2 ∨ k = 3 := by omega
    obtain ⟨p0, p1, p2, p3⟩ := s1.cells
    obtain ⟨q0, q1, q2, q3⟩ := s2.cells
    have fz := s1.frozen
    rcases hk' with rfl | rfl | rfl | rfl | rfl
    · obtain ⟨r0, r1, r2, r3⟩ := s3.cells
      have fz3 := s3.frozen
      have e4 : Hid (scells (mixL 4 S T) = scells (lessS S T)) := rfl
      have k1 := (((s3.set 0 (.int .u64 (mixL 4 S T 0))).set 1 (.int .u64 (mixL 4 S T 1))).set 2 (.int .u64 (mixL 4 S T 2))).set 3 (.int .u64 (mixL 4 S T 3))
      have k2 := Hid.of k1
      clear k1
      go_wp2
      have k1 := k2.out
      refine bodyPost_ret (v := sval (lessS S T)) ?_ rfl ⟨rfl, (((hB.setCell (p := ⟨w.heap.size + 1 + 1, 0, none⟩) (by simp; omega) _).setCell (p := ⟨w.heap.size + 1 + 1, 1, none⟩) (by simp; omega) _).setCell (p := ⟨w.heap.size + 1 + 1, 2, none⟩) (by simp; omega) _).setCell (p := ⟨w.heap.size + 1 + 1, 3, none⟩) (by simp; omega) _⟩
      exact results_cell_row (g := w.heap.size + 2) (p := 4) rfl _ _ _ _ _ _ rfl k1 Tryd.underlying85 rfl (by kernel_rfl)
    · go_wp2
      go_region
      go_wp2
      exact ⟨⟨1, by omega, rfl, (by have := s1.set 0 (.int .u64 (bits .andNot .u64 (mixL 0 S T 0) (T 0))); rwa [mixL_step0 h h'] at this), s2.other (by omega) _, s3.other (by omega) _, (hB.setCell (p := ⟨w.heap.size, 0, none⟩) (by simp) _).drew⟩, by simp [intOf]⟩
    · go_wp2
      go_region
      go_wp2
      exact ⟨⟨2, by omega, rfl, (by have := s1.set 1 (.int .u64 (bits .andNot .u64 (mixL 1 S T 1) (T 1))); rwa [mixL_step1 h h'] at this), s2.other (by omega) _, s3.other (by omega) _, (hB.setCell (p := ⟨w.heap.size, 1, none⟩) (by simp) _).drew⟩, by simp [intOf]⟩
    · go_wp2
      go_region
      go_wp2
      exact ⟨⟨3, by omega, rfl, (by have := s1.set 2 (.int .u64 (bits .andNot .u64 (mixL 2 S T 2) (T 2))); rwa [mixL_step2 h h'] at this), s2.other (by omega) _, s3.other (by omega) _, (hB.setCell (p := ⟨w.heap.size, 2, none⟩) (by simp) _).drew⟩, by simp [intOf]⟩
    · go_wp2
      go_region
      go_wp2
      exact ⟨⟨4, by omega, rfl, (by have := s1.set 3 (.int .u64 (bits .andNot .u64 (mixL 3 S T 3) (T 3))); rwa [mixL_step3 h h'] at this), s2.other (by omega) _, s3.other (by omega) _, (hB.setCell (p := ⟨w.heap.size, 3, none⟩) (by simp) _).drew⟩, by simp [intOf]⟩

end Go.Proofs.YtmlkpdeidpcidaaDoor
