/-
  Plain mathematics of sets of bits: four words of 64 bits; what is in a set, its numbers in order, and what adding, joining and meeting do to it. No program, no model.
-/
import Derived.Lib.TrailingZeros
import Derived.Test.YtcjcjaeaoianfaaDoorCPlain
namespace Go.Proofs.YtcjcjaeaoianfaaDoor

/-- Has a set (its words) the number? -/
def hasS (S : Nat → Nat) (n : Nat) : Bool := (S (n / 64)).testBit (n % 64)
/-- The set with a number more. -/
def withS (S : Nat → Nat) (n : Nat) : Nat → Nat := fun k => if k = n / 64 then S k ||| 2 ^ (n % 64) else S k
/-- What one of both has. -/
def joinS (S T : Nat → Nat) : Nat → Nat := fun k => S k ||| T k
/-- Nothing. -/
def zeroS : Nat → Nat := fun _ => 0
/-- Its words are words. -/
def okS (S : Nat → Nat) : Prop := ∀ k, S k < 18446744073709551616

theorem okS_zero : okS zeroS := fun _ => by simp [zeroS]
theorem okS_with {S : Nat → Nat} (h : okS S) (n : Nat) : okS (withS S n) := fun k => by
  unfold withS
  split
  · have : 2 ^ (n % 64) < 2 ^ 64 := Nat.pow_lt_pow_right (by omega) (by omega)
    exact Nat.or_lt_two_pow (n := 64) (h k) this
  · exact h k
theorem okS_join {S T : Nat → Nat} (h : okS S) (h' : okS T) : okS (joinS S T) := fun k => Nat.or_lt_two_pow (n := 64) (h k) (h' k)

theorem hasS_zero (n : Nat) : hasS zeroS n = false := by simp [hasS, zeroS]
theorem hasS_join (S T : Nat → Nat) (n : Nat) : hasS (joinS S T) n = (hasS S n || hasS T n) := by simp [hasS, joinS]
theorem hasS_with (S : Nat → Nat) (n k : Nat) : hasS (withS S n) k = (hasS S k || decide (k = n)) := by
  unfold hasS withS
  by_cases h : k / 64 = n / 64
  · rw [if_pos h, Nat.testBit_or, Nat.testBit_two_pow]
    congr 1
    apply decide_eq_decide.2
    omega
  · rw [if_neg h]
    have : ¬ k = n := fun e => h (by rw [e])
    simp [this]

/-- The numbers of a word's bits, rising. -/
def bitsOf (w : Nat) : List Nat := (List.range 64).filter fun i => w.testBit i
/-- .. of word i. -/
def bitsAt (i w : Nat) : List Nat := (bitsOf w).map fun j => 64 * i + j
/-- The numbers of k words from word i on. -/
def fromS (S : Nat → Nat) : Nat → Nat → List Nat
  | 0, _ => []
  | k + 1, i => bitsAt i (S i) ++ fromS S k (i + 1)
/-- The numbers of a set, rising. -/
def allS (S : Nat → Nat) : List Nat := fromS S 4 0
/-- .. as integers. -/
def rowS (S : Nat → Nat) : List Int := (allS S).map fun n : Nat => (n : Int)

theorem mem_bitsOf (w j : Nat) : j ∈ bitsOf w ↔ j < 64 ∧ w.testBit j = true := by simp [bitsOf]
theorem mem_bitsAt (i w n : Nat) : n ∈ bitsAt i w ↔ n / 64 = i ∧ w.testBit (n % 64) = true := by
  unfold bitsAt
  simp only [List.mem_map, mem_bitsOf]
  constructor
  · rintro ⟨j, ⟨h1, h2⟩, rfl⟩
    have e1 : (64 * i + j) / 64 = i := by omega
    have e2 : (64 * i + j) % 64 = j := by omega
    rw [e1, e2]; exact ⟨rfl, h2⟩
  · rintro ⟨h1, h2⟩
    exact ⟨n % 64, ⟨by omega, h2⟩, by omega⟩
theorem mem_fromS (S : Nat → Nat) (n : Nat) : ∀ k i, n ∈ fromS S k i ↔ i ≤ n / 64 ∧ n / 64 < i + k ∧ hasS S n = true
  | 0, i => by simp [fromS]; omega
  | k + 1, i => by
    rw [fromS, List.mem_append, mem_bitsAt, mem_fromS S n k (i + 1)]
    unfold hasS
    constructor
    · rintro (⟨h1, h2⟩ | ⟨h1, h2, h3⟩)
      · rw [← h1] at h2; exact ⟨by omega, by omega, h2⟩
      · exact ⟨by omega, by omega, h3⟩
    · rintro ⟨h1, h2, h3⟩
      by_cases h : n / 64 = i
      · rw [h] at h3; exact .inl ⟨h, h3⟩
      · exact .inr ⟨by omega, by omega, h3⟩
theorem mem_allS (S : Nat → Nat) (n : Nat) : n ∈ allS S ↔ n < 256 ∧ hasS S n = true := by
  unfold allS; rw [mem_fromS]
  constructor
  · rintro ⟨_, h2, h3⟩; exact ⟨by omega, h3⟩
  · rintro ⟨h2, h3⟩; exact ⟨by omega, by omega, h3⟩

theorem inc_bitsAt (i w : Nat) : (bitsAt i w).Pairwise (· < ·) := by
  unfold bitsAt bitsOf
  rw [List.pairwise_map]
  exact (List.pairwise_lt_range.filter _).imp (fun h => by omega)
theorem inc_fromS (S : Nat → Nat) : ∀ k i, (fromS S k i).Pairwise (· < ·)
  | 0, _ => by simp [fromS]
  | k + 1, i => by
    rw [fromS, List.pairwise_append]
    refine ⟨inc_bitsAt _ _, inc_fromS S k (i + 1), fun a ha b hb => ?_⟩
    have h1 := (mem_bitsAt _ _ _).1 ha
    have h2 := (mem_fromS _ _ _ _).1 hb
    omega
theorem inc_rowS (S : Nat → Nat) : Inc (rowS S) := by
  unfold rowS Inc
  rw [List.pairwise_map]
  exact (inc_fromS S 4 0).imp (fun h => by omega)
theorem mem_rowS (S : Nat → Nat) (x : Int) : x ∈ rowS S ↔ 0 ≤ x ∧ x < 256 ∧ hasS S x.toNat = true := by
  unfold rowS
  simp only [List.mem_map, mem_allS]
  constructor
  · rintro ⟨n, ⟨h1, h2⟩, rfl⟩; exact ⟨by omega, by omega, by simpa using h2⟩
  · rintro ⟨h1, h2, h3⟩; exact ⟨x.toNat, ⟨by omega, h3⟩, by omega⟩

theorem natInc_ext {a b : List Nat} (ha : a.Pairwise (· < ·)) (hb : b.Pairwise (· < ·)) (h : ∀ x, x ∈ a ↔ x ∈ b) : a = b := by
  have := inc_ext (a := a.map fun n : Nat => (n : Int)) (b := b.map fun n : Nat => (n : Int)) (by unfold Inc; rw [List.pairwise_map]; exact ha.imp (fun h => by omega)) (by unfold Inc; rw [List.pairwise_map]; exact hb.imp (fun h => by omega)) (fun x => by simp [h])
  exact (List.map_inj_right (fun x y h => by omega)).1 this

theorem inc_len : ∀ (l : List Nat) (n : Nat), l.Pairwise (· < ·) → (∀ x ∈ l, x < n) → l.length ≤ n := by
  intro l n hp hb
  have hs : l.Sublist (List.range n) := by
    have hn : l.Nodup := hp.imp (fun h => by omega)
    have e : l = (List.range n).filter fun i => l.contains i := by
      apply natInc_ext hp (List.pairwise_lt_range.filter _)
      intro x
      simp only [List.mem_filter, List.mem_range, List.contains_iff_mem]
      exact ⟨fun h => ⟨hb x h, h⟩, fun h => h.2⟩
    rw [e]; exact List.filter_sublist
  simpa using hs.length_le
theorem allS_len (S : Nat → Nat) : (allS S).length ≤ 256 := inc_len _ _ (inc_fromS S 4 0) (fun x hx => ((mem_allS S x).1 hx).1)

theorem low_bits (k m i : Nat) : (2 ^ k * (2 * m + 1)).testBit i = (decide (i = k) || (decide (k < i) && m.testBit (i - k - 1))) := by
  rw [Nat.mul_comm, Nat.testBit_mul_two_pow]
  by_cases h : k ≤ i
  · by_cases he : i = k
    · subst he; simp [Nat.testBit_zero]
    · obtain ⟨j, rfl⟩ : ∃ j, i = k + (j + 1) := ⟨i - k - 1, by omega⟩
      have e3 : k + (j + 1) - k = j + 1 := by omega
      rw [e3, Nat.testBit_succ]
      have d1 : (2 * m + 1) / 2 = m := by omega
      rw [d1]
      simp
  · simp [h]; omega
theorem low_clear (k m i : Nat) : ((2 ^ k * (2 * m + 1)) &&& (2 ^ k * (2 * m + 1) - 1)).testBit i = (decide (k < i) && (2 ^ k * (2 * m + 1)).testBit i) := by
  have hp : 0 < 2 ^ k := Nat.two_pow_pos k
  have e : 2 ^ k * (2 * m + 1) - 1 = 2 ^ k * (2 * m) + (2 ^ k - 1) := by
    rw [Nat.mul_add, Nat.mul_one]; omega
  rw [Nat.testBit_and, e, Nat.testBit_two_pow_mul_add _ (by omega)]
  by_cases h : i < k
  · rw [if_pos h, low_bits]
    have h1 : ¬ i = k := by omega
    have h2 : ¬ k < i := by omega
    simp [h1, h2]
  · rw [if_neg h, low_bits]
    by_cases he : i = k
    · subst he; simp [Nat.testBit_zero]
    · obtain ⟨j, rfl⟩ : ∃ j, i = k + (j + 1) := ⟨i - k - 1, by omega⟩
      have e3 : k + (j + 1) - k = j + 1 := by omega
      rw [e3, Nat.testBit_succ]
      have d1 : (2 * m) / 2 = m := by omega
      rw [d1]
      simp

/-- The least bit, and the rest: 'left & (left - 1)'. -/
theorem bitsOf_cons {w : Nat} (h0 : w ≠ 0) (h : w < 18446744073709551616) : bitsOf w = Lib.ctz 64 w :: bitsOf (w &&& (w - 1)) := by
  obtain ⟨m, hm, hk⟩ := Lib.ctzFrom_spec 64 w (by omega) h
  have e : Lib.ctz 64 w = Lib.ctzFrom 64 w := by simp [Lib.ctz, h0]
  rw [e]
  generalize Lib.ctzFrom 64 w = k at hm hk
  subst hm
  apply natInc_ext
  · exact List.pairwise_lt_range.filter _
  · rw [List.pairwise_cons]
    refine ⟨fun x hx => ?_, List.pairwise_lt_range.filter _⟩
    have := (mem_bitsOf _ _).1 hx
    rw [low_clear] at this
    simp at this
    exact this.2.1
  · intro x
    rw [mem_bitsOf, List.mem_cons, mem_bitsOf, low_clear, low_bits]
    by_cases hx : x = k
    · subst hx; simp; exact hk
    · simp [hx]
theorem ctz_lt {w : Nat} (h0 : w ≠ 0) (h : w < 18446744073709551616) : Lib.ctz 64 w < 64 := (Lib.lowest_bit 64 w h0 h).2
theorem clear_lt {w : Nat} (h : w < 18446744073709551616) : w &&& (w - 1) < 18446744073709551616 := Nat.and_lt_two_pow (n := 64) _ (by omega)
theorem bitsOf_zero : bitsOf 0 = [] := by simp [bitsOf]
theorem bitsAt_zero (i : Nat) : bitsAt i 0 = [] := by simp [bitsAt, bitsOf_zero]
theorem bitsAt_cons {i w : Nat} (h0 : w ≠ 0) (h : w < 18446744073709551616) : bitsAt i w = (64 * i + Lib.ctz 64 w) :: bitsAt i (w &&& (w - 1)) := by
  unfold bitsAt; rw [bitsOf_cons h0 h]; rfl

end Go.Proofs.YtcjcjaeaoianfaaDoor
