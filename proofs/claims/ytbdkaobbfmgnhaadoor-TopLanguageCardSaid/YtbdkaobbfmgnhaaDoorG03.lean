/-
  Plain mathematics of rows (lists of integers): what 'is a row', union, insertion and filters are, on lists. No program, no model: it imports nothing.
  What is said of a slice of integers in a world: 'At w a xs': the slice that begins at 'a' reads as the list 'xs'. Small facts on it.
  Plain mathematics of sets of bits: four words of 64 bits; what is in a set, its numbers in order, and what adding, joining and meeting do to it. No program, no model.
  What is said of one block of memory: its cells.
  'All blocks of a world but one are as they were'.
  Plain mathematics of machines: arrows in order, what may be, words, where a word leads. No program, no model.
  Plain: a search, level by level, of what words lead to; the least words. No program, no model.
-/
import Derived.WalkKit
import Derived.WalkSpells
import Derived.WalkLawsBesides
import Derived.Test.YtbdkaobbfmgnhaaDoorRows
import Derived.Lib.TrailingZeros
import Derived.RangeFuncBox
namespace Go.Proofs.YtbdkaobbfmgnhaaDoor

/-- Is the list a row above 'last' and below 'below'? -/
def goIs (last below : Int) : List Int → Bool
  | [] => true
  | x :: r => if x ≤ last ∨ below ≤ x then false else goIs x below r

/-- 'A row below n': A1. -/
def rowB (n : Int) (xs : List Int) : Bool := goIs (-1) (min n 2147483648) xs

def ins (x : Int) : List Int → List Int
  | [] => [x]
  | y :: r => if y < x then y :: ins x r else if y = x then y :: r else x :: y :: r

def srt (l : List Int) : List Int := l.foldl (fun out x => ins x out) []

abbrev Inc (l : List Int) : Prop := l.Pairwise (· < ·)

theorem goIs_iff (below : Int) (xs : List Int) : ∀ last, goIs last below xs = true ↔ Inc xs ∧ ∀ x ∈ xs, last < x ∧ x < below := by
  induction xs with
  | nil => intro last; simp [goIs, Inc]
  | cons x r ih =>
    intro last
    unfold goIs
    by_cases h : x ≤ last ∨ below ≤ x
    · rw [if_pos h]
      simp only [Bool.false_eq_true, false_iff]
      rintro ⟨-, h2⟩
      have := h2 x (by simp)
      omega
    · rw [if_neg h, ih x]
      simp only [Inc, List.pairwise_cons, List.mem_cons]
      constructor
      · rintro ⟨h1, h2⟩
        refine ⟨⟨fun y hy => (h2 y hy).1, h1⟩, ?_⟩
        rintro y (rfl | hy)
        · omega
        · have := h2 y hy; omega
      · rintro ⟨⟨h1, h2⟩, h3⟩
        exact ⟨h2, fun y hy => ⟨h1 y hy, (h3 y (.inr hy)).2⟩⟩

theorem goIs_len (below : Int) (xs : List Int) : ∀ last, last < below → goIs last below xs = true → (xs.length : Int) ≤ below - 1 - last := by
  induction xs with
  | nil => intro last h _; simp; omega
  | cons x r ih =>
    intro last h hg
    unfold goIs at hg
    by_cases hc : x ≤ last ∨ below ≤ x
    · rw [if_pos hc] at hg; cases hg
    · rw [if_neg hc] at hg
      have := ih x (by omega) hg
      simp only [List.length_cons]
      omega

theorem inc_ext : ∀ {a b : List Int}, Inc a → Inc b → (∀ x, x ∈ a ↔ x ∈ b) → a = b
  | [], [], _, _, _ => rfl
  | [], y :: b, _, _, h => by have := (h y).2 (by simp); simp at this
  | x :: a, [], _, _, h => by have := (h x).1 (by simp); simp at this
  | x :: a, y :: b, ha, hb, h => by
    simp only [Inc, List.pairwise_cons] at ha hb
    have e : x = y := by
      have h1 := (h x).1 (by simp)
      have h2 := (h y).2 (by simp)
      simp only [List.mem_cons] at h1 h2
      rcases h1 with rfl | h1
      · rfl
      · rcases h2 with rfl | h2
        · rfl
        · have := ha.1 y h2; have := hb.1 x h1; omega
    subst e
    refine congrArg _ (inc_ext ha.2 hb.2 fun z => ?_)
    have hz := h z
    simp only [List.mem_cons] at hz
    constructor
    · intro m
      rcases hz.1 (.inr m) with rfl | m'
      · have := ha.1 z m; omega
      · exact m'
    · intro m
      rcases hz.2 (.inr m) with rfl | m'
      · have := hb.1 z m; omega
      · exact m'

theorem mem_ins (z x : Int) : ∀ l, z ∈ ins x l ↔ z = x ∨ z ∈ l
  | [] => by simp [ins]
  | y :: r => by
    unfold ins
    by_cases h : y < x
    · rw [if_pos h, List.mem_cons, mem_ins z x r, List.mem_cons]; constructor <;> (intro hh; rcases hh with hh | hh | hh <;> simp_all)
    · rw [if_neg h]
      by_cases h' : y = x
      · rw [if_pos h']; subst h'; simp
      · rw [if_neg h']; simp

theorem inc_ins (x : Int) : ∀ l, Inc l → Inc (ins x l)
  | [], _ => by simp [ins]
  | y :: r, h => by
    have h1 := List.pairwise_cons.1 h
    unfold ins
    by_cases hc : y < x
    · rw [if_pos hc]
      refine List.pairwise_cons.2 ⟨fun z hz => ?_, inc_ins x r h1.2⟩
      rcases (mem_ins z x r).1 hz with rfl | m
      · exact hc
      · exact h1.1 z m
    · rw [if_neg hc]
      by_cases h' : y = x
      · rw [if_pos h']; exact h
      · rw [if_neg h']
        refine List.pairwise_cons.2 ⟨fun z hz => ?_, h⟩
        rcases List.mem_cons.1 hz with rfl | m
        · omega
        · have := h1.1 z m; omega

theorem srt_snoc (l : List Int) (x : Int) : srt (l ++ [x]) = ins x (srt l) := by simp [srt, List.foldl_append]

theorem inc_foldl (l : List Int) : ∀ o, Inc o → Inc (l.foldl (fun out x => ins x out) o) := by
  induction l with
  | nil => intro o h; exact h
  | cons x r ih => intro o h; exact ih _ (inc_ins x o h)
theorem mem_foldl (z : Int) (l : List Int) : ∀ o, z ∈ l.foldl (fun out x => ins x out) o ↔ z ∈ o ∨ z ∈ l := by
  induction l with
  | nil => intro o; simp
  | cons x r ih =>
    intro o
    rw [List.foldl_cons, ih, mem_ins, List.mem_cons]
    constructor
    · rintro ((hh | hh) | hh) <;> simp [hh]
    · rintro (hh | (hh | hh)) <;> simp [hh]
theorem inc_srt (l : List Int) : Inc (srt l) := inc_foldl l [] (by simp [Inc])
theorem mem_srt (z : Int) (l : List Int) : z ∈ srt l ↔ z ∈ l := by unfold srt; rw [mem_foldl]; simp

theorem ins_len (x : Int) : ∀ l, (ins x l).length ≤ l.length + 1
  | [] => by simp [ins]
  | y :: r => by
    unfold ins
    have := ins_len x r
    split
    · simp; omega
    · split <;> simp
theorem srt_len (l : List Int) : (srt l).length ≤ l.length := by
  have : ∀ (l : List Int) o, (l.foldl (fun out x => ins x out) o).length ≤ o.length + l.length := by
    intro l
    induction l with
    | nil => intro o; simp
    | cons x r ih => intro o; have h1 := ih (ins x o); have h2 := ins_len x o; simp only [List.foldl_cons, List.length_cons]; omega
  have h := this l []
  simpa [srt] using h

end Go.Proofs.YtbdkaobbfmgnhaaDoor
namespace Go.Proofs.YtbdkaobbfmgnhaaDoor
open Go.RowKit

/-- The cells from place 'off' of block 'b' on hold the integers 'xs'. -/
def Cells (w : World) (b off : Nat) (xs : List Int) : Prop := ∀ j, j < xs.length → w.cell? ⟨b, off + j, none⟩ = some (.int .i64 (xs.getD j 0))

theorem Cells.at {w : World} {b off k : Nat} {xs : List Int} (hc : Cells w b off xs) (h : k < xs.length) : ∃ x, Hid (x = xs[k]?.getD 0) ∧ w.cell? ⟨b, off + k, none⟩ = some (.int .i64 x) :=
  ⟨_, rfl, by have := hc k h; rw [List.getD_eq_getElem?_getD] at this; exact this⟩

/-- The cells from 'a' on hold the integers 'xs'. -/
def At (w : World) (a : Option Addr) (xs : List Int) : Prop :=
  xs = [] ∨ ∃ b off, a = some ⟨b, off, none⟩ ∧ b < w.heap.size ∧ Cells w b off xs

theorem At.below {w w' : World} {a : Option Addr} {xs : List Int} {B : Nat} (h : At w a xs) (hb : Below B w w') (hB : w.heap.size ≤ B) : At w' a xs := by
  rcases h with h | ⟨b, off, rfl, hlt, hc⟩
  · exact .inl h
  · exact .inr ⟨b, off, rfl, Nat.lt_of_lt_of_le hlt hb.size, fun j hj => by rw [hb.cell (p := ⟨b, off + j, none⟩) (Nat.lt_of_lt_of_le hlt hB)]; exact hc j hj⟩

theorem At.drewN {w : World} {a : Option Addr} {xs : List Int} (h : At w a xs) (m : Nat) : At (w.drewN m) a xs := h

theorem drop_cons {xs : List Int} {k : Nat} (h : k < xs.length) : xs.drop k = xs[k]?.getD 0 :: xs.drop (k + 1) := by
  rw [List.drop_eq_getElem_cons h, List.getElem?_eq_getElem h]; rfl

theorem ret_int {k : IntKind} {a b : Int} (h : a = b) : Ending.returned (.int k a) = .returned (.int k b) := by rw [h]
theorem ret_bool {a b : Bool} (h : a = b) : Ending.returned (.bool a) = .returned (.bool b) := by rw [h]

/-- Has the list the number? (A function of our own, which the walk leaves as it stands.) -/
def hasB (xs : List Int) (n : Int) : Bool := xs.contains n

theorem has_hit {xs : List Int} {k : Nat} {n x : Int} (h : k < xs.length) (e : Hid (hasB xs n = hasB (xs.drop k) n)) (hv : Hid (x = xs[k]?.getD 0)) (hx : (x == n) = true) : true = hasB xs n := by
  have e := e.out; have hv := hv.out; have hx : x = n := by simpa using hx
  subst hx; rw [e, drop_cons h, ← hv]; simp [hasB]
theorem has_miss {xs : List Int} {k : Nat} {n x : Int} (h : k < xs.length) (e : Hid (hasB xs n = hasB (xs.drop k) n)) (hv : Hid (x = xs[k]?.getD 0)) (hx : (x == n) = false) : Hid (hasB xs n = hasB (xs.drop (k + 1)) n) := by
  have e := e.out; have hv := hv.out; have hx : ¬ x = n := by simpa using hx
  have h1 : (n == x) = false := by simp; omega
  show hasB xs n = hasB (xs.drop (k + 1)) n
  rw [e, drop_cons h, ← hv, hasB, List.contains_cons, h1]; simp [hasB]
theorem has_end {xs : List Int} {k : Nat} {n : Int} (h : ¬ k < xs.length) (e : Hid (hasB xs n = hasB (xs.drop k) n)) : false = hasB xs n := by
  rw [e.out, List.drop_eq_nil_of_le (by omega)]; rfl
theorem is_no {xs : List Int} {k : Nat} {last bel n x : Int} (h : k < xs.length) (e : Hid (rowB n xs = goIs last bel (xs.drop k))) (hv : Hid (x = xs[k]?.getD 0)) (hx : x ≤ last ∨ bel ≤ x) : false = rowB n xs := by
  rw [e.out, drop_cons h, ← hv.out, goIs, if_pos hx]
theorem is_yes {xs : List Int} {k : Nat} {last bel n x : Int} (h : k < xs.length) (e : Hid (rowB n xs = goIs last bel (xs.drop k))) (hv : Hid (x = xs[k]?.getD 0)) (hx : ¬ (x ≤ last ∨ bel ≤ x)) : Hid (rowB n xs = goIs x bel (xs.drop (k + 1))) := by
  show rowB n xs = goIs x bel (xs.drop (k + 1))
  rw [e.out, drop_cons h, ← hv.out, goIs, if_neg hx]
theorem is_end {xs : List Int} {k : Nat} {last bel n : Int} (h : ¬ k < xs.length) (e : Hid (rowB n xs = goIs last bel (xs.drop k))) : true = rowB n xs := by
  rw [e.out, List.drop_eq_nil_of_le (by omega)]; rfl

end Go.Proofs.YtbdkaobbfmgnhaaDoor
namespace Go.Proofs.YtbdkaobbfmgnhaaDoor

/-- Has a set (its words) the number? -/
def hasS (S : Nat → Nat) (n : Nat) : Bool := (S (n / 64)).testBit (n % 64)
/-- The set with a number more. -/
def withS (S : Nat → Nat) (n : Nat) : Nat → Nat := fun k => if k = n / 64 then S k ||| 2 ^ (n % 64) else S k
/-- What one of both has. -/
def joinS (S T : Nat → Nat) : Nat → Nat := fun k => S k ||| T k
/-- Nothing. -/
def zeroS : Nat → Nat := fun _ => 0
/-- Its words are words. -/
def okS (S : Nat → Nat) : Prop := ∀ k, S k < 18446744073709551616

theorem okS_zero : okS zeroS := fun _ => by simp [zeroS]
theorem okS_with {S : Nat → Nat} (h : okS S) (n : Nat) : okS (withS S n) := fun k => by
  unfold withS
  split
  · have : 2 ^ (n % 64) < 2 ^ 64 := Nat.pow_lt_pow_right (by omega) (by omega)
    exact Nat.or_lt_two_pow (n := 64) (h k) this
  · exact h k
theorem okS_join {S T : Nat → Nat} (h : okS S) (h' : okS T) : okS (joinS S T) := fun k => Nat.or_lt_two_pow (n := 64) (h k) (h' k)

theorem hasS_zero (n : Nat) : hasS zeroS n = false := by simp [hasS, zeroS]
theorem hasS_join (S T : Nat → Nat) (n : Nat) : hasS (joinS S T) n = (hasS S n || hasS T n) := by simp [hasS, joinS]
theorem hasS_with (S : Nat → Nat) (n k : Nat) : hasS (withS S n) k = (hasS S k || decide (k = n)) := by
  unfold hasS withS
  by_cases h : k / 64 = n / 64
  · rw [if_pos h, Nat.testBit_or, Nat.testBit_two_pow]
    congr 1
    apply decide_eq_decide.2
    omega
  · rw [if_neg h]
    have : ¬ k = n := fun e => h (by rw [e])
    simp [this]

/-- The numbers of a word's bits, rising. -/
def bitsOf (w : Nat) : List Nat := (List.range 64).filter fun i => w.testBit i
/-- .. of word i. -/
def bitsAt (i w : Nat) : List Nat := (bitsOf w).map fun j => 64 * i + j
/-- The numbers of k words from word i on. -/
def fromS (S : Nat → Nat) : Nat → Nat → List Nat
  | 0, _ => []
  | k + 1, i => bitsAt i (S i) ++ fromS S k (i + 1)
/-- The numbers of a set, rising. -/
def allS (S : Nat → Nat) : List Nat := fromS S 4 0
/-- .. as integers. -/
def rowS (S : Nat → Nat) : List Int := (allS S).map fun n : Nat => (n : Int)

theorem mem_bitsOf (w j : Nat) : j ∈ bitsOf w ↔ j < 64 ∧ w.testBit j = true := by simp [bitsOf]
theorem mem_bitsAt (i w n : Nat) : n ∈ bitsAt i w ↔ n / 64 = i ∧ w.testBit (n % 64) = true := by
  unfold bitsAt
  simp only [List.mem_map, mem_bitsOf]
  constructor
  · rintro ⟨j, ⟨h1, h2⟩, rfl⟩
    have e1 : (64 * i + j) / 64 = i := by omega
    have e2 : (64 * i + j) % 64 = j := by omega
    rw [e1, e2]; exact ⟨rfl, h2⟩
  · rintro ⟨h1, h2⟩
    exact ⟨n % 64, ⟨by omega, h2⟩, by omega⟩
theorem mem_fromS (S : Nat → Nat) (n : Nat) : ∀ k i, n ∈ fromS S k i ↔ i ≤ n / 64 ∧ n / 64 < i + k ∧ hasS S n = true
  | 0, i => by simp [fromS]; omega
  | k + 1, i => by
    rw [fromS, List.mem_append, mem_bitsAt, mem_fromS S n k (i + 1)]
    unfold hasS
    constructor
    · rintro (⟨h1, h2⟩ | ⟨h1, h2, h3⟩)
      · rw [← h1] at h2; exact ⟨by omega, by omega, h2⟩
      · exact ⟨by omega, by omega, h3⟩
    · rintro ⟨h1, h2, h3⟩
      by_cases h : n / 64 = i
      · rw [h] at h3; exact .inl ⟨h, h3⟩
      · exact .inr ⟨by omega, by omega, h3⟩
theorem mem_allS (S : Nat → Nat) (n : Nat) : n ∈ allS S ↔ n < 256 ∧ hasS S n = true := by
  unfold allS; rw [mem_fromS]
  constructor
  · rintro ⟨_, h2, h3⟩; exact ⟨by omega, h3⟩
  · rintro ⟨h2, h3⟩; exact ⟨by omega, by omega, h3⟩

theorem inc_bitsAt (i w : Nat) : (bitsAt i w).Pairwise (· < ·) := by
  unfold bitsAt bitsOf
  rw [List.pairwise_map]
  exact (List.pairwise_lt_range.filter _).imp (fun h => by omega)
theorem inc_fromS (S : Nat → Nat) : ∀ k i, (fromS S k i).Pairwise (· < ·)
  | 0, _ => by simp [fromS]
  | k + 1, i => by
    rw [fromS, List.pairwise_append]
    refine ⟨inc_bitsAt _ _, inc_fromS S k (i + 1), fun a ha b hb => ?_⟩
    have h1 := (mem_bitsAt _ _ _).1 ha
    have h2 := (mem_fromS _ _ _ _).1 hb
    omega
theorem inc_rowS (S : Nat → Nat) : Inc (rowS S) := by
  unfold rowS Inc
  rw [List.pairwise_map]
  exact (inc_fromS S 4 0).imp (fun h => by omega)
theorem mem_rowS (S : Nat → Nat) (x : Int) : x ∈ rowS S ↔ 0 ≤ x ∧ x < 256 ∧ hasS S x.toNat = true := by
  unfold rowS
  simp only [List.mem_map, mem_allS]
  constructor
  · rintro ⟨n, ⟨h1, h2⟩, rfl⟩; exact ⟨by omega, by omega, by simpa using h2⟩
  · rintro ⟨h1, h2, h3⟩; exact ⟨x.toNat, ⟨by omega, h3⟩, by omega⟩

theorem natInc_ext {a b : List Nat} (ha : a.Pairwise (· < ·)) (hb : b.Pairwise (· < ·)) (h : ∀ x, x ∈ a ↔ x ∈ b) : a = b := by
  have := inc_ext (a := a.map fun n : Nat => (n : Int)) (b := b.map fun n : Nat => (n : Int)) (by unfold Inc; rw [List.pairwise_map]; exact ha.imp (fun h => by omega)) (by unfold Inc; rw [List.pairwise_map]; exact hb.imp (fun h => by omega)) (fun x => by simp [h])
  exact (List.map_inj_right (fun x y h => by omega)).1 this

theorem inc_len : ∀ (l : List Nat) (n : Nat), l.Pairwise (· < ·) → (∀ x ∈ l, x < n) → l.length ≤ n := by
  intro l n hp hb
  have hs : l.Sublist (List.range n) := by
    have hn : l.Nodup := hp.imp (fun h => by omega)
    have e : l = (List.range n).filter fun i => l.contains i := by
      apply natInc_ext hp (List.pairwise_lt_range.filter _)
      intro x
      simp only [List.mem_filter, List.mem_range, List.contains_iff_mem]
      exact ⟨fun h => ⟨hb x h, h⟩, fun h => h.2⟩
    rw [e]; exact List.filter_sublist
  simpa using hs.length_le
theorem allS_len (S : Nat → Nat) : (allS S).length ≤ 256 := inc_len _ _ (inc_fromS S 4 0) (fun x hx => ((mem_allS S x).1 hx).1)

theorem low_bits (k m i : Nat) : (2 ^ k * (2 * m + 1)).testBit i = (decide (i = k) || (decide (k < i) && m.testBit (i - k - 1))) := by
  rw [Nat.mul_comm, Nat.testBit_mul_two_pow]
  by_cases h : k ≤ i
  · by_cases he : i = k
    · subst he; simp [Nat.testBit_zero]
    · obtain ⟨j, rfl⟩ : ∃ j, i = k + (j + 1) := ⟨i - k - 1, by omega⟩
      have e3 : k + (j + 1) - k = j + 1 := by omega
      rw [e3, Nat.testBit_succ]
      have d1 : (2 * m + 1) / 2 = m := by omega
      rw [d1]
      simp
  · simp [h]; omega
theorem low_clear (k m i : Nat) : ((2 ^ k * (2 * m + 1)) &&& (2 ^ k * (2 * m + 1) - 1)).testBit i = (decide (k < i) && (2 ^ k * (2 * m + 1)).testBit i) := by
  have hp : 0 < 2 ^ k := Nat.two_pow_pos k
  have e : 2 ^ k * (2 * m + 1) - 1 = 2 ^ k * (2 * m) + (2 ^ k - 1) := by
    rw [Nat.mul_add, Nat.mul_one]; omega
  rw [Nat.testBit_and, e, Nat.testBit_two_pow_mul_add _ (by omega)]
  by_cases h : i < k
  · rw [if_pos h, low_bits]
    have h1 : ¬ i = k := by omega
    have h2 : ¬ k < i := by omega
    simp [h1, h2]
  · rw [if_neg h, low_bits]
    by_cases he : i = k
    · subst he; simp [Nat.testBit_zero]
    · obtain ⟨j, rfl⟩ : ∃ j, i = k + (j + 1) := ⟨i - k - 1, by omega⟩
      have e3 : k + (j + 1) - k = j + 1 := by omega
      rw [e3, Nat.testBit_succ]
      have d1 : (2 * m) / 2 = m := by omega
      rw [d1]
      simp

/-- The least bit, and the rest: 'left & (left - 1)'. -/
theorem bitsOf_cons {w : Nat} (h0 : w ≠ 0) (h : w < 18446744073709551616) : bitsOf w = Lib.ctz 64 w :: bitsOf (w &&& (w - 1)) := by
  obtain ⟨m, hm, hk⟩ := Lib.ctzFrom_spec 64 w (by omega) h
  have e : Lib.ctz 64 w = Lib.ctzFrom 64 w := by simp [Lib.ctz, h0]
  rw [e]
  generalize Lib.ctzFrom 64 w = k at hm hk
  subst hm
  apply natInc_ext
  · exact List.pairwise_lt_range.filter _
  · rw [List.pairwise_cons]
    refine ⟨fun x hx => ?_, List.pairwise_lt_range.filter _⟩
    have := (mem_bitsOf _ _).1 hx
    rw [low_clear] at this
    simp at this
    exact this.2.1
  · intro x
    rw [mem_bitsOf, List.mem_cons, mem_bitsOf, low_clear, low_bits]
    by_cases hx : x = k
    · subst hx; simp; exact hk
    · simp [hx]
theorem ctz_lt {w : Nat} (h0 : w ≠ 0) (h : w < 18446744073709551616) : Lib.ctz 64 w < 64 := (Lib.lowest_bit 64 w h0 h).2
theorem clear_lt {w : Nat} (h : w < 18446744073709551616) : w &&& (w - 1) < 18446744073709551616 := Nat.and_lt_two_pow (n := 64) _ (by omega)
theorem bitsOf_zero : bitsOf 0 = [] := by simp [bitsOf]
theorem bitsAt_zero (i : Nat) : bitsAt i 0 = [] := by simp [bitsAt, bitsOf_zero]
theorem bitsAt_cons {i w : Nat} (h0 : w ≠ 0) (h : w < 18446744073709551616) : bitsAt i w = (64 * i + Lib.ctz 64 w) :: bitsAt i (w &&& (w - 1)) := by
  unfold bitsAt; rw [bitsOf_cons h0 h]; rfl

end Go.Proofs.YtbdkaobbfmgnhaaDoor
namespace Go.Proofs.YtbdkaobbfmgnhaaDoor
open Go.RowKit
set_option linter.unusedVariables false

/-- Block b is cells of type t, which hold cs. -/
def Blk (W : World) (b : Nat) (t : TypeId) (cs : Array Value) : Prop := W.heap[b]? = some (.cells cs t (0, 0))

theorem Blk.lt {W : World} {b : Nat} {t : TypeId} {cs : Array Value} (h : Blk W b t cs) : b < W.heap.size := (Array.getElem?_eq_some_iff.1 h).1
theorem Blk.cell {W : World} {b : Nat} {t : TypeId} {cs : Array Value} (h : Blk W b t cs) (j : Nat) {v : Value} (hv : cs[j]? = some v) : W.cell? ⟨b, j, none⟩ = some v := by simp [World.cell?, show W.heap[b]? = _ from h, hv]
theorem Blk.frozen {W : World} {b : Nat} {t : TypeId} {cs : Array Value} (h : Blk W b t cs) (j : Nat) : W.frozen? ⟨b, j, none⟩ = false := by simp [World.frozen?, show W.heap[b]? = _ from h]
theorem Blk.new (W : World) (t : TypeId) (cs : Array Value) : Blk (W.alloc (.cells cs t)) W.heap.size t cs := World.alloc_heap_new W _
theorem Blk.alloc {W : World} {b : Nat} {t : TypeId} {cs : Array Value} (h : Blk W b t cs) (o : Obj) : Blk (W.alloc o) b t cs := (Below.heap_alloc W o b h.lt).trans h
theorem Blk.below {W W' : World} {b B : Nat} {t : TypeId} {cs : Array Value} (h : Blk W b t cs) (hb : Below B W W') (hB : b < B) : Blk W' b t cs := (hb.block b hB).trans h
theorem Blk.other {W : World} {b b' j : Nat} {t : TypeId} {cs : Array Value} (h : Blk W b t cs) (hne : b ≠ b') (v : Value) : Blk (W.setCell ⟨b', j, none⟩ v) b t cs := (Below.heap_setCell W ⟨b', j, none⟩ v b hne).trans h
theorem Blk.set {W : World} {b : Nat} {t : TypeId} {cs : Array Value} (h : Blk W b t cs) (j : Nat) (v : Value) : Blk (W.setCell ⟨b, j, none⟩ v) b t (cs.setIfInBounds j v) := by
  obtain ⟨hlt, hk⟩ := Array.getElem?_eq_some_iff.1 h
  show (W.heap.modify b _)[b]? = _
  rw [Array.getElem?_eq_getElem (by rw [Array.size_modify]; exact hlt), Array.getElem_modify_self, hk]
  rfl
theorem Blk.drew {W : World} {b : Nat} {t : TypeId} {cs : Array Value} (h : Blk W b t cs) : Blk W.drew b t cs := h

theorem Hid.of {p : Prop} (h : p) : Hid p := h

end Go.Proofs.YtbdkaobbfmgnhaaDoor
namespace Go.Proofs.YtbdkaobbfmgnhaaDoor
open Go.RowKit
set_option linter.unusedVariables false

/-- All blocks of X but b are as they were. -/
structure Kp (b : Nat) (X W : World) : Prop where
  size : X.heap.size ≤ W.heap.size
  same : ∀ k, k < X.heap.size → k ≠ b → W.heap[k]? = X.heap[k]?
theorem Kp.refl (b : Nat) (X : World) : Kp b X X := ⟨Nat.le_refl _, fun _ _ _ => rfl⟩
theorem Kp.alloc {b : Nat} {X W : World} (h : Kp b X W) (o : Obj) : Kp b X (W.alloc o) :=
  ⟨by rw [World.size_alloc]; exact Nat.le_succ_of_le h.size, fun k hk hne => (Below.heap_alloc W o k (Nat.lt_of_lt_of_le hk h.size)).trans (h.same k hk hne)⟩
theorem Kp.set {b : Nat} {X W : World} (h : Kp b X W) (j : Nat) (v : Value) : Kp b X (W.setCell ⟨b, j, none⟩ v) :=
  ⟨by simpa [World.setCell] using h.size, fun k hk hne => (Below.heap_setCell W ⟨b, j, none⟩ v k hne).trans (h.same k hk hne)⟩
theorem Kp.grown {b : Nat} {X W W' : World} {row : Option Nat} (h : Kp b X W) (g : W.grownBy W' row) (hr : ∀ k, row = some k → X.heap.size ≤ k) : Kp b X W' :=
  ⟨Nat.le_trans h.size g.size, fun k hk hne => (g.block k (Nat.lt_of_lt_of_le hk h.size) (fun e => by have := hr k e.symm; omega)).trans (h.same k hk hne)⟩
theorem Kp.blk {b k : Nat} {X W : World} {t : TypeId} {cs : Array Value} (h : Kp b X W) (hB : Blk X k t cs) (hne : k ≠ b) : Blk W k t cs := (h.same k hB.lt hne).trans hB

end Go.Proofs.YtbdkaobbfmgnhaaDoor
namespace Go.Proofs.YtbdkaobbfmgnhaaDoor
open Go.RowKit

structure Arr where
  f : Int
  e : Int
  t : Int

structure Mach where
  st : Int
  ev : Int
  starts : List Int
  arrows : List Arr
  ends : List Int

def arr0 : Arr := ⟨0, 0, 0⟩

/-- Does an arrow stand ahead of another one? -/
def aheadB (a b : Arr) : Bool := if a.f = b.f then (if a.e = b.e then decide (a.t < b.t) else decide (a.e < b.e)) else decide (a.f < b.f)

/-- Is an arrow within the machine? -/
abbrev arrIn (st ev : Int) (a : Arr) : Prop := 0 ≤ a.f ∧ a.f < st ∧ 0 ≤ a.t ∧ a.t < st ∧ 0 ≤ a.e ∧ a.e < ev

/-- Is an arrow behind the one ahead, if there is one? -/
def behindB : Option Arr → Arr → Bool
  | none, _ => true
  | some b, a => aheadB b a

/-- Are the arrows within the machine, and each behind the one ahead? -/
def arrsFrom (st ev : Int) : Option Arr → List Arr → Bool
  | _, [] => true
  | p, a :: r => if arrIn st ev a ∧ behindB p a = true then arrsFrom st ev (some a) r else false

abbrev sizeOk (m : Mach) : Prop := 1 ≤ m.st ∧ m.st ≤ 256 ∧ 0 ≤ m.ev ∧ m.ev ≤ 8 ∧ m.arrows.length ≤ 4096

/-- May a machine be? (B1.) -/
def mayB (m : Mach) : Bool := decide (sizeOk m) && (rowB m.st m.starts && (rowB m.st m.ends && arrsFrom m.st m.ev none m.arrows))

/-- Is a list a word? (B2.) -/
def wordB (ev : Int) : List Int → Bool
  | [] => true
  | x :: r => if x < 0 ∨ ev ≤ x then false else wordB ev r

/-- The states to which the arrows of an event lead from states, in the arrows' order. -/
def stepTo (ars : List Arr) (ss : List Int) (e : Int) : List Int := (ars.filter fun a => a.e == e && hasB ss a.f).map (·.t)
/-- .. as a row. -/
def stepL (ars : List Arr) (ss : List Int) (e : Int) : List Int := srt (stepTo ars ss e)
/-- Where a word leads. -/
def afterL (ars : List Arr) (ss : List Int) (word : List Int) : List Int := word.foldl (fun l e => stepL ars l e) ss

def acceptsL (m : Mach) (word : List Int) : List Int := (afterL m.arrows m.starts word).filter fun n => hasB m.ends n == true
def acceptsB (m : Mach) (word : List Int) : Bool := decide (0 < (acceptsL m word).length)

theorem dropA {ars : List Arr} {k : Nat} (h : k < ars.length) : ars.drop k = ars[k]?.getD arr0 :: ars.drop (k + 1) := by
  rw [List.drop_eq_getElem_cons h, List.getElem?_eq_getElem h]; rfl

theorem mayB_size {m : Mach} (h : mayB m = true) : sizeOk m := by
  unfold mayB at h; rw [Bool.and_eq_true] at h; exact of_decide_eq_true h.1
theorem mayB_starts {m : Mach} (h : mayB m = true) : rowB m.st m.starts = true := by
  unfold mayB at h; simp only [Bool.and_eq_true] at h; exact h.2.1
theorem mayB_ends {m : Mach} (h : mayB m = true) : rowB m.st m.ends = true := by
  unfold mayB at h; simp only [Bool.and_eq_true] at h; exact h.2.2.1
theorem mayB_arrs {m : Mach} (h : mayB m = true) : arrsFrom m.st m.ev none m.arrows = true := by
  unfold mayB at h; simp only [Bool.and_eq_true] at h; exact h.2.2.2
theorem mayB_no1 {m : Mach} (h : ¬ sizeOk m) : false = mayB m := by unfold mayB; simp [h]
theorem mayB_no2 {m : Mach} (h : rowB m.st m.starts = false) : false = mayB m := by unfold mayB; simp [h]
theorem mayB_no3 {m : Mach} (h : rowB m.st m.ends = false) : false = mayB m := by unfold mayB; simp [h]
theorem mayB_go {m : Mach} (h1 : sizeOk m) (h2 : rowB m.st m.starts = true) (h3 : rowB m.st m.ends = true) : mayB m = arrsFrom m.st m.ev none m.arrows := by unfold mayB; simp [h1, h2, h3]

/-- The arrow ahead of place k. -/
def lastA (ars : List Arr) (k : Nat) : Option Arr := if k = 0 then none else some (ars[k - 1]?.getD arr0)

theorem arrs_no {st ev : Int} {ars : List Arr} {k : Nat} {a : Arr} {b : Bool} (h : k < ars.length) (ha : Hid (a = ars[k]?.getD arr0)) (e : Hid (b = arrsFrom st ev (lastA ars k) (ars.drop k))) (hx : ¬ arrIn st ev a) : false = b := by
  rw [e.out, dropA h, ← ha.out, arrsFrom, if_neg (fun h => hx h.1)]
theorem arrs_no2 {st ev : Int} {ars : List Arr} {k : Nat} {a p : Arr} {b : Bool} (h : k + 1 < ars.length) (ha : Hid (a = ars[k + 1]?.getD arr0)) (hp : Hid (p = ars[k]?.getD arr0)) (e : Hid (b = arrsFrom st ev (lastA ars (k + 1)) (ars.drop (k + 1)))) (hx : aheadB p a = false) : false = b := by
  rw [e.out, dropA h, ← ha.out, arrsFrom, if_neg]
  rintro ⟨-, h2⟩
  rw [show lastA ars (k + 1) = some p by simp [lastA, hp.out]] at h2
  have h3 : aheadB p a = true := h2
  rw [hx] at h3; cases h3
theorem arrs_yes0 {st ev : Int} {ars : List Arr} {a : Arr} {b : Bool} (h : 0 < ars.length) (ha : Hid (a = ars[0]?.getD arr0)) (e : Hid (b = arrsFrom st ev (lastA ars 0) (ars.drop 0))) (hx : arrIn st ev a) : Hid (b = arrsFrom st ev (lastA ars (0 + 1)) (ars.drop (0 + 1))) := by
  show b = _
  rw [e.out, dropA h, ← ha.out, arrsFrom, if_pos ⟨hx, rfl⟩]
  simp only [lastA, ha.out]; rfl
theorem arrs_yes {st ev : Int} {ars : List Arr} {k : Nat} {a p : Arr} {b : Bool} (h : k + 1 < ars.length) (ha : Hid (a = ars[k + 1]?.getD arr0)) (hp : Hid (p = ars[k]?.getD arr0)) (e : Hid (b = arrsFrom st ev (lastA ars (k + 1)) (ars.drop (k + 1)))) (hx : arrIn st ev a) (hy : aheadB p a = true) : Hid (b = arrsFrom st ev (lastA ars (k + 1 + 1)) (ars.drop (k + 1 + 1))) := by
  show b = _
  rw [e.out, dropA h, ← ha.out, arrsFrom, if_pos ⟨hx, by rw [show lastA ars (k + 1) = some p by simp [lastA, hp.out]]; exact hy⟩]
  simp only [lastA, ha.out]; rfl
theorem arrs_end {st ev : Int} {ars : List Arr} {k : Nat} {b : Bool} (h : ¬ k < ars.length) (e : Hid (b = arrsFrom st ev (lastA ars k) (ars.drop k))) : true = b := by
  rw [e.out, List.drop_eq_nil_of_le (by omega)]; rfl

theorem stepTo_len (ars : List Arr) (ss : List Int) (e : Int) : (stepTo ars ss e).length ≤ ars.length := by
  unfold stepTo; rw [List.length_map]; exact List.length_filter_le _ _
theorem stepTo_take {ars : List Arr} {k : Nat} {a : Arr} {ss : List Int} {e : Int} (h : k < ars.length) (ha : Hid (a = ars[k]?.getD arr0)) : stepTo (ars.take (k + 1)) ss e = if (a.e == e && hasB ss a.f) = true then stepTo (ars.take k) ss e ++ [a.t] else stepTo (ars.take k) ss e := by
  have ha := ha.out
  rw [List.getElem?_eq_getElem h, Option.getD_some] at ha
  unfold stepTo
  rw [List.take_add_one, List.getElem?_eq_getElem h, List.filter_append, List.map_append, ← ha]
  by_cases c : (a.e == e && hasB ss a.f) = true
  · rw [if_pos c]; simp only [Option.toList_some, List.filter_cons, c, if_true, List.filter_nil, List.map_cons, List.map_nil]
  · rw [if_neg c]; simp only [Option.toList_some, List.filter_cons, c, Bool.false_eq_true, if_false, List.filter_nil, List.map_nil, List.append_nil]

end Go.Proofs.YtbdkaobbfmgnhaaDoor
namespace Go.Proofs.YtbdkaobbfmgnhaaDoor
open Go.RowKit
set_option linter.unusedVariables false
set_option linter.unusedSectionVars false

/-! Which of two lists is the lesser one (G1). -/
def lexB : List Int → List Int → Bool
  | x :: a, y :: b => if x = y then lexB a b else decide (x < y)
  | _, _ => false
def lessB (a b : List Int) : Bool := if a.length = b.length then lexB a b else decide (a.length < b.length)
theorem lexB_irrefl : ∀ a, lexB a a = false
  | [] => rfl
  | x :: a => by unfold lexB; rw [if_pos rfl]; exact lexB_irrefl a
theorem lexB_trans : ∀ {a b c : List Int}, lexB a b = true → lexB b c = true → lexB a c = true
  | [], _, _, h, _ => by simp [lexB] at h
  | _ :: _, [], _, h, _ => by simp [lexB] at h
  | _ :: _, _ :: _, [], _, h => by simp [lexB] at h
  | x :: a, y :: b, z :: c, h, k => by
    unfold lexB at h k ⊢
    by_cases e1 : x = y
    · rw [if_pos e1] at h
      by_cases e2 : y = z
      · rw [if_pos e2] at k
        rw [if_pos (e1.trans e2)]
        exact lexB_trans h k
      · rw [if_neg e2] at k
        rw [if_neg (by omega)]
        have := of_decide_eq_true k
        exact decide_eq_true (by omega)
    · rw [if_neg e1] at h
      have h := of_decide_eq_true h
      by_cases e2 : y = z
      · rw [if_neg (by omega)]
        exact decide_eq_true (by omega)
      · rw [if_neg e2] at k
        have k := of_decide_eq_true k
        rw [if_neg (by omega)]
        exact decide_eq_true (by omega)
theorem lexB_snoc : ∀ {a b : List Int} (x y : Int), a.length = b.length → lexB a b = true → lexB (a ++ [x]) (b ++ [y]) = true
  | [], _, _, _, _, h => by simp [lexB] at h
  | _ :: _, [], _, _, h, _ => by simp at h
  | u :: a, v :: b, x, y, hl, h => by
    rw [List.cons_append, List.cons_append]
    unfold lexB at h ⊢
    by_cases e : u = v
    · rw [if_pos e] at h ⊢
      exact lexB_snoc x y (by simpa using hl) h
    · rw [if_neg e] at h ⊢
      exact h
theorem lexB_last : ∀ (a : List Int) {x y : Int}, x < y → lexB (a ++ [x]) (a ++ [y]) = true
  | [], x, y, h => by
    show lexB [x] [y] = true
    unfold lexB; rw [if_neg (by omega)]; exact decide_eq_true h
  | u :: a, x, y, h => by
    rw [List.cons_append, List.cons_append]
    unfold lexB
    rw [if_pos rfl]
    exact lexB_last a h
theorem lessB_irrefl (a : List Int) : lessB a a = false := by unfold lessB; rw [if_pos rfl]; exact lexB_irrefl a
theorem lessB_len {a b : List Int} (h : lessB a b = true) : a.length ≤ b.length := by
  unfold lessB at h
  by_cases e : a.length = b.length
  · omega
  · rw [if_neg e] at h
    have := of_decide_eq_true h; omega
theorem lessB_trans {a b c : List Int} (h : lessB a b = true) (k : lessB b c = true) : lessB a c = true := by
  have l1 := lessB_len h
  have l2 := lessB_len k
  unfold lessB at h k ⊢
  by_cases e1 : a.length = b.length
  · rw [if_pos e1] at h
    by_cases e2 : b.length = c.length
    · rw [if_pos e2] at k
      rw [if_pos (e1.trans e2)]
      exact lexB_trans h k
    · rw [if_neg (by omega)]
      exact decide_eq_true (by omega)
  · rw [if_neg (by omega)]
    exact decide_eq_true (by omega)
theorem lessB_snoc {a b : List Int} (x y : Int) (h : lessB a b = true) : lessB (a ++ [x]) (b ++ [y]) = true := by
  have l1 := lessB_len h
  unfold lessB at h ⊢
  simp only [List.length_append, List.length_cons, List.length_nil]
  by_cases e : a.length = b.length
  · rw [if_pos e] at h
    rw [if_pos (by omega)]
    exact lexB_snoc x y e h
  · rw [if_neg (by omega)]
    exact decide_eq_true (by omega)
theorem lessB_last (a : List Int) {x y : Int} (h : x < y) : lessB (a ++ [x]) (a ++ [y]) = true := by
  unfold lessB; rw [if_pos (by simp)]; exact lexB_last a h
/-- Lesser, or the same. -/
def leW (a b : List Int) : Prop := a = b ∨ lessB a b = true
theorem leW_refl (a : List Int) : leW a a := .inl rfl
theorem leW_trans {a b c : List Int} (h : leW a b) (k : leW b c) : leW a c := by
  rcases h with rfl | h
  · exact k
  · rcases k with rfl | k
    · exact .inr h
    · exact .inr (lessB_trans h k)
theorem leW_snoc {a b : List Int} (x : Int) (h : leW a b) : leW (a ++ [x]) (b ++ [x]) := by
  rcases h with rfl | h
  · exact .inl rfl
  · exact .inr (lessB_snoc x x h)
theorem leW_not {a b : List Int} (h : leW a b) : lessB b a = false := by
  cases hk : lessB b a with
  | false => rfl
  | true =>
    rcases h with rfl | h
    · rw [lessB_irrefl] at hk; cases hk
    · have := lessB_trans h hk; rw [lessB_irrefl] at this; cases this
theorem nil_le (a : List Int) : leW [] a := by
  cases a with
  | nil => exact .inl rfl
  | cons x r => exact .inr (by unfold lessB; rw [if_neg (by simp)]; exact decide_eq_true (by simp))

/-! The search. -/
section
variable {σ : Type} [DecidableEq σ] (δ : σ → Nat → σ)
def runF (s : σ) (u : List Int) : σ := u.foldl (fun s e => δ s e.toNat) s
theorem runF_snoc (s : σ) (u : List Int) (e : Int) : runF δ s (u ++ [e]) = δ (runF δ s u) e.toNat := by simp [runF, List.foldl_append]
/-- Is a place among some? -/
def knownB (l : List (σ × List Int)) (s : σ) : Bool := l.any fun p => decide (p.1 = s)
theorem knownB_iff (l : List (σ × List Int)) (s : σ) : knownB l s = true ↔ ∃ p ∈ l, p.1 = s := by simp [knownB]
/-- One event more, from place x. -/
def bfStep (x : σ × List Int) (l : List (σ × List Int)) (e : Nat) : List (σ × List Int) := if knownB l (δ x.1 e) = true then l else l ++ [(δ x.1 e, x.2 ++ [(e : Int)])]
def bfRow (x : σ × List Int) (l : List (σ × List Int)) (n : Nat) : List (σ × List Int) := (List.range n).foldl (bfStep δ x) l
theorem bfRow_succ (x : σ × List Int) (l : List (σ × List Int)) (n : Nat) : bfRow δ x l (n + 1) = bfStep δ x (bfRow δ x l n) n := by
  unfold bfRow; rw [List.range_succ, List.foldl_append]; rfl
def bfGo (ev : Nat) : Nat → Nat → List (σ × List Int) → List (σ × List Int)
  | 0, _, l => l
  | f + 1, k, l => match l[k]? with
    | none => l
    | some x => bfGo ev f (k + 1) (bfRow δ x l ev)
theorem bfStep_pre (x : σ × List Int) (l : List (σ × List Int)) (e : Nat) : ∃ t, bfStep δ x l e = l ++ t := by
  unfold bfStep; split
  · exact ⟨[], by simp⟩
  · exact ⟨_, rfl⟩
theorem bfRow_pre (x : σ × List Int) (l : List (σ × List Int)) : ∀ n, ∃ t, bfRow δ x l n = l ++ t
  | 0 => ⟨[], by simp [bfRow]⟩
  | n + 1 => by
    obtain ⟨t, h⟩ := bfRow_pre x l n
    obtain ⟨u, h'⟩ := bfStep_pre δ x (bfRow δ x l n) n
    exact ⟨t ++ u, by rw [bfRow_succ, h', h, List.append_assoc]⟩
/-- What holds when all events of the first k places, and the first n of the place k, have been gone on from. -/
structure BI (s0 : σ) (ev k n : Nat) (l : List (σ × List Int)) : Prop where
  nd : (l.map (·.1)).Nodup
  hd : l[0]? = some (s0, [])
  run : ∀ p ∈ l, p.1 = runF δ s0 p.2 ∧ ∀ e ∈ p.2, 0 ≤ e ∧ e < (ev : Int)
  inc : l.Pairwise (fun p q => lessB p.2 q.2 = true)
  cl : ∀ (i : Nat) (x : σ × List Int), l[i]? = some x → ∀ e : Nat, e < ev → (i < k ∨ (i = k ∧ e < n)) → ∃ y ∈ l, y.1 = δ x.1 e ∧ leW y.2 (x.2 ++ [(e : Int)])
  top : ∀ p ∈ l, p.2 = [] ∨ ∃ (i : Nat) (x : σ × List Int) (e : Nat), l[i]? = some x ∧ p.2 = x.2 ++ [(e : Int)] ∧ (i < k ∨ (i = k ∧ e < n))
theorem bi_start (s0 : σ) (ev : Nat) : BI δ s0 ev 0 0 [(s0, [])] := by
  refine ⟨by simp, rfl, fun p hp => ?_, by simp, fun i x hx e he h => by omega, fun p hp => ?_⟩
  · have : p = (s0, []) := by simpa using hp
    subst this; exact ⟨rfl, by simp⟩
  · have : p = (s0, []) := by simpa using hp
    subst this; exact .inl rfl
theorem bi_step {s0 : σ} {ev k n : Nat} {l : List (σ × List Int)} {x : σ × List Int} (h : BI δ s0 ev k n l) (hx : l[k]? = some x) (hn : n < ev) : BI δ s0 ev k (n + 1) (bfStep δ x l n) := by
  have hxm := List.mem_of_getElem? hx
  have hklt := (List.getElem?_eq_some_iff.1 hx).1
  -- every word so far is lesser than the new one
  have hless : ∀ p ∈ l, lessB p.2 (x.2 ++ [(n : Int)]) = true := by
    intro p hp
    rcases h.top p hp with h0 | ⟨i, y, e, hy, h1, h2⟩
    · rw [h0]
      rcases nil_le (x.2 ++ [(n : Int)]) with h3 | h3
      · have := congrArg List.length h3; simp at this
      · exact h3
    · rw [h1]
      rcases h2 with h2 | ⟨h2, h3⟩
      · have hlt := (List.getElem?_eq_some_iff.1 hy).1
        have := List.pairwise_iff_getElem.1 h.inc i k hlt hklt h2
        rw [(List.getElem?_eq_some_iff.1 hy).2, (List.getElem?_eq_some_iff.1 hx).2] at this
        exact lessB_snoc _ _ this
      · subst h2
        rw [hx] at hy
        have := Option.some.inj hy
        subst this
        exact lessB_last _ (by omega)
  by_cases hk : knownB l (δ x.1 n) = true
  · have e : bfStep δ x l n = l := by unfold bfStep; rw [if_pos hk]
    rw [e]
    refine ⟨h.nd, h.hd, h.run, h.inc, fun i y hy e he hi => ?_, fun p hp => ?_⟩
    · by_cases h1 : i < k ∨ (i = k ∧ e < n)
      · exact h.cl i y hy e he h1
      · have hik : i = k := by omega
        have hen : e = n := by omega
        subst hik; subst hen
        rw [hx] at hy
        have := Option.some.inj hy
        subst this
        obtain ⟨q, hq, e1⟩ := (knownB_iff _ _).1 hk
        exact ⟨q, hq, e1, .inr (hless q hq)⟩
    · rcases h.top p hp with h0 | ⟨i, y, e, hy, h1, h2⟩
      · exact .inl h0
      · exact .inr ⟨i, y, e, hy, h1, by omega⟩
  · have e : bfStep δ x l n = l ++ [(δ x.1 n, x.2 ++ [(n : Int)])] := by unfold bfStep; rw [if_neg hk]
    rw [e]
    have hx2 := h.run x hxm
    refine ⟨?_, ?_, ?_, ?_, ?_, ?_⟩
    · rw [List.map_append, List.nodup_append]
      refine ⟨h.nd, by simp, fun a ha b hb e => ?_⟩
      have hb : b = δ x.1 n := by simpa using hb
      subst hb; subst e
      obtain ⟨q, hq, e1⟩ := List.mem_map.1 ha
      exact hk ((knownB_iff _ _).2 ⟨q, hq, e1⟩)
    · rw [List.getElem?_append_left (List.getElem?_eq_some_iff.1 h.hd).1]; exact h.hd
    · intro p hp
      rcases List.mem_append.1 hp with hp | hp
      · exact h.run p hp
      · have : p = (δ x.1 n, x.2 ++ [(n : Int)]) := by simpa using hp
        subst this
        refine ⟨by rw [runF_snoc, ← hx2.1]; simp, fun e he => ?_⟩
        rcases List.mem_append.1 he with he | he
        · exact hx2.2 e he
        · have : e = (n : Int) := by simpa using he
          omega
    · rw [List.pairwise_append]
      refine ⟨h.inc, by simp, fun p hp q hq => ?_⟩
      have : q = (δ x.1 n, x.2 ++ [(n : Int)]) := by simpa using hq
      subst this
      exact hless p hp
    · intro i y hy e he hi
      have hil : i < l.length := by rcases hi with hi | hi <;> omega
      rw [List.getElem?_append_left hil] at hy
      by_cases h1 : i < k ∨ (i = k ∧ e < n)
      · obtain ⟨q, hq, e1, e2⟩ := h.cl i y hy e he h1
        exact ⟨q, List.mem_append_left _ hq, e1, e2⟩
      · have hik : i = k := by omega
        have hen : n = e := by omega
        subst hik; subst hen
        rw [hx] at hy
        have := Option.some.inj hy
        subst this
        exact ⟨(δ x.1 n, x.2 ++ [(n : Int)]), List.mem_append_right _ (by simp), rfl, leW_refl _⟩
    · intro p hp
      have hlk : ∀ (i : Nat) (y : σ × List Int), l[i]? = some y → (l ++ [(δ x.1 n, x.2 ++ [(n : Int)])])[i]? = some y := fun i y hy => by
        rw [List.getElem?_append_left (List.getElem?_eq_some_iff.1 hy).1]; exact hy
      rcases List.mem_append.1 hp with hp | hp
      · rcases h.top p hp with h0 | ⟨i, y, e, hy, h1, h2⟩
        · exact .inl h0
        · exact .inr ⟨i, y, e, hlk i y hy, h1, by omega⟩
      · have : p = (δ x.1 n, x.2 ++ [(n : Int)]) := by simpa using hp
        subst this
        exact .inr ⟨k, x, n, hlk k x hx, rfl, .inr ⟨rfl, by omega⟩⟩
theorem bi_row {s0 : σ} {ev k : Nat} {l : List (σ × List Int)} {x : σ × List Int} (h : BI δ s0 ev k 0 l) (hx : l[k]? = some x) : ∀ n, n ≤ ev → BI δ s0 ev k n (bfRow δ x l n)
  | 0, _ => h
  | n + 1, hn => by
    rw [bfRow_succ]
    obtain ⟨t, ht⟩ := bfRow_pre δ x l n
    exact bi_step δ (bi_row h hx n (by omega)) (by rw [ht, List.getElem?_append_left (List.getElem?_eq_some_iff.1 hx).1]; exact hx) (by omega)
theorem bi_next {s0 : σ} {ev k : Nat} {l : List (σ × List Int)} {x : σ × List Int} (h : BI δ s0 ev k 0 l) (hx : l[k]? = some x) : BI δ s0 ev (k + 1) 0 (bfRow δ x l ev) := by
  have h' := bi_row δ h hx ev (Nat.le_refl _)
  refine ⟨h'.nd, h'.hd, h'.run, h'.inc, fun i y hy e he hi => h'.cl i y hy e he (by omega), fun p hp => ?_⟩
  rcases h'.top p hp with h0 | ⟨i, y, e, hy, h1, h2⟩
  · exact .inl h0
  · exact .inr ⟨i, y, e, hy, h1, by omega⟩
/-- Where all places have been gone on from, each word's place is there, with a word that is no greater. -/
theorem bi_all {s0 : σ} {ev : Nat} {l : List (σ × List Int)} (h : BI δ s0 ev l.length 0 l) : ∀ (u : List Int), (∀ e ∈ u, 0 ≤ e ∧ e < (ev : Int)) → ∃ p ∈ l, p.1 = runF δ s0 u ∧ leW p.2 u := by
  have key : ∀ (n : Nat) (u : List Int), u.length = n → (∀ e ∈ u, 0 ≤ e ∧ e < (ev : Int)) → ∃ p ∈ l, p.1 = runF δ s0 u ∧ leW p.2 u := by
    intro n
    induction n with
    | zero =>
      intro u hu _
      have : u = [] := List.eq_nil_of_length_eq_zero hu
      subst this
      exact ⟨_, List.mem_of_getElem? h.hd, rfl, leW_refl _⟩
    | succ n ih =>
      intro u hu hb
      have hne : u ≠ [] := fun e => by rw [e] at hu; simp at hu
      have hsp := (List.dropLast_concat_getLast hne).symm
      obtain ⟨v, z, e⟩ : ∃ v z, u = v ++ [z] := ⟨_, _, hsp⟩
      subst e
      have hv : v.length = n := by simpa using hu
      obtain ⟨p, hp, e1, e2⟩ := ih v hv (fun y hy => hb y (by simp [hy]))
      have hz := hb z (by simp)
      obtain ⟨i, hi⟩ := List.mem_iff_getElem?.1 hp
      obtain ⟨q, hq, e3, e4⟩ := h.cl i p hi z.toNat (by omega) (.inl (List.getElem?_eq_some_iff.1 hi).1)
      refine ⟨q, hq, by rw [e3, e1, runF_snoc], ?_⟩
      have hc : ((z.toNat : Nat) : Int) = z := by omega
      rw [hc] at e4
      exact leW_trans e4 (leW_snoc z e2)
  exact fun u hb => key u.length u rfl hb
end

end Go.Proofs.YtbdkaobbfmgnhaaDoor
