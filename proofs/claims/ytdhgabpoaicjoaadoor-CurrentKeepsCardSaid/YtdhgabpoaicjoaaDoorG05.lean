/-
  Plain mathematics of places in a list. No program, no model.
  '==' and '!=' on two arrows, as the model runs them.
  Plain: arrows put in order one after the other.
  Plain mathematics of sets of bits: four words of 64 bits; what is in a set, its numbers in order, and what adding, joining and meeting do to it. No program, no model.
  Plain mathematics: sets of bits for rows of states; a table of where each state leads at each event; where a set leads. No program, no model.
-/
import Derived.Test.YtdhgabpoaicjoaaDoorG03
import Derived.Laws.StructEq
import Derived.Lib.TrailingZeros
namespace Go.Proofs.YtdhgabpoaicjoaaDoor
open Go.RowKit
set_option linter.unusedVariables false

/-- A number's place in a list. -/
def placeN : List Int → Int → Option Nat
  | [], _ => none
  | x :: r, n => if x = n then some 0 else (placeN r n).map (· + 1)
def placeF (k : Nat) (l : List Int) (n : Int) : Int := match placeN l n with
  | some j => ((k + j : Nat) : Int)
  | none => -1
/-- .. or -1. -/
def placeI (l : List Int) (n : Int) : Int := placeF 0 l n

theorem place_hit {xs : List Int} {k : Nat} {n x : Int} (h : k < xs.length) (hx : Hid (x = xs[k]?.getD 0)) (e : Hid (placeI xs n = placeF k (xs.drop k) n)) (hn : x = n) : (k : Int) = placeI xs n := by
  rw [e.out, drop_cons h, ← hx.out, placeF, placeN, if_pos hn]; simp
theorem place_miss {xs : List Int} {k : Nat} {n x : Int} (h : k < xs.length) (hx : Hid (x = xs[k]?.getD 0)) (e : Hid (placeI xs n = placeF k (xs.drop k) n)) (hn : ¬ x = n) : Hid (placeI xs n = placeF (k + 1) (xs.drop (k + 1)) n) := by
  show _ = _
  rw [e.out, drop_cons h, ← hx.out, placeF, placeN, if_neg hn, placeF]
  cases placeN (xs.drop (k + 1)) n with
  | none => rfl
  | some j => simp only [Option.map_some]; omega
theorem place_end {xs : List Int} {k : Nat} {n : Int} (h : ¬ k < xs.length) (e : Hid (placeI xs n = placeF k (xs.drop k) n)) : (-1 : Int) = placeI xs n := by
  rw [e.out, List.drop_eq_nil_of_le (by omega)]; rfl
theorem placeF_lt : ∀ (l : List Int) (n : Int) (j : Nat), placeN l n = some j → j < l.length
  | [], _, _, h => by simp [placeN] at h
  | x :: r, n, j, h => by
    unfold placeN at h
    by_cases hx : x = n
    · rw [if_pos hx] at h; cases h; simp
    · rw [if_neg hx] at h
      cases hp : placeN r n with
      | none => rw [hp] at h; cases h
      | some i => rw [hp] at h; cases h; have := placeF_lt r n i hp; simp only [List.length_cons]; omega
theorem placeI_bd (l : List Int) (n : Int) : -1 ≤ placeI l n ∧ placeI l n < l.length + 1 := by
  unfold placeI placeF
  cases h : placeN l n with
  | none => simp; omega
  | some j => have := placeF_lt l n j h; simp; omega

/-- The places of those numbers that are there. -/
def placesL (l ss : List Int) : List Int := (ss.map (placeI l)).filter fun k => decide (0 ≤ k)
theorem placesL_take {l ss : List Int} {k : Nat} {x : Int} (h : k < ss.length) (hx : Hid (x = ss[k]?.getD 0)) : placesL l (ss.take (k + 1)) = if 0 ≤ placeI l x then placesL l (ss.take k) ++ [placeI l x] else placesL l (ss.take k) := by
  have hx := hx.out
  rw [List.getElem?_eq_getElem h, Option.getD_some] at hx
  unfold placesL
  rw [List.take_add_one, List.getElem?_eq_getElem h, List.map_append, List.filter_append, ← hx]
  by_cases c : 0 ≤ placeI l x
  · rw [if_pos c]; simp [c]
  · rw [if_neg c]; simp [c]
theorem placesL_len (l ss : List Int) : (placesL l ss).length ≤ ss.length := by
  unfold placesL; exact Nat.le_trans (List.length_filter_le _ _) (by simp)

end Go.Proofs.YtdhgabpoaicjoaaDoor
namespace Go.Proofs.YtdhgabpoaicjoaaDoor
open Go.RowKit
set_option linter.unusedVariables false

abbrev arrEq (a b : Arr) : Prop := a.f = b.f ∧ a.e = b.e ∧ a.t = b.t
def arrEqB (a b : Arr) : Bool := decide (arrEq a b)

abbrev aval (a : Arr) : Value := .agg #[.int .i64 a.f, .int .i64 a.e, .int .i64 a.t]

theorem Tryd.fieldsArrow : Tryd.prog.underlying 61 = some (.struct (Tryd.prog.fieldsOf 61)) := by unfold Program.fieldsOf; rw [Tryd.underlying61]
theorem Tryd.stoodArrow : Tryd.prog.stoodInHeld 61 = false := by kernel_rfl
theorem Tryd.guardArrow : Tryd.prog.eqGuardType Tryd.prog.depth 61 = false := by kernel_rfl

theorem run_equalIn_arrow (a b : Arr) (w : World) : (Op.equalIn 10000 61 (aval a) (aval b)).run Tryd.prog w = .ok (arrEqB a b) w := by
  rw [run_equalIn_agg w 9999 61 _ _ Tryd.fieldsArrow Tryd.stoodArrow]
  have hf : (Tryd.prog.fieldsOf 61).toList = [{ name := "From", type := 3, offset := 0, embedded := false, tag := "", pkgPath := "", byteOffset := 0 }, { name := "Event", type := 3, offset := 1, embedded := false, tag := "", pkgPath := "", byteOffset := 8 }, { name := "To", type := 3, offset := 2, embedded := false, tag := "", pkgPath := "", byteOffset := 16 }] := by unfold Program.fieldsOf; rw [Tryd.underlying61]
  rw [hf]
  obtain ⟨a1, a2, a3⟩ := a
  obtain ⟨b1, b2, b3⟩ := b
  by_cases h1 : a1 = b1 <;> by_cases h2 : a2 = b2 <;> by_cases h3 : a3 = b3 <;> simp [Op.eqFields, go_sem, arrEqB, arrEq, h1, h2, h3]

theorem run_guard_arrow (op : BinOp) (x y : Operand) (xs ys : Array Value) (w : World) : (eqGuard op 61 x y (.agg xs) (.agg ys)).run Tryd.prog w = .ok () w := run_eqGuard_agg w op 61 x y xs ys Tryd.guardArrow

/-- Are two lists of arrows one? -/
def sameA : List Arr → List Arr → Bool
  | [], [] => true
  | a :: r, b :: s => if arrEq a b then sameA r s else false
  | _, _ => false

end Go.Proofs.YtdhgabpoaicjoaaDoor
namespace Go.Proofs.YtdhgabpoaicjoaaDoor
open Go.RowKit

def insA (x : Arr) : List Arr → List Arr
  | [] => [x]
  | y :: r => if aheadB y x = true then y :: insA x r else if arrEq y x then y :: r else x :: y :: r
def srtA (l : List Arr) : List Arr := l.foldl (fun out x => insA x out) []

theorem getA_succ (y : Arr) (r : List Arr) (j : Nat) : (y :: r)[j + 1]?.getD arr0 = r[j]?.getD arr0 := by simp

theorem insA_put {x : Arr} : ∀ {L : List Arr} {p : Nat}, p ≤ L.length → (∀ j, j < p → aheadB (L[j]?.getD arr0) x = true) → (p = L.length ∨ (aheadB (L[p]?.getD arr0) x = false ∧ ¬ arrEq (L[p]?.getD arr0) x)) → insA x L = L.take p ++ x :: L.drop p
  | [], p, hp, _, _ => by
    have : p = 0 := by simpa using hp
    subst this; simp [insA]
  | y :: r, 0, _, _, h => by
    rcases h with h | ⟨h, h'⟩
    · simp at h
    · have h : aheadB y x = false := by simpa using h
      have h' : ¬ arrEq y x := by simpa using h'
      simp only [insA, List.take_zero, List.drop_zero, List.nil_append]
      rw [if_neg (by rw [h]; simp), if_neg h']
  | y :: r, p + 1, hp, hl, h => by
    have h0 : aheadB y x = true := by simpa using hl 0 (by omega)
    have := insA_put (x := x) (L := r) (p := p) (by simpa using hp) (fun j hj => by have := hl (j + 1) (by omega); rwa [getA_succ] at this) (by
      rcases h with h | h
      · left; simpa using h
      · right; rwa [getA_succ] at h)
    simp only [insA]
    rw [if_pos h0, this]
    simp
theorem insA_same {x : Arr} : ∀ {L : List Arr} {p : Nat}, p < L.length → (∀ j, j < p → aheadB (L[j]?.getD arr0) x = true) → aheadB (L[p]?.getD arr0) x = false → arrEq (L[p]?.getD arr0) x → insA x L = L
  | [], p, hp, _, _, _ => by simp at hp
  | y :: r, 0, _, _, h, h' => by
    have h : aheadB y x = false := by simpa using h
    have h' : arrEq y x := by simpa using h'
    simp only [insA]
    rw [if_neg (by rw [h]; simp), if_pos h']
  | y :: r, p + 1, hp, hl, h, h' => by
    have h0 : aheadB y x = true := by simpa using hl 0 (by omega)
    have := insA_same (x := x) (L := r) (p := p) (by simpa using hp) (fun j hj => by have := hl (j + 1) (by omega); rwa [getA_succ] at this) (by rwa [getA_succ] at h) (by rwa [getA_succ] at h')
    simp only [insA]
    rw [if_pos h0, this]
theorem insA_len (x : Arr) : ∀ L, (insA x L).length ≤ L.length + 1
  | [] => by simp [insA]
  | y :: r => by
    unfold insA
    have := insA_len x r
    split
    · simp; omega
    · split <;> simp
theorem srtA_len (l : List Arr) : (srtA l).length ≤ l.length := by
  have : ∀ (l : List Arr) o, (l.foldl (fun out x => insA x out) o).length ≤ o.length + l.length := by
    intro l
    induction l with
    | nil => intro o; simp
    | cons x r ih => intro o; have h1 := ih (insA x o); have h2 := insA_len x o; simp only [List.foldl_cons, List.length_cons]; omega
  have h := this l []
  simpa [srtA] using h
theorem srtA_take {ars : List Arr} {k : Nat} {x : Arr} (h : k < ars.length) (hx : Hid (x = ars[k]?.getD arr0)) : srtA (ars.take (k + 1)) = insA x (srtA (ars.take k)) := by
  have hx := hx.out
  rw [List.getElem?_eq_getElem h, Option.getD_some] at hx
  rw [List.take_add_one, List.getElem?_eq_getElem h, Option.toList_some, hx]
  unfold srtA
  rw [List.foldl_append]; rfl

end Go.Proofs.YtdhgabpoaicjoaaDoor
namespace Go.Proofs.YtdhgabpoaicjoaaDoor

/-- Has a set (its words) the number? -/
def hasS (S : Nat → Nat) (n : Nat) : Bool := (S (n / 64)).testBit (n % 64)
/-- The set with a number more. -/
def withS (S : Nat → Nat) (n : Nat) : Nat → Nat := fun k => if k = n / 64 then S k ||| 2 ^ (n % 64) else S k
/-- What one of both has. -/
def joinS (S T : Nat → Nat) : Nat → Nat := fun k => S k ||| T k
/-- Nothing. -/
def zeroS : Nat → Nat := fun _ => 0
/-- Its words are words. -/
def okS (S : Nat → Nat) : Prop := ∀ k, S k < 18446744073709551616

theorem okS_zero : okS zeroS := fun _ => by simp [zeroS]
theorem okS_with {S : Nat → Nat} (h : okS S) (n : Nat) : okS (withS S n) := fun k => by
  unfold withS
  split
  · have : 2 ^ (n % 64) < 2 ^ 64 := Nat.pow_lt_pow_right (by omega) (by omega)
    exact Nat.or_lt_two_pow (n := 64) (h k) this
  · exact h k
theorem okS_join {S T : Nat → Nat} (h : okS S) (h' : okS T) : okS (joinS S T) := fun k => Nat.or_lt_two_pow (n := 64) (h k) (h' k)

theorem hasS_zero (n : Nat) : hasS zeroS n = false := by simp [hasS, zeroS]
theorem hasS_join (S T : Nat → Nat) (n : Nat) : hasS (joinS S T) n = (hasS S n || hasS T n) := by simp [hasS, joinS]
theorem hasS_with (S : Nat → Nat) (n k : Nat) : hasS (withS S n) k = (hasS S k || decide (k = n)) := by
  unfold hasS withS
  by_cases h : k / 64 = n / 64
  · rw [if_pos h, Nat.testBit_or, Nat.testBit_two_pow]
    congr 1
    apply decide_eq_decide.2
    omega
  · rw [if_neg h]
    have : ¬ k = n := fun e => h (by rw [e])
    simp [this]

/-- The numbers of a word's bits, rising. -/
def bitsOf (w : Nat) : List Nat := (List.range 64).filter fun i => w.testBit i
/-- .. of word i. -/
def bitsAt (i w : Nat) : List Nat := (bitsOf w).map fun j => 64 * i + j
/-- The numbers of k words from word i on. -/
def fromS (S : Nat → Nat) : Nat → Nat → List Nat
  | 0, _ => []
  | k + 1, i => bitsAt i (S i) ++ fromS S k (i + 1)
/-- The numbers of a set, rising. -/
def allS (S : Nat → Nat) : List Nat := fromS S 4 0
/-- .. as integers. -/
def rowS (S : Nat → Nat) : List Int := (allS S).map fun n : Nat => (n : Int)

theorem mem_bitsOf (w j : Nat) : j ∈ bitsOf w ↔ j < 64 ∧ w.testBit j = true := by simp [bitsOf]
theorem mem_bitsAt (i w n : Nat) : n ∈ bitsAt i w ↔ n / 64 = i ∧ w.testBit (n % 64) = true := by
  unfold bitsAt
  simp only [List.mem_map, mem_bitsOf]
  constructor
  · rintro ⟨j, ⟨h1, h2⟩, rfl⟩
    have e1 : (64 * i + j) / 64 = i := by omega
    have e2 : (64 * i + j) % 64 = j := by omega
    rw [e1, e2]; exact ⟨rfl, h2⟩
  · rintro ⟨h1, h2⟩
    exact ⟨n % 64, ⟨by omega, h2⟩, by omega⟩
theorem mem_fromS (S : Nat → Nat) (n : Nat) : ∀ k i, n ∈ fromS S k i ↔ i ≤ n / 64 ∧ n / 64 < i + k ∧ hasS S n = true
  | 0, i => by simp [fromS]; omega
  | k + 1, i => by
    rw [fromS, List.mem_append, mem_bitsAt, mem_fromS S n k (i + 1)]
    unfold hasS
    constructor
    · rintro (⟨h1, h2⟩ | ⟨h1, h2, h3⟩)
      · rw [← h1] at h2; exact ⟨by omega, by omega, h2⟩
      · exact ⟨by omega, by omega, h3⟩
    · rintro ⟨h1, h2, h3⟩
      by_cases h : n / 64 = i
      · rw [h] at h3; exact .inl ⟨h, h3⟩
      · exact .inr ⟨by omega, by omega, h3⟩
theorem mem_allS (S : Nat → Nat) (n : Nat) : n ∈ allS S ↔ n < 256 ∧ hasS S n = true := by
  unfold allS; rw [mem_fromS]
  constructor
  · rintro ⟨_, h2, h3⟩; exact ⟨by omega, h3⟩
  · rintro ⟨h2, h3⟩; exact ⟨by omega, by omega, h3⟩

theorem inc_bitsAt (i w : Nat) : (bitsAt i w).Pairwise (· < ·) := by
  unfold bitsAt bitsOf
  rw [List.pairwise_map]
  exact (List.pairwise_lt_range.filter _).imp (fun h => by omega)
theorem inc_fromS (S : Nat → Nat) : ∀ k i, (fromS S k i).Pairwise (· < ·)
  | 0, _ => by simp [fromS]
  | k + 1, i => by
    rw [fromS, List.pairwise_append]
    refine ⟨inc_bitsAt _ _, inc_fromS S k (i + 1), fun a ha b hb => ?_⟩
    have h1 := (mem_bitsAt _ _ _).1 ha
    have h2 := (mem_fromS _ _ _ _).1 hb
    omega
theorem inc_rowS (S : Nat → Nat) : Inc (rowS S) := by
  unfold rowS Inc
  rw [List.pairwise_map]
  exact (inc_fromS S 4 0).imp (fun h => by omega)
theorem mem_rowS (S : Nat → Nat) (x : Int) : x ∈ rowS S ↔ 0 ≤ x ∧ x < 256 ∧ hasS S x.toNat = true := by
  unfold rowS
  simp only [List.mem_map, mem_allS]
  constructor
  · rintro ⟨n, ⟨h1, h2⟩, rfl⟩; exact ⟨by omega, by omega, by simpa using h2⟩
  · rintro ⟨h1, h2, h3⟩; exact ⟨x.toNat, ⟨by omega, h3⟩, by omega⟩

theorem natInc_ext {a b : List Nat} (ha : a.Pairwise (· < ·)) (hb : b.Pairwise (· < ·)) (h : ∀ x, x ∈ a ↔ x ∈ b) : a = b := by
  have := inc_ext (a := a.map fun n : Nat => (n : Int)) (b := b.map fun n : Nat => (n : Int)) (by unfold Inc; rw [List.pairwise_map]; exact ha.imp (fun h => by omega)) (by unfold Inc; rw [List.pairwise_map]; exact hb.imp (fun h => by omega)) (fun x => by simp [h])
  exact (List.map_inj_right (fun x y h => by omega)).1 this

theorem inc_len : ∀ (l : List Nat) (n : Nat), l.Pairwise (· < ·) → (∀ x ∈ l, x < n) → l.length ≤ n := by
  intro l n hp hb
  have hs : l.Sublist (List.range n) := by
    have hn : l.Nodup := hp.imp (fun h => by omega)
    have e : l = (List.range n).filter fun i => l.contains i := by
      apply natInc_ext hp (List.pairwise_lt_range.filter _)
      intro x
      simp only [List.mem_filter, List.mem_range, List.contains_iff_mem]
      exact ⟨fun h => ⟨hb x h, h⟩, fun h => h.2⟩
    rw [e]; exact List.filter_sublist
  simpa using hs.length_le
theorem allS_len (S : Nat → Nat) : (allS S).length ≤ 256 := inc_len _ _ (inc_fromS S 4 0) (fun x hx => ((mem_allS S x).1 hx).1)

theorem low_bits (k m i : Nat) : (2 ^ k * (2 * m + 1)).testBit i = (decide (i = k) || (decide (k < i) && m.testBit (i - k - 1))) := by
  rw [Nat.mul_comm, Nat.testBit_mul_two_pow]
  by_cases h : k ≤ i
  · by_cases he : i = k
    · subst he; simp [Nat.testBit_zero]
    · obtain ⟨j, rfl⟩ : ∃ j, i = k + (j + 1) := ⟨i - k - 1, by omega⟩
      have e3 : k + (j + 1) - k = j + 1 := by omega
      rw [e3, Nat.testBit_succ]
      have d1 : (2 * m + 1) / 2 = m := by omega
      rw [d1]
      simp
  · simp [h]; omega
theorem low_clear (k m i : Nat) : ((2 ^ k * (2 * m + 1)) &&& (2 ^ k * (2 * m + 1) - 1)).testBit i = (decide (k < i) && (2 ^ k * (2 * m + 1)).testBit i) := by
  have hp : 0 < 2 ^ k := Nat.two_pow_pos k
  have e : 2 ^ k * (2 * m + 1) - 1 = 2 ^ k * (2 * m) + (2 ^ k - 1) := by
    rw [Nat.mul_add, Nat.mul_one]; omega
  rw [Nat.testBit_and, e, Nat.testBit_two_pow_mul_add _ (by omega)]
  by_cases h : i < k
  · rw [if_pos h, low_bits]
    have h1 : ¬ i = k := by omega
    have h2 : ¬ k < i := by omega
    simp [h1, h2]
  · rw [if_neg h, low_bits]
    by_cases he : i = k
    · subst he; simp [Nat.testBit_zero]
    · obtain ⟨j, rfl⟩ : ∃ j, i = k + (j + 1) := ⟨i - k - 1, by omega⟩
      have e3 : k + (j + 1) - k = j + 1 := by omega
      rw [e3, Nat.testBit_succ]
      have d1 : (2 * m) / 2 = m := by omega
      rw [d1]
      simp

/-- The least bit, and the rest: 'left & (left - 1)'. -/
theorem bitsOf_cons {w : Nat} (h0 : w ≠ 0) (h : w < 18446744073709551616) : bitsOf w = Lib.ctz 64 w :: bitsOf (w &&& (w - 1)) := by
  obtain ⟨m, hm, hk⟩ := Lib.ctzFrom_spec 64 w (by omega) h
  have e : Lib.ctz 64 w = Lib.ctzFrom 64 w := by simp [Lib.ctz, h0]
  rw [e]
  generalize Lib.ctzFrom 64 w = k at hm hk
  subst hm
  apply natInc_ext
  · exact List.pairwise_lt_range.filter _
  · rw [List.pairwise_cons]
    refine ⟨fun x hx => ?_, List.pairwise_lt_range.filter _⟩
    have := (mem_bitsOf _ _).1 hx
    rw [low_clear] at this
    simp at this
    exact this.2.1
  · intro x
    rw [mem_bitsOf, List.mem_cons, mem_bitsOf, low_clear, low_bits]
    by_cases hx : x = k
    · subst hx; simp; exact hk
    · simp [hx]
theorem ctz_lt {w : Nat} (h0 : w ≠ 0) (h : w < 18446744073709551616) : Lib.ctz 64 w < 64 := (Lib.lowest_bit 64 w h0 h).2
theorem clear_lt {w : Nat} (h : w < 18446744073709551616) : w &&& (w - 1) < 18446744073709551616 := Nat.and_lt_two_pow (n := 64) _ (by omega)
theorem bitsOf_zero : bitsOf 0 = [] := by simp [bitsOf]
theorem bitsAt_zero (i : Nat) : bitsAt i 0 = [] := by simp [bitsAt, bitsOf_zero]
theorem bitsAt_cons {i w : Nat} (h0 : w ≠ 0) (h : w < 18446744073709551616) : bitsAt i w = (64 * i + Lib.ctz 64 w) :: bitsAt i (w &&& (w - 1)) := by
  unfold bitsAt; rw [bitsOf_cons h0 h]; rfl

end Go.Proofs.YtdhgabpoaicjoaaDoor
namespace Go.Proofs.YtdhgabpoaicjoaaDoor
open Go.RowKit
set_option linter.unusedVariables false

/-- The set stands for the list. -/
structure Rep (S : Nat → Nat) (l : List Int) : Prop where
  ok : okS S
  bd : ∀ x ∈ l, 0 ≤ x ∧ x < 256
  mem : ∀ n, n < 256 → (hasS S n = true ↔ (n : Int) ∈ l)

theorem rep_row {S : Nat → Nat} {l : List Int} (h : Rep S l) (hl : Inc l) : rowS S = l := by
  refine inc_ext (inc_rowS S) hl fun x => ?_
  rw [mem_rowS]
  constructor
  · rintro ⟨h1, h2, h3⟩
    have := (h.mem x.toNat (by omega)).1 h3
    rwa [Int.toNat_of_nonneg h1] at this
  · intro hx
    obtain ⟨h1, h2⟩ := h.bd x hx
    exact ⟨h1, h2, (h.mem x.toNat (by omega)).2 (by rwa [Int.toNat_of_nonneg h1])⟩

def ofS (l : List Int) : Nat → Nat := l.foldl (fun s x => withS s x.toNat) zeroS
theorem ofS_snoc (l : List Int) (x : Int) : ofS (l ++ [x]) = withS (ofS l) x.toNat := by simp [ofS, List.foldl_append]
theorem rep_snoc {S : Nat → Nat} {l : List Int} {x : Int} (h : Rep S l) (h0 : 0 ≤ x) (h1 : x < 256) : Rep (withS S x.toNat) (l ++ [x]) := by
  refine ⟨okS_with h.ok _, ?_, fun n hn => ?_⟩
  · intro y hy
    rcases List.mem_append.1 hy with hy | hy
    · exact h.bd y hy
    · rw [List.mem_singleton.1 hy]; exact ⟨h0, h1⟩
  · rw [hasS_with, Bool.or_eq_true, h.mem n hn, List.mem_append, List.mem_singleton, decide_eq_true_eq]
    constructor
    · rintro (a | b)
      · exact .inl a
      · exact .inr (by omega)
    · rintro (a | b)
      · exact .inl a
      · exact .inr (by omega)
theorem rep_nil : Rep zeroS [] := ⟨okS_zero, by simp, fun n _ => by simp [hasS_zero]⟩
theorem rep_of : ∀ {l : List Int}, (∀ x ∈ l, 0 ≤ x ∧ x < 256) → ∀ k, Rep (ofS (l.take k)) (l.take k) := by
  intro l hl k
  induction k with
  | zero => simpa [ofS] using rep_nil
  | succ k ih =>
    by_cases h : k < l.length
    · have e : l.take (k + 1) = l.take k ++ [l[k]] := by rw [List.take_add_one, List.getElem?_eq_getElem h]; rfl
      have := hl l[k] (List.getElem_mem h)
      rw [e, ofS_snoc]
      exact rep_snoc ih this.1 this.2
    · rw [List.take_of_length_le (by omega)] at ih ⊢; exact ih

/-- The table: at place f * ev + e, where state f leads at event e. -/
def tabStep (ev : Nat) (T : Nat → Nat → Nat) (a : Arr) : Nat → Nat → Nat := fun p => if p = a.f.toNat * ev + a.e.toNat then withS (T p) a.t.toNat else T p
def tabS (ev : Nat) (ars : List Arr) : Nat → Nat → Nat := ars.foldl (tabStep ev) (fun _ => zeroS)
theorem tabS_snoc (ev : Nat) (ars : List Arr) (a : Arr) : tabS ev (ars ++ [a]) = tabStep ev (tabS ev ars) a := by simp [tabS, List.foldl_append]
theorem tabS_take {ev : Nat} {ars : List Arr} {k : Nat} {a : Arr} (h : k < ars.length) (ha : Hid (a = ars[k]?.getD arr0)) : tabS ev (ars.take (k + 1)) = tabStep ev (tabS ev (ars.take k)) a := by
  have ha := ha.out
  rw [List.getElem?_eq_getElem h, Option.getD_some] at ha
  rw [List.take_add_one, List.getElem?_eq_getElem h, ← ha]
  exact tabS_snoc _ _ _
theorem okS_tabStep {ev : Nat} {T : Nat → Nat → Nat} (h : ∀ p, okS (T p)) (a : Arr) : ∀ p, okS (tabStep ev T a p) := fun p => by
  unfold tabStep; split
  · exact okS_with (h p) _
  · exact h p
theorem okS_foldTab {ev : Nat} : ∀ (ars : List Arr) (T : Nat → Nat → Nat), (∀ p, okS (T p)) → ∀ p, okS (ars.foldl (tabStep ev) T p)
  | [], _, h => h
  | a :: r, T, h => okS_foldTab r _ (okS_tabStep h a)
theorem okS_tab (ev : Nat) (ars : List Arr) (p : Nat) : okS (tabS ev ars p) := okS_foldTab ars _ (fun _ => okS_zero) p
theorem has_foldTab {ev p n : Nat} : ∀ (ars : List Arr) (T : Nat → Nat → Nat), hasS (ars.foldl (tabStep ev) T p) n = true ↔ hasS (T p) n = true ∨ ∃ a ∈ ars, p = a.f.toNat * ev + a.e.toNat ∧ n = a.t.toNat
  | [], T => by simp
  | a :: r, T => by
    rw [List.foldl_cons, has_foldTab r]
    have e : hasS (tabStep ev T a p) n = true ↔ hasS (T p) n = true ∨ (p = a.f.toNat * ev + a.e.toNat ∧ n = a.t.toNat) := by
      unfold tabStep
      by_cases h : p = a.f.toNat * ev + a.e.toNat
      · rw [if_pos h, hasS_with, Bool.or_eq_true, decide_eq_true_eq]; simp [h]
      · rw [if_neg h]; simp [h]
    rw [e]
    simp only [List.mem_cons, exists_eq_or_imp]
    rw [or_assoc]
theorem has_tab (ev p n : Nat) (ars : List Arr) : hasS (tabS ev ars p) n = true ↔ ∃ a ∈ ars, p = a.f.toNat * ev + a.e.toNat ∧ n = a.t.toNat := by
  unfold tabS; rw [has_foldTab]; simp [hasS_zero]

/-- Where states lead to, by the table. -/
def leadF (T : Nat → Nat → Nat) (ev e : Nat) (ns : List Nat) : Nat → Nat := ns.foldl (fun o n => joinS o (T (n * ev + e))) zeroS
theorem leadF_snoc (T : Nat → Nat → Nat) (ev e : Nat) (ns : List Nat) (n : Nat) : leadF T ev e (ns ++ [n]) = joinS (leadF T ev e ns) (T (n * ev + e)) := by simp [leadF, List.foldl_append]
theorem ok_leadG {T : Nat → Nat → Nat} {ev e : Nat} (h : ∀ p, okS (T p)) : ∀ (ns : List Nat) (o : Nat → Nat), okS o → okS (ns.foldl (fun o n => joinS o (T (n * ev + e))) o)
  | [], _, ho => ho
  | n :: r, o, ho => ok_leadG h r _ (okS_join ho (h _))
theorem ok_leadF {T : Nat → Nat → Nat} {ev e : Nat} (h : ∀ p, okS (T p)) (ns : List Nat) : okS (leadF T ev e ns) := ok_leadG h ns _ okS_zero
theorem has_leadG {T : Nat → Nat → Nat} {ev e k : Nat} : ∀ (ns : List Nat) (o : Nat → Nat), hasS (ns.foldl (fun o n => joinS o (T (n * ev + e))) o) k = true ↔ hasS o k = true ∨ ∃ n ∈ ns, hasS (T (n * ev + e)) k = true
  | [], o => by simp
  | n :: r, o => by
    rw [List.foldl_cons, has_leadG r, hasS_join, Bool.or_eq_true]
    simp only [List.mem_cons, exists_eq_or_imp]
    rw [or_assoc]
theorem has_leadF (T : Nat → Nat → Nat) (ev e k : Nat) (ns : List Nat) : hasS (leadF T ev e ns) k = true ↔ ∃ n ∈ ns, hasS (T (n * ev + e)) k = true := by
  unfold leadF; rw [has_leadG]; simp [hasS_zero]

/-- Where a set leads, at an event. -/
def leadS (ev : Nat) (ars : List Arr) (S : Nat → Nat) (e : Nat) : Nat → Nat := leadF (tabS ev ars) ev e (allS S)

theorem mem_stepL (ars : List Arr) (l : List Int) (e : Int) (x : Int) : x ∈ stepL ars l e ↔ ∃ a ∈ ars, a.e = e ∧ a.f ∈ l ∧ a.t = x := by
  unfold stepL stepTo
  rw [mem_srt]
  simp only [List.mem_map, List.mem_filter, Bool.and_eq_true, beq_iff_eq, hasB, List.contains_iff_mem]
  constructor
  · rintro ⟨a, ⟨h1, h2, h3⟩, h4⟩; exact ⟨a, h1, h2, h3, h4⟩
  · rintro ⟨a, h1, h2, h3, h4⟩; exact ⟨a, ⟨h1, h2, h3⟩, h4⟩

theorem arrsFrom_in {st ev : Int} : ∀ {ars : List Arr} {p : Option Arr}, arrsFrom st ev p ars = true → ∀ a ∈ ars, arrIn st ev a
  | [], _, _ => by simp
  | b :: r, p, h => by
    unfold arrsFrom at h
    by_cases hc : arrIn st ev b ∧ behindB p b = true
    · rw [if_pos hc] at h
      intro a ha
      rcases List.mem_cons.1 ha with rfl | ha
      · exact hc.1
      · exact arrsFrom_in h a ha
    · rw [if_neg hc] at h; cases h

theorem rep_lead {S : Nat → Nat} {l : List Int} {st ev e : Int} {ars : List Arr} (h : Rep S l) (hin : ∀ a ∈ ars, arrIn st ev a) (hst : st ≤ 256) (h0 : 0 ≤ e) (h1 : e < ev) :
    Rep (leadS ev.toNat ars S e.toNat) (stepL ars l e) := by
  refine ⟨ok_leadF (okS_tab _ _) _, ?_, fun n hn => ?_⟩
  · intro x hx
    obtain ⟨a, ha, -, -, rfl⟩ := (mem_stepL _ _ _ _).1 hx
    have := hin a ha
    exact ⟨this.2.2.1, by omega⟩
  · unfold leadS
    rw [has_leadF, mem_stepL]
    constructor
    · rintro ⟨k, hk, ht⟩
      obtain ⟨a, ha, hp, hn⟩ := (has_tab _ _ _ _).1 ht
      obtain ⟨hk1, hk2⟩ := (mem_allS _ _).1 hk
      have hi := hin a ha
      have he : a.e.toNat < ev.toNat := by omega
      have he' : e.toNat < ev.toNat := by omega
      have hee : a.e.toNat = e.toNat := by
        have := congrArg (· % ev.toNat) hp
        simp only [Nat.mul_comm _ ev.toNat, Nat.mul_add_mod, Nat.mod_eq_of_lt he, Nat.mod_eq_of_lt he'] at this
        exact this.symm
      have hff : a.f.toNat = k := by
        rw [hee] at hp
        have := Nat.add_right_cancel hp
        exact (Nat.eq_of_mul_eq_mul_right (by omega) this).symm
      refine ⟨a, ha, by omega, ?_, by omega⟩
      have := (h.mem k hk1).1 hk2
      rw [← hff, Int.toNat_of_nonneg hi.1] at this
      exact this
    · rintro ⟨a, ha, hae, haf, hat⟩
      have hi := hin a ha
      have hb := h.bd _ haf
      refine ⟨a.f.toNat, (mem_allS _ _).2 ⟨by omega, (h.mem _ (by omega)).2 (by rwa [Int.toNat_of_nonneg hi.1])⟩, (has_tab _ _ _ _).2 ⟨a, ha, ?_, by omega⟩⟩
      rw [hae]

/-- Nothing is in a set. -/
def emptyB (S : Nat → Nat) : Bool := decide (S 0 = 0 ∧ S 1 = 0 ∧ S 2 = 0 ∧ S 3 = 0)
theorem word_zero {w : Nat} (h : w < 18446744073709551616) (hz : ∀ j, j < 64 → w.testBit j = false) : w = 0 := by
  apply Nat.eq_of_testBit_eq
  intro i
  rw [Nat.zero_testBit]
  by_cases hi : i < 64
  · exact hz i hi
  · exact Nat.testBit_lt_two_pow (Nat.lt_of_lt_of_le h (Nat.pow_le_pow_right (n := 2) (i := 64) (by omega) (by omega)))
theorem empty_yes {S : Nat → Nat} {l : List Int} (h : Rep S l) (he : emptyB S = true) : l = [] := by
  obtain ⟨e0, e1, e2, e3⟩ := of_decide_eq_true he
  cases l with
  | nil => rfl
  | cons x r =>
    obtain ⟨b0, b1⟩ := h.bd x (by simp)
    have := (h.mem x.toNat (by omega)).2 (by rw [Int.toNat_of_nonneg b0]; simp)
    exfalso
    unfold hasS at this
    have hk : x.toNat / 64 = 0 ∨ x.toNat / 64 = 1 ∨ x.toNat / 64 = 2 ∨ x.toNat / 64 = 3 := by omega
    rcases hk with hk | hk | hk | hk <;> rw [hk] at this <;> simp_all
theorem stepL_nil (ars : List Arr) (e : Int) : stepL ars [] e = [] := by
  cases h : stepL ars [] e with
  | nil => rfl
  | cons x r =>
    have : x ∈ stepL ars [] e := by rw [h]; simp
    obtain ⟨a, -, -, ha, -⟩ := (mem_stepL _ _ _ _).1 this
    simp at ha
theorem afterL_nil (ars : List Arr) : ∀ word, afterL ars [] word = []
  | [] => rfl
  | e :: r => by show afterL ars (stepL ars [] e) r = []; rw [stepL_nil]; exact afterL_nil ars r
theorem afterL_split (ars : List Arr) (ss : List Int) (word : List Int) (k : Nat) : afterL ars ss word = afterL ars (afterL ars ss (word.take k)) (word.drop k) := by
  unfold afterL
  rw [← List.foldl_append, List.take_append_drop]

/-- Is there a number that both have? -/
def meetB (S T : Nat → Nat) : Bool := decide (¬ (S 0 &&& T 0 = 0 ∧ S 1 &&& T 1 = 0 ∧ S 2 &&& T 2 = 0 ∧ S 3 &&& T 3 = 0))
theorem meet_word {a b : Nat} (ha : a < 18446744073709551616) : a &&& b = 0 ↔ ∀ j, j < 64 → ¬ (a.testBit j = true ∧ b.testBit j = true) := by
  constructor
  · intro h j _ ⟨h1, h2⟩
    have : (a &&& b).testBit j = true := by rw [Nat.testBit_and, h1, h2]; rfl
    rw [h] at this; simp at this
  · intro h
    apply word_zero (Nat.lt_of_le_of_lt Nat.and_le_left ha)
    intro j hj
    rw [Nat.testBit_and]
    have := h j hj
    cases h1 : a.testBit j <;> cases h2 : b.testBit j <;> simp_all
theorem meet_iff {S T : Nat → Nat} {l k : List Int} (h : Rep S l) (h' : Rep T k) : meetB S T = decide (0 < (l.filter fun n => hasB k n == true).length) := by
  unfold meetB
  apply decide_eq_decide.2
  constructor
  · intro hn
    have hex : ∃ i j, i < 4 ∧ j < 64 ∧ (S i).testBit j = true ∧ (T i).testBit j = true := by
      apply Classical.byContradiction
      intro hc
      apply hn
      have : ∀ i, i < 4 → S i &&& T i = 0 := fun i hi => (meet_word (h.ok i)).2 fun j hj ⟨a, b⟩ => hc ⟨i, j, hi, hj, a, b⟩
      exact ⟨this 0 (by omega), this 1 (by omega), this 2 (by omega), this 3 (by omega)⟩
    obtain ⟨i, j, hi, hj, h1, h2⟩ := hex
    have e1 : (64 * i + j) / 64 = i := by omega
    have e2 : (64 * i + j) % 64 = j := by omega
    have m1 := (h.mem (64 * i + j) (by omega)).1 (by unfold hasS; rw [e1, e2]; exact h1)
    have m2 := (h'.mem (64 * i + j) (by omega)).1 (by unfold hasS; rw [e1, e2]; exact h2)
    exact List.length_pos_of_mem (List.mem_filter.2 ⟨m1, by simpa [hasB] using m2⟩)
  · intro hp hz
    obtain ⟨x, hx⟩ := List.exists_mem_of_length_pos hp
    obtain ⟨x1, x2⟩ := List.mem_filter.1 hx
    have x3 : x ∈ k := by simpa [hasB] using x2
    obtain ⟨b0, b1⟩ := h.bd x x1
    have m1 := (h.mem x.toNat (by omega)).2 (by rwa [Int.toNat_of_nonneg b0])
    have m2 := (h'.mem x.toNat (by omega)).2 (by rwa [Int.toNat_of_nonneg b0])
    unfold hasS at m1 m2
    have key : ∀ i, x.toNat / 64 = i → S i &&& T i = 0 → False := fun i hi he => by
      rw [hi] at m1 m2
      exact (meet_word (h.ok i)).1 he _ (by omega) ⟨m1, m2⟩
    have hk : x.toNat / 64 = 0 ∨ x.toNat / 64 = 1 ∨ x.toNat / 64 = 2 ∨ x.toNat / 64 = 3 := by omega
    obtain ⟨z0, z1, z2, z3⟩ := hz
    rcases hk with hk | hk | hk | hk
    · exact key 0 hk z0
    · exact key 1 hk z1
    · exact key 2 hk z2
    · exact key 3 hk z3

end Go.Proofs.YtdhgabpoaicjoaaDoor
