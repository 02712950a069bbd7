/-
  Plain mathematics of rows (lists of integers): what 'is a row', union, insertion and filters are, on lists. No program, no model: it imports nothing.
  What is said of a slice of integers in a world: 'At w a xs': the slice that begins at 'a' reads as the list 'xs'. Small facts on it.
  Plain mathematics of sets of bits: four words of 64 bits; what is in a set, its numbers in order, and what adding, joining and meeting do to it. No program, no model.
  What is said of one block of memory: its cells.
  Plain mathematics of machines: arrows in order, what may be, words, where a word leads. No program, no model.
  Plain mathematics of what can be come to along arrows: rounds over all arrows, till nothing comes more. No program, no model.
  Plain mathematics: sets of bits for rows of states; a table of where each state leads at each event; where a set leads. No program, no model.
-/
import Derived.WalkKit
import Derived.WalkSpells
import Derived.WalkLawsBesides
import Derived.Test.YtdnglodemkeooaaDoorRows
import Derived.Lib.TrailingZeros
import Derived.RangeFuncBox
namespace Go.Proofs.YtdnglodemkeooaaDoor

/-- Is the list a row above 'last' and below 'below'? -/
def goIs (last below : Int) : List Int → Bool
  | [] => true
  | x :: r => if x ≤ last ∨ below ≤ x then false else goIs x below r

/-- 'A row below n': A1. -/
def rowB (n : Int) (xs : List Int) : Bool := goIs (-1) (min n 2147483648) xs

/-- The inner way of 'uni': the second list is gone through, the first one begins with x. -/
def goU (x : Int) (a : List Int) (f : List Int → List Int) : List Int → List Int
  | [] => x :: a
  | y :: b => if x < y then x :: f (y :: b) else if y < x then y :: goU x a f b else x :: f b

/-- The union of two rows. -/
def uni : List Int → List Int → List Int
  | [] => fun b => b
  | x :: a => goU x a (uni a)

theorem uni_nn (b : List Int) : uni [] b = b := rfl
theorem uni_cn (x : Int) (a : List Int) : uni (x :: a) [] = x :: a := rfl
theorem uni_cc (x y : Int) (a b : List Int) : uni (x :: a) (y :: b) = if x < y then x :: uni a (y :: b) else if y < x then y :: uni (x :: a) b else x :: uni a b := rfl

theorem uni_ind {motive : List Int → List Int → Prop} (case1 : ∀ b, motive [] b) (case2 : ∀ x a, motive (x :: a) [])
    (case3 : ∀ x a y b, x < y → motive a (y :: b) → motive (x :: a) (y :: b)) (case4 : ∀ x a y b, ¬ x < y → y < x → motive (x :: a) b → motive (x :: a) (y :: b))
    (case5 : ∀ x a y b, ¬ x < y → ¬ y < x → motive a b → motive (x :: a) (y :: b)) : ∀ a b, motive a b := by
  intro a
  induction a with
  | nil => exact case1
  | cons x a iha =>
    intro b
    induction b with
    | nil => exact case2 x a
    | cons y b ihb =>
      by_cases h : x < y
      · exact case3 x a y b h (iha _)
      · by_cases h' : y < x
        · exact case4 x a y b h h' ihb
        · exact case5 x a y b h h' (iha _)

def ins (x : Int) : List Int → List Int
  | [] => [x]
  | y :: r => if y < x then y :: ins x r else if y = x then y :: r else x :: y :: r

def srt (l : List Int) : List Int := l.foldl (fun out x => ins x out) []

abbrev Inc (l : List Int) : Prop := l.Pairwise (· < ·)

theorem goIs_iff (below : Int) (xs : List Int) : ∀ last, goIs last below xs = true ↔ Inc xs ∧ ∀ x ∈ xs, last < x ∧ x < below := by
  induction xs with
  | nil => intro last; simp [goIs, Inc]
  | cons x r ih =>
    intro last
    unfold goIs
    by_cases h : x ≤ last ∨ below ≤ x
    · rw [if_pos h]
      simp only [Bool.false_eq_true, false_iff]
      rintro ⟨-, h2⟩
      have := h2 x (by simp)
      omega
    · rw [if_neg h, ih x]
      simp only [Inc, List.pairwise_cons, List.mem_cons]
      constructor
      · rintro ⟨h1, h2⟩
        refine ⟨⟨fun y hy => (h2 y hy).1, h1⟩, ?_⟩
        rintro y (rfl | hy)
        · omega
        · have := h2 y hy; omega
      · rintro ⟨⟨h1, h2⟩, h3⟩
        exact ⟨h2, fun y hy => ⟨h1 y hy, (h3 y (.inr hy)).2⟩⟩

theorem goIs_len (below : Int) (xs : List Int) : ∀ last, last < below → goIs last below xs = true → (xs.length : Int) ≤ below - 1 - last := by
  induction xs with
  | nil => intro last h _; simp; omega
  | cons x r ih =>
    intro last h hg
    unfold goIs at hg
    by_cases hc : x ≤ last ∨ below ≤ x
    · rw [if_pos hc] at hg; cases hg
    · rw [if_neg hc] at hg
      have := ih x (by omega) hg
      simp only [List.length_cons]
      omega

theorem rowB_len {n : Int} {xs : List Int} (h : rowB n xs = true) : xs.length ≤ 2147483648 := by
  unfold rowB at h
  by_cases hn : -1 < min n 2147483648
  · have := goIs_len _ _ _ hn h; omega
  · cases xs with
    | nil => simp
    | cons x r => unfold goIs at h; rw [if_pos (by omega)] at h; cases h

theorem rowB_inc {n : Int} {xs : List Int} (h : rowB n xs = true) : Inc xs := ((goIs_iff _ _ _).1 h).1
theorem rowB_bd {n : Int} {xs : List Int} (h : rowB n xs = true) : ∀ x ∈ xs, 0 ≤ x ∧ x < 2147483648 := fun x hx => by
  have := ((goIs_iff _ _ _).1 h).2 x hx; omega
theorem rowB_mk {xs : List Int} (h : Inc xs) (hb : ∀ x ∈ xs, 0 ≤ x ∧ x < 2147483648) : rowB 2147483648 xs = true :=
  (goIs_iff _ _ _).2 ⟨h, fun x hx => by have := hb x hx; omega⟩

theorem inc_ext : ∀ {a b : List Int}, Inc a → Inc b → (∀ x, x ∈ a ↔ x ∈ b) → a = b
  | [], [], _, _, _ => rfl
  | [], y :: b, _, _, h => by have := (h y).2 (by simp); simp at this
  | x :: a, [], _, _, h => by have := (h x).1 (by simp); simp at this
  | x :: a, y :: b, ha, hb, h => by
    simp only [Inc, List.pairwise_cons] at ha hb
    have e : x = y := by
      have h1 := (h x).1 (by simp)
      have h2 := (h y).2 (by simp)
      simp only [List.mem_cons] at h1 h2
      rcases h1 with rfl | h1
      · rfl
      · rcases h2 with rfl | h2
        · rfl
        · have := ha.1 y h2; have := hb.1 x h1; omega
    subst e
    refine congrArg _ (inc_ext ha.2 hb.2 fun z => ?_)
    have hz := h z
    simp only [List.mem_cons] at hz
    constructor
    · intro m
      rcases hz.1 (.inr m) with rfl | m'
      · have := ha.1 z m; omega
      · exact m'
    · intro m
      rcases hz.2 (.inr m) with rfl | m'
      · have := hb.1 z m; omega
      · exact m'

theorem mem_uni (z : Int) : ∀ a b, z ∈ uni a b ↔ z ∈ a ∨ z ∈ b := by
  intro a b
  induction a, b using uni_ind with
  | case1 b => simp [uni_nn]
  | case2 x a => simp [uni_cn]
  | case3 x a y b h ih => rw [uni_cc, if_pos h, List.mem_cons, ih]; simp only [List.mem_cons, or_assoc]
  | case4 x a y b h h' ih => rw [uni_cc, if_neg h, if_pos h', List.mem_cons, ih]; simp only [List.mem_cons]; constructor <;> (intro hh; rcases hh with hh | hh | hh <;> simp_all)
  | case5 x a y b h h' ih =>
    have e : x = y := by omega
    subst e
    rw [uni_cc, if_neg h, if_neg h', List.mem_cons, ih]; simp only [List.mem_cons]; constructor
    · rintro (hh | hh | hh) <;> simp [hh]
    · rintro ((hh | hh) | (hh | hh)) <;> simp [hh]

theorem inc_uni : ∀ a b, Inc a → Inc b → Inc (uni a b) := by
  intro a b
  induction a, b using uni_ind with
  | case1 b => simp [uni_nn]
  | case2 x a => intro h _; simpa [uni_cn] using h
  | case3 x a y b h ih =>
    intro ha hb
    rw [uni_cc, if_pos h]
    have ha' := List.pairwise_cons.1 ha
    have hb' := List.pairwise_cons.1 hb
    refine List.pairwise_cons.2 ⟨fun z hz => ?_, ih ha'.2 hb⟩
    rcases (mem_uni z _ _).1 hz with m | m
    · exact ha'.1 z m
    · rcases List.mem_cons.1 m with rfl | m
      · exact h
      · have := hb'.1 z m; omega
  | case4 x a y b h h' ih =>
    intro ha hb
    rw [uni_cc, if_neg h, if_pos h']
    have ha' := List.pairwise_cons.1 ha
    have hb' := List.pairwise_cons.1 hb
    refine List.pairwise_cons.2 ⟨fun z hz => ?_, ih ha hb'.2⟩
    rcases (mem_uni z _ _).1 hz with m | m
    · rcases List.mem_cons.1 m with rfl | m
      · exact h'
      · have := ha'.1 z m; omega
    · exact hb'.1 z m
  | case5 x a y b h h' ih =>
    intro ha hb
    have e : x = y := by omega
    subst e
    rw [uni_cc, if_neg h, if_neg h']
    have ha' := List.pairwise_cons.1 ha
    have hb' := List.pairwise_cons.1 hb
    refine List.pairwise_cons.2 ⟨fun z hz => ?_, ih ha'.2 hb'.2⟩
    rcases (mem_uni z _ _).1 hz with m | m
    · exact ha'.1 z m
    · exact hb'.1 z m

theorem mem_ins (z x : Int) : ∀ l, z ∈ ins x l ↔ z = x ∨ z ∈ l
  | [] => by simp [ins]
  | y :: r => by
    unfold ins
    by_cases h : y < x
    · rw [if_pos h, List.mem_cons, mem_ins z x r, List.mem_cons]; constructor <;> (intro hh; rcases hh with hh | hh | hh <;> simp_all)
    · rw [if_neg h]
      by_cases h' : y = x
      · rw [if_pos h']; subst h'; simp
      · rw [if_neg h']; simp

theorem inc_ins (x : Int) : ∀ l, Inc l → Inc (ins x l)
  | [], _ => by simp [ins]
  | y :: r, h => by
    have h1 := List.pairwise_cons.1 h
    unfold ins
    by_cases hc : y < x
    · rw [if_pos hc]
      refine List.pairwise_cons.2 ⟨fun z hz => ?_, inc_ins x r h1.2⟩
      rcases (mem_ins z x r).1 hz with rfl | m
      · exact hc
      · exact h1.1 z m
    · rw [if_neg hc]
      by_cases h' : y = x
      · rw [if_pos h']; exact h
      · rw [if_neg h']
        refine List.pairwise_cons.2 ⟨fun z hz => ?_, h⟩
        rcases List.mem_cons.1 hz with rfl | m
        · omega
        · have := h1.1 z m; omega

theorem srt_snoc (l : List Int) (x : Int) : srt (l ++ [x]) = ins x (srt l) := by simp [srt, List.foldl_append]

theorem inc_foldl (l : List Int) : ∀ o, Inc o → Inc (l.foldl (fun out x => ins x out) o) := by
  induction l with
  | nil => intro o h; exact h
  | cons x r ih => intro o h; exact ih _ (inc_ins x o h)
theorem mem_foldl (z : Int) (l : List Int) : ∀ o, z ∈ l.foldl (fun out x => ins x out) o ↔ z ∈ o ∨ z ∈ l := by
  induction l with
  | nil => intro o; simp
  | cons x r ih =>
    intro o
    rw [List.foldl_cons, ih, mem_ins, List.mem_cons]
    constructor
    · rintro ((hh | hh) | hh) <;> simp [hh]
    · rintro (hh | (hh | hh)) <;> simp [hh]
theorem inc_srt (l : List Int) : Inc (srt l) := inc_foldl l [] (by simp [Inc])
theorem mem_srt (z : Int) (l : List Int) : z ∈ srt l ↔ z ∈ l := by unfold srt; rw [mem_foldl]; simp

theorem ins_len (x : Int) : ∀ l, (ins x l).length ≤ l.length + 1
  | [] => by simp [ins]
  | y :: r => by
    unfold ins
    have := ins_len x r
    split
    · simp; omega
    · split <;> simp
theorem srt_len (l : List Int) : (srt l).length ≤ l.length := by
  have : ∀ (l : List Int) o, (l.foldl (fun out x => ins x out) o).length ≤ o.length + l.length := by
    intro l
    induction l with
    | nil => intro o; simp
    | cons x r ih => intro o; have h1 := ih (ins x o); have h2 := ins_len x o; simp only [List.foldl_cons, List.length_cons]; omega
  have h := this l []
  simpa [srt] using h

theorem srt_join {a b : List Int} (ha : Inc a) (hb : Inc b) : srt (a ++ b) = uni a b :=
  inc_ext (inc_srt _) (inc_uni _ _ ha hb) fun x => by rw [mem_srt, mem_uni, List.mem_append]

theorem inc_filter {a : List Int} (p : Int → Bool) (ha : Inc a) : Inc (a.filter p) := ha.filter p

theorem uni_all (a b : List Int) : (uni a b).filter (fun n => a.contains n || b.contains n) = uni a b := by
  rw [List.filter_eq_self]
  intro x hx
  rcases (mem_uni x _ _).1 hx with m | m <;> simp [m]
theorem uni_meet {a b : List Int} (ha : Inc a) (hb : Inc b) : (uni a b).filter (fun n => a.contains n && b.contains n) = a.filter (fun n => b.contains n == true) :=
  inc_ext (inc_filter _ (inc_uni _ _ ha hb)) (inc_filter _ ha) fun x => by
    simp only [List.mem_filter, mem_uni, List.contains_iff_mem, Bool.and_eq_true, beq_iff_eq]
    constructor
    · rintro ⟨-, h1, h2⟩; exact ⟨h1, h2⟩
    · rintro ⟨h1, h2⟩; exact ⟨.inl h1, h1, h2⟩
theorem uni_less {a b : List Int} (ha : Inc a) (hb : Inc b) : (uni a b).filter (fun n => a.contains n && !b.contains n) = a.filter (fun n => b.contains n == false) :=
  inc_ext (inc_filter _ (inc_uni _ _ ha hb)) (inc_filter _ ha) fun x => by
    simp only [List.mem_filter, mem_uni, Bool.and_eq_true, Bool.not_eq_true', beq_iff_eq, List.contains_iff_mem]
    constructor
    · rintro ⟨-, h1, h2⟩; exact ⟨h1, h2⟩
    · rintro ⟨h1, h2⟩; exact ⟨.inl h1, h1, h2⟩

theorem not_mem_lt {x : Int} {b : List Int} (h : ∀ y ∈ b, x < y) : b.contains x = false := by
  rw [← Bool.not_eq_true, List.contains_iff_mem]
  intro m
  have := h x m
  omega

theorem uni_len : ∀ a b, Inc a → Inc b → (uni a b).length = (a.filter (fun n => b.contains n == false)).length + b.length := by
  intro a b
  induction a, b using uni_ind with
  | case1 b => simp [uni_nn]
  | case2 x a =>
    intro _ _
    simp only [uni_cn, List.length_nil, Nat.add_zero]
    rw [List.filter_eq_self.2 (fun z _ => by simp)]
  | case3 x a y b h ih =>
    intro ha hb
    have ha' := List.pairwise_cons.1 ha
    have hb' := List.pairwise_cons.1 hb
    rw [uni_cc, if_pos h, List.length_cons, ih ha'.2 hb, List.filter_cons, if_pos]
    · simp only [List.length_cons]; omega
    · rw [not_mem_lt (fun z hz => by rcases List.mem_cons.1 hz with rfl | m; exact h; have := hb'.1 z m; omega)]; rfl
  | case4 x a y b h h' ih =>
    intro ha hb
    have ha' := List.pairwise_cons.1 ha
    have hb' := List.pairwise_cons.1 hb
    rw [uni_cc, if_neg h, if_pos h', List.length_cons, ih ha hb'.2]
    have e : (x :: a).filter (fun n => (y :: b).contains n == false) = (x :: a).filter (fun n => b.contains n == false) := by
      apply List.filter_congr
      intro z hz
      have hzy : ¬ z = y := by rcases List.mem_cons.1 hz with rfl | m; omega; have := ha'.1 z m; omega
      simp [hzy]
    rw [e]
    simp only [List.length_cons]; omega
  | case5 x a y b h h' ih =>
    intro ha hb
    have e : x = y := by omega
    subst e
    have ha' := List.pairwise_cons.1 ha
    have hb' := List.pairwise_cons.1 hb
    rw [uni_cc, if_neg h, if_neg h', List.length_cons, ih ha'.2 hb'.2, List.filter_cons, if_neg (by simp)]
    have e : a.filter (fun n => (x :: b).contains n == false) = a.filter (fun n => b.contains n == false) := by
      apply List.filter_congr
      intro z hz
      have hzy : ¬ z = x := by have := ha'.1 z hz; omega
      simp [hzy]
    rw [e]
    simp only [List.length_cons]; omega

theorem uni_len_le : ∀ a b, (uni a b).length ≤ a.length + b.length := by
  intro a b
  induction a, b using uni_ind with
  | case1 b => simp [uni_nn]
  | case2 x a => simp [uni_cn]
  | case3 x a y b h ih => rw [uni_cc, if_pos h]; simp only [List.length_cons] at ih ⊢; omega
  | case4 x a y b h h' ih => rw [uni_cc, if_neg h, if_pos h']; simp only [List.length_cons] at ih ⊢; omega
  | case5 x a y b h h' ih => rw [uni_cc, if_neg h, if_neg h']; simp only [List.length_cons] at ih ⊢; omega

end Go.Proofs.YtdnglodemkeooaaDoor
namespace Go.Proofs.YtdnglodemkeooaaDoor
open Go.RowKit

/-- The cells from place 'off' of block 'b' on hold the integers 'xs'. -/
def Cells (w : World) (b off : Nat) (xs : List Int) : Prop := ∀ j, j < xs.length → w.cell? ⟨b, off + j, none⟩ = some (.int .i64 (xs.getD j 0))

theorem Cells.at {w : World} {b off k : Nat} {xs : List Int} (hc : Cells w b off xs) (h : k < xs.length) : ∃ x, Hid (x = xs[k]?.getD 0) ∧ w.cell? ⟨b, off + k, none⟩ = some (.int .i64 x) :=
  ⟨_, rfl, by have := hc k h; rw [List.getD_eq_getElem?_getD] at this; exact this⟩

/-- The cells from 'a' on hold the integers 'xs'. -/
def At (w : World) (a : Option Addr) (xs : List Int) : Prop :=
  xs = [] ∨ ∃ b off, a = some ⟨b, off, none⟩ ∧ b < w.heap.size ∧ Cells w b off xs

theorem At.below {w w' : World} {a : Option Addr} {xs : List Int} {B : Nat} (h : At w a xs) (hb : Below B w w') (hB : w.heap.size ≤ B) : At w' a xs := by
  rcases h with h | ⟨b, off, rfl, hlt, hc⟩
  · exact .inl h
  · exact .inr ⟨b, off, rfl, Nat.lt_of_lt_of_le hlt hb.size, fun j hj => by rw [hb.cell (p := ⟨b, off + j, none⟩) (Nat.lt_of_lt_of_le hlt hB)]; exact hc j hj⟩

theorem At.drewN {w : World} {a : Option Addr} {xs : List Int} (h : At w a xs) (m : Nat) : At (w.drewN m) a xs := h

theorem drop_cons {xs : List Int} {k : Nat} (h : k < xs.length) : xs.drop k = xs[k]?.getD 0 :: xs.drop (k + 1) := by
  rw [List.drop_eq_getElem_cons h, List.getElem?_eq_getElem h]; rfl

theorem ret_int {k : IntKind} {a b : Int} (h : a = b) : Ending.returned (.int k a) = .returned (.int k b) := by rw [h]
theorem ret_bool {a b : Bool} (h : a = b) : Ending.returned (.bool a) = .returned (.bool b) := by rw [h]

/-- Has the list the number? (A function of our own, which the walk leaves as it stands.) -/
def hasB (xs : List Int) (n : Int) : Bool := xs.contains n

theorem has_hit {xs : List Int} {k : Nat} {n x : Int} (h : k < xs.length) (e : Hid (hasB xs n = hasB (xs.drop k) n)) (hv : Hid (x = xs[k]?.getD 0)) (hx : (x == n) = true) : true = hasB xs n := by
  have e := e.out; have hv := hv.out; have hx : x = n := by simpa using hx
  subst hx; rw [e, drop_cons h, ← hv]; simp [hasB]
theorem has_miss {xs : List Int} {k : Nat} {n x : Int} (h : k < xs.length) (e : Hid (hasB xs n = hasB (xs.drop k) n)) (hv : Hid (x = xs[k]?.getD 0)) (hx : (x == n) = false) : Hid (hasB xs n = hasB (xs.drop (k + 1)) n) := by
  have e := e.out; have hv := hv.out; have hx : ¬ x = n := by simpa using hx
  have h1 : (n == x) = false := by simp; omega
  show hasB xs n = hasB (xs.drop (k + 1)) n
  rw [e, drop_cons h, ← hv, hasB, List.contains_cons, h1]; simp [hasB]
theorem has_end {xs : List Int} {k : Nat} {n : Int} (h : ¬ k < xs.length) (e : Hid (hasB xs n = hasB (xs.drop k) n)) : false = hasB xs n := by
  rw [e.out, List.drop_eq_nil_of_le (by omega)]; rfl
theorem is_no {xs : List Int} {k : Nat} {last bel n x : Int} (h : k < xs.length) (e : Hid (rowB n xs = goIs last bel (xs.drop k))) (hv : Hid (x = xs[k]?.getD 0)) (hx : x ≤ last ∨ bel ≤ x) : false = rowB n xs := by
  rw [e.out, drop_cons h, ← hv.out, goIs, if_pos hx]
theorem is_yes {xs : List Int} {k : Nat} {last bel n x : Int} (h : k < xs.length) (e : Hid (rowB n xs = goIs last bel (xs.drop k))) (hv : Hid (x = xs[k]?.getD 0)) (hx : ¬ (x ≤ last ∨ bel ≤ x)) : Hid (rowB n xs = goIs x bel (xs.drop (k + 1))) := by
  show rowB n xs = goIs x bel (xs.drop (k + 1))
  rw [e.out, drop_cons h, ← hv.out, goIs, if_neg hx]
theorem is_end {xs : List Int} {k : Nat} {last bel n : Int} (h : ¬ k < xs.length) (e : Hid (rowB n xs = goIs last bel (xs.drop k))) : true = rowB n xs := by
  rw [e.out, List.drop_eq_nil_of_le (by omega)]; rfl

end Go.Proofs.YtdnglodemkeooaaDoor
namespace Go.Proofs.YtdnglodemkeooaaDoor

/-- Has a set (its words) the number? -/
def hasS (S : Nat → Nat) (n : Nat) : Bool := (S (n / 64)).testBit (n % 64)
/-- The set with a number more. -/
def withS (S : Nat → Nat) (n : Nat) : Nat → Nat := fun k => if k = n / 64 then S k ||| 2 ^ (n % 64) else S k
/-- What one of both has. -/
def joinS (S T : Nat → Nat) : Nat → Nat := fun k => S k ||| T k
/-- Nothing. -/
def zeroS : Nat → Nat := fun _ => 0
/-- Its words are words. -/
def okS (S : Nat → Nat) : Prop := ∀ k, S k < 18446744073709551616

theorem okS_zero : okS zeroS := fun _ => by simp [zeroS]
theorem okS_with {S : Nat → Nat} (h : okS S) (n : Nat) : okS (withS S n) := fun k => by
  unfold withS
  split
  · have : 2 ^ (n % 64) < 2 ^ 64 := Nat.pow_lt_pow_right (by omega) (by omega)
    exact Nat.or_lt_two_pow (n := 64) (h k) this
  · exact h k
theorem okS_join {S T : Nat → Nat} (h : okS S) (h' : okS T) : okS (joinS S T) := fun k => Nat.or_lt_two_pow (n := 64) (h k) (h' k)

theorem hasS_zero (n : Nat) : hasS zeroS n = false := by simp [hasS, zeroS]
theorem hasS_join (S T : Nat → Nat) (n : Nat) : hasS (joinS S T) n = (hasS S n || hasS T n) := by simp [hasS, joinS]
theorem hasS_with (S : Nat → Nat) (n k : Nat) : hasS (withS S n) k = (hasS S k || decide (k = n)) := by
  unfold hasS withS
  by_cases h : k / 64 = n / 64
  · rw [if_pos h, Nat.testBit_or, Nat.testBit_two_pow]
    congr 1
    apply decide_eq_decide.2
    omega
  · rw [if_neg h]
    have : ¬ k = n := fun e => h (by rw [e])
    simp [this]

/-- The numbers of a word's bits, rising. -/
def bitsOf (w : Nat) : List Nat := (List.range 64).filter fun i => w.testBit i
/-- .. of word i. -/
def bitsAt (i w : Nat) : List Nat := (bitsOf w).map fun j => 64 * i + j
/-- The numbers of k words from word i on. -/
def fromS (S : Nat → Nat) : Nat → Nat → List Nat
  | 0, _ => []
  | k + 1, i => bitsAt i (S i) ++ fromS S k (i + 1)
/-- The numbers of a set, rising. -/
def allS (S : Nat → Nat) : List Nat := fromS S 4 0
/-- .. as integers. -/
def rowS (S : Nat → Nat) : List Int := (allS S).map fun n : Nat => (n : Int)

theorem mem_bitsOf (w j : Nat) : j ∈ bitsOf w ↔ j < 64 ∧ w.testBit j = true := by simp [bitsOf]
theorem mem_bitsAt (i w n : Nat) : n ∈ bitsAt i w ↔ n / 64 = i ∧ w.testBit (n % 64) = true := by
  unfold bitsAt
  simp only [List.mem_map, mem_bitsOf]
  constructor
  · rintro ⟨j, ⟨h1, h2⟩, rfl⟩
    have e1 : (64 * i + j) / 64 = i := by omega
    have e2 : (64 * i + j) % 64 = j := by omega
    rw [e1, e2]; exact ⟨rfl, h2⟩
  · rintro ⟨h1, h2⟩
    exact ⟨n % 64, ⟨by omega, h2⟩, by omega⟩
theorem mem_fromS (S : Nat → Nat) (n : Nat) : ∀ k i, n ∈ fromS S k i ↔ i ≤ n / 64 ∧ n / 64 < i + k ∧ hasS S n = true
  | 0, i => by simp [fromS]; omega
  | k + 1, i => by
    rw [fromS, List.mem_append, mem_bitsAt, mem_fromS S n k (i + 1)]
    unfold hasS
    constructor
    · rintro (⟨h1, h2⟩ | ⟨h1, h2, h3⟩)
      · rw [← h1] at h2; exact ⟨by omega, by omega, h2⟩
      · exact ⟨by omega, by omega, h3⟩
    · rintro ⟨h1, h2, h3⟩
      by_cases h : n / 64 = i
      · rw [h] at h3; exact .inl ⟨h, h3⟩
      · exact .inr ⟨by omega, by omega, h3⟩
theorem mem_allS (S : Nat → Nat) (n : Nat) : n ∈ allS S ↔ n < 256 ∧ hasS S n = true := by
  unfold allS; rw [mem_fromS]
  constructor
  · rintro ⟨_, h2, h3⟩; exact ⟨by omega, h3⟩
  · rintro ⟨h2, h3⟩; exact ⟨by omega, by omega, h3⟩

theorem inc_bitsAt (i w : Nat) : (bitsAt i w).Pairwise (· < ·) := by
  unfold bitsAt bitsOf
  rw [List.pairwise_map]
  exact (List.pairwise_lt_range.filter _).imp (fun h => by omega)
theorem inc_fromS (S : Nat → Nat) : ∀ k i, (fromS S k i).Pairwise (· < ·)
  | 0, _ => by simp [fromS]
  | k + 1, i => by
    rw [fromS, List.pairwise_append]
    refine ⟨inc_bitsAt _ _, inc_fromS S k (i + 1), fun a ha b hb => ?_⟩
    have h1 := (mem_bitsAt _ _ _).1 ha
    have h2 := (mem_fromS _ _ _ _).1 hb
    omega
theorem inc_rowS (S : Nat → Nat) : Inc (rowS S) := by
  unfold rowS Inc
  rw [List.pairwise_map]
  exact (inc_fromS S 4 0).imp (fun h => by omega)
theorem mem_rowS (S : Nat → Nat) (x : Int) : x ∈ rowS S ↔ 0 ≤ x ∧ x < 256 ∧ hasS S x.toNat = true := by
  unfold rowS
  simp only [List.mem_map, mem_allS]
  constructor
  · rintro ⟨n, ⟨h1, h2⟩, rfl⟩; exact ⟨by omega, by omega, by simpa using h2⟩
  · rintro ⟨h1, h2, h3⟩; exact ⟨x.toNat, ⟨by omega, h3⟩, by omega⟩

theorem natInc_ext {a b : List Nat} (ha : a.Pairwise (· < ·)) (hb : b.Pairwise (· < ·)) (h : ∀ x, x ∈ a ↔ x ∈ b) : a = b := by
  have := inc_ext (a := a.map fun n : Nat => (n : Int)) (b := b.map fun n : Nat => (n : Int)) (by unfold Inc; rw [List.pairwise_map]; exact ha.imp (fun h => by omega)) (by unfold Inc; rw [List.pairwise_map]; exact hb.imp (fun h => by omega)) (fun x => by simp [h])
  exact (List.map_inj_right (fun x y h => by omega)).1 this

theorem inc_len : ∀ (l : List Nat) (n : Nat), l.Pairwise (· < ·) → (∀ x ∈ l, x < n) → l.length ≤ n := by
  intro l n hp hb
  have hs : l.Sublist (List.range n) := by
    have hn : l.Nodup := hp.imp (fun h => by omega)
    have e : l = (List.range n).filter fun i => l.contains i := by
      apply natInc_ext hp (List.pairwise_lt_range.filter _)
      intro x
      simp only [List.mem_filter, List.mem_range, List.contains_iff_mem]
      exact ⟨fun h => ⟨hb x h, h⟩, fun h => h.2⟩
    rw [e]; exact List.filter_sublist
  simpa using hs.length_le
theorem allS_len (S : Nat → Nat) : (allS S).length ≤ 256 := inc_len _ _ (inc_fromS S 4 0) (fun x hx => ((mem_allS S x).1 hx).1)

theorem low_bits (k m i : Nat) : (2 ^ k * (2 * m + 1)).testBit i = (decide (i = k) || (decide (k < i) && m.testBit (i - k - 1))) := by
  rw [Nat.mul_comm, Nat.testBit_mul_two_pow]
  by_cases h : k ≤ i
  · by_cases he : i = k
    · subst he; simp [Nat.testBit_zero]
    · obtain ⟨j, rfl⟩ : ∃ j, i = k + (j + 1) := ⟨i - k - 1, by omega⟩
      have e3 : k + (j + 1) - k = j + 1 := by omega
      rw [e3, Nat.testBit_succ]
      have d1 : (2 * m + 1) / 2 = m := by omega
      rw [d1]
      simp
  · simp [h]; omega
theorem low_clear (k m i : Nat) : ((2 ^ k * (2 * m + 1)) &&& (2 ^ k * (2 * m + 1) - 1)).testBit i = (decide (k < i) && (2 ^ k * (2 * m + 1)).testBit i) := by
  have hp : 0 < 2 ^ k := Nat.two_pow_pos k
  have e : 2 ^ k * (2 * m + 1) - 1 = 2 ^ k * (2 * m) + (2 ^ k - 1) := by
    rw [Nat.mul_add, Nat.mul_one]; omega
  rw [Nat.testBit_and, e, Nat.testBit_two_pow_mul_add _ (by omega)]
  by_cases h : i < k
  · rw [if_pos h, low_bits]
    have h1 : ¬ i = k := by omega
    have h2 : ¬ k < i := by omega
    simp [h1, h2]
  · rw [if_neg h, low_bits]
    by_cases he : i = k
    · subst he; simp [Nat.testBit_zero]
    · obtain ⟨j, rfl⟩ : ∃ j, i = k + (j + 1) := ⟨i - k - 1, by omega⟩
      have e3 : k + (j + 1) - k = j + 1 := by omega
      rw [e3, Nat.testBit_succ]
      have d1 : (2 * m) / 2 = m := by omega
      rw [d1]
      simp

/-- The least bit, and the rest: 'left & (left - 1)'. -/
theorem bitsOf_cons {w : Nat} (h0 : w ≠ 0) (h : w < 18446744073709551616) : bitsOf w = Lib.ctz 64 w :: bitsOf (w &&& (w - 1)) := by
  obtain ⟨m, hm, hk⟩ := Lib.ctzFrom_spec 64 w (by omega) h
  have e : Lib.ctz 64 w = Lib.ctzFrom 64 w := by simp [Lib.ctz, h0]
  rw [e]
  generalize Lib.ctzFrom 64 w = k at hm hk
  subst hm
  apply natInc_ext
  · exact List.pairwise_lt_range.filter _
  · rw [List.pairwise_cons]
    refine ⟨fun x hx => ?_, List.pairwise_lt_range.filter _⟩
    have := (mem_bitsOf _ _).1 hx
    rw [low_clear] at this
    simp at this
    exact this.2.1
  · intro x
    rw [mem_bitsOf, List.mem_cons, mem_bitsOf, low_clear, low_bits]
    by_cases hx : x = k
    · subst hx; simp; exact hk
    · simp [hx]
theorem ctz_lt {w : Nat} (h0 : w ≠ 0) (h : w < 18446744073709551616) : Lib.ctz 64 w < 64 := (Lib.lowest_bit 64 w h0 h).2
theorem clear_lt {w : Nat} (h : w < 18446744073709551616) : w &&& (w - 1) < 18446744073709551616 := Nat.and_lt_two_pow (n := 64) _ (by omega)
theorem bitsOf_zero : bitsOf 0 = [] := by simp [bitsOf]
theorem bitsAt_zero (i : Nat) : bitsAt i 0 = [] := by simp [bitsAt, bitsOf_zero]
theorem bitsAt_cons {i w : Nat} (h0 : w ≠ 0) (h : w < 18446744073709551616) : bitsAt i w = (64 * i + Lib.ctz 64 w) :: bitsAt i (w &&& (w - 1)) := by
  unfold bitsAt; rw [bitsOf_cons h0 h]; rfl

end Go.Proofs.YtdnglodemkeooaaDoor
namespace Go.Proofs.YtdnglodemkeooaaDoor
open Go.RowKit
set_option linter.unusedVariables false

/-- Block b is cells of type t, which hold cs. -/
def Blk (W : World) (b : Nat) (t : TypeId) (cs : Array Value) : Prop := W.heap[b]? = some (.cells cs t (0, 0))

theorem Blk.lt {W : World} {b : Nat} {t : TypeId} {cs : Array Value} (h : Blk W b t cs) : b < W.heap.size := (Array.getElem?_eq_some_iff.1 h).1
theorem Blk.cell {W : World} {b : Nat} {t : TypeId} {cs : Array Value} (h : Blk W b t cs) (j : Nat) {v : Value} (hv : cs[j]? = some v) : W.cell? ⟨b, j, none⟩ = some v := by simp [World.cell?, show W.heap[b]? = _ from h, hv]
theorem Blk.frozen {W : World} {b : Nat} {t : TypeId} {cs : Array Value} (h : Blk W b t cs) (j : Nat) : W.frozen? ⟨b, j, none⟩ = false := by simp [World.frozen?, show W.heap[b]? = _ from h]
theorem Blk.new (W : World) (t : TypeId) (cs : Array Value) : Blk (W.alloc (.cells cs t)) W.heap.size t cs := World.alloc_heap_new W _
theorem Blk.alloc {W : World} {b : Nat} {t : TypeId} {cs : Array Value} (h : Blk W b t cs) (o : Obj) : Blk (W.alloc o) b t cs := (Below.heap_alloc W o b h.lt).trans h
theorem Blk.below {W W' : World} {b B : Nat} {t : TypeId} {cs : Array Value} (h : Blk W b t cs) (hb : Below B W W') (hB : b < B) : Blk W' b t cs := (hb.block b hB).trans h
theorem Blk.other {W : World} {b b' j : Nat} {t : TypeId} {cs : Array Value} (h : Blk W b t cs) (hne : b ≠ b') (v : Value) : Blk (W.setCell ⟨b', j, none⟩ v) b t cs := (Below.heap_setCell W ⟨b', j, none⟩ v b hne).trans h
theorem Blk.set {W : World} {b : Nat} {t : TypeId} {cs : Array Value} (h : Blk W b t cs) (j : Nat) (v : Value) : Blk (W.setCell ⟨b, j, none⟩ v) b t (cs.setIfInBounds j v) := by
  obtain ⟨hlt, hk⟩ := Array.getElem?_eq_some_iff.1 h
  show (W.heap.modify b _)[b]? = _
  rw [Array.getElem?_eq_getElem (by rw [Array.size_modify]; exact hlt), Array.getElem_modify_self, hk]
  rfl
theorem Blk.drew {W : World} {b : Nat} {t : TypeId} {cs : Array Value} (h : Blk W b t cs) : Blk W.drew b t cs := h

theorem Hid.of {p : Prop} (h : p) : Hid p := h

end Go.Proofs.YtdnglodemkeooaaDoor
namespace Go.Proofs.YtdnglodemkeooaaDoor
open Go.RowKit

structure Arr where
  f : Int
  e : Int
  t : Int

structure Mach where
  st : Int
  ev : Int
  starts : List Int
  arrows : List Arr
  ends : List Int

def arr0 : Arr := ⟨0, 0, 0⟩

/-- Does an arrow stand ahead of another one? -/
def aheadB (a b : Arr) : Bool := if a.f = b.f then (if a.e = b.e then decide (a.t < b.t) else decide (a.e < b.e)) else decide (a.f < b.f)

/-- Is an arrow within the machine? -/
abbrev arrIn (st ev : Int) (a : Arr) : Prop := 0 ≤ a.f ∧ a.f < st ∧ 0 ≤ a.t ∧ a.t < st ∧ 0 ≤ a.e ∧ a.e < ev

/-- Is an arrow behind the one ahead, if there is one? -/
def behindB : Option Arr → Arr → Bool
  | none, _ => true
  | some b, a => aheadB b a

/-- Are the arrows within the machine, and each behind the one ahead? -/
def arrsFrom (st ev : Int) : Option Arr → List Arr → Bool
  | _, [] => true
  | p, a :: r => if arrIn st ev a ∧ behindB p a = true then arrsFrom st ev (some a) r else false

abbrev sizeOk (m : Mach) : Prop := 1 ≤ m.st ∧ m.st ≤ 256 ∧ 0 ≤ m.ev ∧ m.ev ≤ 8 ∧ m.arrows.length ≤ 4096

/-- May a machine be? (B1.) -/
def mayB (m : Mach) : Bool := decide (sizeOk m) && (rowB m.st m.starts && (rowB m.st m.ends && arrsFrom m.st m.ev none m.arrows))

/-- Is a list a word? (B2.) -/
def wordB (ev : Int) : List Int → Bool
  | [] => true
  | x :: r => if x < 0 ∨ ev ≤ x then false else wordB ev r

/-- The states to which the arrows of an event lead from states, in the arrows' order. -/
def stepTo (ars : List Arr) (ss : List Int) (e : Int) : List Int := (ars.filter fun a => a.e == e && hasB ss a.f).map (·.t)
/-- .. as a row. -/
def stepL (ars : List Arr) (ss : List Int) (e : Int) : List Int := srt (stepTo ars ss e)
/-- Where a word leads. -/
def afterL (ars : List Arr) (ss : List Int) (word : List Int) : List Int := word.foldl (fun l e => stepL ars l e) ss

def acceptsL (m : Mach) (word : List Int) : List Int := (afterL m.arrows m.starts word).filter fun n => hasB m.ends n == true
def acceptsB (m : Mach) (word : List Int) : Bool := decide (0 < (acceptsL m word).length)

theorem dropA {ars : List Arr} {k : Nat} (h : k < ars.length) : ars.drop k = ars[k]?.getD arr0 :: ars.drop (k + 1) := by
  rw [List.drop_eq_getElem_cons h, List.getElem?_eq_getElem h]; rfl

theorem mayB_size {m : Mach} (h : mayB m = true) : sizeOk m := by
  unfold mayB at h; rw [Bool.and_eq_true] at h; exact of_decide_eq_true h.1
theorem mayB_starts {m : Mach} (h : mayB m = true) : rowB m.st m.starts = true := by
  unfold mayB at h; simp only [Bool.and_eq_true] at h; exact h.2.1
theorem mayB_ends {m : Mach} (h : mayB m = true) : rowB m.st m.ends = true := by
  unfold mayB at h; simp only [Bool.and_eq_true] at h; exact h.2.2.1
theorem mayB_arrs {m : Mach} (h : mayB m = true) : arrsFrom m.st m.ev none m.arrows = true := by
  unfold mayB at h; simp only [Bool.and_eq_true] at h; exact h.2.2.2
theorem mayB_no1 {m : Mach} (h : ¬ sizeOk m) : false = mayB m := by unfold mayB; simp [h]
theorem mayB_no2 {m : Mach} (h : rowB m.st m.starts = false) : false = mayB m := by unfold mayB; simp [h]
theorem mayB_no3 {m : Mach} (h : rowB m.st m.ends = false) : false = mayB m := by unfold mayB; simp [h]
theorem mayB_go {m : Mach} (h1 : sizeOk m) (h2 : rowB m.st m.starts = true) (h3 : rowB m.st m.ends = true) : mayB m = arrsFrom m.st m.ev none m.arrows := by unfold mayB; simp [h1, h2, h3]

/-- The arrow ahead of place k. -/
def lastA (ars : List Arr) (k : Nat) : Option Arr := if k = 0 then none else some (ars[k - 1]?.getD arr0)

theorem arrs_no {st ev : Int} {ars : List Arr} {k : Nat} {a : Arr} {b : Bool} (h : k < ars.length) (ha : Hid (a = ars[k]?.getD arr0)) (e : Hid (b = arrsFrom st ev (lastA ars k) (ars.drop k))) (hx : ¬ arrIn st ev a) : false = b := by
  rw [e.out, dropA h, ← ha.out, arrsFrom, if_neg (fun h => hx h.1)]
theorem arrs_no2 {st ev : Int} {ars : List Arr} {k : Nat} {a p : Arr} {b : Bool} (h : k + 1 < ars.length) (ha : Hid (a = ars[k + 1]?.getD arr0)) (hp : Hid (p = ars[k]?.getD arr0)) (e : Hid (b = arrsFrom st ev (lastA ars (k + 1)) (ars.drop (k + 1)))) (hx : aheadB p a = false) : false = b := by
  rw [e.out, dropA h, ← ha.out, arrsFrom, if_neg]
  rintro ⟨-, h2⟩
  rw [show lastA ars (k + 1) = some p by simp [lastA, hp.out]] at h2
  have h3 : aheadB p a = true := h2
  rw [hx] at h3; cases h3
theorem arrs_yes0 {st ev : Int} {ars : List Arr} {a : Arr} {b : Bool} (h : 0 < ars.length) (ha : Hid (a = ars[0]?.getD arr0)) (e : Hid (b = arrsFrom st ev (lastA ars 0) (ars.drop 0))) (hx : arrIn st ev a) : Hid (b = arrsFrom st ev (lastA ars (0 + 1)) (ars.drop (0 + 1))) := by
  show b = _
  rw [e.out, dropA h, ← ha.out, arrsFrom, if_pos ⟨hx, rfl⟩]
  simp only [lastA, ha.out]; rfl
theorem arrs_yes {st ev : Int} {ars : List Arr} {k : Nat} {a p : Arr} {b : Bool} (h : k + 1 < ars.length) (ha : Hid (a = ars[k + 1]?.getD arr0)) (hp : Hid (p = ars[k]?.getD arr0)) (e : Hid (b = arrsFrom st ev (lastA ars (k + 1)) (ars.drop (k + 1)))) (hx : arrIn st ev a) (hy : aheadB p a = true) : Hid (b = arrsFrom st ev (lastA ars (k + 1 + 1)) (ars.drop (k + 1 + 1))) := by
  show b = _
  rw [e.out, dropA h, ← ha.out, arrsFrom, if_pos ⟨hx, by rw [show lastA ars (k + 1) = some p by simp [lastA, hp.out]]; exact hy⟩]
  simp only [lastA, ha.out]; rfl
theorem arrs_end {st ev : Int} {ars : List Arr} {k : Nat} {b : Bool} (h : ¬ k < ars.length) (e : Hid (b = arrsFrom st ev (lastA ars k) (ars.drop k))) : true = b := by
  rw [e.out, List.drop_eq_nil_of_le (by omega)]; rfl

theorem word_no {ev : Int} {xs : List Int} {k : Nat} {x : Int} (h : k < xs.length) (hx : Hid (x = xs[k]?.getD 0)) (e : Hid (wordB ev xs = wordB ev (xs.drop k))) (hc : x < 0 ∨ ev ≤ x) : false = wordB ev xs := by
  rw [e.out, drop_cons h, ← hx.out, wordB, if_pos hc]
theorem word_yes {ev : Int} {xs : List Int} {k : Nat} {x : Int} (h : k < xs.length) (hx : Hid (x = xs[k]?.getD 0)) (e : Hid (wordB ev xs = wordB ev (xs.drop k))) (hc : ¬ (x < 0 ∨ ev ≤ x)) : Hid (wordB ev xs = wordB ev (xs.drop (k + 1))) := by
  show _ = _
  rw [e.out, drop_cons h, ← hx.out, wordB, if_neg hc]
theorem word_end {ev : Int} {xs : List Int} {k : Nat} (h : ¬ k < xs.length) (e : Hid (wordB ev xs = wordB ev (xs.drop k))) : true = wordB ev xs := by
  rw [e.out, List.drop_eq_nil_of_le (by omega)]; rfl

theorem afterL_take {ars : List Arr} {word ss : List Int} {k : Nat} {x : Int} (h : k < word.length) (hx : Hid (x = word[k]?.getD 0)) : afterL ars ss (word.take (k + 1)) = stepL ars (afterL ars ss (word.take k)) x := by
  have hx := hx.out
  rw [List.getElem?_eq_getElem h, Option.getD_some] at hx
  unfold afterL
  rw [List.take_add_one, List.getElem?_eq_getElem h, List.foldl_append, ← hx]; rfl

end Go.Proofs.YtdnglodemkeooaaDoor
namespace Go.Proofs.YtdnglodemkeooaaDoor
open Go.RowKit
set_option linter.unusedVariables false

/-- One arrow gone along: what it leads to, if it leads from what is there and is not there yet. -/
def along (fr to : Arr → Int) (l : List Int) (a : Arr) : List Int := if (hasB l (fr a) && !hasB l (to a)) = true then l ++ [to a] else l
/-- One round over the arrows. -/
def sweep (fr to : Arr → Int) (ars : List Arr) (l : List Int) : List Int := ars.foldl (along fr to) l
/-- At most k rounds, till nothing comes more. -/
def closeN (fr to : Arr → Int) (ars : List Arr) : Nat → List Int → List Int
  | 0, l => l
  | k + 1, l => if (sweep fr to ars l).length = l.length then sweep fr to ars l else closeN fr to ars k (sweep fr to ars l)

/-- What can be come to. -/
structure Come (fr to : Arr → Int) (ars : List Arr) (l0 : List Int) (P : Int → Prop) : Prop where
  start : ∀ x ∈ l0, P x
  step : ∀ a ∈ ars, P (fr a) → P (to a)
/-- .. from l0: in whatever holds l0 and is closed. -/
def Rch (fr to : Arr → Int) (ars : List Arr) (l0 : List Int) (x : Int) : Prop := ∀ P : Int → Prop, Come fr to ars l0 P → P x

theorem rch_start {fr to : Arr → Int} {ars : List Arr} {l0 : List Int} {x : Int} (h : x ∈ l0) : Rch fr to ars l0 x := fun _ hP => hP.start x h
theorem rch_step {fr to : Arr → Int} {ars : List Arr} {l0 : List Int} {a : Arr} (ha : a ∈ ars) (h : Rch fr to ars l0 (fr a)) : Rch fr to ars l0 (to a) := fun P hP => hP.step a ha (h P hP)

theorem hasB_iff (l : List Int) (x : Int) : hasB l x = true ↔ x ∈ l := by simp [hasB]
theorem along_sub {fr to : Arr → Int} {l : List Int} {a : Arr} : ∀ x ∈ l, x ∈ along fr to l a := fun x hx => by
  unfold along; split
  · exact List.mem_append_left _ hx
  · exact hx
theorem along_len {fr to : Arr → Int} (l : List Int) (a : Arr) : l.length ≤ (along fr to l a).length ∧ (along fr to l a).length ≤ l.length + 1 := by
  unfold along; split
  · simp
  · simp
theorem sweep_sub {fr to : Arr → Int} : ∀ {ars : List Arr} {l : List Int}, ∀ x ∈ l, x ∈ sweep fr to ars l
  | [], _, _, h => h
  | a :: r, l, x, h => sweep_sub (ars := r) (l := along fr to l a) x (along_sub x h)
theorem sweep_le {fr to : Arr → Int} : ∀ (ars : List Arr) (l : List Int), l.length ≤ (sweep fr to ars l).length
  | [], _ => Nat.le_refl _
  | a :: r, l => Nat.le_trans (along_len l a).1 (sweep_le r _)
theorem sweep_le2 {fr to : Arr → Int} : ∀ (ars : List Arr) (l : List Int), (sweep fr to ars l).length ≤ l.length + ars.length
  | [], _ => Nat.le_refl _
  | a :: r, l => by
    have h1 := (along_len (fr := fr) (to := to) l a).2
    have h2 := sweep_le2 (fr := fr) (to := to) r (along fr to l a)
    show (sweep fr to r (along fr to l a)).length ≤ _
    simp only [List.length_cons]; omega
/-- If no round brings more, nothing can be gone along. -/
theorem sweep_closed {fr to : Arr → Int} : ∀ {ars : List Arr} {l : List Int}, (sweep fr to ars l).length = l.length → sweep fr to ars l = l ∧ ∀ a ∈ ars, fr a ∈ l → to a ∈ l
  | [], l, _ => ⟨rfl, by simp⟩
  | a :: r, l, h => by
    have h1 := (along_len (fr := fr) (to := to) l a).1
    have h2 := sweep_le (fr := fr) (to := to) r (along fr to l a)
    have h3 : (sweep fr to r (along fr to l a)).length = l.length := h
    have e : (along fr to l a).length = l.length := by omega
    have hn : ¬ (hasB l (fr a) && !hasB l (to a)) = true := fun hc => by
      unfold along at e; rw [if_pos hc] at e; simp at e
    have ea : along fr to l a = l := by unfold along; rw [if_neg hn]
    rw [ea] at h3
    obtain ⟨k1, k2⟩ := sweep_closed (ars := r) (l := l) h3
    refine ⟨by show sweep fr to r (along fr to l a) = l; rw [ea]; exact k1, fun b hb => ?_⟩
    rcases List.mem_cons.1 hb with rfl | hb
    · intro hf
      apply Classical.byContradiction
      intro ht
      apply hn
      rw [Bool.and_eq_true, hasB_iff]
      refine ⟨hf, ?_⟩
      cases h4 : hasB l (to b) with
      | false => rfl
      | true => exact absurd ((hasB_iff _ _).1 h4) ht
    · exact k2 b hb

theorem along_nodup {fr to : Arr → Int} {l : List Int} (h : l.Nodup) (a : Arr) : (along fr to l a).Nodup := by
  unfold along
  split
  · rename_i hc
    rw [Bool.and_eq_true] at hc
    have : to a ∉ l := fun hm => by have h1 := (hasB_iff l (to a)).2 hm; rw [h1] at hc; exact absurd hc.2 (by simp)
    rw [List.nodup_append]
    exact ⟨h, by simp, fun x hx y hy => by rw [List.mem_singleton.1 hy]; rintro rfl; exact this hx⟩
  · exact h
theorem sweep_nodup {fr to : Arr → Int} : ∀ {ars : List Arr} {l : List Int}, l.Nodup → (sweep fr to ars l).Nodup
  | [], _, h => h
  | a :: r, l, h => sweep_nodup (ars := r) (along_nodup h a)
theorem along_in {fr to : Arr → Int} {P : Int → Prop} {l : List Int} {a : Arr} (hl : ∀ x ∈ l, P x) (ha : P (fr a) → P (to a)) : ∀ x ∈ along fr to l a, P x := by
  unfold along
  split
  · rename_i hc
    rw [Bool.and_eq_true, hasB_iff] at hc
    intro x hx
    rcases List.mem_append.1 hx with hx | hx
    · exact hl x hx
    · rw [List.mem_singleton.1 hx]; exact ha (hl _ hc.1)
  · exact hl
theorem sweep_in {fr to : Arr → Int} {P : Int → Prop} : ∀ {ars : List Arr} {l : List Int}, (∀ x ∈ l, P x) → (∀ a ∈ ars, P (fr a) → P (to a)) → ∀ x ∈ sweep fr to ars l, P x
  | [], _, hl, _ => hl
  | a :: r, l, hl, ha => sweep_in (ars := r) (along_in hl (ha a (by simp))) (fun b hb => ha b (by simp [hb]))
theorem closeN_in {fr to : Arr → Int} {P : Int → Prop} {ars : List Arr} (ha : ∀ a ∈ ars, P (fr a) → P (to a)) : ∀ (k : Nat) {l : List Int}, (∀ x ∈ l, P x) → ∀ x ∈ closeN fr to ars k l, P x
  | 0, _, hl => hl
  | k + 1, l, hl => by
    unfold closeN
    split
    · exact sweep_in hl ha
    · exact closeN_in ha k (sweep_in hl ha)
theorem closeN_sub {fr to : Arr → Int} {ars : List Arr} : ∀ (k : Nat) {l : List Int}, ∀ x ∈ l, x ∈ closeN fr to ars k l
  | 0, _, _, h => h
  | k + 1, l, x, h => by
    unfold closeN
    split
    · exact sweep_sub x h
    · exact closeN_sub k x (sweep_sub x h)
theorem nodup_len : ∀ (n : Nat) (l : List Int), l.Nodup → (∀ x ∈ l, 0 ≤ x ∧ x < n) → l.length ≤ n := by
  intro n l hn hb
  have hs : srt l = (srt l) := rfl
  have hi := inc_srt l
  have hm : ∀ x ∈ srt l, 0 ≤ x ∧ x < n := fun x hx => hb x ((mem_srt x l).1 hx)
  have hlen : (srt l).length ≤ n := by
    have := goIs_len (n : Int) (srt l) (-1) (by omega) ((goIs_iff _ _ _).2 ⟨hi, fun x hx => by have := hm x hx; omega⟩)
    omega
  have hp : l.Perm (srt l) := (List.perm_ext_iff_of_nodup hn (hi.imp (fun h => by omega))).2 (fun x => (mem_srt x l).symm)
  rw [hp.length_eq]; exact hlen
/-- Enough rounds: what comes is closed. -/
theorem closeN_closed {fr to : Arr → Int} {ars : List Arr} {n : Nat} (hb : ∀ a ∈ ars, 0 ≤ to a ∧ to a < n) : ∀ (k : Nat) {l : List Int}, l.Nodup → (∀ x ∈ l, 0 ≤ x ∧ x < n) → (l = [] ∨ n < l.length + k) →
    ∀ a ∈ ars, fr a ∈ closeN fr to ars k l → to a ∈ closeN fr to ars k l
  | 0, l, hn, hl, hk => by
    intro a ha hf
    rcases hk with rfl | hk
    · simp [closeN] at hf
    · have := nodup_len n l hn hl; omega
  | k + 1, l, hn, hl, hk => by
    unfold closeN
    split
    · rename_i he
      obtain ⟨k1, k2⟩ := sweep_closed he
      rw [k1]; exact k2
    · rename_i he
      refine closeN_closed hb k (sweep_nodup hn) (sweep_in hl (fun a ha _ => hb a ha)) (.inr ?_)
      have h1 := sweep_le (fr := fr) (to := to) ars l
      rcases hk with rfl | hk
      · exfalso
        apply he
        have : ∀ (r : List Arr), sweep fr to r [] = [] := fun r => by
          induction r with
          | nil => rfl
          | cons a r ih => show sweep fr to r (along fr to [] a) = []; rw [show along fr to [] a = [] by simp [along, hasB]]; exact ih
        rw [this]
      · omega
theorem mem_close {fr to : Arr → Int} {ars : List Arr} {n : Nat} {l : List Int} (hb : ∀ a ∈ ars, 0 ≤ to a ∧ to a < n) (hn : l.Nodup) (hl : ∀ x ∈ l, 0 ≤ x ∧ x < n) (x : Int) : x ∈ closeN fr to ars n l ↔ Rch fr to ars l x := by
  constructor
  · exact fun h => closeN_in (fun a ha h => rch_step ha h) n (fun y hy => rch_start hy) x h
  · intro h
    refine h (fun y => y ∈ closeN fr to ars n l) ⟨fun y hy => closeN_sub n y hy, closeN_closed hb n hn hl ?_⟩
    cases l with
    | nil => exact .inl rfl
    | cons y r => right; simp only [List.length_cons]; omega

/-- Reach and Live, as the references answer them. -/
def reachL (m : Mach) : List Int := srt (closeN (·.f) (·.t) m.arrows m.st.toNat m.starts)
def liveL (m : Mach) : List Int := srt (closeN (·.t) (·.f) m.arrows m.st.toNat m.ends)

theorem inc_nodup {l : List Int} (h : Inc l) : l.Nodup := h.imp (fun h => by omega)

theorem sweep_take {fr to : Arr → Int} {ars : List Arr} {k : Nat} {a : Arr} {l : List Int} (h : k < ars.length) (ha : Hid (a = ars[k]?.getD arr0)) : sweep fr to (ars.take (k + 1)) l = along fr to (sweep fr to (ars.take k) l) a := by
  have ha := ha.out
  rw [List.getElem?_eq_getElem h, Option.getD_some] at ha
  unfold sweep
  rw [List.take_add_one, List.getElem?_eq_getElem h, List.foldl_append, ← ha]; rfl
theorem closeN_len {fr to : Arr → Int} {ars : List Arr} {c : Nat} (hc : ars.length ≤ c) : ∀ (k : Nat) (l : List Int), (closeN fr to ars k l).length ≤ l.length + k * c
  | 0, l => by simp [closeN]
  | k + 1, l => by
    unfold closeN
    have h1 := sweep_le2 (fr := fr) (to := to) ars l
    have h2 : (k + 1) * c = k * c + c := Nat.succ_mul k c
    split
    · omega
    · have := closeN_len (fr := fr) (to := to) hc k (sweep fr to ars l); omega

end Go.Proofs.YtdnglodemkeooaaDoor
namespace Go.Proofs.YtdnglodemkeooaaDoor
open Go.RowKit
set_option linter.unusedVariables false

/-- The set stands for the list. -/
structure Rep (S : Nat → Nat) (l : List Int) : Prop where
  ok : okS S
  bd : ∀ x ∈ l, 0 ≤ x ∧ x < 256
  mem : ∀ n, n < 256 → (hasS S n = true ↔ (n : Int) ∈ l)

theorem rep_row {S : Nat → Nat} {l : List Int} (h : Rep S l) (hl : Inc l) : rowS S = l := by
  refine inc_ext (inc_rowS S) hl fun x => ?_
  rw [mem_rowS]
  constructor
  · rintro ⟨h1, h2, h3⟩
    have := (h.mem x.toNat (by omega)).1 h3
    rwa [Int.toNat_of_nonneg h1] at this
  · intro hx
    obtain ⟨h1, h2⟩ := h.bd x hx
    exact ⟨h1, h2, (h.mem x.toNat (by omega)).2 (by rwa [Int.toNat_of_nonneg h1])⟩

def ofS (l : List Int) : Nat → Nat := l.foldl (fun s x => withS s x.toNat) zeroS
theorem ofS_snoc (l : List Int) (x : Int) : ofS (l ++ [x]) = withS (ofS l) x.toNat := by simp [ofS, List.foldl_append]
theorem rep_snoc {S : Nat → Nat} {l : List Int} {x : Int} (h : Rep S l) (h0 : 0 ≤ x) (h1 : x < 256) : Rep (withS S x.toNat) (l ++ [x]) := by
  refine ⟨okS_with h.ok _, ?_, fun n hn => ?_⟩
  · intro y hy
    rcases List.mem_append.1 hy with hy | hy
    · exact h.bd y hy
    · rw [List.mem_singleton.1 hy]; exact ⟨h0, h1⟩
  · rw [hasS_with, Bool.or_eq_true, h.mem n hn, List.mem_append, List.mem_singleton, decide_eq_true_eq]
    constructor
    · rintro (a | b)
      · exact .inl a
      · exact .inr (by omega)
    · rintro (a | b)
      · exact .inl a
      · exact .inr (by omega)
theorem rep_nil : Rep zeroS [] := ⟨okS_zero, by simp, fun n _ => by simp [hasS_zero]⟩
theorem rep_of : ∀ {l : List Int}, (∀ x ∈ l, 0 ≤ x ∧ x < 256) → ∀ k, Rep (ofS (l.take k)) (l.take k) := by
  intro l hl k
  induction k with
  | zero => simpa [ofS] using rep_nil
  | succ k ih =>
    by_cases h : k < l.length
    · have e : l.take (k + 1) = l.take k ++ [l[k]] := by rw [List.take_add_one, List.getElem?_eq_getElem h]; rfl
      have := hl l[k] (List.getElem_mem h)
      rw [e, ofS_snoc]
      exact rep_snoc ih this.1 this.2
    · rw [List.take_of_length_le (by omega)] at ih ⊢; exact ih

/-- The table: at place f * ev + e, where state f leads at event e. -/
def tabStep (ev : Nat) (T : Nat → Nat → Nat) (a : Arr) : Nat → Nat → Nat := fun p => if p = a.f.toNat * ev + a.e.toNat then withS (T p) a.t.toNat else T p
def tabS (ev : Nat) (ars : List Arr) : Nat → Nat → Nat := ars.foldl (tabStep ev) (fun _ => zeroS)
theorem tabS_snoc (ev : Nat) (ars : List Arr) (a : Arr) : tabS ev (ars ++ [a]) = tabStep ev (tabS ev ars) a := by simp [tabS, List.foldl_append]
theorem tabS_take {ev : Nat} {ars : List Arr} {k : Nat} {a : Arr} (h : k < ars.length) (ha : Hid (a = ars[k]?.getD arr0)) : tabS ev (ars.take (k + 1)) = tabStep ev (tabS ev (ars.take k)) a := by
  have ha := ha.out
  rw [List.getElem?_eq_getElem h, Option.getD_some] at ha
  rw [List.take_add_one, List.getElem?_eq_getElem h, ← ha]
  exact tabS_snoc _ _ _
theorem okS_tabStep {ev : Nat} {T : Nat → Nat → Nat} (h : ∀ p, okS (T p)) (a : Arr) : ∀ p, okS (tabStep ev T a p) := fun p => by
  unfold tabStep; split
  · exact okS_with (h p) _
  · exact h p
theorem okS_foldTab {ev : Nat} : ∀ (ars : List Arr) (T : Nat → Nat → Nat), (∀ p, okS (T p)) → ∀ p, okS (ars.foldl (tabStep ev) T p)
  | [], _, h => h
  | a :: r, T, h => okS_foldTab r _ (okS_tabStep h a)
theorem okS_tab (ev : Nat) (ars : List Arr) (p : Nat) : okS (tabS ev ars p) := okS_foldTab ars _ (fun _ => okS_zero) p
theorem has_foldTab {ev p n : Nat} : ∀ (ars : List Arr) (T : Nat → Nat → Nat), hasS (ars.foldl (tabStep ev) T p) n = true ↔ hasS (T p) n = true ∨ ∃ a ∈ ars, p = a.f.toNat * ev + a.e.toNat ∧ n = a.t.toNat
  | [], T => by simp
  | a :: r, T => by
    rw [List.foldl_cons, has_foldTab r]
    have e : hasS (tabStep ev T a p) n = true ↔ hasS (T p) n = true ∨ (p = a.f.toNat * ev + a.e.toNat ∧ n = a.t.toNat) := by
      unfold tabStep
      by_cases h : p = a.f.toNat * ev + a.e.toNat
      · rw [if_pos h, hasS_with, Bool.or_eq_true, decide_eq_true_eq]; simp [h]
      · rw [if_neg h]; simp [h]
    rw [e]
    simp only [List.mem_cons, exists_eq_or_imp]
    rw [or_assoc]
theorem has_tab (ev p n : Nat) (ars : List Arr) : hasS (tabS ev ars p) n = true ↔ ∃ a ∈ ars, p = a.f.toNat * ev + a.e.toNat ∧ n = a.t.toNat := by
  unfold tabS; rw [has_foldTab]; simp [hasS_zero]

/-- Where states lead to, by the table. -/
def leadF (T : Nat → Nat → Nat) (ev e : Nat) (ns : List Nat) : Nat → Nat := ns.foldl (fun o n => joinS o (T (n * ev + e))) zeroS
theorem leadF_snoc (T : Nat → Nat → Nat) (ev e : Nat) (ns : List Nat) (n : Nat) : leadF T ev e (ns ++ [n]) = joinS (leadF T ev e ns) (T (n * ev + e)) := by simp [leadF, List.foldl_append]
theorem ok_leadG {T : Nat → Nat → Nat} {ev e : Nat} (h : ∀ p, okS (T p)) : ∀ (ns : List Nat) (o : Nat → Nat), okS o → okS (ns.foldl (fun o n => joinS o (T (n * ev + e))) o)
  | [], _, ho => ho
  | n :: r, o, ho => ok_leadG h r _ (okS_join ho (h _))
theorem ok_leadF {T : Nat → Nat → Nat} {ev e : Nat} (h : ∀ p, okS (T p)) (ns : List Nat) : okS (leadF T ev e ns) := ok_leadG h ns _ okS_zero
theorem has_leadG {T : Nat → Nat → Nat} {ev e k : Nat} : ∀ (ns : List Nat) (o : Nat → Nat), hasS (ns.foldl (fun o n => joinS o (T (n * ev + e))) o) k = true ↔ hasS o k = true ∨ ∃ n ∈ ns, hasS (T (n * ev + e)) k = true
  | [], o => by simp
  | n :: r, o => by
    rw [List.foldl_cons, has_leadG r, hasS_join, Bool.or_eq_true]
    simp only [List.mem_cons, exists_eq_or_imp]
    rw [or_assoc]
theorem has_leadF (T : Nat → Nat → Nat) (ev e k : Nat) (ns : List Nat) : hasS (leadF T ev e ns) k = true ↔ ∃ n ∈ ns, hasS (T (n * ev + e)) k = true := by
  unfold leadF; rw [has_leadG]; simp [hasS_zero]

/-- Where a set leads, at an event. -/
def leadS (ev : Nat) (ars : List Arr) (S : Nat → Nat) (e : Nat) : Nat → Nat := leadF (tabS ev ars) ev e (allS S)

theorem mem_stepL (ars : List Arr) (l : List Int) (e : Int) (x : Int) : x ∈ stepL ars l e ↔ ∃ a ∈ ars, a.e = e ∧ a.f ∈ l ∧ a.t = x := by
  unfold stepL stepTo
  rw [mem_srt]
  simp only [List.mem_map, List.mem_filter, Bool.and_eq_true, beq_iff_eq, hasB, List.contains_iff_mem]
  constructor
  · rintro ⟨a, ⟨h1, h2, h3⟩, h4⟩; exact ⟨a, h1, h2, h3, h4⟩
  · rintro ⟨a, h1, h2, h3, h4⟩; exact ⟨a, ⟨h1, h2, h3⟩, h4⟩

theorem arrsFrom_in {st ev : Int} : ∀ {ars : List Arr} {p : Option Arr}, arrsFrom st ev p ars = true → ∀ a ∈ ars, arrIn st ev a
  | [], _, _ => by simp
  | b :: r, p, h => by
    unfold arrsFrom at h
    by_cases hc : arrIn st ev b ∧ behindB p b = true
    · rw [if_pos hc] at h
      intro a ha
      rcases List.mem_cons.1 ha with rfl | ha
      · exact hc.1
      · exact arrsFrom_in h a ha
    · rw [if_neg hc] at h; cases h

theorem rep_lead {S : Nat → Nat} {l : List Int} {st ev e : Int} {ars : List Arr} (h : Rep S l) (hin : ∀ a ∈ ars, arrIn st ev a) (hst : st ≤ 256) (h0 : 0 ≤ e) (h1 : e < ev) :
    Rep (leadS ev.toNat ars S e.toNat) (stepL ars l e) := by
  refine ⟨ok_leadF (okS_tab _ _) _, ?_, fun n hn => ?_⟩
  · intro x hx
    obtain ⟨a, ha, -, -, rfl⟩ := (mem_stepL _ _ _ _).1 hx
    have := hin a ha
    exact ⟨this.2.2.1, by omega⟩
  · unfold leadS
    rw [has_leadF, mem_stepL]
    constructor
    · rintro ⟨k, hk, ht⟩
      obtain ⟨a, ha, hp, hn⟩ := (has_tab _ _ _ _).1 ht
      obtain ⟨hk1, hk2⟩ := (mem_allS _ _).1 hk
      have hi := hin a ha
      have he : a.e.toNat < ev.toNat := by omega
      have he' : e.toNat < ev.toNat := by omega
      have hee : a.e.toNat = e.toNat := by
        have := congrArg (· % ev.toNat) hp
        simp only [Nat.mul_comm _ ev.toNat, Nat.mul_add_mod, Nat.mod_eq_of_lt he, Nat.mod_eq_of_lt he'] at this
        exact this.symm
      have hff : a.f.toNat = k := by
        rw [hee] at hp
        have := Nat.add_right_cancel hp
        exact (Nat.eq_of_mul_eq_mul_right (by omega) this).symm
      refine ⟨a, ha, by omega, ?_, by omega⟩
      have := (h.mem k hk1).1 hk2
      rw [← hff, Int.toNat_of_nonneg hi.1] at this
      exact this
    · rintro ⟨a, ha, hae, haf, hat⟩
      have hi := hin a ha
      have hb := h.bd _ haf
      refine ⟨a.f.toNat, (mem_allS _ _).2 ⟨by omega, (h.mem _ (by omega)).2 (by rwa [Int.toNat_of_nonneg hi.1])⟩, (has_tab _ _ _ _).2 ⟨a, ha, ?_, by omega⟩⟩
      rw [hae]

/-- Nothing is in a set. -/
def emptyB (S : Nat → Nat) : Bool := decide (S 0 = 0 ∧ S 1 = 0 ∧ S 2 = 0 ∧ S 3 = 0)
theorem word_zero {w : Nat} (h : w < 18446744073709551616) (hz : ∀ j, j < 64 → w.testBit j = false) : w = 0 := by
  apply Nat.eq_of_testBit_eq
  intro i
  rw [Nat.zero_testBit]
  by_cases hi : i < 64
  · exact hz i hi
  · exact Nat.testBit_lt_two_pow (Nat.lt_of_lt_of_le h (Nat.pow_le_pow_right (n := 2) (i := 64) (by omega) (by omega)))
theorem empty_yes {S : Nat → Nat} {l : List Int} (h : Rep S l) (he : emptyB S = true) : l = [] := by
  obtain ⟨e0, e1, e2, e3⟩ := of_decide_eq_true he
  cases l with
  | nil => rfl
  | cons x r =>
    obtain ⟨b0, b1⟩ := h.bd x (by simp)
    have := (h.mem x.toNat (by omega)).2 (by rw [Int.toNat_of_nonneg b0]; simp)
    exfalso
    unfold hasS at this
    have hk : x.toNat / 64 = 0 ∨ x.toNat / 64 = 1 ∨ x.toNat / 64 = 2 ∨ x.toNat / 64 = 3 := by omega
    rcases hk with hk | hk | hk | hk <;> rw [hk] at this <;> simp_all
theorem stepL_nil (ars : List Arr) (e : Int) : stepL ars [] e = [] := by
  cases h : stepL ars [] e with
  | nil => rfl
  | cons x r =>
    have : x ∈ stepL ars [] e := by rw [h]; simp
    obtain ⟨a, -, -, ha, -⟩ := (mem_stepL _ _ _ _).1 this
    simp at ha
theorem afterL_nil (ars : List Arr) : ∀ word, afterL ars [] word = []
  | [] => rfl
  | e :: r => by show afterL ars (stepL ars [] e) r = []; rw [stepL_nil]; exact afterL_nil ars r
theorem afterL_split (ars : List Arr) (ss : List Int) (word : List Int) (k : Nat) : afterL ars ss word = afterL ars (afterL ars ss (word.take k)) (word.drop k) := by
  unfold afterL
  rw [← List.foldl_append, List.take_append_drop]

/-- Is there a number that both have? -/
def meetB (S T : Nat → Nat) : Bool := decide (¬ (S 0 &&& T 0 = 0 ∧ S 1 &&& T 1 = 0 ∧ S 2 &&& T 2 = 0 ∧ S 3 &&& T 3 = 0))
theorem meet_word {a b : Nat} (ha : a < 18446744073709551616) : a &&& b = 0 ↔ ∀ j, j < 64 → ¬ (a.testBit j = true ∧ b.testBit j = true) := by
  constructor
  · intro h j _ ⟨h1, h2⟩
    have : (a &&& b).testBit j = true := by rw [Nat.testBit_and, h1, h2]; rfl
    rw [h] at this; simp at this
  · intro h
    apply word_zero (Nat.lt_of_le_of_lt Nat.and_le_left ha)
    intro j hj
    rw [Nat.testBit_and]
    have := h j hj
    cases h1 : a.testBit j <;> cases h2 : b.testBit j <;> simp_all
theorem meet_iff {S T : Nat → Nat} {l k : List Int} (h : Rep S l) (h' : Rep T k) : meetB S T = decide (0 < (l.filter fun n => hasB k n == true).length) := by
  unfold meetB
  apply decide_eq_decide.2
  constructor
  · intro hn
    have hex : ∃ i j, i < 4 ∧ j < 64 ∧ (S i).testBit j = true ∧ (T i).testBit j = true := by
      apply Classical.byContradiction
      intro hc
      apply hn
      have : ∀ i, i < 4 → S i &&& T i = 0 := fun i hi => (meet_word (h.ok i)).2 fun j hj ⟨a, b⟩ => hc ⟨i, j, hi, hj, a, b⟩
      exact ⟨this 0 (by omega), this 1 (by omega), this 2 (by omega), this 3 (by omega)⟩
    obtain ⟨i, j, hi, hj, h1, h2⟩ := hex
    have e1 : (64 * i + j) / 64 = i := by omega
    have e2 : (64 * i + j) % 64 = j := by omega
    have m1 := (h.mem (64 * i + j) (by omega)).1 (by unfold hasS; rw [e1, e2]; exact h1)
    have m2 := (h'.mem (64 * i + j) (by omega)).1 (by unfold hasS; rw [e1, e2]; exact h2)
    exact List.length_pos_of_mem (List.mem_filter.2 ⟨m1, by simpa [hasB] using m2⟩)
  · intro hp hz
    obtain ⟨x, hx⟩ := List.exists_mem_of_length_pos hp
    obtain ⟨x1, x2⟩ := List.mem_filter.1 hx
    have x3 : x ∈ k := by simpa [hasB] using x2
    obtain ⟨b0, b1⟩ := h.bd x x1
    have m1 := (h.mem x.toNat (by omega)).2 (by rwa [Int.toNat_of_nonneg b0])
    have m2 := (h'.mem x.toNat (by omega)).2 (by rwa [Int.toNat_of_nonneg b0])
    unfold hasS at m1 m2
    have key : ∀ i, x.toNat / 64 = i → S i &&& T i = 0 → False := fun i hi he => by
      rw [hi] at m1 m2
      exact (meet_word (h.ok i)).1 he _ (by omega) ⟨m1, m2⟩
    have hk : x.toNat / 64 = 0 ∨ x.toNat / 64 = 1 ∨ x.toNat / 64 = 2 ∨ x.toNat / 64 = 3 := by omega
    obtain ⟨z0, z1, z2, z3⟩ := hz
    rcases hk with hk | hk | hk | hk
    · exact key 0 hk z0
    · exact key 1 hk z1
    · exact key 2 hk z2
    · exact key 3 hk z3

end Go.Proofs.YtdnglodemkeooaaDoor
