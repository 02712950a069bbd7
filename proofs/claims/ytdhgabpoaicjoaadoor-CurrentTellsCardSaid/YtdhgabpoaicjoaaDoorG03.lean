/-
  Plain mathematics of rows (lists of integers): what 'is a row', union, insertion and filters are, on lists. No program, no model: it imports nothing.
  What is said of a slice of integers in a world: 'At w a xs': the slice that begins at 'a' reads as the list 'xs'. Small facts on it.
  Plain mathematics of machines: arrows in order, what may be, words, where a word leads. No program, no model.
  The walk of jalousieref1.Is: it answers 'rowB n xs'.
  What is said of a machine that lies in memory: its value and its three slices.
-/
import Derived.Test.YtdhgabpoaicjoaaDoorRows
import Derived.WalkKit
import Derived.WalkSpells
import Derived.WalkLawsBesides
import Derived.Deep.QuietTactic
import Derived.BigQuiet
namespace Go.Proofs.YtdhgabpoaicjoaaDoor

/-- Is the list a row above 'last' and below 'below'? -/
def goIs (last below : Int) : List Int → Bool
  | [] => true
  | x :: r => if x ≤ last ∨ below ≤ x then false else goIs x below r

/-- 'A row below n': A1. -/
def rowB (n : Int) (xs : List Int) : Bool := goIs (-1) (min n 2147483648) xs

/-- The inner way of 'uni': the second list is gone through, the first one begins with x. -/
def goU (x : Int) (a : List Int) (f : List Int → List Int) : List Int → List Int
  | [] => x :: a
  | y :: b => if x < y then x :: f (y :: b) else if y < x then y :: goU x a f b else x :: f b

/-- The union of two rows. -/
def uni : List Int → List Int → List Int
  | [] => fun b => b
  | x :: a => goU x a (uni a)

theorem uni_nn (b : List Int) : uni [] b = b := rfl
theorem uni_cn (x : Int) (a : List Int) : uni (x :: a) [] = x :: a := rfl
theorem uni_cc (x y : Int) (a b : List Int) : uni (x :: a) (y :: b) = if x < y then x :: uni a (y :: b) else if y < x then y :: uni (x :: a) b else x :: uni a b := rfl

theorem uni_ind {motive : List Int → List Int → Prop} (case1 : ∀ b, motive [] b) (case2 : ∀ x a, motive (x :: a) [])
    (case3 : ∀ x a y b, x < y → motive a (y :: b) → motive (x :: a) (y :: b)) (case4 : ∀ x a y b, ¬ x < y → y < x → motive (x :: a) b → motive (x :: a) (y :: b))
    (case5 : ∀ x a y b, ¬ x < y → ¬ y < x → motive a b → motive (x :: a) (y :: b)) : ∀ a b, motive a b := by
  intro a
  induction a with
  | nil => exact case1
  | cons x a iha =>
    intro b
    induction b with
    | nil => exact case2 x a
    | cons y b ihb =>
      by_cases h : x < y
      · exact case3 x a y b h (iha _)
      · by_cases h' : y < x
        · exact case4 x a y b h h' ihb
        · exact case5 x a y b h h' (iha _)

def ins (x : Int) : List Int → List Int
  | [] => [x]
  | y :: r => if y < x then y :: ins x r else if y = x then y :: r else x :: y :: r

def srt (l : List Int) : List Int := l.foldl (fun out x => ins x out) []

abbrev Inc (l : List Int) : Prop := l.Pairwise (· < ·)

theorem goIs_iff (below : Int) (xs : List Int) : ∀ last, goIs last below xs = true ↔ Inc xs ∧ ∀ x ∈ xs, last < x ∧ x < below := by
  induction xs with
  | nil => intro last; simp [goIs, Inc]
  | cons x r ih =>
    intro last
    unfold goIs
    by_cases h : x ≤ last ∨ below ≤ x
    · rw [if_pos h]
      simp only [Bool.false_eq_true, false_iff]
      rintro ⟨-, h2⟩
      have := h2 x (by simp)
      omega
    · rw [if_neg h, ih x]
      simp only [Inc, List.pairwise_cons, List.mem_cons]
      constructor
      · rintro ⟨h1, h2⟩
        refine ⟨⟨fun y hy => (h2 y hy).1, h1⟩, ?_⟩
        rintro y (rfl | hy)
        · omega
        · have := h2 y hy; omega
      · rintro ⟨⟨h1, h2⟩, h3⟩
        exact ⟨h2, fun y hy => ⟨h1 y hy, (h3 y (.inr hy)).2⟩⟩

theorem goIs_len (below : Int) (xs : List Int) : ∀ last, last < below → goIs last below xs = true → (xs.length : Int) ≤ below - 1 - last := by
  induction xs with
  | nil => intro last h _; simp; omega
  | cons x r ih =>
    intro last h hg
    unfold goIs at hg
    by_cases hc : x ≤ last ∨ below ≤ x
    · rw [if_pos hc] at hg; cases hg
    · rw [if_neg hc] at hg
      have := ih x (by omega) hg
      simp only [List.length_cons]
      omega

theorem rowB_len {n : Int} {xs : List Int} (h : rowB n xs = true) : xs.length ≤ 2147483648 := by
  unfold rowB at h
  by_cases hn : -1 < min n 2147483648
  · have := goIs_len _ _ _ hn h; omega
  · cases xs with
    | nil => simp
    | cons x r => unfold goIs at h; rw [if_pos (by omega)] at h; cases h

theorem rowB_inc {n : Int} {xs : List Int} (h : rowB n xs = true) : Inc xs := ((goIs_iff _ _ _).1 h).1
theorem rowB_bd {n : Int} {xs : List Int} (h : rowB n xs = true) : ∀ x ∈ xs, 0 ≤ x ∧ x < 2147483648 := fun x hx => by
  have := ((goIs_iff _ _ _).1 h).2 x hx; omega
theorem rowB_mk {xs : List Int} (h : Inc xs) (hb : ∀ x ∈ xs, 0 ≤ x ∧ x < 2147483648) : rowB 2147483648 xs = true :=
  (goIs_iff _ _ _).2 ⟨h, fun x hx => by have := hb x hx; omega⟩

theorem inc_ext : ∀ {a b : List Int}, Inc a → Inc b → (∀ x, x ∈ a ↔ x ∈ b) → a = b
  | [], [], _, _, _ => rfl
  | [], y :: b, _, _, h => by have := (h y).2 (by simp); simp at this
  | x :: a, [], _, _, h => by have := (h x).1 (by simp); simp at this
  | x :: a, y :: b, ha, hb, h => by
    simp only [Inc, List.pairwise_cons] at ha hb
    have e : x = y := by
      have h1 := (h x).1 (by simp)
      have h2 := (h y).2 (by simp)
      simp only [List.mem_cons] at h1 h2
      rcases h1 with rfl | h1
      · rfl
      · rcases h2 with rfl | h2
        · rfl
        · have := ha.1 y h2; have := hb.1 x h1; omega
    subst e
    refine congrArg _ (inc_ext ha.2 hb.2 fun z => ?_)
    have hz := h z
    simp only [List.mem_cons] at hz
    constructor
    · intro m
      rcases hz.1 (.inr m) with rfl | m'
      · have := ha.1 z m; omega
      · exact m'
    · intro m
      rcases hz.2 (.inr m) with rfl | m'
      · have := hb.1 z m; omega
      · exact m'

theorem mem_uni (z : Int) : ∀ a b, z ∈ uni a b ↔ z ∈ a ∨ z ∈ b := by
  intro a b
  induction a, b using uni_ind with
  | case1 b => simp [uni_nn]
  | case2 x a => simp [uni_cn]
  | case3 x a y b h ih => rw [uni_cc, if_pos h, List.mem_cons, ih]; simp only [List.mem_cons, or_assoc]
  | case4 x a y b h h' ih => rw [uni_cc, if_neg h, if_pos h', List.mem_cons, ih]; simp only [List.mem_cons]; constructor <;> (intro hh; rcases hh with hh | hh | hh <;> simp_all)
  | case5 x a y b h h' ih =>
    have e : x = y := by omega
    subst e
    rw [uni_cc, if_neg h, if_neg h', List.mem_cons, ih]; simp only [List.mem_cons]; constructor
    · rintro (hh | hh | hh) <;> simp [hh]
    · rintro ((hh | hh) | (hh | hh)) <;> simp [hh]

theorem inc_uni : ∀ a b, Inc a → Inc b → Inc (uni a b) := by
  intro a b
  induction a, b using uni_ind with
  | case1 b => simp [uni_nn]
  | case2 x a => intro h _; simpa [uni_cn] using h
  | case3 x a y b h ih =>
    intro ha hb
    rw [uni_cc, if_pos h]
    have ha' := List.pairwise_cons.1 ha
    have hb' := List.pairwise_cons.1 hb
    refine List.pairwise_cons.2 ⟨fun z hz => ?_, ih ha'.2 hb⟩
    rcases (mem_uni z _ _).1 hz with m | m
    · exact ha'.1 z m
    · rcases List.mem_cons.1 m with rfl | m
      · exact h
      · have := hb'.1 z m; omega
  | case4 x a y b h h' ih =>
    intro ha hb
    rw [uni_cc, if_neg h, if_pos h']
    have ha' := List.pairwise_cons.1 ha
    have hb' := List.pairwise_cons.1 hb
    refine List.pairwise_cons.2 ⟨fun z hz => ?_, ih ha hb'.2⟩
    rcases (mem_uni z _ _).1 hz with m | m
    · rcases List.mem_cons.1 m with rfl | m
      · exact h'
      · have := ha'.1 z m; omega
    · exact hb'.1 z m
  | case5 x a y b h h' ih =>
    intro ha hb
    have e : x = y := by omega
    subst e
    rw [uni_cc, if_neg h, if_neg h']
    have ha' := List.pairwise_cons.1 ha
    have hb' := List.pairwise_cons.1 hb
    refine List.pairwise_cons.2 ⟨fun z hz => ?_, ih ha'.2 hb'.2⟩
    rcases (mem_uni z _ _).1 hz with m | m
    · exact ha'.1 z m
    · exact hb'.1 z m

theorem mem_ins (z x : Int) : ∀ l, z ∈ ins x l ↔ z = x ∨ z ∈ l
  | [] => by simp [ins]
  | y :: r => by
    unfold ins
    by_cases h : y < x
    · rw [if_pos h, List.mem_cons, mem_ins z x r, List.mem_cons]; constructor <;> (intro hh; rcases hh with hh | hh | hh <;> simp_all)
    · rw [if_neg h]
      by_cases h' : y = x
      · rw [if_pos h']; subst h'; simp
      · rw [if_neg h']; simp

theorem inc_ins (x : Int) : ∀ l, Inc l → Inc (ins x l)
  | [], _ => by simp [ins]
  | y :: r, h => by
    have h1 := List.pairwise_cons.1 h
    unfold ins
    by_cases hc : y < x
    · rw [if_pos hc]
      refine List.pairwise_cons.2 ⟨fun z hz => ?_, inc_ins x r h1.2⟩
      rcases (mem_ins z x r).1 hz with rfl | m
      · exact hc
      · exact h1.1 z m
    · rw [if_neg hc]
      by_cases h' : y = x
      · rw [if_pos h']; exact h
      · rw [if_neg h']
        refine List.pairwise_cons.2 ⟨fun z hz => ?_, h⟩
        rcases List.mem_cons.1 hz with rfl | m
        · omega
        · have := h1.1 z m; omega

theorem srt_snoc (l : List Int) (x : Int) : srt (l ++ [x]) = ins x (srt l) := by simp [srt, List.foldl_append]

theorem inc_foldl (l : List Int) : ∀ o, Inc o → Inc (l.foldl (fun out x => ins x out) o) := by
  induction l with
  | nil => intro o h; exact h
  | cons x r ih => intro o h; exact ih _ (inc_ins x o h)
theorem mem_foldl (z : Int) (l : List Int) : ∀ o, z ∈ l.foldl (fun out x => ins x out) o ↔ z ∈ o ∨ z ∈ l := by
  induction l with
  | nil => intro o; simp
  | cons x r ih =>
    intro o
    rw [List.foldl_cons, ih, mem_ins, List.mem_cons]
    constructor
    · rintro ((hh | hh) | hh) <;> simp [hh]
    · rintro (hh | (hh | hh)) <;> simp [hh]
theorem inc_srt (l : List Int) : Inc (srt l) := inc_foldl l [] (by simp [Inc])
theorem mem_srt (z : Int) (l : List Int) : z ∈ srt l ↔ z ∈ l := by unfold srt; rw [mem_foldl]; simp

theorem ins_len (x : Int) : ∀ l, (ins x l).length ≤ l.length + 1
  | [] => by simp [ins]
  | y :: r => by
    unfold ins
    have := ins_len x r
    split
    · simp; omega
    · split <;> simp
theorem srt_len (l : List Int) : (srt l).length ≤ l.length := by
  have : ∀ (l : List Int) o, (l.foldl (fun out x => ins x out) o).length ≤ o.length + l.length := by
    intro l
    induction l with
    | nil => intro o; simp
    | cons x r ih => intro o; have h1 := ih (ins x o); have h2 := ins_len x o; simp only [List.foldl_cons, List.length_cons]; omega
  have h := this l []
  simpa [srt] using h

theorem srt_join {a b : List Int} (ha : Inc a) (hb : Inc b) : srt (a ++ b) = uni a b :=
  inc_ext (inc_srt _) (inc_uni _ _ ha hb) fun x => by rw [mem_srt, mem_uni, List.mem_append]

theorem inc_filter {a : List Int} (p : Int → Bool) (ha : Inc a) : Inc (a.filter p) := ha.filter p

theorem uni_all (a b : List Int) : (uni a b).filter (fun n => a.contains n || b.contains n) = uni a b := by
  rw [List.filter_eq_self]
  intro x hx
  rcases (mem_uni x _ _).1 hx with m | m <;> simp [m]
theorem uni_meet {a b : List Int} (ha : Inc a) (hb : Inc b) : (uni a b).filter (fun n => a.contains n && b.contains n) = a.filter (fun n => b.contains n == true) :=
  inc_ext (inc_filter _ (inc_uni _ _ ha hb)) (inc_filter _ ha) fun x => by
    simp only [List.mem_filter, mem_uni, List.contains_iff_mem, Bool.and_eq_true, beq_iff_eq]
    constructor
    · rintro ⟨-, h1, h2⟩; exact ⟨h1, h2⟩
    · rintro ⟨h1, h2⟩; exact ⟨.inl h1, h1, h2⟩
theorem uni_less {a b : List Int} (ha : Inc a) (hb : Inc b) : (uni a b).filter (fun n => a.contains n && !b.contains n) = a.filter (fun n => b.contains n == false) :=
  inc_ext (inc_filter _ (inc_uni _ _ ha hb)) (inc_filter _ ha) fun x => by
    simp only [List.mem_filter, mem_uni, Bool.and_eq_true, Bool.not_eq_true', beq_iff_eq, List.contains_iff_mem]
    constructor
    · rintro ⟨-, h1, h2⟩; exact ⟨h1, h2⟩
    · rintro ⟨h1, h2⟩; exact ⟨.inl h1, h1, h2⟩

theorem not_mem_lt {x : Int} {b : List Int} (h : ∀ y ∈ b, x < y) : b.contains x = false := by
  rw [← Bool.not_eq_true, List.contains_iff_mem]
  intro m
  have := h x m
  omega

theorem uni_len : ∀ a b, Inc a → Inc b → (uni a b).length = (a.filter (fun n => b.contains n == false)).length + b.length := by
  intro a b
  induction a, b using uni_ind with
  | case1 b => simp [uni_nn]
  | case2 x a =>
    intro _ _
    simp only [uni_cn, List.length_nil, Nat.add_zero]
    rw [List.filter_eq_self.2 (fun z _ => by simp)]
  | case3 x a y b h ih =>
    intro ha hb
    have ha' := List.pairwise_cons.1 ha
    have hb' := List.pairwise_cons.1 hb
    rw [uni_cc, if_pos h, List.length_cons, ih ha'.2 hb, List.filter_cons, if_pos]
    · simp only [List.length_cons]; omega
    · rw [not_mem_lt (fun z hz => by rcases List.mem_cons.1 hz with rfl | m; exact h; have := hb'.1 z m; omega)]; rfl
  | case4 x a y b h h' ih =>
    intro ha hb
    have ha' := List.pairwise_cons.1 ha
    have hb' := List.pairwise_cons.1 hb
    rw [uni_cc, if_neg h, if_pos h', List.length_cons, ih ha hb'.2]
    have e : (x :: a).filter (fun n => (y :: b).contains n == false) = (x :: a).filter (fun n => b.contains n == false) := by
      apply List.filter_congr
      intro z hz
      have hzy : ¬ z = y := by rcases List.mem_cons.1 hz with rfl | m; omega; have := ha'.1 z m; omega
      simp [hzy]
    rw [e]
    simp only [List.length_cons]; omega
  | case5 x a y b h h' ih =>
    intro ha hb
    have e : x = y := by omega
    subst e
    have ha' := List.pairwise_cons.1 ha
    have hb' := List.pairwise_cons.1 hb
    rw [uni_cc, if_neg h, if_neg h', List.length_cons, ih ha'.2 hb'.2, List.filter_cons, if_neg (by simp)]
    have e : a.filter (fun n => (x :: b).contains n == false) = a.filter (fun n => b.contains n == false) := by
      apply List.filter_congr
      intro z hz
      have hzy : ¬ z = x := by have := ha'.1 z hz; omega
      simp [hzy]
    rw [e]
    simp only [List.length_cons]; omega

theorem uni_len_le : ∀ a b, (uni a b).length ≤ a.length + b.length := by
  intro a b
  induction a, b using uni_ind with
  | case1 b => simp [uni_nn]
  | case2 x a => simp [uni_cn]
  | case3 x a y b h ih => rw [uni_cc, if_pos h]; simp only [List.length_cons] at ih ⊢; omega
  | case4 x a y b h h' ih => rw [uni_cc, if_neg h, if_pos h']; simp only [List.length_cons] at ih ⊢; omega
  | case5 x a y b h h' ih => rw [uni_cc, if_neg h, if_neg h']; simp only [List.length_cons] at ih ⊢; omega

end Go.Proofs.YtdhgabpoaicjoaaDoor
namespace Go.Proofs.YtdhgabpoaicjoaaDoor
open Go.RowKit

/-- The cells from place 'off' of block 'b' on hold the integers 'xs'. -/
def Cells (w : World) (b off : Nat) (xs : List Int) : Prop := ∀ j, j < xs.length → w.cell? ⟨b, off + j, none⟩ = some (.int .i64 (xs.getD j 0))

theorem Cells.at {w : World} {b off k : Nat} {xs : List Int} (hc : Cells w b off xs) (h : k < xs.length) : ∃ x, Hid (x = xs[k]?.getD 0) ∧ w.cell? ⟨b, off + k, none⟩ = some (.int .i64 x) :=
  ⟨_, rfl, by have := hc k h; rw [List.getD_eq_getElem?_getD] at this; exact this⟩

/-- The cells from 'a' on hold the integers 'xs'. -/
def At (w : World) (a : Option Addr) (xs : List Int) : Prop :=
  xs = [] ∨ ∃ b off, a = some ⟨b, off, none⟩ ∧ b < w.heap.size ∧ Cells w b off xs

theorem At.below {w w' : World} {a : Option Addr} {xs : List Int} {B : Nat} (h : At w a xs) (hb : Below B w w') (hB : w.heap.size ≤ B) : At w' a xs := by
  rcases h with h | ⟨b, off, rfl, hlt, hc⟩
  · exact .inl h
  · exact .inr ⟨b, off, rfl, Nat.lt_of_lt_of_le hlt hb.size, fun j hj => by rw [hb.cell (p := ⟨b, off + j, none⟩) (Nat.lt_of_lt_of_le hlt hB)]; exact hc j hj⟩

theorem At.drewN {w : World} {a : Option Addr} {xs : List Int} (h : At w a xs) (m : Nat) : At (w.drewN m) a xs := h

theorem drop_cons {xs : List Int} {k : Nat} (h : k < xs.length) : xs.drop k = xs[k]?.getD 0 :: xs.drop (k + 1) := by
  rw [List.drop_eq_getElem_cons h, List.getElem?_eq_getElem h]; rfl

theorem ret_int {k : IntKind} {a b : Int} (h : a = b) : Ending.returned (.int k a) = .returned (.int k b) := by rw [h]
theorem ret_bool {a b : Bool} (h : a = b) : Ending.returned (.bool a) = .returned (.bool b) := by rw [h]

/-- Has the list the number? (A function of our own, which the walk leaves as it stands.) -/
def hasB (xs : List Int) (n : Int) : Bool := xs.contains n

theorem has_hit {xs : List Int} {k : Nat} {n x : Int} (h : k < xs.length) (e : Hid (hasB xs n = hasB (xs.drop k) n)) (hv : Hid (x = xs[k]?.getD 0)) (hx : (x == n) = true) : true = hasB xs n := by
  have e := e.out; have hv := hv.out; have hx : x = n := by simpa using hx
  subst hx; rw [e, drop_cons h, ← hv]; simp [hasB]
theorem has_miss {xs : List Int} {k : Nat} {n x : Int} (h : k < xs.length) (e : Hid (hasB xs n = hasB (xs.drop k) n)) (hv : Hid (x = xs[k]?.getD 0)) (hx : (x == n) = false) : Hid (hasB xs n = hasB (xs.drop (k + 1)) n) := by
  have e := e.out; have hv := hv.out; have hx : ¬ x = n := by simpa using hx
  have h1 : (n == x) = false := by simp; omega
  show hasB xs n = hasB (xs.drop (k + 1)) n
  rw [e, drop_cons h, ← hv, hasB, List.contains_cons, h1]; simp [hasB]
theorem has_end {xs : List Int} {k : Nat} {n : Int} (h : ¬ k < xs.length) (e : Hid (hasB xs n = hasB (xs.drop k) n)) : false = hasB xs n := by
  rw [e.out, List.drop_eq_nil_of_le (by omega)]; rfl
theorem hasB_nil (n : Int) : hasB [] n = false := rfl

theorem is_no {xs : List Int} {k : Nat} {last bel n x : Int} (h : k < xs.length) (e : Hid (rowB n xs = goIs last bel (xs.drop k))) (hv : Hid (x = xs[k]?.getD 0)) (hx : x ≤ last ∨ bel ≤ x) : false = rowB n xs := by
  rw [e.out, drop_cons h, ← hv.out, goIs, if_pos hx]
theorem is_yes {xs : List Int} {k : Nat} {last bel n x : Int} (h : k < xs.length) (e : Hid (rowB n xs = goIs last bel (xs.drop k))) (hv : Hid (x = xs[k]?.getD 0)) (hx : ¬ (x ≤ last ∨ bel ≤ x)) : Hid (rowB n xs = goIs x bel (xs.drop (k + 1))) := by
  show rowB n xs = goIs x bel (xs.drop (k + 1))
  rw [e.out, drop_cons h, ← hv.out, goIs, if_neg hx]
theorem is_end {xs : List Int} {k : Nat} {last bel n : Int} (h : ¬ k < xs.length) (e : Hid (rowB n xs = goIs last bel (xs.drop k))) : true = rowB n xs := by
  rw [e.out, List.drop_eq_nil_of_le (by omega)]; rfl

end Go.Proofs.YtdhgabpoaicjoaaDoor
namespace Go.Proofs.YtdhgabpoaicjoaaDoor
open Go.RowKit

structure Arr where
  f : Int
  e : Int
  t : Int

structure Mach where
  st : Int
  ev : Int
  starts : List Int
  arrows : List Arr
  ends : List Int

def arr0 : Arr := ⟨0, 0, 0⟩

/-- Does an arrow stand ahead of another one? -/
def aheadB (a b : Arr) : Bool := if a.f = b.f then (if a.e = b.e then decide (a.t < b.t) else decide (a.e < b.e)) else decide (a.f < b.f)

/-- Is an arrow within the machine? -/
abbrev arrIn (st ev : Int) (a : Arr) : Prop := 0 ≤ a.f ∧ a.f < st ∧ 0 ≤ a.t ∧ a.t < st ∧ 0 ≤ a.e ∧ a.e < ev

/-- Is an arrow behind the one ahead, if there is one? -/
def behindB : Option Arr → Arr → Bool
  | none, _ => true
  | some b, a => aheadB b a

/-- Are the arrows within the machine, and each behind the one ahead? -/
def arrsFrom (st ev : Int) : Option Arr → List Arr → Bool
  | _, [] => true
  | p, a :: r => if arrIn st ev a ∧ behindB p a = true then arrsFrom st ev (some a) r else false

abbrev sizeOk (m : Mach) : Prop := 1 ≤ m.st ∧ m.st ≤ 256 ∧ 0 ≤ m.ev ∧ m.ev ≤ 8 ∧ m.arrows.length ≤ 4096

/-- May a machine be? (B1.) -/
def mayB (m : Mach) : Bool := decide (sizeOk m) && (rowB m.st m.starts && (rowB m.st m.ends && arrsFrom m.st m.ev none m.arrows))

/-- Is a list a word? (B2.) -/
def wordB (ev : Int) : List Int → Bool
  | [] => true
  | x :: r => if x < 0 ∨ ev ≤ x then false else wordB ev r

/-- The states to which the arrows of an event lead from states, in the arrows' order. -/
def stepTo (ars : List Arr) (ss : List Int) (e : Int) : List Int := (ars.filter fun a => a.e == e && hasB ss a.f).map (·.t)
/-- .. as a row. -/
def stepL (ars : List Arr) (ss : List Int) (e : Int) : List Int := srt (stepTo ars ss e)
/-- Where a word leads. -/
def afterL (ars : List Arr) (ss : List Int) (word : List Int) : List Int := word.foldl (fun l e => stepL ars l e) ss

def acceptsL (m : Mach) (word : List Int) : List Int := (afterL m.arrows m.starts word).filter fun n => hasB m.ends n == true
def acceptsB (m : Mach) (word : List Int) : Bool := decide (0 < (acceptsL m word).length)

theorem dropA {ars : List Arr} {k : Nat} (h : k < ars.length) : ars.drop k = ars[k]?.getD arr0 :: ars.drop (k + 1) := by
  rw [List.drop_eq_getElem_cons h, List.getElem?_eq_getElem h]; rfl

theorem mayB_size {m : Mach} (h : mayB m = true) : sizeOk m := by
  unfold mayB at h; rw [Bool.and_eq_true] at h; exact of_decide_eq_true h.1
theorem mayB_starts {m : Mach} (h : mayB m = true) : rowB m.st m.starts = true := by
  unfold mayB at h; simp only [Bool.and_eq_true] at h; exact h.2.1
theorem mayB_ends {m : Mach} (h : mayB m = true) : rowB m.st m.ends = true := by
  unfold mayB at h; simp only [Bool.and_eq_true] at h; exact h.2.2.1
theorem mayB_arrs {m : Mach} (h : mayB m = true) : arrsFrom m.st m.ev none m.arrows = true := by
  unfold mayB at h; simp only [Bool.and_eq_true] at h; exact h.2.2.2
theorem mayB_no1 {m : Mach} (h : ¬ sizeOk m) : false = mayB m := by unfold mayB; simp [h]
theorem mayB_no2 {m : Mach} (h : rowB m.st m.starts = false) : false = mayB m := by unfold mayB; simp [h]
theorem mayB_no3 {m : Mach} (h : rowB m.st m.ends = false) : false = mayB m := by unfold mayB; simp [h]
theorem mayB_go {m : Mach} (h1 : sizeOk m) (h2 : rowB m.st m.starts = true) (h3 : rowB m.st m.ends = true) : mayB m = arrsFrom m.st m.ev none m.arrows := by unfold mayB; simp [h1, h2, h3]

/-- The arrow ahead of place k. -/
def lastA (ars : List Arr) (k : Nat) : Option Arr := if k = 0 then none else some (ars[k - 1]?.getD arr0)

theorem arrs_no {st ev : Int} {ars : List Arr} {k : Nat} {a : Arr} {b : Bool} (h : k < ars.length) (ha : Hid (a = ars[k]?.getD arr0)) (e : Hid (b = arrsFrom st ev (lastA ars k) (ars.drop k))) (hx : ¬ arrIn st ev a) : false = b := by
  rw [e.out, dropA h, ← ha.out, arrsFrom, if_neg (fun h => hx h.1)]
theorem arrs_no2 {st ev : Int} {ars : List Arr} {k : Nat} {a p : Arr} {b : Bool} (h : k + 1 < ars.length) (ha : Hid (a = ars[k + 1]?.getD arr0)) (hp : Hid (p = ars[k]?.getD arr0)) (e : Hid (b = arrsFrom st ev (lastA ars (k + 1)) (ars.drop (k + 1)))) (hx : aheadB p a = false) : false = b := by
  rw [e.out, dropA h, ← ha.out, arrsFrom, if_neg]
  rintro ⟨-, h2⟩
  rw [show lastA ars (k + 1) = some p by simp [lastA, hp.out]] at h2
  have h3 : aheadB p a = true := h2
  rw [hx] at h3; cases h3
theorem arrs_yes0 {st ev : Int} {ars : List Arr} {a : Arr} {b : Bool} (h : 0 < ars.length) (ha : Hid (a = ars[0]?.getD arr0)) (e : Hid (b = arrsFrom st ev (lastA ars 0) (ars.drop 0))) (hx : arrIn st ev a) : Hid (b = arrsFrom st ev (lastA ars (0 + 1)) (ars.drop (0 + 1))) := by
  show b = _
  rw [e.out, dropA h, ← ha.out, arrsFrom, if_pos ⟨hx, rfl⟩]
  simp only [lastA, ha.out]; rfl
theorem arrs_yes {st ev : Int} {ars : List Arr} {k : Nat} {a p : Arr} {b : Bool} (h : k + 1 < ars.length) (ha : Hid (a = ars[k + 1]?.getD arr0)) (hp : Hid (p = ars[k]?.getD arr0)) (e : Hid (b = arrsFrom st ev (lastA ars (k + 1)) (ars.drop (k + 1)))) (hx : arrIn st ev a) (hy : aheadB p a = true) : Hid (b = arrsFrom st ev (lastA ars (k + 1 + 1)) (ars.drop (k + 1 + 1))) := by
  show b = _
  rw [e.out, dropA h, ← ha.out, arrsFrom, if_pos ⟨hx, by rw [show lastA ars (k + 1) = some p by simp [lastA, hp.out]]; exact hy⟩]
  simp only [lastA, ha.out]; rfl
theorem arrs_end {st ev : Int} {ars : List Arr} {k : Nat} {b : Bool} (h : ¬ k < ars.length) (e : Hid (b = arrsFrom st ev (lastA ars k) (ars.drop k))) : true = b := by
  rw [e.out, List.drop_eq_nil_of_le (by omega)]; rfl

theorem word_no {ev : Int} {xs : List Int} {k : Nat} {x : Int} (h : k < xs.length) (hx : Hid (x = xs[k]?.getD 0)) (e : Hid (wordB ev xs = wordB ev (xs.drop k))) (hc : x < 0 ∨ ev ≤ x) : false = wordB ev xs := by
  rw [e.out, drop_cons h, ← hx.out, wordB, if_pos hc]
theorem word_yes {ev : Int} {xs : List Int} {k : Nat} {x : Int} (h : k < xs.length) (hx : Hid (x = xs[k]?.getD 0)) (e : Hid (wordB ev xs = wordB ev (xs.drop k))) (hc : ¬ (x < 0 ∨ ev ≤ x)) : Hid (wordB ev xs = wordB ev (xs.drop (k + 1))) := by
  show _ = _
  rw [e.out, drop_cons h, ← hx.out, wordB, if_neg hc]
theorem word_end {ev : Int} {xs : List Int} {k : Nat} (h : ¬ k < xs.length) (e : Hid (wordB ev xs = wordB ev (xs.drop k))) : true = wordB ev xs := by
  rw [e.out, List.drop_eq_nil_of_le (by omega)]; rfl

theorem stepTo_len (ars : List Arr) (ss : List Int) (e : Int) : (stepTo ars ss e).length ≤ ars.length := by
  unfold stepTo; rw [List.length_map]; exact List.length_filter_le _ _
theorem stepTo_take {ars : List Arr} {k : Nat} {a : Arr} {ss : List Int} {e : Int} (h : k < ars.length) (ha : Hid (a = ars[k]?.getD arr0)) : stepTo (ars.take (k + 1)) ss e = if (a.e == e && hasB ss a.f) = true then stepTo (ars.take k) ss e ++ [a.t] else stepTo (ars.take k) ss e := by
  have ha := ha.out
  rw [List.getElem?_eq_getElem h, Option.getD_some] at ha
  unfold stepTo
  rw [List.take_add_one, List.getElem?_eq_getElem h, List.filter_append, List.map_append, ← ha]
  by_cases c : (a.e == e && hasB ss a.f) = true
  · rw [if_pos c]; simp only [Option.toList_some, List.filter_cons, c, if_true, List.filter_nil, List.map_cons, List.map_nil]
  · rw [if_neg c]; simp only [Option.toList_some, List.filter_cons, c, Bool.false_eq_true, if_false, List.filter_nil, List.map_nil, List.append_nil]

theorem stepL_len (ars : List Arr) (ss : List Int) (e : Int) : (stepL ars ss e).length ≤ ars.length := Nat.le_trans (srt_len _) (stepTo_len _ _ _)

theorem afterL_take {ars : List Arr} {word ss : List Int} {k : Nat} {x : Int} (h : k < word.length) (hx : Hid (x = word[k]?.getD 0)) : afterL ars ss (word.take (k + 1)) = stepL ars (afterL ars ss (word.take k)) x := by
  have hx := hx.out
  rw [List.getElem?_eq_getElem h, Option.getD_some] at hx
  unfold afterL
  rw [List.take_add_one, List.getElem?_eq_getElem h, List.foldl_append, ← hx]; rfl

theorem afterL_len {ars : List Arr} {ss : List Int} {n : Nat} (h1 : ss.length ≤ n) (h2 : ars.length ≤ n) : ∀ word, (afterL ars ss word).length ≤ n := by
  intro word
  induction word generalizing ss with
  | nil => exact h1
  | cons x r ih => exact ih (Nat.le_trans (stepL_len _ _ _) h2)

end Go.Proofs.YtdhgabpoaicjoaaDoor
namespace Go.Proofs.YtdhgabpoaicjoaaDoor
open Go.RowKit

/-- The number ahead of place k, or -1. -/
def lastOf (xs : List Int) (k : Nat) : Int := if k = 0 then -1 else xs[k - 1]?.getD 0

theorem lastOf_succ (xs : List Int) (k : Nat) : lastOf xs (k + 1) = xs[k]?.getD 0 := by simp [lastOf]

theorem ris_no {xs : List Int} {k : Nat} {n x : Int} (h : k < xs.length) (e : Hid (-1 ≤ lastOf xs k ∧ rowB n xs = goIs (lastOf xs k) (min n 2147483648) (xs.drop k))) (hv : Hid (x = xs[k]?.getD 0)) (hx : x ≤ lastOf xs k ∨ n ≤ x ∨ 2147483648 ≤ x) : false = rowB n xs := by
  rw [e.out.2, drop_cons h, ← hv.out, goIs, if_pos (by omega)]
theorem ris_yes {xs : List Int} {k : Nat} {n x : Int} (h : k < xs.length) (e : Hid (-1 ≤ lastOf xs k ∧ rowB n xs = goIs (lastOf xs k) (min n 2147483648) (xs.drop k))) (hv : Hid (x = xs[k]?.getD 0)) (hx : ¬ (x ≤ lastOf xs k ∨ n ≤ x ∨ 2147483648 ≤ x)) : Hid (-1 ≤ lastOf xs (k + 1) ∧ rowB n xs = goIs (lastOf xs (k + 1)) (min n 2147483648) (xs.drop (k + 1))) := by
  have := e.out.1
  refine ⟨?_, ?_⟩ <;> rw [lastOf_succ, ← hv.out]
  · omega
  · rw [e.out.2, drop_cons h, ← hv.out, goIs, if_neg (by omega)]
theorem ris_end {xs : List Int} {k : Nat} {n : Int} (h : ¬ k < xs.length) (e : Hid (-1 ≤ lastOf xs k ∧ rowB n xs = goIs (lastOf xs k) (min n 2147483648) (xs.drop k))) : true = rowB n xs := by
  rw [e.out.2, List.drop_eq_nil_of_le (by omega)]; rfl

set_option maxHeartbeats 1000000 in
theorem refIs_some (b off cap : Nat) (xs : List Int) (n : Int) (w : World) (hl : xs.length ≤ 9223372036854775807) (hc : Cells w b off xs) :
    Calls Tryd.prog 17 #[.slice (some ⟨b, off, none⟩) xs.length cap, .int .i64 n] w fun e w' => e = .returned (.bool (rowB n xs)) ∧ ∃ m, w' = w.drewN m := by
  go_enter Tryd.func17, Tryd.ntmps17
  go_wp2
  go_loopw [5] (fun i wr => ∃ k q : Nat, k ≤ xs.length ∧ i = .int .i64 k ∧ wr = w.drewN q ∧ Hid (-1 ≤ lastOf xs k ∧ rowB n xs = goIs (lastOf xs k) (min n 2147483648) (xs.drop k))) (fun i _ => xs.length - (intOf i).toNat)
  case atStart => exact ⟨0, 0, Nat.zero_le _, rfl, rfl, ⟨by simp [lastOf], rfl⟩⟩
  case round =>
    obtain ⟨k, q, hk, rfl, rfl, he⟩ := hrel
    by_cases hlt : k < xs.length
    · obtain ⟨x, HX, hcell⟩ := hc.at hlt
      by_cases c1 : x < 0
      · have hlo := he.out.1
        go_wp2
        go_quiet (fail)
        go_wp2
        go_ret
        exact ⟨ret_bool (ris_no hlt he HX (.inl (by omega))), _, World.drewN_drewN _ _ _⟩
      · have d1 : decide (x < 0) = false := by simpa using c1
        by_cases c2 : n ≤ x
        · have d2 : decide (n ≤ x) = true := by simpa using c2
          go_wp2
          go_quiet (fail)
          go_wp2
          go_ret
          exact ⟨ret_bool (ris_no hlt he HX (.inr (.inl c2))), _, World.drewN_drewN _ _ _⟩
        · have d2 : decide (n ≤ x) = false := by simpa using c2
          by_cases c3 : 2147483648 ≤ x
          · go_wp2
            go_quiet (fail)
            go_wp2
            go_ret
            exact ⟨ret_bool (ris_no hlt he HX (.inr (.inr c3))), _, World.drewN_drewN _ _ _⟩
          · have d3 : decide (2147483648 ≤ x) = false := by simpa using c3
            by_cases c4 : k = 0
            · subst c4
              have hl0 : Hid (lastOf xs 0 = -1) := rfl
              rw [Nat.add_zero] at hcell
              go_wp2
              go_quiet (fail)
              go_wp2
              go_roundw
              case rel => exact ⟨1, _, by omega, by go_num, rfl, ris_yes hlt he HX (by have := hl0.out; omega)⟩
              case measure => simp [intOf]; omega
            · obtain ⟨j, rfl⟩ : ∃ j, k = j + 1 := ⟨k - 1, by omega⟩
              obtain ⟨y, HY, hcy⟩ := hc.at (k := j) (by omega)
              have HL : Hid (lastOf xs (j + 1) = y) := by show _ = _; rw [lastOf_succ, HY.out]
              have d4 : decide (0 < (j : Int) + 1) = true := by simp
              by_cases c5 : x ≤ y
              · have d5 : decide (x ≤ y) = true := by simpa using c5
                go_wp2
                go_quiet (fail)
                go_wp2
                go_ret
                exact ⟨ret_bool (ris_no hlt he HX (.inl (by have := HL.out; omega))), _, World.drewN_drewN _ _ _⟩
              · have d5 : decide (x ≤ y) = false := by simpa using c5
                go_wp2
                go_quiet (fail)
                go_wp2
                go_roundw
                case rel => exact ⟨j + 1 + 1, _, by omega, by go_num, rfl, ris_yes hlt he HX (by have := HL.out; omega)⟩
                case measure => simp [intOf]; omega
    · go_wp2
      go_ret
      exact ⟨ret_bool (ris_end hlt he), q, rfl⟩

set_option maxHeartbeats 400000 in
theorem refIs_nil (a : Option Addr) (cap : Nat) (n : Int) (w : World) :
    Calls Tryd.prog 17 #[.slice a 0 cap, .int .i64 n] w fun e w' => e = .returned (.bool true) ∧ ∃ m, w' = w.drewN m := by
  go_enter Tryd.func17, Tryd.ntmps17
  go_wp2
  refine wp_loop_rounds 1 ?_
  rw [rounds_succ]
  go_wp2
  go_ret
  exact ⟨rfl, 0, rfl⟩

theorem refIs_any (a : Option Addr) (cap : Nat) (xs : List Int) (n : Int) (w : World) (hs : At w a xs) (hl : xs.length ≤ maxLen) :
    Calls Tryd.prog 17 #[.slice a xs.length cap, .int .i64 n] w fun e w' => e = .returned (.bool (rowB n xs)) ∧ ∃ m, w' = w.drewN m := by
  rcases hs with rfl | ⟨b, off, rfl, -, hc⟩
  · exact refIs_nil a cap n w
  · exact refIs_some b off cap xs n w hl hc

end Go.Proofs.YtdhgabpoaicjoaaDoor
namespace Go.Proofs.YtdhgabpoaicjoaaDoor
open Go.RowKit
set_option linter.unusedVariables false

/-- The cells from place 'off' of block 'b' on hold the arrows. -/
def CellsA (w : World) (b off : Nat) (ars : List Arr) : Prop := ∀ j, j < ars.length →
  w.cell? ⟨b, off + j * 3, none⟩ = some (.int .i64 (ars[j]?.getD arr0).f) ∧ w.cell? ⟨b, off + j * 3 + 1, none⟩ = some (.int .i64 (ars[j]?.getD arr0).e) ∧ w.cell? ⟨b, off + j * 3 + 2, none⟩ = some (.int .i64 (ars[j]?.getD arr0).t)

theorem CellsA.at {w : World} {b off k : Nat} {ars : List Arr} (hc : CellsA w b off ars) (h : k < ars.length) : ∃ a, Hid (a = ars[k]?.getD arr0) ∧ w.cell? ⟨b, off + k * 3, none⟩ = some (.int .i64 a.f) ∧ w.cell? ⟨b, off + k * 3 + 1, none⟩ = some (.int .i64 a.e) ∧ w.cell? ⟨b, off + k * 3 + 2, none⟩ = some (.int .i64 a.t) :=
  ⟨_, rfl, hc k h⟩

def AtA (w : World) (a : Option Addr) (ars : List Arr) : Prop := ars = [] ∨ ∃ b off, a = some ⟨b, off, none⟩ ∧ b < w.heap.size ∧ CellsA w b off ars

theorem AtA.below {w w' : World} {a : Option Addr} {ars : List Arr} {B : Nat} (h : AtA w a ars) (hb : Below B w w') (hB : w.heap.size ≤ B) : AtA w' a ars := by
  rcases h with h | ⟨b, off, rfl, hlt, hc⟩
  · exact .inl h
  · refine .inr ⟨b, off, rfl, Nat.lt_of_lt_of_le hlt hb.size, fun j hj => ?_⟩
    obtain ⟨h1, h2, h3⟩ := hc j hj
    have hlt' := Nat.lt_of_lt_of_le hlt hB
    exact ⟨(hb.cell (p := ⟨b, off + j * 3, none⟩) hlt').trans h1, (hb.cell (p := ⟨b, off + j * 3 + 1, none⟩) hlt').trans h2, (hb.cell (p := ⟨b, off + j * 3 + 2, none⟩) hlt').trans h3⟩

/-- Where a machine's three slices lie. -/
structure ML where
  a1 : Option Addr
  c1 : Nat
  a2 : Option Addr
  c2 : Nat
  a3 : Option Addr
  c3 : Nat

/-- A machine's five cells. -/
abbrev mcells (m : Mach) (l : ML) : Array Value := #[.int .i64 m.st, .int .i64 m.ev, .slice l.a1 m.starts.length l.c1, .slice l.a2 m.arrows.length l.c2, .slice l.a3 m.ends.length l.c3]
/-- A machine's value. -/
abbrev mval (m : Mach) (l : ML) : Value := .agg (mcells m l)

/-- A machine lies in memory. -/
structure MAt (w : World) (m : Mach) (l : ML) : Prop where
  s : At w l.a1 m.starts
  a : AtA w l.a2 m.arrows
  e : At w l.a3 m.ends
  s1 : m.starts.length ≤ l.c1
  s2 : l.c1 ≤ maxLen
  s3 : l.a1 = none → l.c1 = 0
  a1 : m.arrows.length ≤ l.c2
  a2 : l.c2 ≤ maxLen
  a3 : l.a2 = none → l.c2 = 0
  e1 : m.ends.length ≤ l.c3
  e2 : l.c3 ≤ maxLen
  e3 : l.a3 = none → l.c3 = 0

theorem MAt.below {w w' : World} {m : Mach} {l : ML} {B : Nat} (h : MAt w m l) (hb : Below B w w') (hB : w.heap.size ≤ B) : MAt w' m l :=
  ⟨h.s.below hb hB, h.a.below hb hB, h.e.below hb hB, h.s1, h.s2, h.s3, h.a1, h.a2, h.a3, h.e1, h.e2, h.e3⟩

theorem cell_box {w wr : World} {cs : Array Value} {T : TypeId} (hb : Below (w.heap.size + 1) (w.alloc (.cells cs T)) wr) (j : Nat) (v : Value) (h : cs[j]? = some v) : wr.cell? ⟨w.heap.size, j, none⟩ = some v := by
  rw [hb.cell (p := ⟨w.heap.size, j, none⟩) (by show w.heap.size < w.heap.size + 1; omega), World.cell?_alloc_at _ _ _ _ rfl]
  simp [h]

/-- The five cells of a machine that lies in a block of its own. -/
theorem box_cells {w wr : World} {m : Mach} {l : ML} {T : TypeId} (hb : Below (w.heap.size + 1) (w.alloc (.cells (mcells m l) T)) wr) :
    wr.cell? ⟨w.heap.size, 0, none⟩ = some (.int .i64 m.st) ∧ wr.cell? ⟨w.heap.size, 1, none⟩ = some (.int .i64 m.ev) ∧ wr.cell? ⟨w.heap.size, 2, none⟩ = some (.slice l.a1 m.starts.length l.c1) ∧
    wr.cell? ⟨w.heap.size, 3, none⟩ = some (.slice l.a2 m.arrows.length l.c2) ∧ wr.cell? ⟨w.heap.size, 4, none⟩ = some (.slice l.a3 m.ends.length l.c3) :=
  ⟨cell_box hb 0 _ rfl, cell_box hb 1 _ rfl, cell_box hb 2 _ rfl, cell_box hb 3 _ rfl, cell_box hb 4 _ rfl⟩

theorem below_box {w wr : World} {o : Obj} (hb : Below (w.heap.size + 1) (w.alloc o) wr) : Below w.heap.size w wr :=
  ((Below.refl _ _).alloc (Nat.le_refl _) o).trans (hb.mono (by omega))

end Go.Proofs.YtdhgabpoaicjoaaDoor
