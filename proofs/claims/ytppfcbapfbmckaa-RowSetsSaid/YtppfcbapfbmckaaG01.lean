/-
  Plain mathematics of rows (lists of integers): what 'is a row', union, insertion and filters are, on lists. No program, no model: it imports nothing.
  What is said of a slice of integers in a world: 'At w a xs': the slice that begins at 'a' reads as the list 'xs'. Small facts on it.
  The walk of jalousieref1.Has: whether a list has a number.
  The walk of row.Is: it answers 'rowB n xs'.
-/
import Derived.WalkKit
import Derived.WalkSpells
import Derived.WalkLawsBesides
import Derived.Test.YtppfcbapfbmckaaRows
import Derived.Deep.QuietTactic
import Derived.BigQuiet
namespace Go.Proofs.Ytppfcbapfbmckaa

/-- Is the list a row above 'last' and below 'below'? -/
def goIs (last below : Int) : List Int → Bool
  | [] => true
  | x :: r => if x ≤ last ∨ below ≤ x then false else goIs x below r

/-- 'A row below n': A1. -/
def rowB (n : Int) (xs : List Int) : Bool := goIs (-1) (min n 2147483648) xs

/-- The inner way of 'uni': the second list is gone through, the first one begins with x. -/
def goU (x : Int) (a : List Int) (f : List Int → List Int) : List Int → List Int
  | [] => x :: a
  | y :: b => if x < y then x :: f (y :: b) else if y < x then y :: goU x a f b else x :: f b

/-- The union of two rows. -/
def uni : List Int → List Int → List Int
  | [] => fun b => b
  | x :: a => goU x a (uni a)

theorem uni_nn (b : List Int) : uni [] b = b := rfl
theorem uni_cn (x : Int) (a : List Int) : uni (x :: a) [] = x :: a := rfl
theorem uni_cc (x y : Int) (a b : List Int) : uni (x :: a) (y :: b) = if x < y then x :: uni a (y :: b) else if y < x then y :: uni (x :: a) b else x :: uni a b := rfl

theorem uni_ind {motive : List Int → List Int → Prop} (case1 : ∀ b, motive [] b) (case2 : ∀ x a, motive (x :: a) [])
    (case3 : ∀ x a y b, x < y → motive a (y :: b) → motive (x :: a) (y :: b)) (case4 : ∀ x a y b, ¬ x < y → y < x → motive (x :: a) b → motive (x :: a) (y :: b))
    (case5 : ∀ x a y b, ¬ x < y → ¬ y < x → motive a b → motive (x :: a) (y :: b)) : ∀ a b, motive a b := by
  intro a
  induction a with
  | nil => exact case1
  | cons x a iha =>
    intro b
    induction b with
    | nil => exact case2 x a
    | cons y b ihb =>
      by_cases h : x < y
      · exact case3 x a y b h (iha _)
      · by_cases h' : y < x
        · exact case4 x a y b h h' ihb
        · exact case5 x a y b h h' (iha _)

def ins (x : Int) : List Int → List Int
  | [] => [x]
  | y :: r => if y < x then y :: ins x r else if y = x then y :: r else x :: y :: r

def srt (l : List Int) : List Int := l.foldl (fun out x => ins x out) []

abbrev Inc (l : List Int) : Prop := l.Pairwise (· < ·)

theorem goIs_iff (below : Int) (xs : List Int) : ∀ last, goIs last below xs = true ↔ Inc xs ∧ ∀ x ∈ xs, last < x ∧ x < below := by
  induction xs with
  | nil => intro last; simp [goIs, Inc]
  | cons x r ih =>
    intro last
    unfold goIs
    by_cases h : x ≤ last ∨ below ≤ x
    · rw [if_pos h]
      simp only [Bool.false_eq_true, false_iff]
      rintro ⟨-, h2⟩
      have := h2 x (by simp)
      omega
    · rw [if_neg h, ih x]
      simp only [Inc, List.pairwise_cons, List.mem_cons]
      constructor
      · rintro ⟨h1, h2⟩
        refine ⟨⟨fun y hy => (h2 y hy).1, h1⟩, ?_⟩
        rintro y (rfl | hy)
        · omega
        · have := h2 y hy; omega
      · rintro ⟨⟨h1, h2⟩, h3⟩
        exact ⟨h2, fun y hy => ⟨h1 y hy, (h3 y (.inr hy)).2⟩⟩

theorem goIs_len (below : Int) (xs : List Int) : ∀ last, last < below → goIs last below xs = true → (xs.length : Int) ≤ below - 1 - last := by
  induction xs with
  | nil => intro last h _; simp; omega
  | cons x r ih =>
    intro last h hg
    unfold goIs at hg
    by_cases hc : x ≤ last ∨ below ≤ x
    · rw [if_pos hc] at hg; cases hg
    · rw [if_neg hc] at hg
      have := ih x (by omega) hg
      simp only [List.length_cons]
      omega

theorem rowB_len {n : Int} {xs : List Int} (h : rowB n xs = true) : xs.length ≤ 2147483648 := by
  unfold rowB at h
  by_cases hn : -1 < min n 2147483648
  · have := goIs_len _ _ _ hn h; omega
  · cases xs with
    | nil => simp
    | cons x r => unfold goIs at h; rw [if_pos (by omega)] at h; cases h

theorem rowB_inc {n : Int} {xs : List Int} (h : rowB n xs = true) : Inc xs := ((goIs_iff _ _ _).1 h).1
theorem rowB_bd {n : Int} {xs : List Int} (h : rowB n xs = true) : ∀ x ∈ xs, 0 ≤ x ∧ x < 2147483648 := fun x hx => by
  have := ((goIs_iff _ _ _).1 h).2 x hx; omega
theorem rowB_mk {xs : List Int} (h : Inc xs) (hb : ∀ x ∈ xs, 0 ≤ x ∧ x < 2147483648) : rowB 2147483648 xs = true :=
  (goIs_iff _ _ _).2 ⟨h, fun x hx => by have := hb x hx; omega⟩

theorem inc_ext : ∀ {a b : List Int}, Inc a → Inc b → (∀ x, x ∈ a ↔ x ∈ b) → a = b
  | [], [], _, _, _ => rfl
  | [], y :: b, _, _, h => by have := (h y).2 (by simp); simp at this
  | x :: a, [], _, _, h => by have := (h x).1 (by simp); simp at this
  | x :: a, y :: b, ha, hb, h => by
    simp only [Inc, List.pairwise_cons] at ha hb
    have e : x = y := by
      have h1 := (h x).1 (by simp)
      have h2 := (h y).2 (by simp)
      simp only [List.mem_cons] at h1 h2
      rcases h1 with rfl | h1
      · rfl
      · rcases h2 with rfl | h2
        · rfl
        · have := ha.1 y h2; have := hb.1 x h1; omega
    subst e
    refine congrArg _ (inc_ext ha.2 hb.2 fun z => ?_)
    have hz := h z
    simp only [List.mem_cons] at hz
    constructor
    · intro m
      rcases hz.1 (.inr m) with rfl | m'
      · have := ha.1 z m; omega
      · exact m'
    · intro m
      rcases hz.2 (.inr m) with rfl | m'
      · have := hb.1 z m; omega
      · exact m'

theorem mem_uni (z : Int) : ∀ a b, z ∈ uni a b ↔ z ∈ a ∨ z ∈ b := by
  intro a b
  induction a, b using uni_ind with
  | case1 b => simp [uni_nn]
  | case2 x a => simp [uni_cn]
  | case3 x a y b h ih => rw [uni_cc, if_pos h, List.mem_cons, ih]; simp only [List.mem_cons, or_assoc]
  | case4 x a y b h h' ih => rw [uni_cc, if_neg h, if_pos h', List.mem_cons, ih]; simp only [List.mem_cons]; constructor <;> (intro hh; rcases hh with hh | hh | hh <;> simp_all)
  | case5 x a y b h h' ih =>
    have e : x = y := by omega
    subst e
    rw [uni_cc, if_neg h, if_neg h', List.mem_cons, ih]; simp only [List.mem_cons]; constructor
    · rintro (hh | hh | hh) <;> simp [hh]
    · rintro ((hh | hh) | (hh | hh)) <;> simp [hh]

theorem inc_uni : ∀ a b, Inc a → Inc b → Inc (uni a b) := by
  intro a b
  induction a, b using uni_ind with
  | case1 b => simp [uni_nn]
  | case2 x a => intro h _; simpa [uni_cn] using h
  | case3 x a y b h ih =>
    intro ha hb
    rw [uni_cc, if_pos h]
    have ha' := List.pairwise_cons.1 ha
    have hb' := List.pairwise_cons.1 hb
    refine List.pairwise_cons.2 ⟨fun z hz => ?_, ih ha'.2 hb⟩
    rcases (mem_uni z _ _).1 hz with m | m
    · exact ha'.1 z m
    · rcases List.mem_cons.1 m with rfl | m
      · exact h
      · have := hb'.1 z m; omega
  | case4 x a y b h h' ih =>
    intro ha hb
    rw [uni_cc, if_neg h, if_pos h']
    have ha' := List.pairwise_cons.1 ha
    have hb' := List.pairwise_cons.1 hb
    refine List.pairwise_cons.2 ⟨fun z hz => ?_, ih ha hb'.2⟩
    rcases (mem_uni z _ _).1 hz with m | m
    · rcases List.mem_cons.1 m with rfl | m
      · exact h'
      · have := ha'.1 z m; omega
    · exact hb'.1 z m
  | case5 x a y b h h' ih =>
    intro ha hb
    have e : x = y := by omega
    subst e
    rw [uni_cc, if_neg h, if_neg h']
    have ha' := List.pairwise_cons.1 ha
    have hb' := List.pairwise_cons.1 hb
    refine List.pairwise_cons.2 ⟨fun z hz => ?_, ih ha'.2 hb'.2⟩
    rcases (mem_uni z _ _).1 hz with m | m
    · exact ha'.1 z m
    · exact hb'.1 z m

theorem mem_ins (z x : Int) : ∀ l, z ∈ ins x l ↔ z = x ∨ z ∈ l
  | [] => by simp [ins]
  | y :: r => by
    unfold ins
    by_cases h : y < x
    · rw [if_pos h, List.mem_cons, mem_ins z x r, List.mem_cons]; constructor <;> (intro hh; rcases hh with hh | hh | hh <;> simp_all)
    · rw [if_neg h]
      by_cases h' : y = x
      · rw [if_pos h']; subst h'; simp
      · rw [if_neg h']; simp

theorem inc_ins (x : Int) : ∀ l, Inc l → Inc (ins x l)
  | [], _ => by simp [ins]
  | y :: r, h => by
    have h1 := List.pairwise_cons.1 h
    unfold ins
    by_cases hc : y < x
    · rw [if_pos hc]
      refine List.pairwise_cons.2 ⟨fun z hz => ?_, inc_ins x r h1.2⟩
      rcases (mem_ins z x r).1 hz with rfl | m
      · exact hc
      · exact h1.1 z m
    · rw [if_neg hc]
      by_cases h' : y = x
      · rw [if_pos h']; exact h
      · rw [if_neg h']
        refine List.pairwise_cons.2 ⟨fun z hz => ?_, h⟩
        rcases List.mem_cons.1 hz with rfl | m
        · omega
        · have := h1.1 z m; omega

theorem srt_snoc (l : List Int) (x : Int) : srt (l ++ [x]) = ins x (srt l) := by simp [srt, List.foldl_append]

theorem inc_foldl (l : List Int) : ∀ o, Inc o → Inc (l.foldl (fun out x => ins x out) o) := by
  induction l with
  | nil => intro o h; exact h
  | cons x r ih => intro o h; exact ih _ (inc_ins x o h)
theorem mem_foldl (z : Int) (l : List Int) : ∀ o, z ∈ l.foldl (fun out x => ins x out) o ↔ z ∈ o ∨ z ∈ l := by
  induction l with
  | nil => intro o; simp
  | cons x r ih =>
    intro o
    rw [List.foldl_cons, ih, mem_ins, List.mem_cons]
    constructor
    · rintro ((hh | hh) | hh) <;> simp [hh]
    · rintro (hh | (hh | hh)) <;> simp [hh]
theorem inc_srt (l : List Int) : Inc (srt l) := inc_foldl l [] (by simp [Inc])
theorem mem_srt (z : Int) (l : List Int) : z ∈ srt l ↔ z ∈ l := by unfold srt; rw [mem_foldl]; simp

theorem ins_len (x : Int) : ∀ l, (ins x l).length ≤ l.length + 1
  | [] => by simp [ins]
  | y :: r => by
    unfold ins
    have := ins_len x r
    split
    · simp; omega
    · split <;> simp
theorem srt_len (l : List Int) : (srt l).length ≤ l.length := by
  have : ∀ (l : List Int) o, (l.foldl (fun out x => ins x out) o).length ≤ o.length + l.length := by
    intro l
    induction l with
    | nil => intro o; simp
    | cons x r ih => intro o; have h1 := ih (ins x o); have h2 := ins_len x o; simp only [List.foldl_cons, List.length_cons]; omega
  have h := this l []
  simpa [srt] using h

theorem srt_join {a b : List Int} (ha : Inc a) (hb : Inc b) : srt (a ++ b) = uni a b :=
  inc_ext (inc_srt _) (inc_uni _ _ ha hb) fun x => by rw [mem_srt, mem_uni, List.mem_append]

theorem inc_filter {a : List Int} (p : Int → Bool) (ha : Inc a) : Inc (a.filter p) := ha.filter p

theorem uni_all (a b : List Int) : (uni a b).filter (fun n => a.contains n || b.contains n) = uni a b := by
  rw [List.filter_eq_self]
  intro x hx
  rcases (mem_uni x _ _).1 hx with m | m <;> simp [m]
theorem uni_meet {a b : List Int} (ha : Inc a) (hb : Inc b) : (uni a b).filter (fun n => a.contains n && b.contains n) = a.filter (fun n => b.contains n == true) :=
  inc_ext (inc_filter _ (inc_uni _ _ ha hb)) (inc_filter _ ha) fun x => by
    simp only [List.mem_filter, mem_uni, List.contains_iff_mem, Bool.and_eq_true, beq_iff_eq]
    constructor
    · rintro ⟨-, h1, h2⟩; exact ⟨h1, h2⟩
    · rintro ⟨h1, h2⟩; exact ⟨.inl h1, h1, h2⟩
theorem uni_less {a b : List Int} (ha : Inc a) (hb : Inc b) : (uni a b).filter (fun n => a.contains n && !b.contains n) = a.filter (fun n => b.contains n == false) :=
  inc_ext (inc_filter _ (inc_uni _ _ ha hb)) (inc_filter _ ha) fun x => by
    simp only [List.mem_filter, mem_uni, Bool.and_eq_true, Bool.not_eq_true', beq_iff_eq, List.contains_iff_mem]
    constructor
    · rintro ⟨-, h1, h2⟩; exact ⟨h1, h2⟩
    · rintro ⟨h1, h2⟩; exact ⟨.inl h1, h1, h2⟩

theorem not_mem_lt {x : Int} {b : List Int} (h : ∀ y ∈ b, x < y) : b.contains x = false := by
  rw [← Bool.not_eq_true, List.contains_iff_mem]
  intro m
  have := h x m
  omega

theorem uni_len : ∀ a b, Inc a → Inc b → (uni a b).length = (a.filter (fun n => b.contains n == false)).length + b.length := by
  intro a b
  induction a, b using uni_ind with
  | case1 b => simp [uni_nn]
  | case2 x a =>
    intro _ _
    simp only [uni_cn, List.length_nil, Nat.add_zero]
    rw [List.filter_eq_self.2 (fun z _ => by simp)]
  | case3 x a y b h ih =>
    intro ha hb
    have ha' := List.pairwise_cons.1 ha
    have hb' := List.pairwise_cons.1 hb
    rw [uni_cc, if_pos h, List.length_cons, ih ha'.2 hb, List.filter_cons, if_pos]
    · simp only [List.length_cons]; omega
    · rw [not_mem_lt (fun z hz => by rcases List.mem_cons.1 hz with rfl | m; exact h; have := hb'.1 z m; omega)]; rfl
  | case4 x a y b h h' ih =>
    intro ha hb
    have ha' := List.pairwise_cons.1 ha
    have hb' := List.pairwise_cons.1 hb
    rw [uni_cc, if_neg h, if_pos h', List.length_cons, ih ha hb'.2]
    have e : (x :: a).filter (fun n => (y :: b).contains n == false) = (x :: a).filter (fun n => b.contains n == false) := by
      apply List.filter_congr
      intro z hz
      have hzy : ¬ z = y := by rcases List.mem_cons.1 hz with rfl | m; omega; have := ha'.1 z m; omega
      simp [hzy]
    rw [e]
    simp only [List.length_cons]; omega
  | case5 x a y b h h' ih =>
    intro ha hb
    have e : x = y := by omega
    subst e
    have ha' := List.pairwise_cons.1 ha
    have hb' := List.pairwise_cons.1 hb
    rw [uni_cc, if_neg h, if_neg h', List.length_cons, ih ha'.2 hb'.2, List.filter_cons, if_neg (by simp)]
    have e : a.filter (fun n => (x :: b).contains n == false) = a.filter (fun n => b.contains n == false) := by
      apply List.filter_congr
      intro z hz
      have hzy : ¬ z = x := by have := ha'.1 z hz; omega
      simp [hzy]
    rw [e]
    simp only [List.length_cons]; omega

theorem uni_len_le : ∀ a b, (uni a b).length ≤ a.length + b.length := by
  intro a b
  induction a, b using uni_ind with
  | case1 b => simp [uni_nn]
  | case2 x a => simp [uni_cn]
  | case3 x a y b h ih => rw [uni_cc, if_pos h]; simp only [List.length_cons] at ih ⊢; omega
  | case4 x a y b h h' ih => rw [uni_cc, if_neg h, if_pos h']; simp only [List.length_cons] at ih ⊢; omega
  | case5 x a y b h h' ih => rw [uni_cc, if_neg h, if_neg h']; simp only [List.length_cons] at ih ⊢; omega

end Go.Proofs.Ytppfcbapfbmckaa
namespace Go.Proofs.Ytppfcbapfbmckaa
open Go.RowKit

/-- The cells from place 'off' of block 'b' on hold the integers 'xs'. -/
def Cells (w : World) (b off : Nat) (xs : List Int) : Prop := ∀ j, j < xs.length → w.cell? ⟨b, off + j, none⟩ = some (.int .i64 (xs.getD j 0))

theorem Cells.at {w : World} {b off k : Nat} {xs : List Int} (hc : Cells w b off xs) (h : k < xs.length) : ∃ x, Hid (x = xs[k]?.getD 0) ∧ w.cell? ⟨b, off + k, none⟩ = some (.int .i64 x) :=
  ⟨_, rfl, by have := hc k h; rw [List.getD_eq_getElem?_getD] at this; exact this⟩

/-- The cells from 'a' on hold the integers 'xs'. -/
def At (w : World) (a : Option Addr) (xs : List Int) : Prop :=
  xs = [] ∨ ∃ b off, a = some ⟨b, off, none⟩ ∧ b < w.heap.size ∧ Cells w b off xs

theorem At.below {w w' : World} {a : Option Addr} {xs : List Int} {B : Nat} (h : At w a xs) (hb : Below B w w') (hB : w.heap.size ≤ B) : At w' a xs := by
  rcases h with h | ⟨b, off, rfl, hlt, hc⟩
  · exact .inl h
  · exact .inr ⟨b, off, rfl, Nat.lt_of_lt_of_le hlt hb.size, fun j hj => by rw [hb.cell (p := ⟨b, off + j, none⟩) (Nat.lt_of_lt_of_le hlt hB)]; exact hc j hj⟩

theorem At.drewN {w : World} {a : Option Addr} {xs : List Int} (h : At w a xs) (m : Nat) : At (w.drewN m) a xs := h

theorem drop_cons {xs : List Int} {k : Nat} (h : k < xs.length) : xs.drop k = xs[k]?.getD 0 :: xs.drop (k + 1) := by
  rw [List.drop_eq_getElem_cons h, List.getElem?_eq_getElem h]; rfl

theorem ret_int {k : IntKind} {a b : Int} (h : a = b) : Ending.returned (.int k a) = .returned (.int k b) := by rw [h]
theorem ret_bool {a b : Bool} (h : a = b) : Ending.returned (.bool a) = .returned (.bool b) := by rw [h]

/-- Has the list the number? (A function of our own, which the walk leaves as it stands.) -/
def hasB (xs : List Int) (n : Int) : Bool := xs.contains n

theorem has_hit {xs : List Int} {k : Nat} {n x : Int} (h : k < xs.length) (e : Hid (hasB xs n = hasB (xs.drop k) n)) (hv : Hid (x = xs[k]?.getD 0)) (hx : (x == n) = true) : true = hasB xs n := by
  have e := e.out; have hv := hv.out; have hx : x = n := by simpa using hx
  subst hx; rw [e, drop_cons h, ← hv]; simp [hasB]
theorem has_miss {xs : List Int} {k : Nat} {n x : Int} (h : k < xs.length) (e : Hid (hasB xs n = hasB (xs.drop k) n)) (hv : Hid (x = xs[k]?.getD 0)) (hx : (x == n) = false) : Hid (hasB xs n = hasB (xs.drop (k + 1)) n) := by
  have e := e.out; have hv := hv.out; have hx : ¬ x = n := by simpa using hx
  have h1 : (n == x) = false := by simp; omega
  show hasB xs n = hasB (xs.drop (k + 1)) n
  rw [e, drop_cons h, ← hv, hasB, List.contains_cons, h1]; simp [hasB]
theorem has_end {xs : List Int} {k : Nat} {n : Int} (h : ¬ k < xs.length) (e : Hid (hasB xs n = hasB (xs.drop k) n)) : false = hasB xs n := by
  rw [e.out, List.drop_eq_nil_of_le (by omega)]; rfl
theorem is_no {xs : List Int} {k : Nat} {last bel n x : Int} (h : k < xs.length) (e : Hid (rowB n xs = goIs last bel (xs.drop k))) (hv : Hid (x = xs[k]?.getD 0)) (hx : x ≤ last ∨ bel ≤ x) : false = rowB n xs := by
  rw [e.out, drop_cons h, ← hv.out, goIs, if_pos hx]
theorem is_yes {xs : List Int} {k : Nat} {last bel n x : Int} (h : k < xs.length) (e : Hid (rowB n xs = goIs last bel (xs.drop k))) (hv : Hid (x = xs[k]?.getD 0)) (hx : ¬ (x ≤ last ∨ bel ≤ x)) : Hid (rowB n xs = goIs x bel (xs.drop (k + 1))) := by
  show rowB n xs = goIs x bel (xs.drop (k + 1))
  rw [e.out, drop_cons h, ← hv.out, goIs, if_neg hx]
theorem is_end {xs : List Int} {k : Nat} {last bel n : Int} (h : ¬ k < xs.length) (e : Hid (rowB n xs = goIs last bel (xs.drop k))) : true = rowB n xs := by
  rw [e.out, List.drop_eq_nil_of_le (by omega)]; rfl

end Go.Proofs.Ytppfcbapfbmckaa
namespace Go.Proofs.Ytppfcbapfbmckaa
open Go.RowKit

set_option maxHeartbeats 400000 in
theorem refHas_some (b off cap : Nat) (xs : List Int) (n : Int) (w : World) (hl : xs.length ≤ 9223372036854775807) (hc : Cells w b off xs) :
    Calls Try.prog 9 #[.slice (some ⟨b, off, none⟩) xs.length cap, .int .i64 n] w fun e w' => e = .returned (.bool (hasB xs n)) ∧ w' = w := by
  go_enter Try.func9, Try.ntmps9
  go_wp2
  go_loop [5] (fun i => ∃ k : Nat, k ≤ xs.length ∧ i = .int .i64 k ∧ Hid (hasB xs n = hasB (xs.drop k) n)) (fun i => xs.length - (intOf i).toNat)
  case atStart => exact ⟨0, Nat.zero_le _, rfl, rfl⟩
  case round =>
    obtain ⟨k, hk, rfl, he⟩ := hrel
    by_cases hlt : k < xs.length
    · obtain ⟨x, HX, hcell⟩ := hc.at hlt
      go_wp2
      · go_ret
        exact ⟨ret_bool (has_hit hlt he HX (by assumption)), rfl⟩
      · go_round
        case rel => exact ⟨k + 1, by omega, by go_num, has_miss hlt he HX (by assumption)⟩
        case measure => simp [intOf]; omega
    · go_wp2
      go_ret
      exact ⟨ret_bool (has_end hlt he), rfl⟩

set_option maxHeartbeats 400000 in
theorem refHas_nil (a : Option Addr) (cap : Nat) (n : Int) (w : World) :
    Calls Try.prog 9 #[.slice a 0 cap, .int .i64 n] w fun e w' => e = .returned (.bool false) ∧ w' = w := by
  go_enter Try.func9, Try.ntmps9
  go_wp2
  refine wp_loop_rounds 1 ?_
  rw [rounds_succ]
  go_wp2
  go_ret
  exact ⟨rfl, rfl⟩

theorem refHas_any (a : Option Addr) (cap : Nat) (xs : List Int) (n : Int) (w : World) (hs : At w a xs) (hl : xs.length ≤ maxLen) :
    Calls Try.prog 9 #[.slice a xs.length cap, .int .i64 n] w fun e w' => e = .returned (.bool (hasB xs n)) ∧ w' = w := by
  rcases hs with rfl | ⟨b, off, rfl, -, hc⟩
  · exact refHas_nil a cap n w
  · exact refHas_some b off cap xs n w hl hc

end Go.Proofs.Ytppfcbapfbmckaa
namespace Go.Proofs.Ytppfcbapfbmckaa
open Go.RowKit

theorem rowB_start1 {n : Int} (h : n ≤ 2147483648) (xs : List Int) : rowB n xs = goIs (-1) n xs := by unfold rowB; rw [show min n 2147483648 = n by omega]
theorem rowB_start2 {n : Int} (h : 2147483648 < n) (xs : List Int) : rowB n xs = goIs (-1) 2147483648 xs := by unfold rowB; rw [show min n 2147483648 = 2147483648 by omega]

set_option maxHeartbeats 400000 in
theorem rowIs_some (b off cap : Nat) (xs : List Int) (n : Int) (w : World) (hl : xs.length ≤ 9223372036854775807) (hc : Cells w b off xs) :
    Calls Try.prog 6 #[.slice (some ⟨b, off, none⟩) xs.length cap, .int .i64 n] w fun e w' => e = .returned (.bool (rowB n xs)) ∧ w' = w := by
  by_cases hn : n ≤ 2147483648
  · have HS : Hid (rowB n xs = goIs (-1) n (xs.drop 0)) := rowB_start1 hn xs
    go_enter Try.func6, Try.ntmps6
    go_wp2
    go_loop [5, 12] (fun l i => ∃ (k : Nat) (last : Int), k ≤ xs.length ∧ i = .int .i64 k ∧ l = .int .i64 last ∧ Hid (rowB n xs = goIs last n (xs.drop k))) (fun _ i => xs.length - (intOf i).toNat)
    case atStart => exact ⟨0, -1, Nat.zero_le _, rfl, rfl, HS⟩
    case round =>
      obtain ⟨k, last, hk, rfl, rfl, he⟩ := hrel
      by_cases hlt : k < xs.length
      · obtain ⟨x, HX, hcell⟩ := hc.at hlt
        by_cases h1 : x ≤ last
        · go_wp2
          go_ret
          exact ⟨ret_bool (is_no hlt he HX (.inl h1)), rfl⟩
        · by_cases h2 : n ≤ x
          · go_wp2
            go_ret
            exact ⟨ret_bool (is_no hlt he HX (.inr h2)), rfl⟩
          · go_wp2
            go_round
            case rel => exact ⟨k + 1, x, by omega, by go_num, rfl, is_yes hlt he HX (by omega)⟩
            case measure => simp [intOf]; omega
      · go_wp2
        go_ret
        exact ⟨ret_bool (is_end hlt he), rfl⟩
  · have HS : Hid (rowB n xs = goIs (-1) 2147483648 (xs.drop 0)) := rowB_start2 (by omega) xs
    go_enter Try.func6, Try.ntmps6
    go_wp2
    go_loop [5, 12] (fun l i => ∃ (k : Nat) (last : Int), k ≤ xs.length ∧ i = .int .i64 k ∧ l = .int .i64 last ∧ Hid (rowB n xs = goIs last 2147483648 (xs.drop k))) (fun _ i => xs.length - (intOf i).toNat)
    case atStart => exact ⟨0, -1, Nat.zero_le _, rfl, rfl, HS⟩
    case round =>
      obtain ⟨k, last, hk, rfl, rfl, he⟩ := hrel
      by_cases hlt : k < xs.length
      · obtain ⟨x, HX, hcell⟩ := hc.at hlt
        by_cases h1 : x ≤ last
        · go_wp2
          go_ret
          exact ⟨ret_bool (is_no hlt he HX (.inl h1)), rfl⟩
        · by_cases h2 : 2147483648 ≤ x
          · go_wp2
            go_ret
            exact ⟨ret_bool (is_no hlt he HX (.inr h2)), rfl⟩
          · go_wp2
            go_round
            case rel => exact ⟨k + 1, x, by omega, by go_num, rfl, is_yes hlt he HX (by omega)⟩
            case measure => simp [intOf]; omega
      · go_wp2
        go_ret
        exact ⟨ret_bool (is_end hlt he), rfl⟩

set_option maxHeartbeats 400000 in
theorem rowIs_nil (a : Option Addr) (cap : Nat) (n : Int) (w : World) :
    Calls Try.prog 6 #[.slice a 0 cap, .int .i64 n] w fun e w' => e = .returned (.bool true) ∧ w' = w := by
  go_enter Try.func6, Try.ntmps6
  go_wp2
  all_goals
    refine wp_loop_rounds 1 ?_
    rw [rounds_succ]
    go_wp2
    go_ret
    exact ⟨rfl, rfl⟩

theorem rowIs_any (a : Option Addr) (cap : Nat) (xs : List Int) (n : Int) (w : World) (hs : At w a xs) (hl : xs.length ≤ maxLen) :
    Calls Try.prog 6 #[.slice a xs.length cap, .int .i64 n] w fun e w' => e = .returned (.bool (rowB n xs)) ∧ w' = w := by
  rcases hs with rfl | ⟨b, off, rfl, -, hc⟩
  · exact rowIs_nil a cap n w
  · exact rowIs_some b off cap xs n w hl hc

end Go.Proofs.Ytppfcbapfbmckaa
