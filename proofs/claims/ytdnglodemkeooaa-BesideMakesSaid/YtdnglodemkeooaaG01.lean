/-
  slices.SortFunc as it lies in this program: the kit's laying.
  Plain mathematics of rows (lists of integers): what 'is a row', union, insertion and filters are, on lists. No program, no model: it imports nothing.
  What is said of a slice of integers in a world: 'At w a xs': the slice that begins at 'a' reads as the list 'xs'. Small facts on it.
  What is said of one block of memory: its cells.
  'All blocks of a world but one are as they were'.
  Plain mathematics of machines: arrows in order, what may be, words, where a word leads. No program, no model.
  Plain mathematics of what can be come to along arrows: rounds over all arrows, till nothing comes more. No program, no model.
-/
import Derived.Test.YtdnglodemkeooaaProg
import Derived.Shelf.SlSortCmp.WholeK
import Derived.Shelf.SlSortCmp.NoneTotal
import Derived.WalkKit
import Derived.WalkSpells
import Derived.WalkLawsBesides
import Derived.Test.YtdnglodemkeooaaRows
import Derived.RangeFuncBox
namespace Go.Proofs.Ytdnglodemkeooaa
open Go.Shelf

def Try.sortA_ren : Go.Shelf.Ren := ⟨fun | 6 => 39 | 15 => 47 | 14 => 46 | 28 => 60 | 29 => 61 | 20 => 52 | 21 => 53 | 22 => 54 | 23 => 55 | 24 => 56 | 25 => 57 | 26 => 58 | 27 => 59 | 46 => 62 | 47 => 63 | 48 => 64 | 49 => 65 | 50 => 66 | 57 => 67 | n => n, fun | 22 => 23 | 24 => 50 | 25 => 68 | 3 => 3 | 39 => 73 | 0 => 0 | 53 => 84 | 55 => 86 | 4 => 4 | 46 => 78 | 45 => 77 | 50 => 65 | 5 => 5 | 9 => 9 | 66 => 87 | 70 => 91 | 76 => 93 | 77 => 94 | n => n, fun | n => n⟩
theorem Try.sortA : Go.Proofs.SlLaysF0.n6 Try.prog Try.sortA_ren := {
  mixed := by kernel_rfl
  f6 := ⟨Try.f39.name, by decide, Try.func39.trans (congrArg some (by kernel_rfl))⟩
  f14 := ⟨Try.f46.name, by decide, Try.func46.trans (congrArg some (by kernel_rfl))⟩
  f15 := Try.func47.trans (congrArg some (by kernel_rfl))
  f20 := ⟨Try.f52.name, by decide, Try.func52.trans (congrArg some (by kernel_rfl))⟩
  f21 := ⟨Try.f53.name, by decide, Try.func53.trans (congrArg some (by kernel_rfl))⟩
  f22 := ⟨Try.f54.name, by decide, Try.func54.trans (congrArg some (by kernel_rfl))⟩
  f23 := ⟨Try.f55.name, by decide, Try.func55.trans (congrArg some (by kernel_rfl))⟩
  f24 := ⟨Try.f56.name, by decide, Try.func56.trans (congrArg some (by kernel_rfl))⟩
  f25 := ⟨Try.f57.name, by decide, Try.func57.trans (congrArg some (by kernel_rfl))⟩
  f26 := ⟨Try.f58.name, by decide, Try.func58.trans (congrArg some (by kernel_rfl))⟩
  f27 := ⟨Try.f59.name, by decide, Try.func59.trans (congrArg some (by kernel_rfl))⟩
  f28 := Try.func60.trans (congrArg some (by kernel_rfl))
  f29 := Try.func61.trans (congrArg some (by kernel_rfl))
  f46 := ⟨Try.f62.name, by decide, Try.func62.trans (congrArg some (by kernel_rfl))⟩
  f47 := Try.func63.trans (congrArg some (by kernel_rfl))
  f48 := Try.func64.trans (congrArg some (by kernel_rfl))
  f49 := ⟨Try.f65.name, by decide, Try.func65.trans (congrArg some (by kernel_rfl))⟩
  f50 := ⟨Try.f66.name, by decide, Try.func66.trans (congrArg some (by kernel_rfl))⟩
  f57 := ⟨Try.f67.name, by decide, Try.func67.trans (congrArg some (by kernel_rfl))⟩
  t0 := Try.underlying0
  a0 := Try.isAgg0
  z0 := Try.sizeOf0
  v0 := Try.zeroValue0
  t3 := Try.underlying3
  a3 := Try.isAgg3
  z3 := Try.sizeOf3
  v3 := Try.zeroValue3
  t4 := Try.underlying4
  a4 := Try.isAgg4
  z4 := Try.sizeOf4
  v4 := Try.zeroValue4
  t5 := Try.underlying5
  a5 := Try.isAgg5
  z5 := Try.sizeOf5
  v5 := Try.zeroValue5
  t9 := Try.underlying9
  a9 := Try.isAgg9
  z9 := Try.sizeOf9
  v9 := Try.zeroValue9
  t22 := Try.underlying23
  a22 := Try.isAgg23
  z22 := Try.sizeOf23
  v22 := Try.zeroValue23
  t25 := Try.underlying68
  a25 := Try.isAgg68
  z25 := Try.sizeOf68
  v25 := Try.zeroValue68
  t39 := Try.underlying73
  a39 := Try.isAgg73
  z39 := Try.sizeOf73
  v39 := Try.zeroValue73
  t45 := Try.underlying77
  a45 := Try.isAgg77
  z45 := Try.sizeOf77
  v45 := Try.zeroValue77
  t46 := Try.underlying78
  a46 := Try.isAgg78
  z46 := Try.sizeOf78
  v46 := Try.zeroValue78
  t50 := Try.underlying65
  a50 := Try.isAgg65
  z50 := Try.sizeOf65
  v50 := Try.zeroValue65
  t53 := Try.underlying84
  a53 := Try.isAgg84
  z53 := Try.sizeOf84
  v53 := Try.zeroValue84
  t55 := Try.underlying86
  a55 := Try.isAgg86
  z55 := Try.sizeOf86
  v55 := Try.zeroValue86
  t66 := Try.underlying87
  a66 := Try.isAgg87
  z66 := Try.sizeOf87
  v66 := Try.zeroValue87
  t70 := Try.underlying91
  a70 := Try.isAgg91
  z70 := Try.sizeOf91
  v70 := Try.zeroValue91
  t76 := Try.underlying93
  a76 := Try.isAgg93
  z76 := Try.sizeOf93
  v76 := Try.zeroValue93
  t77 := Try.underlying94
  a77 := Try.isAgg94
  z77 := Try.sizeOf94
  v77 := Try.zeroValue94 }

end Go.Proofs.Ytdnglodemkeooaa
namespace Go.Proofs.Ytdnglodemkeooaa

/-- Is the list a row above 'last' and below 'below'? -/
def goIs (last below : Int) : List Int → Bool
  | [] => true
  | x :: r => if x ≤ last ∨ below ≤ x then false else goIs x below r

/-- 'A row below n': A1. -/
def rowB (n : Int) (xs : List Int) : Bool := goIs (-1) (min n 2147483648) xs

/-- The inner way of 'uni': the second list is gone through, the first one begins with x. -/
def goU (x : Int) (a : List Int) (f : List Int → List Int) : List Int → List Int
  | [] => x :: a
  | y :: b => if x < y then x :: f (y :: b) else if y < x then y :: goU x a f b else x :: f b

/-- The union of two rows. -/
def uni : List Int → List Int → List Int
  | [] => fun b => b
  | x :: a => goU x a (uni a)

theorem uni_nn (b : List Int) : uni [] b = b := rfl
theorem uni_cn (x : Int) (a : List Int) : uni (x :: a) [] = x :: a := rfl
theorem uni_cc (x y : Int) (a b : List Int) : uni (x :: a) (y :: b) = if x < y then x :: uni a (y :: b) else if y < x then y :: uni (x :: a) b else x :: uni a b := rfl

theorem uni_ind {motive : List Int → List Int → Prop} (case1 : ∀ b, motive [] b) (case2 : ∀ x a, motive (x :: a) [])
    (case3 : ∀ x a y b, x < y → motive a (y :: b) → motive (x :: a) (y :: b)) (case4 : ∀ x a y b, ¬ x < y → y < x → motive (x :: a) b → motive (x :: a) (y :: b))
    (case5 : ∀ x a y b, ¬ x < y → ¬ y < x → motive a b → motive (x :: a) (y :: b)) : ∀ a b, motive a b := by
  intro a
  induction a with
  | nil => exact case1
  | cons x a iha =>
    intro b
    induction b with
    | nil => exact case2 x a
    | cons y b ihb =>
      by_cases h : x < y
      · exact case3 x a y b h (iha _)
      · by_cases h' : y < x
        · exact case4 x a y b h h' ihb
        · exact case5 x a y b h h' (iha _)

def ins (x : Int) : List Int → List Int
  | [] => [x]
  | y :: r => if y < x then y :: ins x r else if y = x then y :: r else x :: y :: r

def srt (l : List Int) : List Int := l.foldl (fun out x => ins x out) []

abbrev Inc (l : List Int) : Prop := l.Pairwise (· < ·)

theorem goIs_iff (below : Int) (xs : List Int) : ∀ last, goIs last below xs = true ↔ Inc xs ∧ ∀ x ∈ xs, last < x ∧ x < below := by
  induction xs with
  | nil => intro last; simp [goIs, Inc]
  | cons x r ih =>
    intro last
    unfold goIs
    by_cases h : x ≤ last ∨ below ≤ x
    · rw [if_pos h]
      simp only [Bool.false_eq_true, false_iff]
      rintro ⟨-, h2⟩
      have := h2 x (by simp)
      omega
    · rw [if_neg h, ih x]
      simp only [Inc, List.pairwise_cons, List.mem_cons]
      constructor
      · rintro ⟨h1, h2⟩
        refine ⟨⟨fun y hy => (h2 y hy).1, h1⟩, ?_⟩
        rintro y (rfl | hy)
        · omega
        · have := h2 y hy; omega
      · rintro ⟨⟨h1, h2⟩, h3⟩
        exact ⟨h2, fun y hy => ⟨h1 y hy, (h3 y (.inr hy)).2⟩⟩

theorem goIs_len (below : Int) (xs : List Int) : ∀ last, last < below → goIs last below xs = true → (xs.length : Int) ≤ below - 1 - last := by
  induction xs with
  | nil => intro last h _; simp; omega
  | cons x r ih =>
    intro last h hg
    unfold goIs at hg
    by_cases hc : x ≤ last ∨ below ≤ x
    · rw [if_pos hc] at hg; cases hg
    · rw [if_neg hc] at hg
      have := ih x (by omega) hg
      simp only [List.length_cons]
      omega

theorem rowB_len {n : Int} {xs : List Int} (h : rowB n xs = true) : xs.length ≤ 2147483648 := by
  unfold rowB at h
  by_cases hn : -1 < min n 2147483648
  · have := goIs_len _ _ _ hn h; omega
  · cases xs with
    | nil => simp
    | cons x r => unfold goIs at h; rw [if_pos (by omega)] at h; cases h

theorem rowB_inc {n : Int} {xs : List Int} (h : rowB n xs = true) : Inc xs := ((goIs_iff _ _ _).1 h).1
theorem rowB_bd {n : Int} {xs : List Int} (h : rowB n xs = true) : ∀ x ∈ xs, 0 ≤ x ∧ x < 2147483648 := fun x hx => by
  have := ((goIs_iff _ _ _).1 h).2 x hx; omega
theorem rowB_mk {xs : List Int} (h : Inc xs) (hb : ∀ x ∈ xs, 0 ≤ x ∧ x < 2147483648) : rowB 2147483648 xs = true :=
  (goIs_iff _ _ _).2 ⟨h, fun x hx => by have := hb x hx; omega⟩

theorem inc_ext : ∀ {a b : List Int}, Inc a → Inc b → (∀ x, x ∈ a ↔ x ∈ b) → a = b
  | [], [], _, _, _ => rfl
  | [], y :: b, _, _, h => by have := (h y).2 (by simp); simp at this
  | x :: a, [], _, _, h => by have := (h x).1 (by simp); simp at this
  | x :: a, y :: b, ha, hb, h => by
    simp only [Inc, List.pairwise_cons] at ha hb
    have e : x = y := by
      have h1 := (h x).1 (by simp)
      have h2 := (h y).2 (by simp)
      simp only [List.mem_cons] at h1 h2
      rcases h1 with rfl | h1
      · rfl
      · rcases h2 with rfl | h2
        · rfl
        · have := ha.1 y h2; have := hb.1 x h1; omega
    subst e
    refine congrArg _ (inc_ext ha.2 hb.2 fun z => ?_)
    have hz := h z
    simp only [List.mem_cons] at hz
    constructor
    · intro m
      rcases hz.1 (.inr m) with rfl | m'
      · have := ha.1 z m; omega
      · exact m'
    · intro m
      rcases hz.2 (.inr m) with rfl | m'
      · have := hb.1 z m; omega
      · exact m'

theorem mem_uni (z : Int) : ∀ a b, z ∈ uni a b ↔ z ∈ a ∨ z ∈ b := by
  intro a b
  induction a, b using uni_ind with
  | case1 b => simp [uni_nn]
  | case2 x a => simp [uni_cn]
  | case3 x a y b h ih => rw [uni_cc, if_pos h, List.mem_cons, ih]; simp only [List.mem_cons, or_assoc]
  | case4 x a y b h h' ih => rw [uni_cc, if_neg h, if_pos h', List.mem_cons, ih]; simp only [List.mem_cons]; constructor <;> (intro hh; rcases hh with hh | hh | hh <;> simp_all)
  | case5 x a y b h h' ih =>
    have e : x = y := by omega
    subst e
    rw [uni_cc, if_neg h, if_neg h', List.mem_cons, ih]; simp only [List.mem_cons]; constructor
    · rintro (hh | hh | hh) <;> simp [hh]
    · rintro ((hh | hh) | (hh | hh)) <;> simp [hh]

theorem inc_uni : ∀ a b, Inc a → Inc b → Inc (uni a b) := by
  intro a b
  induction a, b using uni_ind with
  | case1 b => simp [uni_nn]
  | case2 x a => intro h _; simpa [uni_cn] using h
  | case3 x a y b h ih =>
    intro ha hb
    rw [uni_cc, if_pos h]
    have ha' := List.pairwise_cons.1 ha
    have hb' := List.pairwise_cons.1 hb
    refine List.pairwise_cons.2 ⟨fun z hz => ?_, ih ha'.2 hb⟩
    rcases (mem_uni z _ _).1 hz with m | m
    · exact ha'.1 z m
    · rcases List.mem_cons.1 m with rfl | m
      · exact h
      · have := hb'.1 z m; omega
  | case4 x a y b h h' ih =>
    intro ha hb
    rw [uni_cc, if_neg h, if_pos h']
    have ha' := List.pairwise_cons.1 ha
    have hb' := List.pairwise_cons.1 hb
    refine List.pairwise_cons.2 ⟨fun z hz => ?_, ih ha hb'.2⟩
    rcases (mem_uni z _ _).1 hz with m | m
    · rcases List.mem_cons.1 m with rfl | m
      · exact h'
      · have := ha'.1 z m; omega
    · exact hb'.1 z m
  | case5 x a y b h h' ih =>
    intro ha hb
    have e : x = y := by omega
    subst e
    rw [uni_cc, if_neg h, if_neg h']
    have ha' := List.pairwise_cons.1 ha
    have hb' := List.pairwise_cons.1 hb
    refine List.pairwise_cons.2 ⟨fun z hz => ?_, ih ha'.2 hb'.2⟩
    rcases (mem_uni z _ _).1 hz with m | m
    · exact ha'.1 z m
    · exact hb'.1 z m

theorem mem_ins (z x : Int) : ∀ l, z ∈ ins x l ↔ z = x ∨ z ∈ l
  | [] => by simp [ins]
  | y :: r => by
    unfold ins
    by_cases h : y < x
    · rw [if_pos h, List.mem_cons, mem_ins z x r, List.mem_cons]; constructor <;> (intro hh; rcases hh with hh | hh | hh <;> simp_all)
    · rw [if_neg h]
      by_cases h' : y = x
      · rw [if_pos h']; subst h'; simp
      · rw [if_neg h']; simp

theorem inc_ins (x : Int) : ∀ l, Inc l → Inc (ins x l)
  | [], _ => by simp [ins]
  | y :: r, h => by
    have h1 := List.pairwise_cons.1 h
    unfold ins
    by_cases hc : y < x
    · rw [if_pos hc]
      refine List.pairwise_cons.2 ⟨fun z hz => ?_, inc_ins x r h1.2⟩
      rcases (mem_ins z x r).1 hz with rfl | m
      · exact hc
      · exact h1.1 z m
    · rw [if_neg hc]
      by_cases h' : y = x
      · rw [if_pos h']; exact h
      · rw [if_neg h']
        refine List.pairwise_cons.2 ⟨fun z hz => ?_, h⟩
        rcases List.mem_cons.1 hz with rfl | m
        · omega
        · have := h1.1 z m; omega

theorem srt_snoc (l : List Int) (x : Int) : srt (l ++ [x]) = ins x (srt l) := by simp [srt, List.foldl_append]

theorem inc_foldl (l : List Int) : ∀ o, Inc o → Inc (l.foldl (fun out x => ins x out) o) := by
  induction l with
  | nil => intro o h; exact h
  | cons x r ih => intro o h; exact ih _ (inc_ins x o h)
theorem mem_foldl (z : Int) (l : List Int) : ∀ o, z ∈ l.foldl (fun out x => ins x out) o ↔ z ∈ o ∨ z ∈ l := by
  induction l with
  | nil => intro o; simp
  | cons x r ih =>
    intro o
    rw [List.foldl_cons, ih, mem_ins, List.mem_cons]
    constructor
    · rintro ((hh | hh) | hh) <;> simp [hh]
    · rintro (hh | (hh | hh)) <;> simp [hh]
theorem inc_srt (l : List Int) : Inc (srt l) := inc_foldl l [] (by simp [Inc])
theorem mem_srt (z : Int) (l : List Int) : z ∈ srt l ↔ z ∈ l := by unfold srt; rw [mem_foldl]; simp

theorem ins_len (x : Int) : ∀ l, (ins x l).length ≤ l.length + 1
  | [] => by simp [ins]
  | y :: r => by
    unfold ins
    have := ins_len x r
    split
    · simp; omega
    · split <;> simp
theorem srt_len (l : List Int) : (srt l).length ≤ l.length := by
  have : ∀ (l : List Int) o, (l.foldl (fun out x => ins x out) o).length ≤ o.length + l.length := by
    intro l
    induction l with
    | nil => intro o; simp
    | cons x r ih => intro o; have h1 := ih (ins x o); have h2 := ins_len x o; simp only [List.foldl_cons, List.length_cons]; omega
  have h := this l []
  simpa [srt] using h

theorem srt_join {a b : List Int} (ha : Inc a) (hb : Inc b) : srt (a ++ b) = uni a b :=
  inc_ext (inc_srt _) (inc_uni _ _ ha hb) fun x => by rw [mem_srt, mem_uni, List.mem_append]

theorem inc_filter {a : List Int} (p : Int → Bool) (ha : Inc a) : Inc (a.filter p) := ha.filter p

theorem uni_all (a b : List Int) : (uni a b).filter (fun n => a.contains n || b.contains n) = uni a b := by
  rw [List.filter_eq_self]
  intro x hx
  rcases (mem_uni x _ _).1 hx with m | m <;> simp [m]
theorem uni_meet {a b : List Int} (ha : Inc a) (hb : Inc b) : (uni a b).filter (fun n => a.contains n && b.contains n) = a.filter (fun n => b.contains n == true) :=
  inc_ext (inc_filter _ (inc_uni _ _ ha hb)) (inc_filter _ ha) fun x => by
    simp only [List.mem_filter, mem_uni, List.contains_iff_mem, Bool.and_eq_true, beq_iff_eq]
    constructor
    · rintro ⟨-, h1, h2⟩; exact ⟨h1, h2⟩
    · rintro ⟨h1, h2⟩; exact ⟨.inl h1, h1, h2⟩
theorem uni_less {a b : List Int} (ha : Inc a) (hb : Inc b) : (uni a b).filter (fun n => a.contains n && !b.contains n) = a.filter (fun n => b.contains n == false) :=
  inc_ext (inc_filter _ (inc_uni _ _ ha hb)) (inc_filter _ ha) fun x => by
    simp only [List.mem_filter, mem_uni, Bool.and_eq_true, Bool.not_eq_true', beq_iff_eq, List.contains_iff_mem]
    constructor
    · rintro ⟨-, h1, h2⟩; exact ⟨h1, h2⟩
    · rintro ⟨h1, h2⟩; exact ⟨.inl h1, h1, h2⟩

theorem not_mem_lt {x : Int} {b : List Int} (h : ∀ y ∈ b, x < y) : b.contains x = false := by
  rw [← Bool.not_eq_true, List.contains_iff_mem]
  intro m
  have := h x m
  omega

theorem uni_len : ∀ a b, Inc a → Inc b → (uni a b).length = (a.filter (fun n => b.contains n == false)).length + b.length := by
  intro a b
  induction a, b using uni_ind with
  | case1 b => simp [uni_nn]
  | case2 x a =>
    intro _ _
    simp only [uni_cn, List.length_nil, Nat.add_zero]
    rw [List.filter_eq_self.2 (fun z _ => by simp)]
  | case3 x a y b h ih =>
    intro ha hb
    have ha' := List.pairwise_cons.1 ha
    have hb' := List.pairwise_cons.1 hb
    rw [uni_cc, if_pos h, List.length_cons, ih ha'.2 hb, List.filter_cons, if_pos]
    · simp only [List.length_cons]; omega
    · rw [not_mem_lt (fun z hz => by rcases List.mem_cons.1 hz with rfl | m; exact h; have := hb'.1 z m; omega)]; rfl
  | case4 x a y b h h' ih =>
    intro ha hb
    have ha' := List.pairwise_cons.1 ha
    have hb' := List.pairwise_cons.1 hb
    rw [uni_cc, if_neg h, if_pos h', List.length_cons, ih ha hb'.2]
    have e : (x :: a).filter (fun n => (y :: b).contains n == false) = (x :: a).filter (fun n => b.contains n == false) := by
      apply List.filter_congr
      intro z hz
      have hzy : ¬ z = y := by rcases List.mem_cons.1 hz with rfl | m; omega; have := ha'.1 z m; omega
      simp [hzy]
    rw [e]
    simp only [List.length_cons]; omega
  | case5 x a y b h h' ih =>
    intro ha hb
    have e : x = y := by omega
    subst e
    have ha' := List.pairwise_cons.1 ha
    have hb' := List.pairwise_cons.1 hb
    rw [uni_cc, if_neg h, if_neg h', List.length_cons, ih ha'.2 hb'.2, List.filter_cons, if_neg (by simp)]
    have e : a.filter (fun n => (x :: b).contains n == false) = a.filter (fun n => b.contains n == false) := by
      apply List.filter_congr
      intro z hz
      have hzy : ¬ z = x := by have := ha'.1 z hz; omega
      simp [hzy]
    rw [e]
    simp only [List.length_cons]; omega

theorem uni_len_le : ∀ a b, (uni a b).length ≤ a.length + b.length := by
  intro a b
  induction a, b using uni_ind with
  | case1 b => simp [uni_nn]
  | case2 x a => simp [uni_cn]
  | case3 x a y b h ih => rw [uni_cc, if_pos h]; simp only [List.length_cons] at ih ⊢; omega
  | case4 x a y b h h' ih => rw [uni_cc, if_neg h, if_pos h']; simp only [List.length_cons] at ih ⊢; omega
  | case5 x a y b h h' ih => rw [uni_cc, if_neg h, if_neg h']; simp only [List.length_cons] at ih ⊢; omega

end Go.Proofs.Ytdnglodemkeooaa
namespace Go.Proofs.Ytdnglodemkeooaa
open Go.RowKit

/-- The cells from place 'off' of block 'b' on hold the integers 'xs'. -/
def Cells (w : World) (b off : Nat) (xs : List Int) : Prop := ∀ j, j < xs.length → w.cell? ⟨b, off + j, none⟩ = some (.int .i64 (xs.getD j 0))

theorem Cells.at {w : World} {b off k : Nat} {xs : List Int} (hc : Cells w b off xs) (h : k < xs.length) : ∃ x, Hid (x = xs[k]?.getD 0) ∧ w.cell? ⟨b, off + k, none⟩ = some (.int .i64 x) :=
  ⟨_, rfl, by have := hc k h; rw [List.getD_eq_getElem?_getD] at this; exact this⟩

/-- The cells from 'a' on hold the integers 'xs'. -/
def At (w : World) (a : Option Addr) (xs : List Int) : Prop :=
  xs = [] ∨ ∃ b off, a = some ⟨b, off, none⟩ ∧ b < w.heap.size ∧ Cells w b off xs

theorem At.below {w w' : World} {a : Option Addr} {xs : List Int} {B : Nat} (h : At w a xs) (hb : Below B w w') (hB : w.heap.size ≤ B) : At w' a xs := by
  rcases h with h | ⟨b, off, rfl, hlt, hc⟩
  · exact .inl h
  · exact .inr ⟨b, off, rfl, Nat.lt_of_lt_of_le hlt hb.size, fun j hj => by rw [hb.cell (p := ⟨b, off + j, none⟩) (Nat.lt_of_lt_of_le hlt hB)]; exact hc j hj⟩

theorem At.drewN {w : World} {a : Option Addr} {xs : List Int} (h : At w a xs) (m : Nat) : At (w.drewN m) a xs := h

theorem drop_cons {xs : List Int} {k : Nat} (h : k < xs.length) : xs.drop k = xs[k]?.getD 0 :: xs.drop (k + 1) := by
  rw [List.drop_eq_getElem_cons h, List.getElem?_eq_getElem h]; rfl

theorem ret_int {k : IntKind} {a b : Int} (h : a = b) : Ending.returned (.int k a) = .returned (.int k b) := by rw [h]
theorem ret_bool {a b : Bool} (h : a = b) : Ending.returned (.bool a) = .returned (.bool b) := by rw [h]

/-- Has the list the number? (A function of our own, which the walk leaves as it stands.) -/
def hasB (xs : List Int) (n : Int) : Bool := xs.contains n

theorem has_hit {xs : List Int} {k : Nat} {n x : Int} (h : k < xs.length) (e : Hid (hasB xs n = hasB (xs.drop k) n)) (hv : Hid (x = xs[k]?.getD 0)) (hx : (x == n) = true) : true = hasB xs n := by
  have e := e.out; have hv := hv.out; have hx : x = n := by simpa using hx
  subst hx; rw [e, drop_cons h, ← hv]; simp [hasB]
theorem has_miss {xs : List Int} {k : Nat} {n x : Int} (h : k < xs.length) (e : Hid (hasB xs n = hasB (xs.drop k) n)) (hv : Hid (x = xs[k]?.getD 0)) (hx : (x == n) = false) : Hid (hasB xs n = hasB (xs.drop (k + 1)) n) := by
  have e := e.out; have hv := hv.out; have hx : ¬ x = n := by simpa using hx
  have h1 : (n == x) = false := by simp; omega
  show hasB xs n = hasB (xs.drop (k + 1)) n
  rw [e, drop_cons h, ← hv, hasB, List.contains_cons, h1]; simp [hasB]
theorem has_end {xs : List Int} {k : Nat} {n : Int} (h : ¬ k < xs.length) (e : Hid (hasB xs n = hasB (xs.drop k) n)) : false = hasB xs n := by
  rw [e.out, List.drop_eq_nil_of_le (by omega)]; rfl
theorem is_no {xs : List Int} {k : Nat} {last bel n x : Int} (h : k < xs.length) (e : Hid (rowB n xs = goIs last bel (xs.drop k))) (hv : Hid (x = xs[k]?.getD 0)) (hx : x ≤ last ∨ bel ≤ x) : false = rowB n xs := by
  rw [e.out, drop_cons h, ← hv.out, goIs, if_pos hx]
theorem is_yes {xs : List Int} {k : Nat} {last bel n x : Int} (h : k < xs.length) (e : Hid (rowB n xs = goIs last bel (xs.drop k))) (hv : Hid (x = xs[k]?.getD 0)) (hx : ¬ (x ≤ last ∨ bel ≤ x)) : Hid (rowB n xs = goIs x bel (xs.drop (k + 1))) := by
  show rowB n xs = goIs x bel (xs.drop (k + 1))
  rw [e.out, drop_cons h, ← hv.out, goIs, if_neg hx]
theorem is_end {xs : List Int} {k : Nat} {last bel n : Int} (h : ¬ k < xs.length) (e : Hid (rowB n xs = goIs last bel (xs.drop k))) : true = rowB n xs := by
  rw [e.out, List.drop_eq_nil_of_le (by omega)]; rfl

end Go.Proofs.Ytdnglodemkeooaa
namespace Go.Proofs.Ytdnglodemkeooaa
open Go.RowKit
set_option linter.unusedVariables false

/-- Block b is cells of type t, which hold cs. -/
def Blk (W : World) (b : Nat) (t : TypeId) (cs : Array Value) : Prop := W.heap[b]? = some (.cells cs t (0, 0))

theorem Blk.lt {W : World} {b : Nat} {t : TypeId} {cs : Array Value} (h : Blk W b t cs) : b < W.heap.size := (Array.getElem?_eq_some_iff.1 h).1
theorem Blk.cell {W : World} {b : Nat} {t : TypeId} {cs : Array Value} (h : Blk W b t cs) (j : Nat) {v : Value} (hv : cs[j]? = some v) : W.cell? ⟨b, j, none⟩ = some v := by simp [World.cell?, show W.heap[b]? = _ from h, hv]
theorem Blk.frozen {W : World} {b : Nat} {t : TypeId} {cs : Array Value} (h : Blk W b t cs) (j : Nat) : W.frozen? ⟨b, j, none⟩ = false := by simp [World.frozen?, show W.heap[b]? = _ from h]
theorem Blk.new (W : World) (t : TypeId) (cs : Array Value) : Blk (W.alloc (.cells cs t)) W.heap.size t cs := World.alloc_heap_new W _
theorem Blk.alloc {W : World} {b : Nat} {t : TypeId} {cs : Array Value} (h : Blk W b t cs) (o : Obj) : Blk (W.alloc o) b t cs := (Below.heap_alloc W o b h.lt).trans h
theorem Blk.below {W W' : World} {b B : Nat} {t : TypeId} {cs : Array Value} (h : Blk W b t cs) (hb : Below B W W') (hB : b < B) : Blk W' b t cs := (hb.block b hB).trans h
theorem Blk.other {W : World} {b b' j : Nat} {t : TypeId} {cs : Array Value} (h : Blk W b t cs) (hne : b ≠ b') (v : Value) : Blk (W.setCell ⟨b', j, none⟩ v) b t cs := (Below.heap_setCell W ⟨b', j, none⟩ v b hne).trans h
theorem Blk.set {W : World} {b : Nat} {t : TypeId} {cs : Array Value} (h : Blk W b t cs) (j : Nat) (v : Value) : Blk (W.setCell ⟨b, j, none⟩ v) b t (cs.setIfInBounds j v) := by
  obtain ⟨hlt, hk⟩ := Array.getElem?_eq_some_iff.1 h
  show (W.heap.modify b _)[b]? = _
  rw [Array.getElem?_eq_getElem (by rw [Array.size_modify]; exact hlt), Array.getElem_modify_self, hk]
  rfl
theorem Blk.drew {W : World} {b : Nat} {t : TypeId} {cs : Array Value} (h : Blk W b t cs) : Blk W.drew b t cs := h

theorem Hid.of {p : Prop} (h : p) : Hid p := h

end Go.Proofs.Ytdnglodemkeooaa
namespace Go.Proofs.Ytdnglodemkeooaa
open Go.RowKit
set_option linter.unusedVariables false

/-- All blocks of X but b are as they were. -/
structure Kp (b : Nat) (X W : World) : Prop where
  size : X.heap.size ≤ W.heap.size
  same : ∀ k, k < X.heap.size → k ≠ b → W.heap[k]? = X.heap[k]?
theorem Kp.refl (b : Nat) (X : World) : Kp b X X := ⟨Nat.le_refl _, fun _ _ _ => rfl⟩
theorem Kp.alloc {b : Nat} {X W : World} (h : Kp b X W) (o : Obj) : Kp b X (W.alloc o) :=
  ⟨by rw [World.size_alloc]; exact Nat.le_succ_of_le h.size, fun k hk hne => (Below.heap_alloc W o k (Nat.lt_of_lt_of_le hk h.size)).trans (h.same k hk hne)⟩
theorem Kp.set {b : Nat} {X W : World} (h : Kp b X W) (j : Nat) (v : Value) : Kp b X (W.setCell ⟨b, j, none⟩ v) :=
  ⟨by simpa [World.setCell] using h.size, fun k hk hne => (Below.heap_setCell W ⟨b, j, none⟩ v k hne).trans (h.same k hk hne)⟩
theorem Kp.grown {b : Nat} {X W W' : World} {row : Option Nat} (h : Kp b X W) (g : W.grownBy W' row) (hr : ∀ k, row = some k → X.heap.size ≤ k) : Kp b X W' :=
  ⟨Nat.le_trans h.size g.size, fun k hk hne => (g.block k (Nat.lt_of_lt_of_le hk h.size) (fun e => by have := hr k e.symm; omega)).trans (h.same k hk hne)⟩
theorem Kp.blk {b k : Nat} {X W : World} {t : TypeId} {cs : Array Value} (h : Kp b X W) (hB : Blk X k t cs) (hne : k ≠ b) : Blk W k t cs := (h.same k hB.lt hne).trans hB

end Go.Proofs.Ytdnglodemkeooaa
namespace Go.Proofs.Ytdnglodemkeooaa
open Go.RowKit

structure Arr where
  f : Int
  e : Int
  t : Int

structure Mach where
  st : Int
  ev : Int
  starts : List Int
  arrows : List Arr
  ends : List Int

def arr0 : Arr := ⟨0, 0, 0⟩

/-- Does an arrow stand ahead of another one? -/
def aheadB (a b : Arr) : Bool := if a.f = b.f then (if a.e = b.e then decide (a.t < b.t) else decide (a.e < b.e)) else decide (a.f < b.f)

/-- Is an arrow within the machine? -/
abbrev arrIn (st ev : Int) (a : Arr) : Prop := 0 ≤ a.f ∧ a.f < st ∧ 0 ≤ a.t ∧ a.t < st ∧ 0 ≤ a.e ∧ a.e < ev

/-- Is an arrow behind the one ahead, if there is one? -/
def behindB : Option Arr → Arr → Bool
  | none, _ => true
  | some b, a => aheadB b a

/-- Are the arrows within the machine, and each behind the one ahead? -/
def arrsFrom (st ev : Int) : Option Arr → List Arr → Bool
  | _, [] => true
  | p, a :: r => if arrIn st ev a ∧ behindB p a = true then arrsFrom st ev (some a) r else false

abbrev sizeOk (m : Mach) : Prop := 1 ≤ m.st ∧ m.st ≤ 256 ∧ 0 ≤ m.ev ∧ m.ev ≤ 8 ∧ m.arrows.length ≤ 4096

/-- May a machine be? (B1.) -/
def mayB (m : Mach) : Bool := decide (sizeOk m) && (rowB m.st m.starts && (rowB m.st m.ends && arrsFrom m.st m.ev none m.arrows))

/-- The states to which the arrows of an event lead from states, in the arrows' order. -/
def stepTo (ars : List Arr) (ss : List Int) (e : Int) : List Int := (ars.filter fun a => a.e == e && hasB ss a.f).map (·.t)
/-- .. as a row. -/
def stepL (ars : List Arr) (ss : List Int) (e : Int) : List Int := srt (stepTo ars ss e)
theorem dropA {ars : List Arr} {k : Nat} (h : k < ars.length) : ars.drop k = ars[k]?.getD arr0 :: ars.drop (k + 1) := by
  rw [List.drop_eq_getElem_cons h, List.getElem?_eq_getElem h]; rfl

theorem mayB_size {m : Mach} (h : mayB m = true) : sizeOk m := by
  unfold mayB at h; rw [Bool.and_eq_true] at h; exact of_decide_eq_true h.1
theorem mayB_starts {m : Mach} (h : mayB m = true) : rowB m.st m.starts = true := by
  unfold mayB at h; simp only [Bool.and_eq_true] at h; exact h.2.1
theorem mayB_ends {m : Mach} (h : mayB m = true) : rowB m.st m.ends = true := by
  unfold mayB at h; simp only [Bool.and_eq_true] at h; exact h.2.2.1
theorem mayB_arrs {m : Mach} (h : mayB m = true) : arrsFrom m.st m.ev none m.arrows = true := by
  unfold mayB at h; simp only [Bool.and_eq_true] at h; exact h.2.2.2
theorem mayB_no1 {m : Mach} (h : ¬ sizeOk m) : false = mayB m := by unfold mayB; simp [h]
theorem mayB_no2 {m : Mach} (h : rowB m.st m.starts = false) : false = mayB m := by unfold mayB; simp [h]
theorem mayB_no3 {m : Mach} (h : rowB m.st m.ends = false) : false = mayB m := by unfold mayB; simp [h]
theorem mayB_go {m : Mach} (h1 : sizeOk m) (h2 : rowB m.st m.starts = true) (h3 : rowB m.st m.ends = true) : mayB m = arrsFrom m.st m.ev none m.arrows := by unfold mayB; simp [h1, h2, h3]

/-- The arrow ahead of place k. -/
def lastA (ars : List Arr) (k : Nat) : Option Arr := if k = 0 then none else some (ars[k - 1]?.getD arr0)

theorem arrs_no {st ev : Int} {ars : List Arr} {k : Nat} {a : Arr} {b : Bool} (h : k < ars.length) (ha : Hid (a = ars[k]?.getD arr0)) (e : Hid (b = arrsFrom st ev (lastA ars k) (ars.drop k))) (hx : ¬ arrIn st ev a) : false = b := by
  rw [e.out, dropA h, ← ha.out, arrsFrom, if_neg (fun h => hx h.1)]
theorem arrs_no2 {st ev : Int} {ars : List Arr} {k : Nat} {a p : Arr} {b : Bool} (h : k + 1 < ars.length) (ha : Hid (a = ars[k + 1]?.getD arr0)) (hp : Hid (p = ars[k]?.getD arr0)) (e : Hid (b = arrsFrom st ev (lastA ars (k + 1)) (ars.drop (k + 1)))) (hx : aheadB p a = false) : false = b := by
  rw [e.out, dropA h, ← ha.out, arrsFrom, if_neg]
  rintro ⟨-, h2⟩
  rw [show lastA ars (k + 1) = some p by simp [lastA, hp.out]] at h2
  have h3 : aheadB p a = true := h2
  rw [hx] at h3; cases h3
theorem arrs_yes0 {st ev : Int} {ars : List Arr} {a : Arr} {b : Bool} (h : 0 < ars.length) (ha : Hid (a = ars[0]?.getD arr0)) (e : Hid (b = arrsFrom st ev (lastA ars 0) (ars.drop 0))) (hx : arrIn st ev a) : Hid (b = arrsFrom st ev (lastA ars (0 + 1)) (ars.drop (0 + 1))) := by
  show b = _
  rw [e.out, dropA h, ← ha.out, arrsFrom, if_pos ⟨hx, rfl⟩]
  simp only [lastA, ha.out]; rfl
theorem arrs_yes {st ev : Int} {ars : List Arr} {k : Nat} {a p : Arr} {b : Bool} (h : k + 1 < ars.length) (ha : Hid (a = ars[k + 1]?.getD arr0)) (hp : Hid (p = ars[k]?.getD arr0)) (e : Hid (b = arrsFrom st ev (lastA ars (k + 1)) (ars.drop (k + 1)))) (hx : arrIn st ev a) (hy : aheadB p a = true) : Hid (b = arrsFrom st ev (lastA ars (k + 1 + 1)) (ars.drop (k + 1 + 1))) := by
  show b = _
  rw [e.out, dropA h, ← ha.out, arrsFrom, if_pos ⟨hx, by rw [show lastA ars (k + 1) = some p by simp [lastA, hp.out]]; exact hy⟩]
  simp only [lastA, ha.out]; rfl
theorem arrs_end {st ev : Int} {ars : List Arr} {k : Nat} {b : Bool} (h : ¬ k < ars.length) (e : Hid (b = arrsFrom st ev (lastA ars k) (ars.drop k))) : true = b := by
  rw [e.out, List.drop_eq_nil_of_le (by omega)]; rfl

theorem stepTo_len (ars : List Arr) (ss : List Int) (e : Int) : (stepTo ars ss e).length ≤ ars.length := by
  unfold stepTo; rw [List.length_map]; exact List.length_filter_le _ _
theorem stepTo_take {ars : List Arr} {k : Nat} {a : Arr} {ss : List Int} {e : Int} (h : k < ars.length) (ha : Hid (a = ars[k]?.getD arr0)) : stepTo (ars.take (k + 1)) ss e = if (a.e == e && hasB ss a.f) = true then stepTo (ars.take k) ss e ++ [a.t] else stepTo (ars.take k) ss e := by
  have ha := ha.out
  rw [List.getElem?_eq_getElem h, Option.getD_some] at ha
  unfold stepTo
  rw [List.take_add_one, List.getElem?_eq_getElem h, List.filter_append, List.map_append, ← ha]
  by_cases c : (a.e == e && hasB ss a.f) = true
  · rw [if_pos c]; simp only [Option.toList_some, List.filter_cons, c, if_true, List.filter_nil, List.map_cons, List.map_nil]
  · rw [if_neg c]; simp only [Option.toList_some, List.filter_cons, c, Bool.false_eq_true, if_false, List.filter_nil, List.map_nil, List.append_nil]

theorem stepL_len (ars : List Arr) (ss : List Int) (e : Int) : (stepL ars ss e).length ≤ ars.length := Nat.le_trans (srt_len _) (stepTo_len _ _ _)

end Go.Proofs.Ytdnglodemkeooaa
namespace Go.Proofs.Ytdnglodemkeooaa
open Go.RowKit
set_option linter.unusedVariables false

theorem hasB_iff (l : List Int) (x : Int) : hasB l x = true ↔ x ∈ l := by simp [hasB]
theorem inc_nodup {l : List Int} (h : Inc l) : l.Nodup := h.imp (fun h => by omega)

end Go.Proofs.Ytdnglodemkeooaa
