/-
  strings.Join, as it lies in this program: the kit's laying.
  internal/stringslite.Clone, and slices.BinarySearch at lists of integers, as they lie in this program: the kit's layings.
  Plain mathematics of rows (lists of integers): what 'is a row', union, insertion and filters are, on lists. No program, no model: it imports nothing.
  What is said of a slice of integers in a world: 'At w a xs': the slice that begins at 'a' reads as the list 'xs'. Small facts on it.
  Plain mathematics of sets of bits: four words of 64 bits; what is in a set, its numbers in order, and what adding, joining and meeting do to it. No program, no model.
  What is said of one block of memory: its cells.
  Plain mathematics of machines: arrows in order, what may be, words, where a word leads. No program, no model.
-/
import Derived.Test.YtbgiliophmofgaaProg
import Derived.Room.Shelf.Join48
import Derived.Shelf.Strconv.Clone
import Derived.Shelf.Slices.SearchI
import Derived.Shelf.Slices.Empties
import Derived.WalkKit
import Derived.WalkSpells
import Derived.WalkLawsBesides
import Derived.Test.YtbgiliophmofgaaRows
import Derived.Lib.TrailingZeros
import Derived.RangeFuncBox
namespace Go.Proofs.Ytbgiliophmofgaa
open Go.Shelf

def Try.joinS_ren : Go.Shelf.Ren := ⟨fun | 156 => 33 | 165 => 56 | 166 => 57 | 169 => 58 | 240 => 80 | 241 => 81 | 276 => 94 | 277 => 95 | n => n, fun | 31 => 22 | 9 => 9 | 3 => 3 | 4 => 4 | 0 => 0 | 20 => 20 | 72 => 89 | 76 => 93 | 70 => 86 | 37 => 87 | 75 => 92 | 127 => 111 | 164 => 121 | 5 => 5 | 80 => 95 | n => n, fun | n => n⟩
theorem Try.joinS : Go.Proofs.Lays.n156 Try.prog Try.joinS_ren := {
  mixed := by kernel_rfl
  f156 := Try.func33.trans (congrArg some (by kernel_rfl))
  f165 := Try.func56.trans (congrArg some (by kernel_rfl))
  f166 := Try.func57.trans (congrArg some (by kernel_rfl))
  f169 := Try.func58.trans (congrArg some (by kernel_rfl))
  f240 := Try.func80.trans (congrArg some (by kernel_rfl))
  f241 := Try.func81.trans (congrArg some (by kernel_rfl))
  f276 := Try.func94.trans (congrArg some (by kernel_rfl))
  f277 := Try.func95.trans (congrArg some (by kernel_rfl))
  t0 := Try.underlying0
  a0 := Try.isAgg0
  z0 := Try.sizeOf0
  v0 := Try.zeroValue0
  t3 := Try.underlying3
  a3 := Try.isAgg3
  z3 := Try.sizeOf3
  v3 := Try.zeroValue3
  t4 := Try.underlying4
  a4 := Try.isAgg4
  z4 := Try.sizeOf4
  v4 := Try.zeroValue4
  t9 := Try.underlying9
  a9 := Try.isAgg9
  z9 := Try.sizeOf9
  v9 := Try.zeroValue9
  t20 := Try.underlying20
  a20 := Try.isAgg20
  z20 := Try.sizeOf20
  v20 := Try.zeroValue20
  t31 := Try.underlying22
  a31 := Try.isAgg22
  z31 := Try.sizeOf22
  v31 := Try.zeroValue22
  t37 := Try.underlying87
  a37 := Try.isAgg87
  z37 := Try.sizeOf87
  v37 := Try.zeroValue87
  t70 := Try.underlying86
  a70 := Try.isAgg86
  z70 := Try.sizeOf86
  v70 := Try.zeroValue86
  t72 := Try.underlying89
  a72 := Try.isAgg89
  z72 := Try.sizeOf89
  v72 := Try.zeroValue89
  t75 := Try.underlying92
  a75 := Try.isAgg92
  z75 := Try.sizeOf92
  v75 := Try.zeroValue92
  t76 := Try.underlying93
  a76 := Try.isAgg93
  z76 := Try.sizeOf93
  v76 := Try.zeroValue93
  t127 := Try.underlying111
  a127 := Try.isAgg111
  z127 := Try.sizeOf111
  v127 := Try.zeroValue111
  t164 := Try.underlying121
  a164 := Try.isAgg121
  z164 := Try.sizeOf121
  v164 := Try.zeroValue121 }
theorem Try.joinX : Builder.Extra Try.prog Try.joinS_ren := {
  sizeBuilder := by kernel_rfl
  liesBuilder := by kernel_rfl
  t5 := Try.underlying5
  a5 := Try.isAgg5
  z5 := Try.sizeOf5
  v5 := Try.zeroValue5
  infoByte := by kernel_rfl
  cellsByte := by kernel_rfl
  sizeByte := by kernel_rfl
  neB5 := by decide }

end Go.Proofs.Ytbgiliophmofgaa
namespace Go.Proofs.Ytbgiliophmofgaa
open Go.Shelf

def Try.cloneS_ren : Go.Shelf.Ren := ⟨fun | 316 => 84 | n => n, fun | 9 => 9 | 3 => 3 | 4 => 4 | 37 => 87 | 0 => 0 | 127 => 111 | 5 => 5 | n => n, fun | n => n⟩
theorem Try.cloneS : Go.Proofs.LaysM.n316 Try.prog Try.cloneS_ren := {
  mixed := by kernel_rfl
  f316 := Try.func84.trans (congrArg some (by kernel_rfl))
  t0 := Try.underlying0
  a0 := Try.isAgg0
  z0 := Try.sizeOf0
  v0 := Try.zeroValue0
  t3 := Try.underlying3
  a3 := Try.isAgg3
  z3 := Try.sizeOf3
  v3 := Try.zeroValue3
  t4 := Try.underlying4
  a4 := Try.isAgg4
  z4 := Try.sizeOf4
  v4 := Try.zeroValue4
  t9 := Try.underlying9
  a9 := Try.isAgg9
  z9 := Try.sizeOf9
  v9 := Try.zeroValue9
  t37 := Try.underlying87
  a37 := Try.isAgg87
  z37 := Try.sizeOf87
  v37 := Try.zeroValue87
  t127 := Try.underlying111
  a127 := Try.isAgg111
  z127 := Try.sizeOf111
  v127 := Try.zeroValue111
  t5 := Try.underlying5
  a5 := Try.isAgg5
  z5 := Try.sizeOf5
  v5 := Try.zeroValue5
  i0 := by kernel_rfl
  i3 := by kernel_rfl
  i4 := by kernel_rfl
  i5 := by kernel_rfl
  i9 := by kernel_rfl
  i37 := by kernel_rfl
  i127 := by kernel_rfl }
def Try.searchA_ren : Go.Shelf.Ren := ⟨fun | 25 => 73 | 31 => 85 | 32 => 86 | 37 => 96 | n => n, fun | 22 => 23 | 3 => 3 | 4 => 4 | 40 => 112 | 0 => 0 | n => n, fun | n => n⟩
theorem Try.searchA : Go.Proofs.Lays2.n25 Try.prog Try.searchA_ren := {
  mixed := by kernel_rfl
  f25 := Try.func73.trans (congrArg some (by kernel_rfl))
  f31 := Try.func85.trans (congrArg some (by kernel_rfl))
  f32 := Try.func86.trans (congrArg some (by kernel_rfl))
  f37 := Try.func96.trans (congrArg some (by kernel_rfl))
  t0 := Try.underlying0
  a0 := Try.isAgg0
  z0 := Try.sizeOf0
  v0 := Try.zeroValue0
  t3 := Try.underlying3
  a3 := Try.isAgg3
  z3 := Try.sizeOf3
  v3 := Try.zeroValue3
  t4 := Try.underlying4
  a4 := Try.isAgg4
  z4 := Try.sizeOf4
  v4 := Try.zeroValue4
  t22 := Try.underlying23
  a22 := Try.isAgg23
  z22 := Try.sizeOf23
  v22 := Try.zeroValue23
  t40 := Try.underlying112
  a40 := Try.isAgg112
  z40 := Try.sizeOf112
  v40 := Try.zeroValue112 }

end Go.Proofs.Ytbgiliophmofgaa
namespace Go.Proofs.Ytbgiliophmofgaa

/-- Is the list a row above 'last' and below 'below'? -/
def goIs (last below : Int) : List Int → Bool
  | [] => true
  | x :: r => if x ≤ last ∨ below ≤ x then false else goIs x below r

/-- 'A row below n': A1. -/
def rowB (n : Int) (xs : List Int) : Bool := goIs (-1) (min n 2147483648) xs

def ins (x : Int) : List Int → List Int
  | [] => [x]
  | y :: r => if y < x then y :: ins x r else if y = x then y :: r else x :: y :: r

def srt (l : List Int) : List Int := l.foldl (fun out x => ins x out) []

abbrev Inc (l : List Int) : Prop := l.Pairwise (· < ·)

theorem goIs_iff (below : Int) (xs : List Int) : ∀ last, goIs last below xs = true ↔ Inc xs ∧ ∀ x ∈ xs, last < x ∧ x < below := by
  induction xs with
  | nil => intro last; simp [goIs, Inc]
  | cons x r ih =>
    intro last
    unfold goIs
    by_cases h : x ≤ last ∨ below ≤ x
    · rw [if_pos h]
      simp only [Bool.false_eq_true, false_iff]
      rintro ⟨-, h2⟩
      have := h2 x (by simp)
      omega
    · rw [if_neg h, ih x]
      simp only [Inc, List.pairwise_cons, List.mem_cons]
      constructor
      · rintro ⟨h1, h2⟩
        refine ⟨⟨fun y hy => (h2 y hy).1, h1⟩, ?_⟩
        rintro y (rfl | hy)
        · omega
        · have := h2 y hy; omega
      · rintro ⟨⟨h1, h2⟩, h3⟩
        exact ⟨h2, fun y hy => ⟨h1 y hy, (h3 y (.inr hy)).2⟩⟩

theorem inc_ext : ∀ {a b : List Int}, Inc a → Inc b → (∀ x, x ∈ a ↔ x ∈ b) → a = b
  | [], [], _, _, _ => rfl
  | [], y :: b, _, _, h => by have := (h y).2 (by simp); simp at this
  | x :: a, [], _, _, h => by have := (h x).1 (by simp); simp at this
  | x :: a, y :: b, ha, hb, h => by
    simp only [Inc, List.pairwise_cons] at ha hb
    have e : x = y := by
      have h1 := (h x).1 (by simp)
      have h2 := (h y).2 (by simp)
      simp only [List.mem_cons] at h1 h2
      rcases h1 with rfl | h1
      · rfl
      · rcases h2 with rfl | h2
        · rfl
        · have := ha.1 y h2; have := hb.1 x h1; omega
    subst e
    refine congrArg _ (inc_ext ha.2 hb.2 fun z => ?_)
    have hz := h z
    simp only [List.mem_cons] at hz
    constructor
    · intro m
      rcases hz.1 (.inr m) with rfl | m'
      · have := ha.1 z m; omega
      · exact m'
    · intro m
      rcases hz.2 (.inr m) with rfl | m'
      · have := hb.1 z m; omega
      · exact m'

theorem mem_ins (z x : Int) : ∀ l, z ∈ ins x l ↔ z = x ∨ z ∈ l
  | [] => by simp [ins]
  | y :: r => by
    unfold ins
    by_cases h : y < x
    · rw [if_pos h, List.mem_cons, mem_ins z x r, List.mem_cons]; constructor <;> (intro hh; rcases hh with hh | hh | hh <;> simp_all)
    · rw [if_neg h]
      by_cases h' : y = x
      · rw [if_pos h']; subst h'; simp
      · rw [if_neg h']; simp

theorem inc_ins (x : Int) : ∀ l, Inc l → Inc (ins x l)
  | [], _ => by simp [ins]
  | y :: r, h => by
    have h1 := List.pairwise_cons.1 h
    unfold ins
    by_cases hc : y < x
    · rw [if_pos hc]
      refine List.pairwise_cons.2 ⟨fun z hz => ?_, inc_ins x r h1.2⟩
      rcases (mem_ins z x r).1 hz with rfl | m
      · exact hc
      · exact h1.1 z m
    · rw [if_neg hc]
      by_cases h' : y = x
      · rw [if_pos h']; exact h
      · rw [if_neg h']
        refine List.pairwise_cons.2 ⟨fun z hz => ?_, h⟩
        rcases List.mem_cons.1 hz with rfl | m
        · omega
        · have := h1.1 z m; omega

theorem srt_snoc (l : List Int) (x : Int) : srt (l ++ [x]) = ins x (srt l) := by simp [srt, List.foldl_append]

theorem inc_foldl (l : List Int) : ∀ o, Inc o → Inc (l.foldl (fun out x => ins x out) o) := by
  induction l with
  | nil => intro o h; exact h
  | cons x r ih => intro o h; exact ih _ (inc_ins x o h)
theorem mem_foldl (z : Int) (l : List Int) : ∀ o, z ∈ l.foldl (fun out x => ins x out) o ↔ z ∈ o ∨ z ∈ l := by
  induction l with
  | nil => intro o; simp
  | cons x r ih =>
    intro o
    rw [List.foldl_cons, ih, mem_ins, List.mem_cons]
    constructor
    · rintro ((hh | hh) | hh) <;> simp [hh]
    · rintro (hh | (hh | hh)) <;> simp [hh]
theorem inc_srt (l : List Int) : Inc (srt l) := inc_foldl l [] (by simp [Inc])
theorem mem_srt (z : Int) (l : List Int) : z ∈ srt l ↔ z ∈ l := by unfold srt; rw [mem_foldl]; simp

theorem ins_len (x : Int) : ∀ l, (ins x l).length ≤ l.length + 1
  | [] => by simp [ins]
  | y :: r => by
    unfold ins
    have := ins_len x r
    split
    · simp; omega
    · split <;> simp
end Go.Proofs.Ytbgiliophmofgaa
namespace Go.Proofs.Ytbgiliophmofgaa
open Go.RowKit

/-- The cells from place 'off' of block 'b' on hold the integers 'xs'. -/
def Cells (w : World) (b off : Nat) (xs : List Int) : Prop := ∀ j, j < xs.length → w.cell? ⟨b, off + j, none⟩ = some (.int .i64 (xs.getD j 0))

theorem Cells.at {w : World} {b off k : Nat} {xs : List Int} (hc : Cells w b off xs) (h : k < xs.length) : ∃ x, Hid (x = xs[k]?.getD 0) ∧ w.cell? ⟨b, off + k, none⟩ = some (.int .i64 x) :=
  ⟨_, rfl, by have := hc k h; rw [List.getD_eq_getElem?_getD] at this; exact this⟩

/-- The cells from 'a' on hold the integers 'xs'. -/
def At (w : World) (a : Option Addr) (xs : List Int) : Prop :=
  xs = [] ∨ ∃ b off, a = some ⟨b, off, none⟩ ∧ b < w.heap.size ∧ Cells w b off xs

theorem At.below {w w' : World} {a : Option Addr} {xs : List Int} {B : Nat} (h : At w a xs) (hb : Below B w w') (hB : w.heap.size ≤ B) : At w' a xs := by
  rcases h with h | ⟨b, off, rfl, hlt, hc⟩
  · exact .inl h
  · exact .inr ⟨b, off, rfl, Nat.lt_of_lt_of_le hlt hb.size, fun j hj => by rw [hb.cell (p := ⟨b, off + j, none⟩) (Nat.lt_of_lt_of_le hlt hB)]; exact hc j hj⟩

theorem drop_cons {xs : List Int} {k : Nat} (h : k < xs.length) : xs.drop k = xs[k]?.getD 0 :: xs.drop (k + 1) := by
  rw [List.drop_eq_getElem_cons h, List.getElem?_eq_getElem h]; rfl

theorem ret_bool {a b : Bool} (h : a = b) : Ending.returned (.bool a) = .returned (.bool b) := by rw [h]

theorem is_no {xs : List Int} {k : Nat} {last bel n x : Int} (h : k < xs.length) (e : Hid (rowB n xs = goIs last bel (xs.drop k))) (hv : Hid (x = xs[k]?.getD 0)) (hx : x ≤ last ∨ bel ≤ x) : false = rowB n xs := by
  rw [e.out, drop_cons h, ← hv.out, goIs, if_pos hx]
theorem is_yes {xs : List Int} {k : Nat} {last bel n x : Int} (h : k < xs.length) (e : Hid (rowB n xs = goIs last bel (xs.drop k))) (hv : Hid (x = xs[k]?.getD 0)) (hx : ¬ (x ≤ last ∨ bel ≤ x)) : Hid (rowB n xs = goIs x bel (xs.drop (k + 1))) := by
  show rowB n xs = goIs x bel (xs.drop (k + 1))
  rw [e.out, drop_cons h, ← hv.out, goIs, if_neg hx]
theorem is_end {xs : List Int} {k : Nat} {last bel n : Int} (h : ¬ k < xs.length) (e : Hid (rowB n xs = goIs last bel (xs.drop k))) : true = rowB n xs := by
  rw [e.out, List.drop_eq_nil_of_le (by omega)]; rfl

end Go.Proofs.Ytbgiliophmofgaa
namespace Go.Proofs.Ytbgiliophmofgaa

theorem natInc_ext {a b : List Nat} (ha : a.Pairwise (· < ·)) (hb : b.Pairwise (· < ·)) (h : ∀ x, x ∈ a ↔ x ∈ b) : a = b := by
  have := inc_ext (a := a.map fun n : Nat => (n : Int)) (b := b.map fun n : Nat => (n : Int)) (by unfold Inc; rw [List.pairwise_map]; exact ha.imp (fun h => by omega)) (by unfold Inc; rw [List.pairwise_map]; exact hb.imp (fun h => by omega)) (fun x => by simp [h])
  exact (List.map_inj_right (fun x y h => by omega)).1 this

theorem inc_len : ∀ (l : List Nat) (n : Nat), l.Pairwise (· < ·) → (∀ x ∈ l, x < n) → l.length ≤ n := by
  intro l n hp hb
  have hs : l.Sublist (List.range n) := by
    have hn : l.Nodup := hp.imp (fun h => by omega)
    have e : l = (List.range n).filter fun i => l.contains i := by
      apply natInc_ext hp (List.pairwise_lt_range.filter _)
      intro x
      simp only [List.mem_filter, List.mem_range, List.contains_iff_mem]
      exact ⟨fun h => ⟨hb x h, h⟩, fun h => h.2⟩
    rw [e]; exact List.filter_sublist
  simpa using hs.length_le
end Go.Proofs.Ytbgiliophmofgaa
namespace Go.Proofs.Ytbgiliophmofgaa
open Go.RowKit
set_option linter.unusedVariables false

/-- Block b is cells of type t, which hold cs. -/
def Blk (W : World) (b : Nat) (t : TypeId) (cs : Array Value) : Prop := W.heap[b]? = some (.cells cs t (0, 0))

theorem Blk.lt {W : World} {b : Nat} {t : TypeId} {cs : Array Value} (h : Blk W b t cs) : b < W.heap.size := (Array.getElem?_eq_some_iff.1 h).1
theorem Blk.cell {W : World} {b : Nat} {t : TypeId} {cs : Array Value} (h : Blk W b t cs) (j : Nat) {v : Value} (hv : cs[j]? = some v) : W.cell? ⟨b, j, none⟩ = some v := by simp [World.cell?, show W.heap[b]? = _ from h, hv]
theorem Blk.frozen {W : World} {b : Nat} {t : TypeId} {cs : Array Value} (h : Blk W b t cs) (j : Nat) : W.frozen? ⟨b, j, none⟩ = false := by simp [World.frozen?, show W.heap[b]? = _ from h]
theorem Blk.new (W : World) (t : TypeId) (cs : Array Value) : Blk (W.alloc (.cells cs t)) W.heap.size t cs := World.alloc_heap_new W _
theorem Blk.alloc {W : World} {b : Nat} {t : TypeId} {cs : Array Value} (h : Blk W b t cs) (o : Obj) : Blk (W.alloc o) b t cs := (Below.heap_alloc W o b h.lt).trans h
theorem Blk.below {W W' : World} {b B : Nat} {t : TypeId} {cs : Array Value} (h : Blk W b t cs) (hb : Below B W W') (hB : b < B) : Blk W' b t cs := (hb.block b hB).trans h
theorem Blk.other {W : World} {b b' j : Nat} {t : TypeId} {cs : Array Value} (h : Blk W b t cs) (hne : b ≠ b') (v : Value) : Blk (W.setCell ⟨b', j, none⟩ v) b t cs := (Below.heap_setCell W ⟨b', j, none⟩ v b hne).trans h
theorem Blk.set {W : World} {b : Nat} {t : TypeId} {cs : Array Value} (h : Blk W b t cs) (j : Nat) (v : Value) : Blk (W.setCell ⟨b, j, none⟩ v) b t (cs.setIfInBounds j v) := by
  obtain ⟨hlt, hk⟩ := Array.getElem?_eq_some_iff.1 h
  show (W.heap.modify b _)[b]? = _
  rw [Array.getElem?_eq_getElem (by rw [Array.size_modify]; exact hlt), Array.getElem_modify_self, hk]
  rfl
theorem Hid.of {p : Prop} (h : p) : Hid p := h

end Go.Proofs.Ytbgiliophmofgaa
namespace Go.Proofs.Ytbgiliophmofgaa
open Go.RowKit

structure Arr where
  f : Int
  e : Int
  t : Int

structure Mach where
  st : Int
  ev : Int
  starts : List Int
  arrows : List Arr
  ends : List Int

def arr0 : Arr := ⟨0, 0, 0⟩

/-- Does an arrow stand ahead of another one? -/
def aheadB (a b : Arr) : Bool := if a.f = b.f then (if a.e = b.e then decide (a.t < b.t) else decide (a.e < b.e)) else decide (a.f < b.f)

/-- Is an arrow within the machine? -/
abbrev arrIn (st ev : Int) (a : Arr) : Prop := 0 ≤ a.f ∧ a.f < st ∧ 0 ≤ a.t ∧ a.t < st ∧ 0 ≤ a.e ∧ a.e < ev

/-- Is an arrow behind the one ahead, if there is one? -/
def behindB : Option Arr → Arr → Bool
  | none, _ => true
  | some b, a => aheadB b a

/-- Are the arrows within the machine, and each behind the one ahead? -/
def arrsFrom (st ev : Int) : Option Arr → List Arr → Bool
  | _, [] => true
  | p, a :: r => if arrIn st ev a ∧ behindB p a = true then arrsFrom st ev (some a) r else false

abbrev sizeOk (m : Mach) : Prop := 1 ≤ m.st ∧ m.st ≤ 256 ∧ 0 ≤ m.ev ∧ m.ev ≤ 8 ∧ m.arrows.length ≤ 4096

/-- May a machine be? (B1.) -/
def mayB (m : Mach) : Bool := decide (sizeOk m) && (rowB m.st m.starts && (rowB m.st m.ends && arrsFrom m.st m.ev none m.arrows))

theorem dropA {ars : List Arr} {k : Nat} (h : k < ars.length) : ars.drop k = ars[k]?.getD arr0 :: ars.drop (k + 1) := by
  rw [List.drop_eq_getElem_cons h, List.getElem?_eq_getElem h]; rfl

theorem mayB_size {m : Mach} (h : mayB m = true) : sizeOk m := by
  unfold mayB at h; rw [Bool.and_eq_true] at h; exact of_decide_eq_true h.1
theorem mayB_starts {m : Mach} (h : mayB m = true) : rowB m.st m.starts = true := by
  unfold mayB at h; simp only [Bool.and_eq_true] at h; exact h.2.1
theorem mayB_ends {m : Mach} (h : mayB m = true) : rowB m.st m.ends = true := by
  unfold mayB at h; simp only [Bool.and_eq_true] at h; exact h.2.2.1
theorem mayB_arrs {m : Mach} (h : mayB m = true) : arrsFrom m.st m.ev none m.arrows = true := by
  unfold mayB at h; simp only [Bool.and_eq_true] at h; exact h.2.2.2
/-- The arrow ahead of place k. -/
def lastA (ars : List Arr) (k : Nat) : Option Arr := if k = 0 then none else some (ars[k - 1]?.getD arr0)

theorem arrs_no {st ev : Int} {ars : List Arr} {k : Nat} {a : Arr} {b : Bool} (h : k < ars.length) (ha : Hid (a = ars[k]?.getD arr0)) (e : Hid (b = arrsFrom st ev (lastA ars k) (ars.drop k))) (hx : ¬ arrIn st ev a) : false = b := by
  rw [e.out, dropA h, ← ha.out, arrsFrom, if_neg (fun h => hx h.1)]
theorem arrs_no2 {st ev : Int} {ars : List Arr} {k : Nat} {a p : Arr} {b : Bool} (h : k + 1 < ars.length) (ha : Hid (a = ars[k + 1]?.getD arr0)) (hp : Hid (p = ars[k]?.getD arr0)) (e : Hid (b = arrsFrom st ev (lastA ars (k + 1)) (ars.drop (k + 1)))) (hx : aheadB p a = false) : false = b := by
  rw [e.out, dropA h, ← ha.out, arrsFrom, if_neg]
  rintro ⟨-, h2⟩
  rw [show lastA ars (k + 1) = some p by simp [lastA, hp.out]] at h2
  have h3 : aheadB p a = true := h2
  rw [hx] at h3; cases h3
theorem arrs_yes0 {st ev : Int} {ars : List Arr} {a : Arr} {b : Bool} (h : 0 < ars.length) (ha : Hid (a = ars[0]?.getD arr0)) (e : Hid (b = arrsFrom st ev (lastA ars 0) (ars.drop 0))) (hx : arrIn st ev a) : Hid (b = arrsFrom st ev (lastA ars (0 + 1)) (ars.drop (0 + 1))) := by
  show b = _
  rw [e.out, dropA h, ← ha.out, arrsFrom, if_pos ⟨hx, rfl⟩]
  simp only [lastA, ha.out]; rfl
theorem arrs_yes {st ev : Int} {ars : List Arr} {k : Nat} {a p : Arr} {b : Bool} (h : k + 1 < ars.length) (ha : Hid (a = ars[k + 1]?.getD arr0)) (hp : Hid (p = ars[k]?.getD arr0)) (e : Hid (b = arrsFrom st ev (lastA ars (k + 1)) (ars.drop (k + 1)))) (hx : arrIn st ev a) (hy : aheadB p a = true) : Hid (b = arrsFrom st ev (lastA ars (k + 1 + 1)) (ars.drop (k + 1 + 1))) := by
  show b = _
  rw [e.out, dropA h, ← ha.out, arrsFrom, if_pos ⟨hx, by rw [show lastA ars (k + 1) = some p by simp [lastA, hp.out]]; exact hy⟩]
  simp only [lastA, ha.out]; rfl
theorem arrs_end {st ev : Int} {ars : List Arr} {k : Nat} {b : Bool} (h : ¬ k < ars.length) (e : Hid (b = arrsFrom st ev (lastA ars k) (ars.drop k))) : true = b := by
  rw [e.out, List.drop_eq_nil_of_le (by omega)]; rfl

end Go.Proofs.Ytbgiliophmofgaa
