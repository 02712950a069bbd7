/-
  Plain mathematics of machines: arrows in order, what may be, words, where a word leads. No program, no model.
-/
import Derived.Test.YtcjcjaeaoianfaaDoorCBase
namespace Go.Proofs.YtcjcjaeaoianfaaDoor
open Go.RowKit

structure Arr where
  f : Int
  e : Int
  t : Int

structure Mach where
  st : Int
  ev : Int
  starts : List Int
  arrows : List Arr
  ends : List Int

def arr0 : Arr := ⟨0, 0, 0⟩

/-- Does an arrow stand ahead of another one? -/
def aheadB (a b : Arr) : Bool := if a.f = b.f then (if a.e = b.e then decide (a.t < b.t) else decide (a.e < b.e)) else decide (a.f < b.f)

/-- Is an arrow within the machine? -/
abbrev arrIn (st ev : Int) (a : Arr) : Prop := 0 ≤ a.f ∧ a.f < st ∧ 0 ≤ a.t ∧ a.t < st ∧ 0 ≤ a.e ∧ a.e < ev

/-- Is an arrow behind the one ahead, if there is one? -/
def behindB : Option Arr → Arr → Bool
  | none, _ => true
  | some b, a => aheadB b a

/-- Are the arrows within the machine, and each behind the one ahead? -/
def arrsFrom (st ev : Int) : Option Arr → List Arr → Bool
  | _, [] => true
  | p, a :: r => if arrIn st ev a ∧ behindB p a = true then arrsFrom st ev (some a) r else false

abbrev sizeOk (m : Mach) : Prop := 1 ≤ m.st ∧ m.st ≤ 256 ∧ 0 ≤ m.ev ∧ m.ev ≤ 8 ∧ m.arrows.length ≤ 4096

/-- May a machine be? (B1.) -/
def mayB (m : Mach) : Bool := decide (sizeOk m) && (rowB m.st m.starts && (rowB m.st m.ends && arrsFrom m.st m.ev none m.arrows))

/-- Is a list a word? (B2.) -/
def wordB (ev : Int) : List Int → Bool
  | [] => true
  | x :: r => if x < 0 ∨ ev ≤ x then false else wordB ev r

/-- The states to which the arrows of an event lead from states, in the arrows' order. -/
def stepTo (ars : List Arr) (ss : List Int) (e : Int) : List Int := (ars.filter fun a => a.e == e && hasB ss a.f).map (·.t)
/-- .. as a row. -/
def stepL (ars : List Arr) (ss : List Int) (e : Int) : List Int := srt (stepTo ars ss e)
/-- Where a word leads. -/
def afterL (ars : List Arr) (ss : List Int) (word : List Int) : List Int := word.foldl (fun l e => stepL ars l e) ss

def acceptsL (m : Mach) (word : List Int) : List Int := (afterL m.arrows m.starts word).filter fun n => hasB m.ends n == true
def acceptsB (m : Mach) (word : List Int) : Bool := decide (0 < (acceptsL m word).length)

theorem dropA {ars : List Arr} {k : Nat} (h : k < ars.length) : ars.drop k = ars[k]?.getD arr0 :: ars.drop (k + 1) := by
  rw [List.drop_eq_getElem_cons h, List.getElem?_eq_getElem h]; rfl

theorem mayB_size {m : Mach} (h : mayB m = true) : sizeOk m := by
  unfold mayB at h; rw [Bool.and_eq_true] at h; exact of_decide_eq_true h.1
theorem mayB_starts {m : Mach} (h : mayB m = true) : rowB m.st m.starts = true := by
  unfold mayB at h; simp only [Bool.and_eq_true] at h; exact h.2.1
theorem mayB_ends {m : Mach} (h : mayB m = true) : rowB m.st m.ends = true := by
  unfold mayB at h; simp only [Bool.and_eq_true] at h; exact h.2.2.1
theorem mayB_arrs {m : Mach} (h : mayB m = true) : arrsFrom m.st m.ev none m.arrows = true := by
  unfold mayB at h; simp only [Bool.and_eq_true] at h; exact h.2.2.2
theorem mayB_no1 {m : Mach} (h : ¬ sizeOk m) : false = mayB m := by unfold mayB; simp [h]
theorem mayB_no2 {m : Mach} (h : rowB m.st m.starts = false) : false = mayB m := by unfold mayB; simp [h]
theorem mayB_no3 {m : Mach} (h : rowB m.st m.ends = false) : false = mayB m := by unfold mayB; simp [h]
theorem mayB_go {m : Mach} (h1 : sizeOk m) (h2 : rowB m.st m.starts = true) (h3 : rowB m.st m.ends = true) : mayB m = arrsFrom m.st m.ev none m.arrows := by unfold mayB; simp [h1, h2, h3]

/-- The arrow ahead of place k. -/
def lastA (ars : List Arr) (k : Nat) : Option Arr := if k = 0 then none else some (ars[k - 1]?.getD arr0)

theorem arrs_no {st ev : Int} {ars : List Arr} {k : Nat} {a : Arr} {b : Bool} (h : k < ars.length) (ha : Hid (a = ars[k]?.getD arr0)) (e : Hid (b = arrsFrom st ev (lastA ars k) (ars.drop k))) (hx : ¬ arrIn st ev a) : false = b := by
  rw [e.out, dropA h, ← ha.out, arrsFrom, if_neg (fun h => hx h.1)]
theorem arrs_no2 {st ev : Int} {ars : List Arr} {k : Nat} {a p : Arr} {b : Bool} (h : k + 1 < ars.length) (ha : Hid (a = ars[k + 1]?.getD arr0)) (hp : Hid (p = ars[k]?.getD arr0)) (e : Hid (b = arrsFrom st ev (lastA ars (k + 1)) (ars.drop (k + 1)))) (hx : aheadB p a = false) : false = b := by
  rw [e.out, dropA h, ← ha.out, arrsFrom, if_neg]
  rintro ⟨-, h2⟩
  rw [show lastA ars (k + 1) = some p by simp [lastA, hp.out]] at h2
  have h3 : aheadB p a = true := h2
  rw [hx] at h3; cases h3
theorem arrs_yes0 {st ev : Int} {ars : List Arr} {a : Arr} {b : Bool} (h : 0 < ars.length) (ha : Hid (a = ars[0]?.getD arr0)) (e : Hid (b = arrsFrom st ev (lastA ars 0) (ars.drop 0))) (hx : arrIn st ev a) : Hid (b = arrsFrom st ev (lastA ars (0 + 1)) (ars.drop (0 + 1))) := by
  show b = _
  rw [e.out, dropA h, ← ha.out, arrsFrom, if_pos ⟨hx, rfl⟩]
  simp only [lastA, ha.out]; rfl
theorem arrs_yes {st ev : Int} {ars : List Arr} {k : Nat} {a p : Arr} {b : Bool} (h : k + 1 < ars.length) (ha : Hid (a = ars[k + 1]?.getD arr0)) (hp : Hid (p = ars[k]?.getD arr0)) (e : Hid (b = arrsFrom st ev (lastA ars (k + 1)) (ars.drop (k + 1)))) (hx : arrIn st ev a) (hy : aheadB p a = true) : Hid (b = arrsFrom st ev (lastA ars (k + 1 + 1)) (ars.drop (k + 1 + 1))) := by
  show b = _
  rw [e.out, dropA h, ← ha.out, arrsFrom, if_pos ⟨hx, by rw [show lastA ars (k + 1) = some p by simp [lastA, hp.out]]; exact hy⟩]
  simp only [lastA, ha.out]; rfl
theorem arrs_end {st ev : Int} {ars : List Arr} {k : Nat} {b : Bool} (h : ¬ k < ars.length) (e : Hid (b = arrsFrom st ev (lastA ars k) (ars.drop k))) : true = b := by
  rw [e.out, List.drop_eq_nil_of_le (by omega)]; rfl

theorem word_no {ev : Int} {xs : List Int} {k : Nat} {x : Int} (h : k < xs.length) (hx : Hid (x = xs[k]?.getD 0)) (e : Hid (wordB ev xs = wordB ev (xs.drop k))) (hc : x < 0 ∨ ev ≤ x) : false = wordB ev xs := by
  rw [e.out, drop_cons h, ← hx.out, wordB, if_pos hc]
theorem word_yes {ev : Int} {xs : List Int} {k : Nat} {x : Int} (h : k < xs.length) (hx : Hid (x = xs[k]?.getD 0)) (e : Hid (wordB ev xs = wordB ev (xs.drop k))) (hc : ¬ (x < 0 ∨ ev ≤ x)) : Hid (wordB ev xs = wordB ev (xs.drop (k + 1))) := by
  show _ = _
  rw [e.out, drop_cons h, ← hx.out, wordB, if_neg hc]
theorem word_end {ev : Int} {xs : List Int} {k : Nat} (h : ¬ k < xs.length) (e : Hid (wordB ev xs = wordB ev (xs.drop k))) : true = wordB ev xs := by
  rw [e.out, List.drop_eq_nil_of_le (by omega)]; rfl

theorem stepTo_len (ars : List Arr) (ss : List Int) (e : Int) : (stepTo ars ss e).length ≤ ars.length := by
  unfold stepTo; rw [List.length_map]; exact List.length_filter_le _ _
theorem stepTo_take {ars : List Arr} {k : Nat} {a : Arr} {ss : List Int} {e : Int} (h : k < ars.length) (ha : Hid (a = ars[k]?.getD arr0)) : stepTo (ars.take (k + 1)) ss e = if (a.e == e && hasB ss a.f) = true then stepTo (ars.take k) ss e ++ [a.t] else stepTo (ars.take k) ss e := by
  have ha := ha.out
  rw [List.getElem?_eq_getElem h, Option.getD_some] at ha
  unfold stepTo
  rw [List.take_add_one, List.getElem?_eq_getElem h, List.filter_append, List.map_append, ← ha]
  by_cases c : (a.e == e && hasB ss a.f) = true
  · rw [if_pos c]; simp only [Option.toList_some, List.filter_cons, c, if_true, List.filter_nil, List.map_cons, List.map_nil]
  · rw [if_neg c]; simp only [Option.toList_some, List.filter_cons, c, Bool.false_eq_true, if_false, List.filter_nil, List.map_nil, List.append_nil]

theorem stepL_len (ars : List Arr) (ss : List Int) (e : Int) : (stepL ars ss e).length ≤ ars.length := Nat.le_trans (srt_len _) (stepTo_len _ _ _)

theorem afterL_take {ars : List Arr} {word ss : List Int} {k : Nat} {x : Int} (h : k < word.length) (hx : Hid (x = word[k]?.getD 0)) : afterL ars ss (word.take (k + 1)) = stepL ars (afterL ars ss (word.take k)) x := by
  have hx := hx.out
  rw [List.getElem?_eq_getElem h, Option.getD_some] at hx
  unfold afterL
  rw [List.take_add_one, List.getElem?_eq_getElem h, List.foldl_append, ← hx]; rfl

theorem afterL_len {ars : List Arr} {ss : List Int} {n : Nat} (h1 : ss.length ≤ n) (h2 : ars.length ≤ n) : ∀ word, (afterL ars ss word).length ≤ n := by
  intro word
  induction word generalizing ss with
  | nil => exact h1
  | cons x r ih => exact ih (Nat.le_trans (stepL_len _ _ _) h2)

end Go.Proofs.YtcjcjaeaoianfaaDoor
