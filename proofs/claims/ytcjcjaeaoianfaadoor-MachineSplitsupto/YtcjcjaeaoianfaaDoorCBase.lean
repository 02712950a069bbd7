/-
  What is said of a slice of integers in a world: 'At w a xs': the slice that begins at 'a' reads as the list 'xs'. Small facts on it.
-/
import Derived.Test.YtcjcjaeaoianfaaDoorCPlain
import Derived.Test.YtcjcjaeaoianfaaDoorRows
import Derived.WalkKit
import Derived.WalkSpells
import Derived.WalkLawsBesides
namespace Go.Proofs.YtcjcjaeaoianfaaDoor
open Go.RowKit

/-- The cells from place 'off' of block 'b' on hold the integers 'xs'. -/
def Cells (w : World) (b off : Nat) (xs : List Int) : Prop := ∀ j, j < xs.length → w.cell? ⟨b, off + j, none⟩ = some (.int .i64 (xs.getD j 0))

theorem Cells.at {w : World} {b off k : Nat} {xs : List Int} (hc : Cells w b off xs) (h : k < xs.length) : ∃ x, Hid (x = xs[k]?.getD 0) ∧ w.cell? ⟨b, off + k, none⟩ = some (.int .i64 x) :=
  ⟨_, rfl, by have := hc k h; rw [List.getD_eq_getElem?_getD] at this; exact this⟩

/-- The cells from 'a' on hold the integers 'xs'. -/
def At (w : World) (a : Option Addr) (xs : List Int) : Prop :=
  xs = [] ∨ ∃ b off, a = some ⟨b, off, none⟩ ∧ b < w.heap.size ∧ Cells w b off xs

theorem At.below {w w' : World} {a : Option Addr} {xs : List Int} {B : Nat} (h : At w a xs) (hb : Below B w w') (hB : w.heap.size ≤ B) : At w' a xs := by
  rcases h with h | ⟨b, off, rfl, hlt, hc⟩
  · exact .inl h
  · exact .inr ⟨b, off, rfl, Nat.lt_of_lt_of_le hlt hb.size, fun j hj => by rw [hb.cell (p := ⟨b, off + j, none⟩) (Nat.lt_of_lt_of_le hlt hB)]; exact hc j hj⟩

theorem At.drewN {w : World} {a : Option Addr} {xs : List Int} (h : At w a xs) (m : Nat) : At (w.drewN m) a xs := h

theorem drop_cons {xs : List Int} {k : Nat} (h : k < xs.length) : xs.drop k = xs[k]?.getD 0 :: xs.drop (k + 1) := by
  rw [List.drop_eq_getElem_cons h, List.getElem?_eq_getElem h]; rfl

theorem ret_int {k : IntKind} {a b : Int} (h : a = b) : Ending.returned (.int k a) = .returned (.int k b) := by rw [h]
theorem ret_bool {a b : Bool} (h : a = b) : Ending.returned (.bool a) = .returned (.bool b) := by rw [h]

/-- Has the list the number? (A function of our own, which the walk leaves as it stands.) -/
def hasB (xs : List Int) (n : Int) : Bool := xs.contains n

theorem has_hit {xs : List Int} {k : Nat} {n x : Int} (h : k < xs.length) (e : Hid (hasB xs n = hasB (xs.drop k) n)) (hv : Hid (x = xs[k]?.getD 0)) (hx : (x == n) = true) : true = hasB xs n := by
  have e := e.out; have hv := hv.out; have hx : x = n := by simpa using hx
  subst hx; rw [e, drop_cons h, ← hv]; simp [hasB]
theorem has_miss {xs : List Int} {k : Nat} {n x : Int} (h : k < xs.length) (e : Hid (hasB xs n = hasB (xs.drop k) n)) (hv : Hid (x = xs[k]?.getD 0)) (hx : (x == n) = false) : Hid (hasB xs n = hasB (xs.drop (k + 1)) n) := by
  have e := e.out; have hv := hv.out; have hx : ¬ x = n := by simpa using hx
  have h1 : (n == x) = false := by simp; omega
  show hasB xs n = hasB (xs.drop (k + 1)) n
  rw [e, drop_cons h, ← hv, hasB, List.contains_cons, h1]; simp [hasB]
theorem has_end {xs : List Int} {k : Nat} {n : Int} (h : ¬ k < xs.length) (e : Hid (hasB xs n = hasB (xs.drop k) n)) : false = hasB xs n := by
  rw [e.out, List.drop_eq_nil_of_le (by omega)]; rfl
theorem hasB_nil (n : Int) : hasB [] n = false := rfl

theorem is_no {xs : List Int} {k : Nat} {last bel n x : Int} (h : k < xs.length) (e : Hid (rowB n xs = goIs last bel (xs.drop k))) (hv : Hid (x = xs[k]?.getD 0)) (hx : x ≤ last ∨ bel ≤ x) : false = rowB n xs := by
  rw [e.out, drop_cons h, ← hv.out, goIs, if_pos hx]
theorem is_yes {xs : List Int} {k : Nat} {last bel n x : Int} (h : k < xs.length) (e : Hid (rowB n xs = goIs last bel (xs.drop k))) (hv : Hid (x = xs[k]?.getD 0)) (hx : ¬ (x ≤ last ∨ bel ≤ x)) : Hid (rowB n xs = goIs x bel (xs.drop (k + 1))) := by
  show rowB n xs = goIs x bel (xs.drop (k + 1))
  rw [e.out, drop_cons h, ← hv.out, goIs, if_neg hx]
theorem is_end {xs : List Int} {k : Nat} {last bel n : Int} (h : ¬ k < xs.length) (e : Hid (rowB n xs = goIs last bel (xs.drop k))) : true = rowB n xs := by
  rw [e.out, List.drop_eq_nil_of_le (by omega)]; rfl

end Go.Proofs.YtcjcjaeaoianfaaDoor
