/-
  Plain mathematics of places in a list. No program, no model.
-/
import Derived.Test.YtcjcjaeaoianfaaDoorCMach
namespace Go.Proofs.YtcjcjaeaoianfaaDoor
open Go.RowKit
set_option linter.unusedVariables false

/-- A number's place in a list. -/
def placeN : List Int → Int → Option Nat
  | [], _ => none
  | x :: r, n => if x = n then some 0 else (placeN r n).map (· + 1)
def placeF (k : Nat) (l : List Int) (n : Int) : Int := match placeN l n with
  | some j => ((k + j : Nat) : Int)
  | none => -1
/-- .. or -1. -/
def placeI (l : List Int) (n : Int) : Int := placeF 0 l n

theorem place_hit {xs : List Int} {k : Nat} {n x : Int} (h : k < xs.length) (hx : Hid (x = xs[k]?.getD 0)) (e : Hid (placeI xs n = placeF k (xs.drop k) n)) (hn : x = n) : (k : Int) = placeI xs n := by
  rw [e.out, drop_cons h, ← hx.out, placeF, placeN, if_pos hn]; simp
theorem place_miss {xs : List Int} {k : Nat} {n x : Int} (h : k < xs.length) (hx : Hid (x = xs[k]?.getD 0)) (e : Hid (placeI xs n = placeF k (xs.drop k) n)) (hn : ¬ x = n) : Hid (placeI xs n = placeF (k + 1) (xs.drop (k + 1)) n) := by
  show _ = _
  rw [e.out, drop_cons h, ← hx.out, placeF, placeN, if_neg hn, placeF]
  cases placeN (xs.drop (k + 1)) n with
  | none => rfl
  | some j => simp only [Option.map_some]; omega
theorem place_end {xs : List Int} {k : Nat} {n : Int} (h : ¬ k < xs.length) (e : Hid (placeI xs n = placeF k (xs.drop k) n)) : (-1 : Int) = placeI xs n := by
  rw [e.out, List.drop_eq_nil_of_le (by omega)]; rfl
theorem placeF_lt : ∀ (l : List Int) (n : Int) (j : Nat), placeN l n = some j → j < l.length
  | [], _, _, h => by simp [placeN] at h
  | x :: r, n, j, h => by
    unfold placeN at h
    by_cases hx : x = n
    · rw [if_pos hx] at h; cases h; simp
    · rw [if_neg hx] at h
      cases hp : placeN r n with
      | none => rw [hp] at h; cases h
      | some i => rw [hp] at h; cases h; have := placeF_lt r n i hp; simp only [List.length_cons]; omega
theorem placeI_bd (l : List Int) (n : Int) : -1 ≤ placeI l n ∧ placeI l n < l.length + 1 := by
  unfold placeI placeF
  cases h : placeN l n with
  | none => simp; omega
  | some j => have := placeF_lt l n j h; simp; omega

/-- The places of those numbers that are there. -/
def placesL (l ss : List Int) : List Int := (ss.map (placeI l)).filter fun k => decide (0 ≤ k)
theorem placesL_take {l ss : List Int} {k : Nat} {x : Int} (h : k < ss.length) (hx : Hid (x = ss[k]?.getD 0)) : placesL l (ss.take (k + 1)) = if 0 ≤ placeI l x then placesL l (ss.take k) ++ [placeI l x] else placesL l (ss.take k) := by
  have hx := hx.out
  rw [List.getElem?_eq_getElem h, Option.getD_some] at hx
  unfold placesL
  rw [List.take_add_one, List.getElem?_eq_getElem h, List.map_append, List.filter_append, ← hx]
  by_cases c : 0 ≤ placeI l x
  · rw [if_pos c]; simp [c]
  · rw [if_neg c]; simp [c]
theorem placesL_len (l ss : List Int) : (placesL l ss).length ≤ ss.length := by
  unfold placesL; exact Nat.le_trans (List.length_filter_le _ _) (by simp)

end Go.Proofs.YtcjcjaeaoianfaaDoor
