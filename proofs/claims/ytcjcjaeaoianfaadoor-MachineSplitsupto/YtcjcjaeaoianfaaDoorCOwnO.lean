/-
  What a call leaves that hands back a slice of its own.
-/
import Derived.Test.YtcjcjaeaoianfaaDoorCOwn
namespace Go.Proofs.YtcjcjaeaoianfaaDoor
open Go.RowKit
set_option linter.unusedVariables false

/-- What a call leaves that hands back a slice of its own. -/
def GivesO (w : World) (xs : List Int) (e : Ending) (w' : World) : Prop := ∃ v, e = .returned v ∧ Own w' w.heap.size v xs ∧ Below w.heap.size w w'
theorem Own.at2 {w : World} {B : Nat} {v : Value} {xs : List Int} (h : Own w B v xs) : ∃ a cap, v = .slice a xs.length cap ∧ At w a xs ∧ xs.length ≤ cap ∧ cap ≤ maxLen ∧ (a = none → cap = 0) := by
  obtain ⟨a, cap, e, h1, -⟩ := h.at
  rcases h.2 with ⟨rfl, hn⟩ | ⟨g, cap', cur, rfl, hg, hh, hnc, hcm, hcs, ht⟩
  · have : xs = [] := List.eq_nil_of_length_eq_zero hn
    subst this
    exact ⟨none, 0, rfl, .inl rfl, Nat.le_refl _, Nat.zero_le _, fun _ => rfl⟩
  · cases e
    exact ⟨_, _, rfl, h1, hnc, hcm, fun h => by cases h⟩

end Go.Proofs.YtcjcjaeaoianfaaDoor
