/-
  The walk of current.Leak.
-/
import Derived.Test.YtmlkpdeidpcidaaDoorH30
import Derived.Test.YtmlkpdeidpcidaaDoorDCEss
import Derived.Test.YtmlkpdeidpcidaaDoorH27
namespace Go.Proofs.YtmlkpdeidpcidaaDoor
open Go.RowKit
set_option linter.unusedVariables false

theorem mayP_secret {p : Plant} (hp : mayP p = true) : (∀ x ∈ p.secret, 0 ≤ x ∧ x < 256) ∧ Rep (ofS p.secret) p.secret := by
  obtain ⟨hm, z6, -, hr⟩ := (mayP_iff p).1 hp
  have hz := mayB_size hm
  unfold sizeOk at hz
  have h1 : ∀ x ∈ p.secret, 0 ≤ x ∧ x < 256 := fun x hx => by
    have := ((rowB_iff _ (by omega) _).1 hr).2 x hx
    omega
  have := rep_of h1 p.secret.length
  rw [List.take_of_length_le (Nat.le_refl _)] at this
  exact ⟨h1, this⟩

end Go.Proofs.YtmlkpdeidpcidaaDoor
