/-
  The walk of jalousieref13.leads.
-/
import Derived.Deep.RegionHeld3
import Derived.Test.YtgebfkmfhpcdhaaDoorH24
import Derived.Test.YtgebfkmfhpcdhaaDoorH13
import Derived.Test.YtgebfkmfhpcdhaaDoorH04
namespace Go.Proofs.YtgebfkmfhpcdhaaDoor
open Go.RowKit
set_option linter.unusedVariables false

theorem At.cells_of13 {w : World} {a : Option Addr} {xs : List Int} (h : At w a xs) {k : Nat} (hk : k < xs.length) : ∃ b off, a = some ⟨b, off, none⟩ ∧ b < w.heap.size ∧ Cells w b off xs := by
  rcases h with rfl | h
  · simp at hk
  · exact h
end Go.Proofs.YtgebfkmfhpcdhaaDoor
