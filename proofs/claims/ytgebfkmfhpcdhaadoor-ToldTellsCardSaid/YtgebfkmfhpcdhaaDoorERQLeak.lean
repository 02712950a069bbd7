/-
  The walk of jalousieref12.Leak.
-/
import Derived.Test.YtgebfkmfhpcdhaaDoorI30
import Derived.Test.YtgebfkmfhpcdhaaDoorER9Fwd
namespace Go.Proofs.YtgebfkmfhpcdhaaDoor
open Go.RowKit
set_option linter.unusedVariables false

theorem cells_oneQ (W W' : World) (hW : W'.heap = W.heap) (t : TypeId) (x : Value) : ∀ j u, ([x] : List Value)[j]? = some u → (W'.alloc (.cells #[x] t)).cell? ((⟨W.heap.size, 0, none⟩ : Addr).add j) = some u := by
  intro j u hu
  rw [addr0_add, Nat.zero_add, ← hW]
  exact (Blk.new W' t #[x]).cell j (by rw [← Array.getElem?_toList]; exact hu)

end Go.Proofs.YtgebfkmfhpcdhaaDoor
