/-
  The walk of hide.Hide.
-/
import Derived.BigQuiet
import Derived.Test.YtgebfkmfhpcdhaaDoorI23
import Derived.Test.YtgebfkmfhpcdhaaDoorI20
import Derived.Test.YtgebfkmfhpcdhaaDoorI10
import Derived.Test.YtgebfkmfhpcdhaaDoorI08
import Derived.Test.YtgebfkmfhpcdhaaDoorI12
import Derived.Test.YtgebfkmfhpcdhaaDoorI14
import Derived.Test.YtgebfkmfhpcdhaaDoorI17
import Derived.Test.YtgebfkmfhpcdhaaDoorI05
import Derived.Test.YtgebfkmfhpcdhaaDoorI19
import Derived.Test.YtgebfkmfhpcdhaaDoorI03
import Derived.Test.YtgebfkmfhpcdhaaDoorERefMay
namespace Go.Proofs.YtgebfkmfhpcdhaaDoor
open Go.RowKit
set_option linter.unusedVariables false

theorem still_bd {m : Mach} (hm : mayB m = true) (seen : List Int) {N : Nat} (hN : m.st = (N : Int)) {p : Nat} (hp : p < N) : ∀ n ∈ allS (stillT seen N m.arrows p), n < N := fun n hn => by
  have := rch_bd (n := (N : Int)) (fun x hx => by have : x = (p : Int) := by simpa using hx
                                                  omega) (fun a ha => by have := may_arrs hm a ((mem_unseen _ _ _).1 ha).1
                                                                         rw [hN] at this; exact ⟨this.2.2.1, this.2.2.2.1⟩) ((has_still hm seen hN hp).1 ((mem_allS _ _).1 hn).2)
  omega
theorem fr_low {α : Type} {B B' : Nat} {a : Option Addr} {xs : List α} (h : xs = [] ∨ ∃ b off, a = some ⟨b, off, none⟩ ∧ B ≤ b) (hB : B' ≤ B) : xs = [] ∨ ∃ b off, a = some ⟨b, off, none⟩ ∧ B' ≤ b := by
  rcases h with h | ⟨b, off, h, h'⟩
  · exact .inl h
  · exact .inr ⟨b, off, h, Nat.le_trans hB h'⟩
/-- What Hide knows of the memory behind lay. -/
structure HIB (w W : World) (m : Mach) (l : ML) (pg N : Nat) (T : Nat → Nat → Nat) (va : Option Addr) (A : List Arr) : Prop where
  bel : Below w.heap.size w W
  kb : Blk W w.heap.size 25 (mcells m l)
  rb : Blk W (w.heap.size + 1) 25 zcells
  tb : TB W pg N T
  ar : AtA W va A
  tab : Tab W
theorem HIB.below {w W W' : World} {m : Mach} {l : ML} {pg N : Nat} {T : Nat → Nat → Nat} {va : Option Addr} {A : List Arr} (h : HIB w W m l pg N T va A) (hb : Below W.heap.size W W') : HIB w W' m l pg N T va A :=
  ⟨h.bel.trans (hb.mono h.bel.size), h.kb.below hb h.kb.lt, h.rb.below hb h.rb.lt, h.tb.below hb h.tb.lt, h.ar.below hb (Nat.le_refl _), h.tab.below hb h.tab.lt⟩
theorem HIB.cells {w W : World} {m : Mach} {l : ML} {pg N : Nat} {T : Nat → Nat → Nat} {va : Option Addr} {A : List Arr} (h : HIB w W m l pg N T va A) : W.cell? ⟨w.heap.size, 0, none⟩ = some (.int .i64 m.st) ∧ W.cell? ⟨w.heap.size, 2, none⟩ = some (.slice l.a1 m.starts.length l.c1) ∧ W.cell? ⟨w.heap.size, 4, none⟩ = some (.slice l.a3 m.ends.length l.c3) :=
  ⟨h.kb.cell 0 rfl, h.kb.cell 2 rfl, h.kb.cell 4 rfl⟩

end Go.Proofs.YtgebfkmfhpcdhaaDoor
