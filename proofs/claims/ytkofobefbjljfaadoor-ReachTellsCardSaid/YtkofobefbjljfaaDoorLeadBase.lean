/-
  A table of sets in memory, and what the closure of machine.leader knows.
-/
import Derived.Test.YtkofobefbjljfaaDoorSetRow
import Derived.Test.YtkofobefbjljfaaDoorMBase
import Derived.Laws.MakeOwn
namespace Go.Proofs.YtkofobefbjljfaaDoor
open Go.RowKit Go.Shelf
set_option linter.unusedVariables false
attribute [local go_sem] Oper.semAt_some

/-- A table of N sets lies in block g. -/
def TB (W : World) (g N : Nat) (T : Nat → Nat → Nat) : Prop := ∃ cs, Blk W g 50 cs ∧ cs.size = N * 4 ∧ ∀ p j, p < N → j < 4 → cs[p * 4 + j]? = some (.int .u64 (T p j))

theorem TB.cells {W : World} {g N : Nat} {T : Nat → Nat → Nat} (h : TB W g N T) {p : Nat} (hp : p < N) : W.cell? ⟨g, p * 4, none⟩ = some (.int .u64 (T p 0)) ∧ W.cell? ⟨g, p * 4 + 1, none⟩ = some (.int .u64 (T p 1)) ∧ W.cell? ⟨g, p * 4 + 2, none⟩ = some (.int .u64 (T p 2)) ∧ W.cell? ⟨g, p * 4 + 3, none⟩ = some (.int .u64 (T p 3)) := by
  obtain ⟨cs, hb, hs, hc⟩ := h
  exact ⟨hb.cell _ (hc p 0 hp (by omega)), hb.cell _ (hc p 1 hp (by omega)), hb.cell _ (hc p 2 hp (by omega)), hb.cell _ (hc p 3 hp (by omega))⟩
theorem TB.below {W W' : World} {g N B : Nat} {T : Nat → Nat → Nat} (h : TB W g N T) (hb : Below B W W') (hB : g < B) : TB W' g N T := by
  obtain ⟨cs, h1, h2, h3⟩ := h
  exact ⟨cs, h1.below hb hB, h2, h3⟩
theorem TB.lt {W : World} {g N : Nat} {T : Nat → Nat → Nat} (h : TB W g N T) : g < W.heap.size := by
  obtain ⟨cs, h1, h2, h3⟩ := h
  exact h1.lt

/-- What the closure knows: the table's variable, the table, the machine. -/
structure LD (W : World) (pt pg pm : Nat) (m : Mach) (l : ML) (N : Nat) (T : Nat → Nat → Nat) : Prop where
  to : Boxed W pt 74 (.slice (some ⟨pg, 0, none⟩) N N)
  tab : TB W pg N T
  m : Blk W pm 25 (mcells m l)
theorem LD.below {W W' : World} {B pt pg pm : Nat} {m : Mach} {l : ML} {N : Nat} {T : Nat → Nat → Nat} (h : LD W pt pg pm m l N T) (hb : Below B W W') (h1 : pt < B) (h2 : pg < B) (h3 : pm < B) : LD W' pt pg pm m l N T :=
  ⟨(hb.block pt h1).trans h.to, h.tab.below hb h2, h.m.below hb h3⟩


theorem TB.frozen {W : World} {g N : Nat} {T : Nat → Nat → Nat} (h : TB W g N T) (j : Nat) : W.frozen? ⟨g, j, none⟩ = false := by
  obtain ⟨cs, h1, h2, h3⟩ := h
  exact h1.frozen j

/-- One set of the table stored anew. -/
theorem TB.store {W : World} {g N p : Nat} {T : Nat → Nat → Nat} (h : TB W g N T) (hp : p < N) (U : Nat → Nat) :
    TB ((((W.setCell ⟨g, p * 4, none⟩ (.int .u64 (U 0))).setCell ⟨g, p * 4 + 1, none⟩ (.int .u64 (U 1))).setCell ⟨g, p * 4 + 2, none⟩ (.int .u64 (U 2))).setCell ⟨g, p * 4 + 3, none⟩ (.int .u64 (U 3))) g N (fun q => if q = p then U else T q) := by
  obtain ⟨cs, h1, h2, h3⟩ := h
  refine ⟨_, (((h1.set (p * 4) _).set (p * 4 + 1) _).set (p * 4 + 2) _).set (p * 4 + 3) _, by simp [h2], fun q j hq hj => ?_⟩
  simp only [Array.getElem?_setIfInBounds, Array.size_setIfInBounds]
  by_cases e : q = p
  · subst e
    have hj' : j = 0 ∨ j = 1 ∨ j = 2 ∨ j = 3 := by omega
    rcases hj' with rfl | rfl | rfl | rfl
    · simp [show q * 4 < cs.size by omega]
    · simp [show q * 4 + 1 < cs.size by omega]
    · simp [show q * 4 + 2 < cs.size by omega]
    · simp [show q * 4 + 3 < cs.size by omega]
  · have a0 : ¬ p * 4 = q * 4 + j := by omega
    have a1 : ¬ p * 4 + 1 = q * 4 + j := by omega
    have a2 : ¬ p * 4 + 2 = q * 4 + j := by omega
    have a3 : ¬ p * 4 + 3 = q * 4 + j := by omega
    rw [if_neg a3, if_neg a2, if_neg a1, if_neg a0, h3 q j hq hj, if_neg e]

theorem TB.made {W : World} {g N : Nat} (h : Blk W g 50 (madeCells #[.int .u64 0, .int .u64 0, .int .u64 0, .int .u64 0] (N * 4))) : TB W g N (fun _ => zeroS) := by
  refine ⟨_, h, size_madeCells _ _, fun p j hp hj => ?_⟩
  have hlt : p * 4 + j < N * 4 := by omega
  unfold madeCells
  rw [Array.getElem?_map, Array.getElem?_range, if_pos hlt]
  have hj' : j = 0 ∨ j = 1 ∨ j = 2 ∨ j = 3 := by omega
  have hm : (p * 4 + j) % 4 = j := by omega
  simp only [Option.map_some, List.size_toArray, List.length_cons, List.length_nil, Nat.reduceAdd, hm]
  rcases hj' with rfl | rfl | rfl | rfl <;> rfl

end Go.Proofs.YtkofobefbjljfaaDoor
