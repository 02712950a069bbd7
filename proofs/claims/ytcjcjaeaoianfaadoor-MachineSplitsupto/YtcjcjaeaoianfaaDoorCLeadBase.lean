/-
  A table of sets in memory, and what the closure of machine.Leader knows.
-/
import Derived.Test.YtcjcjaeaoianfaaDoorCSetRow
import Derived.Test.YtcjcjaeaoianfaaDoorCMBase
import Derived.Laws.MakeOwn
namespace Go.Proofs.YtcjcjaeaoianfaaDoor
open Go.RowKit Go.Shelf
set_option linter.unusedVariables false
attribute [local go_sem] Oper.semAt_some

/-- A table of N sets lies in block g. -/
def TB (W : World) (g N : Nat) (T : Nat → Nat → Nat) : Prop := ∃ cs, Blk W g 55 cs ∧ cs.size = N * 4 ∧ ∀ p j, p < N → j < 4 → cs[p * 4 + j]? = some (.int .u64 (T p j))

theorem TB.cells {W : World} {g N : Nat} {T : Nat → Nat → Nat} (h : TB W g N T) {p : Nat} (hp : p < N) : W.cell? ⟨g, p * 4, none⟩ = some (.int .u64 (T p 0)) ∧ W.cell? ⟨g, p * 4 + 1, none⟩ = some (.int .u64 (T p 1)) ∧ W.cell? ⟨g, p * 4 + 2, none⟩ = some (.int .u64 (T p 2)) ∧ W.cell? ⟨g, p * 4 + 3, none⟩ = some (.int .u64 (T p 3)) := by
  obtain ⟨cs, hb, hs, hc⟩ := h
  exact ⟨hb.cell _ (hc p 0 hp (by omega)), hb.cell _ (hc p 1 hp (by omega)), hb.cell _ (hc p 2 hp (by omega)), hb.cell _ (hc p 3 hp (by omega))⟩
theorem TB.below {W W' : World} {g N B : Nat} {T : Nat → Nat → Nat} (h : TB W g N T) (hb : Below B W W') (hB : g < B) : TB W' g N T := by
  obtain ⟨cs, h1, h2, h3⟩ := h
  exact ⟨cs, h1.below hb hB, h2, h3⟩
theorem TB.lt {W : World} {g N : Nat} {T : Nat → Nat → Nat} (h : TB W g N T) : g < W.heap.size := by
  obtain ⟨cs, h1, h2, h3⟩ := h
  exact h1.lt

/-- The blocks that machine.Leader's closure knows: isEvent's, events', to's, the table, within's own. -/
structure LB where
  pi : Nat
  pe : Nat
  pt : Nat
  pg : Nat
  pb : Nat
def LB.all (L : LB) (P : Nat → Prop) : Prop := P L.pi ∧ P L.pe ∧ P L.pt ∧ P L.pg ∧ P L.pb
theorem LB.all.imp {L : LB} {P Q : Nat → Prop} (h : L.all P) (hi : ∀ n, P n → Q n) : L.all Q := ⟨hi _ h.1, hi _ h.2.1, hi _ h.2.2.1, hi _ h.2.2.2.1, hi _ h.2.2.2.2⟩
theorem LB.all.and {L : LB} {P Q : Nat → Prop} (h : L.all P) (h' : L.all Q) : L.all fun n => P n ∧ Q n := ⟨⟨h.1, h'.1⟩, ⟨h.2.1, h'.2.1⟩, ⟨h.2.2.1, h'.2.2.1⟩, ⟨h.2.2.2.1, h'.2.2.2.1⟩, ⟨h.2.2.2.2, h'.2.2.2.2⟩⟩
/-- The closure. -/
abbrev leadV (L : LB) : Value := .func (.func 93) #[] #[.pointer (some ⟨L.pi, 0, none⟩), .pointer (some ⟨L.pe, 0, none⟩), .pointer (some ⟨L.pt, 0, none⟩)]
abbrev isV (pb : Nat) : Value := .func (.func 94) #[] #[.pointer (some ⟨pb, 0, none⟩)]
/-- What the closure knows. -/
structure LD (W : World) (L : LB) (ev N : Nat) (T : Nat → Nat → Nat) : Prop where
  is : Boxed W L.pi 95 (isV L.pb)
  evb : Boxed W L.pe 3 (.int .i64 ev)
  to : Boxed W L.pt 80 (.slice (some ⟨L.pg, 0, none⟩) N N)
  tab : TB W L.pg N T
  bd : Boxed W L.pb 3 (.int .i64 ev)
theorem LD.below {W W' : World} {B : Nat} {L : LB} {ev N : Nat} {T : Nat → Nat → Nat} (h : LD W L ev N T) (hb : Below B W W') (hB : L.all (· < B)) : LD W' L ev N T :=
  ⟨(hb.block _ hB.1).trans h.is, (hb.block _ hB.2.1).trans h.evb, (hb.block _ hB.2.2.1).trans h.to, h.tab.below hb hB.2.2.2.1, (hb.block _ hB.2.2.2.2).trans h.bd⟩
theorem LD.lt {W : World} {L : LB} {ev N : Nat} {T : Nat → Nat → Nat} (h : LD W L ev N T) : L.all (· < W.heap.size) := ⟨h.is.lt, h.evb.lt, h.to.lt, h.tab.lt, h.bd.lt⟩
theorem LD.kept {W W' : World} {L : LB} {ev N : Nat} {T : Nat → Nat → Nat} (h : LD W L ev N T) (hb : Below W.heap.size W W') : LD W' L ev N T := h.below hb h.lt


theorem TB.frozen {W : World} {g N : Nat} {T : Nat → Nat → Nat} (h : TB W g N T) (j : Nat) : W.frozen? ⟨g, j, none⟩ = false := by
  obtain ⟨cs, h1, h2, h3⟩ := h
  exact h1.frozen j

/-- One set of the table stored anew. -/
theorem TB.store {W : World} {g N p : Nat} {T : Nat → Nat → Nat} (h : TB W g N T) (hp : p < N) (U : Nat → Nat) :
    TB ((((W.setCell ⟨g, p * 4, none⟩ (.int .u64 (U 0))).setCell ⟨g, p * 4 + 1, none⟩ (.int .u64 (U 1))).setCell ⟨g, p * 4 + 2, none⟩ (.int .u64 (U 2))).setCell ⟨g, p * 4 + 3, none⟩ (.int .u64 (U 3))) g N (fun q => if q = p then U else T q) := by
  obtain ⟨cs, h1, h2, h3⟩ := h
  refine ⟨_, (((h1.set (p * 4) _).set (p * 4 + 1) _).set (p * 4 + 2) _).set (p * 4 + 3) _, by simp [h2], fun q j hq hj => ?_⟩
  simp only [Array.getElem?_setIfInBounds, Array.size_setIfInBounds]
  by_cases e : q = p
  · subst e
    have hj' : j = 0 ∨ j = 1 ∨ j = 2 ∨ j = 3 := by omega
    rcases hj' with rfl | rfl | rfl | rfl
    · simp [show q * 4 < cs.size by omega]
    · simp [show q * 4 + 1 < cs.size by omega]
    · simp [show q * 4 + 2 < cs.size by omega]
    · simp [show q * 4 + 3 < cs.size by omega]
  · have a0 : ¬ p * 4 = q * 4 + j := by omega
    have a1 : ¬ p * 4 + 1 = q * 4 + j := by omega
    have a2 : ¬ p * 4 + 2 = q * 4 + j := by omega
    have a3 : ¬ p * 4 + 3 = q * 4 + j := by omega
    rw [if_neg a3, if_neg a2, if_neg a1, if_neg a0, h3 q j hq hj, if_neg e]

theorem TB.made {W : World} {g N : Nat} (h : Blk W g 55 (madeCells #[.int .u64 0, .int .u64 0, .int .u64 0, .int .u64 0] (N * 4))) : TB W g N (fun _ => zeroS) := by
  refine ⟨_, h, size_madeCells _ _, fun p j hp hj => ?_⟩
  have hlt : p * 4 + j < N * 4 := by omega
  unfold madeCells
  rw [Array.getElem?_map, Array.getElem?_range, if_pos hlt]
  have hj' : j = 0 ∨ j = 1 ∨ j = 2 ∨ j = 3 := by omega
  have hm : (p * 4 + j) % 4 = j := by omega
  simp only [Option.map_some, List.size_toArray, List.length_cons, List.length_nil, Nat.reduceAdd, hm]
  rcases hj' with rfl | rfl | rfl | rfl <;> rfl

end Go.Proofs.YtcjcjaeaoianfaaDoor
