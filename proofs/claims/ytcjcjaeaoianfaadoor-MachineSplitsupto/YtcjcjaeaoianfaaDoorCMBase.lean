/-
  What is said of a machine that lies in memory: its value and its three slices.
-/
import Derived.Test.YtcjcjaeaoianfaaDoorCMach
import Derived.Test.YtcjcjaeaoianfaaDoorCRefIs
namespace Go.Proofs.YtcjcjaeaoianfaaDoor
open Go.RowKit
set_option linter.unusedVariables false

/-- The cells from place 'off' of block 'b' on hold the arrows. -/
def CellsA (w : World) (b off : Nat) (ars : List Arr) : Prop := ∀ j, j < ars.length →
  w.cell? ⟨b, off + j * 3, none⟩ = some (.int .i64 (ars[j]?.getD arr0).f) ∧ w.cell? ⟨b, off + j * 3 + 1, none⟩ = some (.int .i64 (ars[j]?.getD arr0).e) ∧ w.cell? ⟨b, off + j * 3 + 2, none⟩ = some (.int .i64 (ars[j]?.getD arr0).t)

theorem CellsA.at {w : World} {b off k : Nat} {ars : List Arr} (hc : CellsA w b off ars) (h : k < ars.length) : ∃ a, Hid (a = ars[k]?.getD arr0) ∧ w.cell? ⟨b, off + k * 3, none⟩ = some (.int .i64 a.f) ∧ w.cell? ⟨b, off + k * 3 + 1, none⟩ = some (.int .i64 a.e) ∧ w.cell? ⟨b, off + k * 3 + 2, none⟩ = some (.int .i64 a.t) :=
  ⟨_, rfl, hc k h⟩

def AtA (w : World) (a : Option Addr) (ars : List Arr) : Prop := ars = [] ∨ ∃ b off, a = some ⟨b, off, none⟩ ∧ b < w.heap.size ∧ CellsA w b off ars

theorem AtA.below {w w' : World} {a : Option Addr} {ars : List Arr} {B : Nat} (h : AtA w a ars) (hb : Below B w w') (hB : w.heap.size ≤ B) : AtA w' a ars := by
  rcases h with h | ⟨b, off, rfl, hlt, hc⟩
  · exact .inl h
  · refine .inr ⟨b, off, rfl, Nat.lt_of_lt_of_le hlt hb.size, fun j hj => ?_⟩
    obtain ⟨h1, h2, h3⟩ := hc j hj
    have hlt' := Nat.lt_of_lt_of_le hlt hB
    exact ⟨(hb.cell (p := ⟨b, off + j * 3, none⟩) hlt').trans h1, (hb.cell (p := ⟨b, off + j * 3 + 1, none⟩) hlt').trans h2, (hb.cell (p := ⟨b, off + j * 3 + 2, none⟩) hlt').trans h3⟩

/-- Where a machine's three slices lie. -/
structure ML where
  a1 : Option Addr
  c1 : Nat
  a2 : Option Addr
  c2 : Nat
  a3 : Option Addr
  c3 : Nat

/-- A machine's five cells. -/
abbrev mcells (m : Mach) (l : ML) : Array Value := #[.int .i64 m.st, .int .i64 m.ev, .slice l.a1 m.starts.length l.c1, .slice l.a2 m.arrows.length l.c2, .slice l.a3 m.ends.length l.c3]
/-- A machine's value. -/
abbrev mval (m : Mach) (l : ML) : Value := .agg (mcells m l)

/-- A machine lies in memory. -/
structure MAt (w : World) (m : Mach) (l : ML) : Prop where
  s : At w l.a1 m.starts
  a : AtA w l.a2 m.arrows
  e : At w l.a3 m.ends
  s1 : m.starts.length ≤ l.c1
  s2 : l.c1 ≤ maxLen
  s3 : l.a1 = none → l.c1 = 0
  a1 : m.arrows.length ≤ l.c2
  a2 : l.c2 ≤ maxLen
  a3 : l.a2 = none → l.c2 = 0
  e1 : m.ends.length ≤ l.c3
  e2 : l.c3 ≤ maxLen
  e3 : l.a3 = none → l.c3 = 0

theorem MAt.below {w w' : World} {m : Mach} {l : ML} {B : Nat} (h : MAt w m l) (hb : Below B w w') (hB : w.heap.size ≤ B) : MAt w' m l :=
  ⟨h.s.below hb hB, h.a.below hb hB, h.e.below hb hB, h.s1, h.s2, h.s3, h.a1, h.a2, h.a3, h.e1, h.e2, h.e3⟩

theorem cell_box {w wr : World} {cs : Array Value} {T : TypeId} (hb : Below (w.heap.size + 1) (w.alloc (.cells cs T)) wr) (j : Nat) (v : Value) (h : cs[j]? = some v) : wr.cell? ⟨w.heap.size, j, none⟩ = some v := by
  rw [hb.cell (p := ⟨w.heap.size, j, none⟩) (by show w.heap.size < w.heap.size + 1; omega), World.cell?_alloc_at _ _ _ _ rfl]
  simp [h]

/-- The five cells of a machine that lies in a block of its own. -/
theorem box_cells {w wr : World} {m : Mach} {l : ML} {T : TypeId} (hb : Below (w.heap.size + 1) (w.alloc (.cells (mcells m l) T)) wr) :
    wr.cell? ⟨w.heap.size, 0, none⟩ = some (.int .i64 m.st) ∧ wr.cell? ⟨w.heap.size, 1, none⟩ = some (.int .i64 m.ev) ∧ wr.cell? ⟨w.heap.size, 2, none⟩ = some (.slice l.a1 m.starts.length l.c1) ∧
    wr.cell? ⟨w.heap.size, 3, none⟩ = some (.slice l.a2 m.arrows.length l.c2) ∧ wr.cell? ⟨w.heap.size, 4, none⟩ = some (.slice l.a3 m.ends.length l.c3) :=
  ⟨cell_box hb 0 _ rfl, cell_box hb 1 _ rfl, cell_box hb 2 _ rfl, cell_box hb 3 _ rfl, cell_box hb 4 _ rfl⟩

theorem below_box {w wr : World} {o : Obj} (hb : Below (w.heap.size + 1) (w.alloc o) wr) : Below w.heap.size w wr :=
  ((Below.refl _ _).alloc (Nat.le_refl _) o).trans (hb.mono (by omega))

end Go.Proofs.YtcjcjaeaoianfaaDoor
