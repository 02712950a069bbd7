/-
  The walk of machine.May: it answers 'mayB'.
  What is said of a set of states (an array of four words) in a world. The walks of Set.With, Set.Join and Set.Meets.
-/
import Derived.Test.YtgebfkmfhpcdhaaDoorDArrMay
import Derived.Test.YtgebfkmfhpcdhaaDoorH07
import Derived.Laws.EntriesVeiled
import Derived.Laws.Bits64b
import Derived.BigQuiet
import Derived.BigRegion
import Derived.Deep.RegionHeld3
import Derived.Test.YtgebfkmfhpcdhaaDoorH03
import Derived.Test.YtgebfkmfhpcdhaaDoorH04
namespace Go.Proofs.YtgebfkmfhpcdhaaDoor
open Go.RowKit
set_option linter.unusedVariables false

theorem may_split (m : Mach) : mayB m = (decide (1 ≤ m.st) && (decide (m.st ≤ 256) && (decide (0 ≤ m.ev) && (decide (m.ev ≤ 8) && (rowB m.st m.starts && (rowB m.st m.ends && arrsB m)))))) := by
  unfold mayB arrsB sizeOk
  by_cases h1 : 1 ≤ m.st <;> by_cases h2 : m.st ≤ 256 <;> by_cases h3 : 0 ≤ m.ev <;> by_cases h4 : m.ev ≤ 8 <;> by_cases h5 : m.arrows.length ≤ 4096 <;> simp [h1, h2, h3, h4, h5]

theorem may_no1 {m : Mach} (h : decide (1 ≤ m.st) = false) : false = mayB m := by rw [may_split, h]; rfl
theorem may_no2 {m : Mach} (h : decide (m.st ≤ 256) = false) : false = mayB m := by rw [may_split, h]; simp
theorem may_no3 {m : Mach} (h : decide (0 ≤ m.ev) = false) : false = mayB m := by rw [may_split, h]; simp
theorem may_no4 {m : Mach} (h : decide (m.ev ≤ 8) = false) : false = mayB m := by rw [may_split, h]; simp
theorem may_no5 {m : Mach} (h : rowB m.st m.starts = false) : false = mayB m := by rw [may_split, h]; simp
theorem may_no6 {m : Mach} (h : rowB m.st m.ends = false) : false = mayB m := by rw [may_split, h]; simp
theorem may_yes {m : Mach} (h1 : decide (1 ≤ m.st) = true) (h2 : decide (m.st ≤ 256) = true) (h3 : decide (0 ≤ m.ev) = true) (h4 : decide (m.ev ≤ 8) = true) (h5 : rowB m.st m.starts = true) (h6 : rowB m.st m.ends = true) : arrsB m = mayB m := by
  rw [may_split, h1, h2, h3, h4, h5, h6]; simp

set_option maxRecDepth 100000 in
set_option maxHeartbeats 4000000 in
theorem pMay_any (m : Mach) (l : ML) (w : World) (h : MAt w m l) :
    Calls Tryd.prog 15 #[mval m l] w fun e w' => e = .returned (.bool (mayB m)) ∧ Below w.heap.size w w' := by
  have b0 : Below w.heap.size w (w.alloc (.cells (mcells m l) 25)) := (Below.refl _ _).alloc (Nat.le_refl _) _
  have h' := Hid.of (h.below b0 (Nat.le_refl _))
  have l1 : Hid (m.starts.length ≤ maxLen) := Nat.le_trans h.s1 h.s2
  have l3 : Hid (m.ends.length ≤ maxLen) := Nat.le_trans h.e1 h.e2
  have B0 := Hid.of b0
  clear b0
  by_cases e1 : 1 ≤ m.st
  · have d1 : decide (1 ≤ m.st) = true := by simpa using e1
    by_cases e2 : m.st ≤ 256
    · have d2 : decide (m.st ≤ 256) = true := by simpa using e2
      by_cases e3 : 0 ≤ m.ev
      · have d3 : decide (0 ≤ m.ev) = true := by simpa using e3
        by_cases e4 : m.ev ≤ 8
        · have d4 : decide (m.ev ≤ 8) = true := by simpa using e4
          cases e5 : rowB m.st m.starts with
          | true =>
            cases e6 : rowB m.st m.ends with
            | true =>
              go_enter Tryd.func15, Tryd.ntmps15
              go_wp2_with fail
              refine (rowIs_any l.a1 l.c1 m.starts m.st _ h'.out.s l1.out).mono ?_
              rintro e w1 ⟨rfl, rfl⟩
              rw [e5]
              go_wp2_with fail
              refine (rowIs_any l.a3 l.c3 m.ends m.st _ h'.out.e l3.out).mono ?_
              rintro e w1 ⟨rfl, rfl⟩
              rw [e6]
              go_wp2_with fail
              refine (arrowsMay_any m l _ h'.out).mono ?_
              rintro e w1 ⟨rfl, hb1⟩
              go_wp2
              go_ret
              exact ⟨ret_bool (may_yes d1 d2 d3 d4 e5 e6), B0.out.trans (hb1.mono B0.out.size)⟩
            | false =>
              go_enter Tryd.func15, Tryd.ntmps15
              go_wp2_with fail
              refine (rowIs_any l.a1 l.c1 m.starts m.st _ h'.out.s l1.out).mono ?_
              rintro e w1 ⟨rfl, rfl⟩
              rw [e5]
              go_wp2_with fail
              refine (rowIs_any l.a3 l.c3 m.ends m.st _ h'.out.e l3.out).mono ?_
              rintro e w1 ⟨rfl, rfl⟩
              rw [e6]
              go_wp2
              go_ret
              exact ⟨ret_bool (may_no6 e6), B0.out⟩
          | false =>
            go_enter Tryd.func15, Tryd.ntmps15
            go_wp2_with (go_at_call 56; refine (rowIs_any l.a1 l.c1 m.starts m.st _ h'.out.s l1.out).mono ?_; rintro e w1 ⟨rfl, rfl⟩)
            go_ret
            exact ⟨ret_bool (may_no5 e5), B0.out⟩
        · have d4 : decide (m.ev ≤ 8) = false := by simpa using e4
          go_enter Tryd.func15, Tryd.ntmps15
          go_wp2
          go_ret
          exact ⟨ret_bool (may_no4 d4), B0.out⟩
      · have d3 : decide (0 ≤ m.ev) = false := by simpa using e3
        go_enter Tryd.func15, Tryd.ntmps15
        go_wp2
        go_ret
        exact ⟨ret_bool (may_no3 d3), B0.out⟩
    · have d2 : decide (m.st ≤ 256) = false := by simpa using e2
      go_enter Tryd.func15, Tryd.ntmps15
      go_wp2
      go_ret
      exact ⟨ret_bool (may_no2 d2), B0.out⟩
  · have d1 : decide (1 ≤ m.st) = false := by simpa using e1
    go_enter Tryd.func15, Tryd.ntmps15
    go_wp2
    go_ret
    exact ⟨ret_bool (may_no1 d1), B0.out⟩

end Go.Proofs.YtgebfkmfhpcdhaaDoor
namespace Go.Proofs.YtgebfkmfhpcdhaaDoor
open Go.RowKit
set_option linter.unusedVariables false

/-- A set's cells, and its value. -/
abbrev scells (S : Nat → Nat) : Array Value := #[.int .u64 (S 0), .int .u64 (S 1), .int .u64 (S 2), .int .u64 (S 3)]
abbrev sval (S : Nat → Nat) : Value := .agg (scells S)

/-- A set's block. -/
abbrev SB (W : World) (b : Nat) (S : Nat → Nat) : Prop := Blk W b 79 (scells S)

theorem SB.cells {W : World} {b : Nat} {S : Nat → Nat} (h : SB W b S) : W.cell? ⟨b, 0, none⟩ = some (.int .u64 (S 0)) ∧ W.cell? ⟨b, 1, none⟩ = some (.int .u64 (S 1)) ∧ W.cell? ⟨b, 2, none⟩ = some (.int .u64 (S 2)) ∧ W.cell? ⟨b, 3, none⟩ = some (.int .u64 (S 3)) :=
  ⟨h.cell 0 rfl, h.cell 1 rfl, h.cell 2 rfl, h.cell 3 rfl⟩

end Go.Proofs.YtgebfkmfhpcdhaaDoor
