/-
  The walk of jalousieref2.Same: two machines are one.
  Plain: arrows put in order one after the other.
  The walk of jalousieref2.Sort: arrows put in order: it answers 'srtA'.
  The walk of jalousieref1.Sorted: insertion, one number after the other: it answers 'srt xs'.
  jalousieref1.Sorted hands back a slice of its own.
  Plain mathematics of a machine trimmed: the states that are in both, numbered anew; it accepts the same words. No program, no model.
  Plain: the machine of two beside one another accepts a word just when each accepts what of it is its own. No program, no model.
-/
import Derived.BigQuiet
import Derived.Test.YtbgiliophmofgaaH01
import Derived.Test.YtbgiliophmofgaaH03
import Derived.Deep.RegionHeld3
import Derived.Deep.RegionLaw
import Derived.Test.YtbgiliophmofgaaH02
import Derived.Deep.QuietTactic
import Derived.Lib.TrailingZeros
namespace Go.Proofs.Ytbgiliophmofgaa
open Go.RowKit
set_option linter.unusedVariables false

theorem sameA_no {k : Nat} {p q : List Arr} {a b : Arr} {t : Bool} (h : k < p.length) (h' : k < q.length) (ha : Hid (a = p[k]?.getD arr0)) (hb : Hid (b = q[k]?.getD arr0)) (e : Hid (t = sameA (p.drop k) (q.drop k))) (hn : ¬ arrEq a b) : false = t := by
  rw [e.out, dropA h, dropA h', ← ha.out, ← hb.out, sameA, if_neg hn]
theorem sameA_yes {k : Nat} {p q : List Arr} {a b : Arr} {t : Bool} (h : k < p.length) (h' : k < q.length) (ha : Hid (a = p[k]?.getD arr0)) (hb : Hid (b = q[k]?.getD arr0)) (e : Hid (t = sameA (p.drop k) (q.drop k))) (hn : arrEq a b) : Hid (t = sameA (p.drop (k + 1)) (q.drop (k + 1))) := by
  show t = _
  rw [e.out, dropA h, dropA h', ← ha.out, ← hb.out, sameA, if_pos hn]
theorem sameA_end {k : Nat} {p q : List Arr} {t : Bool} (h : ¬ k < p.length) (hl : p.length = q.length) (e : Hid (t = sameA (p.drop k) (q.drop k))) : true = t := by
  rw [e.out, List.drop_eq_nil_of_le (by omega), List.drop_eq_nil_of_le (by omega)]; rfl

/-- Are two machines one? -/
def sameM (m n : Mach) : Bool := decide (m.st = n.st ∧ m.ev = n.ev) && (sameB m.starts n.starts && (sameB m.ends n.ends && (decide (m.arrows.length = n.arrows.length) && sameA m.arrows n.arrows)))

theorem sameM_go {m n : Mach} (h1 : m.st = n.st) (h2 : m.ev = n.ev) (h3 : sameB m.starts n.starts = true) (h4 : sameB m.ends n.ends = true) (h5 : m.arrows.length = n.arrows.length) : sameM m n = sameA m.arrows n.arrows := by
  unfold sameM; simp [h1, h2, h3, h4, h5]
theorem sameM_no1 {m n : Mach} (h : ¬ (m.st = n.st ∧ m.ev = n.ev)) : false = sameM m n := by unfold sameM; simp only [h, decide_false, Bool.false_and]
theorem sameM_no2 {m n : Mach} (h : sameB m.starts n.starts = false) : false = sameM m n := by unfold sameM; simp [h]
theorem sameM_no3 {m n : Mach} (h : sameB m.ends n.ends = false) : false = sameM m n := by unfold sameM; simp [h]
theorem sameM_no4 {m n : Mach} (h : ¬ m.arrows.length = n.arrows.length) : false = sameM m n := by unfold sameM; simp [h]

theorem below_box2 {w wr : World} {o o' : Obj} (hb : Below (w.heap.size + 2) ((w.alloc o).alloc o') wr) : Below w.heap.size w wr :=
  (((Below.refl _ _).alloc (Nat.le_refl _) o).alloc (by simp) o').trans (hb.mono (by omega))

theorem box2_cells {w wr : World} {m n : Mach} {l k : ML} {T : TypeId} (hb : Below (w.heap.size + 2) ((w.alloc (.cells (mcells m l) T)).alloc (.cells (mcells n k) T)) wr) :
    (wr.cell? ⟨w.heap.size, 0, none⟩ = some (.int .i64 m.st) ∧ wr.cell? ⟨w.heap.size, 1, none⟩ = some (.int .i64 m.ev) ∧ wr.cell? ⟨w.heap.size, 2, none⟩ = some (.slice l.a1 m.starts.length l.c1) ∧
    wr.cell? ⟨w.heap.size, 3, none⟩ = some (.slice l.a2 m.arrows.length l.c2) ∧ wr.cell? ⟨w.heap.size, 4, none⟩ = some (.slice l.a3 m.ends.length l.c3)) ∧
    (wr.cell? ⟨w.heap.size + 1, 0, none⟩ = some (.int .i64 n.st) ∧ wr.cell? ⟨w.heap.size + 1, 1, none⟩ = some (.int .i64 n.ev) ∧ wr.cell? ⟨w.heap.size + 1, 2, none⟩ = some (.slice k.a1 n.starts.length k.c1) ∧
    wr.cell? ⟨w.heap.size + 1, 3, none⟩ = some (.slice k.a2 n.arrows.length k.c2) ∧ wr.cell? ⟨w.heap.size + 1, 4, none⟩ = some (.slice k.a3 n.ends.length k.c3)) := by
  constructor
  · exact box_cells (((Below.refl _ _).alloc (by simp) _).trans (hb.mono (by omega)))
  · have := box_cells (w := w.alloc (.cells (mcells m l) T)) (wr := wr) (m := n) (l := k) (T := T) (by rw [World.size_alloc]; exact hb)
    rw [World.size_alloc] at this
    exact this

set_option maxHeartbeats 2000000 in
theorem refMSame_big (m n : Mach) (a1 : Option Addr) (c1 b off c2 : Nat) (a3 : Option Addr) (c3 : Nat) (e1 : Option Addr) (d1 b' off' d2 : Nat) (e3 : Option Addr) (d3 : Nat) (w : World)
    (h : MAt w m ⟨a1, c1, some ⟨b, off, none⟩, c2, a3, c3⟩) (hb : b < w.heap.size) (hca : CellsA w b off m.arrows)
    (h' : MAt w n ⟨e1, d1, some ⟨b', off', none⟩, d2, e3, d3⟩) (hb' : b' < w.heap.size) (hca' : CellsA w b' off' n.arrows)
    (q1 : Hid (m.st = n.st)) (q2 : Hid (m.ev = n.ev)) (q3 : Hid (sameB m.starts n.starts = true)) (q4 : Hid (sameB m.ends n.ends = true)) (q5 : Hid (m.arrows.length = n.arrows.length)) :
    Calls Try.prog 28 #[mval m ⟨a1, c1, some ⟨b, off, none⟩, c2, a3, c3⟩, mval n ⟨e1, d1, some ⟨b', off', none⟩, d2, e3, d3⟩] w fun e w' => e = .returned (.bool (sameM m n)) ∧ Below w.heap.size w w' := by
  have z1 : m.arrows.length ≤ 9223372036854775807 := Nat.le_trans h.a1 h.a2
  have z2 : n.arrows.length ≤ 9223372036854775807 := Nat.le_trans h'.a1 h'.a2
  have l1 : m.starts.length ≤ maxLen := Nat.le_trans h.s1 h.s2
  have l2 : n.starts.length ≤ maxLen := Nat.le_trans h'.s1 h'.s2
  have l3 : m.ends.length ≤ maxLen := Nat.le_trans h.e1 h.e2
  have l4 : n.ends.length ≤ maxLen := Nat.le_trans h'.e1 h'.e2
  have hgo : Hid (sameM m n = sameA (m.arrows.drop 0) (n.arrows.drop 0)) := sameM_go q1.out q2.out q3.out q4.out q5.out
  have f1 : (m.st != n.st) = false := by simp [q1.out]
  have f2 : (m.ev != n.ev) = false := by simp [q2.out]
  have f5 : ((m.arrows.length : Int) != (n.arrows.length : Int)) = false := by simp [q5.out]
  have b0 : Below w.heap.size w ((w.alloc (.cells (mcells m ⟨a1, c1, some ⟨b, off, none⟩, c2, a3, c3⟩) 26)).alloc (.cells (mcells n ⟨e1, d1, some ⟨b', off', none⟩, d2, e3, d3⟩) 26)) := ((Below.refl _ _).alloc (Nat.le_refl _) _).alloc (by simp) _
  have g := h.below b0 (Nat.le_refl _)
  have g' := h'.below b0 (Nat.le_refl _)
  go_enter Try.func28, Try.ntmps28
  go_wp2_with fail
  refine (same_any a1 e1 c1 d1 m.starts n.starts _ g.s g'.s l1 l2).mono ?_
  rintro e w1 ⟨rfl, r1, rfl⟩
  rw [q3.out]
  go_wp2_with fail
  refine (same_any a3 e3 c3 d3 m.ends n.ends _ (At.drewN g.e r1) (At.drewN g'.e r1) l3 l4).mono ?_
  rintro e w1 ⟨rfl, r2, rfl⟩
  rw [q4.out]
  clear g g' h h' b0
  go_wp2_with fail
  go_loopw [5] (fun i wr => ∃ k : Nat, k ≤ m.arrows.length ∧ i = .int .i64 k ∧ Below (w.heap.size + 2) ((w.alloc (.cells (mcells m ⟨a1, c1, some ⟨b, off, none⟩, c2, a3, c3⟩) 26)).alloc (.cells (mcells n ⟨e1, d1, some ⟨b', off', none⟩, d2, e3, d3⟩) 26)) wr ∧ Hid (sameM m n = sameA (m.arrows.drop k) (n.arrows.drop k))) (fun i _ => m.arrows.length - (intOf i).toNat)
  case atStart => exact ⟨0, Nat.zero_le _, rfl, below_drewN (Below.refl _ _) _, hgo⟩
  case round =>
    obtain ⟨k, hk, rfl, hbel, hr⟩ := hrel
    obtain ⟨⟨x0, x1, x2, x3, x4⟩, ⟨t0, t1, t2, t3, t4⟩⟩ := box2_cells hbel
    dsimp only at x3 t3
    have hold := below_box2 hbel
    by_cases hlt : k < m.arrows.length
    · have hlt' : k < n.arrows.length := by have := q5.out; omega
      obtain ⟨a, HA, y0, y1, y2⟩ := hca.at hlt
      have y0' := (hold.cell (p := ⟨b, off + k * 3, none⟩) hb).trans y0
      have y1' := (hold.cell (p := ⟨b, off + k * 3 + 1, none⟩) hb).trans y1
      have y2' := (hold.cell (p := ⟨b, off + k * 3 + 2, none⟩) hb).trans y2
      obtain ⟨c, HC, v0, v1, v2⟩ := hca'.at hlt'
      have v0' := (hold.cell (p := ⟨b', off' + k * 3, none⟩) hb').trans v0
      have v1' := (hold.cell (p := ⟨b', off' + k * 3 + 1, none⟩) hb').trans v1
      have v2' := (hold.cell (p := ⟨b', off' + k * 3 + 2, none⟩) hb').trans v2
      clear y0 y1 y2 v0 v1 v2 x0 x1 x2 x4 t0 t1 t2 t4
      have heq : ∀ w : World, (Op.equalIn 10000 60 (.agg #[.int .i64 a.f, .int .i64 a.e, .int .i64 a.t]) (.agg #[.int .i64 c.f, .int .i64 c.e, .int .i64 c.t])).run Try.prog w = .ok (arrEqB a c) w := run_equalIn_arrow a c
      have hgd := run_guard_arrow
      by_cases hq : arrEq a c
      · have HQ : Hid (arrEq a c) := hq
        have fq : arrEqB a c = true := by simp [arrEqB, hq]
        clear hq
        go_wp2
        go_quiet (fail)
        go_wp2
        go_roundw
        case rel => exact ⟨k + 1, by omega, by go_num, below_drewN hbel _, sameA_yes hlt hlt' HA HC hr HQ.out⟩
        case measure => simp [intOf]; omega
      · have HQ : Hid (¬ arrEq a c) := hq
        have fq : arrEqB a c = false := by simp [arrEqB, hq]
        clear hq
        go_wp2
        go_quiet (fail)
        go_wp2
        go_ret
        exact ⟨ret_bool (sameA_no hlt hlt' HA HC hr HQ.out), below_drewN hold _⟩
    · go_wp2
      go_ret
      exact ⟨ret_bool (sameA_end hlt q5.out hr), hold⟩

set_option maxHeartbeats 1000000 in
theorem refMSame_st (m n : Mach) (l k : ML) (w : World) (h : MAt w m l) (h' : MAt w n k) (q1 : Hid (¬ m.st = n.st)) :
    Calls Try.prog 28 #[mval m l, mval n k] w fun e w' => e = .returned (.bool (sameM m n)) ∧ Below w.heap.size w w' := by
  have b0 : Below w.heap.size w ((w.alloc (.cells (mcells m l) 26)).alloc (.cells (mcells n k) 26)) := ((Below.refl _ _).alloc (Nat.le_refl _) _).alloc (by simp) _
  have f1 : (m.st != n.st) = true := by simp [q1.out]
  go_enter Try.func28, Try.ntmps28
  go_wp2
  go_ret
  exact ⟨ret_bool (sameM_no1 (fun h => q1.out h.1)), b0⟩

set_option maxHeartbeats 1000000 in
theorem refMSame_ev (m n : Mach) (l k : ML) (w : World) (h : MAt w m l) (h' : MAt w n k) (q1 : Hid (m.st = n.st)) (q2 : Hid (¬ m.ev = n.ev)) :
    Calls Try.prog 28 #[mval m l, mval n k] w fun e w' => e = .returned (.bool (sameM m n)) ∧ Below w.heap.size w w' := by
  have b0 : Below w.heap.size w ((w.alloc (.cells (mcells m l) 26)).alloc (.cells (mcells n k) 26)) := ((Below.refl _ _).alloc (Nat.le_refl _) _).alloc (by simp) _
  have f1 : (m.st != n.st) = false := by simp [q1.out]
  have f2 : (m.ev != n.ev) = true := by simp [q2.out]
  go_enter Try.func28, Try.ntmps28
  go_wp2
  go_ret
  exact ⟨ret_bool (sameM_no1 (fun h => q2.out h.2)), b0⟩

set_option maxHeartbeats 1000000 in
theorem refMSame_starts (m n : Mach) (l k : ML) (w : World) (h : MAt w m l) (h' : MAt w n k) (q1 : Hid (m.st = n.st))(q2 : Hid (m.ev = n.ev))(q3 : Hid (sameB m.starts n.starts = false)) :
    Calls Try.prog 28 #[mval m l, mval n k] w fun e w' => e = .returned (.bool (sameM m n)) ∧ Below w.heap.size w w' := by
  have l1 : m.starts.length ≤ maxLen := Nat.le_trans h.s1 h.s2
  have l2 : n.starts.length ≤ maxLen := Nat.le_trans h'.s1 h'.s2
  have l3 : m.ends.length ≤ maxLen := Nat.le_trans h.e1 h.e2
  have l4 : n.ends.length ≤ maxLen := Nat.le_trans h'.e1 h'.e2
  have b0 : Below w.heap.size w ((w.alloc (.cells (mcells m l) 26)).alloc (.cells (mcells n k) 26)) := ((Below.refl _ _).alloc (Nat.le_refl _) _).alloc (by simp) _
  have g := h.below b0 (Nat.le_refl _)
  have g' := h'.below b0 (Nat.le_refl _)
  have f1 : (m.st != n.st) = false := by simp [q1.out]
  have f2 : (m.ev != n.ev) = false := by simp [q2.out]
  go_enter Try.func28, Try.ntmps28
  go_wp2_with fail
  refine (same_any l.a1 k.a1 l.c1 k.c1 m.starts n.starts _ g.s g'.s l1 l2).mono ?_
  rintro e w1 ⟨rfl, r1, rfl⟩
  rw [q3.out]
  go_wp2
  go_ret
  exact ⟨ret_bool (sameM_no2 q3.out), below_drewN b0 _⟩

set_option maxHeartbeats 1000000 in
theorem refMSame_ends (m n : Mach) (l k : ML) (w : World) (h : MAt w m l) (h' : MAt w n k) (q1 : Hid (m.st = n.st))(q2 : Hid (m.ev = n.ev))(q3 : Hid (sameB m.starts n.starts = true))(q4 : Hid (sameB m.ends n.ends = false)) :
    Calls Try.prog 28 #[mval m l, mval n k] w fun e w' => e = .returned (.bool (sameM m n)) ∧ Below w.heap.size w w' := by
  have l1 : m.starts.length ≤ maxLen := Nat.le_trans h.s1 h.s2
  have l2 : n.starts.length ≤ maxLen := Nat.le_trans h'.s1 h'.s2
  have l3 : m.ends.length ≤ maxLen := Nat.le_trans h.e1 h.e2
  have l4 : n.ends.length ≤ maxLen := Nat.le_trans h'.e1 h'.e2
  have b0 : Below w.heap.size w ((w.alloc (.cells (mcells m l) 26)).alloc (.cells (mcells n k) 26)) := ((Below.refl _ _).alloc (Nat.le_refl _) _).alloc (by simp) _
  have g := h.below b0 (Nat.le_refl _)
  have g' := h'.below b0 (Nat.le_refl _)
  have f1 : (m.st != n.st) = false := by simp [q1.out]
  have f2 : (m.ev != n.ev) = false := by simp [q2.out]
  go_enter Try.func28, Try.ntmps28
  go_wp2_with fail
  refine (same_any l.a1 k.a1 l.c1 k.c1 m.starts n.starts _ g.s g'.s l1 l2).mono ?_
  rintro e w1 ⟨rfl, r1, rfl⟩
  rw [q3.out]
  go_wp2_with fail
  refine (same_any l.a3 k.a3 l.c3 k.c3 m.ends n.ends _ (At.drewN g.e r1) (At.drewN g'.e r1) l3 l4).mono ?_
  rintro e w1 ⟨rfl, r2, rfl⟩
  rw [q4.out]
  go_wp2
  go_ret
  exact ⟨ret_bool (sameM_no3 q4.out), below_drewN b0 _⟩

set_option maxHeartbeats 1000000 in
theorem refMSame_len (m n : Mach) (l k : ML) (w : World) (h : MAt w m l) (h' : MAt w n k) (q1 : Hid (m.st = n.st))(q2 : Hid (m.ev = n.ev))(q3 : Hid (sameB m.starts n.starts = true))(q4 : Hid (sameB m.ends n.ends = true))(q5 : Hid (¬ m.arrows.length = n.arrows.length)) :
    Calls Try.prog 28 #[mval m l, mval n k] w fun e w' => e = .returned (.bool (sameM m n)) ∧ Below w.heap.size w w' := by
  have l1 : m.starts.length ≤ maxLen := Nat.le_trans h.s1 h.s2
  have l2 : n.starts.length ≤ maxLen := Nat.le_trans h'.s1 h'.s2
  have l3 : m.ends.length ≤ maxLen := Nat.le_trans h.e1 h.e2
  have l4 : n.ends.length ≤ maxLen := Nat.le_trans h'.e1 h'.e2
  have b0 : Below w.heap.size w ((w.alloc (.cells (mcells m l) 26)).alloc (.cells (mcells n k) 26)) := ((Below.refl _ _).alloc (Nat.le_refl _) _).alloc (by simp) _
  have g := h.below b0 (Nat.le_refl _)
  have g' := h'.below b0 (Nat.le_refl _)
  have f1 : (m.st != n.st) = false := by simp [q1.out]
  have f2 : (m.ev != n.ev) = false := by simp [q2.out]
  have f5 : ((m.arrows.length : Int) != (n.arrows.length : Int)) = true := by have := q5.out; rw [bne_iff_ne]; omega
  go_enter Try.func28, Try.ntmps28
  go_wp2_with fail
  refine (same_any l.a1 k.a1 l.c1 k.c1 m.starts n.starts _ g.s g'.s l1 l2).mono ?_
  rintro e w1 ⟨rfl, r1, rfl⟩
  rw [q3.out]
  go_wp2_with fail
  refine (same_any l.a3 k.a3 l.c3 k.c3 m.ends n.ends _ (At.drewN g.e r1) (At.drewN g'.e r1) l3 l4).mono ?_
  rintro e w1 ⟨rfl, r2, rfl⟩
  rw [q4.out]
  go_wp2
  go_ret
  exact ⟨ret_bool (sameM_no4 q5.out), below_drewN b0 _⟩

set_option maxHeartbeats 1000000 in
theorem refMSame_none (m n : Mach) (l k : ML) (w : World) (h : MAt w m l) (h' : MAt w n k) (q1 : Hid (m.st = n.st))(q2 : Hid (m.ev = n.ev))(q3 : Hid (sameB m.starts n.starts = true))(q4 : Hid (sameB m.ends n.ends = true))(p1 : Hid (m.arrows = [])) (p2 : Hid (n.arrows = [])) :
    Calls Try.prog 28 #[mval m l, mval n k] w fun e w' => e = .returned (.bool (sameM m n)) ∧ Below w.heap.size w w' := by
  have l1 : m.starts.length ≤ maxLen := Nat.le_trans h.s1 h.s2
  have l2 : n.starts.length ≤ maxLen := Nat.le_trans h'.s1 h'.s2
  have l3 : m.ends.length ≤ maxLen := Nat.le_trans h.e1 h.e2
  have l4 : n.ends.length ≤ maxLen := Nat.le_trans h'.e1 h'.e2
  have b0 : Below w.heap.size w ((w.alloc (.cells (mcells m l) 26)).alloc (.cells (mcells n k) 26)) := ((Below.refl _ _).alloc (Nat.le_refl _) _).alloc (by simp) _
  have g := h.below b0 (Nat.le_refl _)
  have g' := h'.below b0 (Nat.le_refl _)
  have f1 : (m.st != n.st) = false := by simp [q1.out]
  have f2 : (m.ev != n.ev) = false := by simp [q2.out]
  have n1 : m.arrows.length = 0 := by rw [p1.out]; rfl
  have n2 : n.arrows.length = 0 := by rw [p2.out]; rfl
  have HG : Hid (true = sameM m n) := by
    show true = sameM m n
    rw [sameM_go q1.out q2.out q3.out q4.out (by rw [n1, n2]), p1.out, p2.out]; rfl
  go_enter Try.func28, Try.ntmps28
  go_wp2_with fail
  refine (same_any l.a1 k.a1 l.c1 k.c1 m.starts n.starts _ g.s g'.s l1 l2).mono ?_
  rintro e w1 ⟨rfl, r1, rfl⟩
  rw [q3.out]
  go_wp2_with fail
  refine (same_any l.a3 k.a3 l.c3 k.c3 m.ends n.ends _ (At.drewN g.e r1) (At.drewN g'.e r1) l3 l4).mono ?_
  rintro e w1 ⟨rfl, r2, rfl⟩
  rw [q4.out]
  go_wp2_with fail
  refine wp_loop_rounds 1 ?_
  rw [rounds_succ]
  go_wp2
  go_ret
  exact ⟨ret_bool HG.out, below_drewN b0 _⟩

theorem refMSame_any (m n : Mach) (l k : ML) (w : World) (h : MAt w m l) (h' : MAt w n k) :
    Calls Try.prog 28 #[mval m l, mval n k] w fun e w' => e = .returned (.bool (sameM m n)) ∧ Below w.heap.size w w' := by
  by_cases q1 : m.st = n.st
  · by_cases q2 : m.ev = n.ev
    · by_cases q3 : sameB m.starts n.starts = true
      · by_cases q4 : sameB m.ends n.ends = true
        · by_cases q5 : m.arrows.length = n.arrows.length
          · obtain ⟨a1, c1, a2, c2, a3, c3⟩ := l
            obtain ⟨e1, d1, e2, d2, e3, d3⟩ := k
            rcases h.a with h0 | ⟨b, off, h0, hb, hc⟩
            · exact refMSame_none m n _ _ w h h' q1 q2 q3 q4 h0 (List.eq_nil_of_length_eq_zero (by rw [← q5, h0]; rfl))
            · rcases h'.a with h0' | ⟨b', off', h0', hb', hc'⟩
              · exact refMSame_none m n _ _ w h h' q1 q2 q3 q4 (List.eq_nil_of_length_eq_zero (by rw [q5, h0']; rfl)) h0'
              · have h0 : a2 = some ⟨b, off, none⟩ := h0
                subst h0
                have h0' : e2 = some ⟨b', off', none⟩ := h0'
                subst h0'
                exact refMSame_big m n a1 c1 b off c2 a3 c3 e1 d1 b' off' d2 e3 d3 w h hb hc h' hb' hc' q1 q2 q3 q4 q5
          · exact refMSame_len m n l k w h h' q1 q2 q3 q4 q5
        · exact refMSame_ends m n l k w h h' q1 q2 q3 (by show _ = _; rw [← Bool.not_eq_true]; exact q4)
      · exact refMSame_starts m n l k w h h' q1 q2 (by show _ = _; rw [← Bool.not_eq_true]; exact q3)
    · exact refMSame_ev m n l k w h h' q1 q2
  · exact refMSame_st m n l k w h h' q1

end Go.Proofs.Ytbgiliophmofgaa
namespace Go.Proofs.Ytbgiliophmofgaa
open Go.RowKit

def insA (x : Arr) : List Arr → List Arr
  | [] => [x]
  | y :: r => if aheadB y x = true then y :: insA x r else if arrEq y x then y :: r else x :: y :: r
def srtA (l : List Arr) : List Arr := l.foldl (fun out x => insA x out) []

theorem getA_succ (y : Arr) (r : List Arr) (j : Nat) : (y :: r)[j + 1]?.getD arr0 = r[j]?.getD arr0 := by simp

theorem insA_put {x : Arr} : ∀ {L : List Arr} {p : Nat}, p ≤ L.length → (∀ j, j < p → aheadB (L[j]?.getD arr0) x = true) → (p = L.length ∨ (aheadB (L[p]?.getD arr0) x = false ∧ ¬ arrEq (L[p]?.getD arr0) x)) → insA x L = L.take p ++ x :: L.drop p
  | [], p, hp, _, _ => by
    have : p = 0 := by simpa using hp
    subst this; simp [insA]
  | y :: r, 0, _, _, h => by
    rcases h with h | ⟨h, h'⟩
    · simp at h
    · have h : aheadB y x = false := by simpa using h
      have h' : ¬ arrEq y x := by simpa using h'
      simp only [insA, List.take_zero, List.drop_zero, List.nil_append]
      rw [if_neg (by rw [h]; simp), if_neg h']
  | y :: r, p + 1, hp, hl, h => by
    have h0 : aheadB y x = true := by simpa using hl 0 (by omega)
    have := insA_put (x := x) (L := r) (p := p) (by simpa using hp) (fun j hj => by have := hl (j + 1) (by omega); rwa [getA_succ] at this) (by
      rcases h with h | h
      · left; simpa using h
      · right; rwa [getA_succ] at h)
    simp only [insA]
    rw [if_pos h0, this]
    simp
theorem insA_same {x : Arr} : ∀ {L : List Arr} {p : Nat}, p < L.length → (∀ j, j < p → aheadB (L[j]?.getD arr0) x = true) → aheadB (L[p]?.getD arr0) x = false → arrEq (L[p]?.getD arr0) x → insA x L = L
  | [], p, hp, _, _, _ => by simp at hp
  | y :: r, 0, _, _, h, h' => by
    have h : aheadB y x = false := by simpa using h
    have h' : arrEq y x := by simpa using h'
    simp only [insA]
    rw [if_neg (by rw [h]; simp), if_pos h']
  | y :: r, p + 1, hp, hl, h, h' => by
    have h0 : aheadB y x = true := by simpa using hl 0 (by omega)
    have := insA_same (x := x) (L := r) (p := p) (by simpa using hp) (fun j hj => by have := hl (j + 1) (by omega); rwa [getA_succ] at this) (by rwa [getA_succ] at h) (by rwa [getA_succ] at h')
    simp only [insA]
    rw [if_pos h0, this]
theorem insA_len (x : Arr) : ∀ L, (insA x L).length ≤ L.length + 1
  | [] => by simp [insA]
  | y :: r => by
    unfold insA
    have := insA_len x r
    split
    · simp; omega
    · split <;> simp
theorem srtA_len (l : List Arr) : (srtA l).length ≤ l.length := by
  have : ∀ (l : List Arr) o, (l.foldl (fun out x => insA x out) o).length ≤ o.length + l.length := by
    intro l
    induction l with
    | nil => intro o; simp
    | cons x r ih => intro o; have h1 := ih (insA x o); have h2 := insA_len x o; simp only [List.foldl_cons, List.length_cons]; omega
  have h := this l []
  simpa [srtA] using h
theorem srtA_take {ars : List Arr} {k : Nat} {x : Arr} (h : k < ars.length) (hx : Hid (x = ars[k]?.getD arr0)) : srtA (ars.take (k + 1)) = insA x (srtA (ars.take k)) := by
  have hx := hx.out
  rw [List.getElem?_eq_getElem h, Option.getD_some] at hx
  rw [List.take_add_one, List.getElem?_eq_getElem h, Option.toList_some, hx]
  unfold srtA
  rw [List.foldl_append]; rfl

end Go.Proofs.Ytbgiliophmofgaa
namespace Go.Proofs.Ytbgiliophmofgaa
open Go.RowKit
set_option linter.unusedVariables false

/-- Three cells hold an arrow. -/
structure CA (w : World) (b off : Nat) (a : Arr) : Prop where
  f : w.cell? ⟨b, off, none⟩ = some (.int .i64 a.f)
  e : w.cell? ⟨b, off + 1, none⟩ = some (.int .i64 a.e)
  t : w.cell? ⟨b, off + 2, none⟩ = some (.int .i64 a.t)

theorem CA.below {w w' : World} {b off B : Nat} {a : Arr} (h : CA w b off a) (hb : Below B w w') (hB : b < B) : CA w' b off a :=
  ⟨(hb.cell (p := ⟨b, off, none⟩) hB).trans h.f, (hb.cell (p := ⟨b, off + 1, none⟩) hB).trans h.e, (hb.cell (p := ⟨b, off + 2, none⟩) hB).trans h.t⟩

theorem CA.after {wr w1 : World} {b off : Nat} {a : Arr} (h : CA wr b off a) (hb : Below wr.drew.heap.size wr.drew w1) (hlt : b < wr.heap.size) : CA w1 b off a :=
  CA.below (w := wr.drew) (B := wr.drew.heap.size) ⟨h.f, h.e, h.t⟩ hb hlt

theorem CA.grown {w w' : World} {b off : Nat} {a : Arr} {row : Option Nat} (h : CA w b off a) (hg : w.grownBy w' row) (hne : some b ≠ row) : CA w' b off a :=
  ⟨hg.cell h.f hne, hg.cell h.e hne, hg.cell h.t hne⟩

theorem CellsA.ca {w : World} {b off k : Nat} {ars : List Arr} (hc : CellsA w b off ars) (h : k < ars.length) : ∃ a, Hid (a = ars[k]?.getD arr0) ∧ CA w b (off + k * 3) a :=
  ⟨_, rfl, (hc k h).1, (hc k h).2.1, (hc k h).2.2⟩

theorem cellsA_drop {w : World} {b : Nat} {L : List Arr} (h : CellsA w b 0 L) (p : Nat) : CellsA w b (p * 3) (L.drop p) := fun j hj => by
  rw [List.length_drop] at hj
  have := h (p + j) (by omega)
  rw [List.getElem?_drop]
  rw [show 0 + (p + j) * 3 = p * 3 + j * 3 by omega] at this
  exact this

theorem own_take {w : World} {B g cap p : Nat} {L : List Arr} (h : OwnA w B (.slice (some ⟨g, 0, none⟩) L.length cap) L) (hp : p ≤ L.length) : w.ownsRow B 60 3 (.slice (some ⟨g, 0, none⟩) p cap) p (aflat (L.take p)) := by
  have := h.take hp
  unfold OwnA at this
  rwa [show (L.take p).length = p by rw [List.length_take]; omega] at this
theorem ownsRow_lay {w : World} {B n : Nat} {T : TypeId} {v : Value} {xs : List Value} (h : w.ownsRow B T 3 v n xs) (o : Obj) : (w.alloc o).drew.ownsRow B T 3 v n xs := World.ownsRow.alloc h o
theorem cells_lay (w : World) (a b c : Value) (T : TypeId) : ∀ j u, [a, b, c][j]? = some u → (w.alloc (.cells #[a, b, c] T)).drew.cell? ((⟨w.heap.size, 0, none⟩ : Addr).add j) = some u := cell_three_new w a b c T

theorem CA.laid {w w' : World} {b off g n c : Nat} {a : Arr} {o : Obj} (h : CA w b off a) (hb : b < w.heap.size) (hg : (w.alloc o).drew.grownBy w' (Value.slice (some ⟨g, 0, none⟩) n c).ownBlock) (hne : ¬ b = g) : CA w' b off a :=
  CA.grown (w := (w.alloc o).drew) ⟨(World.cell?_alloc_past _ _ _ hb).trans h.f, (World.cell?_alloc_past _ _ _ hb).trans h.e, (World.cell?_alloc_past _ _ _ hb).trans h.t⟩ hg (by simpa [Value.ownBlock] using hne)
theorem CA.laid2 {w w' : World} {b off B n : Nat} {T : TypeId} {v : Value} {xs : List Value} {a : Arr} (h : CA w b off a) (ho : w.ownsRow B T 3 v n xs) (hg : w.grownBy w' v.ownBlock) (hb : b < B) : CA w' b off a :=
  h.grown hg (fun e => by have := (ho.lt b e.symm).1; omega)
theorem news_laid {w w' : World} {b g n c : Nat} {M : List Arr} {o : Obj} (h : CellsA w b 0 M) (hb : b < w.heap.size) (hg : (w.alloc o).drew.grownBy w' (Value.slice (some ⟨g, 0, none⟩) n c).ownBlock) (hne : ¬ b = g) : ∀ j u, (aflat M)[j]? = some u → w'.cell? ((⟨b, 0, none⟩ : Addr).add j) = some u := by
  intro j u hu
  have h1 := cells_news h j u hu
  rw [addr0_add] at h1 ⊢
  exact hg.cell (a := ⟨b, 0 + j, none⟩) ((World.cell?_alloc_past _ _ _ hb).trans h1) (by simpa [Value.ownBlock] using hne)

theorem below_laid {B : Nat} {w w9 w10 : World} {g n c : Nat} {o : Obj} (h : Below B w w9) (hB : B ≤ w9.heap.size) (hg : (w9.alloc o).drew.grownBy w10 (Value.slice (some ⟨g, 0, none⟩) n c).ownBlock) (hgB : B ≤ g) : Below B w w10 :=
  (h.alloc hB o).drew.grown hg (by show B ≤ (w9.alloc o).heap.size; simp; omega) (fun k hk => by simp [Value.ownBlock] at hk; omega)
theorem own_ins {w : World} {B p : Nat} {v : Value} {L : List Arr} {x : Arr} (hp : p ≤ L.length) (h : w.ownsRow B 60 3 v (p + 1 + (L.length - p)) (aflat (L.take p) ++ [.int .i64 x.f, .int .i64 x.e, .int .i64 x.t] ++ aflat (L.drop p))) (e : insA x L = L.take p ++ x :: L.drop p) : OwnA w B v (insA x L) := by
  unfold OwnA
  rw [e, aflat_append]
  have hl : (L.take p ++ x :: L.drop p).length = p + 1 + (L.length - p) := by simp; omega
  rw [hl]
  simpa [aflat] using h

theorem own_ins2 {w : World} {B : Nat} {v : Value} {L : List Arr} {x : Arr} (h : w.ownsRow B 60 3 v (L.length + 1 + 0) (aflat L ++ [.int .i64 x.f, .int .i64 x.e, .int .i64 x.t] ++ [])) (e : insA x L = L ++ [x]) : OwnA w B v (insA x L) := by
  unfold OwnA
  rw [e, aflat_append, List.length_append]
  simpa [aflat] using h
theorem own_ins0 {w : World} {B : Nat} {v : Value} {x : Arr} (h : w.ownsRow B 60 3 v (1 + 0) ([.int .i64 x.f, .int .i64 x.e, .int .i64 x.t] ++ [])) : OwnA w B v (insA x []) := h
theorem insA_end {x : Arr} {L : List Arr} (h : ∀ j, j < L.length → aheadB (L[j]?.getD arr0) x = true) : insA x L = L ++ [x] := by
  have := insA_put (Nat.le_refl _) h (.inl rfl)
  simpa using this
theorem CA.laidN {w w' : World} {b off : Nat} {a : Arr} {o : Obj} (h : CA w b off a) (hb : b < w.heap.size) (hg : (w.alloc o).drew.grownBy w' (Value.slice none 0 0).ownBlock) : CA w' b off a :=
  CA.grown (w := (w.alloc o).drew) ⟨(World.cell?_alloc_past _ _ _ hb).trans h.f, (World.cell?_alloc_past _ _ _ hb).trans h.e, (World.cell?_alloc_past _ _ _ hb).trans h.t⟩ hg (by simp [Value.ownBlock])
theorem below_laidN {B : Nat} {w w9 w10 : World} {o : Obj} (h : Below B w w9) (hB : B ≤ w9.heap.size) (hg : (w9.alloc o).drew.grownBy w10 (Value.slice none 0 0).ownBlock) : Below B w w10 :=
  (h.alloc hB o).drew.grown hg (by show B ≤ (w9.alloc o).heap.size; simp; omega) (fun k hk => by simp [Value.ownBlock] at hk)

set_option maxHeartbeats 1000000 in
set_option maxRecDepth 100000 in
theorem refSort_some (bx ox cx : Nat) (ars : List Arr) (w : World) (hl : ars.length ≤ 1073741824) (hbx : bx < w.heap.size) (hc : CellsA w bx ox ars) :
    Calls Try.prog 26 #[.slice (some ⟨bx, ox, none⟩) ars.length cx] w fun e w' => ∃ v, e = .returned v ∧ OwnA w' w.heap.size v (srtA ars) ∧ Below w.heap.size w w' := by
  obtain ⟨i0, hi, hz0, hz1, hz2⟩ := info_parts Try.infoArrow
  go_enter Try.func26, Try.ntmps26
  go_wp2
  go_loopw [3, 4] (fun v i wr => ∃ k : Nat, k ≤ ars.length ∧ i = .int .i64 k ∧ OwnA wr w.heap.size v (srtA (ars.take k)) ∧ Below w.heap.size w wr) (fun _ i _ => ars.length - (intOf i).toNat)
  case atStart => exact ⟨0, Nat.zero_le _, rfl, ownA_nil _ _, Below.refl _ _⟩
  case round =>
    obtain ⟨k, hk, rfl, hown, hbel⟩ := hrel
    by_cases hlt : k < ars.length
    · obtain ⟨x, HX, hx0⟩ := hc.ca hlt
      obtain ⟨wo, hwo⟩ : ∃ wo : World, wo = wr := ⟨_, rfl⟩
      subst hwo
      have hnext : Hid (srtA (ars.take (k + 1)) = insA x (srtA (ars.take k))) := srtA_take hlt HX
      have hll : (srtA (ars.take k)).length ≤ k := Nat.le_trans (srtA_len _) (List.length_take_le _ _)
      generalize srtA (ars.take k) = L at *
      rcases hown.forms with ⟨rfl, rfl⟩ | ⟨g, cap, rfl, hg1, hg2, hcL, hcap, hcm⟩
      · go_wp2
        refine wp_loop_rounds 1 ?_
        rw [rounds_succ]
        go_wp2
        go_quiet (fail)
        go_wp2
        obtain ⟨wz, hwz⟩ : ∃ wz : World, wz = wo.drewN nq := ⟨_, rfl⟩
        have hbz : Below wo.heap.size wo wz := by rw [hwz]; exact below_drewN (Below.refl _ _) _
        rw [← hwz]
        clear hwz
        go_quiet (fail)
        obtain ⟨wq, hwq⟩ : ∃ wq : World, wq = wz.drewN nq := ⟨_, rfl⟩
        have hbelq : Below w.heap.size w wq := by rw [hwq]; exact below_drewN (hbel.trans (hbz.mono hbel.size)) _
        rw [← hwq]
        clear hwq
        have kxq : CA wq bx (ox + k * 3) x := hx0.below hbelq hbx
        have hszq2 := hbelq.size
        have o0 : OwnA (wq.alloc (.cells #[] 60)) wq.heap.size (.slice (some ⟨wq.heap.size, 0, none⟩) 0 0) [] := ownA_empty wq _ (Nat.le_refl _)
        have ba : Below wq.heap.size wq (wq.alloc (.cells #[] 60)) := (Below.refl _ _).alloc (Nat.le_refl _) _
        go_wp2_with (at_builtin; refine wpList_append_arrs _ rfl (.tmp 45) (.tmp 48) 24 rfl wq.heap.size i0 Try.underlying24 hi hz0 hz1 hz2 _ [] rfl o0 none 0 [] rfl (.inl rfl) (fun _ => rfl) (by simp) (by simp) ?_)
        intro rest w9 o9 g9 n9
        have bel9 : Below wq.heap.size wq w9 := ba.grown g9 (by simp) (fun k hk => by simp [Value.ownBlock] at hk; omega)
        obtain ⟨g', c', e9, hg1', hg2', hc9, -, -⟩ := (o9.forms).resolve_left (fun h => n9 h.1)
        subst e9
        clear o9 g9 n9 o0 ba
        have own9 : w9.ownsRow w.heap.size 60 3 (.slice none 0 0) 0 [] := World.ownsRow_nil _ _ _ _
        have kx9 : CA w9 bx (ox + k * 3) x := kxq.below bel9 (by omega)
        have kx9f := kx9.f
        have kx9e := kx9.e
        have kx9t := kx9.t
        have hsz9 : wq.heap.size ≤ w9.heap.size := bel9.size
        have hbx9 : bx < w9.heap.size := by omega
        go_wp2
        go_region_held3 (fun w' => w'.cell? ⟨bx, ox + k * 3, none⟩ = some (.int .i64 x.f) ∧ w'.cell? ⟨bx, ox + k * 3 + 1, none⟩ = some (.int .i64 x.e) ∧ w'.cell? ⟨bx, ox + k * 3 + 2, none⟩ = some (.int .i64 x.t)) (go_keep) (first | (refine step_append_own rfl (.tmp 52) (.tmp 57) 24 rfl w.heap.size 60 i0 (aval arr0) 3 24 Try.underlying24 hi hz0 hz1 hz2 rfl (by decide) (.slice none 0 0) 0 [] rfl (ownsRow_lay own9 _) ⟨w9.heap.size, 0, none⟩ 1 1 [.int .i64 x.f, .int .i64 x.e, .int .i64 x.t] rfl rfl (cells_lay w9 _ _ _ _) (aflat_one [x]) (by unfold maxLen; omega) (by omega) (by simp; omega) ?_; intro v1 w10 o10 g10; obtain ⟨kt1, kt2, kt3⟩ := CA.laidN kx9 hbx9 g10) | (refine step_append_own rfl (.tmp 58) (.tmp 59) 24 rfl w.heap.size 60 i0 (aval arr0) 3 24 Try.underlying24 hi hz0 hz1 hz2 rfl (by decide) v1 1 ([.int .i64 x.f, .int .i64 x.e, .int .i64 x.t]) rfl o10 ⟨g', 0, none⟩ 0 c' [] rfl rfl (fun j u hu => by simp at hu) (fun u hu => by simp at hu) (by unfold maxLen; omega) (by omega) (by have := g10.size; simp at this; omega) ?_; intro v2 w11 o11 g11; obtain ⟨ku1, ku2, ku3⟩ := CA.laid2 ⟨kt1, kt2, kt3⟩ o10 g11 hbx))
        have b10 : Below w.heap.size w w10 := below_laidN (hbelq.trans (bel9.mono hszq2)) (by omega) g10
        have b11 : Below w.heap.size w w11 := b10.grown g11 (by have := b10.size; omega) (fun j hj => (o10.lt j hj).1)
        have r1 : OwnA w11 w.heap.size v2 (srtA (ars.take (k + 1))) := by rw [hnext.out]; exact own_ins0 o11
        clear o10 o11 g10 g11
        go_wp2
        go_roundw
        case rel => exact ⟨k + 1, by omega, by go_num, r1, b11⟩
        case measure => simp [intOf]; omega
      · go_wp2
        go_loopw [5] (fun i wr' => ∃ p : Nat, p ≤ L.length ∧ i = .int .i64 p ∧ Below wo.heap.size wo wr' ∧ Hid (∀ j, j < p → aheadB (L[j]?.getD arr0) x = true)) (fun i _ => L.length - (intOf i).toNat)
        case atStart => exact ⟨0, Nat.zero_le _, rfl, Below.refl _ _, fun j hj => by omega⟩
        case round =>
          obtain ⟨p, hp, rfl, hbq, hlow⟩ := hrel
          have hszq := hbq.size
          have hxr := (hx0.below hbel hbx).below hbq (by have := hbel.size; omega)
          have x1 := hxr.f
          have x2 := hxr.e
          have x3 := hxr.t
          by_cases hpl : p < L.length
          · obtain ⟨y, HY, hy0⟩ := hcL.ca hpl
            have hyr := hy0.below hbq hg2
            rw [Nat.zero_add] at hyr
            have y1 := hyr.f
            have y2 := hyr.e
            have y3 := hyr.t
            by_cases c1 : aheadB y x = true
            · have hgq : g < wr.heap.size := by omega
              have hbq2 : bx < wr.heap.size := by have := hbel.size; omega
              go_wp2
              go_region_held3 (fun w' => w'.cell? ⟨g, p * 3, none⟩ = some (.int .i64 y.f) ∧ w'.cell? ⟨g, p * 3 + 1, none⟩ = some (.int .i64 y.e) ∧ w'.cell? ⟨g, p * 3 + 2, none⟩ = some (.int .i64 y.t) ∧ w'.cell? ⟨bx, ox + k * 3, none⟩ = some (.int .i64 x.f) ∧ w'.cell? ⟨bx, ox + k * 3 + 1, none⟩ = some (.int .i64 x.e) ∧ w'.cell? ⟨bx, ox + k * 3 + 2, none⟩ = some (.int .i64 x.t)) (go_keep) (first | (go_at_call 50; refine (refAhead_any y x _).mono ?_; rintro e w1 ⟨rfl, hb1⟩; obtain ⟨ky1, ky2, ky3⟩ := CA.after hyr hb1 hgq; obtain ⟨kx1, kx2, kx3⟩ := CA.after hxr hb1 hbq2))
              go_wp2
              go_roundw
              case rel => exact ⟨p + 1, by omega, by go_num, hbq.drew.trans (hb1.mono hszq), fun j hj => by
                by_cases e : j = p
                · subst e; rw [← HY.out]; exact c1
                · exact hlow.out j (by omega)⟩
              case measure => simp [intOf]; omega
            · have c1' : aheadB y x = false := by simpa using c1
              have C1 : Hid (aheadB y x = false) := c1'
              clear c1
              have hgq : g < wr.heap.size := by omega
              have hbq2 : bx < wr.heap.size := by have := hbel.size; omega
              have heq : ∀ w : World, (Op.equalIn 10000 60 (.agg #[.int .i64 y.f, .int .i64 y.e, .int .i64 y.t]) (.agg #[.int .i64 x.f, .int .i64 x.e, .int .i64 x.t])).run Try.prog w = .ok (arrEqB y x) w := run_equalIn_arrow y x
              have hgd := run_guard_arrow
              go_wp2
              go_region_held3 (fun w' => w'.cell? ⟨g, p * 3, none⟩ = some (.int .i64 y.f) ∧ w'.cell? ⟨g, p * 3 + 1, none⟩ = some (.int .i64 y.e) ∧ w'.cell? ⟨g, p * 3 + 2, none⟩ = some (.int .i64 y.t) ∧ w'.cell? ⟨bx, ox + k * 3, none⟩ = some (.int .i64 x.f) ∧ w'.cell? ⟨bx, ox + k * 3 + 1, none⟩ = some (.int .i64 x.e) ∧ w'.cell? ⟨bx, ox + k * 3 + 2, none⟩ = some (.int .i64 x.t)) (go_keep) (first | (go_at_call 50; refine (refAhead_any y x _).mono ?_; rintro e w1 ⟨rfl, hb1⟩; obtain ⟨ky1, ky2, ky3⟩ := CA.after hyr hb1 hgq; obtain ⟨kx1, kx2, kx3⟩ := CA.after hxr hb1 hbq2))
              have hbo : Below wo.heap.size wo w1 := hbq.drew.trans (hb1.mono hszq)
              clear hb1 hbq hxr hyr x1 x2 x3 y1 y2 y3
              by_cases hq : arrEq y x
              · have HQ : Hid (arrEq y x) := hq
                have fq : arrEqB y x = true := by simp [arrEqB, hq]
                clear hq
                have E2 : Hid (srtA (ars.take (k + 1)) = L) := by show _ = _; rw [hnext.out]; exact insA_same hpl hlow.out (by rw [← HY.out]; exact C1.out) (by rw [← HY.out]; exact HQ.out)
                go_wp2
                go_quiet (fail)
                go_wp2
                go_roundw
                case rel => exact ⟨k + 1, by omega, by go_num, by rw [E2.out]; exact (hown.kept hbo (Nat.le_refl _)).kept (below_drewN (Below.refl _ _) _) (Nat.le_refl _), below_drewN (hbel.trans (hbo.mono hbel.size)) _⟩
                case measure => simp [intOf]; omega
              · have HQ : Hid (¬ arrEq y x) := hq
                have fq : arrEqB y x = false := by simp [arrEqB, hq]
                clear hq
                go_wp2
                go_quiet (fail)
                obtain ⟨wq, hwq⟩ : ∃ wq : World, wq = w1.drewN nq := ⟨_, rfl⟩
                have hownq : OwnA wq w.heap.size (.slice (some ⟨g, 0, none⟩) L.length cap) L := by rw [hwq]; exact (hown.kept hbo (Nat.le_refl _)).kept (below_drewN (Below.refl _ _) _) (Nat.le_refl _)
                have hbelq : Below w.heap.size w wq := by rw [hwq]; exact below_drewN (hbel.trans (hbo.mono hbel.size)) _
                rw [← hwq]
                clear hwq
                have HE : Hid (p = L.length ∨ (aheadB (L[p]?.getD arr0) x = false ∧ ¬ arrEq (L[p]?.getD arr0) x)) := .inr (by rw [← HY.out]; exact ⟨C1.out, HQ.out⟩)
                have kxq : CA wq bx (ox + k * 3) x := hx0.below hbelq hbx
                obtain ⟨g0, cap0, e0, hg1q, hgq2, hcLq, hcap0, hcm0⟩ := (hownq.forms).resolve_left (by rintro ⟨h, _⟩; cases h)
                simp only [Value.slice.injEq, Option.some.injEq, Addr.mk.injEq, and_true, true_and] at e0
                obtain ⟨rfl, rfl⟩ := e0
                have hszq2 := hbelq.size
                have o0 : OwnA (wq.alloc (.cells #[] 60)) wq.heap.size (.slice (some ⟨wq.heap.size, 0, none⟩) 0 0) [] := ownA_empty wq _ (Nat.le_refl _)
                have ba : Below wq.heap.size wq (wq.alloc (.cells #[] 60)) := (Below.refl _ _).alloc (Nat.le_refl _) _
                have hne : ¬ cap = p := by omega
                have a0 : AtA (wq.alloc (.cells #[] 60)) (some ⟨g, p * 3, none⟩) (L.drop p) := AtA.below (.inr ⟨g, p * 3, rfl, hgq2, cellsA_drop hcLq p⟩) ba (Nat.le_refl _)
                have dl : (L.drop p).length = L.length - p := List.length_drop ..
                have DL : Hid ((L.drop p).length = L.length - p) := dl
                clear dl
                go_wp2_with (at_builtin; refine wpList_append_arrs _ rfl (.tmp 45) (.tmp 48) 24 rfl wq.heap.size i0 Try.underlying24 hi hz0 hz1 hz2 _ [] rfl o0 (some ⟨g, p * 3, none⟩) (cap - p) (L.drop p) (by rw [DL.out]; rfl) a0 (by intro h; cases h) (by rw [DL.out]; simp only [List.length_nil]; omega) (by simp) ?_)
                intro rest w9 o9 g9 n9
                have bel9 : Below wq.heap.size wq w9 := ba.grown g9 (by simp) (fun k hk => by simp [Value.ownBlock] at hk; omega)
                obtain ⟨g', c', e9, hg1', hg2', hc9, -, -⟩ := (o9.forms).resolve_left (fun h => n9 h.1)
                subst e9
                clear o9 g9 n9 o0 ba a0
                have own9 := hownq.kept bel9 (Nat.le_refl _)
                have hT9 : w9.ownsRow w.heap.size 60 3 (.slice (some ⟨g, 0, none⟩) p cap) p (aflat (L.take p)) := own_take own9 hp
                have kx9 : CA w9 bx (ox + k * 3) x := kxq.below bel9 (by omega)
                have kx9f := kx9.f
                have kx9e := kx9.e
                have kx9t := kx9.t
                have hsz9 : wq.heap.size ≤ w9.heap.size := bel9.size
                have hbx9 : bx < w9.heap.size := by omega
                have hg9 : g < w9.heap.size := by omega
                have hgg : ¬ g' = g := by omega
                have hbg : ¬ bx = g := by omega
                have sp1 : (p : Int) ≤ (cap : Int) := by omega
                have sp2 : p ≤ cap := by omega
                have sp3 : p ≤ L.length := hp
                rw [DL.out]
                go_wp2
                go_region_held3 (fun w' => w'.cell? ⟨bx, ox + k * 3, none⟩ = some (.int .i64 x.f) ∧ w'.cell? ⟨bx, ox + k * 3 + 1, none⟩ = some (.int .i64 x.e) ∧ w'.cell? ⟨bx, ox + k * 3 + 2, none⟩ = some (.int .i64 x.t)) (go_keep) (first | (refine step_append_own rfl (.tmp 52) (.tmp 57) 24 rfl w.heap.size 60 i0 (aval arr0) 3 24 Try.underlying24 hi hz0 hz1 hz2 rfl (by decide) (.slice (some ⟨g, 0, none⟩) p cap) p (aflat (L.take p)) rfl (ownsRow_lay hT9 _) ⟨w9.heap.size, 0, none⟩ 1 1 [.int .i64 x.f, .int .i64 x.e, .int .i64 x.t] rfl rfl (cells_lay w9 _ _ _ _) (aflat_one [x]) (by unfold maxLen; omega) (by omega) (by simp; omega) ?_; intro v1 w10 o10 g10; obtain ⟨kt1, kt2, kt3⟩ := CA.laid kx9 hbx9 g10 hbg; have hn10 := news_laid hc9 hg2' g10 hgg) | (refine step_append_own rfl (.tmp 58) (.tmp 59) 24 rfl w.heap.size 60 i0 (aval arr0) 3 24 Try.underlying24 hi hz0 hz1 hz2 rfl (by decide) v1 (p + 1) (aflat (L.take p) ++ [.int .i64 x.f, .int .i64 x.e, .int .i64 x.t]) rfl o10 ⟨g', 0, none⟩ (L.length - p) c' (aflat (L.drop p)) rfl (by rw [aflat_len, List.length_drop]) hn10 (aflat_one _) (by unfold maxLen; omega) (by omega) (by have := g10.size; simp at this; omega) ?_; intro v2 w11 o11 g11; obtain ⟨ku1, ku2, ku3⟩ := CA.laid2 ⟨kt1, kt2, kt3⟩ o10 g11 hbx))
                have b10 : Below w.heap.size w w10 := below_laid (hbelq.trans (bel9.mono hszq2)) (by omega) g10 hg1q
                have b11 : Below w.heap.size w w11 := b10.grown g11 (by have := b10.size; omega) (fun j hj => (o10.lt j hj).1)
                have r1 : OwnA w11 w.heap.size v2 (srtA (ars.take (k + 1))) := by rw [hnext.out]; exact own_ins hp o11 (insA_put hp hlow.out HE.out)
                clear o10 o11 g10 g11 hT9 own9 hc9
                go_wp2
                go_roundw
                case rel => exact ⟨k + 1, by omega, by go_num, r1, b11⟩
                case measure => simp [intOf]; omega
          · obtain rfl : p = L.length := by omega
            go_wp2
            go_quiet (fail)
            go_wp2
            obtain ⟨wz, hwz⟩ : ∃ wz : World, wz = wr.drewN nq := ⟨_, rfl⟩
            have hbz : Below wo.heap.size wo wz := by rw [hwz]; exact below_drewN hbq _
            rw [← hwz]
            clear hwz hbq hxr x1 x2 x3
            go_quiet (fail)
            obtain ⟨wq, hwq⟩ : ∃ wq : World, wq = wz.drewN nq := ⟨_, rfl⟩
            have hownq : OwnA wq w.heap.size (.slice (some ⟨g, 0, none⟩) L.length cap) L := by rw [hwq]; exact (hown.kept hbz (Nat.le_refl _)).kept (below_drewN (Below.refl _ _) _) (Nat.le_refl _)
            have hbelq : Below w.heap.size w wq := by rw [hwq]; exact below_drewN (hbel.trans (hbz.mono hbel.size)) _
            rw [← hwq]
            clear hwq
            have kxq : CA wq bx (ox + k * 3) x := hx0.below hbelq hbx
            have hgq2 : g < wq.heap.size := (hownq.lt g rfl).2
            have hszq2 := hbelq.size
            have o0 : OwnA (wq.alloc (.cells #[] 60)) wq.heap.size (.slice (some ⟨wq.heap.size, 0, none⟩) 0 0) [] := ownA_empty wq _ (Nat.le_refl _)
            have ba : Below wq.heap.size wq (wq.alloc (.cells #[] 60)) := (Below.refl _ _).alloc (Nat.le_refl _) _
            by_cases hcp : cap = L.length
            · subst hcp
              go_wp2_with (at_builtin; refine wpList_append_arrs _ rfl (.tmp 45) (.tmp 48) 24 rfl wq.heap.size i0 Try.underlying24 hi hz0 hz1 hz2 _ [] rfl o0 (some ⟨g, 0, none⟩) 0 [] rfl (.inl rfl) (by intro h; cases h) (by simp) (by simp) ?_)
              intro rest w9 o9 g9 n9
              have bel9 : Below wq.heap.size wq w9 := ba.grown g9 (by simp) (fun k hk => by simp [Value.ownBlock] at hk; omega)
              obtain ⟨g', c', e9, hg1', hg2', hc9, -, -⟩ := (o9.forms).resolve_left (fun h => n9 h.1)
              subst e9
              clear o9 g9 n9 o0 ba
              have own9 := hownq.kept bel9 (Nat.le_refl _)
              have kx9 : CA w9 bx (ox + k * 3) x := kxq.below bel9 (by omega)
              have kx9f := kx9.f
              have kx9e := kx9.e
              have kx9t := kx9.t
              have hsz9 : wq.heap.size ≤ w9.heap.size := bel9.size
              have hbx9 : bx < w9.heap.size := by omega
              have hg9 : g < w9.heap.size := by omega
              have hbg : ¬ bx = g := by omega
              have sp1 : (L.length : Int) ≤ (L.length : Int) := by omega
              go_wp2
              go_region_held3 (fun w' => w'.cell? ⟨bx, ox + k * 3, none⟩ = some (.int .i64 x.f) ∧ w'.cell? ⟨bx, ox + k * 3 + 1, none⟩ = some (.int .i64 x.e) ∧ w'.cell? ⟨bx, ox + k * 3 + 2, none⟩ = some (.int .i64 x.t)) (go_keep) (first | (refine step_append_own rfl (.tmp 52) (.tmp 57) 24 rfl w.heap.size 60 i0 (aval arr0) 3 24 Try.underlying24 hi hz0 hz1 hz2 rfl (by decide) (.slice (some ⟨g, 0, none⟩) L.length L.length) L.length (aflat L) rfl (ownsRow_lay own9 _) ⟨w9.heap.size, 0, none⟩ 1 1 [.int .i64 x.f, .int .i64 x.e, .int .i64 x.t] rfl rfl (cells_lay w9 _ _ _ _) (aflat_one [x]) (by unfold maxLen; omega) (by omega) (by simp; omega) ?_; intro v1 w10 o10 g10; obtain ⟨kt1, kt2, kt3⟩ := CA.laid kx9 hbx9 g10 hbg) | (refine step_append_own rfl (.tmp 58) (.tmp 59) 24 rfl w.heap.size 60 i0 (aval arr0) 3 24 Try.underlying24 hi hz0 hz1 hz2 rfl (by decide) v1 (L.length + 1) ((aflat L) ++ [.int .i64 x.f, .int .i64 x.e, .int .i64 x.t]) rfl o10 ⟨g', 0, none⟩ 0 c' [] rfl rfl (fun j u hu => by simp at hu) (fun u hu => by simp at hu) (by unfold maxLen; omega) (by omega) (by have := g10.size; simp at this; omega) ?_; intro v2 w11 o11 g11; obtain ⟨ku1, ku2, ku3⟩ := CA.laid2 ⟨kt1, kt2, kt3⟩ o10 g11 hbx))
              have b10 : Below w.heap.size w w10 := below_laid (hbelq.trans (bel9.mono hszq2)) (by omega) g10 hg1
              have b11 : Below w.heap.size w w11 := b10.grown g11 (by have := b10.size; omega) (fun j hj => (o10.lt j hj).1)
              have r1 : OwnA w11 w.heap.size v2 (srtA (ars.take (k + 1))) := by rw [hnext.out]; exact own_ins2 o11 (insA_end hlow.out)
              clear o10 o11 g10 g11
              go_wp2
              go_roundw
              case rel => exact ⟨k + 1, by omega, by go_num, r1, b11⟩
              case measure => simp [intOf]; omega
            · go_wp2_with (at_builtin; refine wpList_append_arrs _ rfl (.tmp 45) (.tmp 48) 24 rfl wq.heap.size i0 Try.underlying24 hi hz0 hz1 hz2 _ [] rfl o0 (some ⟨g, L.length * 3, none⟩) (cap - L.length) [] rfl (.inl rfl) (by intro h; cases h) (by simp) (by simp) ?_)
              intro rest w9 o9 g9 n9
              have bel9 : Below wq.heap.size wq w9 := ba.grown g9 (by simp) (fun k hk => by simp [Value.ownBlock] at hk; omega)
              obtain ⟨g', c', e9, hg1', hg2', hc9, -, -⟩ := (o9.forms).resolve_left (fun h => n9 h.1)
              subst e9
              clear o9 g9 n9 o0 ba
              have own9 := hownq.kept bel9 (Nat.le_refl _)
              have kx9 : CA w9 bx (ox + k * 3) x := kxq.below bel9 (by omega)
              have kx9f := kx9.f
              have kx9e := kx9.e
              have kx9t := kx9.t
              have hsz9 : wq.heap.size ≤ w9.heap.size := bel9.size
              have hbx9 : bx < w9.heap.size := by omega
              have hg9 : g < w9.heap.size := by omega
              have hbg : ¬ bx = g := by omega
              have sp1 : (L.length : Int) ≤ (cap : Int) := by omega
              go_wp2
              go_region_held3 (fun w' => w'.cell? ⟨bx, ox + k * 3, none⟩ = some (.int .i64 x.f) ∧ w'.cell? ⟨bx, ox + k * 3 + 1, none⟩ = some (.int .i64 x.e) ∧ w'.cell? ⟨bx, ox + k * 3 + 2, none⟩ = some (.int .i64 x.t)) (go_keep) (first | (refine step_append_own rfl (.tmp 52) (.tmp 57) 24 rfl w.heap.size 60 i0 (aval arr0) 3 24 Try.underlying24 hi hz0 hz1 hz2 rfl (by decide) (.slice (some ⟨g, 0, none⟩) L.length cap) L.length (aflat L) rfl (ownsRow_lay own9 _) ⟨w9.heap.size, 0, none⟩ 1 1 [.int .i64 x.f, .int .i64 x.e, .int .i64 x.t] rfl rfl (cells_lay w9 _ _ _ _) (aflat_one [x]) (by unfold maxLen; omega) (by omega) (by simp; omega) ?_; intro v1 w10 o10 g10; obtain ⟨kt1, kt2, kt3⟩ := CA.laid kx9 hbx9 g10 hbg) | (refine step_append_own rfl (.tmp 58) (.tmp 59) 24 rfl w.heap.size 60 i0 (aval arr0) 3 24 Try.underlying24 hi hz0 hz1 hz2 rfl (by decide) v1 (L.length + 1) ((aflat L) ++ [.int .i64 x.f, .int .i64 x.e, .int .i64 x.t]) rfl o10 ⟨g', 0, none⟩ 0 c' [] rfl rfl (fun j u hu => by simp at hu) (fun u hu => by simp at hu) (by unfold maxLen; omega) (by omega) (by have := g10.size; simp at this; omega) ?_; intro v2 w11 o11 g11; obtain ⟨ku1, ku2, ku3⟩ := CA.laid2 ⟨kt1, kt2, kt3⟩ o10 g11 hbx))
              have b10 : Below w.heap.size w w10 := below_laid (hbelq.trans (bel9.mono hszq2)) (by omega) g10 hg1
              have b11 : Below w.heap.size w w11 := b10.grown g11 (by have := b10.size; omega) (fun j hj => (o10.lt j hj).1)
              have r1 : OwnA w11 w.heap.size v2 (srtA (ars.take (k + 1))) := by rw [hnext.out]; exact own_ins2 o11 (insA_end hlow.out)
              clear o10 o11 g10 g11
              go_wp2
              go_roundw
              case rel => exact ⟨k + 1, by omega, by go_num, r1, b11⟩
              case measure => simp [intOf]; omega
    · rw [List.take_of_length_le (by omega)] at hown
      go_wp2
      go_ret
      exact ⟨_, rfl, hown, hbel⟩

set_option maxHeartbeats 400000 in
theorem refSort_nil (a : Option Addr) (cx : Nat) (w : World) :
    Calls Try.prog 26 #[.slice a 0 cx] w fun e w' => e = .returned (.slice none 0 0) ∧ w' = w := by
  go_enter Try.func26, Try.ntmps26
  go_wp2
  refine wp_loop_rounds 1 ?_
  rw [rounds_succ]
  go_wp2
  go_ret
  exact ⟨rfl, rfl⟩

end Go.Proofs.Ytbgiliophmofgaa
namespace Go.Proofs.Ytbgiliophmofgaa
open Go.RowKit
set_option linter.unusedVariables false

theorem getD_cons_succ' (y : Int) (r : List Int) (j : Nat) : (y :: r)[j + 1]?.getD 0 = r[j]?.getD 0 := by simp

theorem ins_put {x : Int} : ∀ {L : List Int} {p : Nat}, p ≤ L.length → (∀ j, j < p → L[j]?.getD 0 < x) → (p = L.length ∨ x < L[p]?.getD 0) → ins x L = L.take p ++ x :: L.drop p
  | [], p, hp, _, _ => by have : p = 0 := by simpa using hp
                          subst this; simp [ins]
  | y :: r, 0, _, _, h => by
    rcases h with h | h
    · simp at h
    · have h : x < y := by simpa using h
      simp only [ins, List.take_zero, List.drop_zero, List.nil_append]
      rw [if_neg (by omega), if_neg (by omega)]
  | y :: r, p + 1, hp, hl, h => by
    have h0 : y < x := by simpa using hl 0 (by omega)
    have := ins_put (x := x) (L := r) (p := p) (by simpa using hp) (fun j hj => by have := hl (j + 1) (by omega); rwa [getD_cons_succ'] at this) (by rcases h with h | h; left; simpa using h; right; rwa [getD_cons_succ'] at h)
    simp only [ins]
    rw [if_pos h0, this]
    simp
theorem ins_same {x : Int} : ∀ {L : List Int} {p : Nat}, p < L.length → (∀ j, j < p → L[j]?.getD 0 < x) → L[p]?.getD 0 = x → ins x L = L
  | [], p, hp, _, _ => by simp at hp
  | y :: r, 0, _, _, h => by
    have h : y = x := by simpa using h
    simp only [ins]
    rw [if_neg (by omega), if_pos h]
  | y :: r, p + 1, hp, hl, h => by
    have h0 : y < x := by simpa using hl 0 (by omega)
    have := ins_same (x := x) (L := r) (p := p) (by simpa using hp) (fun j hj => by have := hl (j + 1) (by omega); rwa [getD_cons_succ'] at this) (by rwa [getD_cons_succ'] at h)
    simp only [ins]
    rw [if_pos h0, this]

/-- The list with one place more, at c. -/
def gap (L : List Int) (c : Nat) (y : Int) : List Int := L.take c ++ y :: L.drop c

theorem gap_len {L : List Int} {c : Nat} {y : Int} (h : c ≤ L.length) : (gap L c y).length = L.length + 1 := by simp [gap]; omega
theorem gap_end (L : List Int) : L ++ [0] = gap L L.length 0 := by simp [gap]
theorem gap_at {L : List Int} {c : Nat} {y : Int} (h : c < L.length) : (gap L (c + 1) y)[c]?.getD 0 = L[c]?.getD 0 := by
  rw [gap, List.getElem?_append_left (by simp; omega), List.getElem?_take_of_lt (by omega)]
theorem gap_set {L : List Int} {c : Nat} {y x : Int} (h : c ≤ L.length) : (gap L c y).set c x = gap L c x := by
  rw [gap, gap, List.set_append_right _ _ (by simp; omega)]
  simp only [List.length_take]
  rw [show c - min c L.length = 0 by omega]; rfl
theorem gap_move {L : List Int} {c : Nat} {y : Int} (h : c < L.length) : (gap L (c + 1) y).set (c + 1) (L[c]?.getD 0) = gap L c (L[c]?.getD 0) := by
  rw [gap_set (by omega), gap, gap, List.take_add_one, List.getElem?_eq_getElem h]
  conv => rhs; rw [List.drop_eq_getElem_cons h]
  simp only [Option.toList_some, Option.getD_some, List.append_assoc, List.singleton_append]

theorem Own.cellAt {w : World} {B g n cap : Nat} {M : List Int} (h : Own w B (.slice (some ⟨g, 0, none⟩) n cap) M) {j : Nat} (hj : j < M.length) : w.cell? ⟨g, j, none⟩ = some (.int .i64 (M[j]?.getD 0)) ∧ w.frozen? ⟨g, j, none⟩ = false ∧ B ≤ g := by
  rcases h.cells_of with ⟨h0, _⟩ | ⟨g', cap', h0, hb, hg, hc, hf⟩
  · simp at h0
  · simp only [Value.slice.injEq, Option.some.injEq, Addr.mk.injEq, and_true] at h0
    obtain ⟨rfl, rfl, rfl⟩ := h0
    have := hc j hj
    rw [Nat.zero_add, List.getD_eq_getElem?_getD] at this
    exact ⟨this, hf j, hb⟩
theorem Own.stored {w : World} {B g n cap : Nat} {M : List Int} (h : Own w B (.slice (some ⟨g, 0, none⟩) n cap) M) (j : Nat) (x : Int) : Own (w.setCell ⟨g, j, none⟩ (.int .i64 x)) B (.slice (some ⟨g, 0, none⟩) n cap) (M.set j x) := by
  have hn : n = M.length := by
    rcases h.2 with ⟨h0, _⟩ | ⟨g', cap', cur, h0, _⟩
    · simp at h0
    · simp only [Value.slice.injEq] at h0; exact h0.2.1
  subst hn
  have := (World.ownsRow.stored h j (.int .i64 x)).1
  unfold Own
  rw [List.length_set, List.map_set]
  exact this
theorem Own.shape {w : World} {B : Nat} {v : Value} {M : List Int} (h : Own w B v M) (hp : 0 < M.length) : ∃ g cap, v = .slice (some ⟨g, 0, none⟩) M.length cap := by
  rcases h.cells_of with ⟨_, h0⟩ | ⟨g', cap', h0, _⟩
  · subst h0; simp at hp
  · exact ⟨g', cap', h0⟩

theorem srt_take {xs : List Int} {k : Nat} {x : Int} (h : k < xs.length) (hx : Hid (x = xs[k]?.getD 0)) : srt (xs.take (k + 1)) = ins x (srt (xs.take k)) := by
  have hx := hx.out
  rw [List.getElem?_eq_getElem h, Option.getD_some] at hx
  rw [List.take_add_one, List.getElem?_eq_getElem h, Option.toList_some, srt_snoc, hx]

set_option maxHeartbeats 2000000 in
set_option maxRecDepth 100000 in
theorem sorted_some (bx ox cx : Nat) (xs : List Int) (w : World) (hl : xs.length ≤ 17592186044416) (hbx : bx < w.heap.size) (hc : Cells w bx ox xs) :
    Calls Try.prog 25 #[.slice (some ⟨bx, ox, none⟩) xs.length cx] w fun e w' => ∃ v, e = .returned v ∧ Own w' w.heap.size v (srt xs) ∧ Below w.heap.size w w' := by
  obtain ⟨i0, hi, hz0, hz1, hz2⟩ := info_parts Try.infoInt
  go_enter Try.func25, Try.ntmps25
  go_wp2
  go_loopw [3, 4] (fun v i wr => ∃ k : Nat, k ≤ xs.length ∧ i = .int .i64 k ∧ Own wr w.heap.size v (srt (xs.take k)) ∧ Below w.heap.size w wr) (fun _ i _ => xs.length - (intOf i).toNat)
  case atStart => exact ⟨0, Nat.zero_le _, rfl, own_nil _ _, Below.refl _ _⟩
  case round =>
    obtain ⟨k, hk, rfl, hown, hbel⟩ := hrel
    by_cases hlt : k < xs.length
    · obtain ⟨x, HX, hcx0⟩ := hc.at hlt
      obtain ⟨wo, hwo⟩ : ∃ wo : World, wo = wr := ⟨_, rfl⟩
      subst hwo
      have hcx : wo.cell? ⟨bx, ox + k, none⟩ = some (.int .i64 x) := (hbel.cell (p := ⟨bx, ox + k, none⟩) hbx).trans hcx0
      have hcx00 := hcx0
      clear hcx0
      have hnext : Hid (srt (xs.take (k + 1)) = ins x (srt (xs.take k))) := srt_take hlt HX
      have hll : (srt (xs.take k)).length ≤ k := Nat.le_trans (srt_len _) (List.length_take_le _ _)
      generalize srt (xs.take k) = L at *
      obtain ⟨a, cap, rfl, hat, hlm⟩ := hown.at
      unfold maxLen at hlm
      go_wp2
      go_loopw [5] (fun i wr' => ∃ p q : Nat, p ≤ L.length ∧ i = .int .i64 p ∧ wr' = wo.drewN q ∧ Hid (∀ j, j < p → L[j]?.getD 0 < x)) (fun i _ => L.length - (intOf i).toNat)
      case atStart => exact ⟨0, 0, Nat.zero_le _, rfl, rfl, fun j hj => by omega⟩
      case round =>
        obtain ⟨p, q, hp, rfl, rfl, hlow⟩ := hrel
        by_cases hpl : p < L.length
        · rcases hat with h0 | ⟨b, off, rfl, hb, hca⟩
          · subst h0; simp at hpl
          · obtain ⟨y, HY, hcy⟩ := hca.at hpl
            by_cases c1 : y < x
            · have d : decide (y < x) = true := by simpa using c1
              go_wp2
              go_quiet (fail)
              go_wp2
              go_roundw
              case rel => exact ⟨p + 1, _, by omega, by go_num, rfl, fun j hj => by
                by_cases e : j = p
                · subst e; have := HY.out; omega
                · exact hlow.out j (by omega)⟩
              case measure => simp [intOf]; omega
            · have d : decide (y < x) = false := by simpa using c1
              go_wp2
              go_quiet (fail)
              go_wp2
              obtain ⟨Q, hQ⟩ : ∃ Q, (wo.drewN q).drewN nq = wo.drewN Q := ⟨_, World.drewN_drewN _ _ _⟩
              rw [hQ]
              clear hQ
              by_cases c2 : y = x
              · have HC : Hid (y = x) := c2
                have d2 : (y == x) = true := by simp [c2]
                clear c2
                have E2 : Hid (srt (xs.take (k + 1)) = L) := by show _ = _; rw [hnext.out]; exact ins_same hpl hlow.out (by rw [← HY.out]; exact HC.out)
                go_quiet (fail)
                go_wp2
                go_roundw
                case rel => exact ⟨k + 1, by omega, by go_num, by rw [E2.out]; exact hown.drewN _, below_drewN hbel _⟩
                case measure => simp [intOf]; omega
              · have d2 : (y == x) = false := by simp [c2]
                go_quiet (fail)
                obtain ⟨Q', hQ'⟩ : ∃ Q', (wo.drewN Q).drewN nq = wo.drewN Q' := ⟨_, World.drewN_drewN _ _ _⟩
                rw [hQ']
                clear hQ'
                have HE : Hid (p = L.length ∨ x < L[p]?.getD 0) := .inr (by have := HY.out; omega)
                obtain ⟨wq, hwq⟩ : ∃ wq : World, wq = wo.drewN Q' := ⟨_, rfl⟩
                have hown0 : Own wq w.heap.size (.slice (some ⟨b, off, none⟩) L.length cap) L := by rw [hwq]; exact hown.drewN Q'
                have hbelo : Below w.heap.size w wq := by rw [hwq]; exact below_drewN hbel _
                have hcxq : wq.cell? ⟨bx, ox + k, none⟩ = some (.int .i64 x) := by rw [hwq]; exact hcx
                rw [← hwq]
                clear hwq hown hbel hcx
                have hszo : w.heap.size ≤ wq.heap.size := hbelo.size
                have hbxq : bx < wq.heap.size := by omega
                go_wp2_with (at_builtin; refine wpList_append_own _ rfl _ _ 23 rfl w.heap.size 3 i0 (.int .i64 0) 1 8 Try.underlying23 hi hz0 hz1 hz2 rfl (by decide) _ _ _ rfl (World.ownsRow.alloc hown0 _) ⟨wq.heap.size, 0, none⟩ 1 1 [.int .i64 0] rfl rfl (cell_one_new _ _ _) (by intro u hu; simp at hu; subst hu; rfl) (by unfold maxLen; omega) (by omega) (by simp; omega) ?_)
                intro v' w1 hown' hgrow _
                obtain ⟨o1, o2, -⟩ := own_snoc hown0 hbelo hszo hown' hgrow
                clear hown' hgrow hown0 hcxq
                obtain ⟨g, cap', rfl⟩ := o1.shape (by simp)
                rw [List.length_append, List.length_singleton] at o1 ⊢
                rw [gap_end] at o1
                go_wp2
                go_loopw [6] (fun i wr' => ∃ (c : Nat) (z : Int), p ≤ c ∧ c ≤ L.length ∧ i = .int .i64 c ∧ Own wr' w.heap.size (.slice (some ⟨g, 0, none⟩) (L.length + 1) cap') (gap L c z) ∧ Below w.heap.size w wr') (fun i _ => (intOf i).toNat)
                case atStart => exact ⟨L.length, 0, hp, Nat.le_refl _, by go_num, o1, o2⟩
                case round =>
                  obtain ⟨c, z, hc1, hc2, rfl, ow, bw⟩ := hrel
                  clear o1 o2
                  by_cases hcp : p < c
                  · obtain ⟨e, rfl⟩ : ∃ e, c = e + 1 := ⟨c - 1, by omega⟩
                    have hgl := gap_len (y := z) hc2
                    obtain ⟨f1, f2, f3⟩ := ow.cellAt (j := e) (by omega)
                    obtain ⟨f4, f5, -⟩ := ow.cellAt (j := e + 1) (by omega)
                    rw [gap_at (by omega)] at f1
                    have ow' := ow.stored (e + 1) (L[e]?.getD 0)
                    rw [gap_move (by omega)] at ow'
                    have bw' := bw.setCell (p := ⟨g, e + 1, none⟩) f3 (.int .i64 (L[e]?.getD 0))
                    generalize L[e]?.getD 0 = u at *
                    generalize (gap L (e + 1) z)[e + 1]?.getD 0 = u' at *
                    clear ow
                    go_wp2
                    go_roundw
                    case rel => exact ⟨e, u, by omega, by omega, by go_num, ow', bw'⟩
                    case measure => simp [intOf]
                  · have hcp' : c = p := by omega
                    subst hcp'
                    have hgl := gap_len (y := z) hc2
                    obtain ⟨f1, f2, f3⟩ := ow.cellAt (j := c) (by omega)
                    have hcx2 : wr.cell? ⟨bx, ox + k, none⟩ = some (.int .i64 x) := (bw.cell (p := ⟨bx, ox + k, none⟩) hbx).trans hcx00
                    have ow' := ow.stored c x
                    rw [gap_set hc2, gap, ← ins_put hc2 hlow.out HE.out, ← hnext.out] at ow'
                    have bw' := bw.setCell (p := ⟨g, c, none⟩) f3 (.int .i64 x)
                    generalize (gap L c z)[c]?.getD 0 = u' at *
                    clear ow
                    go_wp2
                    go_roundw
                    case rel => exact ⟨k + 1, by omega, by go_num, ow', bw'⟩
                    case measure => simp [intOf]; omega
        · go_wp2
          go_quiet (fail)
          go_wp2
          obtain ⟨Q, hQ⟩ : ∃ Q, (wo.drewN q).drewN nq = wo.drewN Q := ⟨_, World.drewN_drewN _ _ _⟩
          rw [hQ]
          clear hQ
          go_quiet (fail)
          obtain ⟨Q', hQ'⟩ : ∃ Q', (wo.drewN Q).drewN nq = wo.drewN Q' := ⟨_, World.drewN_drewN _ _ _⟩
          rw [hQ']
          clear hQ'
          have HE : Hid (p = L.length ∨ x < L[p]?.getD 0) := .inl (by omega)
          obtain ⟨wq, hwq⟩ : ∃ wq : World, wq = wo.drewN Q' := ⟨_, rfl⟩
          have hown0 : Own wq w.heap.size (.slice a L.length cap) L := by rw [hwq]; exact hown.drewN Q'
          have hbelo : Below w.heap.size w wq := by rw [hwq]; exact below_drewN hbel _
          have hcxq : wq.cell? ⟨bx, ox + k, none⟩ = some (.int .i64 x) := by rw [hwq]; exact hcx
          rw [← hwq]
          clear hwq hown hbel hcx hat
          have hszo : w.heap.size ≤ wq.heap.size := hbelo.size
          have hbxq : bx < wq.heap.size := by omega
          go_wp2_with (at_builtin; refine wpList_append_own _ rfl _ _ 23 rfl w.heap.size 3 i0 (.int .i64 0) 1 8 Try.underlying23 hi hz0 hz1 hz2 rfl (by decide) _ _ _ rfl (World.ownsRow.alloc hown0 _) ⟨wq.heap.size, 0, none⟩ 1 1 [.int .i64 0] rfl rfl (cell_one_new _ _ _) (by intro u hu; simp at hu; subst hu; rfl) (by unfold maxLen; omega) (by omega) (by simp; omega) ?_)
          intro v' w1 hown' hgrow _
          obtain ⟨o1, o2, -⟩ := own_snoc hown0 hbelo hszo hown' hgrow
          clear hown' hgrow hown0 hcxq
          obtain ⟨g, cap', rfl⟩ := o1.shape (by simp)
          rw [List.length_append, List.length_singleton] at o1 ⊢
          rw [gap_end] at o1
          go_wp2
          go_loopw [6] (fun i wr' => ∃ (c : Nat) (z : Int), p ≤ c ∧ c ≤ L.length ∧ i = .int .i64 c ∧ Own wr' w.heap.size (.slice (some ⟨g, 0, none⟩) (L.length + 1) cap') (gap L c z) ∧ Below w.heap.size w wr') (fun i _ => (intOf i).toNat)
          case atStart => exact ⟨L.length, 0, hp, Nat.le_refl _, by go_num, o1, o2⟩
          case round =>
            obtain ⟨c, z, hc1, hc2, rfl, ow, bw⟩ := hrel
            clear o1 o2
            by_cases hcp : p < c
            · omega
            · have hcp' : c = p := by omega
              subst hcp'
              have hgl := gap_len (y := z) hc2
              obtain ⟨f1, f2, f3⟩ := ow.cellAt (j := c) (by omega)
              have hcx2 : wr.cell? ⟨bx, ox + k, none⟩ = some (.int .i64 x) := (bw.cell (p := ⟨bx, ox + k, none⟩) hbx).trans hcx00
              have ow' := ow.stored c x
              rw [gap_set hc2, gap, ← ins_put hc2 hlow.out HE.out, ← hnext.out] at ow'
              have bw' := bw.setCell (p := ⟨g, c, none⟩) f3 (.int .i64 x)
              generalize (gap L c z)[c]?.getD 0 = u' at *
              clear ow
              go_wp2
              go_roundw
              case rel => exact ⟨k + 1, by omega, by go_num, ow', bw'⟩
              case measure => simp [intOf]; omega
    · rw [List.take_of_length_le (by omega)] at hown
      go_wp2
      go_ret
      exact ⟨_, rfl, hown, hbel⟩

set_option maxHeartbeats 400000 in
theorem sorted_nil (a : Option Addr) (cx : Nat) (w : World) :
    Calls Try.prog 25 #[.slice a 0 cx] w fun e w' => e = .returned (.slice none 0 0) ∧ w' = w := by
  go_enter Try.func25, Try.ntmps25
  go_wp2
  refine wp_loop_rounds 1 ?_
  rw [rounds_succ]
  go_wp2
  go_ret
  exact ⟨rfl, rfl⟩

end Go.Proofs.Ytbgiliophmofgaa
namespace Go.Proofs.Ytbgiliophmofgaa
open Go.RowKit

theorem sorted_own (a : Option Addr) (cx : Nat) (xs : List Int) (w : World) (hs : At w a xs) (hl : xs.length ≤ 17592186044416) :
    Calls Try.prog 25 #[.slice a xs.length cx] w fun e w' => GivesO w (srt xs) e w' := by
  rcases hs with rfl | ⟨b, off, rfl, hb, hc⟩
  · refine (sorted_nil a cx w).mono ?_
    rintro e w' ⟨rfl, rfl⟩
    exact ⟨_, rfl, own_nil _ _, Below.refl _ _⟩
  · refine (sorted_some b off cx xs w hl hb hc).mono ?_
    rintro e w' ⟨v, rfl, h1, h2⟩
    exact ⟨v, rfl, h1, h2⟩

end Go.Proofs.Ytbgiliophmofgaa
namespace Go.Proofs.Ytbgiliophmofgaa
open Go.RowKit
set_option linter.unusedVariables false

/-! Places. -/
/-! Rows and arrows in order. -/
abbrev IncA (l : List Arr) : Prop := l.Pairwise (fun a b => aheadB a b = true)
theorem aheadB_iff (a b : Arr) : aheadB a b = true ↔ a.f < b.f ∨ (a.f = b.f ∧ (a.e < b.e ∨ (a.e = b.e ∧ a.t < b.t))) := by
  unfold aheadB
  split
  · split
    · simp only [decide_eq_true_eq]; omega
    · simp only [decide_eq_true_eq]; omega
  · simp only [decide_eq_true_eq]; omega
theorem aheadB_trans {a b c : Arr} (h : aheadB a b = true) (k : aheadB b c = true) : aheadB a c = true := by
  rw [aheadB_iff] at *; omega
/-! What is come to, of a machine that may be. -/
/-! The trimmed machine may be. -/
/-! The trimmed machine accepts the same words. -/
end Go.Proofs.Ytbgiliophmofgaa
namespace Go.Proofs.Ytbgiliophmofgaa
open Go.RowKit
set_option linter.unusedVariables false

/-! Places of pairs. -/
/-! What has been found: the invariant. -/
/-! Arrows in order. -/
theorem arr_ext {x y : Arr} (h : arrEq x y) : x = y := by
  cases x; cases y; obtain ⟨h1, h2, h3⟩ := h; dsimp only at h1 h2 h3; subst h1; subst h2; subst h3; rfl
theorem mem_insA (z x : Arr) : ∀ L, z ∈ insA x L ↔ z = x ∨ z ∈ L
  | [] => by simp [insA]
  | y :: r => by
    unfold insA
    split
    · rw [List.mem_cons, mem_insA z x r, List.mem_cons]
      constructor
      · rintro (h | h | h)
        · exact .inr (.inl h)
        · exact .inl h
        · exact .inr (.inr h)
      · rintro (h | h | h)
        · exact .inr (.inl h)
        · exact .inl h
        · exact .inr (.inr h)
    · split
      · rename_i h
        have := arr_ext h
        subst this
        simp
      · simp
theorem inc_insA (x : Arr) : ∀ {L : List Arr}, IncA L → IncA (insA x L)
  | [], _ => by simp [insA, IncA]
  | y :: r, h => by
    obtain ⟨h1, h2⟩ := List.pairwise_cons.1 h
    unfold insA
    split
    · rename_i hy
      refine List.pairwise_cons.2 ⟨fun z hz => ?_, inc_insA x h2⟩
      rcases (mem_insA z x r).1 hz with rfl | hz
      · exact hy
      · exact h1 z hz
    · rename_i hy
      split
      · exact h
      · rename_i he
        have hx : aheadB x y = true := by
          rw [aheadB_iff] at hy ⊢
          unfold arrEq at he
          omega
        refine List.pairwise_cons.2 ⟨fun z hz => ?_, h⟩
        rcases List.mem_cons.1 hz with rfl | hz
        · exact hx
        · exact aheadB_trans hx (h1 z hz)
theorem srtA_both : ∀ (l o : List Arr), IncA o → IncA (l.foldl (fun out x => insA x out) o) ∧ ∀ z, z ∈ l.foldl (fun out x => insA x out) o ↔ z ∈ o ∨ z ∈ l
  | [], o, h => ⟨h, fun z => by simp⟩
  | x :: r, o, h => by
    obtain ⟨k1, k2⟩ := srtA_both r (insA x o) (inc_insA x h)
    refine ⟨k1, fun z => ?_⟩
    rw [List.foldl_cons, k2 z, mem_insA, List.mem_cons]
    constructor
    · rintro ((h | h) | h)
      · exact .inr (.inl h)
      · exact .inl h
      · exact .inr (.inr h)
    · rintro (h | h | h)
      · exact .inl (.inr h)
      · exact .inl (.inl h)
      · exact .inr h
theorem mem_srtA (l : List Arr) (z : Arr) : z ∈ srtA l ↔ z ∈ l := by rw [show (z ∈ srtA l ↔ _) from (srtA_both l [] (by simp [IncA])).2 z]; simp

/-! The machine of both may be. -/
/-! Words. -/
end Go.Proofs.Ytbgiliophmofgaa
