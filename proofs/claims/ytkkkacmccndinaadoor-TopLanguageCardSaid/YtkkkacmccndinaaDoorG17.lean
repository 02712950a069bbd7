/-
  The walk of jalousieref2.Same: two machines are one.
  The walk of jalousieref2.ahead.
-/
import Derived.Test.YtkkkacmccndinaaDoorG03
import Derived.Test.YtkkkacmccndinaaDoorG16
import Derived.Test.YtkkkacmccndinaaDoorG04
import Derived.BigQuiet
namespace Go.Proofs.YtkkkacmccndinaaDoor
open Go.RowKit
set_option linter.unusedVariables false

theorem sameA_no {k : Nat} {p q : List Arr} {a b : Arr} {t : Bool} (h : k < p.length) (h' : k < q.length) (ha : Hid (a = p[k]?.getD arr0)) (hb : Hid (b = q[k]?.getD arr0)) (e : Hid (t = sameA (p.drop k) (q.drop k))) (hn : ¬ arrEq a b) : false = t := by
  rw [e.out, dropA h, dropA h', ← ha.out, ← hb.out, sameA, if_neg hn]
theorem sameA_yes {k : Nat} {p q : List Arr} {a b : Arr} {t : Bool} (h : k < p.length) (h' : k < q.length) (ha : Hid (a = p[k]?.getD arr0)) (hb : Hid (b = q[k]?.getD arr0)) (e : Hid (t = sameA (p.drop k) (q.drop k))) (hn : arrEq a b) : Hid (t = sameA (p.drop (k + 1)) (q.drop (k + 1))) := by
  show t = _
  rw [e.out, dropA h, dropA h', ← ha.out, ← hb.out, sameA, if_pos hn]
theorem sameA_end {k : Nat} {p q : List Arr} {t : Bool} (h : ¬ k < p.length) (hl : p.length = q.length) (e : Hid (t = sameA (p.drop k) (q.drop k))) : true = t := by
  rw [e.out, List.drop_eq_nil_of_le (by omega), List.drop_eq_nil_of_le (by omega)]; rfl

/-- Are two machines one? -/
def sameM (m n : Mach) : Bool := decide (m.st = n.st ∧ m.ev = n.ev) && (sameB m.starts n.starts && (sameB m.ends n.ends && (decide (m.arrows.length = n.arrows.length) && sameA m.arrows n.arrows)))

theorem sameM_go {m n : Mach} (h1 : m.st = n.st) (h2 : m.ev = n.ev) (h3 : sameB m.starts n.starts = true) (h4 : sameB m.ends n.ends = true) (h5 : m.arrows.length = n.arrows.length) : sameM m n = sameA m.arrows n.arrows := by
  unfold sameM; simp [h1, h2, h3, h4, h5]
theorem sameM_no1 {m n : Mach} (h : ¬ (m.st = n.st ∧ m.ev = n.ev)) : false = sameM m n := by unfold sameM; simp only [h, decide_false, Bool.false_and]
theorem sameM_no2 {m n : Mach} (h : sameB m.starts n.starts = false) : false = sameM m n := by unfold sameM; simp [h]
theorem sameM_no3 {m n : Mach} (h : sameB m.ends n.ends = false) : false = sameM m n := by unfold sameM; simp [h]
theorem sameM_no4 {m n : Mach} (h : ¬ m.arrows.length = n.arrows.length) : false = sameM m n := by unfold sameM; simp [h]

theorem below_box2 {w wr : World} {o o' : Obj} (hb : Below (w.heap.size + 2) ((w.alloc o).alloc o') wr) : Below w.heap.size w wr :=
  (((Below.refl _ _).alloc (Nat.le_refl _) o).alloc (by simp) o').trans (hb.mono (by omega))

theorem box2_cells {w wr : World} {m n : Mach} {l k : ML} {T : TypeId} (hb : Below (w.heap.size + 2) ((w.alloc (.cells (mcells m l) T)).alloc (.cells (mcells n k) T)) wr) :
    (wr.cell? ⟨w.heap.size, 0, none⟩ = some (.int .i64 m.st) ∧ wr.cell? ⟨w.heap.size, 1, none⟩ = some (.int .i64 m.ev) ∧ wr.cell? ⟨w.heap.size, 2, none⟩ = some (.slice l.a1 m.starts.length l.c1) ∧
    wr.cell? ⟨w.heap.size, 3, none⟩ = some (.slice l.a2 m.arrows.length l.c2) ∧ wr.cell? ⟨w.heap.size, 4, none⟩ = some (.slice l.a3 m.ends.length l.c3)) ∧
    (wr.cell? ⟨w.heap.size + 1, 0, none⟩ = some (.int .i64 n.st) ∧ wr.cell? ⟨w.heap.size + 1, 1, none⟩ = some (.int .i64 n.ev) ∧ wr.cell? ⟨w.heap.size + 1, 2, none⟩ = some (.slice k.a1 n.starts.length k.c1) ∧
    wr.cell? ⟨w.heap.size + 1, 3, none⟩ = some (.slice k.a2 n.arrows.length k.c2) ∧ wr.cell? ⟨w.heap.size + 1, 4, none⟩ = some (.slice k.a3 n.ends.length k.c3)) := by
  constructor
  · exact box_cells (((Below.refl _ _).alloc (by simp) _).trans (hb.mono (by omega)))
  · have := box_cells (w := w.alloc (.cells (mcells m l) T)) (wr := wr) (m := n) (l := k) (T := T) (by rw [World.size_alloc]; exact hb)
    rw [World.size_alloc] at this
    exact this

set_option maxHeartbeats 2000000 in
theorem refMSame_big (m n : Mach) (a1 : Option Addr) (c1 b off c2 : Nat) (a3 : Option Addr) (c3 : Nat) (e1 : Option Addr) (d1 b' off' d2 : Nat) (e3 : Option Addr) (d3 : Nat) (w : World)
    (h : MAt w m ⟨a1, c1, some ⟨b, off, none⟩, c2, a3, c3⟩) (hb : b < w.heap.size) (hca : CellsA w b off m.arrows)
    (h' : MAt w n ⟨e1, d1, some ⟨b', off', none⟩, d2, e3, d3⟩) (hb' : b' < w.heap.size) (hca' : CellsA w b' off' n.arrows)
    (q1 : Hid (m.st = n.st)) (q2 : Hid (m.ev = n.ev)) (q3 : Hid (sameB m.starts n.starts = true)) (q4 : Hid (sameB m.ends n.ends = true)) (q5 : Hid (m.arrows.length = n.arrows.length)) :
    Calls Tryd.prog 40 #[mval m ⟨a1, c1, some ⟨b, off, none⟩, c2, a3, c3⟩, mval n ⟨e1, d1, some ⟨b', off', none⟩, d2, e3, d3⟩] w fun e w' => e = .returned (.bool (sameM m n)) ∧ Below w.heap.size w w' := by
  have z1 : m.arrows.length ≤ 9223372036854775807 := Nat.le_trans h.a1 h.a2
  have z2 : n.arrows.length ≤ 9223372036854775807 := Nat.le_trans h'.a1 h'.a2
  have l1 : m.starts.length ≤ maxLen := Nat.le_trans h.s1 h.s2
  have l2 : n.starts.length ≤ maxLen := Nat.le_trans h'.s1 h'.s2
  have l3 : m.ends.length ≤ maxLen := Nat.le_trans h.e1 h.e2
  have l4 : n.ends.length ≤ maxLen := Nat.le_trans h'.e1 h'.e2
  have hgo : Hid (sameM m n = sameA (m.arrows.drop 0) (n.arrows.drop 0)) := sameM_go q1.out q2.out q3.out q4.out q5.out
  have f1 : (m.st != n.st) = false := by simp [q1.out]
  have f2 : (m.ev != n.ev) = false := by simp [q2.out]
  have f5 : ((m.arrows.length : Int) != (n.arrows.length : Int)) = false := by simp [q5.out]
  have b0 : Below w.heap.size w ((w.alloc (.cells (mcells m ⟨a1, c1, some ⟨b, off, none⟩, c2, a3, c3⟩) 25)).alloc (.cells (mcells n ⟨e1, d1, some ⟨b', off', none⟩, d2, e3, d3⟩) 25)) := ((Below.refl _ _).alloc (Nat.le_refl _) _).alloc (by simp) _
  have g := h.below b0 (Nat.le_refl _)
  have g' := h'.below b0 (Nat.le_refl _)
  go_enter Tryd.func40, Tryd.ntmps40
  go_wp2_with fail
  refine (same_any a1 e1 c1 d1 m.starts n.starts _ g.s g'.s l1 l2).mono ?_
  rintro e w1 ⟨rfl, r1, rfl⟩
  rw [q3.out]
  go_wp2_with fail
  refine (same_any a3 e3 c3 d3 m.ends n.ends _ (At.drewN g.e r1) (At.drewN g'.e r1) l3 l4).mono ?_
  rintro e w1 ⟨rfl, r2, rfl⟩
  rw [q4.out]
  clear g g' h h' b0
  go_wp2_with fail
  go_loopw [5] (fun i wr => ∃ k : Nat, k ≤ m.arrows.length ∧ i = .int .i64 k ∧ Below (w.heap.size + 2) ((w.alloc (.cells (mcells m ⟨a1, c1, some ⟨b, off, none⟩, c2, a3, c3⟩) 25)).alloc (.cells (mcells n ⟨e1, d1, some ⟨b', off', none⟩, d2, e3, d3⟩) 25)) wr ∧ Hid (sameM m n = sameA (m.arrows.drop k) (n.arrows.drop k))) (fun i _ => m.arrows.length - (intOf i).toNat)
  case atStart => exact ⟨0, Nat.zero_le _, rfl, below_drewN (Below.refl _ _) _, hgo⟩
  case round =>
    obtain ⟨k, hk, rfl, hbel, hr⟩ := hrel
    obtain ⟨⟨x0, x1, x2, x3, x4⟩, ⟨t0, t1, t2, t3, t4⟩⟩ := box2_cells hbel
    dsimp only at x3 t3
    have hold := below_box2 hbel
    by_cases hlt : k < m.arrows.length
    · have hlt' : k < n.arrows.length := by have := q5.out; omega
      obtain ⟨a, HA, y0, y1, y2⟩ := hca.at hlt
      have y0' := (hold.cell (p := ⟨b, off + k * 3, none⟩) hb).trans y0
      have y1' := (hold.cell (p := ⟨b, off + k * 3 + 1, none⟩) hb).trans y1
      have y2' := (hold.cell (p := ⟨b, off + k * 3 + 2, none⟩) hb).trans y2
      obtain ⟨c, HC, v0, v1, v2⟩ := hca'.at hlt'
      have v0' := (hold.cell (p := ⟨b', off' + k * 3, none⟩) hb').trans v0
      have v1' := (hold.cell (p := ⟨b', off' + k * 3 + 1, none⟩) hb').trans v1
      have v2' := (hold.cell (p := ⟨b', off' + k * 3 + 2, none⟩) hb').trans v2
      clear y0 y1 y2 v0 v1 v2 x0 x1 x2 x4 t0 t1 t2 t4
      have heq : ∀ w : World, (Op.equalIn 10000 54 (.agg #[.int .i64 a.f, .int .i64 a.e, .int .i64 a.t]) (.agg #[.int .i64 c.f, .int .i64 c.e, .int .i64 c.t])).run Tryd.prog w = .ok (arrEqB a c) w := run_equalIn_arrow a c
      have hgd := run_guard_arrow
      by_cases hq : arrEq a c
      · have HQ : Hid (arrEq a c) := hq
        have fq : arrEqB a c = true := by simp [arrEqB, hq]
        clear hq
        go_wp2
        go_quiet (fail)
        go_wp2
        go_roundw
        case rel => exact ⟨k + 1, by omega, by go_num, below_drewN hbel _, sameA_yes hlt hlt' HA HC hr HQ.out⟩
        case measure => simp [intOf]; omega
      · have HQ : Hid (¬ arrEq a c) := hq
        have fq : arrEqB a c = false := by simp [arrEqB, hq]
        clear hq
        go_wp2
        go_quiet (fail)
        go_wp2
        go_ret
        exact ⟨ret_bool (sameA_no hlt hlt' HA HC hr HQ.out), below_drewN hold _⟩
    · go_wp2
      go_ret
      exact ⟨ret_bool (sameA_end hlt q5.out hr), hold⟩

set_option maxHeartbeats 1000000 in
theorem refMSame_st (m n : Mach) (l k : ML) (w : World) (h : MAt w m l) (h' : MAt w n k) (q1 : Hid (¬ m.st = n.st)) :
    Calls Tryd.prog 40 #[mval m l, mval n k] w fun e w' => e = .returned (.bool (sameM m n)) ∧ Below w.heap.size w w' := by
  have b0 : Below w.heap.size w ((w.alloc (.cells (mcells m l) 25)).alloc (.cells (mcells n k) 25)) := ((Below.refl _ _).alloc (Nat.le_refl _) _).alloc (by simp) _
  have f1 : (m.st != n.st) = true := by simp [q1.out]
  go_enter Tryd.func40, Tryd.ntmps40
  go_wp2
  go_ret
  exact ⟨ret_bool (sameM_no1 (fun h => q1.out h.1)), b0⟩

set_option maxHeartbeats 1000000 in
theorem refMSame_ev (m n : Mach) (l k : ML) (w : World) (h : MAt w m l) (h' : MAt w n k) (q1 : Hid (m.st = n.st)) (q2 : Hid (¬ m.ev = n.ev)) :
    Calls Tryd.prog 40 #[mval m l, mval n k] w fun e w' => e = .returned (.bool (sameM m n)) ∧ Below w.heap.size w w' := by
  have b0 : Below w.heap.size w ((w.alloc (.cells (mcells m l) 25)).alloc (.cells (mcells n k) 25)) := ((Below.refl _ _).alloc (Nat.le_refl _) _).alloc (by simp) _
  have f1 : (m.st != n.st) = false := by simp [q1.out]
  have f2 : (m.ev != n.ev) = true := by simp [q2.out]
  go_enter Tryd.func40, Tryd.ntmps40
  go_wp2
  go_ret
  exact ⟨ret_bool (sameM_no1 (fun h => q2.out h.2)), b0⟩

set_option maxHeartbeats 1000000 in
theorem refMSame_starts (m n : Mach) (l k : ML) (w : World) (h : MAt w m l) (h' : MAt w n k) (q1 : Hid (m.st = n.st))(q2 : Hid (m.ev = n.ev))(q3 : Hid (sameB m.starts n.starts = false)) :
    Calls Tryd.prog 40 #[mval m l, mval n k] w fun e w' => e = .returned (.bool (sameM m n)) ∧ Below w.heap.size w w' := by
  have l1 : m.starts.length ≤ maxLen := Nat.le_trans h.s1 h.s2
  have l2 : n.starts.length ≤ maxLen := Nat.le_trans h'.s1 h'.s2
  have l3 : m.ends.length ≤ maxLen := Nat.le_trans h.e1 h.e2
  have l4 : n.ends.length ≤ maxLen := Nat.le_trans h'.e1 h'.e2
  have b0 : Below w.heap.size w ((w.alloc (.cells (mcells m l) 25)).alloc (.cells (mcells n k) 25)) := ((Below.refl _ _).alloc (Nat.le_refl _) _).alloc (by simp) _
  have g := h.below b0 (Nat.le_refl _)
  have g' := h'.below b0 (Nat.le_refl _)
  have f1 : (m.st != n.st) = false := by simp [q1.out]
  have f2 : (m.ev != n.ev) = false := by simp [q2.out]
  go_enter Tryd.func40, Tryd.ntmps40
  go_wp2_with fail
  refine (same_any l.a1 k.a1 l.c1 k.c1 m.starts n.starts _ g.s g'.s l1 l2).mono ?_
  rintro e w1 ⟨rfl, r1, rfl⟩
  rw [q3.out]
  go_wp2
  go_ret
  exact ⟨ret_bool (sameM_no2 q3.out), below_drewN b0 _⟩

set_option maxHeartbeats 1000000 in
theorem refMSame_ends (m n : Mach) (l k : ML) (w : World) (h : MAt w m l) (h' : MAt w n k) (q1 : Hid (m.st = n.st))(q2 : Hid (m.ev = n.ev))(q3 : Hid (sameB m.starts n.starts = true))(q4 : Hid (sameB m.ends n.ends = false)) :
    Calls Tryd.prog 40 #[mval m l, mval n k] w fun e w' => e = .returned (.bool (sameM m n)) ∧ Below w.heap.size w w' := by
  have l1 : m.starts.length ≤ maxLen := Nat.le_trans h.s1 h.s2
  have l2 : n.starts.length ≤ maxLen := Nat.le_trans h'.s1 h'.s2
  have l3 : m.ends.length ≤ maxLen := Nat.le_trans h.e1 h.e2
  have l4 : n.ends.length ≤ maxLen := Nat.le_trans h'.e1 h'.e2
  have b0 : Below w.heap.size w ((w.alloc (.cells (mcells m l) 25)).alloc (.cells (mcells n k) 25)) := ((Below.refl _ _).alloc (Nat.le_refl _) _).alloc (by simp) _
  have g := h.below b0 (Nat.le_refl _)
  have g' := h'.below b0 (Nat.le_refl _)
  have f1 : (m.st != n.st) = false := by simp [q1.out]
  have f2 : (m.ev != n.ev) = false := by simp [q2.out]
  go_enter Tryd.func40, Tryd.ntmps40
  go_wp2_with fail
  refine (same_any l.a1 k.a1 l.c1 k.c1 m.starts n.starts _ g.s g'.s l1 l2).mono ?_
  rintro e w1 ⟨rfl, r1, rfl⟩
  rw [q3.out]
  go_wp2_with fail
  refine (same_any l.a3 k.a3 l.c3 k.c3 m.ends n.ends _ (At.drewN g.e r1) (At.drewN g'.e r1) l3 l4).mono ?_
  rintro e w1 ⟨rfl, r2, rfl⟩
  rw [q4.out]
  go_wp2
  go_ret
  exact ⟨ret_bool (sameM_no3 q4.out), below_drewN b0 _⟩

set_option maxHeartbeats 1000000 in
theorem refMSame_len (m n : Mach) (l k : ML) (w : World) (h : MAt w m l) (h' : MAt w n k) (q1 : Hid (m.st = n.st))(q2 : Hid (m.ev = n.ev))(q3 : Hid (sameB m.starts n.starts = true))(q4 : Hid (sameB m.ends n.ends = true))(q5 : Hid (¬ m.arrows.length = n.arrows.length)) :
    Calls Tryd.prog 40 #[mval m l, mval n k] w fun e w' => e = .returned (.bool (sameM m n)) ∧ Below w.heap.size w w' := by
  have l1 : m.starts.length ≤ maxLen := Nat.le_trans h.s1 h.s2
  have l2 : n.starts.length ≤ maxLen := Nat.le_trans h'.s1 h'.s2
  have l3 : m.ends.length ≤ maxLen := Nat.le_trans h.e1 h.e2
  have l4 : n.ends.length ≤ maxLen := Nat.le_trans h'.e1 h'.e2
  have b0 : Below w.heap.size w ((w.alloc (.cells (mcells m l) 25)).alloc (.cells (mcells n k) 25)) := ((Below.refl _ _).alloc (Nat.le_refl _) _).alloc (by simp) _
  have g := h.below b0 (Nat.le_refl _)
  have g' := h'.below b0 (Nat.le_refl _)
  have f1 : (m.st != n.st) = false := by simp [q1.out]
  have f2 : (m.ev != n.ev) = false := by simp [q2.out]
  have f5 : ((m.arrows.length : Int) != (n.arrows.length : Int)) = true := by have := q5.out; rw [bne_iff_ne]; omega
  go_enter Tryd.func40, Tryd.ntmps40
  go_wp2_with fail
  refine (same_any l.a1 k.a1 l.c1 k.c1 m.starts n.starts _ g.s g'.s l1 l2).mono ?_
  rintro e w1 ⟨rfl, r1, rfl⟩
  rw [q3.out]
  go_wp2_with fail
  refine (same_any l.a3 k.a3 l.c3 k.c3 m.ends n.ends _ (At.drewN g.e r1) (At.drewN g'.e r1) l3 l4).mono ?_
  rintro e w1 ⟨rfl, r2, rfl⟩
  rw [q4.out]
  go_wp2
  go_ret
  exact ⟨ret_bool (sameM_no4 q5.out), below_drewN b0 _⟩

set_option maxHeartbeats 1000000 in
theorem refMSame_none (m n : Mach) (l k : ML) (w : World) (h : MAt w m l) (h' : MAt w n k) (q1 : Hid (m.st = n.st))(q2 : Hid (m.ev = n.ev))(q3 : Hid (sameB m.starts n.starts = true))(q4 : Hid (sameB m.ends n.ends = true))(p1 : Hid (m.arrows = [])) (p2 : Hid (n.arrows = [])) :
    Calls Tryd.prog 40 #[mval m l, mval n k] w fun e w' => e = .returned (.bool (sameM m n)) ∧ Below w.heap.size w w' := by
  have l1 : m.starts.length ≤ maxLen := Nat.le_trans h.s1 h.s2
  have l2 : n.starts.length ≤ maxLen := Nat.le_trans h'.s1 h'.s2
  have l3 : m.ends.length ≤ maxLen := Nat.le_trans h.e1 h.e2
  have l4 : n.ends.length ≤ maxLen := Nat.le_trans h'.e1 h'.e2
  have b0 : Below w.heap.size w ((w.alloc (.cells (mcells m l) 25)).alloc (.cells (mcells n k) 25)) := ((Below.refl _ _).alloc (Nat.le_refl _) _).alloc (by simp) _
  have g := h.below b0 (Nat.le_refl _)
  have g' := h'.below b0 (Nat.le_refl _)
  have f1 : (m.st != n.st) = false := by simp [q1.out]
  have f2 : (m.ev != n.ev) = false := by simp [q2.out]
  have n1 : m.arrows.length = 0 := by rw [p1.out]; rfl
  have n2 : n.arrows.length = 0 := by rw [p2.out]; rfl
  have HG : Hid (true = sameM m n) := by
    show true = sameM m n
    rw [sameM_go q1.out q2.out q3.out q4.out (by rw [n1, n2]), p1.out, p2.out]; rfl
  go_enter Tryd.func40, Tryd.ntmps40
  go_wp2_with fail
  refine (same_any l.a1 k.a1 l.c1 k.c1 m.starts n.starts _ g.s g'.s l1 l2).mono ?_
  rintro e w1 ⟨rfl, r1, rfl⟩
  rw [q3.out]
  go_wp2_with fail
  refine (same_any l.a3 k.a3 l.c3 k.c3 m.ends n.ends _ (At.drewN g.e r1) (At.drewN g'.e r1) l3 l4).mono ?_
  rintro e w1 ⟨rfl, r2, rfl⟩
  rw [q4.out]
  go_wp2_with fail
  refine wp_loop_rounds 1 ?_
  rw [rounds_succ]
  go_wp2
  go_ret
  exact ⟨ret_bool HG.out, below_drewN b0 _⟩

theorem refMSame_any (m n : Mach) (l k : ML) (w : World) (h : MAt w m l) (h' : MAt w n k) :
    Calls Tryd.prog 40 #[mval m l, mval n k] w fun e w' => e = .returned (.bool (sameM m n)) ∧ Below w.heap.size w w' := by
  by_cases q1 : m.st = n.st
  · by_cases q2 : m.ev = n.ev
    · by_cases q3 : sameB m.starts n.starts = true
      · by_cases q4 : sameB m.ends n.ends = true
        · by_cases q5 : m.arrows.length = n.arrows.length
          · obtain ⟨a1, c1, a2, c2, a3, c3⟩ := l
            obtain ⟨e1, d1, e2, d2, e3, d3⟩ := k
            rcases h.a with h0 | ⟨b, off, h0, hb, hc⟩
            · exact refMSame_none m n _ _ w h h' q1 q2 q3 q4 h0 (List.eq_nil_of_length_eq_zero (by rw [← q5, h0]; rfl))
            · rcases h'.a with h0' | ⟨b', off', h0', hb', hc'⟩
              · exact refMSame_none m n _ _ w h h' q1 q2 q3 q4 (List.eq_nil_of_length_eq_zero (by rw [q5, h0']; rfl)) h0'
              · have h0 : a2 = some ⟨b, off, none⟩ := h0
                subst h0
                have h0' : e2 = some ⟨b', off', none⟩ := h0'
                subst h0'
                exact refMSame_big m n a1 c1 b off c2 a3 c3 e1 d1 b' off' d2 e3 d3 w h hb hc h' hb' hc' q1 q2 q3 q4 q5
          · exact refMSame_len m n l k w h h' q1 q2 q3 q4 q5
        · exact refMSame_ends m n l k w h h' q1 q2 q3 (by show _ = _; rw [← Bool.not_eq_true]; exact q4)
      · exact refMSame_starts m n l k w h h' q1 q2 (by show _ = _; rw [← Bool.not_eq_true]; exact q3)
    · exact refMSame_ev m n l k w h h' q1 q2
  · exact refMSame_st m n l k w h h' q1

end Go.Proofs.YtkkkacmccndinaaDoor
namespace Go.Proofs.YtkkkacmccndinaaDoor
open Go.RowKit
set_option linter.unusedVariables false

set_option maxHeartbeats 400000 in
theorem refAhead_any (a b : Arr) (w : World) :
    Calls Tryd.prog 43 #[.agg #[.int .i64 a.f, .int .i64 a.e, .int .i64 a.t], .agg #[.int .i64 b.f, .int .i64 b.e, .int .i64 b.t]] w fun e w' => e = .returned (.bool (aheadB a b)) ∧ Below w.heap.size w w' := by
  obtain ⟨af, ae, at'⟩ := a
  obtain ⟨bf, be, bt⟩ := b
  by_cases h1 : af = bf
  · have d1 : (af != bf) = false := by simp [h1]
    have H1 : Hid (af = bf) := h1
    clear h1
    by_cases h2 : ae = be
    · have d2 : (ae != be) = false := by simp [h2]
      have H2 : Hid (ae = be) := h2
      clear h2
      go_enter Tryd.func43, Tryd.ntmps43
      go_wp2
      go_ret
      exact ⟨ret_bool (by simp [aheadB, H1.out, H2.out]), ((Below.refl _ _).alloc (Nat.le_refl _) _).alloc (by simp) _⟩
    · have d2 : (ae != be) = true := by simp [h2]
      go_enter Tryd.func43, Tryd.ntmps43
      go_wp2
      go_ret
      exact ⟨ret_bool (by simp [aheadB, H1.out, h2]), ((Below.refl _ _).alloc (Nat.le_refl _) _).alloc (by simp) _⟩
  · have d1 : (af != bf) = true := by simp [h1]
    go_enter Tryd.func43, Tryd.ntmps43
    go_wp2
    go_ret
    exact ⟨ret_bool (by simp [aheadB, h1]), ((Below.refl _ _).alloc (Nat.le_refl _) _).alloc (by simp) _⟩

theorem below_call {B n : Nat} {W0 wr w1 : World} {o : Obj} (h : Below B W0 wr) (hB : B ≤ wr.heap.size) (h1 : Below n ((wr.alloc o).drew) w1) (hn : B ≤ n) : Below B W0 w1 :=
  (h.alloc hB o).drew.trans (h1.mono hn)

end Go.Proofs.YtkkkacmccndinaaDoor
