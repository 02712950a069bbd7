/-
  machine.leader, of whatever machine may be.
-/
import Derived.Test.YtialjbdfkhfcoabDoorCLead
namespace Go.Proofs.YtialjbdfkhfcoabDoor
open Go.RowKit
set_option linter.unusedVariables false

set_option maxRecDepth 100000 in
set_option maxHeartbeats 4000000 in
theorem leader_none (st ev : Nat) (starts ends : List Int) (l : ML) (w : World) (hst : st ≤ 256) (hev : ev ≤ 8) :
    Calls Tryd.prog 57 #[mval ⟨st, ev, starts, [], ends⟩ l] w fun e w' => e = .returned (.func (.func 83) #[] #[.pointer (some ⟨w.heap.size + 2, 0, none⟩), .pointer (some ⟨w.heap.size, 0, none⟩)]) ∧ LD w' (w.heap.size + 2) (w.heap.size + 1) w.heap.size ⟨st, ev, starts, [], ends⟩ l (st * ev) (tabS ev []) ∧ Below w.heap.size w w' := by
  obtain ⟨i0, hi, hz0, hz1, hz2⟩ := info_parts Tryd.infoSet
  have hmf : ∀ (fn : Fn) (first cap : Array Value) (w : World), (Instr.makeFunc fn first cap).run Tryd.prog w = .ok (.func fn first cap) w := fun _ _ _ _ => rfl
  have hN : st * ev ≤ 2048 := Nat.mul_le_mul hst hev
  obtain ⟨N, HN⟩ : ∃ N, Hid (N = st * ev) := ⟨_, rfl⟩
  rw [← HN.out] at hN ⊢
  have hw0 : IntKind.i64.wrap ((st : Int) * (ev : Int)) = (N : Int) := by rw [IntKind.wrap_i64, ← Int.natCast_mul, ← HN.out]; omega
  have hmk : ∀ w : World, (Instr.makeSlice 71 (.int .i64 N) (.int .i64 N)).run Tryd.prog w = .ok (.slice (some ⟨w.heap.size, 0, none⟩) N N) (w.alloc (.cells (madeCells #[.int .u64 0, .int .u64 0, .int .u64 0, .int .u64 0] (N * 4)) 46)) := fun w => by
    have := run_make (P := Tryd.prog) w 71 46 i0 (sval zeroS) Tryd.underlying71 hi hz0 .i64 .i64 N N (by omega) (by omega) (by rw [hz2]; omega) (by omega)
    rw [hz1, Int.toNat_natCast] at this
    exact this
  clear hi hz0 hz1 hz2
  go_enter Tryd.func57, Tryd.ntmps57
  go_wp2
  refine wp_loop_rounds 1 ?_
  rw [rounds_succ]
  go_wp2
  go_ret
  refine ⟨rfl, ⟨?_, TB.made ?_, ((Blk.new w _ _).alloc _).alloc _⟩, (((Below.refl _ _).alloc (Nat.le_refl _) _).alloc (by simp) _).alloc (by simp; omega) _⟩
  · have := Boxed.new ((w.alloc (.cells (mcells ⟨st, ev, starts, [], ends⟩ l) 25)).alloc (.cells (madeCells #[.int .u64 0, .int .u64 0, .int .u64 0, .int .u64 0] (N * 4)) 46)) 71 (.slice (some ⟨w.heap.size + 1, 0, none⟩) N N)
    rwa [World.size_alloc, World.size_alloc] at this
  · have := (Blk.new (w.alloc (.cells (mcells ⟨st, ev, starts, [], ends⟩ l) 25)) 46 (madeCells #[.int .u64 0, .int .u64 0, .int .u64 0, .int .u64 0] (N * 4))).alloc (.cells #[.slice (some ⟨w.heap.size + 1, 0, none⟩) N N] 71)
    rwa [World.size_alloc] at this

/-- What machine.leader answers, of what may be. -/
theorem leader_any (m : Mach) (l : ML) (w : World) (hm : mayB m = true) (h : MAt w m l) :
    Calls Tryd.prog 57 #[mval m l] w fun e w' => e = .returned (.func (.func 83) #[] #[.pointer (some ⟨w.heap.size + 2, 0, none⟩), .pointer (some ⟨w.heap.size, 0, none⟩)]) ∧ LD w' (w.heap.size + 2) (w.heap.size + 1) w.heap.size m l (m.st.toNat * m.ev.toNat) (tabS m.ev.toNat m.arrows) ∧ Below w.heap.size w w' := by
  have hz := mayB_size hm
  have ha := arrsFrom_in (mayB_arrs hm)
  obtain ⟨st, ev, starts, arrows, ends⟩ := m
  obtain ⟨z1, z2, z3, z4, z5⟩ := hz
  simp only at z1 z2 z3 z4 z5 ha
  obtain ⟨s, rfl⟩ : ∃ s : Nat, st = (s : Int) := ⟨st.toNat, by omega⟩
  obtain ⟨e, rfl⟩ : ∃ e : Nat, ev = (e : Int) := ⟨ev.toNat, by omega⟩
  obtain ⟨a1, c1, a2, c2, a3, c3⟩ := l
  simp only [Int.toNat_natCast]
  rcases h.a with h0 | ⟨b, off, h0, hb, hc⟩
  · have h0 : arrows = [] := h0
    subst h0
    exact leader_none s e starts ends _ w (by omega) (by omega)
  · have h0 : a2 = some ⟨b, off, none⟩ := h0
    subst h0
    exact leader_some s e starts arrows ends a1 c1 b off c2 a3 c3 w (by omega) (by omega) z5 hb hc ha

end Go.Proofs.YtialjbdfkhfcoabDoor
