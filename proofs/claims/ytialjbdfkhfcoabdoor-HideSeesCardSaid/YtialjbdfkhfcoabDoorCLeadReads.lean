/-
  The reads of one statement of the closure of machine.leader, in whatever order they come: one walk.
-/
import Derived.Test.YtialjbdfkhfcoabDoorG10
namespace Go.Proofs.YtialjbdfkhfcoabDoor
open Go.RowKit Go.Shelf
set_option linter.unusedVariables false
attribute [local go_sem] Oper.semAt_some

abbrev leadOps : Array Oper := #[{ dst := some 12, op := Op.load 46 (Operand.tmp 7), type := 46, pos := "machine.go:107", after := #[], guard := none }, { dst := some 13, op := Op.load 71 (Operand.tmp 2), type := 71, pos := "machine.go:107", after := #[], guard := none }, { dst := some 14, op := Op.move (Operand.tmp 8), type := 3, pos := "machine.go:107", after := #[], guard := none }, { dst := some 15, op := Op.fieldAddr 25 (Operand.tmp 3) 1, type := 0, pos := "machine.go:107", after := #[], guard := none }, { dst := some 16, op := Op.load 3 (Operand.tmp 15), type := 3, pos := "machine.go:107", after := #[{ on := 3, ground := Ground.data }], guard := none }, { dst := some 17, op := Op.binOp BinOp.mul 3 (Operand.tmp 14) (Operand.tmp 16) 3, type := 3, pos := "machine.go:107", after := #[{ on := 2, ground := Ground.data }, { on := 4, ground := Ground.data }], guard := none }, { dst := some 18, op := Op.load 3 (Operand.tmp 5), type := 3, pos := "machine.go:107", after := #[], guard := none }, { dst := some 19, op := Op.binOp BinOp.add 3 (Operand.tmp 17) (Operand.tmp 18) 3, type := 3, pos := "machine.go:107", after := #[{ on := 5, ground := Ground.data }, { on := 6, ground := Ground.data }], guard := none }, { dst := some 20, op := Op.indexAddr 71 (Operand.tmp 13) (Operand.tmp 19), type := 0, pos := "machine.go:107", after := #[{ on := 1, ground := Ground.data }, { on := 7, ground := Ground.data }], guard := none }, { dst := some 21, op := Op.load 46 (Operand.tmp 20), type := 46, pos := "machine.go:107", after := #[{ on := 8, ground := Ground.data }], guard := none }, { dst := some 22, op := Op.call { callee := Callee.value (Operand.func 70), args := #[Operand.tmp 12, Operand.tmp 21], argTypes := #[46, 46] }, type := 46, pos := "machine.go:107", after := #[{ on := 0, ground := Ground.data }, { on := 9, ground := Ground.data }], guard := none }, { dst := none, op := Op.store 46 (Operand.tmp 7) (Operand.tmp 22), type := 0, pos := "machine.go:107", after := #[{ on := 10, ground := Ground.data }, { on := 10, ground := Ground.chain }, { on := 0, ground := Ground.phase }, { on := 1, ground := Ground.phase }, { on := 2, ground := Ground.phase }, { on := 3, ground := Ground.phase }, { on := 4, ground := Ground.phase }, { on := 5, ground := Ground.phase }, { on := 6, ground := Ground.phase }, { on := 7, ground := Ground.phase }, { on := 8, ground := Ground.phase }, { on := 9, ground := Ground.phase }, { on := 10, ground := Ground.phase }], guard := none }]

abbrev leadAct (t0 t1 t4 t6 t9 t10 t11 : Value) (pt pm be bo pg N p : Nat) (x ev q e : Nat) (O R : Nat → Nat) (b0 b1 b2 b3 b4 b5 b6 b7 b8 b9 : Bool) : Act :=
  { tmps := #[t0, t1, .pointer (some ⟨pt, 0, none⟩), .pointer (some ⟨pm, 0, none⟩), t4, .pointer (some ⟨be, 0, none⟩), t6, .pointer (some ⟨bo, 0, none⟩), .int .i64 x, t9, t10, t11, cond b0 (sval O) undef, cond b1 (.slice (some ⟨pg, 0, none⟩) N N) undef, cond b2 (.int .i64 x) undef, cond b3 (.pointer (some ⟨pm, 1, none⟩)) undef, cond b4 (.int .i64 ev) undef, cond b5 (.int .i64 q) undef, cond b6 (.int .i64 e) undef, cond b7 (.int .i64 p) undef, cond b8 (.pointer (some ⟨pg, p * 4, none⟩)) undef, cond b9 (sval R) undef, undef, undef], defers := [] }

def leadCnt (b0 b1 b2 b3 b4 b5 b6 b7 b8 b9 : Bool) : Nat := (!b0).toNat + (!b1).toNat + (!b2).toNat + (!b3).toNat + (!b4).toNat + (!b5).toNat + (!b6).toNat + (!b7).toNat + (!b8).toNat + (!b9).toNat
def leadShut (b0 b1 b2 b3 b4 b5 b6 b7 b8 b9 : Bool) : Bool := (!b4 || b3) && ((!b5 || (b2 && b4)) && ((!b7 || (b5 && b6)) && ((!b8 || (b1 && b7)) && (!b9 || b8))))
def leadChk (b0 b1 b2 b3 b4 b5 b6 b7 b8 b9 : Bool) : Bool := !leadShut b0 b1 b2 b3 b4 b5 b6 b7 b8 b9 || ((Region.ready .any leadOps #[b0, b1, b2, b3, b4, b5, b6, b7, b8, b9, false, false]).all (fun i => [!b0, !b1, !b2, !b3, !b4 && b3, !b5 && (b2 && b4), !b6, !b7 && (b5 && b6), !b8 && (b1 && b7), !b9 && b8, b0 && (b1 && (b2 && (b3 && (b4 && (b5 && (b6 && (b7 && (b8 && b9)))))))), false].getD i false) && !(Region.ready .any leadOps #[b0, b1, b2, b3, b4, b5, b6, b7, b8, b9, false, false]).isEmpty)

set_option maxRecDepth 100000 in
theorem leadChk_all : ∀ b0 b1 b2 b3 b4 b5 b6 b7 b8 b9 : Bool, leadChk b0 b1 b2 b3 b4 b5 b6 b7 b8 b9 = true := by decide +kernel
theorem not_zero : ∀ {b : Bool}, (!b).toNat = 0 → b = true := by decide
theorem leadCnt_zero (b0 b1 b2 b3 b4 b5 b6 b7 b8 b9 : Bool) (h : leadCnt b0 b1 b2 b3 b4 b5 b6 b7 b8 b9 = 0) : b0 = true ∧ b1 = true ∧ b2 = true ∧ b3 = true ∧ b4 = true ∧ b5 = true ∧ b6 = true ∧ b7 = true ∧ b8 = true ∧ b9 = true := by
  unfold leadCnt at h
  exact ⟨not_zero (by omega), not_zero (by omega), not_zero (by omega), not_zero (by omega), not_zero (by omega), not_zero (by omega), not_zero (by omega), not_zero (by omega), not_zero (by omega), not_zero (by omega)⟩

set_option maxRecDepth 100000 in
set_option maxHeartbeats 4000000 in
theorem lead_reads (l' n : Nat) (Q : Exit → Act → World → Prop) (t0 t1 t4 t6 t9 t10 t11 : Value) (pt pm be bo pg N p x ev q e : Nat) (O R : Nat → Nat) (W : World)
    (o0 : W.cell? ⟨bo, 0, none⟩ = some (.int .u64 (O 0))) (o1 : W.cell? ⟨bo, 1, none⟩ = some (.int .u64 (O 1))) (o2 : W.cell? ⟨bo, 2, none⟩ = some (.int .u64 (O 2))) (o3 : W.cell? ⟨bo, 3, none⟩ = some (.int .u64 (O 3)))
    (t0' : W.cell? ⟨pg, p * 4, none⟩ = some (.int .u64 (R 0))) (t1' : W.cell? ⟨pg, p * 4 + 1, none⟩ = some (.int .u64 (R 1))) (t2' : W.cell? ⟨pg, p * 4 + 2, none⟩ = some (.int .u64 (R 2))) (t3' : W.cell? ⟨pg, p * 4 + 3, none⟩ = some (.int .u64 (R 3)))
    (c1 : W.cell? ⟨pt, 0, none⟩ = some (.slice (some ⟨pg, 0, none⟩) N N)) (c2 : W.cell? ⟨be, 0, none⟩ = some (.int .i64 e)) (c3 : W.cell? ⟨pm, 1, none⟩ = some (.int .i64 ev))
    (hw1 : IntKind.i64.wrap ((x : Int) * (ev : Int)) = (q : Int)) (hw2 : IntKind.i64.wrap ((q : Int) + (e : Int)) = (p : Int)) (hp0 : (0 : Int) ≤ (p : Int)) (hpI : (p : Int) < (N : Int)) (hpN : p < N)
    (hend : wpAnyIn (Fence.wide.inRound l') n Tryd.prog .any leadOps Q 2 #[true, true, true, true, true, true, true, true, true, true, false, false] (leadAct t0 t1 t4 t6 t9 t10 t11 pt pm be bo pg N p x ev q e O R true true true true true true true true true true) W) :
    ∀ (m : Nat) (b0 b1 b2 b3 b4 b5 b6 b7 b8 b9 : Bool), leadCnt b0 b1 b2 b3 b4 b5 b6 b7 b8 b9 = m → leadShut b0 b1 b2 b3 b4 b5 b6 b7 b8 b9 = true → wpAnyIn (Fence.wide.inRound l') n Tryd.prog .any leadOps Q (m + 2) #[b0, b1, b2, b3, b4, b5, b6, b7, b8, b9, false, false] (leadAct t0 t1 t4 t6 t9 t10 t11 pt pm be bo pg N p x ev q e O R b0 b1 b2 b3 b4 b5 b6 b7 b8 b9) W := by
  intro m
  induction m with
  | zero =>
    intro b0 b1 b2 b3 b4 b5 b6 b7 b8 b9 hc hs
    obtain ⟨rfl, rfl, rfl, rfl, rfl, rfl, rfl, rfl, rfl, rfl⟩ := leadCnt_zero b0 b1 b2 b3 b4 b5 b6 b7 b8 b9 hc
    exact hend
  | succ m ih =>
    intro b0 b1 b2 b3 b4 b5 b6 b7 b8 b9 hc hs
    have hk := leadChk_all b0 b1 b2 b3 b4 b5 b6 b7 b8 b9
    unfold leadChk at hk
    rw [hs, Bool.not_true, Bool.false_or, Bool.and_eq_true, List.all_eq_true] at hk
    refine ⟨fun h0 => ?_, fun i hi => ?_⟩
    · have h2 := hk.2
      rw [h0] at h2
      cases h2
    · have h1 := hk.1 i hi
      clear hk hi
      rcases i with _ | _ | _ | _ | _ | _ | _ | _ | _ | _ | _ | _ | i
      · have h : b0 = false := by simpa using h1
        subst h
        have hc' : leadCnt true b1 b2 b3 b4 b5 b6 b7 b8 b9 = m := by simp only [leadCnt, Bool.not_true, Bool.not_false, Bool.toNat_true, Bool.toNat_false] at hc ⊢; omega
        have hs' : leadShut true b1 b2 b3 b4 b5 b6 b7 b8 b9 = true := by revert hs; clear hc hc' ih h1; revert b1 b2 b3 b4 b5 b6 b7 b8 b9;  decide +kernel
        have hh := ih true b1 b2 b3 b4 b5 b6 b7 b8 b9 hc' hs'
        clear ih hc hs hc' hs' h1
        refine wpOpIn_step rfl (fun K hK => ?_)
        go_simp
        exact hK _ _ hh
      · have h : b1 = false := by simpa using h1
        subst h
        have hc' : leadCnt b0 true b2 b3 b4 b5 b6 b7 b8 b9 = m := by simp only [leadCnt, Bool.not_true, Bool.not_false, Bool.toNat_true, Bool.toNat_false] at hc ⊢; omega
        have hs' : leadShut b0 true b2 b3 b4 b5 b6 b7 b8 b9 = true := by revert hs; clear hc hc' ih h1; revert b0 b2 b3 b4 b5 b6 b7 b8 b9;  decide +kernel
        have hh := ih b0 true b2 b3 b4 b5 b6 b7 b8 b9 hc' hs'
        clear ih hc hs hc' hs' h1
        refine wpOpIn_step rfl (fun K hK => ?_)
        go_simp
        exact hK _ _ hh
      · have h : b2 = false := by simpa using h1
        subst h
        have hc' : leadCnt b0 b1 true b3 b4 b5 b6 b7 b8 b9 = m := by simp only [leadCnt, Bool.not_true, Bool.not_false, Bool.toNat_true, Bool.toNat_false] at hc ⊢; omega
        have hs' : leadShut b0 b1 true b3 b4 b5 b6 b7 b8 b9 = true := by revert hs; clear hc hc' ih h1; revert b0 b1 b3 b4 b5 b6 b7 b8 b9;  decide +kernel
        have hh := ih b0 b1 true b3 b4 b5 b6 b7 b8 b9 hc' hs'
        clear ih hc hs hc' hs' h1
        refine wpOpIn_step rfl (fun K hK => ?_)
        go_simp
        exact hK _ _ hh
      · have h : b3 = false := by simpa using h1
        subst h
        have hc' : leadCnt b0 b1 b2 true b4 b5 b6 b7 b8 b9 = m := by simp only [leadCnt, Bool.not_true, Bool.not_false, Bool.toNat_true, Bool.toNat_false] at hc ⊢; omega
        have hs' : leadShut b0 b1 b2 true b4 b5 b6 b7 b8 b9 = true := by revert hs; clear hc hc' ih h1; revert b0 b1 b2 b4 b5 b6 b7 b8 b9;  decide +kernel
        have hh := ih b0 b1 b2 true b4 b5 b6 b7 b8 b9 hc' hs'
        clear ih hc hs hc' hs' h1
        refine wpOpIn_step rfl (fun K hK => ?_)
        go_simp
        exact hK _ _ hh
      · obtain ⟨h, g3⟩ : b4 = false ∧ b3 = true := by simpa using h1
        subst h
        subst g3
        have hc' : leadCnt b0 b1 b2 true true b5 b6 b7 b8 b9 = m := by simp only [leadCnt, Bool.not_true, Bool.not_false, Bool.toNat_true, Bool.toNat_false] at hc ⊢; omega
        have hs' : leadShut b0 b1 b2 true true b5 b6 b7 b8 b9 = true := by revert hs; clear hc hc' ih h1; revert b0 b1 b2 b5 b6 b7 b8 b9;  decide +kernel
        have hh := ih b0 b1 b2 true true b5 b6 b7 b8 b9 hc' hs'
        clear ih hc hs hc' hs' h1
        refine wpOpIn_step rfl (fun K hK => ?_)
        go_simp
        exact hK _ _ hh
      · obtain ⟨h, ⟨g2, g4⟩⟩ : b5 = false ∧ b2 = true ∧ b4 = true := by simpa using h1
        subst h
        subst g2
        subst g4
        have hc' : leadCnt b0 b1 true b3 true true b6 b7 b8 b9 = m := by simp only [leadCnt, Bool.not_true, Bool.not_false, Bool.toNat_true, Bool.toNat_false] at hc ⊢; omega
        have hs' : leadShut b0 b1 true b3 true true b6 b7 b8 b9 = true := by revert hs; clear hc hc' ih h1; revert b0 b1 b3 b6 b7 b8 b9;  decide +kernel
        have hh := ih b0 b1 true b3 true true b6 b7 b8 b9 hc' hs'
        clear ih hc hs hc' hs' h1
        refine wpOpIn_step rfl (fun K hK => ?_)
        go_simp
        exact hK _ _ hh
      · have h : b6 = false := by simpa using h1
        subst h
        have hc' : leadCnt b0 b1 b2 b3 b4 b5 true b7 b8 b9 = m := by simp only [leadCnt, Bool.not_true, Bool.not_false, Bool.toNat_true, Bool.toNat_false] at hc ⊢; omega
        have hs' : leadShut b0 b1 b2 b3 b4 b5 true b7 b8 b9 = true := by revert hs; clear hc hc' ih h1; revert b0 b1 b2 b3 b4 b5 b7 b8 b9;  decide +kernel
        have hh := ih b0 b1 b2 b3 b4 b5 true b7 b8 b9 hc' hs'
        clear ih hc hs hc' hs' h1
        refine wpOpIn_step rfl (fun K hK => ?_)
        go_simp
        exact hK _ _ hh
      · obtain ⟨h, ⟨g5, g6⟩⟩ : b7 = false ∧ b5 = true ∧ b6 = true := by simpa using h1
        subst h
        subst g5
        subst g6
        have hc' : leadCnt b0 b1 b2 b3 b4 true true true b8 b9 = m := by simp only [leadCnt, Bool.not_true, Bool.not_false, Bool.toNat_true, Bool.toNat_false] at hc ⊢; omega
        have hs' : leadShut b0 b1 b2 b3 b4 true true true b8 b9 = true := by revert hs; clear hc hc' ih h1; revert b0 b1 b2 b3 b4 b8 b9;  decide +kernel
        have hh := ih b0 b1 b2 b3 b4 true true true b8 b9 hc' hs'
        clear ih hc hs hc' hs' h1
        refine wpOpIn_step rfl (fun K hK => ?_)
        go_simp
        exact hK _ _ hh
      · obtain ⟨h, ⟨g1, g7⟩⟩ : b8 = false ∧ b1 = true ∧ b7 = true := by simpa using h1
        subst h
        subst g1
        subst g7
        have hc' : leadCnt b0 true b2 b3 b4 b5 b6 true true b9 = m := by simp only [leadCnt, Bool.not_true, Bool.not_false, Bool.toNat_true, Bool.toNat_false] at hc ⊢; omega
        have hs' : leadShut b0 true b2 b3 b4 b5 b6 true true b9 = true := by revert hs; clear hc hc' ih h1; revert b0 b2 b3 b4 b5 b6 b9;  decide +kernel
        have hh := ih b0 true b2 b3 b4 b5 b6 true true b9 hc' hs'
        clear ih hc hs hc' hs' h1
        refine wpOpIn_step rfl (fun K hK => ?_)
        go_simp
        exact hK _ _ hh
      · obtain ⟨h, g8⟩ : b9 = false ∧ b8 = true := by simpa using h1
        subst h
        subst g8
        have hc' : leadCnt b0 b1 b2 b3 b4 b5 b6 b7 true true = m := by simp only [leadCnt, Bool.not_true, Bool.not_false, Bool.toNat_true, Bool.toNat_false] at hc ⊢; omega
        have hs' : leadShut b0 b1 b2 b3 b4 b5 b6 b7 true true = true := by revert hs; clear hc hc' ih h1; revert b0 b1 b2 b3 b4 b5 b6 b7;  decide +kernel
        have hh := ih b0 b1 b2 b3 b4 b5 b6 b7 true true hc' hs'
        clear ih hc hs hc' hs' h1
        refine wpOpIn_step rfl (fun K hK => ?_)
        go_simp
        exact hK _ _ hh
      · have hall : leadCnt b0 b1 b2 b3 b4 b5 b6 b7 b8 b9 = 0 := by
          have : b0 = true ∧ b1 = true ∧ b2 = true ∧ b3 = true ∧ b4 = true ∧ b5 = true ∧ b6 = true ∧ b7 = true ∧ b8 = true ∧ b9 = true := by simpa using h1
          obtain ⟨rfl, rfl, rfl, rfl, rfl, rfl, rfl, rfl, rfl, rfl⟩ := this
          rfl
        rw [hall] at hc; cases hc
      · simp at h1
      · simp at h1

end Go.Proofs.YtialjbdfkhfcoabDoor
