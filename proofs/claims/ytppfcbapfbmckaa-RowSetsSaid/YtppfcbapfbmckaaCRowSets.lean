/-
  For every two lists and a number: if both are rows, what Join, Meet and Less answer are rows that have the number just when one of them, both, or the first alone has it; else all three tell the same error and nothing else: RowSets returns true, and nothing that was there is changed. No condition.
  The frame is the shell that the kit's proof-skeleton writes; the walk in it is ours.
-/
import Derived.WalkKit
import Derived.ProofKit
import Derived.OpenShut
import Derived.ShutString
import Derived.ChangeOld
import Derived.Below
import Derived.Test.YtppfcbapfbmckaaRows
import Derived.Test.YtppfcbapfbmckaaG04
import Derived.Test.YtppfcbapfbmckaaCKeepHas
import Derived.Test.YtppfcbapfbmckaaCRowHas
namespace Go.Proofs.Ytppfcbapfbmckaa
open Go.ChangeShapes Go.WideShapes Go.ChangeAt Go.RowKit
open Go.ChangeMaps (open_string shut_string)
set_option linter.unusedVariables false

theorem own : ownKnob Try.prog.godebug = none := by kernel_rfl
theorem laidOut : laidOutB Try.prog = true := by kernel_rfl

/-- WHAT THE WALK IS TOLD OF A SLICE OF INTEGERS THAT CAME IN: it is nil; or it leads to a row of 'cap' cells, the numbers 'zs' (the first 'len' are its elements, the rest its spare room), each fitting its kind. -/
def IsRow (k : IntKind) (w : World) (a : Option Addr) (len cap : Nat) (zs : List Int) : Prop :=
  (a = none ∧ len = 0 ∧ cap = 0 ∧ zs = []) ∨
  ∃ x, a = some x ∧ len ≤ cap ∧ cap ≤ maxLen ∧ zs.length = cap ∧ (∀ i, i < zs.length → w.cell? (x.add i) = some (.int k (zs.getD i 0))) ∧ ∀ n ∈ zs, (Lit.int k n).wf = true

/-- The slice that came in reads as the first 'len' of its numbers. -/
theorem arg_of_row {w : World} {a : Option Addr} {len cap : Nat} {zs : List Int} (h : IsRow .i64 w a len cap zs) : ∃ xs, xs.length = len ∧ xs.length ≤ cap ∧ cap ≤ maxLen ∧ At w a xs ∧ (a = none → cap = 0) := by
  rcases h with ⟨rfl, rfl, rfl, rfl⟩ | ⟨⟨b, off, sp⟩, rfl, hl, hm, hz, hc, -⟩
  · exact ⟨[], rfl, Nat.zero_le _, Nat.zero_le _, .inl rfl, fun _ => rfl⟩
  · by_cases h0 : len = 0
    · exact ⟨[], h0.symm, Nat.zero_le _, hm, .inl rfl, fun h => by cases h⟩
    · have hn : sp = none := by simpa [Addr.add] using World.cell?_spot (hc 0 (by omega))
      subst hn
      have hlen : (zs.take len).length = len := by rw [List.length_take]; omega
      refine ⟨zs.take len, hlen, by omega, hm, .inr ⟨b, off, rfl, ?_, fun j hj => ?_⟩, fun h => by cases h⟩
      · exact World.block_lt_of_cell? w ⟨b, off, none⟩ (by simpa [Addr.add] using hc 0 (by omega))
      · have := hc j (by omega)
        rw [show (⟨b, off, none⟩ : Addr).add j = ⟨b, off + j, none⟩ from by simp [Addr.add]] at this
        rw [this]
        simp only [List.getD_eq_getElem?_getD]
        rw [List.getElem?_take_of_lt (by omega)]

theorem joinL_has (xs ys : List Int) (n : Int) : hasB (joinL xs ys) n = (hasB xs n || hasB ys n) := by
  rw [Bool.eq_iff_iff, Bool.or_eq_true]; simp only [hasB, joinL, List.contains_iff_mem]; exact mem_uni n xs ys
theorem meetL_has (xs ys : List Int) (n : Int) : hasB (meetL xs ys) n = (hasB xs n && hasB ys n) := by
  rw [Bool.eq_iff_iff, Bool.and_eq_true]; simp only [hasB, meetL, List.contains_iff_mem, List.mem_filter, beq_iff_eq]
theorem lessL_has (xs ys : List Int) (n : Int) : hasB (lessL xs ys) n = (hasB xs n && !hasB ys n) := by
  rw [Bool.eq_iff_iff, Bool.and_eq_true]
  have e : hasB (lessL xs ys) n = true ↔ n ∈ xs ∧ hasB ys n = false := by
    simp only [lessL]; rw [hasB, List.contains_iff_mem, List.mem_filter, beq_iff_eq]
  have e2 : hasB xs n = true ↔ n ∈ xs := by rw [hasB, List.contains_iff_mem]
  rw [e, Bool.not_eq_true', e2]
theorem joinL_len (xs ys : List Int) : (joinL xs ys).length ≤ xs.length + ys.length := uni_len_le xs ys
theorem meetL_len (xs ys : List Int) : (meetL xs ys).length ≤ xs.length := List.length_filter_le _ _
theorem lessL_len (xs ys : List Int) : (lessL xs ys).length ≤ xs.length := List.length_filter_le _ _
theorem joinL_eq {xs ys : List Int} (hx : Hid (rowB 2147483648 xs = true)) (hy : Hid (rowB 2147483648 ys = true)) : (joinL xs ys).length = (lessL xs ys).length + ys.length := uni_len xs ys (rowB_inc hx.out) (rowB_inc hy.out)
theorem joinL_row {xs ys : List Int} (hx : Hid (rowB 2147483648 xs = true)) (hy : Hid (rowB 2147483648 ys = true)) : rowB 2147483648 (joinL xs ys) = true :=
  rowB_mk (inc_uni _ _ (rowB_inc hx.out) (rowB_inc hy.out)) fun z hz => by
    rcases (mem_uni z _ _).1 hz with h | h
    · exact rowB_bd hx.out z h
    · exact rowB_bd hy.out z h
theorem meetL_row {xs : List Int} (ys : List Int) (hx : Hid (rowB 2147483648 xs = true)) : rowB 2147483648 (meetL xs ys) = true :=
  rowB_mk (inc_filter _ (rowB_inc hx.out)) fun z hz => rowB_bd hx.out z (List.mem_filter.1 hz).1
theorem lessL_row {xs : List Int} (ys : List Int) (hx : Hid (rowB 2147483648 xs = true)) : rowB 2147483648 (lessL xs ys) = true :=
  rowB_mk (inc_filter _ (rowB_inc hx.out)) fun z hz => rowB_bd hx.out z (List.mem_filter.1 hz).1

set_option maxHeartbeats 1000000 in
theorem sets_tt (w : World) (a1 : Option Addr) (c1 : Nat) (xs : List Int) (a2 : Option Addr) (c2 : Nat) (ys : List Int) (n : Int) (h1 : At w a1 xs) (h2 : At w a2 ys) (k1 : xs.length ≤ c1) (k2 : ys.length ≤ c2) (m1 : c1 ≤ maxLen) (m2 : c2 ≤ maxLen) (hx : Hid (rowB 2147483648 xs = true)) (hy : Hid (rowB 2147483648 ys = true)) (hp : Hid (hasB xs n = true)) (hq : Hid (hasB ys n = true)) :
    Calls Try.prog 5 #[.slice a1 xs.length c1, .slice a2 ys.length c2, .int .i64 n] w fun e w' => e = .returned (.bool true) ∧ Below w.heap.size w w' := by
  have l1 : xs.length ≤ maxLen := by omega
  have l2 : ys.length ≤ maxLen := by omega
  have s1 := rowB_len hx.out
  have s2 := rowB_len hy.out
  have s3 := joinL_len xs ys
  have s4 := meetL_len xs ys
  have s5 := lessL_len xs ys
  have d : (((joinL xs ys).length : Int) != ((meetL xs ys).length : Int) + ((lessL xs ys).length : Int) + (ys.length : Int) - ((meetL xs ys).length : Int)) = false := by have := joinL_eq hx hy; simp; omega
  go_enter Try.func5, Try.ntmps5
  go_wp2_with fail
  refine (join_res w a1 c1 xs a2 c2 ys h1 h2 k1 k2 m1 m2 hx hy).mono ?_
  rintro e wj ⟨aj, cj, rfl, sj, lj, bj⟩
  go_wp2_with fail
  refine (meet_res wj a1 c1 xs a2 c2 ys (h1.below bj (Nat.le_refl _)) (h2.below bj (Nat.le_refl _)) k1 k2 m1 m2 hx hy).mono ?_
  rintro e wm ⟨am, cm, rfl, sm, lm, bm⟩
  have bbm : Below w.heap.size w wm := bj.trans (bm.mono bj.size)
  have sj2 := sj.below bm (Nat.le_refl _)
  clear sj
  go_wp2_with fail
  refine (less_res wm a1 c1 xs a2 c2 ys (h1.below bbm (Nat.le_refl _)) (h2.below bbm (Nat.le_refl _)) k1 k2 m1 m2 hx hy).mono ?_
  rintro e wl ⟨al, cl, rfl, sl, ll, bl⟩
  have bbl : Below w.heap.size w wl := bbm.trans (bl.mono bbm.size)
  have sj3 := sj2.below bl (Nat.le_refl _)
  have sm3 := sm.below bl (Nat.le_refl _)
  clear sj2 sm bj bm bbm bl
  have h1l := h1.below bbl (Nat.le_refl _)
  have h2l := h2.below bbl (Nat.le_refl _)
  go_wp2_with fail
  refine (rowIs_any aj cj (joinL xs ys) 2147483648 _ sj3 lj).mono ?_
  rintro e w1 ⟨rfl, rfl⟩
  rw [joinL_row hx hy]
  go_wp2_with fail
  refine (rowIs_any am cm (meetL xs ys) 2147483648 _ sm3 lm).mono ?_
  rintro e w1 ⟨rfl, rfl⟩
  rw [meetL_row ys hx]
  go_wp2_with fail
  refine (rowIs_any al cl (lessL xs ys) 2147483648 _ sl ll).mono ?_
  rintro e w1 ⟨rfl, rfl⟩
  rw [lessL_row ys hx]
  go_wp2_with fail
  refine (keepHas_any a1 c1 xs n _ h1l l1).mono ?_
  rintro e w1 ⟨rfl, rfl⟩
  rw [hp.out]
  go_wp2_with fail
  refine (keepHas_any a2 c2 ys n _ h2l l2).mono ?_
  rintro e w1 ⟨rfl, rfl⟩
  rw [hq.out]
  go_wp2_with fail
  refine (rowHas_any aj cj (joinL xs ys) n _ sj3 lj).mono ?_
  rintro e w1 ⟨rfl, rfl⟩
  rw [joinL_has, hp.out, hq.out]
  go_wp2_with fail
  refine (rowHas_any am cm (meetL xs ys) n _ sm3 lm).mono ?_
  rintro e w1 ⟨rfl, rfl⟩
  rw [meetL_has, hp.out, hq.out]
  go_wp2_with fail
  refine (rowHas_any al cl (lessL xs ys) n _ sl ll).mono ?_
  rintro e w1 ⟨rfl, rfl⟩
  rw [lessL_has, hp.out, hq.out]
  go_wp2
  go_ret
  exact ⟨rfl, bbl⟩

set_option maxHeartbeats 1000000 in
theorem sets_tf (w : World) (a1 : Option Addr) (c1 : Nat) (xs : List Int) (a2 : Option Addr) (c2 : Nat) (ys : List Int) (n : Int) (h1 : At w a1 xs) (h2 : At w a2 ys) (k1 : xs.length ≤ c1) (k2 : ys.length ≤ c2) (m1 : c1 ≤ maxLen) (m2 : c2 ≤ maxLen) (hx : Hid (rowB 2147483648 xs = true)) (hy : Hid (rowB 2147483648 ys = true)) (hp : Hid (hasB xs n = true)) (hq : Hid (hasB ys n = false)) :
    Calls Try.prog 5 #[.slice a1 xs.length c1, .slice a2 ys.length c2, .int .i64 n] w fun e w' => e = .returned (.bool true) ∧ Below w.heap.size w w' := by
  have l1 : xs.length ≤ maxLen := by omega
  have l2 : ys.length ≤ maxLen := by omega
  have s1 := rowB_len hx.out
  have s2 := rowB_len hy.out
  have s3 := joinL_len xs ys
  have s4 := meetL_len xs ys
  have s5 := lessL_len xs ys
  have d : (((joinL xs ys).length : Int) != ((meetL xs ys).length : Int) + ((lessL xs ys).length : Int) + (ys.length : Int) - ((meetL xs ys).length : Int)) = false := by have := joinL_eq hx hy; simp; omega
  go_enter Try.func5, Try.ntmps5
  go_wp2_with fail
  refine (join_res w a1 c1 xs a2 c2 ys h1 h2 k1 k2 m1 m2 hx hy).mono ?_
  rintro e wj ⟨aj, cj, rfl, sj, lj, bj⟩
  go_wp2_with fail
  refine (meet_res wj a1 c1 xs a2 c2 ys (h1.below bj (Nat.le_refl _)) (h2.below bj (Nat.le_refl _)) k1 k2 m1 m2 hx hy).mono ?_
  rintro e wm ⟨am, cm, rfl, sm, lm, bm⟩
  have bbm : Below w.heap.size w wm := bj.trans (bm.mono bj.size)
  have sj2 := sj.below bm (Nat.le_refl _)
  clear sj
  go_wp2_with fail
  refine (less_res wm a1 c1 xs a2 c2 ys (h1.below bbm (Nat.le_refl _)) (h2.below bbm (Nat.le_refl _)) k1 k2 m1 m2 hx hy).mono ?_
  rintro e wl ⟨al, cl, rfl, sl, ll, bl⟩
  have bbl : Below w.heap.size w wl := bbm.trans (bl.mono bbm.size)
  have sj3 := sj2.below bl (Nat.le_refl _)
  have sm3 := sm.below bl (Nat.le_refl _)
  clear sj2 sm bj bm bbm bl
  have h1l := h1.below bbl (Nat.le_refl _)
  have h2l := h2.below bbl (Nat.le_refl _)
  go_wp2_with fail
  refine (rowIs_any aj cj (joinL xs ys) 2147483648 _ sj3 lj).mono ?_
  rintro e w1 ⟨rfl, rfl⟩
  rw [joinL_row hx hy]
  go_wp2_with fail
  refine (rowIs_any am cm (meetL xs ys) 2147483648 _ sm3 lm).mono ?_
  rintro e w1 ⟨rfl, rfl⟩
  rw [meetL_row ys hx]
  go_wp2_with fail
  refine (rowIs_any al cl (lessL xs ys) 2147483648 _ sl ll).mono ?_
  rintro e w1 ⟨rfl, rfl⟩
  rw [lessL_row ys hx]
  go_wp2_with fail
  refine (keepHas_any a1 c1 xs n _ h1l l1).mono ?_
  rintro e w1 ⟨rfl, rfl⟩
  rw [hp.out]
  go_wp2_with fail
  refine (keepHas_any a2 c2 ys n _ h2l l2).mono ?_
  rintro e w1 ⟨rfl, rfl⟩
  rw [hq.out]
  go_wp2_with fail
  refine (rowHas_any aj cj (joinL xs ys) n _ sj3 lj).mono ?_
  rintro e w1 ⟨rfl, rfl⟩
  rw [joinL_has, hp.out, hq.out]
  go_wp2_with fail
  refine (rowHas_any am cm (meetL xs ys) n _ sm3 lm).mono ?_
  rintro e w1 ⟨rfl, rfl⟩
  rw [meetL_has, hp.out, hq.out]
  go_wp2_with fail
  refine (rowHas_any al cl (lessL xs ys) n _ sl ll).mono ?_
  rintro e w1 ⟨rfl, rfl⟩
  rw [lessL_has, hp.out, hq.out]
  go_wp2
  go_ret
  exact ⟨rfl, bbl⟩

set_option maxHeartbeats 1000000 in
theorem sets_ft (w : World) (a1 : Option Addr) (c1 : Nat) (xs : List Int) (a2 : Option Addr) (c2 : Nat) (ys : List Int) (n : Int) (h1 : At w a1 xs) (h2 : At w a2 ys) (k1 : xs.length ≤ c1) (k2 : ys.length ≤ c2) (m1 : c1 ≤ maxLen) (m2 : c2 ≤ maxLen) (hx : Hid (rowB 2147483648 xs = true)) (hy : Hid (rowB 2147483648 ys = true)) (hp : Hid (hasB xs n = false)) (hq : Hid (hasB ys n = true)) :
    Calls Try.prog 5 #[.slice a1 xs.length c1, .slice a2 ys.length c2, .int .i64 n] w fun e w' => e = .returned (.bool true) ∧ Below w.heap.size w w' := by
  have l1 : xs.length ≤ maxLen := by omega
  have l2 : ys.length ≤ maxLen := by omega
  have s1 := rowB_len hx.out
  have s2 := rowB_len hy.out
  have s3 := joinL_len xs ys
  have s4 := meetL_len xs ys
  have s5 := lessL_len xs ys
  have d : (((joinL xs ys).length : Int) != ((meetL xs ys).length : Int) + ((lessL xs ys).length : Int) + (ys.length : Int) - ((meetL xs ys).length : Int)) = false := by have := joinL_eq hx hy; simp; omega
  go_enter Try.func5, Try.ntmps5
  go_wp2_with fail
  refine (join_res w a1 c1 xs a2 c2 ys h1 h2 k1 k2 m1 m2 hx hy).mono ?_
  rintro e wj ⟨aj, cj, rfl, sj, lj, bj⟩
  go_wp2_with fail
  refine (meet_res wj a1 c1 xs a2 c2 ys (h1.below bj (Nat.le_refl _)) (h2.below bj (Nat.le_refl _)) k1 k2 m1 m2 hx hy).mono ?_
  rintro e wm ⟨am, cm, rfl, sm, lm, bm⟩
  have bbm : Below w.heap.size w wm := bj.trans (bm.mono bj.size)
  have sj2 := sj.below bm (Nat.le_refl _)
  clear sj
  go_wp2_with fail
  refine (less_res wm a1 c1 xs a2 c2 ys (h1.below bbm (Nat.le_refl _)) (h2.below bbm (Nat.le_refl _)) k1 k2 m1 m2 hx hy).mono ?_
  rintro e wl ⟨al, cl, rfl, sl, ll, bl⟩
  have bbl : Below w.heap.size w wl := bbm.trans (bl.mono bbm.size)
  have sj3 := sj2.below bl (Nat.le_refl _)
  have sm3 := sm.below bl (Nat.le_refl _)
  clear sj2 sm bj bm bbm bl
  have h1l := h1.below bbl (Nat.le_refl _)
  have h2l := h2.below bbl (Nat.le_refl _)
  go_wp2_with fail
  refine (rowIs_any aj cj (joinL xs ys) 2147483648 _ sj3 lj).mono ?_
  rintro e w1 ⟨rfl, rfl⟩
  rw [joinL_row hx hy]
  go_wp2_with fail
  refine (rowIs_any am cm (meetL xs ys) 2147483648 _ sm3 lm).mono ?_
  rintro e w1 ⟨rfl, rfl⟩
  rw [meetL_row ys hx]
  go_wp2_with fail
  refine (rowIs_any al cl (lessL xs ys) 2147483648 _ sl ll).mono ?_
  rintro e w1 ⟨rfl, rfl⟩
  rw [lessL_row ys hx]
  go_wp2_with fail
  refine (keepHas_any a1 c1 xs n _ h1l l1).mono ?_
  rintro e w1 ⟨rfl, rfl⟩
  rw [hp.out]
  go_wp2_with fail
  refine (keepHas_any a2 c2 ys n _ h2l l2).mono ?_
  rintro e w1 ⟨rfl, rfl⟩
  rw [hq.out]
  go_wp2_with fail
  refine (rowHas_any aj cj (joinL xs ys) n _ sj3 lj).mono ?_
  rintro e w1 ⟨rfl, rfl⟩
  rw [joinL_has, hp.out, hq.out]
  go_wp2_with fail
  refine (rowHas_any am cm (meetL xs ys) n _ sm3 lm).mono ?_
  rintro e w1 ⟨rfl, rfl⟩
  rw [meetL_has, hp.out, hq.out]
  go_wp2_with fail
  refine (rowHas_any al cl (lessL xs ys) n _ sl ll).mono ?_
  rintro e w1 ⟨rfl, rfl⟩
  rw [lessL_has, hp.out, hq.out]
  go_wp2
  go_ret
  exact ⟨rfl, bbl⟩

set_option maxHeartbeats 1000000 in
theorem sets_ff (w : World) (a1 : Option Addr) (c1 : Nat) (xs : List Int) (a2 : Option Addr) (c2 : Nat) (ys : List Int) (n : Int) (h1 : At w a1 xs) (h2 : At w a2 ys) (k1 : xs.length ≤ c1) (k2 : ys.length ≤ c2) (m1 : c1 ≤ maxLen) (m2 : c2 ≤ maxLen) (hx : Hid (rowB 2147483648 xs = true)) (hy : Hid (rowB 2147483648 ys = true)) (hp : Hid (hasB xs n = false)) (hq : Hid (hasB ys n = false)) :
    Calls Try.prog 5 #[.slice a1 xs.length c1, .slice a2 ys.length c2, .int .i64 n] w fun e w' => e = .returned (.bool true) ∧ Below w.heap.size w w' := by
  have l1 : xs.length ≤ maxLen := by omega
  have l2 : ys.length ≤ maxLen := by omega
  have s1 := rowB_len hx.out
  have s2 := rowB_len hy.out
  have s3 := joinL_len xs ys
  have s4 := meetL_len xs ys
  have s5 := lessL_len xs ys
  have d : (((joinL xs ys).length : Int) != ((meetL xs ys).length : Int) + ((lessL xs ys).length : Int) + (ys.length : Int) - ((meetL xs ys).length : Int)) = false := by have := joinL_eq hx hy; simp; omega
  go_enter Try.func5, Try.ntmps5
  go_wp2_with fail
  refine (join_res w a1 c1 xs a2 c2 ys h1 h2 k1 k2 m1 m2 hx hy).mono ?_
  rintro e wj ⟨aj, cj, rfl, sj, lj, bj⟩
  go_wp2_with fail
  refine (meet_res wj a1 c1 xs a2 c2 ys (h1.below bj (Nat.le_refl _)) (h2.below bj (Nat.le_refl _)) k1 k2 m1 m2 hx hy).mono ?_
  rintro e wm ⟨am, cm, rfl, sm, lm, bm⟩
  have bbm : Below w.heap.size w wm := bj.trans (bm.mono bj.size)
  have sj2 := sj.below bm (Nat.le_refl _)
  clear sj
  go_wp2_with fail
  refine (less_res wm a1 c1 xs a2 c2 ys (h1.below bbm (Nat.le_refl _)) (h2.below bbm (Nat.le_refl _)) k1 k2 m1 m2 hx hy).mono ?_
  rintro e wl ⟨al, cl, rfl, sl, ll, bl⟩
  have bbl : Below w.heap.size w wl := bbm.trans (bl.mono bbm.size)
  have sj3 := sj2.below bl (Nat.le_refl _)
  have sm3 := sm.below bl (Nat.le_refl _)
  clear sj2 sm bj bm bbm bl
  have h1l := h1.below bbl (Nat.le_refl _)
  have h2l := h2.below bbl (Nat.le_refl _)
  go_wp2_with fail
  refine (rowIs_any aj cj (joinL xs ys) 2147483648 _ sj3 lj).mono ?_
  rintro e w1 ⟨rfl, rfl⟩
  rw [joinL_row hx hy]
  go_wp2_with fail
  refine (rowIs_any am cm (meetL xs ys) 2147483648 _ sm3 lm).mono ?_
  rintro e w1 ⟨rfl, rfl⟩
  rw [meetL_row ys hx]
  go_wp2_with fail
  refine (rowIs_any al cl (lessL xs ys) 2147483648 _ sl ll).mono ?_
  rintro e w1 ⟨rfl, rfl⟩
  rw [lessL_row ys hx]
  go_wp2_with fail
  refine (keepHas_any a1 c1 xs n _ h1l l1).mono ?_
  rintro e w1 ⟨rfl, rfl⟩
  rw [hp.out]
  go_wp2_with fail
  refine (keepHas_any a2 c2 ys n _ h2l l2).mono ?_
  rintro e w1 ⟨rfl, rfl⟩
  rw [hq.out]
  go_wp2_with fail
  refine (rowHas_any aj cj (joinL xs ys) n _ sj3 lj).mono ?_
  rintro e w1 ⟨rfl, rfl⟩
  rw [joinL_has, hp.out, hq.out]
  go_wp2_with fail
  refine (rowHas_any am cm (meetL xs ys) n _ sm3 lm).mono ?_
  rintro e w1 ⟨rfl, rfl⟩
  rw [meetL_has, hp.out, hq.out]
  go_wp2_with fail
  refine (rowHas_any al cl (lessL xs ys) n _ sl ll).mono ?_
  rintro e w1 ⟨rfl, rfl⟩
  rw [lessL_has, hp.out, hq.out]
  go_wp2
  go_ret
  exact ⟨rfl, bbl⟩

set_option maxHeartbeats 1000000 in
theorem sets_no (w : World) (a1 : Option Addr) (c1 : Nat) (xs : List Int) (a2 : Option Addr) (c2 : Nat) (ys : List Int) (n : Int) (h1 : At w a1 xs) (h2 : At w a2 ys) (l1 : xs.length ≤ maxLen) (l2 : ys.length ≤ maxLen) (hno : Hid (¬ (rowB 2147483648 xs = true ∧ rowB 2147483648 ys = true))) :
    Calls Try.prog 5 #[.slice a1 xs.length c1, .slice a2 ys.length c2, .int .i64 n] w fun e w' => e = .returned (.bool true) ∧ Below w.heap.size w w' := by
  go_enter Try.func5, Try.ntmps5
  go_wp2_with fail
  refine (join_no w a1 c1 xs a2 c2 ys h1 h2 l1 l2 hno.out).mono ?_
  rintro e wj ⟨rfl, bj⟩
  go_wp2_with fail
  refine (meet_no wj a1 c1 xs a2 c2 ys (h1.below bj (Nat.le_refl _)) (h2.below bj (Nat.le_refl _)) l1 l2 hno.out).mono ?_
  rintro e wm ⟨rfl, bm⟩
  have bbm : Below w.heap.size w wm := bj.trans (bm.mono bj.size)
  clear bj bm
  go_wp2_with fail
  refine (less_no wm a1 c1 xs a2 c2 ys (h1.below bbm (Nat.le_refl _)) (h2.below bbm (Nat.le_refl _)) l1 l2 hno.out).mono ?_
  rintro e wl ⟨rfl, bl⟩
  have bbl : Below w.heap.size w wl := bbm.trans (bl.mono bbm.size)
  clear bbm bl
  go_wp2
  go_ret
  exact ⟨rfl, bbl⟩

theorem walk (a0 : Option Addr) (len0 cap0 : Nat) (z0 : List Int) (a1 : Option Addr) (len1 cap1 : Nat) (z1 : List Int) (a2 : Int) (w : World) (w0 : IsRow .i64 w a0 len0 cap0 z0) (w1 : IsRow .i64 w a1 len1 cap1 z1) (w2 : (Lit.int .i64 a2).wf = true) :
    Calls Try.prog 5 #[.slice a0 len0 cap0, .slice a1 len1 cap1, .int .i64 a2] w fun e w' => e = .returned (.bool true) ∧ Below w.heap.size w w' := by
  obtain ⟨xs, rfl, kx, mx, sx, nx⟩ := arg_of_row w0
  obtain ⟨ys, rfl, ky, my, sy, ny⟩ := arg_of_row w1
  by_cases h : rowB 2147483648 xs = true ∧ rowB 2147483648 ys = true
  · cases hp : hasB xs a2 <;> cases hq : hasB ys a2
    · exact sets_ff w a0 cap0 xs a1 cap1 ys a2 sx sy kx ky mx my h.1 h.2 hp hq
    · exact sets_ft w a0 cap0 xs a1 cap1 ys a2 sx sy kx ky mx my h.1 h.2 hp hq
    · exact sets_tf w a0 cap0 xs a1 cap1 ys a2 sx sy kx ky mx my h.1 h.2 hp hq
    · exact sets_tt w a0 cap0 xs a1 cap1 ys a2 sx sy kx ky mx my h.1 h.2 hp hq
  · exact sets_no w a0 cap0 xs a1 cap1 ys a2 sx sy (by omega) (by omega) h

/-! ### THE ROW's STEP: WRITTEN OUT: LEAVE IT -/
set_option maxRecDepth 100000 in
theorem lifted (os : Os) (started : os.Started) (H : Type) (enc : TypeId × Value → H) :
    ReturnsInHanded {} Try.checked os 5 .any (Rows.rowSetsSpec.pre6 enc Try.prog Try.f5 Rows.rowSetsRow.domain false) (Rows.rowSetsSpec.post enc Try.prog Try.f5 false true false false) := by
  refine returnsInHanded_of_change (C := Try.checked) own started (by kernel_rfl) Try.func5
    (ChangeSpec.witness6 (enc := enc) (C := Try.checked) false ⟨#[], #[.slice none 0 0, .slice none 0 0, .int .i64 0], []⟩ 8 (by kernel_rfl) (by kernel_rfl) (by kernel_rfl) (by kernel_rfl)) ?_
  intro W base args ds gs before hval0 hW hcnd _
  have hval : ∀ (j : Nat) t v, Try.f5.params[j]? = some t → args[j]? = some v → Value.okWide Try.prog W .any base t v := hval0
  have hW' := hW
  obtain ⟨p, q, hA0, hV, rfl, hfz, hnd⟩ := hW
  have hA : DataW.TrodAll enc Try.prog W 0 (fun _ => true) true Try.f5.params.toList args.toList ds p := hA0
  rw [Try.params5] at hA hval
  obtain ⟨v0, vs0, d0, ds0, p0, q0, hargs, rfl, rfl, h0, r0⟩ := trodAll_cons hA
  obtain ⟨v1, vs1, d1, ds1, p1, q1, rfl, rfl, rfl, h1, r1⟩ := trodAll_cons r0
  obtain ⟨v2, vs2, d2, ds2, p2, q2, rfl, rfl, rfl, h2, r2⟩ := trodAll_cons r1
  obtain ⟨rfl, rfl, rfl⟩ := trodAll_nil r2
  obtain rfl : args = #[v0, v1, v2] := by cases args; simp_all
  obtain ⟨rfl, rfl⟩ := trodVars_none hV
  obtain ⟨a0, len0, cap0, rfl⟩ := okWide_slice Try.underlying22 (hval 0 22 v0 rfl rfl)
  have k0 := h0
  have lt0 : ∀ x ∈ p0, x.block < W.heap.size := by obtain ⟨m, hm⟩ := k0; exact DataW.trod_lt m _ _ _ hm
  obtain ⟨z0, w0⟩ : ∃ zs, IsRow .i64 W a0 len0 cap0 zs := by
    obtain ⟨fuel, hf⟩ := h0
    rcases open_ints Try.underlying22 Try.underlying3 (by kernel_rfl) hf with ⟨hcs, _⟩ | ⟨x, l, c, zs, hcs, _, hl, hm, hz, _, hcell, hwz⟩
    · simp [Value.cells] at hcs
      obtain ⟨rfl, rfl, rfl⟩ := hcs
      exact ⟨[], .inl ⟨rfl, rfl, rfl, rfl⟩⟩
    · simp [Value.cells] at hcs
      obtain ⟨rfl, rfl, rfl⟩ := hcs
      exact ⟨zs, .inr ⟨_, rfl, hl, hm, by simpa using hz, hcell, hwz⟩⟩
  obtain ⟨a1, len1, cap1, rfl⟩ := okWide_slice Try.underlying22 (hval 1 22 v1 rfl rfl)
  have k1 := h1
  have lt1 : ∀ x ∈ p1, x.block < W.heap.size := by obtain ⟨m, hm⟩ := k1; exact DataW.trod_lt m _ _ _ hm
  obtain ⟨z1, w1⟩ : ∃ zs, IsRow .i64 W a1 len1 cap1 zs := by
    obtain ⟨fuel, hf⟩ := h1
    rcases open_ints Try.underlying22 Try.underlying3 (by kernel_rfl) hf with ⟨hcs, _⟩ | ⟨x, l, c, zs, hcs, _, hl, hm, hz, _, hcell, hwz⟩
    · simp [Value.cells] at hcs
      obtain ⟨rfl, rfl, rfl⟩ := hcs
      exact ⟨[], .inl ⟨rfl, rfl, rfl, rfl⟩⟩
    · simp [Value.cells] at hcs
      obtain ⟨rfl, rfl, rfl⟩ := hcs
      exact ⟨zs, .inr ⟨_, rfl, hl, hm, by simpa using hz, hcell, hwz⟩⟩
  obtain ⟨a2, rfl, rfl, rfl, w2⟩ := open_int Try.underlying3 (hval 2 3 v2 rfl rfl) h2
  clear hA0 hval0
  refine (walk a0 len0 cap0 z0 a1 len1 cap1 z1 a2 W w0 w1 w2).mono fun e W' ⟨he, bel⟩ => ?_
  subst he
  exact ⟨_, rfl, _, _, _, [], _, [], hW', trodAll_mk1 (shut_bool Try.underlying4 _), (trodAll_cons_mk (Below.trod laidOut (by kernel_rfl) (of_decide_eq_true (by kernel_rfl)) k0 bel lt0) (trodAll_cons_mk (Below.trod laidOut (by kernel_rfl) (of_decide_eq_true (by kernel_rfl)) k1 bel lt1) (trodAll_cons_mk (shut_int Try.underlying3 w2) trodAll_mk0))), rfl, bel.frame _, fun h => by cases h⟩

theorem over : Rows.rowSetsRow.holds Try.pinned (OpenSpec.ofChange Rows.rowSetsSpec) :=
  OpenClaim.holds_of_wide 5 Try.f5 rfl rfl rfl rfl rfl rfl rfl ⟨rfl, rfl, rfl, rfl, rfl⟩ rfl rfl rfl rfl rfl (by kernel_rfl) Try.func5 (by kernel_rfl)
    (of_decide_eq_true (by kernel_rfl)) (by unfold Func.isWrapper; first | (rw [if_pos (by decide +kernel)]; kernel_rfl) | (rw [if_neg (by decide +kernel)]; exact ⟨rfl, rfl⟩))
    (fun os started H enc _ => lifted os started H enc)

/-- ████ THE STATEMENT ████ -/
theorem rowSets_holds : Rows.RowSetsSaid := over
#print axioms rowSets_holds
end Go.Proofs.Ytppfcbapfbmckaa
