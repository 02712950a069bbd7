/-
  The walk of row.Is: it answers 'rowB n xs'.
  The walk of machine.May: it answers 'mayB'.
-/
import Derived.Test.YtkkkacmccndinaaDoorG03
import Derived.Deep.QuietTactic
import Derived.BigQuiet
import Derived.Test.YtkkkacmccndinaaDoorCArrMay
namespace Go.Proofs.YtkkkacmccndinaaDoor
open Go.RowKit

theorem rowB_start1 {n : Int} (h : n ≤ 2147483648) (xs : List Int) : rowB n xs = goIs (-1) n xs := by unfold rowB; rw [show min n 2147483648 = n by omega]
theorem rowB_start2 {n : Int} (h : 2147483648 < n) (xs : List Int) : rowB n xs = goIs (-1) 2147483648 xs := by unfold rowB; rw [show min n 2147483648 = 2147483648 by omega]

set_option maxHeartbeats 400000 in
theorem rowIs_some (b off cap : Nat) (xs : List Int) (n : Int) (w : World) (hl : xs.length ≤ 9223372036854775807) (hc : Cells w b off xs) :
    Calls Tryd.prog 41 #[.slice (some ⟨b, off, none⟩) xs.length cap, .int .i64 n] w fun e w' => e = .returned (.bool (rowB n xs)) ∧ w' = w := by
  by_cases hn : n ≤ 2147483648
  · have HS : Hid (rowB n xs = goIs (-1) n (xs.drop 0)) := rowB_start1 hn xs
    go_enter Tryd.func41, Tryd.ntmps41
    go_wp2
    go_loop [5, 12] (fun l i => ∃ (k : Nat) (last : Int), k ≤ xs.length ∧ i = .int .i64 k ∧ l = .int .i64 last ∧ Hid (rowB n xs = goIs last n (xs.drop k))) (fun _ i => xs.length - (intOf i).toNat)
    case atStart => exact ⟨0, -1, Nat.zero_le _, rfl, rfl, HS⟩
    case round =>
      obtain ⟨k, last, hk, rfl, rfl, he⟩ := hrel
      by_cases hlt : k < xs.length
      · obtain ⟨x, HX, hcell⟩ := hc.at hlt
        by_cases h1 : x ≤ last
        · go_wp2
          go_ret
          exact ⟨ret_bool (is_no hlt he HX (.inl h1)), rfl⟩
        · by_cases h2 : n ≤ x
          · go_wp2
            go_ret
            exact ⟨ret_bool (is_no hlt he HX (.inr h2)), rfl⟩
          · go_wp2
            go_round
            case rel => exact ⟨k + 1, x, by omega, by go_num, rfl, is_yes hlt he HX (by omega)⟩
            case measure => simp [intOf]; omega
      · go_wp2
        go_ret
        exact ⟨ret_bool (is_end hlt he), rfl⟩
  · have HS : Hid (rowB n xs = goIs (-1) 2147483648 (xs.drop 0)) := rowB_start2 (by omega) xs
    go_enter Tryd.func41, Tryd.ntmps41
    go_wp2
    go_loop [5, 12] (fun l i => ∃ (k : Nat) (last : Int), k ≤ xs.length ∧ i = .int .i64 k ∧ l = .int .i64 last ∧ Hid (rowB n xs = goIs last 2147483648 (xs.drop k))) (fun _ i => xs.length - (intOf i).toNat)
    case atStart => exact ⟨0, -1, Nat.zero_le _, rfl, rfl, HS⟩
    case round =>
      obtain ⟨k, last, hk, rfl, rfl, he⟩ := hrel
      by_cases hlt : k < xs.length
      · obtain ⟨x, HX, hcell⟩ := hc.at hlt
        by_cases h1 : x ≤ last
        · go_wp2
          go_ret
          exact ⟨ret_bool (is_no hlt he HX (.inl h1)), rfl⟩
        · by_cases h2 : 2147483648 ≤ x
          · go_wp2
            go_ret
            exact ⟨ret_bool (is_no hlt he HX (.inr h2)), rfl⟩
          · go_wp2
            go_round
            case rel => exact ⟨k + 1, x, by omega, by go_num, rfl, is_yes hlt he HX (by omega)⟩
            case measure => simp [intOf]; omega
      · go_wp2
        go_ret
        exact ⟨ret_bool (is_end hlt he), rfl⟩

set_option maxHeartbeats 400000 in
theorem rowIs_nil (a : Option Addr) (cap : Nat) (n : Int) (w : World) :
    Calls Tryd.prog 41 #[.slice a 0 cap, .int .i64 n] w fun e w' => e = .returned (.bool true) ∧ w' = w := by
  go_enter Tryd.func41, Tryd.ntmps41
  go_wp2
  all_goals
    refine wp_loop_rounds 1 ?_
    rw [rounds_succ]
    go_wp2
    go_ret
    exact ⟨rfl, rfl⟩

theorem rowIs_any (a : Option Addr) (cap : Nat) (xs : List Int) (n : Int) (w : World) (hs : At w a xs) (hl : xs.length ≤ maxLen) :
    Calls Tryd.prog 41 #[.slice a xs.length cap, .int .i64 n] w fun e w' => e = .returned (.bool (rowB n xs)) ∧ w' = w := by
  rcases hs with rfl | ⟨b, off, rfl, -, hc⟩
  · exact rowIs_nil a cap n w
  · exact rowIs_some b off cap xs n w hl hc

end Go.Proofs.YtkkkacmccndinaaDoor
namespace Go.Proofs.YtkkkacmccndinaaDoor
open Go.RowKit
set_option linter.unusedVariables false

theorem may_split (m : Mach) : mayB m = (decide (1 ≤ m.st) && (decide (m.st ≤ 256) && (decide (0 ≤ m.ev) && (decide (m.ev ≤ 8) && (rowB m.st m.starts && (rowB m.st m.ends && arrsB m)))))) := by
  unfold mayB arrsB sizeOk
  by_cases h1 : 1 ≤ m.st <;> by_cases h2 : m.st ≤ 256 <;> by_cases h3 : 0 ≤ m.ev <;> by_cases h4 : m.ev ≤ 8 <;> by_cases h5 : m.arrows.length ≤ 4096 <;> simp [h1, h2, h3, h4, h5]

theorem may_no1 {m : Mach} (h : decide (1 ≤ m.st) = false) : false = mayB m := by rw [may_split, h]; rfl
theorem may_no2 {m : Mach} (h : decide (m.st ≤ 256) = false) : false = mayB m := by rw [may_split, h]; simp
theorem may_no3 {m : Mach} (h : decide (0 ≤ m.ev) = false) : false = mayB m := by rw [may_split, h]; simp
theorem may_no4 {m : Mach} (h : decide (m.ev ≤ 8) = false) : false = mayB m := by rw [may_split, h]; simp
theorem may_no5 {m : Mach} (h : rowB m.st m.starts = false) : false = mayB m := by rw [may_split, h]; simp
theorem may_no6 {m : Mach} (h : rowB m.st m.ends = false) : false = mayB m := by rw [may_split, h]; simp
theorem may_yes {m : Mach} (h1 : decide (1 ≤ m.st) = true) (h2 : decide (m.st ≤ 256) = true) (h3 : decide (0 ≤ m.ev) = true) (h4 : decide (m.ev ≤ 8) = true) (h5 : rowB m.st m.starts = true) (h6 : rowB m.st m.ends = true) : arrsB m = mayB m := by
  rw [may_split, h1, h2, h3, h4, h5, h6]; simp

set_option maxRecDepth 100000 in
set_option maxHeartbeats 4000000 in
theorem pMay_any (m : Mach) (l : ML) (w : World) (h : MAt w m l) :
    Calls Tryd.prog 13 #[mval m l] w fun e w' => e = .returned (.bool (mayB m)) ∧ Below w.heap.size w w' := by
  have b0 : Below w.heap.size w (w.alloc (.cells (mcells m l) 25)) := (Below.refl _ _).alloc (Nat.le_refl _) _
  have h' := Hid.of (h.below b0 (Nat.le_refl _))
  have l1 : Hid (m.starts.length ≤ maxLen) := Nat.le_trans h.s1 h.s2
  have l3 : Hid (m.ends.length ≤ maxLen) := Nat.le_trans h.e1 h.e2
  have B0 := Hid.of b0
  clear b0
  by_cases e1 : 1 ≤ m.st
  · have d1 : decide (1 ≤ m.st) = true := by simpa using e1
    by_cases e2 : m.st ≤ 256
    · have d2 : decide (m.st ≤ 256) = true := by simpa using e2
      by_cases e3 : 0 ≤ m.ev
      · have d3 : decide (0 ≤ m.ev) = true := by simpa using e3
        by_cases e4 : m.ev ≤ 8
        · have d4 : decide (m.ev ≤ 8) = true := by simpa using e4
          cases e5 : rowB m.st m.starts with
          | true =>
            cases e6 : rowB m.st m.ends with
            | true =>
              go_enter Tryd.func13, Tryd.ntmps13
              go_wp2_with fail
              refine (rowIs_any l.a1 l.c1 m.starts m.st _ h'.out.s l1.out).mono ?_
              rintro e w1 ⟨rfl, rfl⟩
              rw [e5]
              go_wp2_with fail
              refine (rowIs_any l.a3 l.c3 m.ends m.st _ h'.out.e l3.out).mono ?_
              rintro e w1 ⟨rfl, rfl⟩
              rw [e6]
              go_wp2_with fail
              refine (arrowsMay_any m l _ h'.out).mono ?_
              rintro e w1 ⟨rfl, hb1⟩
              go_wp2
              go_ret
              exact ⟨ret_bool (may_yes d1 d2 d3 d4 e5 e6), B0.out.trans (hb1.mono B0.out.size)⟩
            | false =>
              go_enter Tryd.func13, Tryd.ntmps13
              go_wp2_with fail
              refine (rowIs_any l.a1 l.c1 m.starts m.st _ h'.out.s l1.out).mono ?_
              rintro e w1 ⟨rfl, rfl⟩
              rw [e5]
              go_wp2_with fail
              refine (rowIs_any l.a3 l.c3 m.ends m.st _ h'.out.e l3.out).mono ?_
              rintro e w1 ⟨rfl, rfl⟩
              rw [e6]
              go_wp2
              go_ret
              exact ⟨ret_bool (may_no6 e6), B0.out⟩
          | false =>
            go_enter Tryd.func13, Tryd.ntmps13
            go_wp2_with (go_at_call 41; refine (rowIs_any l.a1 l.c1 m.starts m.st _ h'.out.s l1.out).mono ?_; rintro e w1 ⟨rfl, rfl⟩)
            go_ret
            exact ⟨ret_bool (may_no5 e5), B0.out⟩
        · have d4 : decide (m.ev ≤ 8) = false := by simpa using e4
          go_enter Tryd.func13, Tryd.ntmps13
          go_wp2
          go_ret
          exact ⟨ret_bool (may_no4 d4), B0.out⟩
      · have d3 : decide (0 ≤ m.ev) = false := by simpa using e3
        go_enter Tryd.func13, Tryd.ntmps13
        go_wp2
        go_ret
        exact ⟨ret_bool (may_no3 d3), B0.out⟩
    · have d2 : decide (m.st ≤ 256) = false := by simpa using e2
      go_enter Tryd.func13, Tryd.ntmps13
      go_wp2
      go_ret
      exact ⟨ret_bool (may_no2 d2), B0.out⟩
  · have d1 : decide (1 ≤ m.st) = false := by simpa using e1
    go_enter Tryd.func13, Tryd.ntmps13
    go_wp2
    go_ret
    exact ⟨ret_bool (may_no1 d1), B0.out⟩

end Go.Proofs.YtkkkacmccndinaaDoor
