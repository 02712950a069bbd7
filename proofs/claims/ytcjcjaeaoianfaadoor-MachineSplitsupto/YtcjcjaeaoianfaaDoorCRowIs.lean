/-
  The walk of row.Is: it answers 'rowB n xs'.
-/
import Derived.Test.YtcjcjaeaoianfaaDoorCBase
import Derived.Deep.QuietTactic
import Derived.BigQuiet
namespace Go.Proofs.YtcjcjaeaoianfaaDoor
open Go.RowKit

theorem rowB_start1 {n : Int} (h : n ≤ 2147483648) (xs : List Int) : rowB n xs = goIs (-1) n xs := by unfold rowB; rw [show min n 2147483648 = n by omega]
theorem rowB_start2 {n : Int} (h : 2147483648 < n) (xs : List Int) : rowB n xs = goIs (-1) 2147483648 xs := by unfold rowB; rw [show min n 2147483648 = 2147483648 by omega]

set_option maxHeartbeats 400000 in
theorem rowIs_some (b off cap : Nat) (xs : List Int) (n : Int) (w : World) (hl : xs.length ≤ 9223372036854775807) (hc : Cells w b off xs) :
    Calls Tryd.prog 20 #[.slice (some ⟨b, off, none⟩) xs.length cap, .int .i64 n] w fun e w' => e = .returned (.bool (rowB n xs)) ∧ w' = w := by
  by_cases hn : n ≤ 2147483648
  · have HS : Hid (rowB n xs = goIs (-1) n (xs.drop 0)) := rowB_start1 hn xs
    go_enter Tryd.func20, Tryd.ntmps20
    go_wp2
    go_loop [5, 12] (fun l i => ∃ (k : Nat) (last : Int), k ≤ xs.length ∧ i = .int .i64 k ∧ l = .int .i64 last ∧ Hid (rowB n xs = goIs last n (xs.drop k))) (fun _ i => xs.length - (intOf i).toNat)
    case atStart => exact ⟨0, -1, Nat.zero_le _, rfl, rfl, HS⟩
    case round =>
      obtain ⟨k, last, hk, rfl, rfl, he⟩ := hrel
      by_cases hlt : k < xs.length
      · obtain ⟨x, HX, hcell⟩ := hc.at hlt
        by_cases h1 : x ≤ last
        · go_wp2
          go_ret
          exact ⟨ret_bool (is_no hlt he HX (.inl h1)), rfl⟩
        · by_cases h2 : n ≤ x
          · go_wp2
            go_ret
            exact ⟨ret_bool (is_no hlt he HX (.inr h2)), rfl⟩
          · go_wp2
            go_round
            case rel => exact ⟨k + 1, x, by omega, by go_num, rfl, is_yes hlt he HX (by omega)⟩
            case measure => simp [intOf]; omega
      · go_wp2
        go_ret
        exact ⟨ret_bool (is_end hlt he), rfl⟩
  · have HS : Hid (rowB n xs = goIs (-1) 2147483648 (xs.drop 0)) := rowB_start2 (by omega) xs
    go_enter Tryd.func20, Tryd.ntmps20
    go_wp2
    go_loop [5, 12] (fun l i => ∃ (k : Nat) (last : Int), k ≤ xs.length ∧ i = .int .i64 k ∧ l = .int .i64 last ∧ Hid (rowB n xs = goIs last 2147483648 (xs.drop k))) (fun _ i => xs.length - (intOf i).toNat)
    case atStart => exact ⟨0, -1, Nat.zero_le _, rfl, rfl, HS⟩
    case round =>
      obtain ⟨k, last, hk, rfl, rfl, he⟩ := hrel
      by_cases hlt : k < xs.length
      · obtain ⟨x, HX, hcell⟩ := hc.at hlt
        by_cases h1 : x ≤ last
        · go_wp2
          go_ret
          exact ⟨ret_bool (is_no hlt he HX (.inl h1)), rfl⟩
        · by_cases h2 : 2147483648 ≤ x
          · go_wp2
            go_ret
            exact ⟨ret_bool (is_no hlt he HX (.inr h2)), rfl⟩
          · go_wp2
            go_round
            case rel => exact ⟨k + 1, x, by omega, by go_num, rfl, is_yes hlt he HX (by omega)⟩
            case measure => simp [intOf]; omega
      · go_wp2
        go_ret
        exact ⟨ret_bool (is_end hlt he), rfl⟩

set_option maxHeartbeats 400000 in
theorem rowIs_nil (a : Option Addr) (cap : Nat) (n : Int) (w : World) :
    Calls Tryd.prog 20 #[.slice a 0 cap, .int .i64 n] w fun e w' => e = .returned (.bool true) ∧ w' = w := by
  go_enter Tryd.func20, Tryd.ntmps20
  go_wp2
  all_goals
    refine wp_loop_rounds 1 ?_
    rw [rounds_succ]
    go_wp2
    go_ret
    exact ⟨rfl, rfl⟩

theorem rowIs_any (a : Option Addr) (cap : Nat) (xs : List Int) (n : Int) (w : World) (hs : At w a xs) (hl : xs.length ≤ maxLen) :
    Calls Tryd.prog 20 #[.slice a xs.length cap, .int .i64 n] w fun e w' => e = .returned (.bool (rowB n xs)) ∧ w' = w := by
  rcases hs with rfl | ⟨b, off, rfl, -, hc⟩
  · exact rowIs_nil a cap n w
  · exact rowIs_some b off cap xs n w hl hc

end Go.Proofs.YtcjcjaeaoianfaaDoor
