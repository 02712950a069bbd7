/-
  The walk of jalousieref1.Is: it answers 'rowB n xs'.
-/
import Derived.Deep.QuietTactic
import Derived.BigQuiet
import Derived.Test.YtppfcbapfbmckaaG01
namespace Go.Proofs.Ytppfcbapfbmckaa
open Go.RowKit

/-- The number ahead of place k, or -1. -/
def lastOf (xs : List Int) (k : Nat) : Int := if k = 0 then -1 else xs[k - 1]?.getD 0

theorem lastOf_succ (xs : List Int) (k : Nat) : lastOf xs (k + 1) = xs[k]?.getD 0 := by simp [lastOf]

theorem ris_no {xs : List Int} {k : Nat} {n x : Int} (h : k < xs.length) (e : Hid (-1 ≤ lastOf xs k ∧ rowB n xs = goIs (lastOf xs k) (min n 2147483648) (xs.drop k))) (hv : Hid (x = xs[k]?.getD 0)) (hx : x ≤ lastOf xs k ∨ n ≤ x ∨ 2147483648 ≤ x) : false = rowB n xs := by
  rw [e.out.2, drop_cons h, ← hv.out, goIs, if_pos (by omega)]
theorem ris_yes {xs : List Int} {k : Nat} {n x : Int} (h : k < xs.length) (e : Hid (-1 ≤ lastOf xs k ∧ rowB n xs = goIs (lastOf xs k) (min n 2147483648) (xs.drop k))) (hv : Hid (x = xs[k]?.getD 0)) (hx : ¬ (x ≤ lastOf xs k ∨ n ≤ x ∨ 2147483648 ≤ x)) : Hid (-1 ≤ lastOf xs (k + 1) ∧ rowB n xs = goIs (lastOf xs (k + 1)) (min n 2147483648) (xs.drop (k + 1))) := by
  have := e.out.1
  refine ⟨?_, ?_⟩ <;> rw [lastOf_succ, ← hv.out]
  · omega
  · rw [e.out.2, drop_cons h, ← hv.out, goIs, if_neg (by omega)]
theorem ris_end {xs : List Int} {k : Nat} {n : Int} (h : ¬ k < xs.length) (e : Hid (-1 ≤ lastOf xs k ∧ rowB n xs = goIs (lastOf xs k) (min n 2147483648) (xs.drop k))) : true = rowB n xs := by
  rw [e.out.2, List.drop_eq_nil_of_le (by omega)]; rfl

set_option maxHeartbeats 1000000 in
theorem refIs_some (b off cap : Nat) (xs : List Int) (n : Int) (w : World) (hl : xs.length ≤ 9223372036854775807) (hc : Cells w b off xs) :
    Calls Try.prog 8 #[.slice (some ⟨b, off, none⟩) xs.length cap, .int .i64 n] w fun e w' => e = .returned (.bool (rowB n xs)) ∧ ∃ m, w' = w.drewN m := by
  go_enter Try.func8, Try.ntmps8
  go_wp2
  go_loopw [5] (fun i wr => ∃ k q : Nat, k ≤ xs.length ∧ i = .int .i64 k ∧ wr = w.drewN q ∧ Hid (-1 ≤ lastOf xs k ∧ rowB n xs = goIs (lastOf xs k) (min n 2147483648) (xs.drop k))) (fun i _ => xs.length - (intOf i).toNat)
  case atStart => exact ⟨0, 0, Nat.zero_le _, rfl, rfl, ⟨by simp [lastOf], rfl⟩⟩
  case round =>
    obtain ⟨k, q, hk, rfl, rfl, he⟩ := hrel
    by_cases hlt : k < xs.length
    · obtain ⟨x, HX, hcell⟩ := hc.at hlt
      by_cases c1 : x < 0
      · have hlo := he.out.1
        go_wp2
        go_quiet (fail)
        go_wp2
        go_ret
        exact ⟨ret_bool (ris_no hlt he HX (.inl (by omega))), _, World.drewN_drewN _ _ _⟩
      · have d1 : decide (x < 0) = false := by simpa using c1
        by_cases c2 : n ≤ x
        · have d2 : decide (n ≤ x) = true := by simpa using c2
          go_wp2
          go_quiet (fail)
          go_wp2
          go_ret
          exact ⟨ret_bool (ris_no hlt he HX (.inr (.inl c2))), _, World.drewN_drewN _ _ _⟩
        · have d2 : decide (n ≤ x) = false := by simpa using c2
          by_cases c3 : 2147483648 ≤ x
          · go_wp2
            go_quiet (fail)
            go_wp2
            go_ret
            exact ⟨ret_bool (ris_no hlt he HX (.inr (.inr c3))), _, World.drewN_drewN _ _ _⟩
          · have d3 : decide (2147483648 ≤ x) = false := by simpa using c3
            by_cases c4 : k = 0
            · subst c4
              have hl0 : Hid (lastOf xs 0 = -1) := rfl
              rw [Nat.add_zero] at hcell
              go_wp2
              go_quiet (fail)
              go_wp2
              go_roundw
              case rel => exact ⟨1, _, by omega, by go_num, rfl, ris_yes hlt he HX (by have := hl0.out; omega)⟩
              case measure => simp [intOf]; omega
            · obtain ⟨j, rfl⟩ : ∃ j, k = j + 1 := ⟨k - 1, by omega⟩
              obtain ⟨y, HY, hcy⟩ := hc.at (k := j) (by omega)
              have HL : Hid (lastOf xs (j + 1) = y) := by show _ = _; rw [lastOf_succ, HY.out]
              have d4 : decide (0 < (j : Int) + 1) = true := by simp
              by_cases c5 : x ≤ y
              · have d5 : decide (x ≤ y) = true := by simpa using c5
                go_wp2
                go_quiet (fail)
                go_wp2
                go_ret
                exact ⟨ret_bool (ris_no hlt he HX (.inl (by have := HL.out; omega))), _, World.drewN_drewN _ _ _⟩
              · have d5 : decide (x ≤ y) = false := by simpa using c5
                go_wp2
                go_quiet (fail)
                go_wp2
                go_roundw
                case rel => exact ⟨j + 1 + 1, _, by omega, by go_num, rfl, ris_yes hlt he HX (by have := HL.out; omega)⟩
                case measure => simp [intOf]; omega
    · go_wp2
      go_ret
      exact ⟨ret_bool (ris_end hlt he), q, rfl⟩

set_option maxHeartbeats 400000 in
theorem refIs_nil (a : Option Addr) (cap : Nat) (n : Int) (w : World) :
    Calls Try.prog 8 #[.slice a 0 cap, .int .i64 n] w fun e w' => e = .returned (.bool true) ∧ ∃ m, w' = w.drewN m := by
  go_enter Try.func8, Try.ntmps8
  go_wp2
  refine wp_loop_rounds 1 ?_
  rw [rounds_succ]
  go_wp2
  go_ret
  exact ⟨rfl, 0, rfl⟩

theorem refIs_any (a : Option Addr) (cap : Nat) (xs : List Int) (n : Int) (w : World) (hs : At w a xs) (hl : xs.length ≤ maxLen) :
    Calls Try.prog 8 #[.slice a xs.length cap, .int .i64 n] w fun e w' => e = .returned (.bool (rowB n xs)) ∧ ∃ m, w' = w.drewN m := by
  rcases hs with rfl | ⟨b, off, rfl, -, hc⟩
  · exact refIs_nil a cap n w
  · exact refIs_some b off cap xs n w hl hc

end Go.Proofs.Ytppfcbapfbmckaa
