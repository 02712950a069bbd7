/-
  The walk of jalousiekeep.has: whether a list has a number.
  The walk of jalousiekeep.tells.
-/
import Derived.Test.YtmimjpkllgjdkaaDoorG03
import Derived.Test.YtmimjpkllgjdkaaDoorG26
namespace Go.Proofs.YtmimjpkllgjdkaaDoor
open Go.RowKit

set_option maxHeartbeats 400000 in
theorem keepHas_some (b off cap : Nat) (xs : List Int) (n : Int) (w : World) (hl : xs.length ≤ 9223372036854775807) (hc : Cells w b off xs) :
    Calls Tryd.prog 81 #[.slice (some ⟨b, off, none⟩) xs.length cap, .int .i64 n] w fun e w' => e = .returned (.bool (hasB xs n)) ∧ w' = w := by
  go_enter Tryd.func81, Tryd.ntmps81
  go_wp2
  go_loop [5] (fun i => ∃ k : Nat, k ≤ xs.length ∧ i = .int .i64 k ∧ Hid (hasB xs n = hasB (xs.drop k) n)) (fun i => xs.length - (intOf i).toNat)
  case atStart => exact ⟨0, Nat.zero_le _, rfl, rfl⟩
  case round =>
    obtain ⟨k, hk, rfl, he⟩ := hrel
    by_cases hlt : k < xs.length
    · obtain ⟨x, HX, hcell⟩ := hc.at hlt
      go_wp2
      · go_ret
        exact ⟨ret_bool (has_hit hlt he HX (by assumption)), rfl⟩
      · go_round
        case rel => exact ⟨k + 1, by omega, by go_num, has_miss hlt he HX (by assumption)⟩
        case measure => simp [intOf]; omega
    · go_wp2
      go_ret
      exact ⟨ret_bool (has_end hlt he), rfl⟩

set_option maxHeartbeats 400000 in
theorem keepHas_nil (a : Option Addr) (cap : Nat) (n : Int) (w : World) :
    Calls Tryd.prog 81 #[.slice a 0 cap, .int .i64 n] w fun e w' => e = .returned (.bool false) ∧ w' = w := by
  go_enter Tryd.func81, Tryd.ntmps81
  go_wp2
  refine wp_loop_rounds 1 ?_
  rw [rounds_succ]
  go_wp2
  go_ret
  exact ⟨rfl, rfl⟩

theorem keepHas_any (a : Option Addr) (cap : Nat) (xs : List Int) (n : Int) (w : World) (hs : At w a xs) (hl : xs.length ≤ maxLen) :
    Calls Tryd.prog 81 #[.slice a xs.length cap, .int .i64 n] w fun e w' => e = .returned (.bool (hasB xs n)) ∧ w' = w := by
  rcases hs with rfl | ⟨b, off, rfl, -, hc⟩
  · exact keepHas_nil a cap n w
  · exact keepHas_some b off cap xs n w hl hc

end Go.Proofs.YtmimjpkllgjdkaaDoor
namespace Go.Proofs.YtmimjpkllgjdkaaDoor
open Go.RowKit
set_option linter.unusedVariables false

/-- All of the first k are secret. -/
def allSec (secret row : List Int) (k : Nat) : Prop := ∀ (j : Nat) (x : Int), j < k → row[j]? = some x → hasB secret x = true
theorem tells_no {secret row : List Int} {k : Nat} {x : Int} (h : k < row.length) (hx : Hid (x = row[k]?.getD 0)) (hn : hasB secret x = false) : false = leakB secret row := by
  have hm : x ∈ row.filter fun n => hasB secret n == false := by
    rw [List.mem_filter]
    refine ⟨?_, by rw [hn]; rfl⟩
    rw [hx.out, List.getElem?_eq_getElem h]; exact List.getElem_mem h
  have := List.length_pos_of_mem hm
  unfold leakB
  rw [decide_eq_false (by omega : ¬ (row.filter fun n => hasB secret n == false).length = 0), Bool.and_false]
theorem tells_succ {secret row : List Int} {k : Nat} {x : Int} (h0 : Hid (allSec secret row k)) (h : k < row.length) (hx : Hid (x = row[k]?.getD 0)) (hn : hasB secret x = true) : Hid (allSec secret row (k + 1)) := fun j y hj hy => by
  by_cases e : j < k
  · exact h0.out j y e hy
  · have : j = k := by omega
    subst this
    have e1 := hx.out
    rw [hy, Option.getD_some] at e1
    rw [← e1]; exact hn
theorem tells_end {secret row : List Int} {k : Nat} (h0 : Hid (allSec secret row k)) (h : ¬ k < row.length) : decide (0 < row.length) = leakB secret row := by
  have : (row.filter fun n => hasB secret n == false).length = 0 := by
    rw [List.length_eq_zero_iff, List.filter_eq_nil_iff]
    intro x hx
    obtain ⟨j, hj⟩ := List.mem_iff_getElem?.1 hx
    have := h0.out j x (Nat.lt_of_lt_of_le (List.getElem?_eq_some_iff.1 hj).1 (by omega)) hj
    rw [this]; simp
  unfold leakB
  rw [decide_eq_true this, Bool.and_true]

set_option maxHeartbeats 2000000 in
theorem ktells_any (a b : Option Addr) (ca cb : Nat) (row secret : List Int) (w : World) (h : At w a row) (hl : row.length ≤ maxLen) (h' : At w b secret) (hl' : secret.length ≤ maxLen) :
    Calls Tryd.prog 39 #[.slice a row.length ca, .slice b secret.length cb] w fun e w' => e = .returned (.bool (leakB secret row)) ∧ w' = w := by
  have hl9 : row.length ≤ 9223372036854775807 := hl
  have HB := Hid.of h'
  have HBL := Hid.of hl'
  have HA := Hid.of h
  clear h h' hl hl'
  go_enter Tryd.func39, Tryd.ntmps39
  go_wp2_with fail
  go_loopw [5] (fun i wr => ∃ k : Nat, i = .int .i64 k ∧ k ≤ row.length ∧ Hid (wr = w) ∧ Hid (allSec secret row k)) (fun i _ => row.length - (intOf i).toNat)
  case atStart => exact ⟨0, rfl, Nat.zero_le _, rfl, fun j x hj => absurd hj (Nat.not_lt_zero _)⟩
  case round =>
    obtain ⟨k, rfl, hk, HW, HS⟩ := hrel
    have hwr := HW.out
    subst hwr
    by_cases hlt : k < row.length
    · rcases HA.out with h0 | ⟨ab, ao, rfl, hab, hac⟩
      · rw [h0] at hlt; simp at hlt
      obtain ⟨x, HX⟩ : ∃ x, Hid (x = row[k]?.getD 0) := ⟨_, rfl⟩
      have cx : wr.cell? ⟨ab, ao + k, none⟩ = some (.int .i64 x) := by
        rw [HX.out, ← List.getD_eq_getElem?_getD]; exact hac k hlt
      clear hac
      have KEY := Hid.of (keepHas_any b cb secret x wr HB.out HBL.out)
      go_wp2_with fail
      refine KEY.out.mono ?_
      rintro e W1 ⟨rfl, hw1⟩
      subst hw1
      cases hh : hasB secret x with
      | true =>
        have HN := Hid.of (tells_succ HS hlt HX hh)
        clear hh KEY
        go_wp2_with fail
        go_roundw
        case rel => exact ⟨k + 1, by go_num, by omega, (by first | exact trivial | exact rfl), HN⟩
        case measure => simp [intOf]; omega
      | false =>
        have HN := Hid.of (tells_no hlt HX hh)
        clear hh KEY
        go_wp2_with fail
        go_ret
        exact ⟨ret_bool HN.out, rfl⟩
    · have HN := Hid.of (tells_end HS hlt)
      by_cases h0 : 0 < row.length
      · have d0 : decide ((0 : Int) < (row.length : Int)) = true := decide_eq_true (by omega)
        have HN2 : Hid (true = leakB secret row) := by show _ = _; rw [← HN.out, decide_eq_true h0]
        go_wp2_with fail
        all_goals
          go_ret
          exact ⟨ret_bool HN2.out, rfl⟩
      · have d0 : decide ((0 : Int) < (row.length : Int)) = false := decide_eq_false (by omega)
        have HN2 : Hid (false = leakB secret row) := by show _ = _; rw [← HN.out, decide_eq_false h0]
        go_wp2_with fail
        all_goals
          go_ret
          exact ⟨ret_bool HN2.out, rfl⟩

end Go.Proofs.YtmimjpkllgjdkaaDoor
