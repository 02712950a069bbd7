/-
  A block by its cells ('RowC').
  The walks of slices.Index, slices.Contains and row.Has: whether a list has a number.
  The walk of row.Is: it answers 'rowB n xs'.
  The walks of machine.within and of its closure.
  The walks of cmp.Compare, cmp.Or (at integers) and of machine.compare: which of two arrows stands ahead.
  The walk of machine.compare.
-/
import Derived.Test.YtbdkaobbfmgnhaaDoorG06
import Derived.Test.YtbdkaobbfmgnhaaDoorG03
import Derived.Deep.QuietTactic
import Derived.BigQuiet
import Derived.Laws.EntriesVeiled
import Derived.Laws.Bits64b
import Derived.BigRegion
import Derived.Deep.RegionHeld3
import Derived.Test.YtbdkaobbfmgnhaaDoorG04
import Derived.Test.YtbdkaobbfmgnhaaDoorG05
namespace Go.Proofs.YtbdkaobbfmgnhaaDoor
open Go.RowKit
set_option linter.unusedVariables false

/-- Block b has n cells of type t, and j holds f j. -/
def RowC (W : World) (b : Nat) (t : TypeId) (n : Nat) (f : Nat → Value) : Prop := ∃ cs : Array Value, Blk W b t cs ∧ cs.size = n ∧ ∀ j, j < n → cs[j]? = some (f j)
theorem RowC.cell {W : World} {b n : Nat} {t : TypeId} {f : Nat → Value} (h : RowC W b t n f) {j : Nat} (hj : j < n) : W.cell? ⟨b, j, none⟩ = some (f j) := by
  obtain ⟨cs, hb, -, hc⟩ := h
  exact hb.cell j (hc j hj)
theorem RowC.lt {W : World} {b n : Nat} {t : TypeId} {f : Nat → Value} (h : RowC W b t n f) : b < W.heap.size := by
  obtain ⟨cs, hb, -, -⟩ := h
  exact hb.lt
theorem RowC.below {W W' : World} {b n B : Nat} {t : TypeId} {f : Nat → Value} (h : RowC W b t n f) (hb : Below B W W') (hB : b < B) : RowC W' b t n f := by
  obtain ⟨cs, h1, h2, h3⟩ := h
  exact ⟨cs, h1.below hb hB, h2, h3⟩
theorem RowC.same {W W' : World} {b n : Nat} {t : TypeId} {f : Nat → Value} (h : RowC W b t n f) (hb : W'.heap[b]? = W.heap[b]?) : RowC W' b t n f := by
  obtain ⟨cs, h1, h2, h3⟩ := h
  exact ⟨cs, hb.trans h1, h2, h3⟩
theorem RowC.congr {W : World} {b n : Nat} {t : TypeId} {f g : Nat → Value} (h : RowC W b t n f) (hfg : ∀ j, j < n → f j = g j) : RowC W b t n g := by
  obtain ⟨cs, h1, h2, h3⟩ := h
  exact ⟨cs, h1, h2, fun j hj => by rw [h3 j hj, hfg j hj]⟩
theorem RowC.made {W : World} {b n : Nat} {t : TypeId} {x : Value} (h : Blk W b t (madeCells #[x] n)) : RowC W b t n (fun _ => x) :=
  ⟨_, h, by simp [madeCells], fun j hj => by simp [madeCells, hj, Nat.mod_one]⟩
theorem RowC.set {W : World} {b n : Nat} {t : TypeId} {f : Nat → Value} (h : RowC W b t n f) {j : Nat} (hj : j < n) (v : Value) : RowC (W.setCell ⟨b, j, none⟩ v) b t n (fun i => if i = j then v else f i) := by
  obtain ⟨cs, h1, h2, h3⟩ := h
  refine ⟨_, h1.set j v, by simp [h2], fun i hi => ?_⟩
  by_cases e : i = j
  · subst e; dsimp only; rw [if_pos rfl]; simp [h2, hi]
  · dsimp only; rw [if_neg e, ← h3 i hi]; simp [Ne.symm e]
theorem RowC.other {W : World} {b b' n j : Nat} {t : TypeId} {f : Nat → Value} (h : RowC W b t n f) (hne : b' ≠ b) (v : Value) : RowC (W.setCell ⟨b', j, none⟩ v) b t n f := by
  obtain ⟨cs, h1, h2, h3⟩ := h
  exact ⟨cs, Blk.other h1 hne.symm v, h2, h3⟩

end Go.Proofs.YtbdkaobbfmgnhaaDoor
namespace Go.Proofs.YtbdkaobbfmgnhaaDoor
open Go.RowKit

/-- What slices.Index answers: the first place, or -1. -/
def idxFrom (n : Int) : Nat → List Int → Int
  | _, [] => -1
  | k, x :: r => if n = x then k else idxFrom n (k + 1) r

theorem idx_has (n : Int) : ∀ (xs : List Int) (k : Nat), decide (0 ≤ idxFrom n k xs) = hasB xs n
  | [], _ => rfl
  | x :: r, k => by
    unfold idxFrom
    by_cases h : n = x
    · rw [if_pos h]; subst h; simp [hasB]
    · rw [if_neg h, idx_has n r (k + 1)]
      have h1 : (n == x) = false := by simp [h]
      simp only [hasB, List.contains_cons, h1, Bool.false_or]
theorem idx_hit {xs : List Int} {k : Nat} {n x : Int} (h : k < xs.length) (e : Hid (idxFrom n 0 xs = idxFrom n k (xs.drop k))) (hv : Hid (x = xs[k]?.getD 0)) (hx : (n == x) = true) : (k : Int) = idxFrom n 0 xs := by
  have hx : n = x := by simpa using hx
  rw [e.out, drop_cons h, ← hv.out, idxFrom, if_pos hx]
theorem idx_miss {xs : List Int} {k : Nat} {n x : Int} (h : k < xs.length) (e : Hid (idxFrom n 0 xs = idxFrom n k (xs.drop k))) (hv : Hid (x = xs[k]?.getD 0)) (hx : (n == x) = false) : Hid (idxFrom n 0 xs = idxFrom n (k + 1) (xs.drop (k + 1))) := by
  have hx : ¬ n = x := by simpa using hx
  show idxFrom n 0 xs = _
  rw [e.out, drop_cons h, ← hv.out, idxFrom, if_neg hx]
theorem idx_end {xs : List Int} {k : Nat} {n : Int} (h : ¬ k < xs.length) (e : Hid (idxFrom n 0 xs = idxFrom n k (xs.drop k))) : -1 = idxFrom n 0 xs := by
  rw [e.out, List.drop_eq_nil_of_le (by omega)]; rfl

set_option maxHeartbeats 400000 in
theorem index_some (b off cap : Nat) (xs : List Int) (n : Int) (w : World) (hl : xs.length ≤ 9223372036854775807) (hc : Cells w b off xs) :
    Calls Tryd.prog 150 #[.slice (some ⟨b, off, none⟩) xs.length cap, .int .i64 n] w fun e w' => e = .returned (.int .i64 (idxFrom n 0 xs)) ∧ w' = w := by
  go_enter Tryd.func150, Tryd.ntmps150
  go_wp2
  go_loop [8] (fun i => ∃ k : Nat, k ≤ xs.length ∧ i = .int .i64 k ∧ Hid (idxFrom n 0 xs = idxFrom n k (xs.drop k))) (fun i => xs.length - (intOf i).toNat)
  case atStart => exact ⟨0, Nat.zero_le _, rfl, rfl⟩
  case round =>
    obtain ⟨k, hk, rfl, he⟩ := hrel
    by_cases hlt : k < xs.length
    · obtain ⟨x, HX, hcell⟩ := hc.at hlt
      go_wp2
      · go_ret
        exact ⟨ret_int (idx_hit hlt he HX (by assumption)), rfl⟩
      · go_round
        case rel => exact ⟨k + 1, by omega, by go_num, idx_miss hlt he HX (by assumption)⟩
        case measure => simp [intOf]; omega
    · go_wp2
      go_ret
      exact ⟨ret_int (idx_end hlt he), rfl⟩

set_option maxHeartbeats 400000 in
theorem index_nil (a : Option Addr) (cap : Nat) (n : Int) (w : World) :
    Calls Tryd.prog 150 #[.slice a 0 cap, .int .i64 n] w fun e w' => e = .returned (.int .i64 (-1)) ∧ w' = w := by
  go_enter Tryd.func150, Tryd.ntmps150
  go_wp2
  refine wp_loop_rounds 1 ?_
  rw [rounds_succ]
  go_wp2
  go_ret
  exact ⟨rfl, rfl⟩

theorem index_any (a : Option Addr) (cap : Nat) (xs : List Int) (n : Int) (w : World) (hs : At w a xs) (hl : xs.length ≤ maxLen) :
    Calls Tryd.prog 150 #[.slice a xs.length cap, .int .i64 n] w fun e w' => e = .returned (.int .i64 (idxFrom n 0 xs)) ∧ w' = w := by
  rcases hs with rfl | ⟨b, off, rfl, -, hc⟩
  · exact index_nil a cap n w
  · exact index_some b off cap xs n w hl hc

set_option maxHeartbeats 400000 in
theorem contains_any (a : Option Addr) (cap : Nat) (xs : List Int) (n : Int) (w : World) (hs : At w a xs) (hl : xs.length ≤ maxLen) :
    Calls Tryd.prog 135 #[.slice a xs.length cap, .int .i64 n] w fun e w' => e = .returned (.bool (hasB xs n)) ∧ w' = w := by
  go_enter Tryd.func135, Tryd.ntmps135
  go_wp2_with fail
  refine (index_any a cap xs n _ hs hl).mono ?_
  rintro e w' ⟨rfl, rfl⟩
  go_wp2
  go_ret
  exact ⟨ret_bool (idx_has n xs 0), rfl⟩

set_option maxHeartbeats 400000 in
theorem rowHas_any (a : Option Addr) (cap : Nat) (xs : List Int) (n : Int) (w : World) (hs : At w a xs) (hl : xs.length ≤ maxLen) :
    Calls Tryd.prog 106 #[.slice a xs.length cap, .int .i64 n] w fun e w' => e = .returned (.bool (hasB xs n)) ∧ w' = w := by
  go_enter Tryd.func106, Tryd.ntmps106
  go_wp2_with fail
  refine (contains_any a cap xs n _ hs hl).mono ?_
  rintro e w' ⟨rfl, rfl⟩
  go_wp2
  go_ret
  exact ⟨rfl, rfl⟩

end Go.Proofs.YtbdkaobbfmgnhaaDoor
namespace Go.Proofs.YtbdkaobbfmgnhaaDoor
open Go.RowKit

theorem rowB_start1 {n : Int} (h : n ≤ 2147483648) (xs : List Int) : rowB n xs = goIs (-1) n xs := by unfold rowB; rw [show min n 2147483648 = n by omega]
theorem rowB_start2 {n : Int} (h : 2147483648 < n) (xs : List Int) : rowB n xs = goIs (-1) 2147483648 xs := by unfold rowB; rw [show min n 2147483648 = 2147483648 by omega]

set_option maxHeartbeats 400000 in
theorem rowIs_some (b off cap : Nat) (xs : List Int) (n : Int) (w : World) (hl : xs.length ≤ 9223372036854775807) (hc : Cells w b off xs) :
    Calls Tryd.prog 46 #[.slice (some ⟨b, off, none⟩) xs.length cap, .int .i64 n] w fun e w' => e = .returned (.bool (rowB n xs)) ∧ w' = w := by
  by_cases hn : n ≤ 2147483648
  · have HS : Hid (rowB n xs = goIs (-1) n (xs.drop 0)) := rowB_start1 hn xs
    go_enter Tryd.func46, Tryd.ntmps46
    go_wp2
    go_loop [5, 12] (fun l i => ∃ (k : Nat) (last : Int), k ≤ xs.length ∧ i = .int .i64 k ∧ l = .int .i64 last ∧ Hid (rowB n xs = goIs last n (xs.drop k))) (fun _ i => xs.length - (intOf i).toNat)
    case atStart => exact ⟨0, -1, Nat.zero_le _, rfl, rfl, HS⟩
    case round =>
      obtain ⟨k, last, hk, rfl, rfl, he⟩ := hrel
      by_cases hlt : k < xs.length
      · obtain ⟨x, HX, hcell⟩ := hc.at hlt
        by_cases h1 : x ≤ last
        · go_wp2
          go_ret
          exact ⟨ret_bool (is_no hlt he HX (.inl h1)), rfl⟩
        · by_cases h2 : n ≤ x
          · go_wp2
            go_ret
            exact ⟨ret_bool (is_no hlt he HX (.inr h2)), rfl⟩
          · go_wp2
            go_round
            case rel => exact ⟨k + 1, x, by omega, by go_num, rfl, is_yes hlt he HX (by omega)⟩
            case measure => simp [intOf]; omega
      · go_wp2
        go_ret
        exact ⟨ret_bool (is_end hlt he), rfl⟩
  · have HS : Hid (rowB n xs = goIs (-1) 2147483648 (xs.drop 0)) := rowB_start2 (by omega) xs
    go_enter Tryd.func46, Tryd.ntmps46
    go_wp2
    go_loop [5, 12] (fun l i => ∃ (k : Nat) (last : Int), k ≤ xs.length ∧ i = .int .i64 k ∧ l = .int .i64 last ∧ Hid (rowB n xs = goIs last 2147483648 (xs.drop k))) (fun _ i => xs.length - (intOf i).toNat)
    case atStart => exact ⟨0, -1, Nat.zero_le _, rfl, rfl, HS⟩
    case round =>
      obtain ⟨k, last, hk, rfl, rfl, he⟩ := hrel
      by_cases hlt : k < xs.length
      · obtain ⟨x, HX, hcell⟩ := hc.at hlt
        by_cases h1 : x ≤ last
        · go_wp2
          go_ret
          exact ⟨ret_bool (is_no hlt he HX (.inl h1)), rfl⟩
        · by_cases h2 : 2147483648 ≤ x
          · go_wp2
            go_ret
            exact ⟨ret_bool (is_no hlt he HX (.inr h2)), rfl⟩
          · go_wp2
            go_round
            case rel => exact ⟨k + 1, x, by omega, by go_num, rfl, is_yes hlt he HX (by omega)⟩
            case measure => simp [intOf]; omega
      · go_wp2
        go_ret
        exact ⟨ret_bool (is_end hlt he), rfl⟩

set_option maxHeartbeats 400000 in
theorem rowIs_nil (a : Option Addr) (cap : Nat) (n : Int) (w : World) :
    Calls Tryd.prog 46 #[.slice a 0 cap, .int .i64 n] w fun e w' => e = .returned (.bool true) ∧ w' = w := by
  go_enter Tryd.func46, Tryd.ntmps46
  go_wp2
  all_goals
    refine wp_loop_rounds 1 ?_
    rw [rounds_succ]
    go_wp2
    go_ret
    exact ⟨rfl, rfl⟩

theorem rowIs_any (a : Option Addr) (cap : Nat) (xs : List Int) (n : Int) (w : World) (hs : At w a xs) (hl : xs.length ≤ maxLen) :
    Calls Tryd.prog 46 #[.slice a xs.length cap, .int .i64 n] w fun e w' => e = .returned (.bool (rowB n xs)) ∧ w' = w := by
  rcases hs with rfl | ⟨b, off, rfl, -, hc⟩
  · exact rowIs_nil a cap n w
  · exact rowIs_some b off cap xs n w hl hc

end Go.Proofs.YtbdkaobbfmgnhaaDoor
namespace Go.Proofs.YtbdkaobbfmgnhaaDoor
open Go.RowKit
set_option linter.unusedVariables false

set_option maxHeartbeats 400000 in
theorem within_any (b : Int) (w : World) :
    Calls Tryd.prog 91 #[.int .i64 b] w fun e w' => e = .returned (.func (.func 121) #[] #[.pointer (some ⟨w.heap.size, 0, none⟩)]) ∧ w' = w.alloc (.cells #[.int .i64 b] 3) := by
  have hmf : ∀ (fn : Fn) (first cap : Array Value) (w : World), (Instr.makeFunc fn first cap).run Tryd.prog w = .ok (.func fn first cap) w := fun _ _ _ _ => rfl
  go_enter Tryd.func91, Tryd.ntmps91
  go_wp2
  go_ret
  exact ⟨rfl, rfl⟩

/-- Is a number from 0 to below a bound? -/
def inB (b n : Int) : Bool := decide (0 ≤ n ∧ n < b)

set_option maxHeartbeats 400000 in
theorem within1_any (b n : Int) (B : Nat) (w : World) (hc : w.cell? ⟨B, 0, none⟩ = some (.int .i64 b)) :
    Calls Tryd.prog 121 #[.int .i64 n, .pointer (some ⟨B, 0, none⟩)] w fun e w' => e = .returned (.bool (inB b n)) ∧ w' = w := by
  by_cases h1 : 0 ≤ n
  · by_cases h2 : n < b
    · have hr : Hid (true = inB b n) := show true = inB b n by simp [inB, h1, h2]
      have f1 : decide (0 ≤ n) = true := by simpa using h1
      have f2 : decide (n < b) = true := by simpa using h2
      go_enter Tryd.func121, Tryd.ntmps121
      go_wp2
      go_ret
      exact ⟨ret_bool hr.out, rfl⟩
    · have hr : Hid (false = inB b n) := show false = inB b n by simp [inB]; omega
      have f1 : decide (0 ≤ n) = true := by simpa using h1
      have f2 : decide (n < b) = false := by simpa using h2
      go_enter Tryd.func121, Tryd.ntmps121
      go_wp2
      go_ret
      exact ⟨ret_bool hr.out, rfl⟩
  · have hr : Hid (false = inB b n) := show false = inB b n by simp [inB]; omega
    have f1 : decide (0 ≤ n) = false := by simpa using h1
    go_enter Tryd.func121, Tryd.ntmps121
    go_wp2
    go_ret
    exact ⟨ret_bool hr.out, rfl⟩

end Go.Proofs.YtbdkaobbfmgnhaaDoor
namespace Go.Proofs.YtbdkaobbfmgnhaaDoor
open Go.RowKit
set_option linter.unusedVariables false
set_option maxRecDepth 100000

set_option maxHeartbeats 400000 in
theorem isNaN_any (x : Int) (w : World) : Calls Tryd.prog 146 #[.int .i64 x] w fun e w' => e = .returned (.bool false) ∧ w' = w := by
  have h : (x != x) = false := by simp
  go_enter Tryd.func146, Tryd.ntmps146
  go_wp2
  go_ret
  exact ⟨rfl, rfl⟩

/-- -1, 0 or 1. -/
def cmpI (x y : Int) : Int := if x < y then -1 else if y < x then 1 else 0

theorem ret_i64 {a b : Int} (h : a = b) : Ending.returned (.int .i64 a) = .returned (.int .i64 b) := by rw [h]

set_option maxHeartbeats 1000000 in
theorem cmp_any (x y : Int) (w : World) : Calls Tryd.prog 123 #[.int .i64 x, .int .i64 y] w fun e w' => e = .returned (.int .i64 (cmpI x y)) ∧ w' = w := by
  have c1 := isNaN_any x
  have c2 := isNaN_any y
  by_cases h1 : x < y
  · have hr : Hid ((-1 : Int) = cmpI x y) := by show _ = _; simp [cmpI, h1]
    have f1 : decide (x < y) = true := by simpa using h1
    go_enter Tryd.func123, Tryd.ntmps123
    go_wp2_with (first | (go_at_call 146; refine (c1 _).mono ?_; rintro e w' ⟨rfl, rfl⟩) | (go_at_call 146; refine (c2 _).mono ?_; rintro e w' ⟨rfl, rfl⟩))
    go_ret
    exact ⟨ret_i64 hr.out, rfl⟩
  · have f1 : decide (x < y) = false := by simpa using h1
    by_cases h2 : y < x
    · have hr : Hid ((1 : Int) = cmpI x y) := by show _ = _; simp [cmpI, h1, h2]
      have f2 : decide (y < x) = true := by simpa using h2
      go_enter Tryd.func123, Tryd.ntmps123
      go_wp2_with (first | (go_at_call 146; refine (c1 _).mono ?_; rintro e w' ⟨rfl, rfl⟩) | (go_at_call 146; refine (c2 _).mono ?_; rintro e w' ⟨rfl, rfl⟩))
      go_ret
      exact ⟨ret_i64 hr.out, rfl⟩
    · have hr : Hid ((0 : Int) = cmpI x y) := by show _ = _; simp [cmpI, h1, h2]
      have f2 : decide (y < x) = false := by simpa using h2
      go_enter Tryd.func123, Tryd.ntmps123
      go_wp2_with (first | (go_at_call 146; refine (c1 _).mono ?_; rintro e w' ⟨rfl, rfl⟩) | (go_at_call 146; refine (c2 _).mono ?_; rintro e w' ⟨rfl, rfl⟩))
      go_ret
      exact ⟨ret_i64 hr.out, rfl⟩

/-- The first that is not 0. -/
def orI (x y z : Int) : Int := if x = 0 then (if y = 0 then z else y) else x

set_option maxHeartbeats 1000000 in
theorem or_any (x y z : Int) (b : Nat) (w : World) (h0 : w.cell? ⟨b, 0, none⟩ = some (.int .i64 x)) (h1 : w.cell? ⟨b, 1, none⟩ = some (.int .i64 y)) (h2 : w.cell? ⟨b, 2, none⟩ = some (.int .i64 z)) :
    Calls Tryd.prog 122 #[.slice (some ⟨b, 0, none⟩) 3 3] w fun e w' => e = .returned (.int .i64 (orI x y z)) ∧ w' = w := by
  by_cases e0 : x = 0
  · subst e0
    by_cases e1 : y = 0
    · subst e1
      by_cases e2 : z = 0
      · subst e2
        go_enter Tryd.func122, Tryd.ntmps122
        go_wp2
        refine wp_loop_rounds 4 ?_
        rw [rounds_succ]
        go_wp2
        rw [rounds_succ]
        go_wp2
        rw [rounds_succ]
        go_wp2
        rw [rounds_succ]
        go_wp2
        go_ret
        exact ⟨ret_i64 (by simp [orI]), rfl⟩
      · have f2 : (z == 0) = false := by simpa using e2
        have f2' : (z != 0) = true := by simpa using e2
        have hr : Hid (z = orI 0 0 z) := by show _ = _; simp [orI]
        go_enter Tryd.func122, Tryd.ntmps122
        go_wp2
        refine wp_loop_rounds 4 ?_
        rw [rounds_succ]
        go_wp2
        rw [rounds_succ]
        go_wp2
        rw [rounds_succ]
        go_wp2
        go_ret
        exact ⟨ret_i64 hr.out, rfl⟩
    · have f1 : (y == 0) = false := by simpa using e1
      have f1' : (y != 0) = true := by simpa using e1
      have hr : Hid (y = orI 0 y z) := by show _ = _; simp [orI, e1]
      go_enter Tryd.func122, Tryd.ntmps122
      go_wp2
      refine wp_loop_rounds 4 ?_
      rw [rounds_succ]
      go_wp2
      rw [rounds_succ]
      go_wp2
      go_ret
      exact ⟨ret_i64 hr.out, rfl⟩
  · have f0 : (x == 0) = false := by simpa using e0
    have f0' : (x != 0) = true := by simpa using e0
    have hr : Hid (x = orI x y z) := by show _ = _; simp [orI, e0]
    go_enter Tryd.func122, Tryd.ntmps122
    go_wp2
    refine wp_loop_rounds 4 ?_
    rw [rounds_succ]
    go_wp2
    go_ret
    exact ⟨ret_i64 hr.out, rfl⟩

/-- Which of two arrows stands ahead, by its sign. -/
def cmpA (a b : Arr) : Int := orI (cmpI a.f b.f) (cmpI a.e b.e) (cmpI a.t b.t)

theorem cmpA_ahead (a b : Arr) : decide (0 ≤ cmpA a b) = !aheadB a b := by
  unfold cmpA aheadB orI cmpI
  by_cases h1 : a.f < b.f
  · simp [h1, show ¬ a.f = b.f by omega]
  · by_cases h2 : b.f < a.f
    · simp [h1, h2, show ¬ a.f = b.f by omega]
    · have e : a.f = b.f := by omega
      by_cases h3 : a.e < b.e
      · simp [e, h3, show ¬ a.e = b.e by omega]
      · by_cases h4 : b.e < a.e
        · simp [e, h3, h4, show ¬ a.e = b.e by omega]
        · have e' : a.e = b.e := by omega
          by_cases h5 : a.t < b.t
          · simp [e, e', h5]
          · by_cases h6 : b.t < a.t
            · simp [e, e', h5, h6]
            · simp [e, e', h5, h6]

end Go.Proofs.YtbdkaobbfmgnhaaDoor
namespace Go.Proofs.YtbdkaobbfmgnhaaDoor
open Go.RowKit
set_option linter.unusedVariables false

/-- An arrow's cells. -/
abbrev acells (a : Arr) : Array Value := #[.int .i64 a.f, .int .i64 a.e, .int .i64 a.t]

set_option maxRecDepth 100000 in
set_option maxHeartbeats 4000000 in
theorem compare_any (a b : Arr) (w : World) :
    Calls Tryd.prog 92 #[.agg (acells a), .agg (acells b)] w fun e w' => e = .returned (.int .i64 (cmpA a b)) ∧ Below w.heap.size w w' := by
  have k1 : Blk ((w.alloc (.cells (acells a) 58)).alloc (.cells (acells b) 58)) w.heap.size 58 (acells a) := (Blk.new w _ _).alloc _
  have k2 : Blk ((w.alloc (.cells (acells a) 58)).alloc (.cells (acells b) 58)) (w.heap.size + 1) 58 (acells b) := by
    have := Blk.new (w.alloc (.cells (acells a) 58)) 58 (acells b)
    rwa [World.size_alloc] at this
  have hB : Below w.heap.size w ((w.alloc (.cells (acells a) 58)).alloc (.cells (acells b) 58)) := ((Below.refl _ _).alloc (Nat.le_refl _) _).alloc (by simp) _
  have hsz : ((w.alloc (.cells (acells a) 58)).alloc (.cells (acells b) 58)).heap.size = w.heap.size + 2 := by simp
  have K1 := Hid.of k1
  have K2 := Hid.of k2
  have HB := Hid.of hB
  have HS := Hid.of hsz
  clear k1 k2 hB hsz
  go_enter Tryd.func92, Tryd.ntmps92
  go_wp2
  revert K1 K2 HB HS
  generalize (w.alloc (.cells (acells a) 58)).alloc (.cells (acells b) 58) = V
  intro K1 K2 HB HS
  have a0 : V.cell? ⟨w.heap.size, 0, none⟩ = some (.int .i64 a.f) := K1.out.cell 0 rfl
  have a1 : V.cell? ⟨w.heap.size, 1, none⟩ = some (.int .i64 a.e) := K1.out.cell 1 rfl
  have a2 : V.cell? ⟨w.heap.size, 2, none⟩ = some (.int .i64 a.t) := K1.out.cell 2 rfl
  have b0 : V.cell? ⟨w.heap.size + 1, 0, none⟩ = some (.int .i64 b.f) := K2.out.cell 0 rfl
  have b1 : V.cell? ⟨w.heap.size + 1, 1, none⟩ = some (.int .i64 b.e) := K2.out.cell 1 rfl
  have b2 : V.cell? ⟨w.heap.size + 1, 2, none⟩ = some (.int .i64 b.t) := K2.out.cell 2 rfl
  have hs := HS.out
  have hn1 : w.heap.size < V.heap.size := by omega
  have hn2 : w.heap.size + 1 < V.heap.size := by omega
  have n1 := World.new_ne V _ a0
  have n2 := World.new_ne V _ b0
  go_region_held3 (fun w' => w'.cell? ⟨w.heap.size, 0, none⟩ = some (.int .i64 a.f) ∧ w'.cell? ⟨w.heap.size, 1, none⟩ = some (.int .i64 a.e) ∧ w'.cell? ⟨w.heap.size, 2, none⟩ = some (.int .i64 a.t) ∧ w'.cell? ⟨w.heap.size + 1, 0, none⟩ = some (.int .i64 b.f) ∧ w'.cell? ⟨w.heap.size + 1, 1, none⟩ = some (.int .i64 b.e) ∧ w'.cell? ⟨w.heap.size + 1, 2, none⟩ = some (.int .i64 b.t)) (go_keep) (first | (go_at_call 123; refine (cmp_any _ _ _).mono ?_; rintro e w1 ⟨rfl, rfl⟩) | (go_at_call 122; refine (or_any (cmpI a.f b.f) (cmpI a.e b.e) (cmpI a.t b.t) _ _ (by go_simp) (by go_simp) (by go_simp)).mono ?_; rintro e w1 ⟨rfl, rfl⟩))
  go_wp2
  go_ret
  exact ⟨rfl, (HB.out.alloc HB.out.size _).drew⟩

end Go.Proofs.YtbdkaobbfmgnhaaDoor
