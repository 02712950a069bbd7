/-
  The walks of row.Join, row.Meet and row.Less.
-/
import Derived.Test.YtfjkdlhnieiibaaPickJoin
import Derived.Test.YtfjkdlhnieiibaaPickMeet
import Derived.Test.YtfjkdlhnieiibaaPickLess
import Derived.Test.YtfjkdlhnieiibaaStays
namespace Go.Proofs.Ytfjkdlhnieiibaa
open Go.RowKit
set_option linter.unusedVariables false

set_option maxHeartbeats 400000 in
theorem pick_no (w : World) (a1 : Option Addr) (c1 : Nat) (xs : List Int) (a2 : Option Addr) (c2 : Nat) (ys : List Int) (f : Value) (h1 : At w a1 xs) (h2 : At w a2 ys) (l1 : xs.length ≤ maxLen) (l2 : ys.length ≤ maxLen)
    (hno : Hid (rowB 2147483648 xs = true ∧ rowB 2147483648 ys = true) → False) :
    Calls Try.prog 19 #[.slice a1 xs.length c1, .slice a2 ys.length c2, f] w fun e w' => e = .returned (.tuple #[.slice none 0 0, .int .i64 2]) ∧ w' = w := by
  have HN : Hid (¬ (rowB 2147483648 xs = true ∧ rowB 2147483648 ys = true)) := hno
  clear hno
  by_cases hx : rowB 2147483648 xs = true
  · have hy : Hid (rowB 2147483648 ys = false) := by show _ = _; rw [← Bool.not_eq_true]; exact fun h => HN.out ⟨hx, h⟩
    have hx : Hid (rowB 2147483648 xs = true) := hx
    go_enter Try.func19, Try.ntmps19
    go_wp2_with fail
    refine (rowIs_any a1 c1 xs 2147483648 _ h1 l1).mono ?_
    rintro e w' ⟨rfl, rfl⟩
    rw [hx.out]
    go_wp2_with fail
    refine (rowIs_any a2 c2 ys 2147483648 _ h2 l2).mono ?_
    rintro e w' ⟨rfl, rfl⟩
    rw [hy.out]
    go_wp2
    go_ret2
    exact ⟨rfl, rfl⟩
  · have hx : Hid (rowB 2147483648 xs = false) := by show _ = _; rw [← Bool.not_eq_true]; exact hx
    go_enter Try.func19, Try.ntmps19
    go_wp2_with fail
    refine (rowIs_any a1 c1 xs 2147483648 _ h1 l1).mono ?_
    rintro e w' ⟨rfl, rfl⟩
    rw [hx.out]
    go_wp2
    go_ret2
    exact ⟨rfl, rfl⟩

/-- The world in which pick is called: two lists, their places, the two closures. -/
abbrev jw (w : World) (a1 : Option Addr) (n1 c1 : Nat) (a2 : Option Addr) (n2 c2 : Nat) : World :=
  (((((w.alloc (.cells #[.slice a1 n1 c1] 22)).alloc (.cells #[.int .i64 0] 3)).alloc (.cells #[.slice a2 n2 c2] 22)).alloc (.cells #[.int .i64 0] 3)).alloc (.cells #[.func (.func 25) #[] #[.pointer (some ⟨w.heap.size + 1, 0, none⟩), .pointer (some ⟨w.heap.size, 0, none⟩)]] 31)).alloc
    (.cells #[.func (.func 25) #[] #[.pointer (some ⟨w.heap.size + 1 + 1 + 1, 0, none⟩), .pointer (some ⟨w.heap.size + 1 + 1, 0, none⟩)]] 31)

theorem jw_below (w : World) (a1 : Option Addr) (n1 c1 : Nat) (a2 : Option Addr) (n2 c2 : Nat) : Below w.heap.size w (jw w a1 n1 c1 a2 n2 c2) :=
  ((((((Below.refl _ _).alloc (Nat.le_refl _) _).alloc (by simp) _).alloc (by simp; omega) _).alloc (by simp; omega) _).alloc (by simp; omega) _).alloc (by simp; omega) _

theorem jw_size (w : World) (a1 : Option Addr) (n1 c1 : Nat) (a2 : Option Addr) (n2 c2 : Nat) : (jw w a1 n1 c1 a2 n2 c2).heap.size = w.heap.size + 6 := by simp [jw]

theorem pi_new (w : World) (a1 : Option Addr) (c1 : Nat) (xs : List Int) (a2 : Option Addr) (c2 : Nat) (ys : List Int) (n : Int) (h1 : At w a1 xs) (h2 : At w a2 ys) (l1 : xs.length ≤ maxLen) (l2 : ys.length ≤ maxLen) : PI (jw w a1 xs.length c1 a2 ys.length c2) w.heap.size a1 c1 xs a2 c2 ys n := by
  have f1 := fi_new w w.heap.size a1 c1 xs n h1.atB (Nat.le_refl _) l1
  have kw : Kept (fun k => k < w.heap.size) w ((w.alloc (.cells #[.slice a1 xs.length c1] 22)).alloc (.cells #[.int .i64 0] 3)) := (kept_alloc w _ (fun _ h => h)).trans (kept_alloc _ _ (fun k h => by simp; omega))
  have f2 := fi_new _ w.heap.size a2 c2 ys n (h2.atB.kept kw (fun _ h => h)) (by simp; omega) l2
  refine ⟨⟨0, f1.kept (K := fun k => k < w.heap.size + 2) ?_ (by omega) (by omega) (fun k h => by omega)⟩, ⟨0, ?_⟩, ?_, ?_⟩
  · exact (((kept_alloc _ _ (fun k h => by simp; omega)).trans (kept_alloc _ _ (fun k h => by simp; omega))).trans (kept_alloc _ _ (fun k h => by simp; omega))).trans (kept_alloc _ _ (fun k h => by simp; omega))
  · have f2' := f2.kept (K := fun k => k < w.heap.size + 4) ((kept_alloc _ (.cells #[.func (.func 25) #[] #[.pointer (some ⟨w.heap.size + 1, 0, none⟩), .pointer (some ⟨w.heap.size, 0, none⟩)]] 31) (fun k h => by simp; omega)).trans (kept_alloc _ (.cells #[.func (.func 25) #[] #[.pointer (some ⟨w.heap.size + 1 + 1 + 1, 0, none⟩), .pointer (some ⟨w.heap.size + 1 + 1, 0, none⟩)]] 31) (fun k h => by simp; omega))) (by simp) (by simp) (fun k h => by omega)
    simpa using f2'
  · rw [World.cell?_alloc_past _ _ _ (by simp), World.cell?_alloc_at _ _ _ _ (by simp)]; rfl
  · rw [World.cell?_alloc_at _ _ _ _ (by simp)]; rfl

theorem join_at (w : World) (a1 : Option Addr) (c1 : Nat) (xs : List Int) (a2 : Option Addr) (c2 : Nat) (ys : List Int) (h1 : At w a1 xs) (h2 : At w a2 ys) (k1 : xs.length ≤ c1) (k2 : ys.length ≤ c2) (m1 : c1 ≤ maxLen) (m2 : c2 ≤ maxLen) (hx : Hid (rowB 2147483648 xs = true)) (hy : Hid (rowB 2147483648 ys = true)) :
    Calls Try.prog 19 #[.slice a1 xs.length c1, .slice a2 ys.length c2, .func (.func 20) #[] #[.pointer (some ⟨w.heap.size + 1 + 1 + 1 + 1, 0, none⟩), .pointer (some ⟨w.heap.size + 1 + 1 + 1 + 1 + 1, 0, none⟩)]] (jw w a1 xs.length c1 a2 ys.length c2) fun e w' => ∃ v, e = .returned (.tuple #[v, .int .i64 0]) ∧ Own w' (w.heap.size + 6) v ((uni xs ys).filter fun n => hasB xs n || hasB ys n) ∧ Below w.heap.size (jw w a1 xs.length c1 a2 ys.length c2) w' :=
  join_pick (jw w a1 xs.length c1 a2 ys.length c2) w.heap.size a1 c1 xs a2 c2 ys (fun n => hasB xs n || hasB ys n) (fun w n h => join_stays w _ a1 c1 xs a2 c2 ys n (rowB_inc hx.out) (rowB_inc hy.out) h) (pi_new w a1 c1 xs a2 c2 ys (-1) h1 h2 (by omega) (by omega))
    (h1.atB.kept (K := fun k => k < w.heap.size) ⟨(jw_below w a1 xs.length c1 a2 ys.length c2).os, (jw_below w a1 xs.length c1 a2 ys.length c2).tape, (jw_below w a1 xs.length c1 a2 ys.length c2).output, (jw_below w a1 xs.length c1 a2 ys.length c2).size, (jw_below w a1 xs.length c1 a2 ys.length c2).block⟩ (fun _ h => h))
    (h2.atB.kept (K := fun k => k < w.heap.size) ⟨(jw_below w a1 xs.length c1 a2 ys.length c2).os, (jw_below w a1 xs.length c1 a2 ys.length c2).tape, (jw_below w a1 xs.length c1 a2 ys.length c2).output, (jw_below w a1 xs.length c1 a2 ys.length c2).size, (jw_below w a1 xs.length c1 a2 ys.length c2).block⟩ (fun _ h => h))
    k1 k2 m1 m2 (by rw [jw_size]; exact Nat.le_refl _) hx hy

set_option maxHeartbeats 400000 in
theorem join_yes (w : World) (a1 : Option Addr) (c1 : Nat) (xs : List Int) (a2 : Option Addr) (c2 : Nat) (ys : List Int) (h1 : At w a1 xs) (h2 : At w a2 ys) (k1 : xs.length ≤ c1) (k2 : ys.length ≤ c2) (m1 : c1 ≤ maxLen) (m2 : c2 ≤ maxLen) (hx : Hid (rowB 2147483648 xs = true)) (hy : Hid (rowB 2147483648 ys = true)) :
    Calls Try.prog 10 #[.slice a1 xs.length c1, .slice a2 ys.length c2] w fun e w' => ∃ v, e = .returned (.tuple #[v, .int .i64 0]) ∧ Own w' (w.heap.size + 6) v ((uni xs ys).filter fun n => hasB xs n || hasB ys n) ∧ Below w.heap.size w w' := by
  have hmf : ∀ (fn : Fn) (first cap : Array Value) (w : World), (Instr.makeFunc fn first cap).run Try.prog w = .ok (.func fn first cap) w := fun _ _ _ _ => rfl
  go_enter Try.func10, Try.ntmps10
  go_wp2_with fail
  refine (finder_any a1 c1 xs _).mono ?_
  rintro e w1 ⟨rfl, rfl⟩
  go_wp2_with fail
  refine (finder_any a2 c2 ys _).mono ?_
  rintro e w1 ⟨rfl, rfl⟩
  go_wp2_with fail
  refine (join_at w a1 c1 xs a2 c2 ys h1 h2 k1 k2 m1 m2 hx hy).mono ?_
  rintro e w1 ⟨v, rfl, hown, hbel⟩
  go_wp2
  go_ret2
  exact ⟨v, rfl, hown, (jw_below w a1 xs.length c1 a2 ys.length c2).trans hbel⟩

set_option maxHeartbeats 400000 in
theorem join_no (w : World) (a1 : Option Addr) (c1 : Nat) (xs : List Int) (a2 : Option Addr) (c2 : Nat) (ys : List Int) (h1 : At w a1 xs) (h2 : At w a2 ys) (l1 : xs.length ≤ maxLen) (l2 : ys.length ≤ maxLen) (hno : Hid (rowB 2147483648 xs = true ∧ rowB 2147483648 ys = true) → False) :
    Calls Try.prog 10 #[.slice a1 xs.length c1, .slice a2 ys.length c2] w fun e w' => e = .returned (.tuple #[.slice none 0 0, .int .i64 2]) ∧ Below w.heap.size w w' := by
  have hmf : ∀ (fn : Fn) (first cap : Array Value) (w : World), (Instr.makeFunc fn first cap).run Try.prog w = .ok (.func fn first cap) w := fun _ _ _ _ => rfl
  have HNO : Hid (¬ (rowB 2147483648 xs = true ∧ rowB 2147483648 ys = true)) := hno
  clear hno
  go_enter Try.func10, Try.ntmps10
  go_wp2_with fail
  refine (finder_any a1 c1 xs _).mono ?_
  rintro e w1 ⟨rfl, rfl⟩
  go_wp2_with fail
  refine (finder_any a2 c2 ys _).mono ?_
  rintro e w1 ⟨rfl, rfl⟩
  go_wp2_with fail
  refine (pick_no (jw w a1 xs.length c1 a2 ys.length c2) a1 c1 xs a2 c2 ys _ (h1.below (jw_below w a1 xs.length c1 a2 ys.length c2) (Nat.le_refl _)) (h2.below (jw_below w a1 xs.length c1 a2 ys.length c2) (Nat.le_refl _)) l1 l2 HNO.out).mono ?_
  rintro e w1 ⟨rfl, rfl⟩
  go_wp2
  go_ret2
  exact ⟨rfl, jw_below w a1 xs.length c1 a2 ys.length c2⟩

theorem meet_at (w : World) (a1 : Option Addr) (c1 : Nat) (xs : List Int) (a2 : Option Addr) (c2 : Nat) (ys : List Int) (h1 : At w a1 xs) (h2 : At w a2 ys) (k1 : xs.length ≤ c1) (k2 : ys.length ≤ c2) (m1 : c1 ≤ maxLen) (m2 : c2 ≤ maxLen) (hx : Hid (rowB 2147483648 xs = true)) (hy : Hid (rowB 2147483648 ys = true)) :
    Calls Try.prog 19 #[.slice a1 xs.length c1, .slice a2 ys.length c2, .func (.func 21) #[] #[.pointer (some ⟨w.heap.size + 1 + 1 + 1 + 1, 0, none⟩), .pointer (some ⟨w.heap.size + 1 + 1 + 1 + 1 + 1, 0, none⟩)]] (jw w a1 xs.length c1 a2 ys.length c2) fun e w' => ∃ v, e = .returned (.tuple #[v, .int .i64 0]) ∧ Own w' (w.heap.size + 6) v ((uni xs ys).filter fun n => hasB xs n && hasB ys n) ∧ Below w.heap.size (jw w a1 xs.length c1 a2 ys.length c2) w' :=
  meet_pick (jw w a1 xs.length c1 a2 ys.length c2) w.heap.size a1 c1 xs a2 c2 ys (fun n => hasB xs n && hasB ys n) (fun w n h => meet_stays w _ a1 c1 xs a2 c2 ys n (rowB_inc hx.out) (rowB_inc hy.out) h) (pi_new w a1 c1 xs a2 c2 ys (-1) h1 h2 (by omega) (by omega))
    (h1.atB.kept (K := fun k => k < w.heap.size) ⟨(jw_below w a1 xs.length c1 a2 ys.length c2).os, (jw_below w a1 xs.length c1 a2 ys.length c2).tape, (jw_below w a1 xs.length c1 a2 ys.length c2).output, (jw_below w a1 xs.length c1 a2 ys.length c2).size, (jw_below w a1 xs.length c1 a2 ys.length c2).block⟩ (fun _ h => h))
    (h2.atB.kept (K := fun k => k < w.heap.size) ⟨(jw_below w a1 xs.length c1 a2 ys.length c2).os, (jw_below w a1 xs.length c1 a2 ys.length c2).tape, (jw_below w a1 xs.length c1 a2 ys.length c2).output, (jw_below w a1 xs.length c1 a2 ys.length c2).size, (jw_below w a1 xs.length c1 a2 ys.length c2).block⟩ (fun _ h => h))
    k1 k2 m1 m2 (by rw [jw_size]; exact Nat.le_refl _) hx hy

set_option maxHeartbeats 400000 in
theorem meet_yes (w : World) (a1 : Option Addr) (c1 : Nat) (xs : List Int) (a2 : Option Addr) (c2 : Nat) (ys : List Int) (h1 : At w a1 xs) (h2 : At w a2 ys) (k1 : xs.length ≤ c1) (k2 : ys.length ≤ c2) (m1 : c1 ≤ maxLen) (m2 : c2 ≤ maxLen) (hx : Hid (rowB 2147483648 xs = true)) (hy : Hid (rowB 2147483648 ys = true)) :
    Calls Try.prog 11 #[.slice a1 xs.length c1, .slice a2 ys.length c2] w fun e w' => ∃ v, e = .returned (.tuple #[v, .int .i64 0]) ∧ Own w' (w.heap.size + 6) v ((uni xs ys).filter fun n => hasB xs n && hasB ys n) ∧ Below w.heap.size w w' := by
  have hmf : ∀ (fn : Fn) (first cap : Array Value) (w : World), (Instr.makeFunc fn first cap).run Try.prog w = .ok (.func fn first cap) w := fun _ _ _ _ => rfl
  go_enter Try.func11, Try.ntmps11
  go_wp2_with fail
  refine (finder_any a1 c1 xs _).mono ?_
  rintro e w1 ⟨rfl, rfl⟩
  go_wp2_with fail
  refine (finder_any a2 c2 ys _).mono ?_
  rintro e w1 ⟨rfl, rfl⟩
  go_wp2_with fail
  refine (meet_at w a1 c1 xs a2 c2 ys h1 h2 k1 k2 m1 m2 hx hy).mono ?_
  rintro e w1 ⟨v, rfl, hown, hbel⟩
  go_wp2
  go_ret2
  exact ⟨v, rfl, hown, (jw_below w a1 xs.length c1 a2 ys.length c2).trans hbel⟩

set_option maxHeartbeats 400000 in
theorem meet_no (w : World) (a1 : Option Addr) (c1 : Nat) (xs : List Int) (a2 : Option Addr) (c2 : Nat) (ys : List Int) (h1 : At w a1 xs) (h2 : At w a2 ys) (l1 : xs.length ≤ maxLen) (l2 : ys.length ≤ maxLen) (hno : Hid (rowB 2147483648 xs = true ∧ rowB 2147483648 ys = true) → False) :
    Calls Try.prog 11 #[.slice a1 xs.length c1, .slice a2 ys.length c2] w fun e w' => e = .returned (.tuple #[.slice none 0 0, .int .i64 2]) ∧ Below w.heap.size w w' := by
  have hmf : ∀ (fn : Fn) (first cap : Array Value) (w : World), (Instr.makeFunc fn first cap).run Try.prog w = .ok (.func fn first cap) w := fun _ _ _ _ => rfl
  have HNO : Hid (¬ (rowB 2147483648 xs = true ∧ rowB 2147483648 ys = true)) := hno
  clear hno
  go_enter Try.func11, Try.ntmps11
  go_wp2_with fail
  refine (finder_any a1 c1 xs _).mono ?_
  rintro e w1 ⟨rfl, rfl⟩
  go_wp2_with fail
  refine (finder_any a2 c2 ys _).mono ?_
  rintro e w1 ⟨rfl, rfl⟩
  go_wp2_with fail
  refine (pick_no (jw w a1 xs.length c1 a2 ys.length c2) a1 c1 xs a2 c2 ys _ (h1.below (jw_below w a1 xs.length c1 a2 ys.length c2) (Nat.le_refl _)) (h2.below (jw_below w a1 xs.length c1 a2 ys.length c2) (Nat.le_refl _)) l1 l2 HNO.out).mono ?_
  rintro e w1 ⟨rfl, rfl⟩
  go_wp2
  go_ret2
  exact ⟨rfl, jw_below w a1 xs.length c1 a2 ys.length c2⟩

theorem less_at (w : World) (a1 : Option Addr) (c1 : Nat) (xs : List Int) (a2 : Option Addr) (c2 : Nat) (ys : List Int) (h1 : At w a1 xs) (h2 : At w a2 ys) (k1 : xs.length ≤ c1) (k2 : ys.length ≤ c2) (m1 : c1 ≤ maxLen) (m2 : c2 ≤ maxLen) (hx : Hid (rowB 2147483648 xs = true)) (hy : Hid (rowB 2147483648 ys = true)) :
    Calls Try.prog 19 #[.slice a1 xs.length c1, .slice a2 ys.length c2, .func (.func 22) #[] #[.pointer (some ⟨w.heap.size + 1 + 1 + 1 + 1, 0, none⟩), .pointer (some ⟨w.heap.size + 1 + 1 + 1 + 1 + 1, 0, none⟩)]] (jw w a1 xs.length c1 a2 ys.length c2) fun e w' => ∃ v, e = .returned (.tuple #[v, .int .i64 0]) ∧ Own w' (w.heap.size + 6) v ((uni xs ys).filter fun n => hasB xs n && !hasB ys n) ∧ Below w.heap.size (jw w a1 xs.length c1 a2 ys.length c2) w' :=
  less_pick (jw w a1 xs.length c1 a2 ys.length c2) w.heap.size a1 c1 xs a2 c2 ys (fun n => hasB xs n && !hasB ys n) (fun w n h => less_stays w _ a1 c1 xs a2 c2 ys n (rowB_inc hx.out) (rowB_inc hy.out) h) (pi_new w a1 c1 xs a2 c2 ys (-1) h1 h2 (by omega) (by omega))
    (h1.atB.kept (K := fun k => k < w.heap.size) ⟨(jw_below w a1 xs.length c1 a2 ys.length c2).os, (jw_below w a1 xs.length c1 a2 ys.length c2).tape, (jw_below w a1 xs.length c1 a2 ys.length c2).output, (jw_below w a1 xs.length c1 a2 ys.length c2).size, (jw_below w a1 xs.length c1 a2 ys.length c2).block⟩ (fun _ h => h))
    (h2.atB.kept (K := fun k => k < w.heap.size) ⟨(jw_below w a1 xs.length c1 a2 ys.length c2).os, (jw_below w a1 xs.length c1 a2 ys.length c2).tape, (jw_below w a1 xs.length c1 a2 ys.length c2).output, (jw_below w a1 xs.length c1 a2 ys.length c2).size, (jw_below w a1 xs.length c1 a2 ys.length c2).block⟩ (fun _ h => h))
    k1 k2 m1 m2 (by rw [jw_size]; exact Nat.le_refl _) hx hy

set_option maxHeartbeats 400000 in
theorem less_yes (w : World) (a1 : Option Addr) (c1 : Nat) (xs : List Int) (a2 : Option Addr) (c2 : Nat) (ys : List Int) (h1 : At w a1 xs) (h2 : At w a2 ys) (k1 : xs.length ≤ c1) (k2 : ys.length ≤ c2) (m1 : c1 ≤ maxLen) (m2 : c2 ≤ maxLen) (hx : Hid (rowB 2147483648 xs = true)) (hy : Hid (rowB 2147483648 ys = true)) :
    Calls Try.prog 12 #[.slice a1 xs.length c1, .slice a2 ys.length c2] w fun e w' => ∃ v, e = .returned (.tuple #[v, .int .i64 0]) ∧ Own w' (w.heap.size + 6) v ((uni xs ys).filter fun n => hasB xs n && !hasB ys n) ∧ Below w.heap.size w w' := by
  have hmf : ∀ (fn : Fn) (first cap : Array Value) (w : World), (Instr.makeFunc fn first cap).run Try.prog w = .ok (.func fn first cap) w := fun _ _ _ _ => rfl
  go_enter Try.func12, Try.ntmps12
  go_wp2_with fail
  refine (finder_any a1 c1 xs _).mono ?_
  rintro e w1 ⟨rfl, rfl⟩
  go_wp2_with fail
  refine (finder_any a2 c2 ys _).mono ?_
  rintro e w1 ⟨rfl, rfl⟩
  go_wp2_with fail
  refine (less_at w a1 c1 xs a2 c2 ys h1 h2 k1 k2 m1 m2 hx hy).mono ?_
  rintro e w1 ⟨v, rfl, hown, hbel⟩
  go_wp2
  go_ret2
  exact ⟨v, rfl, hown, (jw_below w a1 xs.length c1 a2 ys.length c2).trans hbel⟩

set_option maxHeartbeats 400000 in
theorem less_no (w : World) (a1 : Option Addr) (c1 : Nat) (xs : List Int) (a2 : Option Addr) (c2 : Nat) (ys : List Int) (h1 : At w a1 xs) (h2 : At w a2 ys) (l1 : xs.length ≤ maxLen) (l2 : ys.length ≤ maxLen) (hno : Hid (rowB 2147483648 xs = true ∧ rowB 2147483648 ys = true) → False) :
    Calls Try.prog 12 #[.slice a1 xs.length c1, .slice a2 ys.length c2] w fun e w' => e = .returned (.tuple #[.slice none 0 0, .int .i64 2]) ∧ Below w.heap.size w w' := by
  have hmf : ∀ (fn : Fn) (first cap : Array Value) (w : World), (Instr.makeFunc fn first cap).run Try.prog w = .ok (.func fn first cap) w := fun _ _ _ _ => rfl
  have HNO : Hid (¬ (rowB 2147483648 xs = true ∧ rowB 2147483648 ys = true)) := hno
  clear hno
  go_enter Try.func12, Try.ntmps12
  go_wp2_with fail
  refine (finder_any a1 c1 xs _).mono ?_
  rintro e w1 ⟨rfl, rfl⟩
  go_wp2_with fail
  refine (finder_any a2 c2 ys _).mono ?_
  rintro e w1 ⟨rfl, rfl⟩
  go_wp2_with fail
  refine (pick_no (jw w a1 xs.length c1 a2 ys.length c2) a1 c1 xs a2 c2 ys _ (h1.below (jw_below w a1 xs.length c1 a2 ys.length c2) (Nat.le_refl _)) (h2.below (jw_below w a1 xs.length c1 a2 ys.length c2) (Nat.le_refl _)) l1 l2 HNO.out).mono ?_
  rintro e w1 ⟨rfl, rfl⟩
  go_wp2
  go_ret2
  exact ⟨rfl, jw_below w a1 xs.length c1 a2 ys.length c2⟩

end Go.Proofs.Ytfjkdlhnieiibaa
