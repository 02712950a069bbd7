/-
  The walks of row.Meet and row.Less.
  What row.Join, row.Meet, row.Less answer for rows, in the words of the reference; what the reference's own Join and Only answer, in the same words.
-/
import Derived.Test.YtppfcbapfbmckaaG03
import Derived.Test.YtppfcbapfbmckaaG02
namespace Go.Proofs.Ytppfcbapfbmckaa
open Go.RowKit
set_option linter.unusedVariables false

theorem meet_at (w : World) (a1 : Option Addr) (c1 : Nat) (xs : List Int) (a2 : Option Addr) (c2 : Nat) (ys : List Int) (h1 : At w a1 xs) (h2 : At w a2 ys) (k1 : xs.length ≤ c1) (k2 : ys.length ≤ c2) (m1 : c1 ≤ maxLen) (m2 : c2 ≤ maxLen) (hx : Hid (rowB 2147483648 xs = true)) (hy : Hid (rowB 2147483648 ys = true)) :
    Calls Try.prog 19 #[.slice a1 xs.length c1, .slice a2 ys.length c2, .func (.func 21) #[] #[.pointer (some ⟨w.heap.size + 1 + 1 + 1 + 1, 0, none⟩), .pointer (some ⟨w.heap.size + 1 + 1 + 1 + 1 + 1, 0, none⟩)]] (jw w a1 xs.length c1 a2 ys.length c2) fun e w' => ∃ v, e = .returned (.tuple #[v, .int .i64 0]) ∧ Own w' (w.heap.size + 6) v ((uni xs ys).filter fun n => hasB xs n && hasB ys n) ∧ Below w.heap.size (jw w a1 xs.length c1 a2 ys.length c2) w' :=
  meet_pick (jw w a1 xs.length c1 a2 ys.length c2) w.heap.size a1 c1 xs a2 c2 ys (fun n => hasB xs n && hasB ys n) (fun w n h => meet_stays w _ a1 c1 xs a2 c2 ys n (rowB_inc hx.out) (rowB_inc hy.out) h) (pi_new w a1 c1 xs a2 c2 ys (-1) h1 h2 (by omega) (by omega))
    (h1.atB.kept (K := fun k => k < w.heap.size) ⟨(jw_below w a1 xs.length c1 a2 ys.length c2).os, (jw_below w a1 xs.length c1 a2 ys.length c2).tape, (jw_below w a1 xs.length c1 a2 ys.length c2).output, (jw_below w a1 xs.length c1 a2 ys.length c2).size, (jw_below w a1 xs.length c1 a2 ys.length c2).block⟩ (fun _ h => h))
    (h2.atB.kept (K := fun k => k < w.heap.size) ⟨(jw_below w a1 xs.length c1 a2 ys.length c2).os, (jw_below w a1 xs.length c1 a2 ys.length c2).tape, (jw_below w a1 xs.length c1 a2 ys.length c2).output, (jw_below w a1 xs.length c1 a2 ys.length c2).size, (jw_below w a1 xs.length c1 a2 ys.length c2).block⟩ (fun _ h => h))
    k1 k2 m1 m2 (by rw [jw_size]; exact Nat.le_refl _) hx hy

set_option maxHeartbeats 400000 in
theorem meet_yes (w : World) (a1 : Option Addr) (c1 : Nat) (xs : List Int) (a2 : Option Addr) (c2 : Nat) (ys : List Int) (h1 : At w a1 xs) (h2 : At w a2 ys) (k1 : xs.length ≤ c1) (k2 : ys.length ≤ c2) (m1 : c1 ≤ maxLen) (m2 : c2 ≤ maxLen) (hx : Hid (rowB 2147483648 xs = true)) (hy : Hid (rowB 2147483648 ys = true)) :
    Calls Try.prog 11 #[.slice a1 xs.length c1, .slice a2 ys.length c2] w fun e w' => ∃ v, e = .returned (.tuple #[v, .int .i64 0]) ∧ Own w' (w.heap.size + 6) v ((uni xs ys).filter fun n => hasB xs n && hasB ys n) ∧ Below w.heap.size w w' := by
  have hmf : ∀ (fn : Fn) (first cap : Array Value) (w : World), (Instr.makeFunc fn first cap).run Try.prog w = .ok (.func fn first cap) w := fun _ _ _ _ => rfl
  go_enter Try.func11, Try.ntmps11
  go_wp2_with fail
  refine (finder_any a1 c1 xs _).mono ?_
  rintro e w1 ⟨rfl, rfl⟩
  go_wp2_with fail
  refine (finder_any a2 c2 ys _).mono ?_
  rintro e w1 ⟨rfl, rfl⟩
  go_wp2_with fail
  refine (meet_at w a1 c1 xs a2 c2 ys h1 h2 k1 k2 m1 m2 hx hy).mono ?_
  rintro e w1 ⟨v, rfl, hown, hbel⟩
  go_wp2
  go_ret2
  exact ⟨v, rfl, hown, (jw_below w a1 xs.length c1 a2 ys.length c2).trans hbel⟩

set_option maxHeartbeats 400000 in
theorem meet_no (w : World) (a1 : Option Addr) (c1 : Nat) (xs : List Int) (a2 : Option Addr) (c2 : Nat) (ys : List Int) (h1 : At w a1 xs) (h2 : At w a2 ys) (l1 : xs.length ≤ maxLen) (l2 : ys.length ≤ maxLen) (hno : Hid (rowB 2147483648 xs = true ∧ rowB 2147483648 ys = true) → False) :
    Calls Try.prog 11 #[.slice a1 xs.length c1, .slice a2 ys.length c2] w fun e w' => e = .returned (.tuple #[.slice none 0 0, .int .i64 2]) ∧ Below w.heap.size w w' := by
  have hmf : ∀ (fn : Fn) (first cap : Array Value) (w : World), (Instr.makeFunc fn first cap).run Try.prog w = .ok (.func fn first cap) w := fun _ _ _ _ => rfl
  have HNO : Hid (¬ (rowB 2147483648 xs = true ∧ rowB 2147483648 ys = true)) := hno
  clear hno
  go_enter Try.func11, Try.ntmps11
  go_wp2_with fail
  refine (finder_any a1 c1 xs _).mono ?_
  rintro e w1 ⟨rfl, rfl⟩
  go_wp2_with fail
  refine (finder_any a2 c2 ys _).mono ?_
  rintro e w1 ⟨rfl, rfl⟩
  go_wp2_with fail
  refine (pick_no (jw w a1 xs.length c1 a2 ys.length c2) a1 c1 xs a2 c2 ys _ (h1.below (jw_below w a1 xs.length c1 a2 ys.length c2) (Nat.le_refl _)) (h2.below (jw_below w a1 xs.length c1 a2 ys.length c2) (Nat.le_refl _)) l1 l2 HNO.out).mono ?_
  rintro e w1 ⟨rfl, rfl⟩
  go_wp2
  go_ret2
  exact ⟨rfl, jw_below w a1 xs.length c1 a2 ys.length c2⟩

theorem less_at (w : World) (a1 : Option Addr) (c1 : Nat) (xs : List Int) (a2 : Option Addr) (c2 : Nat) (ys : List Int) (h1 : At w a1 xs) (h2 : At w a2 ys) (k1 : xs.length ≤ c1) (k2 : ys.length ≤ c2) (m1 : c1 ≤ maxLen) (m2 : c2 ≤ maxLen) (hx : Hid (rowB 2147483648 xs = true)) (hy : Hid (rowB 2147483648 ys = true)) :
    Calls Try.prog 19 #[.slice a1 xs.length c1, .slice a2 ys.length c2, .func (.func 22) #[] #[.pointer (some ⟨w.heap.size + 1 + 1 + 1 + 1, 0, none⟩), .pointer (some ⟨w.heap.size + 1 + 1 + 1 + 1 + 1, 0, none⟩)]] (jw w a1 xs.length c1 a2 ys.length c2) fun e w' => ∃ v, e = .returned (.tuple #[v, .int .i64 0]) ∧ Own w' (w.heap.size + 6) v ((uni xs ys).filter fun n => hasB xs n && !hasB ys n) ∧ Below w.heap.size (jw w a1 xs.length c1 a2 ys.length c2) w' :=
  less_pick (jw w a1 xs.length c1 a2 ys.length c2) w.heap.size a1 c1 xs a2 c2 ys (fun n => hasB xs n && !hasB ys n) (fun w n h => less_stays w _ a1 c1 xs a2 c2 ys n (rowB_inc hx.out) (rowB_inc hy.out) h) (pi_new w a1 c1 xs a2 c2 ys (-1) h1 h2 (by omega) (by omega))
    (h1.atB.kept (K := fun k => k < w.heap.size) ⟨(jw_below w a1 xs.length c1 a2 ys.length c2).os, (jw_below w a1 xs.length c1 a2 ys.length c2).tape, (jw_below w a1 xs.length c1 a2 ys.length c2).output, (jw_below w a1 xs.length c1 a2 ys.length c2).size, (jw_below w a1 xs.length c1 a2 ys.length c2).block⟩ (fun _ h => h))
    (h2.atB.kept (K := fun k => k < w.heap.size) ⟨(jw_below w a1 xs.length c1 a2 ys.length c2).os, (jw_below w a1 xs.length c1 a2 ys.length c2).tape, (jw_below w a1 xs.length c1 a2 ys.length c2).output, (jw_below w a1 xs.length c1 a2 ys.length c2).size, (jw_below w a1 xs.length c1 a2 ys.length c2).block⟩ (fun _ h => h))
    k1 k2 m1 m2 (by rw [jw_size]; exact Nat.le_refl _) hx hy

set_option maxHeartbeats 400000 in
theorem less_yes (w : World) (a1 : Option Addr) (c1 : Nat) (xs : List Int) (a2 : Option Addr) (c2 : Nat) (ys : List Int) (h1 : At w a1 xs) (h2 : At w a2 ys) (k1 : xs.length ≤ c1) (k2 : ys.length ≤ c2) (m1 : c1 ≤ maxLen) (m2 : c2 ≤ maxLen) (hx : Hid (rowB 2147483648 xs = true)) (hy : Hid (rowB 2147483648 ys = true)) :
    Calls Try.prog 12 #[.slice a1 xs.length c1, .slice a2 ys.length c2] w fun e w' => ∃ v, e = .returned (.tuple #[v, .int .i64 0]) ∧ Own w' (w.heap.size + 6) v ((uni xs ys).filter fun n => hasB xs n && !hasB ys n) ∧ Below w.heap.size w w' := by
  have hmf : ∀ (fn : Fn) (first cap : Array Value) (w : World), (Instr.makeFunc fn first cap).run Try.prog w = .ok (.func fn first cap) w := fun _ _ _ _ => rfl
  go_enter Try.func12, Try.ntmps12
  go_wp2_with fail
  refine (finder_any a1 c1 xs _).mono ?_
  rintro e w1 ⟨rfl, rfl⟩
  go_wp2_with fail
  refine (finder_any a2 c2 ys _).mono ?_
  rintro e w1 ⟨rfl, rfl⟩
  go_wp2_with fail
  refine (less_at w a1 c1 xs a2 c2 ys h1 h2 k1 k2 m1 m2 hx hy).mono ?_
  rintro e w1 ⟨v, rfl, hown, hbel⟩
  go_wp2
  go_ret2
  exact ⟨v, rfl, hown, (jw_below w a1 xs.length c1 a2 ys.length c2).trans hbel⟩

set_option maxHeartbeats 400000 in
theorem less_no (w : World) (a1 : Option Addr) (c1 : Nat) (xs : List Int) (a2 : Option Addr) (c2 : Nat) (ys : List Int) (h1 : At w a1 xs) (h2 : At w a2 ys) (l1 : xs.length ≤ maxLen) (l2 : ys.length ≤ maxLen) (hno : Hid (rowB 2147483648 xs = true ∧ rowB 2147483648 ys = true) → False) :
    Calls Try.prog 12 #[.slice a1 xs.length c1, .slice a2 ys.length c2] w fun e w' => e = .returned (.tuple #[.slice none 0 0, .int .i64 2]) ∧ Below w.heap.size w w' := by
  have hmf : ∀ (fn : Fn) (first cap : Array Value) (w : World), (Instr.makeFunc fn first cap).run Try.prog w = .ok (.func fn first cap) w := fun _ _ _ _ => rfl
  have HNO : Hid (¬ (rowB 2147483648 xs = true ∧ rowB 2147483648 ys = true)) := hno
  clear hno
  go_enter Try.func12, Try.ntmps12
  go_wp2_with fail
  refine (finder_any a1 c1 xs _).mono ?_
  rintro e w1 ⟨rfl, rfl⟩
  go_wp2_with fail
  refine (finder_any a2 c2 ys _).mono ?_
  rintro e w1 ⟨rfl, rfl⟩
  go_wp2_with fail
  refine (pick_no (jw w a1 xs.length c1 a2 ys.length c2) a1 c1 xs a2 c2 ys _ (h1.below (jw_below w a1 xs.length c1 a2 ys.length c2) (Nat.le_refl _)) (h2.below (jw_below w a1 xs.length c1 a2 ys.length c2) (Nat.le_refl _)) l1 l2 HNO.out).mono ?_
  rintro e w1 ⟨rfl, rfl⟩
  go_wp2
  go_ret2
  exact ⟨rfl, jw_below w a1 xs.length c1 a2 ys.length c2⟩

end Go.Proofs.Ytppfcbapfbmckaa
namespace Go.Proofs.Ytppfcbapfbmckaa
open Go.RowKit
set_option linter.unusedVariables false

def joinL (xs ys : List Int) : List Int := uni xs ys
def meetL (xs ys : List Int) : List Int := xs.filter (fun n => hasB ys n == true)
def lessL (xs ys : List Int) : List Int := xs.filter (fun n => hasB ys n == false)

/-- A slice and an error that are handed back. -/
def Gives2 (w : World) (xs : List Int) (er : Int) (e : Ending) (w' : World) : Prop := ∃ a cap, e = .returned (.tuple #[.slice a xs.length cap, .int .i64 er]) ∧ At w' a xs ∧ xs.length ≤ maxLen ∧ Below w.heap.size w w'

section
variable (w : World) (a1 : Option Addr) (c1 : Nat) (xs : List Int) (a2 : Option Addr) (c2 : Nat) (ys : List Int)

theorem gives2_of {w w' : World} {B : Nat} {v : Value} {zs : List Int} {er : Int} (h : Own w' B v zs) (hb : Below w.heap.size w w') : Gives2 w zs er (.returned (.tuple #[v, .int .i64 er])) w' := by
  obtain ⟨a, cap, rfl, h1, h2⟩ := h.at
  exact ⟨a, cap, rfl, h1, h2, hb⟩

theorem join_res (h1 : At w a1 xs) (h2 : At w a2 ys) (k1 : xs.length ≤ c1) (k2 : ys.length ≤ c2) (m1 : c1 ≤ maxLen) (m2 : c2 ≤ maxLen) (hx : Hid (rowB 2147483648 xs = true)) (hy : Hid (rowB 2147483648 ys = true)) :
    Calls Try.prog 10 #[.slice a1 xs.length c1, .slice a2 ys.length c2] w fun e w' => Gives2 w (joinL xs ys) 0 e w' := by
  refine (join_yes w a1 c1 xs a2 c2 ys h1 h2 k1 k2 m1 m2 hx hy).mono ?_
  rintro e w' ⟨v, rfl, ho, hb⟩
  have e1 : ((uni xs ys).filter fun n => hasB xs n || hasB ys n) = joinL xs ys := uni_all xs ys
  rw [e1] at ho
  exact gives2_of ho hb
theorem meet_res (h1 : At w a1 xs) (h2 : At w a2 ys) (k1 : xs.length ≤ c1) (k2 : ys.length ≤ c2) (m1 : c1 ≤ maxLen) (m2 : c2 ≤ maxLen) (hx : Hid (rowB 2147483648 xs = true)) (hy : Hid (rowB 2147483648 ys = true)) :
    Calls Try.prog 11 #[.slice a1 xs.length c1, .slice a2 ys.length c2] w fun e w' => Gives2 w (meetL xs ys) 0 e w' := by
  refine (meet_yes w a1 c1 xs a2 c2 ys h1 h2 k1 k2 m1 m2 hx hy).mono ?_
  rintro e w' ⟨v, rfl, ho, hb⟩
  have e1 : ((uni xs ys).filter fun n => hasB xs n && hasB ys n) = meetL xs ys := uni_meet (rowB_inc hx.out) (rowB_inc hy.out)
  rw [e1] at ho
  exact gives2_of ho hb
theorem less_res (h1 : At w a1 xs) (h2 : At w a2 ys) (k1 : xs.length ≤ c1) (k2 : ys.length ≤ c2) (m1 : c1 ≤ maxLen) (m2 : c2 ≤ maxLen) (hx : Hid (rowB 2147483648 xs = true)) (hy : Hid (rowB 2147483648 ys = true)) :
    Calls Try.prog 12 #[.slice a1 xs.length c1, .slice a2 ys.length c2] w fun e w' => Gives2 w (lessL xs ys) 0 e w' := by
  refine (less_yes w a1 c1 xs a2 c2 ys h1 h2 k1 k2 m1 m2 hx hy).mono ?_
  rintro e w' ⟨v, rfl, ho, hb⟩
  have e1 : ((uni xs ys).filter fun n => hasB xs n && !hasB ys n) = lessL xs ys := uni_less (rowB_inc hx.out) (rowB_inc hy.out)
  rw [e1] at ho
  exact gives2_of ho hb
theorem refJoin_res (h1 : At w a1 xs) (h2 : At w a2 ys) (n1 : a1 = none → c1 = 0) (n2 : a2 = none → c2 = 0) (hx : Hid (rowB 2147483648 xs = true)) (hy : Hid (rowB 2147483648 ys = true)) :
    Calls Try.prog 13 #[.slice a1 xs.length c1, .slice a2 ys.length c2] w fun e w' => Gives w (joinL xs ys) e w' := by
  have l1 := rowB_len hx.out
  have l2 := rowB_len hy.out
  refine (refJoin_any a1 a2 c1 c2 xs ys w h1 h2 n1 n2 (by omega) (by omega)).mono ?_
  intro e w' h
  rw [srt_join (rowB_inc hx.out) (rowB_inc hy.out)] at h
  exact h
theorem onlyIn_res (h1 : At w a1 xs) (h2 : At w a2 ys) (m2 : ys.length ≤ maxLen) (hx : Hid (rowB 2147483648 xs = true)) :
    Calls Try.prog 14 #[.slice a1 xs.length c1, .slice a2 ys.length c2, .bool true] w fun e w' => Gives w (meetL xs ys) e w' :=
  only_any a1 a2 c1 c2 xs ys true w h1 (by have := rowB_len hx.out; omega) h2 m2
theorem onlyOut_res (h1 : At w a1 xs) (h2 : At w a2 ys) (m2 : ys.length ≤ maxLen) (hx : Hid (rowB 2147483648 xs = true)) :
    Calls Try.prog 14 #[.slice a1 xs.length c1, .slice a2 ys.length c2, .bool false] w fun e w' => Gives w (lessL xs ys) e w' :=
  only_any a1 a2 c1 c2 xs ys false w h1 (by have := rowB_len hx.out; omega) h2 m2

end

end Go.Proofs.Ytppfcbapfbmckaa
