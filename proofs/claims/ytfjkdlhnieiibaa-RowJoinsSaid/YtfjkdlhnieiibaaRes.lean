/-
  What row.Join, row.Meet, row.Less answer for rows, in the words of the reference; what the reference's own Join and Only answer, in the same words.
-/
import Derived.Test.YtfjkdlhnieiibaaJoins
import Derived.Test.YtfjkdlhnieiibaaRefJoin
import Derived.Test.YtfjkdlhnieiibaaOnly
namespace Go.Proofs.Ytfjkdlhnieiibaa
open Go.RowKit
set_option linter.unusedVariables false

def joinL (xs ys : List Int) : List Int := uni xs ys
def meetL (xs ys : List Int) : List Int := xs.filter (fun n => hasB ys n == true)
def lessL (xs ys : List Int) : List Int := xs.filter (fun n => hasB ys n == false)

/-- A slice and an error that are handed back. -/
def Gives2 (w : World) (xs : List Int) (er : Int) (e : Ending) (w' : World) : Prop := ∃ a cap, e = .returned (.tuple #[.slice a xs.length cap, .int .i64 er]) ∧ At w' a xs ∧ xs.length ≤ maxLen ∧ Below w.heap.size w w'

section
variable (w : World) (a1 : Option Addr) (c1 : Nat) (xs : List Int) (a2 : Option Addr) (c2 : Nat) (ys : List Int)

theorem gives2_of {w w' : World} {B : Nat} {v : Value} {zs : List Int} {er : Int} (h : Own w' B v zs) (hb : Below w.heap.size w w') : Gives2 w zs er (.returned (.tuple #[v, .int .i64 er])) w' := by
  obtain ⟨a, cap, rfl, h1, h2⟩ := h.at
  exact ⟨a, cap, rfl, h1, h2, hb⟩

theorem join_res (h1 : At w a1 xs) (h2 : At w a2 ys) (k1 : xs.length ≤ c1) (k2 : ys.length ≤ c2) (m1 : c1 ≤ maxLen) (m2 : c2 ≤ maxLen) (hx : Hid (rowB 2147483648 xs = true)) (hy : Hid (rowB 2147483648 ys = true)) :
    Calls Try.prog 10 #[.slice a1 xs.length c1, .slice a2 ys.length c2] w fun e w' => Gives2 w (joinL xs ys) 0 e w' := by
  refine (join_yes w a1 c1 xs a2 c2 ys h1 h2 k1 k2 m1 m2 hx hy).mono ?_
  rintro e w' ⟨v, rfl, ho, hb⟩
  have e1 : ((uni xs ys).filter fun n => hasB xs n || hasB ys n) = joinL xs ys := uni_all xs ys
  rw [e1] at ho
  exact gives2_of ho hb
theorem meet_res (h1 : At w a1 xs) (h2 : At w a2 ys) (k1 : xs.length ≤ c1) (k2 : ys.length ≤ c2) (m1 : c1 ≤ maxLen) (m2 : c2 ≤ maxLen) (hx : Hid (rowB 2147483648 xs = true)) (hy : Hid (rowB 2147483648 ys = true)) :
    Calls Try.prog 11 #[.slice a1 xs.length c1, .slice a2 ys.length c2] w fun e w' => Gives2 w (meetL xs ys) 0 e w' := by
  refine (meet_yes w a1 c1 xs a2 c2 ys h1 h2 k1 k2 m1 m2 hx hy).mono ?_
  rintro e w' ⟨v, rfl, ho, hb⟩
  have e1 : ((uni xs ys).filter fun n => hasB xs n && hasB ys n) = meetL xs ys := uni_meet (rowB_inc hx.out) (rowB_inc hy.out)
  rw [e1] at ho
  exact gives2_of ho hb
theorem less_res (h1 : At w a1 xs) (h2 : At w a2 ys) (k1 : xs.length ≤ c1) (k2 : ys.length ≤ c2) (m1 : c1 ≤ maxLen) (m2 : c2 ≤ maxLen) (hx : Hid (rowB 2147483648 xs = true)) (hy : Hid (rowB 2147483648 ys = true)) :
    Calls Try.prog 12 #[.slice a1 xs.length c1, .slice a2 ys.length c2] w fun e w' => Gives2 w (lessL xs ys) 0 e w' := by
  refine (less_yes w a1 c1 xs a2 c2 ys h1 h2 k1 k2 m1 m2 hx hy).mono ?_
  rintro e w' ⟨v, rfl, ho, hb⟩
  have e1 : ((uni xs ys).filter fun n => hasB xs n && !hasB ys n) = lessL xs ys := uni_less (rowB_inc hx.out) (rowB_inc hy.out)
  rw [e1] at ho
  exact gives2_of ho hb
theorem refJoin_res (h1 : At w a1 xs) (h2 : At w a2 ys) (n1 : a1 = none → c1 = 0) (n2 : a2 = none → c2 = 0) (hx : Hid (rowB 2147483648 xs = true)) (hy : Hid (rowB 2147483648 ys = true)) :
    Calls Try.prog 13 #[.slice a1 xs.length c1, .slice a2 ys.length c2] w fun e w' => Gives w (joinL xs ys) e w' := by
  have l1 := rowB_len hx.out
  have l2 := rowB_len hy.out
  refine (refJoin_any a1 a2 c1 c2 xs ys w h1 h2 n1 n2 (by omega) (by omega)).mono ?_
  intro e w' h
  rw [srt_join (rowB_inc hx.out) (rowB_inc hy.out)] at h
  exact h
theorem onlyIn_res (h1 : At w a1 xs) (h2 : At w a2 ys) (m2 : ys.length ≤ maxLen) (hx : Hid (rowB 2147483648 xs = true)) :
    Calls Try.prog 14 #[.slice a1 xs.length c1, .slice a2 ys.length c2, .bool true] w fun e w' => Gives w (meetL xs ys) e w' :=
  only_any a1 a2 c1 c2 xs ys true w h1 (by have := rowB_len hx.out; omega) h2 m2
theorem onlyOut_res (h1 : At w a1 xs) (h2 : At w a2 ys) (m2 : ys.length ≤ maxLen) (hx : Hid (rowB 2147483648 xs = true)) :
    Calls Try.prog 14 #[.slice a1 xs.length c1, .slice a2 ys.length c2, .bool false] w fun e w' => Gives w (lessL xs ys) e w' :=
  only_any a1 a2 c1 c2 xs ys false w h1 (by have := rowB_len hx.out; omega) h2 m2

end

end Go.Proofs.Ytfjkdlhnieiibaa
