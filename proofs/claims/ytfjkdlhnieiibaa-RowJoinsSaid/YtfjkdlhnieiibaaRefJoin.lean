/-
  The walk of jalousieref1.Join: one list behind the other, sorted.
-/
import Derived.Test.YtfjkdlhnieiibaaSorted
import Derived.Test.YtfjkdlhnieiibaaAppInts
namespace Go.Proofs.Ytfjkdlhnieiibaa
open Go.RowKit
set_option linter.unusedVariables false

set_option maxHeartbeats 400000 in
theorem refJoin_any (a1 a2 : Option Addr) (c1 c2 : Nat) (xs ys : List Int) (w : World) (h1 : At w a1 xs) (h2 : At w a2 ys) (n1 : a1 = none → c1 = 0) (n2 : a2 = none → c2 = 0) (l1 : xs.length ≤ 4398046511104) (l2 : ys.length ≤ 4398046511104) :
    Calls Try.prog 13 #[.slice a1 xs.length c1, .slice a2 ys.length c2] w fun e w' => Gives w (srt (xs ++ ys)) e w' := by
  obtain ⟨i0, hi, hz0, hz1, hz2⟩ := info_parts Try.infoInt
  have N1 : Hid (a1 = none → c1 = 0) := n1
  have N2 : Hid (a2 = none → c2 = 0) := n2
  clear n1 n2
  go_enter Try.func13, Try.ntmps13
  have o0 : Own (w.alloc (.cells #[] 3)) w.heap.size (.slice (some ⟨w.heap.size, 0, none⟩) 0 0) [] := own_empty w
  have b0 : Below w.heap.size w (w.alloc (.cells #[] 3)) := (Below.refl _ _).alloc (Nat.le_refl _) _
  have a1' : At (w.alloc (.cells #[] 3)) a1 xs := h1.below b0 (Nat.le_refl _)
  go_wp2_with (at_builtin; refine wpList_append_ints _ rfl (.tmp 6) (.tmp 7) 22 rfl w.heap.size i0 Try.underlying22 hi hz0 hz1 hz2 _ [] rfl o0 a1 c1 xs rfl a1' N1.out (by simp only [List.length_nil]; omega) (by simp) ?_)
  intro v1 w1 o1 b1 z1
  have bb1 : Below w.heap.size w w1 := b0.trans b1
  have a2' : At w1 a2 ys := h2.below bb1 (Nat.le_refl _)
  clear o0 a1' b1 b0
  go_wp2_with (at_builtin; refine wpList_append_ints _ rfl (.tmp 8) (.tmp 9) 22 rfl w.heap.size i0 Try.underlying22 hi hz0 hz1 hz2 _ xs rfl o1 a2 c2 ys rfl a2' N2.out (by omega) z1 ?_)
  intro v2 w2 o2 b2 z2
  have bb2 : Below w.heap.size w w2 := bb1.trans b2
  clear o1 a2' b2 bb1
  obtain ⟨a3, c3, rfl, h3, l3⟩ := o2.at
  clear o2
  have HL : Hid ((xs ++ ys).length ≤ 17592186044416) := by show _ ≤ _; rw [List.length_append]; omega
  generalize hz : xs ++ ys = zs at *
  have HZ : Hid (xs ++ ys = zs) := hz
  clear hz
  go_wp2_with fail
  refine (sorted_any a3 c3 zs _ h3 HL.out).mono ?_
  rintro e w3 ⟨a4, c4, rfl, h4, l4, b4⟩
  have bb3 : Below w.heap.size w w3 := bb2.trans (b4.mono bb2.size)
  go_wp2
  go_ret
  have hz := HZ.out
  subst hz
  exact ⟨a4, c4, rfl, h4, l4, bb3⟩

end Go.Proofs.Ytfjkdlhnieiibaa
