/-
  The walk of jalousieref2.ahead.
-/
import Derived.Test.YtdnglodemkeooaaG03
namespace Go.Proofs.Ytdnglodemkeooaa
open Go.RowKit
set_option linter.unusedVariables false

set_option maxHeartbeats 400000 in
theorem refAhead_any (a b : Arr) (w : World) :
    Calls Try.prog 33 #[.agg #[.int .i64 a.f, .int .i64 a.e, .int .i64 a.t], .agg #[.int .i64 b.f, .int .i64 b.e, .int .i64 b.t]] w fun e w' => e = .returned (.bool (aheadB a b)) ∧ Below w.heap.size w w' := by
  obtain ⟨af, ae, at'⟩ := a
  obtain ⟨bf, be, bt⟩ := b
  by_cases h1 : af = bf
  · have d1 : (af != bf) = false := by simp [h1]
    have H1 : Hid (af = bf) := h1
    clear h1
    by_cases h2 : ae = be
    · have d2 : (ae != be) = false := by simp [h2]
      have H2 : Hid (ae = be) := h2
      clear h2
      go_enter Try.func33, Try.ntmps33
      go_wp2
      go_ret
      exact ⟨ret_bool (by simp [aheadB, H1.out, H2.out]), ((Below.refl _ _).alloc (Nat.le_refl _) _).alloc (by simp) _⟩
    · have d2 : (ae != be) = true := by simp [h2]
      go_enter Try.func33, Try.ntmps33
      go_wp2
      go_ret
      exact ⟨ret_bool (by simp [aheadB, H1.out, h2]), ((Below.refl _ _).alloc (Nat.le_refl _) _).alloc (by simp) _⟩
  · have d1 : (af != bf) = true := by simp [h1]
    go_enter Try.func33, Try.ntmps33
    go_wp2
    go_ret
    exact ⟨ret_bool (by simp [aheadB, h1]), ((Below.refl _ _).alloc (Nat.le_refl _) _).alloc (by simp) _⟩

end Go.Proofs.Ytdnglodemkeooaa
