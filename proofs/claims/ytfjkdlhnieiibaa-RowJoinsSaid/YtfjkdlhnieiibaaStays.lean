/-
  The walks of the three closures of row.Join, row.Meet and row.Less.
-/
import Derived.Test.YtfjkdlhnieiibaaFinder
namespace Go.Proofs.Ytfjkdlhnieiibaa
open Go.RowKit
set_option linter.unusedVariables false

set_option maxHeartbeats 1000000 in
theorem join_stays (w : World) (B : Nat) (a1 : Option Addr) (c1 : Nat) (xs : List Int) (a2 : Option Addr) (c2 : Nat) (ys : List Int) (n : Int) (hi : Hid (Inc xs)) (hj : Hid (Inc ys)) (h : PI w B a1 c1 xs a2 c2 ys n) :
    Calls Try.prog 20 #[.int .i64 n, .pointer (some ⟨B + 4, 0, none⟩), .pointer (some ⟨B + 5, 0, none⟩)] w fun e w' => e = .returned (.bool (hasB xs n || hasB ys n)) ∧ PI w' B a1 c1 xs a2 c2 ys n ∧ Kept (fun k => k ≠ B + 1 ∧ k ≠ B + 3) w w' := by
  have hqa := h.qa
  obtain ⟨k1, f1⟩ := h.f1
  by_cases hx : hasB xs n = false
  · have HX : Hid (hasB xs n = false) := hx
    go_enter Try.func20, Try.ntmps20
    go_wp2_with fail
    refine (find_any _ _ _ _ _ _ xs n k1 hi f1).mono ?_
    rintro e w1 ⟨rfl, h1, hk1⟩
    have p1 := h.first h1 hk1
    have hqb := p1.qb
    obtain ⟨k2, f2⟩ := p1.f2
    clear hqa h1
    go_wp2_with fail
    refine (find_any _ _ _ _ _ _ ys n k2 hj f2).mono ?_
    rintro e w2 ⟨rfl, h2, hk2⟩
    have p2 := p1.second h2 hk2
    clear hqb h2
    go_wp2
    go_ret
    exact ⟨ret_bool (by rw [HX.out]; simp), p2, (hk1.mono (fun k h => h.1)).trans (hk2.mono (fun k h => h.2))⟩
  · have hx : hasB xs n = true := by simpa using hx
    have HX : Hid (hasB xs n = true) := hx
    go_enter Try.func20, Try.ntmps20
    go_wp2_with fail
    refine (find_any _ _ _ _ _ _ xs n k1 hi f1).mono ?_
    rintro e w1 ⟨rfl, h1, hk1⟩
    have p1 := h.first h1 hk1
    clear hqa h1
    go_wp2
    go_ret
    exact ⟨ret_bool (by rw [HX.out]; simp), p1, hk1.mono (fun k h => h.1)⟩

set_option maxHeartbeats 1000000 in
theorem meet_stays (w : World) (B : Nat) (a1 : Option Addr) (c1 : Nat) (xs : List Int) (a2 : Option Addr) (c2 : Nat) (ys : List Int) (n : Int) (hi : Hid (Inc xs)) (hj : Hid (Inc ys)) (h : PI w B a1 c1 xs a2 c2 ys n) :
    Calls Try.prog 21 #[.int .i64 n, .pointer (some ⟨B + 4, 0, none⟩), .pointer (some ⟨B + 5, 0, none⟩)] w fun e w' => e = .returned (.bool (hasB xs n && hasB ys n)) ∧ PI w' B a1 c1 xs a2 c2 ys n ∧ Kept (fun k => k ≠ B + 1 ∧ k ≠ B + 3) w w' := by
  have hqa := h.qa
  obtain ⟨k1, f1⟩ := h.f1
  by_cases hx : hasB xs n = true
  · have HX : Hid (hasB xs n = true) := hx
    go_enter Try.func21, Try.ntmps21
    go_wp2_with fail
    refine (find_any _ _ _ _ _ _ xs n k1 hi f1).mono ?_
    rintro e w1 ⟨rfl, h1, hk1⟩
    have p1 := h.first h1 hk1
    have hqb := p1.qb
    obtain ⟨k2, f2⟩ := p1.f2
    clear hqa h1
    go_wp2_with fail
    refine (find_any _ _ _ _ _ _ ys n k2 hj f2).mono ?_
    rintro e w2 ⟨rfl, h2, hk2⟩
    have p2 := p1.second h2 hk2
    clear hqb h2
    go_wp2
    go_ret
    exact ⟨ret_bool (by rw [HX.out]; simp), p2, (hk1.mono (fun k h => h.1)).trans (hk2.mono (fun k h => h.2))⟩
  · have hx : hasB xs n = false := by simpa using hx
    have HX : Hid (hasB xs n = false) := hx
    go_enter Try.func21, Try.ntmps21
    go_wp2_with fail
    refine (find_any _ _ _ _ _ _ xs n k1 hi f1).mono ?_
    rintro e w1 ⟨rfl, h1, hk1⟩
    have p1 := h.first h1 hk1
    clear hqa h1
    go_wp2
    go_ret
    exact ⟨ret_bool (by rw [HX.out]; simp), p1, hk1.mono (fun k h => h.1)⟩

set_option maxHeartbeats 1000000 in
theorem less_stays (w : World) (B : Nat) (a1 : Option Addr) (c1 : Nat) (xs : List Int) (a2 : Option Addr) (c2 : Nat) (ys : List Int) (n : Int) (hi : Hid (Inc xs)) (hj : Hid (Inc ys)) (h : PI w B a1 c1 xs a2 c2 ys n) :
    Calls Try.prog 22 #[.int .i64 n, .pointer (some ⟨B + 4, 0, none⟩), .pointer (some ⟨B + 5, 0, none⟩)] w fun e w' => e = .returned (.bool (hasB xs n && !hasB ys n)) ∧ PI w' B a1 c1 xs a2 c2 ys n ∧ Kept (fun k => k ≠ B + 1 ∧ k ≠ B + 3) w w' := by
  have hqa := h.qa
  obtain ⟨k1, f1⟩ := h.f1
  by_cases hx : hasB xs n = true
  · have HX : Hid (hasB xs n = true) := hx
    go_enter Try.func22, Try.ntmps22
    go_wp2_with fail
    refine (find_any _ _ _ _ _ _ xs n k1 hi f1).mono ?_
    rintro e w1 ⟨rfl, h1, hk1⟩
    have p1 := h.first h1 hk1
    have hqb := p1.qb
    obtain ⟨k2, f2⟩ := p1.f2
    clear hqa h1
    go_wp2_with fail
    refine (find_any _ _ _ _ _ _ ys n k2 hj f2).mono ?_
    rintro e w2 ⟨rfl, h2, hk2⟩
    have p2 := p1.second h2 hk2
    clear hqb h2
    go_wp2
    go_ret
    exact ⟨ret_bool (by rw [HX.out]; simp), p2, (hk1.mono (fun k h => h.1)).trans (hk2.mono (fun k h => h.2))⟩
  · have hx : hasB xs n = false := by simpa using hx
    have HX : Hid (hasB xs n = false) := hx
    go_enter Try.func22, Try.ntmps22
    go_wp2_with fail
    refine (find_any _ _ _ _ _ _ xs n k1 hi f1).mono ?_
    rintro e w1 ⟨rfl, h1, hk1⟩
    have p1 := h.first h1 hk1
    clear hqa h1
    go_wp2
    go_ret
    exact ⟨ret_bool (by rw [HX.out]; simp), p1, hk1.mono (fun k h => h.1)⟩

end Go.Proofs.Ytfjkdlhnieiibaa
