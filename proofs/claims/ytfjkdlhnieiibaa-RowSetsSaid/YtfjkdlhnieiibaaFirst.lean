/-
  The walks of row.first and row.behind, and the plain facts on them: the least number of two rows, and what is left of a row behind it.
-/
import Derived.Test.YtfjkdlhnieiibaaFinder
namespace Go.Proofs.Ytfjkdlhnieiibaa
open Go.RowKit
set_option linter.unusedVariables false

/-- The least number of two rows that are not both empty. -/
def fst : List Int → List Int → Int
  | [], [] => 0
  | [], y :: _ => y
  | x :: _, [] => x
  | x :: _, y :: _ => min x y

/-- What is left of a row when n is taken from its front. -/
def rem : List Int → Int → List Int
  | [], _ => []
  | x :: r, n => if x = n then r else x :: r

theorem rem_hd (x : Int) (r : List Int) : rem (x :: r) x = r := by simp [rem]
theorem rem_ne {x n : Int} (r : List Int) (h : ¬ x = n) : rem (x :: r) n = x :: r := by simp [rem, h]
theorem rem_nil (n : Int) : rem [] n = [] := rfl
theorem fst_l {x y : Int} (a b : List Int) (h : x ≤ y) : fst (x :: a) (y :: b) = x := by simp only [fst]; omega
theorem fst_r {x y : Int} (a b : List Int) (h : y ≤ x) : fst (x :: a) (y :: b) = y := by simp only [fst]; omega

theorem rem_len (xs : List Int) (n : Int) : (rem xs n).length ≤ xs.length := by
  cases xs with
  | nil => exact Nat.le_refl _
  | cons x r =>
    by_cases h : x = n
    · subst h; rw [rem_hd]; simp
    · rw [rem_ne r h]; exact Nat.le_refl _

theorem uni_nil (a : List Int) : uni a [] = a := by cases a <;> rfl

theorem uni_step (xs ys : List Int) (h : ¬ (xs = [] ∧ ys = [])) : uni xs ys = fst xs ys :: uni (rem xs (fst xs ys)) (rem ys (fst xs ys)) := by
  cases xs with
  | nil =>
    cases ys with
    | nil => exact absurd ⟨rfl, rfl⟩ h
    | cons y b => show uni [] (y :: b) = y :: uni (rem [] y) (rem (y :: b) y); rw [rem_hd, rem_nil]; rfl
  | cons x a =>
    cases ys with
    | nil => show uni (x :: a) [] = x :: uni (rem (x :: a) x) (rem [] x); rw [rem_hd, rem_nil, uni_nil, uni_nil]
    | cons y b =>
      by_cases h1 : x < y
      · rw [fst_l a b (by omega), rem_hd, rem_ne b (by omega), uni_cc, if_pos h1]
      · by_cases h2 : y < x
        · rw [fst_r a b (by omega), rem_hd, rem_ne a (by omega), uni_cc, if_neg h1, if_pos h2]
        · have : x = y := by omega
          subst this
          rw [fst_l a b (by omega), rem_hd, rem_hd, uni_cc, if_neg h1, if_neg h1]

theorem rem_lenlt (xs ys : List Int) (h : ¬ (xs = [] ∧ ys = [])) : (rem xs (fst xs ys)).length + (rem ys (fst xs ys)).length < xs.length + ys.length := by
  cases xs with
  | nil =>
    cases ys with
    | nil => exact absurd ⟨rfl, rfl⟩ h
    | cons y b => show (rem [] y).length + (rem (y :: b) y).length < _; rw [rem_hd, rem_nil]; simp
  | cons x a =>
    cases ys with
    | nil => show (rem (x :: a) x).length + (rem [] x).length < _; rw [rem_hd, rem_nil]; simp
    | cons y b =>
      by_cases h1 : x ≤ y
      · have := rem_len (y :: b) x
        rw [fst_l a b h1, rem_hd]; simp only [List.length_cons] at this ⊢; omega
      · have := rem_len (x :: a) y
        rw [fst_r a b (by omega), rem_hd]; simp only [List.length_cons] at this ⊢; omega

theorem inc_rem {xs : List Int} (n : Int) (h : Inc xs) : Inc (rem xs n) := by
  cases xs with
  | nil => exact h
  | cons x r =>
    by_cases c : x = n
    · subst c; rw [rem_hd]; exact (List.pairwise_cons.1 h).2
    · rw [rem_ne r c]; exact h

theorem rem_low {xs ys : List Int} (hx : Inc xs) (hy : Inc ys) : (∀ z ∈ rem xs (fst xs ys), fst xs ys < z) ∧ (∀ z ∈ rem ys (fst xs ys), fst xs ys < z) := by
  cases xs with
  | nil =>
    cases ys with
    | nil => simp [rem]
    | cons y b => refine ⟨by simp [rem], ?_⟩; show ∀ z ∈ rem (y :: b) y, y < z; rw [rem_hd]; exact (List.pairwise_cons.1 hy).1
  | cons x a =>
    have ha := List.pairwise_cons.1 hx
    cases ys with
    | nil => refine ⟨?_, by simp [rem]⟩; show ∀ z ∈ rem (x :: a) x, x < z; rw [rem_hd]; exact ha.1
    | cons y b =>
      have hb := List.pairwise_cons.1 hy
      by_cases h1 : x < y
      · rw [fst_l a b (by omega), rem_hd, rem_ne b (by omega)]
        refine ⟨ha.1, fun z hz => ?_⟩
        rcases List.mem_cons.1 hz with rfl | hz
        · exact h1
        · have := hb.1 z hz; omega
      · by_cases h2 : y < x
        · rw [fst_r a b (by omega), rem_hd, rem_ne a (by omega)]
          refine ⟨fun z hz => ?_, hb.1⟩
          rcases List.mem_cons.1 hz with rfl | hz
          · exact h2
          · have := ha.1 z hz; omega
        · have : x = y := by omega
          subst this
          rw [fst_l a b (by omega), rem_hd, rem_hd]
          exact ⟨ha.1, hb.1⟩

theorem fst_ge {xs ys : List Int} {m : Int} (h : ¬ (xs = [] ∧ ys = [])) (hx : ∀ z ∈ xs, m ≤ z) (hy : ∀ z ∈ ys, m ≤ z) : m ≤ fst xs ys := by
  cases xs with
  | nil =>
    cases ys with
    | nil => exact absurd ⟨rfl, rfl⟩ h
    | cons y b => exact hy y (by simp)
  | cons x a =>
    cases ys with
    | nil => exact hx x (by simp)
    | cons y b => have := hx x (by simp); have := hy y (by simp); simp only [fst]; omega

set_option maxHeartbeats 400000 in
theorem first_nl (a b : Option Addr) (ca cb : Nat) (y : Int) (r : List Int) (w : World) (hl : (y :: r).length ≤ maxLen) (ht : At w b (y :: r)) :
    Calls Try.prog 26 #[.slice a 0 ca, .slice b (y :: r).length cb] w fun e w' => e = .returned (.int .i64 y) ∧ ∃ q, w' = w.drewN q := by
  rcases ht with h | ⟨bb, ob, rfl, -, hc⟩
  · cases h
  · have h0 := hc 0 (by simp)
    simp only [Nat.add_zero, List.getD_cons_zero] at h0
    clear hc
    unfold maxLen at hl
    generalize hn : (y :: r).length = n at *
    have hp : 0 < n := by rw [← hn]; simp
    clear hn
    go_enter Try.func26, Try.ntmps26
    go_wp2
    go_ret
    exact ⟨rfl, 0, rfl⟩

set_option maxHeartbeats 400000 in
theorem first_ln (a b : Option Addr) (ca cb : Nat) (x : Int) (r : List Int) (w : World) (hl : (x :: r).length ≤ maxLen) (ht : At w a (x :: r)) :
    Calls Try.prog 26 #[.slice a (x :: r).length ca, .slice b 0 cb] w fun e w' => e = .returned (.int .i64 x) ∧ ∃ q, w' = w.drewN q := by
  rcases ht with h | ⟨bb, ob, rfl, -, hc⟩
  · cases h
  · have h0 := hc 0 (by simp)
    simp only [Nat.add_zero, List.getD_cons_zero] at h0
    clear hc
    unfold maxLen at hl
    generalize hn : (x :: r).length = n at *
    have hp : 0 < n := by rw [← hn]; simp
    have hp2 : ((n : Int) == 0) = false := by simp; omega
    clear hn
    go_enter Try.func26, Try.ntmps26
    go_wp2
    go_ret
    exact ⟨rfl, 0, rfl⟩

set_option maxHeartbeats 400000 in
theorem first_ll (a b : Option Addr) (ca cb : Nat) (x y : Int) (r s : List Int) (w : World) (hl : (x :: r).length ≤ maxLen) (hm : (y :: s).length ≤ maxLen) (hs : At w a (x :: r)) (ht : At w b (y :: s)) :
    Calls Try.prog 26 #[.slice a (x :: r).length ca, .slice b (y :: s).length cb] w fun e w' => e = .returned (.int .i64 (min x y)) ∧ ∃ q, w' = w.drewN q := by
  rcases hs with h | ⟨ba, oa, rfl, -, hca⟩
  · cases h
  · rcases ht with h | ⟨bb, ob, rfl, -, hcb⟩
    · cases h
    · have h0 := hca 0 (by simp)
      have h1 := hcb 0 (by simp)
      simp only [Nat.add_zero, List.getD_cons_zero] at h0 h1
      clear hca hcb
      unfold maxLen at hl hm
      generalize hn : (x :: r).length = n at *
      have hp : 0 < n := by rw [← hn]; simp
      clear hn
      generalize hn' : (y :: s).length = n' at *
      have hp' : 0 < n' := by rw [← hn']; simp
      clear hn'
      have hq : ((n : Int) == 0) = false := by simp; omega
      have hq' : ((n' : Int) == 0) = false := by simp; omega
      go_enter Try.func26, Try.ntmps26
      go_wp2
      go_region
      all_goals (try go_wp2)
      all_goals go_ret
      all_goals exact ⟨ret_int (by omega), 1, rfl⟩

theorem first_any (a b : Option Addr) (ca cb : Nat) (xs ys : List Int) (w : World) (hne : ¬ (xs = [] ∧ ys = [])) (hs : At w a xs) (ht : At w b ys) (hl : xs.length ≤ maxLen) (hm : ys.length ≤ maxLen) :
    Calls Try.prog 26 #[.slice a xs.length ca, .slice b ys.length cb] w fun e w' => e = .returned (.int .i64 (fst xs ys)) ∧ ∃ q, w' = w.drewN q := by
  cases xs with
  | nil =>
    cases ys with
    | nil => exact absurd ⟨rfl, rfl⟩ hne
    | cons y s => exact first_nl a b ca cb y s w hm ht
  | cons x r =>
    cases ys with
    | nil => exact first_ln a b ca cb x r w hl hs
    | cons y s => exact first_ll a b ca cb x y r s w hl hm hs ht

theorem cells_tail {w : World} {b off : Nat} {x : Int} {r : List Int} (h : Cells w b off (x :: r)) : Cells w b (off + 1) r := fun j hj => by
  have := h (j + 1) (by simp; omega)
  rw [show off + (j + 1) = off + 1 + j by omega] at this
  simpa using this

set_option maxHeartbeats 400000 in
theorem behind_nil (a : Option Addr) (cap : Nat) (n : Int) (w : World) :
    Calls Try.prog 27 #[.slice a 0 cap, .int .i64 n] w fun e w' => e = .returned (.slice a 0 cap) ∧ w' = w := by
  go_enter Try.func27, Try.ntmps27
  go_wp2
  go_ret
  exact ⟨rfl, rfl⟩

set_option maxHeartbeats 400000 in
theorem behind_no (b off cap len : Nat) (x n : Int) (w : World) (hp : 0 < len) (hl : len ≤ 9223372036854775807) (h0 : w.cell? ⟨b, off, none⟩ = some (.int .i64 x)) (hx : (x == n) = false) :
    Calls Try.prog 27 #[.slice (some ⟨b, off, none⟩) len cap, .int .i64 n] w fun e w' => e = .returned (.slice (some ⟨b, off, none⟩) len cap) ∧ w' = w := by
  have d : decide ((0 : Int) < (len : Int)) = true := by simp; omega
  go_enter Try.func27, Try.ntmps27
  go_wp2
  go_ret
  exact ⟨rfl, rfl⟩

set_option maxHeartbeats 400000 in
theorem behind_yes (b off cap len : Nat) (x n : Int) (w : World) (hp : 0 < len) (hcap : len ≤ cap) (hl : cap ≤ 9223372036854775807) (h0 : w.cell? ⟨b, off, none⟩ = some (.int .i64 x)) (hx : (x == n) = true) :
    Calls Try.prog 27 #[.slice (some ⟨b, off, none⟩) len cap, .int .i64 n] w fun e w' => (∃ o, e = .returned (.slice (some ⟨b, o, none⟩) (len - 1) (cap - 1)) ∧ (len = 1 ∨ o = off + 1)) ∧ w' = w := by
  have d : decide ((0 : Int) < (len : Int)) = true := by simp; omega
  go_enter Try.func27, Try.ntmps27
  go_wp2
  · have h : cap = 1 := by assumption
    subst h
    go_ret
    exact ⟨⟨off, rfl, .inl (by omega)⟩, rfl⟩
  · go_ret
    exact ⟨⟨off + 1, rfl, .inr rfl⟩, rfl⟩

theorem behind_any (a : Option Addr) (cap B : Nat) (xs : List Int) (n : Int) (w : World) (hs : AtB w B a xs) (hcap : xs.length ≤ cap) (hm : cap ≤ maxLen) :
    Calls Try.prog 27 #[.slice a xs.length cap, .int .i64 n] w fun e w' => (∃ a' cap', e = .returned (.slice a' (rem xs n).length cap') ∧ AtB w B a' (rem xs n) ∧ (rem xs n).length ≤ cap' ∧ cap' ≤ maxLen) ∧ w' = w := by
  rcases hs with rfl | ⟨b, off, rfl, hb, hc⟩
  · refine (behind_nil a cap n w).mono ?_
    rintro e w' ⟨rfl, rfl⟩
    exact ⟨⟨a, cap, rfl, .inl rfl, hcap, hm⟩, rfl⟩
  · cases xs with
    | nil =>
      refine (behind_nil _ cap n w).mono ?_
      rintro e w' ⟨rfl, rfl⟩
      exact ⟨⟨_, cap, rfl, .inl rfl, hcap, hm⟩, rfl⟩
    | cons x r =>
      have h0 := hc 0 (by simp)
      simp only [Nat.add_zero, List.getD_cons_zero] at h0
      by_cases hx : x = n
      · subst hx
        refine (behind_yes b off cap (x :: r).length x x w (by simp) hcap hm h0 (by simp)).mono ?_
        rintro e w' ⟨⟨o, rfl, ho⟩, rfl⟩
        rw [rem_hd]
        refine ⟨⟨some ⟨b, o, none⟩, cap - 1, rfl, ?_, by simp at hcap; omega, by omega⟩, rfl⟩
        rcases ho with h | h
        · exact .inl (List.eq_nil_of_length_eq_zero (by simpa using h))
        · subst h; exact .inr ⟨b, off + 1, rfl, hb, cells_tail hc⟩
      · refine (behind_no b off cap (x :: r).length x n w (by simp) (Nat.le_trans hcap hm) h0 (by simp [hx])).mono ?_
        rintro e w' ⟨rfl, rfl⟩
        rw [rem_ne r hx]
        exact ⟨⟨_, cap, rfl, .inr ⟨b, off, rfl, hb, hc⟩, hcap, hm⟩, rfl⟩

end Go.Proofs.Ytfjkdlhnieiibaa
