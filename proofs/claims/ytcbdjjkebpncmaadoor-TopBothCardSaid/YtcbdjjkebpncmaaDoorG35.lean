/-
  The walks of row.first and row.behind, and the plain facts on them: the least number of two rows, and what is left of a row behind it.
  The walk of row.pick: the numbers of two rows of which a closure says that they stay; and its answer where one is no row.
  The walk of row.pick with the closure of row.Join: the numbers of two rows of which it says that they stay.
  The walks of the three closures of row.Join, row.Meet and row.Less.
  The walk of row.Join.
-/
import Derived.Test.YtcbdjjkebpncmaaDoorG34
import Derived.Test.YtcbdjjkebpncmaaDoorG15
namespace Go.Proofs.YtcbdjjkebpncmaaDoor
open Go.RowKit
set_option linter.unusedVariables false

/-- The least number of two rows that are not both empty. -/
def fst : List Int → List Int → Int
  | [], [] => 0
  | [], y :: _ => y
  | x :: _, [] => x
  | x :: _, y :: _ => min x y

/-- What is left of a row when n is taken from its front. -/
def rem : List Int → Int → List Int
  | [], _ => []
  | x :: r, n => if x = n then r else x :: r

theorem rem_hd (x : Int) (r : List Int) : rem (x :: r) x = r := by simp [rem]
theorem rem_ne {x n : Int} (r : List Int) (h : ¬ x = n) : rem (x :: r) n = x :: r := by simp [rem, h]
theorem rem_nil (n : Int) : rem [] n = [] := rfl
theorem fst_l {x y : Int} (a b : List Int) (h : x ≤ y) : fst (x :: a) (y :: b) = x := by simp only [fst]; omega
theorem fst_r {x y : Int} (a b : List Int) (h : y ≤ x) : fst (x :: a) (y :: b) = y := by simp only [fst]; omega

theorem rem_len (xs : List Int) (n : Int) : (rem xs n).length ≤ xs.length := by
  cases xs with
  | nil => exact Nat.le_refl _
  | cons x r =>
    by_cases h : x = n
    · subst h; rw [rem_hd]; simp
    · rw [rem_ne r h]; exact Nat.le_refl _

theorem uni_nil (a : List Int) : uni a [] = a := by cases a <;> rfl

theorem uni_step (xs ys : List Int) (h : ¬ (xs = [] ∧ ys = [])) : uni xs ys = fst xs ys :: uni (rem xs (fst xs ys)) (rem ys (fst xs ys)) := by
  cases xs with
  | nil =>
    cases ys with
    | nil => exact absurd ⟨rfl, rfl⟩ h
    | cons y b => show uni [] (y :: b) = y :: uni (rem [] y) (rem (y :: b) y); rw [rem_hd, rem_nil]; rfl
  | cons x a =>
    cases ys with
    | nil => show uni (x :: a) [] = x :: uni (rem (x :: a) x) (rem [] x); rw [rem_hd, rem_nil, uni_nil, uni_nil]
    | cons y b =>
      by_cases h1 : x < y
      · rw [fst_l a b (by omega), rem_hd, rem_ne b (by omega), uni_cc, if_pos h1]
      · by_cases h2 : y < x
        · rw [fst_r a b (by omega), rem_hd, rem_ne a (by omega), uni_cc, if_neg h1, if_pos h2]
        · have : x = y := by omega
          subst this
          rw [fst_l a b (by omega), rem_hd, rem_hd, uni_cc, if_neg h1, if_neg h1]

theorem rem_lenlt (xs ys : List Int) (h : ¬ (xs = [] ∧ ys = [])) : (rem xs (fst xs ys)).length + (rem ys (fst xs ys)).length < xs.length + ys.length := by
  cases xs with
  | nil =>
    cases ys with
    | nil => exact absurd ⟨rfl, rfl⟩ h
    | cons y b => show (rem [] y).length + (rem (y :: b) y).length < _; rw [rem_hd, rem_nil]; simp
  | cons x a =>
    cases ys with
    | nil => show (rem (x :: a) x).length + (rem [] x).length < _; rw [rem_hd, rem_nil]; simp
    | cons y b =>
      by_cases h1 : x ≤ y
      · have := rem_len (y :: b) x
        rw [fst_l a b h1, rem_hd]; simp only [List.length_cons] at this ⊢; omega
      · have := rem_len (x :: a) y
        rw [fst_r a b (by omega), rem_hd]; simp only [List.length_cons] at this ⊢; omega

theorem inc_rem {xs : List Int} (n : Int) (h : Inc xs) : Inc (rem xs n) := by
  cases xs with
  | nil => exact h
  | cons x r =>
    by_cases c : x = n
    · subst c; rw [rem_hd]; exact (List.pairwise_cons.1 h).2
    · rw [rem_ne r c]; exact h

theorem rem_low {xs ys : List Int} (hx : Inc xs) (hy : Inc ys) : (∀ z ∈ rem xs (fst xs ys), fst xs ys < z) ∧ (∀ z ∈ rem ys (fst xs ys), fst xs ys < z) := by
  cases xs with
  | nil =>
    cases ys with
    | nil => simp [rem]
    | cons y b => refine ⟨by simp [rem], ?_⟩; show ∀ z ∈ rem (y :: b) y, y < z; rw [rem_hd]; exact (List.pairwise_cons.1 hy).1
  | cons x a =>
    have ha := List.pairwise_cons.1 hx
    cases ys with
    | nil => refine ⟨?_, by simp [rem]⟩; show ∀ z ∈ rem (x :: a) x, x < z; rw [rem_hd]; exact ha.1
    | cons y b =>
      have hb := List.pairwise_cons.1 hy
      by_cases h1 : x < y
      · rw [fst_l a b (by omega), rem_hd, rem_ne b (by omega)]
        refine ⟨ha.1, fun z hz => ?_⟩
        rcases List.mem_cons.1 hz with rfl | hz
        · exact h1
        · have := hb.1 z hz; omega
      · by_cases h2 : y < x
        · rw [fst_r a b (by omega), rem_hd, rem_ne a (by omega)]
          refine ⟨fun z hz => ?_, hb.1⟩
          rcases List.mem_cons.1 hz with rfl | hz
          · exact h2
          · have := ha.1 z hz; omega
        · have : x = y := by omega
          subst this
          rw [fst_l a b (by omega), rem_hd, rem_hd]
          exact ⟨ha.1, hb.1⟩

theorem fst_ge {xs ys : List Int} {m : Int} (h : ¬ (xs = [] ∧ ys = [])) (hx : ∀ z ∈ xs, m ≤ z) (hy : ∀ z ∈ ys, m ≤ z) : m ≤ fst xs ys := by
  cases xs with
  | nil =>
    cases ys with
    | nil => exact absurd ⟨rfl, rfl⟩ h
    | cons y b => exact hy y (by simp)
  | cons x a =>
    cases ys with
    | nil => exact hx x (by simp)
    | cons y b => have := hx x (by simp); have := hy y (by simp); simp only [fst]; omega

set_option maxHeartbeats 400000 in
theorem first_nl (a b : Option Addr) (ca cb : Nat) (y : Int) (r : List Int) (w : World) (hl : (y :: r).length ≤ maxLen) (ht : At w b (y :: r)) :
    Calls Tryd.prog 100 #[.slice a 0 ca, .slice b (y :: r).length cb] w fun e w' => e = .returned (.int .i64 y) ∧ ∃ q, w' = w.drewN q := by
  rcases ht with h | ⟨bb, ob, rfl, -, hc⟩
  · cases h
  · have h0 := hc 0 (by simp)
    simp only [Nat.add_zero, List.getD_cons_zero] at h0
    clear hc
    unfold maxLen at hl
    generalize hn : (y :: r).length = n at *
    have hp : 0 < n := by rw [← hn]; simp
    clear hn
    go_enter Tryd.func100, Tryd.ntmps100
    go_wp2
    go_ret
    exact ⟨rfl, 0, rfl⟩

set_option maxHeartbeats 400000 in
theorem first_ln (a b : Option Addr) (ca cb : Nat) (x : Int) (r : List Int) (w : World) (hl : (x :: r).length ≤ maxLen) (ht : At w a (x :: r)) :
    Calls Tryd.prog 100 #[.slice a (x :: r).length ca, .slice b 0 cb] w fun e w' => e = .returned (.int .i64 x) ∧ ∃ q, w' = w.drewN q := by
  rcases ht with h | ⟨bb, ob, rfl, -, hc⟩
  · cases h
  · have h0 := hc 0 (by simp)
    simp only [Nat.add_zero, List.getD_cons_zero] at h0
    clear hc
    unfold maxLen at hl
    generalize hn : (x :: r).length = n at *
    have hp : 0 < n := by rw [← hn]; simp
    have hp2 : ((n : Int) == 0) = false := by simp; omega
    clear hn
    go_enter Tryd.func100, Tryd.ntmps100
    go_wp2
    go_ret
    exact ⟨rfl, 0, rfl⟩

set_option maxHeartbeats 400000 in
theorem first_ll (a b : Option Addr) (ca cb : Nat) (x y : Int) (r s : List Int) (w : World) (hl : (x :: r).length ≤ maxLen) (hm : (y :: s).length ≤ maxLen) (hs : At w a (x :: r)) (ht : At w b (y :: s)) :
    Calls Tryd.prog 100 #[.slice a (x :: r).length ca, .slice b (y :: s).length cb] w fun e w' => e = .returned (.int .i64 (min x y)) ∧ ∃ q, w' = w.drewN q := by
  rcases hs with h | ⟨ba, oa, rfl, -, hca⟩
  · cases h
  · rcases ht with h | ⟨bb, ob, rfl, -, hcb⟩
    · cases h
    · have h0 := hca 0 (by simp)
      have h1 := hcb 0 (by simp)
      simp only [Nat.add_zero, List.getD_cons_zero] at h0 h1
      clear hca hcb
      unfold maxLen at hl hm
      generalize hn : (x :: r).length = n at *
      have hp : 0 < n := by rw [← hn]; simp
      clear hn
      generalize hn' : (y :: s).length = n' at *
      have hp' : 0 < n' := by rw [← hn']; simp
      clear hn'
      have hq : ((n : Int) == 0) = false := by simp; omega
      have hq' : ((n' : Int) == 0) = false := by simp; omega
      go_enter Tryd.func100, Tryd.ntmps100
      go_wp2
      go_region
      all_goals (try go_wp2)
      all_goals go_ret
      all_goals exact ⟨ret_int (by omega), 1, rfl⟩

theorem first_any (a b : Option Addr) (ca cb : Nat) (xs ys : List Int) (w : World) (hne : ¬ (xs = [] ∧ ys = [])) (hs : At w a xs) (ht : At w b ys) (hl : xs.length ≤ maxLen) (hm : ys.length ≤ maxLen) :
    Calls Tryd.prog 100 #[.slice a xs.length ca, .slice b ys.length cb] w fun e w' => e = .returned (.int .i64 (fst xs ys)) ∧ ∃ q, w' = w.drewN q := by
  cases xs with
  | nil =>
    cases ys with
    | nil => exact absurd ⟨rfl, rfl⟩ hne
    | cons y s => exact first_nl a b ca cb y s w hm ht
  | cons x r =>
    cases ys with
    | nil => exact first_ln a b ca cb x r w hl hs
    | cons y s => exact first_ll a b ca cb x y r s w hl hm hs ht

theorem cells_tail {w : World} {b off : Nat} {x : Int} {r : List Int} (h : Cells w b off (x :: r)) : Cells w b (off + 1) r := fun j hj => by
  have := h (j + 1) (by simp; omega)
  rw [show off + (j + 1) = off + 1 + j by omega] at this
  simpa using this

set_option maxHeartbeats 400000 in
theorem behind_nil (a : Option Addr) (cap : Nat) (n : Int) (w : World) :
    Calls Tryd.prog 101 #[.slice a 0 cap, .int .i64 n] w fun e w' => e = .returned (.slice a 0 cap) ∧ w' = w := by
  go_enter Tryd.func101, Tryd.ntmps101
  go_wp2
  go_ret
  exact ⟨rfl, rfl⟩

set_option maxHeartbeats 400000 in
theorem behind_no (b off cap len : Nat) (x n : Int) (w : World) (hp : 0 < len) (hl : len ≤ 9223372036854775807) (h0 : w.cell? ⟨b, off, none⟩ = some (.int .i64 x)) (hx : (x == n) = false) :
    Calls Tryd.prog 101 #[.slice (some ⟨b, off, none⟩) len cap, .int .i64 n] w fun e w' => e = .returned (.slice (some ⟨b, off, none⟩) len cap) ∧ w' = w := by
  have d : decide ((0 : Int) < (len : Int)) = true := by simp; omega
  go_enter Tryd.func101, Tryd.ntmps101
  go_wp2
  go_ret
  exact ⟨rfl, rfl⟩

set_option maxHeartbeats 400000 in
theorem behind_yes (b off cap len : Nat) (x n : Int) (w : World) (hp : 0 < len) (hcap : len ≤ cap) (hl : cap ≤ 9223372036854775807) (h0 : w.cell? ⟨b, off, none⟩ = some (.int .i64 x)) (hx : (x == n) = true) :
    Calls Tryd.prog 101 #[.slice (some ⟨b, off, none⟩) len cap, .int .i64 n] w fun e w' => (∃ o, e = .returned (.slice (some ⟨b, o, none⟩) (len - 1) (cap - 1)) ∧ (len = 1 ∨ o = off + 1)) ∧ w' = w := by
  have d : decide ((0 : Int) < (len : Int)) = true := by simp; omega
  go_enter Tryd.func101, Tryd.ntmps101
  go_wp2
  · have h : cap = 1 := by assumption
    subst h
    go_ret
    exact ⟨⟨off, rfl, .inl (by omega)⟩, rfl⟩
  · go_ret
    exact ⟨⟨off + 1, rfl, .inr rfl⟩, rfl⟩

theorem behind_any (a : Option Addr) (cap B : Nat) (xs : List Int) (n : Int) (w : World) (hs : AtB w B a xs) (hcap : xs.length ≤ cap) (hm : cap ≤ maxLen) :
    Calls Tryd.prog 101 #[.slice a xs.length cap, .int .i64 n] w fun e w' => (∃ a' cap', e = .returned (.slice a' (rem xs n).length cap') ∧ AtB w B a' (rem xs n) ∧ (rem xs n).length ≤ cap' ∧ cap' ≤ maxLen) ∧ w' = w := by
  rcases hs with rfl | ⟨b, off, rfl, hb, hc⟩
  · refine (behind_nil a cap n w).mono ?_
    rintro e w' ⟨rfl, rfl⟩
    exact ⟨⟨a, cap, rfl, .inl rfl, hcap, hm⟩, rfl⟩
  · cases xs with
    | nil =>
      refine (behind_nil _ cap n w).mono ?_
      rintro e w' ⟨rfl, rfl⟩
      exact ⟨⟨_, cap, rfl, .inl rfl, hcap, hm⟩, rfl⟩
    | cons x r =>
      have h0 := hc 0 (by simp)
      simp only [Nat.add_zero, List.getD_cons_zero] at h0
      by_cases hx : x = n
      · subst hx
        refine (behind_yes b off cap (x :: r).length x x w (by simp) hcap hm h0 (by simp)).mono ?_
        rintro e w' ⟨⟨o, rfl, ho⟩, rfl⟩
        rw [rem_hd]
        refine ⟨⟨some ⟨b, o, none⟩, cap - 1, rfl, ?_, by simp at hcap; omega, by omega⟩, rfl⟩
        rcases ho with h | h
        · exact .inl (List.eq_nil_of_length_eq_zero (by simpa using h))
        · subst h; exact .inr ⟨b, off + 1, rfl, hb, cells_tail hc⟩
      · refine (behind_no b off cap (x :: r).length x n w (by simp) (Nat.le_trans hcap hm) h0 (by simp [hx])).mono ?_
        rintro e w' ⟨rfl, rfl⟩
        rw [rem_ne r hx]
        exact ⟨⟨_, cap, rfl, .inr ⟨b, off, rfl, hb, hc⟩, hcap, hm⟩, rfl⟩

end Go.Proofs.YtcbdjjkebpncmaaDoor
namespace Go.Proofs.YtcbdjjkebpncmaaDoor
open Go.RowKit
set_option linter.unusedVariables false

theorem AtB.at {w : World} {B : Nat} {a : Option Addr} {xs : List Int} (h : AtB w B a xs) (hB : B ≤ w.heap.size) : At w a xs := by
  rcases h with h | ⟨b, off, rfl, hlt, hc⟩
  · exact .inl h
  · exact .inr ⟨b, off, rfl, by omega, hc⟩

/-- Not both are empty. -/
def NE (xs ys : List Int) : Prop := ¬ (xs = [] ∧ ys = [])

/-- What a closure that says whether a number stays is good for. -/
def StaysSaid (F B : Nat) (a1 : Option Addr) (c1 : Nat) (xs : List Int) (a2 : Option Addr) (c2 : Nat) (ys : List Int) (st : Int → Bool) : Prop :=
  ∀ (w : World) (n : Int), PI w B a1 c1 xs a2 c2 ys n → Calls Tryd.prog F #[.int .i64 n, .pointer (some ⟨B + 4, 0, none⟩), .pointer (some ⟨B + 5, 0, none⟩)] w fun e w' => e = .returned (.bool (st n)) ∧ PI w' B a1 c1 xs a2 c2 ys n ∧ Kept (fun k => k ≠ B + 1 ∧ k ≠ B + 3) w w'

/-- What holds at the head of each round of pick. -/
structure PR (w wr : World) (B : Nat) (a1 : Option Addr) (c1 : Nat) (xs : List Int) (a2 : Option Addr) (c2 : Nat) (ys : List Int) (st : Int → Bool) (p1 : Option Addr) (d1 : Nat) (xs' : List Int) (p2 : Option Addr) (d2 : Nat) (ys' : List Int) (v : Value) (L : List Int) (m : Int) : Prop where
  r1 : AtB wr B p1 xs'
  r2 : AtB wr B p2 ys'
  k1 : xs'.length ≤ d1
  k2 : ys'.length ≤ d2
  m1 : d1 ≤ maxLen
  m2 : d2 ≤ maxLen
  i1 : Inc xs'
  i2 : Inc ys'
  g1 : ∀ z ∈ xs', m ≤ z
  g2 : ∀ z ∈ ys', m ≤ z
  pi : PI wr B a1 c1 xs a2 c2 ys m
  own : Own wr (B + 6) v L
  bel : Below B w wr
  hsz : B + 6 ≤ wr.heap.size
  eq : (uni xs ys).filter st = L ++ (uni xs' ys').filter st

/-- The length of a slice value. -/
def lenSl : Value → Nat
  | .slice _ n _ => n
  | _ => 0

theorem pi_drewN {w : World} {B : Nat} {a1 : Option Addr} {c1 : Nat} {xs : List Int} {a2 : Option Addr} {c2 : Nat} {ys : List Int} {n : Int} (h : PI w B a1 c1 xs a2 c2 ys n) (q : Nat) : PI (w.drewN q) B a1 c1 xs a2 c2 ys n := h.kept ⟨rfl, rfl, rfl, Nat.le_refl _, fun _ _ => rfl⟩
theorem atB_drewN {w : World} {B : Nat} {a : Option Addr} {xs : List Int} (h : AtB w B a xs) (q : Nat) : AtB (w.drewN q) B a xs := h

theorem Own.kept {w w' : World} {B : Nat} {v : Value} {xs : List Int} {K : Nat → Prop} (h : Own w B v xs) (hk : Kept K w w') (hK : ∀ k, B ≤ k → K k) : Own w' B v xs := by
  refine ⟨h.1, ?_⟩
  rcases h.2 with hn | ⟨g, cap, cur, rfl, hb, hgg, rest⟩
  · exact .inl hn
  · exact .inr ⟨g, cap, cur, rfl, hb, (hk.block g (hK g hb)).trans hgg, rest⟩

theorem kept_drewN {K : Nat → Prop} {a w : World} (h : Kept K (a) w) (q : Nat) : Kept K a (w.drewN q) := h.trans ⟨rfl, rfl, rfl, Nat.le_refl _, fun _ _ => rfl⟩
theorem kept_of_drewN {K : Nat → Prop} {a w : World} {q : Nat} (h : Kept K (a.drewN q) w) : Kept K a w := ⟨h.os, h.tape, h.output, h.size, h.block⟩

section
variable {w wr w2 : World} {B : Nat} {a1 : Option Addr} {c1 : Nat} {xs : List Int} {a2 : Option Addr} {c2 : Nat} {ys : List Int} {st : Int → Bool} {p1 : Option Addr} {d1 : Nat} {xs' : List Int} {p2 : Option Addr} {d2 : Nat} {ys' : List Int} {v : Value} {L : List Int} {m : Int} {p1' : Option Addr} {d1' : Nat} {p2' : Option Addr} {d2' : Nat} {q : Nat}

theorem PR.drop (hr : PR w wr B a1 c1 xs a2 c2 ys st p1 d1 xs' p2 d2 ys' v L m) (hne : NE xs' ys')
    (s1 : AtB (wr.drewN q) B p1' (rem xs' (fst xs' ys'))) (s2 : (rem xs' (fst xs' ys')).length ≤ d1') (s3 : d1' ≤ maxLen) (t1 : AtB (wr.drewN q) B p2' (rem ys' (fst xs' ys'))) (t2 : (rem ys' (fst xs' ys')).length ≤ d2') (t3 : d2' ≤ maxLen)
    (hpi : PI w2 B a1 c1 xs a2 c2 ys (fst xs' ys')) (hk : Kept (fun k => k ≠ B + 1 ∧ k ≠ B + 3) (wr.drewN q) w2) (hs : st (fst xs' ys') = false) :
    PR w w2 B a1 c1 xs a2 c2 ys st p1' d1' (rem xs' (fst xs' ys')) p2' d2' (rem ys' (fst xs' ys')) v L (fst xs' ys') where
  r1 := s1.kept hk (fun k h => by omega)
  r2 := t1.kept hk (fun k h => by omega)
  k1 := s2
  k2 := t2
  m1 := s3
  m2 := t3
  i1 := inc_rem _ hr.i1
  i2 := inc_rem _ hr.i2
  g1 := fun z hz => Int.le_of_lt ((rem_low hr.i1 hr.i2).1 z hz)
  g2 := fun z hz => Int.le_of_lt ((rem_low hr.i1 hr.i2).2 z hz)
  pi := hpi
  own := hr.own.kept (kept_of_drewN hk) (fun k h => by omega)
  bel := hr.bel.trans ((kept_of_drewN hk).below (fun k h => by omega))
  hsz := Nat.le_trans hr.hsz hk.size
  eq := by rw [hr.eq, uni_step _ _ hne, List.filter_cons, hs]; rfl

theorem PR.keep {w3 : World} {v' : Value} {o : Obj} (hr : PR w wr B a1 c1 xs a2 c2 ys st p1 d1 xs' p2 d2 ys' v L m) (hne : NE xs' ys')
    (s1 : AtB (wr.drewN q) B p1' (rem xs' (fst xs' ys'))) (s2 : (rem xs' (fst xs' ys')).length ≤ d1') (s3 : d1' ≤ maxLen) (t1 : AtB (wr.drewN q) B p2' (rem ys' (fst xs' ys'))) (t2 : (rem ys' (fst xs' ys')).length ≤ d2') (t3 : d2' ≤ maxLen)
    (hpi : PI w2 B a1 c1 xs a2 c2 ys (fst xs' ys')) (hk : Kept (fun k => k ≠ B + 1 ∧ k ≠ B + 3) (wr.drewN q) w2) (hs : st (fst xs' ys') = true)
    (hown' : w3.ownsRow (B + 6) 3 1 v' (L.length + 1) (L.map (Value.int .i64) ++ [.int .i64 (fst xs' ys')])) (hgrow : (w2.alloc o).grownBy w3 v.ownBlock) :
    PR w w3 B a1 c1 xs a2 c2 ys st p1' d1' (rem xs' (fst xs' ys')) p2' d2' (rem ys' (fst xs' ys')) v' (L ++ [fst xs' ys']) (fst xs' ys') := by
  have hsz2 : B + 6 ≤ w2.heap.size := Nat.le_trans hr.hsz hk.size
  obtain ⟨o1, o2, o3⟩ := own_snoc (w := w2) (hr.own.kept (kept_of_drewN hk) (fun k h => by omega)) (Below.refl _ _) hsz2 hown' hgrow
  have hk3 : Kept (fun k => k < B + 6) w2 w3 := ⟨o2.os, o2.tape, o2.output, o2.size, o2.block⟩
  exact {
    r1 := (s1.kept hk (fun k h => by omega)).kept hk3 (fun k h => by omega)
    r2 := (t1.kept hk (fun k h => by omega)).kept hk3 (fun k h => by omega)
    k1 := s2
    k2 := t2
    m1 := s3
    m2 := t3
    i1 := inc_rem _ hr.i1
    i2 := inc_rem _ hr.i2
    g1 := fun z hz => Int.le_of_lt ((rem_low hr.i1 hr.i2).1 z hz)
    g2 := fun z hz => Int.le_of_lt ((rem_low hr.i1 hr.i2).2 z hz)
    pi := hpi.kept hk3
    own := o1
    bel := (hr.bel.trans ((kept_of_drewN hk).below (fun k h => by omega))).trans (o2.mono (by omega))
    hsz := o3
    eq := by rw [hr.eq, uni_step _ _ hne, List.filter_cons, hs]; simp }

theorem PR.room (hr : PR w wr B a1 c1 xs a2 c2 ys st p1 d1 xs' p2 d2 ys' v L m) : L.length ≤ xs.length + ys.length := by
  have h := congrArg List.length hr.eq
  have h1 := List.length_filter_le st (uni xs ys)
  have h2 := uni_len_le xs ys
  rw [List.length_append] at h
  omega
end


end Go.Proofs.YtcbdjjkebpncmaaDoor
namespace Go.Proofs.YtcbdjjkebpncmaaDoor
open Go.RowKit
set_option linter.unusedVariables false

set_option maxHeartbeats 2000000 in
set_option maxRecDepth 100000 in
theorem join_pick (w : World) (B : Nat) (a1 : Option Addr) (c1 : Nat) (xs : List Int) (a2 : Option Addr) (c2 : Nat) (ys : List Int) (st : Int → Bool) (hst : StaysSaid 74 B a1 c1 xs a2 c2 ys st)
    (hp : PI w B a1 c1 xs a2 c2 ys (-1)) (h1 : AtB w B a1 xs) (h2 : AtB w B a2 ys) (k1 : xs.length ≤ c1) (k2 : ys.length ≤ c2) (m1 : c1 ≤ maxLen) (m2 : c2 ≤ maxLen) (hB : B + 6 ≤ w.heap.size)
    (hx : Hid (rowB 2147483648 xs = true)) (hy : Hid (rowB 2147483648 ys = true)) :
    Calls Tryd.prog 73 #[.slice a1 xs.length c1, .slice a2 ys.length c2, .func (.func 74) #[] #[.pointer (some ⟨B + 4, 0, none⟩), .pointer (some ⟨B + 5, 0, none⟩)]] w fun e w' => ∃ v, e = .returned (.tuple #[v, .int .i64 0]) ∧ Own w' (B + 6) v ((uni xs ys).filter st) ∧ Below B w w' := by
  obtain ⟨i0, hi, hz0, hz1, hz2⟩ := info_parts Tryd.infoInt
  have hlx := rowB_len hx.out
  have hly := rowB_len hy.out
  go_enter Tryd.func73, Tryd.ntmps73
  go_wp2_with fail
  refine (rowIs_any a1 c1 xs 2147483648 _ (h1.at (by omega)) (by omega)).mono ?_
  rintro e w' ⟨rfl, rfl⟩
  rw [hx.out]
  go_wp2_with fail
  refine (rowIs_any a2 c2 ys 2147483648 _ (h2.at (by omega)) (by omega)).mono ?_
  rintro e w' ⟨rfl, rfl⟩
  rw [hy.out]
  go_wp2_with fail
  go_loopw [0, 1, 8] (fun v0 v1 v wr => ∃ p1 d1 xs' p2 d2 ys' L m, v0 = .slice p1 xs'.length d1 ∧ v1 = .slice p2 ys'.length d2 ∧ PR w' wr B a1 c1 xs a2 c2 ys st p1 d1 xs' p2 d2 ys' v L m) (fun v0 v1 _ _ => lenSl v0 + lenSl v1)
  case atStart => exact ⟨a1, c1, xs, a2, c2, ys, [], -1, rfl, rfl, ⟨h1, h2, k1, k2, m1, m2, rowB_inc hx.out, rowB_inc hy.out, fun z hz => by have := rowB_bd hx.out z hz; omega, fun z hz => by have := rowB_bd hy.out z hz; omega, hp, own_nil _ _, Below.refl _ _, hB, rfl⟩⟩
  case round =>
    obtain ⟨p1, d1, xs', p2, d2, ys', L, m, rfl, rfl, hr⟩ := hrel
    clear hp h1 h2 k1 k2 m1 m2 hB
    have k1 := hr.k1
    have k2 := hr.k2
    have m1 := hr.m1
    have m2 := hr.m2
    have hsz := hr.hsz
    unfold maxLen at m1 m2
    by_cases hne : xs' = [] ∧ ys' = []
    · obtain ⟨rfl, rfl⟩ := hne
      have hown := hr.own
      have heq := hr.eq
      have hbel := hr.bel
      rw [show uni [] [] = [] from rfl, List.filter_nil, List.append_nil] at heq
      rw [← heq] at hown
      clear heq
      go_wp2
      go_ret2
      exact ⟨_, rfl, hown, hbel⟩
    · have HNE : NE xs' ys' := hne
      by_cases e1 : 0 < xs'.length
      · clear hne
        go_wp2_with fail
        refine (first_any p1 p2 d1 d2 xs' ys' _ HNE (hr.r1.at (by omega)) (hr.r2.at (by omega)) (by unfold maxLen; omega) (by unfold maxLen; omega)).mono ?_
        rintro e w1 ⟨rfl, q, rfl⟩
        go_wp2_with fail
        refine (behind_any p1 d1 B xs' _ _ (atB_drewN hr.r1 q) k1 hr.m1).mono ?_
        rintro e w1 ⟨⟨p1', d1', rfl, s1, s2, s3⟩, rfl⟩
        go_wp2_with fail
        refine (behind_any p2 d2 B ys' _ _ (atB_drewN hr.r2 q) k2 hr.m2).mono ?_
        rintro e w1 ⟨⟨p2', d2', rfl, t1, t2, t3⟩, rfl⟩
        go_wp2_with fail
        refine (hst _ _ ((pi_drewN hr.pi q).mono (fst_ge HNE hr.g1 hr.g2))).mono ?_
        rintro e w2 ⟨rfl, hpi, hkept⟩
        have hlt := rem_lenlt xs' ys' HNE
        have hroom := hr.room
        by_cases hs : st (fst xs' ys') = true
        · have HS : Hid (st (fst xs' ys') = true) := hs
          have hown2 : Own w2 (B + 6) _ L := hr.own.kept (kept_of_drewN hkept) (fun k h => by omega)
          have hsz2 : B + 6 ≤ w2.heap.size := Nat.le_trans hr.hsz hkept.size
          go_wp2_with (at_builtin; refine wpList_append_own _ rfl _ _ 22 rfl (B + 6) 3 i0 (.int .i64 0) 1 8 Tryd.underlying22 hi hz0 hz1 hz2 rfl (by decide) _ _ _ rfl (World.ownsRow.alloc hown2 _) ⟨w2.heap.size, 0, none⟩ 1 1 [.int .i64 (fst xs' ys')] rfl rfl (cell_one_new _ _ _) (by intro u hu; simp at hu; subst hu; rfl) (by unfold maxLen; omega) (by omega) (by simp; omega) ?_)
          intro v' w3 hown' hgrow _
          have R := hr.keep HNE s1 s2 s3 t1 t2 t3 hpi hkept HS.out hown' hgrow
          clear hown' hgrow hown2 hr hpi hkept s1 t1
          go_wp2
          go_roundw
          case rel => exact ⟨p1', d1', _, p2', d2', _, _, _, rfl, rfl, R⟩
          case measure => simp only [lenSl]; exact hlt
        · have hs : st (fst xs' ys') = false := by simpa using hs
          have R := hr.drop HNE s1 s2 s3 t1 t2 t3 hpi hkept hs
          go_wp2
          go_roundw
          case rel => exact ⟨p1', d1', _, p2', d2', _, _, _, rfl, rfl, R⟩
          case measure => simp only [lenSl]; exact hlt
      · have e0 : xs' = [] := List.eq_nil_of_length_eq_zero (by omega)
        subst e0
        have e2 : 0 < ys'.length := List.length_pos_iff.2 (fun h => hne ⟨rfl, h⟩)
        clear hne e1
        go_wp2_with fail
        refine (first_any p1 p2 d1 d2 [] ys' _ HNE (hr.r1.at (by omega)) (hr.r2.at (by omega)) (by unfold maxLen; omega) (by unfold maxLen; omega)).mono ?_
        rintro e w1 ⟨rfl, q, rfl⟩
        go_wp2_with fail
        refine (behind_any p1 d1 B [] _ _ (atB_drewN hr.r1 q) k1 hr.m1).mono ?_
        rintro e w1 ⟨⟨p1', d1', rfl, s1, s2, s3⟩, rfl⟩
        go_wp2_with fail
        refine (behind_any p2 d2 B ys' _ _ (atB_drewN hr.r2 q) k2 hr.m2).mono ?_
        rintro e w1 ⟨⟨p2', d2', rfl, t1, t2, t3⟩, rfl⟩
        go_wp2_with fail
        refine (hst _ _ ((pi_drewN hr.pi q).mono (fst_ge HNE hr.g1 hr.g2))).mono ?_
        rintro e w2 ⟨rfl, hpi, hkept⟩
        have hlt := rem_lenlt [] ys' HNE
        have hroom := hr.room
        by_cases hs : st (fst [] ys') = true
        · have HS : Hid (st (fst [] ys') = true) := hs
          have hown2 : Own w2 (B + 6) _ L := hr.own.kept (kept_of_drewN hkept) (fun k h => by omega)
          have hsz2 : B + 6 ≤ w2.heap.size := Nat.le_trans hr.hsz hkept.size
          go_wp2_with (at_builtin; refine wpList_append_own _ rfl _ _ 22 rfl (B + 6) 3 i0 (.int .i64 0) 1 8 Tryd.underlying22 hi hz0 hz1 hz2 rfl (by decide) _ _ _ rfl (World.ownsRow.alloc hown2 _) ⟨w2.heap.size, 0, none⟩ 1 1 [.int .i64 (fst [] ys')] rfl rfl (cell_one_new _ _ _) (by intro u hu; simp at hu; subst hu; rfl) (by unfold maxLen; omega) (by omega) (by simp; omega) ?_)
          intro v' w3 hown' hgrow _
          have R := hr.keep HNE s1 s2 s3 t1 t2 t3 hpi hkept HS.out hown' hgrow
          clear hown' hgrow hown2 hr hpi hkept s1 t1
          go_wp2
          go_roundw
          case rel => exact ⟨p1', d1', _, p2', d2', _, _, _, rfl, rfl, R⟩
          case measure => simp only [lenSl]; exact hlt
        · have hs : st (fst [] ys') = false := by simpa using hs
          have R := hr.drop HNE s1 s2 s3 t1 t2 t3 hpi hkept hs
          go_wp2
          go_roundw
          case rel => exact ⟨p1', d1', _, p2', d2', _, _, _, rfl, rfl, R⟩
          case measure => simp only [lenSl]; exact hlt

end Go.Proofs.YtcbdjjkebpncmaaDoor
namespace Go.Proofs.YtcbdjjkebpncmaaDoor
open Go.RowKit
set_option linter.unusedVariables false

set_option maxHeartbeats 1000000 in
theorem join_stays (w : World) (B : Nat) (a1 : Option Addr) (c1 : Nat) (xs : List Int) (a2 : Option Addr) (c2 : Nat) (ys : List Int) (n : Int) (hi : Hid (Inc xs)) (hj : Hid (Inc ys)) (h : PI w B a1 c1 xs a2 c2 ys n) :
    Calls Tryd.prog 74 #[.int .i64 n, .pointer (some ⟨B + 4, 0, none⟩), .pointer (some ⟨B + 5, 0, none⟩)] w fun e w' => e = .returned (.bool (hasB xs n || hasB ys n)) ∧ PI w' B a1 c1 xs a2 c2 ys n ∧ Kept (fun k => k ≠ B + 1 ∧ k ≠ B + 3) w w' := by
  have hqa := h.qa
  obtain ⟨k1, f1⟩ := h.f1
  by_cases hx : hasB xs n = false
  · have HX : Hid (hasB xs n = false) := hx
    go_enter Tryd.func74, Tryd.ntmps74
    go_wp2_with fail
    refine (rowFind_any _ _ _ _ _ _ xs n k1 hi f1).mono ?_
    rintro e w1 ⟨rfl, h1, hk1⟩
    have p1 := h.first h1 hk1
    have hqb := p1.qb
    obtain ⟨k2, f2⟩ := p1.f2
    clear hqa h1
    go_wp2_with fail
    refine (rowFind_any _ _ _ _ _ _ ys n k2 hj f2).mono ?_
    rintro e w2 ⟨rfl, h2, hk2⟩
    have p2 := p1.second h2 hk2
    clear hqb h2
    go_wp2
    go_ret
    exact ⟨ret_bool (by rw [HX.out]; simp), p2, (hk1.mono (fun k h => h.1)).trans (hk2.mono (fun k h => h.2))⟩
  · have hx : hasB xs n = true := by simpa using hx
    have HX : Hid (hasB xs n = true) := hx
    go_enter Tryd.func74, Tryd.ntmps74
    go_wp2_with fail
    refine (rowFind_any _ _ _ _ _ _ xs n k1 hi f1).mono ?_
    rintro e w1 ⟨rfl, h1, hk1⟩
    have p1 := h.first h1 hk1
    clear hqa h1
    go_wp2
    go_ret
    exact ⟨ret_bool (by rw [HX.out]; simp), p1, hk1.mono (fun k h => h.1)⟩

end Go.Proofs.YtcbdjjkebpncmaaDoor
namespace Go.Proofs.YtcbdjjkebpncmaaDoor
open Go.RowKit
set_option linter.unusedVariables false

set_option maxHeartbeats 400000 in
theorem pick_no (w : World) (a1 : Option Addr) (c1 : Nat) (xs : List Int) (a2 : Option Addr) (c2 : Nat) (ys : List Int) (f : Value) (h1 : At w a1 xs) (h2 : At w a2 ys) (l1 : xs.length ≤ maxLen) (l2 : ys.length ≤ maxLen)
    (hno : Hid (rowB 2147483648 xs = true ∧ rowB 2147483648 ys = true) → False) :
    Calls Tryd.prog 73 #[.slice a1 xs.length c1, .slice a2 ys.length c2, f] w fun e w' => e = .returned (.tuple #[.slice none 0 0, .int .i64 2]) ∧ w' = w := by
  have HN : Hid (¬ (rowB 2147483648 xs = true ∧ rowB 2147483648 ys = true)) := hno
  clear hno
  by_cases hx : rowB 2147483648 xs = true
  · have hy : Hid (rowB 2147483648 ys = false) := by show _ = _; rw [← Bool.not_eq_true]; exact fun h => HN.out ⟨hx, h⟩
    have hx : Hid (rowB 2147483648 xs = true) := hx
    go_enter Tryd.func73, Tryd.ntmps73
    go_wp2_with fail
    refine (rowIs_any a1 c1 xs 2147483648 _ h1 l1).mono ?_
    rintro e w' ⟨rfl, rfl⟩
    rw [hx.out]
    go_wp2_with fail
    refine (rowIs_any a2 c2 ys 2147483648 _ h2 l2).mono ?_
    rintro e w' ⟨rfl, rfl⟩
    rw [hy.out]
    go_wp2
    go_ret2
    exact ⟨rfl, rfl⟩
  · have hx : Hid (rowB 2147483648 xs = false) := by show _ = _; rw [← Bool.not_eq_true]; exact hx
    go_enter Tryd.func73, Tryd.ntmps73
    go_wp2_with fail
    refine (rowIs_any a1 c1 xs 2147483648 _ h1 l1).mono ?_
    rintro e w' ⟨rfl, rfl⟩
    rw [hx.out]
    go_wp2
    go_ret2
    exact ⟨rfl, rfl⟩

/-- The world in which pick is called: two lists, their places, the two closures. -/
abbrev jw (w : World) (a1 : Option Addr) (n1 c1 : Nat) (a2 : Option Addr) (n2 c2 : Nat) : World :=
  (((((w.alloc (.cells #[.slice a1 n1 c1] 22)).alloc (.cells #[.int .i64 0] 3)).alloc (.cells #[.slice a2 n2 c2] 22)).alloc (.cells #[.int .i64 0] 3)).alloc (.cells #[.func (.func 99) #[] #[.pointer (some ⟨w.heap.size + 1, 0, none⟩), .pointer (some ⟨w.heap.size, 0, none⟩)]] 98)).alloc
    (.cells #[.func (.func 99) #[] #[.pointer (some ⟨w.heap.size + 1 + 1 + 1, 0, none⟩), .pointer (some ⟨w.heap.size + 1 + 1, 0, none⟩)]] 98)

theorem jw_below (w : World) (a1 : Option Addr) (n1 c1 : Nat) (a2 : Option Addr) (n2 c2 : Nat) : Below w.heap.size w (jw w a1 n1 c1 a2 n2 c2) :=
  ((((((Below.refl _ _).alloc (Nat.le_refl _) _).alloc (by simp) _).alloc (by simp; omega) _).alloc (by simp; omega) _).alloc (by simp; omega) _).alloc (by simp; omega) _

theorem jw_size (w : World) (a1 : Option Addr) (n1 c1 : Nat) (a2 : Option Addr) (n2 c2 : Nat) : (jw w a1 n1 c1 a2 n2 c2).heap.size = w.heap.size + 6 := by simp [jw]

theorem pi_new (w : World) (a1 : Option Addr) (c1 : Nat) (xs : List Int) (a2 : Option Addr) (c2 : Nat) (ys : List Int) (n : Int) (h1 : At w a1 xs) (h2 : At w a2 ys) (l1 : xs.length ≤ maxLen) (l2 : ys.length ≤ maxLen) : PI (jw w a1 xs.length c1 a2 ys.length c2) w.heap.size a1 c1 xs a2 c2 ys n := by
  have f1 := fi_new w w.heap.size a1 c1 xs n h1.atB (Nat.le_refl _) l1
  have kw : Kept (fun k => k < w.heap.size) w ((w.alloc (.cells #[.slice a1 xs.length c1] 22)).alloc (.cells #[.int .i64 0] 3)) := (kept_alloc w _ (fun _ h => h)).trans (kept_alloc _ _ (fun k h => by simp; omega))
  have f2 := fi_new _ w.heap.size a2 c2 ys n (h2.atB.kept kw (fun _ h => h)) (by simp; omega) l2
  refine ⟨⟨0, f1.kept (K := fun k => k < w.heap.size + 2) ?_ (by omega) (by omega) (fun k h => by omega)⟩, ⟨0, ?_⟩, ?_, ?_⟩
  · exact (((kept_alloc _ _ (fun k h => by simp; omega)).trans (kept_alloc _ _ (fun k h => by simp; omega))).trans (kept_alloc _ _ (fun k h => by simp; omega))).trans (kept_alloc _ _ (fun k h => by simp; omega))
  · have f2' := f2.kept (K := fun k => k < w.heap.size + 4) ((kept_alloc _ (.cells #[.func (.func 99) #[] #[.pointer (some ⟨w.heap.size + 1, 0, none⟩), .pointer (some ⟨w.heap.size, 0, none⟩)]] 98) (fun k h => by simp; omega)).trans (kept_alloc _ (.cells #[.func (.func 99) #[] #[.pointer (some ⟨w.heap.size + 1 + 1 + 1, 0, none⟩), .pointer (some ⟨w.heap.size + 1 + 1, 0, none⟩)]] 98) (fun k h => by simp; omega))) (by simp) (by simp) (fun k h => by omega)
    simpa using f2'
  · rw [World.cell?_alloc_past _ _ _ (by simp), World.cell?_alloc_at _ _ _ _ (by simp)]; rfl
  · rw [World.cell?_alloc_at _ _ _ _ (by simp)]; rfl

theorem join_at (w : World) (a1 : Option Addr) (c1 : Nat) (xs : List Int) (a2 : Option Addr) (c2 : Nat) (ys : List Int) (h1 : At w a1 xs) (h2 : At w a2 ys) (k1 : xs.length ≤ c1) (k2 : ys.length ≤ c2) (m1 : c1 ≤ maxLen) (m2 : c2 ≤ maxLen) (hx : Hid (rowB 2147483648 xs = true)) (hy : Hid (rowB 2147483648 ys = true)) :
    Calls Tryd.prog 73 #[.slice a1 xs.length c1, .slice a2 ys.length c2, .func (.func 74) #[] #[.pointer (some ⟨w.heap.size + 1 + 1 + 1 + 1, 0, none⟩), .pointer (some ⟨w.heap.size + 1 + 1 + 1 + 1 + 1, 0, none⟩)]] (jw w a1 xs.length c1 a2 ys.length c2) fun e w' => ∃ v, e = .returned (.tuple #[v, .int .i64 0]) ∧ Own w' (w.heap.size + 6) v ((uni xs ys).filter fun n => hasB xs n || hasB ys n) ∧ Below w.heap.size (jw w a1 xs.length c1 a2 ys.length c2) w' :=
  join_pick (jw w a1 xs.length c1 a2 ys.length c2) w.heap.size a1 c1 xs a2 c2 ys (fun n => hasB xs n || hasB ys n) (fun w n h => join_stays w _ a1 c1 xs a2 c2 ys n (rowB_inc hx.out) (rowB_inc hy.out) h) (pi_new w a1 c1 xs a2 c2 ys (-1) h1 h2 (by omega) (by omega))
    (h1.atB.kept (K := fun k => k < w.heap.size) ⟨(jw_below w a1 xs.length c1 a2 ys.length c2).os, (jw_below w a1 xs.length c1 a2 ys.length c2).tape, (jw_below w a1 xs.length c1 a2 ys.length c2).output, (jw_below w a1 xs.length c1 a2 ys.length c2).size, (jw_below w a1 xs.length c1 a2 ys.length c2).block⟩ (fun _ h => h))
    (h2.atB.kept (K := fun k => k < w.heap.size) ⟨(jw_below w a1 xs.length c1 a2 ys.length c2).os, (jw_below w a1 xs.length c1 a2 ys.length c2).tape, (jw_below w a1 xs.length c1 a2 ys.length c2).output, (jw_below w a1 xs.length c1 a2 ys.length c2).size, (jw_below w a1 xs.length c1 a2 ys.length c2).block⟩ (fun _ h => h))
    k1 k2 m1 m2 (by rw [jw_size]; exact Nat.le_refl _) hx hy

set_option maxHeartbeats 400000 in
theorem join_yes (w : World) (a1 : Option Addr) (c1 : Nat) (xs : List Int) (a2 : Option Addr) (c2 : Nat) (ys : List Int) (h1 : At w a1 xs) (h2 : At w a2 ys) (k1 : xs.length ≤ c1) (k2 : ys.length ≤ c2) (m1 : c1 ≤ maxLen) (m2 : c2 ≤ maxLen) (hx : Hid (rowB 2147483648 xs = true)) (hy : Hid (rowB 2147483648 ys = true)) :
    Calls Tryd.prog 44 #[.slice a1 xs.length c1, .slice a2 ys.length c2] w fun e w' => ∃ v, e = .returned (.tuple #[v, .int .i64 0]) ∧ Own w' (w.heap.size + 6) v ((uni xs ys).filter fun n => hasB xs n || hasB ys n) ∧ Below w.heap.size w w' := by
  have hmf : ∀ (fn : Fn) (first cap : Array Value) (w : World), (Instr.makeFunc fn first cap).run Tryd.prog w = .ok (.func fn first cap) w := fun _ _ _ _ => rfl
  go_enter Tryd.func44, Tryd.ntmps44
  go_wp2_with fail
  refine (finder_any a1 c1 xs _).mono ?_
  rintro e w1 ⟨rfl, rfl⟩
  go_wp2_with fail
  refine (finder_any a2 c2 ys _).mono ?_
  rintro e w1 ⟨rfl, rfl⟩
  go_wp2_with fail
  refine (join_at w a1 c1 xs a2 c2 ys h1 h2 k1 k2 m1 m2 hx hy).mono ?_
  rintro e w1 ⟨v, rfl, hown, hbel⟩
  go_wp2
  go_ret2
  exact ⟨v, rfl, hown, (jw_below w a1 xs.length c1 a2 ys.length c2).trans hbel⟩

set_option maxHeartbeats 400000 in
theorem join_no (w : World) (a1 : Option Addr) (c1 : Nat) (xs : List Int) (a2 : Option Addr) (c2 : Nat) (ys : List Int) (h1 : At w a1 xs) (h2 : At w a2 ys) (l1 : xs.length ≤ maxLen) (l2 : ys.length ≤ maxLen) (hno : Hid (rowB 2147483648 xs = true ∧ rowB 2147483648 ys = true) → False) :
    Calls Tryd.prog 44 #[.slice a1 xs.length c1, .slice a2 ys.length c2] w fun e w' => e = .returned (.tuple #[.slice none 0 0, .int .i64 2]) ∧ Below w.heap.size w w' := by
  have hmf : ∀ (fn : Fn) (first cap : Array Value) (w : World), (Instr.makeFunc fn first cap).run Tryd.prog w = .ok (.func fn first cap) w := fun _ _ _ _ => rfl
  have HNO : Hid (¬ (rowB 2147483648 xs = true ∧ rowB 2147483648 ys = true)) := hno
  clear hno
  go_enter Tryd.func44, Tryd.ntmps44
  go_wp2_with fail
  refine (finder_any a1 c1 xs _).mono ?_
  rintro e w1 ⟨rfl, rfl⟩
  go_wp2_with fail
  refine (finder_any a2 c2 ys _).mono ?_
  rintro e w1 ⟨rfl, rfl⟩
  go_wp2_with fail
  refine (pick_no (jw w a1 xs.length c1 a2 ys.length c2) a1 c1 xs a2 c2 ys _ (h1.below (jw_below w a1 xs.length c1 a2 ys.length c2) (Nat.le_refl _)) (h2.below (jw_below w a1 xs.length c1 a2 ys.length c2) (Nat.le_refl _)) l1 l2 HNO.out).mono ?_
  rintro e w1 ⟨rfl, rfl⟩
  go_wp2
  go_ret2
  exact ⟨rfl, jw_below w a1 xs.length c1 a2 ys.length c2⟩

end Go.Proofs.YtcbdjjkebpncmaaDoor
