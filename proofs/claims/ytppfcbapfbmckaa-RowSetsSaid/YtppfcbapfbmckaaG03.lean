/-
  The walk of row.pick with the closure of row.Less: the numbers of two rows of which it says that they stay.
  The walk of row.pick with the closure of row.Meet: the numbers of two rows of which it says that they stay.
  The walk of jalousieref1.Sorted: insertion, one number after the other: it answers 'srt xs'.
  The walk of jalousieref1.Join: one list behind the other, sorted.
  The walks of the three closures of row.Join, row.Meet and row.Less.
  The walk of row.Join.
  The closures of row.Meet and row.Less.
-/
import Derived.Test.YtppfcbapfbmckaaG02
import Derived.Deep.QuietTactic
import Derived.BigQuiet
namespace Go.Proofs.Ytppfcbapfbmckaa
open Go.RowKit
set_option linter.unusedVariables false

set_option maxHeartbeats 2000000 in
set_option maxRecDepth 100000 in
theorem less_pick (w : World) (B : Nat) (a1 : Option Addr) (c1 : Nat) (xs : List Int) (a2 : Option Addr) (c2 : Nat) (ys : List Int) (st : Int → Bool) (hst : StaysSaid 22 B a1 c1 xs a2 c2 ys st)
    (hp : PI w B a1 c1 xs a2 c2 ys (-1)) (h1 : AtB w B a1 xs) (h2 : AtB w B a2 ys) (k1 : xs.length ≤ c1) (k2 : ys.length ≤ c2) (m1 : c1 ≤ maxLen) (m2 : c2 ≤ maxLen) (hB : B + 6 ≤ w.heap.size)
    (hx : Hid (rowB 2147483648 xs = true)) (hy : Hid (rowB 2147483648 ys = true)) :
    Calls Try.prog 19 #[.slice a1 xs.length c1, .slice a2 ys.length c2, .func (.func 22) #[] #[.pointer (some ⟨B + 4, 0, none⟩), .pointer (some ⟨B + 5, 0, none⟩)]] w fun e w' => ∃ v, e = .returned (.tuple #[v, .int .i64 0]) ∧ Own w' (B + 6) v ((uni xs ys).filter st) ∧ Below B w w' := by
  obtain ⟨i0, hi, hz0, hz1, hz2⟩ := info_parts Try.infoInt
  have hlx := rowB_len hx.out
  have hly := rowB_len hy.out
  go_enter Try.func19, Try.ntmps19
  go_wp2_with fail
  refine (rowIs_any a1 c1 xs 2147483648 _ (h1.at (by omega)) (by omega)).mono ?_
  rintro e w' ⟨rfl, rfl⟩
  rw [hx.out]
  go_wp2_with fail
  refine (rowIs_any a2 c2 ys 2147483648 _ (h2.at (by omega)) (by omega)).mono ?_
  rintro e w' ⟨rfl, rfl⟩
  rw [hy.out]
  go_wp2_with fail
  go_loopw [0, 1, 8] (fun v0 v1 v wr => ∃ p1 d1 xs' p2 d2 ys' L m, v0 = .slice p1 xs'.length d1 ∧ v1 = .slice p2 ys'.length d2 ∧ PR w' wr B a1 c1 xs a2 c2 ys st p1 d1 xs' p2 d2 ys' v L m) (fun v0 v1 _ _ => lenSl v0 + lenSl v1)
  case atStart => exact ⟨a1, c1, xs, a2, c2, ys, [], -1, rfl, rfl, ⟨h1, h2, k1, k2, m1, m2, rowB_inc hx.out, rowB_inc hy.out, fun z hz => by have := rowB_bd hx.out z hz; omega, fun z hz => by have := rowB_bd hy.out z hz; omega, hp, own_nil _ _, Below.refl _ _, hB, rfl⟩⟩
  case round =>
    obtain ⟨p1, d1, xs', p2, d2, ys', L, m, rfl, rfl, hr⟩ := hrel
    clear hp h1 h2 k1 k2 m1 m2 hB
    have k1 := hr.k1
    have k2 := hr.k2
    have m1 := hr.m1
    have m2 := hr.m2
    have hsz := hr.hsz
    unfold maxLen at m1 m2
    by_cases hne : xs' = [] ∧ ys' = []
    · obtain ⟨rfl, rfl⟩ := hne
      have hown := hr.own
      have heq := hr.eq
      have hbel := hr.bel
      rw [show uni [] [] = [] from rfl, List.filter_nil, List.append_nil] at heq
      rw [← heq] at hown
      clear heq
      go_wp2
      go_ret2
      exact ⟨_, rfl, hown, hbel⟩
    · have HNE : NE xs' ys' := hne
      by_cases e1 : 0 < xs'.length
      · clear hne
        go_wp2_with fail
        refine (first_any p1 p2 d1 d2 xs' ys' _ HNE (hr.r1.at (by omega)) (hr.r2.at (by omega)) (by unfold maxLen; omega) (by unfold maxLen; omega)).mono ?_
        rintro e w1 ⟨rfl, q, rfl⟩
        go_wp2_with fail
        refine (behind_any p1 d1 B xs' _ _ (atB_drewN hr.r1 q) k1 hr.m1).mono ?_
        rintro e w1 ⟨⟨p1', d1', rfl, s1, s2, s3⟩, rfl⟩
        go_wp2_with fail
        refine (behind_any p2 d2 B ys' _ _ (atB_drewN hr.r2 q) k2 hr.m2).mono ?_
        rintro e w1 ⟨⟨p2', d2', rfl, t1, t2, t3⟩, rfl⟩
        go_wp2_with fail
        refine (hst _ _ ((pi_drewN hr.pi q).mono (fst_ge HNE hr.g1 hr.g2))).mono ?_
        rintro e w2 ⟨rfl, hpi, hkept⟩
        have hlt := rem_lenlt xs' ys' HNE
        have hroom := hr.room
        by_cases hs : st (fst xs' ys') = true
        · have HS : Hid (st (fst xs' ys') = true) := hs
          have hown2 : Own w2 (B + 6) _ L := hr.own.kept (kept_of_drewN hkept) (fun k h => by omega)
          have hsz2 : B + 6 ≤ w2.heap.size := Nat.le_trans hr.hsz hkept.size
          go_wp2_with (at_builtin; refine wpList_append_own _ rfl _ _ 22 rfl (B + 6) 3 i0 (.int .i64 0) 1 8 Try.underlying22 hi hz0 hz1 hz2 rfl (by decide) _ _ _ rfl (World.ownsRow.alloc hown2 _) ⟨w2.heap.size, 0, none⟩ 1 1 [.int .i64 (fst xs' ys')] rfl rfl (cell_one_new _ _ _) (by intro u hu; simp at hu; subst hu; rfl) (by unfold maxLen; omega) (by omega) (by simp; omega) ?_)
          intro v' w3 hown' hgrow _
          have R := hr.keep HNE s1 s2 s3 t1 t2 t3 hpi hkept HS.out hown' hgrow
          clear hown' hgrow hown2 hr hpi hkept s1 t1
          go_wp2
          go_roundw
          case rel => exact ⟨p1', d1', _, p2', d2', _, _, _, rfl, rfl, R⟩
          case measure => simp only [lenSl]; exact hlt
        · have hs : st (fst xs' ys') = false := by simpa using hs
          have R := hr.drop HNE s1 s2 s3 t1 t2 t3 hpi hkept hs
          go_wp2
          go_roundw
          case rel => exact ⟨p1', d1', _, p2', d2', _, _, _, rfl, rfl, R⟩
          case measure => simp only [lenSl]; exact hlt
      · have e0 : xs' = [] := List.eq_nil_of_length_eq_zero (by omega)
        subst e0
        have e2 : 0 < ys'.length := List.length_pos_iff.2 (fun h => hne ⟨rfl, h⟩)
        clear hne e1
        go_wp2_with fail
        refine (first_any p1 p2 d1 d2 [] ys' _ HNE (hr.r1.at (by omega)) (hr.r2.at (by omega)) (by unfold maxLen; omega) (by unfold maxLen; omega)).mono ?_
        rintro e w1 ⟨rfl, q, rfl⟩
        go_wp2_with fail
        refine (behind_any p1 d1 B [] _ _ (atB_drewN hr.r1 q) k1 hr.m1).mono ?_
        rintro e w1 ⟨⟨p1', d1', rfl, s1, s2, s3⟩, rfl⟩
        go_wp2_with fail
        refine (behind_any p2 d2 B ys' _ _ (atB_drewN hr.r2 q) k2 hr.m2).mono ?_
        rintro e w1 ⟨⟨p2', d2', rfl, t1, t2, t3⟩, rfl⟩
        go_wp2_with fail
        refine (hst _ _ ((pi_drewN hr.pi q).mono (fst_ge HNE hr.g1 hr.g2))).mono ?_
        rintro e w2 ⟨rfl, hpi, hkept⟩
        have hlt := rem_lenlt [] ys' HNE
        have hroom := hr.room
        by_cases hs : st (fst [] ys') = true
        · have HS : Hid (st (fst [] ys') = true) := hs
          have hown2 : Own w2 (B + 6) _ L := hr.own.kept (kept_of_drewN hkept) (fun k h => by omega)
          have hsz2 : B + 6 ≤ w2.heap.size := Nat.le_trans hr.hsz hkept.size
          go_wp2_with (at_builtin; refine wpList_append_own _ rfl _ _ 22 rfl (B + 6) 3 i0 (.int .i64 0) 1 8 Try.underlying22 hi hz0 hz1 hz2 rfl (by decide) _ _ _ rfl (World.ownsRow.alloc hown2 _) ⟨w2.heap.size, 0, none⟩ 1 1 [.int .i64 (fst [] ys')] rfl rfl (cell_one_new _ _ _) (by intro u hu; simp at hu; subst hu; rfl) (by unfold maxLen; omega) (by omega) (by simp; omega) ?_)
          intro v' w3 hown' hgrow _
          have R := hr.keep HNE s1 s2 s3 t1 t2 t3 hpi hkept HS.out hown' hgrow
          clear hown' hgrow hown2 hr hpi hkept s1 t1
          go_wp2
          go_roundw
          case rel => exact ⟨p1', d1', _, p2', d2', _, _, _, rfl, rfl, R⟩
          case measure => simp only [lenSl]; exact hlt
        · have hs : st (fst [] ys') = false := by simpa using hs
          have R := hr.drop HNE s1 s2 s3 t1 t2 t3 hpi hkept hs
          go_wp2
          go_roundw
          case rel => exact ⟨p1', d1', _, p2', d2', _, _, _, rfl, rfl, R⟩
          case measure => simp only [lenSl]; exact hlt

end Go.Proofs.Ytppfcbapfbmckaa
namespace Go.Proofs.Ytppfcbapfbmckaa
open Go.RowKit
set_option linter.unusedVariables false

set_option maxHeartbeats 2000000 in
set_option maxRecDepth 100000 in
theorem meet_pick (w : World) (B : Nat) (a1 : Option Addr) (c1 : Nat) (xs : List Int) (a2 : Option Addr) (c2 : Nat) (ys : List Int) (st : Int → Bool) (hst : StaysSaid 21 B a1 c1 xs a2 c2 ys st)
    (hp : PI w B a1 c1 xs a2 c2 ys (-1)) (h1 : AtB w B a1 xs) (h2 : AtB w B a2 ys) (k1 : xs.length ≤ c1) (k2 : ys.length ≤ c2) (m1 : c1 ≤ maxLen) (m2 : c2 ≤ maxLen) (hB : B + 6 ≤ w.heap.size)
    (hx : Hid (rowB 2147483648 xs = true)) (hy : Hid (rowB 2147483648 ys = true)) :
    Calls Try.prog 19 #[.slice a1 xs.length c1, .slice a2 ys.length c2, .func (.func 21) #[] #[.pointer (some ⟨B + 4, 0, none⟩), .pointer (some ⟨B + 5, 0, none⟩)]] w fun e w' => ∃ v, e = .returned (.tuple #[v, .int .i64 0]) ∧ Own w' (B + 6) v ((uni xs ys).filter st) ∧ Below B w w' := by
  obtain ⟨i0, hi, hz0, hz1, hz2⟩ := info_parts Try.infoInt
  have hlx := rowB_len hx.out
  have hly := rowB_len hy.out
  go_enter Try.func19, Try.ntmps19
  go_wp2_with fail
  refine (rowIs_any a1 c1 xs 2147483648 _ (h1.at (by omega)) (by omega)).mono ?_
  rintro e w' ⟨rfl, rfl⟩
  rw [hx.out]
  go_wp2_with fail
  refine (rowIs_any a2 c2 ys 2147483648 _ (h2.at (by omega)) (by omega)).mono ?_
  rintro e w' ⟨rfl, rfl⟩
  rw [hy.out]
  go_wp2_with fail
  go_loopw [0, 1, 8] (fun v0 v1 v wr => ∃ p1 d1 xs' p2 d2 ys' L m, v0 = .slice p1 xs'.length d1 ∧ v1 = .slice p2 ys'.length d2 ∧ PR w' wr B a1 c1 xs a2 c2 ys st p1 d1 xs' p2 d2 ys' v L m) (fun v0 v1 _ _ => lenSl v0 + lenSl v1)
  case atStart => exact ⟨a1, c1, xs, a2, c2, ys, [], -1, rfl, rfl, ⟨h1, h2, k1, k2, m1, m2, rowB_inc hx.out, rowB_inc hy.out, fun z hz => by have := rowB_bd hx.out z hz; omega, fun z hz => by have := rowB_bd hy.out z hz; omega, hp, own_nil _ _, Below.refl _ _, hB, rfl⟩⟩
  case round =>
    obtain ⟨p1, d1, xs', p2, d2, ys', L, m, rfl, rfl, hr⟩ := hrel
    clear hp h1 h2 k1 k2 m1 m2 hB
    have k1 := hr.k1
    have k2 := hr.k2
    have m1 := hr.m1
    have m2 := hr.m2
    have hsz := hr.hsz
    unfold maxLen at m1 m2
    by_cases hne : xs' = [] ∧ ys' = []
    · obtain ⟨rfl, rfl⟩ := hne
      have hown := hr.own
      have heq := hr.eq
      have hbel := hr.bel
      rw [show uni [] [] = [] from rfl, List.filter_nil, List.append_nil] at heq
      rw [← heq] at hown
      clear heq
      go_wp2
      go_ret2
      exact ⟨_, rfl, hown, hbel⟩
    · have HNE : NE xs' ys' := hne
      by_cases e1 : 0 < xs'.length
      · clear hne
        go_wp2_with fail
        refine (first_any p1 p2 d1 d2 xs' ys' _ HNE (hr.r1.at (by omega)) (hr.r2.at (by omega)) (by unfold maxLen; omega) (by unfold maxLen; omega)).mono ?_
        rintro e w1 ⟨rfl, q, rfl⟩
        go_wp2_with fail
        refine (behind_any p1 d1 B xs' _ _ (atB_drewN hr.r1 q) k1 hr.m1).mono ?_
        rintro e w1 ⟨⟨p1', d1', rfl, s1, s2, s3⟩, rfl⟩
        go_wp2_with fail
        refine (behind_any p2 d2 B ys' _ _ (atB_drewN hr.r2 q) k2 hr.m2).mono ?_
        rintro e w1 ⟨⟨p2', d2', rfl, t1, t2, t3⟩, rfl⟩
        go_wp2_with fail
        refine (hst _ _ ((pi_drewN hr.pi q).mono (fst_ge HNE hr.g1 hr.g2))).mono ?_
        rintro e w2 ⟨rfl, hpi, hkept⟩
        have hlt := rem_lenlt xs' ys' HNE
        have hroom := hr.room
        by_cases hs : st (fst xs' ys') = true
        · have HS : Hid (st (fst xs' ys') = true) := hs
          have hown2 : Own w2 (B + 6) _ L := hr.own.kept (kept_of_drewN hkept) (fun k h => by omega)
          have hsz2 : B + 6 ≤ w2.heap.size := Nat.le_trans hr.hsz hkept.size
          go_wp2_with (at_builtin; refine wpList_append_own _ rfl _ _ 22 rfl (B + 6) 3 i0 (.int .i64 0) 1 8 Try.underlying22 hi hz0 hz1 hz2 rfl (by decide) _ _ _ rfl (World.ownsRow.alloc hown2 _) ⟨w2.heap.size, 0, none⟩ 1 1 [.int .i64 (fst xs' ys')] rfl rfl (cell_one_new _ _ _) (by intro u hu; simp at hu; subst hu; rfl) (by unfold maxLen; omega) (by omega) (by simp; omega) ?_)
          intro v' w3 hown' hgrow _
          have R := hr.keep HNE s1 s2 s3 t1 t2 t3 hpi hkept HS.out hown' hgrow
          clear hown' hgrow hown2 hr hpi hkept s1 t1
          go_wp2
          go_roundw
          case rel => exact ⟨p1', d1', _, p2', d2', _, _, _, rfl, rfl, R⟩
          case measure => simp only [lenSl]; exact hlt
        · have hs : st (fst xs' ys') = false := by simpa using hs
          have R := hr.drop HNE s1 s2 s3 t1 t2 t3 hpi hkept hs
          go_wp2
          go_roundw
          case rel => exact ⟨p1', d1', _, p2', d2', _, _, _, rfl, rfl, R⟩
          case measure => simp only [lenSl]; exact hlt
      · have e0 : xs' = [] := List.eq_nil_of_length_eq_zero (by omega)
        subst e0
        have e2 : 0 < ys'.length := List.length_pos_iff.2 (fun h => hne ⟨rfl, h⟩)
        clear hne e1
        go_wp2_with fail
        refine (first_any p1 p2 d1 d2 [] ys' _ HNE (hr.r1.at (by omega)) (hr.r2.at (by omega)) (by unfold maxLen; omega) (by unfold maxLen; omega)).mono ?_
        rintro e w1 ⟨rfl, q, rfl⟩
        go_wp2_with fail
        refine (behind_any p1 d1 B [] _ _ (atB_drewN hr.r1 q) k1 hr.m1).mono ?_
        rintro e w1 ⟨⟨p1', d1', rfl, s1, s2, s3⟩, rfl⟩
        go_wp2_with fail
        refine (behind_any p2 d2 B ys' _ _ (atB_drewN hr.r2 q) k2 hr.m2).mono ?_
        rintro e w1 ⟨⟨p2', d2', rfl, t1, t2, t3⟩, rfl⟩
        go_wp2_with fail
        refine (hst _ _ ((pi_drewN hr.pi q).mono (fst_ge HNE hr.g1 hr.g2))).mono ?_
        rintro e w2 ⟨rfl, hpi, hkept⟩
        have hlt := rem_lenlt [] ys' HNE
        have hroom := hr.room
        by_cases hs : st (fst [] ys') = true
        · have HS : Hid (st (fst [] ys') = true) := hs
          have hown2 : Own w2 (B + 6) _ L := hr.own.kept (kept_of_drewN hkept) (fun k h => by omega)
          have hsz2 : B + 6 ≤ w2.heap.size := Nat.le_trans hr.hsz hkept.size
          go_wp2_with (at_builtin; refine wpList_append_own _ rfl _ _ 22 rfl (B + 6) 3 i0 (.int .i64 0) 1 8 Try.underlying22 hi hz0 hz1 hz2 rfl (by decide) _ _ _ rfl (World.ownsRow.alloc hown2 _) ⟨w2.heap.size, 0, none⟩ 1 1 [.int .i64 (fst [] ys')] rfl rfl (cell_one_new _ _ _) (by intro u hu; simp at hu; subst hu; rfl) (by unfold maxLen; omega) (by omega) (by simp; omega) ?_)
          intro v' w3 hown' hgrow _
          have R := hr.keep HNE s1 s2 s3 t1 t2 t3 hpi hkept HS.out hown' hgrow
          clear hown' hgrow hown2 hr hpi hkept s1 t1
          go_wp2
          go_roundw
          case rel => exact ⟨p1', d1', _, p2', d2', _, _, _, rfl, rfl, R⟩
          case measure => simp only [lenSl]; exact hlt
        · have hs : st (fst [] ys') = false := by simpa using hs
          have R := hr.drop HNE s1 s2 s3 t1 t2 t3 hpi hkept hs
          go_wp2
          go_roundw
          case rel => exact ⟨p1', d1', _, p2', d2', _, _, _, rfl, rfl, R⟩
          case measure => simp only [lenSl]; exact hlt

end Go.Proofs.Ytppfcbapfbmckaa
namespace Go.Proofs.Ytppfcbapfbmckaa
open Go.RowKit
set_option linter.unusedVariables false

theorem getD_cons_succ' (y : Int) (r : List Int) (j : Nat) : (y :: r)[j + 1]?.getD 0 = r[j]?.getD 0 := by simp

theorem ins_put {x : Int} : ∀ {L : List Int} {p : Nat}, p ≤ L.length → (∀ j, j < p → L[j]?.getD 0 < x) → (p = L.length ∨ x < L[p]?.getD 0) → ins x L = L.take p ++ x :: L.drop p
  | [], p, hp, _, _ => by have : p = 0 := by simpa using hp
                          subst this; simp [ins]
  | y :: r, 0, _, _, h => by
    rcases h with h | h
    · simp at h
    · have h : x < y := by simpa using h
      simp only [ins, List.take_zero, List.drop_zero, List.nil_append]
      rw [if_neg (by omega), if_neg (by omega)]
  | y :: r, p + 1, hp, hl, h => by
    have h0 : y < x := by simpa using hl 0 (by omega)
    have := ins_put (x := x) (L := r) (p := p) (by simpa using hp) (fun j hj => by have := hl (j + 1) (by omega); rwa [getD_cons_succ'] at this) (by rcases h with h | h; left; simpa using h; right; rwa [getD_cons_succ'] at h)
    simp only [ins]
    rw [if_pos h0, this]
    simp
theorem ins_same {x : Int} : ∀ {L : List Int} {p : Nat}, p < L.length → (∀ j, j < p → L[j]?.getD 0 < x) → L[p]?.getD 0 = x → ins x L = L
  | [], p, hp, _, _ => by simp at hp
  | y :: r, 0, _, _, h => by
    have h : y = x := by simpa using h
    simp only [ins]
    rw [if_neg (by omega), if_pos h]
  | y :: r, p + 1, hp, hl, h => by
    have h0 : y < x := by simpa using hl 0 (by omega)
    have := ins_same (x := x) (L := r) (p := p) (by simpa using hp) (fun j hj => by have := hl (j + 1) (by omega); rwa [getD_cons_succ'] at this) (by rwa [getD_cons_succ'] at h)
    simp only [ins]
    rw [if_pos h0, this]

/-- The list with one place more, at c. -/
def gap (L : List Int) (c : Nat) (y : Int) : List Int := L.take c ++ y :: L.drop c

theorem gap_len {L : List Int} {c : Nat} {y : Int} (h : c ≤ L.length) : (gap L c y).length = L.length + 1 := by simp [gap]; omega
theorem gap_end (L : List Int) : L ++ [0] = gap L L.length 0 := by simp [gap]
theorem gap_at {L : List Int} {c : Nat} {y : Int} (h : c < L.length) : (gap L (c + 1) y)[c]?.getD 0 = L[c]?.getD 0 := by
  rw [gap, List.getElem?_append_left (by simp; omega), List.getElem?_take_of_lt (by omega)]
theorem gap_set {L : List Int} {c : Nat} {y x : Int} (h : c ≤ L.length) : (gap L c y).set c x = gap L c x := by
  rw [gap, gap, List.set_append_right _ _ (by simp; omega)]
  simp only [List.length_take]
  rw [show c - min c L.length = 0 by omega]; rfl
theorem gap_move {L : List Int} {c : Nat} {y : Int} (h : c < L.length) : (gap L (c + 1) y).set (c + 1) (L[c]?.getD 0) = gap L c (L[c]?.getD 0) := by
  rw [gap_set (by omega), gap, gap, List.take_add_one, List.getElem?_eq_getElem h]
  conv => rhs; rw [List.drop_eq_getElem_cons h]
  simp only [Option.toList_some, Option.getD_some, List.append_assoc, List.singleton_append]

theorem Own.cellAt {w : World} {B g n cap : Nat} {M : List Int} (h : Own w B (.slice (some ⟨g, 0, none⟩) n cap) M) {j : Nat} (hj : j < M.length) : w.cell? ⟨g, j, none⟩ = some (.int .i64 (M[j]?.getD 0)) ∧ w.frozen? ⟨g, j, none⟩ = false ∧ B ≤ g := by
  rcases h.cells_of with ⟨h0, _⟩ | ⟨g', cap', h0, hb, hg, hc, hf⟩
  · simp at h0
  · simp only [Value.slice.injEq, Option.some.injEq, Addr.mk.injEq, and_true] at h0
    obtain ⟨rfl, rfl, rfl⟩ := h0
    have := hc j hj
    rw [Nat.zero_add, List.getD_eq_getElem?_getD] at this
    exact ⟨this, hf j, hb⟩
theorem Own.stored {w : World} {B g n cap : Nat} {M : List Int} (h : Own w B (.slice (some ⟨g, 0, none⟩) n cap) M) (j : Nat) (x : Int) : Own (w.setCell ⟨g, j, none⟩ (.int .i64 x)) B (.slice (some ⟨g, 0, none⟩) n cap) (M.set j x) := by
  have hn : n = M.length := by
    rcases h.2 with ⟨h0, _⟩ | ⟨g', cap', cur, h0, _⟩
    · simp at h0
    · simp only [Value.slice.injEq] at h0; exact h0.2.1
  subst hn
  have := (World.ownsRow.stored h j (.int .i64 x)).1
  unfold Own
  rw [List.length_set, List.map_set]
  exact this
theorem Own.shape {w : World} {B : Nat} {v : Value} {M : List Int} (h : Own w B v M) (hp : 0 < M.length) : ∃ g cap, v = .slice (some ⟨g, 0, none⟩) M.length cap := by
  rcases h.cells_of with ⟨_, h0⟩ | ⟨g', cap', h0, _⟩
  · subst h0; simp at hp
  · exact ⟨g', cap', h0⟩

theorem srt_take {xs : List Int} {k : Nat} {x : Int} (h : k < xs.length) (hx : Hid (x = xs[k]?.getD 0)) : srt (xs.take (k + 1)) = ins x (srt (xs.take k)) := by
  have hx := hx.out
  rw [List.getElem?_eq_getElem h, Option.getD_some] at hx
  rw [List.take_add_one, List.getElem?_eq_getElem h, Option.toList_some, srt_snoc, hx]

set_option maxHeartbeats 2000000 in
set_option maxRecDepth 100000 in
theorem sorted_some (bx ox cx : Nat) (xs : List Int) (w : World) (hl : xs.length ≤ 17592186044416) (hbx : bx < w.heap.size) (hc : Cells w bx ox xs) :
    Calls Try.prog 23 #[.slice (some ⟨bx, ox, none⟩) xs.length cx] w fun e w' => ∃ v, e = .returned v ∧ Own w' w.heap.size v (srt xs) ∧ Below w.heap.size w w' := by
  obtain ⟨i0, hi, hz0, hz1, hz2⟩ := info_parts Try.infoInt
  go_enter Try.func23, Try.ntmps23
  go_wp2
  go_loopw [3, 4] (fun v i wr => ∃ k : Nat, k ≤ xs.length ∧ i = .int .i64 k ∧ Own wr w.heap.size v (srt (xs.take k)) ∧ Below w.heap.size w wr) (fun _ i _ => xs.length - (intOf i).toNat)
  case atStart => exact ⟨0, Nat.zero_le _, rfl, own_nil _ _, Below.refl _ _⟩
  case round =>
    obtain ⟨k, hk, rfl, hown, hbel⟩ := hrel
    by_cases hlt : k < xs.length
    · obtain ⟨x, HX, hcx0⟩ := hc.at hlt
      obtain ⟨wo, hwo⟩ : ∃ wo : World, wo = wr := ⟨_, rfl⟩
      subst hwo
      have hcx : wo.cell? ⟨bx, ox + k, none⟩ = some (.int .i64 x) := (hbel.cell (p := ⟨bx, ox + k, none⟩) hbx).trans hcx0
      have hcx00 := hcx0
      clear hcx0
      have hnext : Hid (srt (xs.take (k + 1)) = ins x (srt (xs.take k))) := srt_take hlt HX
      have hll : (srt (xs.take k)).length ≤ k := Nat.le_trans (srt_len _) (List.length_take_le _ _)
      generalize srt (xs.take k) = L at *
      obtain ⟨a, cap, rfl, hat, hlm⟩ := hown.at
      unfold maxLen at hlm
      go_wp2
      go_loopw [5] (fun i wr' => ∃ p q : Nat, p ≤ L.length ∧ i = .int .i64 p ∧ wr' = wo.drewN q ∧ Hid (∀ j, j < p → L[j]?.getD 0 < x)) (fun i _ => L.length - (intOf i).toNat)
      case atStart => exact ⟨0, 0, Nat.zero_le _, rfl, rfl, fun j hj => by omega⟩
      case round =>
        obtain ⟨p, q, hp, rfl, rfl, hlow⟩ := hrel
        by_cases hpl : p < L.length
        · rcases hat with h0 | ⟨b, off, rfl, hb, hca⟩
          · subst h0; simp at hpl
          · obtain ⟨y, HY, hcy⟩ := hca.at hpl
            by_cases c1 : y < x
            · have d : decide (y < x) = true := by simpa using c1
              go_wp2
              go_quiet (fail)
              go_wp2
              go_roundw
              case rel => exact ⟨p + 1, _, by omega, by go_num, rfl, fun j hj => by
                by_cases e : j = p
                · subst e; have := HY.out; omega
                · exact hlow.out j (by omega)⟩
              case measure => simp [intOf]; omega
            · have d : decide (y < x) = false := by simpa using c1
              go_wp2
              go_quiet (fail)
              go_wp2
              obtain ⟨Q, hQ⟩ : ∃ Q, (wo.drewN q).drewN nq = wo.drewN Q := ⟨_, World.drewN_drewN _ _ _⟩
              rw [hQ]
              clear hQ
              by_cases c2 : y = x
              · have HC : Hid (y = x) := c2
                have d2 : (y == x) = true := by simp [c2]
                clear c2
                have E2 : Hid (srt (xs.take (k + 1)) = L) := by show _ = _; rw [hnext.out]; exact ins_same hpl hlow.out (by rw [← HY.out]; exact HC.out)
                go_quiet (fail)
                go_wp2
                go_roundw
                case rel => exact ⟨k + 1, by omega, by go_num, by rw [E2.out]; exact hown.drewN _, below_drewN hbel _⟩
                case measure => simp [intOf]; omega
              · have d2 : (y == x) = false := by simp [c2]
                go_quiet (fail)
                obtain ⟨Q', hQ'⟩ : ∃ Q', (wo.drewN Q).drewN nq = wo.drewN Q' := ⟨_, World.drewN_drewN _ _ _⟩
                rw [hQ']
                clear hQ'
                have HE : Hid (p = L.length ∨ x < L[p]?.getD 0) := .inr (by have := HY.out; omega)
                obtain ⟨wq, hwq⟩ : ∃ wq : World, wq = wo.drewN Q' := ⟨_, rfl⟩
                have hown0 : Own wq w.heap.size (.slice (some ⟨b, off, none⟩) L.length cap) L := by rw [hwq]; exact hown.drewN Q'
                have hbelo : Below w.heap.size w wq := by rw [hwq]; exact below_drewN hbel _
                have hcxq : wq.cell? ⟨bx, ox + k, none⟩ = some (.int .i64 x) := by rw [hwq]; exact hcx
                rw [← hwq]
                clear hwq hown hbel hcx
                have hszo : w.heap.size ≤ wq.heap.size := hbelo.size
                have hbxq : bx < wq.heap.size := by omega
                go_wp2_with (at_builtin; refine wpList_append_own _ rfl _ _ 22 rfl w.heap.size 3 i0 (.int .i64 0) 1 8 Try.underlying22 hi hz0 hz1 hz2 rfl (by decide) _ _ _ rfl (World.ownsRow.alloc hown0 _) ⟨wq.heap.size, 0, none⟩ 1 1 [.int .i64 0] rfl rfl (cell_one_new _ _ _) (by intro u hu; simp at hu; subst hu; rfl) (by unfold maxLen; omega) (by omega) (by simp; omega) ?_)
                intro v' w1 hown' hgrow _
                obtain ⟨o1, o2, -⟩ := own_snoc hown0 hbelo hszo hown' hgrow
                clear hown' hgrow hown0 hcxq
                obtain ⟨g, cap', rfl⟩ := o1.shape (by simp)
                rw [List.length_append, List.length_singleton] at o1 ⊢
                rw [gap_end] at o1
                go_wp2
                go_loopw [6] (fun i wr' => ∃ (c : Nat) (z : Int), p ≤ c ∧ c ≤ L.length ∧ i = .int .i64 c ∧ Own wr' w.heap.size (.slice (some ⟨g, 0, none⟩) (L.length + 1) cap') (gap L c z) ∧ Below w.heap.size w wr') (fun i _ => (intOf i).toNat)
                case atStart => exact ⟨L.length, 0, hp, Nat.le_refl _, by go_num, o1, o2⟩
                case round =>
                  obtain ⟨c, z, hc1, hc2, rfl, ow, bw⟩ := hrel
                  clear o1 o2
                  by_cases hcp : p < c
                  · obtain ⟨e, rfl⟩ : ∃ e, c = e + 1 := ⟨c - 1, by omega⟩
                    have hgl := gap_len (y := z) hc2
                    obtain ⟨f1, f2, f3⟩ := ow.cellAt (j := e) (by omega)
                    obtain ⟨f4, f5, -⟩ := ow.cellAt (j := e + 1) (by omega)
                    rw [gap_at (by omega)] at f1
                    have ow' := ow.stored (e + 1) (L[e]?.getD 0)
                    rw [gap_move (by omega)] at ow'
                    have bw' := bw.setCell (p := ⟨g, e + 1, none⟩) f3 (.int .i64 (L[e]?.getD 0))
                    generalize L[e]?.getD 0 = u at *
                    generalize (gap L (e + 1) z)[e + 1]?.getD 0 = u' at *
                    clear ow
                    go_wp2
                    go_roundw
                    case rel => exact ⟨e, u, by omega, by omega, by go_num, ow', bw'⟩
                    case measure => simp [intOf]
                  · have hcp' : c = p := by omega
                    subst hcp'
                    have hgl := gap_len (y := z) hc2
                    obtain ⟨f1, f2, f3⟩ := ow.cellAt (j := c) (by omega)
                    have hcx2 : wr.cell? ⟨bx, ox + k, none⟩ = some (.int .i64 x) := (bw.cell (p := ⟨bx, ox + k, none⟩) hbx).trans hcx00
                    have ow' := ow.stored c x
                    rw [gap_set hc2, gap, ← ins_put hc2 hlow.out HE.out, ← hnext.out] at ow'
                    have bw' := bw.setCell (p := ⟨g, c, none⟩) f3 (.int .i64 x)
                    generalize (gap L c z)[c]?.getD 0 = u' at *
                    clear ow
                    go_wp2
                    go_roundw
                    case rel => exact ⟨k + 1, by omega, by go_num, ow', bw'⟩
                    case measure => simp [intOf]; omega
        · go_wp2
          go_quiet (fail)
          go_wp2
          obtain ⟨Q, hQ⟩ : ∃ Q, (wo.drewN q).drewN nq = wo.drewN Q := ⟨_, World.drewN_drewN _ _ _⟩
          rw [hQ]
          clear hQ
          go_quiet (fail)
          obtain ⟨Q', hQ'⟩ : ∃ Q', (wo.drewN Q).drewN nq = wo.drewN Q' := ⟨_, World.drewN_drewN _ _ _⟩
          rw [hQ']
          clear hQ'
          have HE : Hid (p = L.length ∨ x < L[p]?.getD 0) := .inl (by omega)
          obtain ⟨wq, hwq⟩ : ∃ wq : World, wq = wo.drewN Q' := ⟨_, rfl⟩
          have hown0 : Own wq w.heap.size (.slice a L.length cap) L := by rw [hwq]; exact hown.drewN Q'
          have hbelo : Below w.heap.size w wq := by rw [hwq]; exact below_drewN hbel _
          have hcxq : wq.cell? ⟨bx, ox + k, none⟩ = some (.int .i64 x) := by rw [hwq]; exact hcx
          rw [← hwq]
          clear hwq hown hbel hcx hat
          have hszo : w.heap.size ≤ wq.heap.size := hbelo.size
          have hbxq : bx < wq.heap.size := by omega
          go_wp2_with (at_builtin; refine wpList_append_own _ rfl _ _ 22 rfl w.heap.size 3 i0 (.int .i64 0) 1 8 Try.underlying22 hi hz0 hz1 hz2 rfl (by decide) _ _ _ rfl (World.ownsRow.alloc hown0 _) ⟨wq.heap.size, 0, none⟩ 1 1 [.int .i64 0] rfl rfl (cell_one_new _ _ _) (by intro u hu; simp at hu; subst hu; rfl) (by unfold maxLen; omega) (by omega) (by simp; omega) ?_)
          intro v' w1 hown' hgrow _
          obtain ⟨o1, o2, -⟩ := own_snoc hown0 hbelo hszo hown' hgrow
          clear hown' hgrow hown0 hcxq
          obtain ⟨g, cap', rfl⟩ := o1.shape (by simp)
          rw [List.length_append, List.length_singleton] at o1 ⊢
          rw [gap_end] at o1
          go_wp2
          go_loopw [6] (fun i wr' => ∃ (c : Nat) (z : Int), p ≤ c ∧ c ≤ L.length ∧ i = .int .i64 c ∧ Own wr' w.heap.size (.slice (some ⟨g, 0, none⟩) (L.length + 1) cap') (gap L c z) ∧ Below w.heap.size w wr') (fun i _ => (intOf i).toNat)
          case atStart => exact ⟨L.length, 0, hp, Nat.le_refl _, by go_num, o1, o2⟩
          case round =>
            obtain ⟨c, z, hc1, hc2, rfl, ow, bw⟩ := hrel
            clear o1 o2
            by_cases hcp : p < c
            · omega
            · have hcp' : c = p := by omega
              subst hcp'
              have hgl := gap_len (y := z) hc2
              obtain ⟨f1, f2, f3⟩ := ow.cellAt (j := c) (by omega)
              have hcx2 : wr.cell? ⟨bx, ox + k, none⟩ = some (.int .i64 x) := (bw.cell (p := ⟨bx, ox + k, none⟩) hbx).trans hcx00
              have ow' := ow.stored c x
              rw [gap_set hc2, gap, ← ins_put hc2 hlow.out HE.out, ← hnext.out] at ow'
              have bw' := bw.setCell (p := ⟨g, c, none⟩) f3 (.int .i64 x)
              generalize (gap L c z)[c]?.getD 0 = u' at *
              clear ow
              go_wp2
              go_roundw
              case rel => exact ⟨k + 1, by omega, by go_num, ow', bw'⟩
              case measure => simp [intOf]; omega
    · rw [List.take_of_length_le (by omega)] at hown
      go_wp2
      go_ret
      exact ⟨_, rfl, hown, hbel⟩

set_option maxHeartbeats 400000 in
theorem sorted_nil (a : Option Addr) (cx : Nat) (w : World) :
    Calls Try.prog 23 #[.slice a 0 cx] w fun e w' => e = .returned (.slice none 0 0) ∧ w' = w := by
  go_enter Try.func23, Try.ntmps23
  go_wp2
  refine wp_loop_rounds 1 ?_
  rw [rounds_succ]
  go_wp2
  go_ret
  exact ⟨rfl, rfl⟩

theorem sorted_any (a : Option Addr) (cx : Nat) (xs : List Int) (w : World) (hs : At w a xs) (hl : xs.length ≤ 17592186044416) :
    Calls Try.prog 23 #[.slice a xs.length cx] w fun e w' => Gives w (srt xs) e w' := by
  rcases hs with rfl | ⟨b, off, rfl, hb, hc⟩
  · refine (sorted_nil a cx w).mono ?_
    rintro e w' ⟨rfl, rfl⟩
    exact gives_of_own (B := w'.heap.size) (own_nil _ _) (Below.refl _ _)
  · refine (sorted_some b off cx xs w hl hb hc).mono ?_
    rintro e w' ⟨v, rfl, h1, h2⟩
    exact gives_of_own h1 h2

end Go.Proofs.Ytppfcbapfbmckaa
namespace Go.Proofs.Ytppfcbapfbmckaa
open Go.RowKit
set_option linter.unusedVariables false

set_option maxHeartbeats 400000 in
theorem refJoin_any (a1 a2 : Option Addr) (c1 c2 : Nat) (xs ys : List Int) (w : World) (h1 : At w a1 xs) (h2 : At w a2 ys) (n1 : a1 = none → c1 = 0) (n2 : a2 = none → c2 = 0) (l1 : xs.length ≤ 4398046511104) (l2 : ys.length ≤ 4398046511104) :
    Calls Try.prog 13 #[.slice a1 xs.length c1, .slice a2 ys.length c2] w fun e w' => Gives w (srt (xs ++ ys)) e w' := by
  obtain ⟨i0, hi, hz0, hz1, hz2⟩ := info_parts Try.infoInt
  have N1 : Hid (a1 = none → c1 = 0) := n1
  have N2 : Hid (a2 = none → c2 = 0) := n2
  clear n1 n2
  go_enter Try.func13, Try.ntmps13
  have o0 : Own (w.alloc (.cells #[] 3)) w.heap.size (.slice (some ⟨w.heap.size, 0, none⟩) 0 0) [] := own_empty w
  have b0 : Below w.heap.size w (w.alloc (.cells #[] 3)) := (Below.refl _ _).alloc (Nat.le_refl _) _
  have a1' : At (w.alloc (.cells #[] 3)) a1 xs := h1.below b0 (Nat.le_refl _)
  go_wp2_with (at_builtin; refine wpList_append_ints _ rfl (.tmp 6) (.tmp 7) 22 rfl w.heap.size i0 Try.underlying22 hi hz0 hz1 hz2 _ [] rfl o0 a1 c1 xs rfl a1' N1.out (by simp only [List.length_nil]; omega) (by simp) ?_)
  intro v1 w1 o1 b1 z1
  have bb1 : Below w.heap.size w w1 := b0.trans b1
  have a2' : At w1 a2 ys := h2.below bb1 (Nat.le_refl _)
  clear o0 a1' b1 b0
  go_wp2_with (at_builtin; refine wpList_append_ints _ rfl (.tmp 8) (.tmp 9) 22 rfl w.heap.size i0 Try.underlying22 hi hz0 hz1 hz2 _ xs rfl o1 a2 c2 ys rfl a2' N2.out (by omega) z1 ?_)
  intro v2 w2 o2 b2 z2
  have bb2 : Below w.heap.size w w2 := bb1.trans b2
  clear o1 a2' b2 bb1
  obtain ⟨a3, c3, rfl, h3, l3⟩ := o2.at
  clear o2
  have HL : Hid ((xs ++ ys).length ≤ 17592186044416) := by show _ ≤ _; rw [List.length_append]; omega
  generalize hz : xs ++ ys = zs at *
  have HZ : Hid (xs ++ ys = zs) := hz
  clear hz
  go_wp2_with fail
  refine (sorted_any a3 c3 zs _ h3 HL.out).mono ?_
  rintro e w3 ⟨a4, c4, rfl, h4, l4, b4⟩
  have bb3 : Below w.heap.size w w3 := bb2.trans (b4.mono bb2.size)
  go_wp2
  go_ret
  have hz := HZ.out
  subst hz
  exact ⟨a4, c4, rfl, h4, l4, bb3⟩

end Go.Proofs.Ytppfcbapfbmckaa
namespace Go.Proofs.Ytppfcbapfbmckaa
open Go.RowKit
set_option linter.unusedVariables false

set_option maxHeartbeats 1000000 in
theorem join_stays (w : World) (B : Nat) (a1 : Option Addr) (c1 : Nat) (xs : List Int) (a2 : Option Addr) (c2 : Nat) (ys : List Int) (n : Int) (hi : Hid (Inc xs)) (hj : Hid (Inc ys)) (h : PI w B a1 c1 xs a2 c2 ys n) :
    Calls Try.prog 20 #[.int .i64 n, .pointer (some ⟨B + 4, 0, none⟩), .pointer (some ⟨B + 5, 0, none⟩)] w fun e w' => e = .returned (.bool (hasB xs n || hasB ys n)) ∧ PI w' B a1 c1 xs a2 c2 ys n ∧ Kept (fun k => k ≠ B + 1 ∧ k ≠ B + 3) w w' := by
  have hqa := h.qa
  obtain ⟨k1, f1⟩ := h.f1
  by_cases hx : hasB xs n = false
  · have HX : Hid (hasB xs n = false) := hx
    go_enter Try.func20, Try.ntmps20
    go_wp2_with fail
    refine (rowFind_any _ _ _ _ _ _ xs n k1 hi f1).mono ?_
    rintro e w1 ⟨rfl, h1, hk1⟩
    have p1 := h.first h1 hk1
    have hqb := p1.qb
    obtain ⟨k2, f2⟩ := p1.f2
    clear hqa h1
    go_wp2_with fail
    refine (rowFind_any _ _ _ _ _ _ ys n k2 hj f2).mono ?_
    rintro e w2 ⟨rfl, h2, hk2⟩
    have p2 := p1.second h2 hk2
    clear hqb h2
    go_wp2
    go_ret
    exact ⟨ret_bool (by rw [HX.out]; simp), p2, (hk1.mono (fun k h => h.1)).trans (hk2.mono (fun k h => h.2))⟩
  · have hx : hasB xs n = true := by simpa using hx
    have HX : Hid (hasB xs n = true) := hx
    go_enter Try.func20, Try.ntmps20
    go_wp2_with fail
    refine (rowFind_any _ _ _ _ _ _ xs n k1 hi f1).mono ?_
    rintro e w1 ⟨rfl, h1, hk1⟩
    have p1 := h.first h1 hk1
    clear hqa h1
    go_wp2
    go_ret
    exact ⟨ret_bool (by rw [HX.out]; simp), p1, hk1.mono (fun k h => h.1)⟩

end Go.Proofs.Ytppfcbapfbmckaa
namespace Go.Proofs.Ytppfcbapfbmckaa
open Go.RowKit
set_option linter.unusedVariables false

set_option maxHeartbeats 400000 in
theorem pick_no (w : World) (a1 : Option Addr) (c1 : Nat) (xs : List Int) (a2 : Option Addr) (c2 : Nat) (ys : List Int) (f : Value) (h1 : At w a1 xs) (h2 : At w a2 ys) (l1 : xs.length ≤ maxLen) (l2 : ys.length ≤ maxLen)
    (hno : Hid (rowB 2147483648 xs = true ∧ rowB 2147483648 ys = true) → False) :
    Calls Try.prog 19 #[.slice a1 xs.length c1, .slice a2 ys.length c2, f] w fun e w' => e = .returned (.tuple #[.slice none 0 0, .int .i64 2]) ∧ w' = w := by
  have HN : Hid (¬ (rowB 2147483648 xs = true ∧ rowB 2147483648 ys = true)) := hno
  clear hno
  by_cases hx : rowB 2147483648 xs = true
  · have hy : Hid (rowB 2147483648 ys = false) := by show _ = _; rw [← Bool.not_eq_true]; exact fun h => HN.out ⟨hx, h⟩
    have hx : Hid (rowB 2147483648 xs = true) := hx
    go_enter Try.func19, Try.ntmps19
    go_wp2_with fail
    refine (rowIs_any a1 c1 xs 2147483648 _ h1 l1).mono ?_
    rintro e w' ⟨rfl, rfl⟩
    rw [hx.out]
    go_wp2_with fail
    refine (rowIs_any a2 c2 ys 2147483648 _ h2 l2).mono ?_
    rintro e w' ⟨rfl, rfl⟩
    rw [hy.out]
    go_wp2
    go_ret2
    exact ⟨rfl, rfl⟩
  · have hx : Hid (rowB 2147483648 xs = false) := by show _ = _; rw [← Bool.not_eq_true]; exact hx
    go_enter Try.func19, Try.ntmps19
    go_wp2_with fail
    refine (rowIs_any a1 c1 xs 2147483648 _ h1 l1).mono ?_
    rintro e w' ⟨rfl, rfl⟩
    rw [hx.out]
    go_wp2
    go_ret2
    exact ⟨rfl, rfl⟩

/-- The world in which pick is called: two lists, their places, the two closures. -/
abbrev jw (w : World) (a1 : Option Addr) (n1 c1 : Nat) (a2 : Option Addr) (n2 c2 : Nat) : World :=
  (((((w.alloc (.cells #[.slice a1 n1 c1] 22)).alloc (.cells #[.int .i64 0] 3)).alloc (.cells #[.slice a2 n2 c2] 22)).alloc (.cells #[.int .i64 0] 3)).alloc (.cells #[.func (.func 25) #[] #[.pointer (some ⟨w.heap.size + 1, 0, none⟩), .pointer (some ⟨w.heap.size, 0, none⟩)]] 31)).alloc
    (.cells #[.func (.func 25) #[] #[.pointer (some ⟨w.heap.size + 1 + 1 + 1, 0, none⟩), .pointer (some ⟨w.heap.size + 1 + 1, 0, none⟩)]] 31)

theorem jw_below (w : World) (a1 : Option Addr) (n1 c1 : Nat) (a2 : Option Addr) (n2 c2 : Nat) : Below w.heap.size w (jw w a1 n1 c1 a2 n2 c2) :=
  ((((((Below.refl _ _).alloc (Nat.le_refl _) _).alloc (by simp) _).alloc (by simp; omega) _).alloc (by simp; omega) _).alloc (by simp; omega) _).alloc (by simp; omega) _

theorem jw_size (w : World) (a1 : Option Addr) (n1 c1 : Nat) (a2 : Option Addr) (n2 c2 : Nat) : (jw w a1 n1 c1 a2 n2 c2).heap.size = w.heap.size + 6 := by simp [jw]

theorem pi_new (w : World) (a1 : Option Addr) (c1 : Nat) (xs : List Int) (a2 : Option Addr) (c2 : Nat) (ys : List Int) (n : Int) (h1 : At w a1 xs) (h2 : At w a2 ys) (l1 : xs.length ≤ maxLen) (l2 : ys.length ≤ maxLen) : PI (jw w a1 xs.length c1 a2 ys.length c2) w.heap.size a1 c1 xs a2 c2 ys n := by
  have f1 := fi_new w w.heap.size a1 c1 xs n h1.atB (Nat.le_refl _) l1
  have kw : Kept (fun k => k < w.heap.size) w ((w.alloc (.cells #[.slice a1 xs.length c1] 22)).alloc (.cells #[.int .i64 0] 3)) := (kept_alloc w _ (fun _ h => h)).trans (kept_alloc _ _ (fun k h => by simp; omega))
  have f2 := fi_new _ w.heap.size a2 c2 ys n (h2.atB.kept kw (fun _ h => h)) (by simp; omega) l2
  refine ⟨⟨0, f1.kept (K := fun k => k < w.heap.size + 2) ?_ (by omega) (by omega) (fun k h => by omega)⟩, ⟨0, ?_⟩, ?_, ?_⟩
  · exact (((kept_alloc _ _ (fun k h => by simp; omega)).trans (kept_alloc _ _ (fun k h => by simp; omega))).trans (kept_alloc _ _ (fun k h => by simp; omega))).trans (kept_alloc _ _ (fun k h => by simp; omega))
  · have f2' := f2.kept (K := fun k => k < w.heap.size + 4) ((kept_alloc _ (.cells #[.func (.func 25) #[] #[.pointer (some ⟨w.heap.size + 1, 0, none⟩), .pointer (some ⟨w.heap.size, 0, none⟩)]] 31) (fun k h => by simp; omega)).trans (kept_alloc _ (.cells #[.func (.func 25) #[] #[.pointer (some ⟨w.heap.size + 1 + 1 + 1, 0, none⟩), .pointer (some ⟨w.heap.size + 1 + 1, 0, none⟩)]] 31) (fun k h => by simp; omega))) (by simp) (by simp) (fun k h => by omega)
    simpa using f2'
  · rw [World.cell?_alloc_past _ _ _ (by simp), World.cell?_alloc_at _ _ _ _ (by simp)]; rfl
  · rw [World.cell?_alloc_at _ _ _ _ (by simp)]; rfl

theorem join_at (w : World) (a1 : Option Addr) (c1 : Nat) (xs : List Int) (a2 : Option Addr) (c2 : Nat) (ys : List Int) (h1 : At w a1 xs) (h2 : At w a2 ys) (k1 : xs.length ≤ c1) (k2 : ys.length ≤ c2) (m1 : c1 ≤ maxLen) (m2 : c2 ≤ maxLen) (hx : Hid (rowB 2147483648 xs = true)) (hy : Hid (rowB 2147483648 ys = true)) :
    Calls Try.prog 19 #[.slice a1 xs.length c1, .slice a2 ys.length c2, .func (.func 20) #[] #[.pointer (some ⟨w.heap.size + 1 + 1 + 1 + 1, 0, none⟩), .pointer (some ⟨w.heap.size + 1 + 1 + 1 + 1 + 1, 0, none⟩)]] (jw w a1 xs.length c1 a2 ys.length c2) fun e w' => ∃ v, e = .returned (.tuple #[v, .int .i64 0]) ∧ Own w' (w.heap.size + 6) v ((uni xs ys).filter fun n => hasB xs n || hasB ys n) ∧ Below w.heap.size (jw w a1 xs.length c1 a2 ys.length c2) w' :=
  join_pick (jw w a1 xs.length c1 a2 ys.length c2) w.heap.size a1 c1 xs a2 c2 ys (fun n => hasB xs n || hasB ys n) (fun w n h => join_stays w _ a1 c1 xs a2 c2 ys n (rowB_inc hx.out) (rowB_inc hy.out) h) (pi_new w a1 c1 xs a2 c2 ys (-1) h1 h2 (by omega) (by omega))
    (h1.atB.kept (K := fun k => k < w.heap.size) ⟨(jw_below w a1 xs.length c1 a2 ys.length c2).os, (jw_below w a1 xs.length c1 a2 ys.length c2).tape, (jw_below w a1 xs.length c1 a2 ys.length c2).output, (jw_below w a1 xs.length c1 a2 ys.length c2).size, (jw_below w a1 xs.length c1 a2 ys.length c2).block⟩ (fun _ h => h))
    (h2.atB.kept (K := fun k => k < w.heap.size) ⟨(jw_below w a1 xs.length c1 a2 ys.length c2).os, (jw_below w a1 xs.length c1 a2 ys.length c2).tape, (jw_below w a1 xs.length c1 a2 ys.length c2).output, (jw_below w a1 xs.length c1 a2 ys.length c2).size, (jw_below w a1 xs.length c1 a2 ys.length c2).block⟩ (fun _ h => h))
    k1 k2 m1 m2 (by rw [jw_size]; exact Nat.le_refl _) hx hy

set_option maxHeartbeats 400000 in
theorem join_yes (w : World) (a1 : Option Addr) (c1 : Nat) (xs : List Int) (a2 : Option Addr) (c2 : Nat) (ys : List Int) (h1 : At w a1 xs) (h2 : At w a2 ys) (k1 : xs.length ≤ c1) (k2 : ys.length ≤ c2) (m1 : c1 ≤ maxLen) (m2 : c2 ≤ maxLen) (hx : Hid (rowB 2147483648 xs = true)) (hy : Hid (rowB 2147483648 ys = true)) :
    Calls Try.prog 10 #[.slice a1 xs.length c1, .slice a2 ys.length c2] w fun e w' => ∃ v, e = .returned (.tuple #[v, .int .i64 0]) ∧ Own w' (w.heap.size + 6) v ((uni xs ys).filter fun n => hasB xs n || hasB ys n) ∧ Below w.heap.size w w' := by
  have hmf : ∀ (fn : Fn) (first cap : Array Value) (w : World), (Instr.makeFunc fn first cap).run Try.prog w = .ok (.func fn first cap) w := fun _ _ _ _ => rfl
  go_enter Try.func10, Try.ntmps10
  go_wp2_with fail
  refine (finder_any a1 c1 xs _).mono ?_
  rintro e w1 ⟨rfl, rfl⟩
  go_wp2_with fail
  refine (finder_any a2 c2 ys _).mono ?_
  rintro e w1 ⟨rfl, rfl⟩
  go_wp2_with fail
  refine (join_at w a1 c1 xs a2 c2 ys h1 h2 k1 k2 m1 m2 hx hy).mono ?_
  rintro e w1 ⟨v, rfl, hown, hbel⟩
  go_wp2
  go_ret2
  exact ⟨v, rfl, hown, (jw_below w a1 xs.length c1 a2 ys.length c2).trans hbel⟩

set_option maxHeartbeats 400000 in
theorem join_no (w : World) (a1 : Option Addr) (c1 : Nat) (xs : List Int) (a2 : Option Addr) (c2 : Nat) (ys : List Int) (h1 : At w a1 xs) (h2 : At w a2 ys) (l1 : xs.length ≤ maxLen) (l2 : ys.length ≤ maxLen) (hno : Hid (rowB 2147483648 xs = true ∧ rowB 2147483648 ys = true) → False) :
    Calls Try.prog 10 #[.slice a1 xs.length c1, .slice a2 ys.length c2] w fun e w' => e = .returned (.tuple #[.slice none 0 0, .int .i64 2]) ∧ Below w.heap.size w w' := by
  have hmf : ∀ (fn : Fn) (first cap : Array Value) (w : World), (Instr.makeFunc fn first cap).run Try.prog w = .ok (.func fn first cap) w := fun _ _ _ _ => rfl
  have HNO : Hid (¬ (rowB 2147483648 xs = true ∧ rowB 2147483648 ys = true)) := hno
  clear hno
  go_enter Try.func10, Try.ntmps10
  go_wp2_with fail
  refine (finder_any a1 c1 xs _).mono ?_
  rintro e w1 ⟨rfl, rfl⟩
  go_wp2_with fail
  refine (finder_any a2 c2 ys _).mono ?_
  rintro e w1 ⟨rfl, rfl⟩
  go_wp2_with fail
  refine (pick_no (jw w a1 xs.length c1 a2 ys.length c2) a1 c1 xs a2 c2 ys _ (h1.below (jw_below w a1 xs.length c1 a2 ys.length c2) (Nat.le_refl _)) (h2.below (jw_below w a1 xs.length c1 a2 ys.length c2) (Nat.le_refl _)) l1 l2 HNO.out).mono ?_
  rintro e w1 ⟨rfl, rfl⟩
  go_wp2
  go_ret2
  exact ⟨rfl, jw_below w a1 xs.length c1 a2 ys.length c2⟩

end Go.Proofs.Ytppfcbapfbmckaa
namespace Go.Proofs.Ytppfcbapfbmckaa
open Go.RowKit
set_option linter.unusedVariables false

set_option maxHeartbeats 1000000 in
theorem meet_stays (w : World) (B : Nat) (a1 : Option Addr) (c1 : Nat) (xs : List Int) (a2 : Option Addr) (c2 : Nat) (ys : List Int) (n : Int) (hi : Hid (Inc xs)) (hj : Hid (Inc ys)) (h : PI w B a1 c1 xs a2 c2 ys n) :
    Calls Try.prog 21 #[.int .i64 n, .pointer (some ⟨B + 4, 0, none⟩), .pointer (some ⟨B + 5, 0, none⟩)] w fun e w' => e = .returned (.bool (hasB xs n && hasB ys n)) ∧ PI w' B a1 c1 xs a2 c2 ys n ∧ Kept (fun k => k ≠ B + 1 ∧ k ≠ B + 3) w w' := by
  have hqa := h.qa
  obtain ⟨k1, f1⟩ := h.f1
  by_cases hx : hasB xs n = true
  · have HX : Hid (hasB xs n = true) := hx
    go_enter Try.func21, Try.ntmps21
    go_wp2_with fail
    refine (rowFind_any _ _ _ _ _ _ xs n k1 hi f1).mono ?_
    rintro e w1 ⟨rfl, h1, hk1⟩
    have p1 := h.first h1 hk1
    have hqb := p1.qb
    obtain ⟨k2, f2⟩ := p1.f2
    clear hqa h1
    go_wp2_with fail
    refine (rowFind_any _ _ _ _ _ _ ys n k2 hj f2).mono ?_
    rintro e w2 ⟨rfl, h2, hk2⟩
    have p2 := p1.second h2 hk2
    clear hqb h2
    go_wp2
    go_ret
    exact ⟨ret_bool (by rw [HX.out]; simp), p2, (hk1.mono (fun k h => h.1)).trans (hk2.mono (fun k h => h.2))⟩
  · have hx : hasB xs n = false := by simpa using hx
    have HX : Hid (hasB xs n = false) := hx
    go_enter Try.func21, Try.ntmps21
    go_wp2_with fail
    refine (rowFind_any _ _ _ _ _ _ xs n k1 hi f1).mono ?_
    rintro e w1 ⟨rfl, h1, hk1⟩
    have p1 := h.first h1 hk1
    clear hqa h1
    go_wp2
    go_ret
    exact ⟨ret_bool (by rw [HX.out]; simp), p1, hk1.mono (fun k h => h.1)⟩

set_option maxHeartbeats 1000000 in
theorem less_stays (w : World) (B : Nat) (a1 : Option Addr) (c1 : Nat) (xs : List Int) (a2 : Option Addr) (c2 : Nat) (ys : List Int) (n : Int) (hi : Hid (Inc xs)) (hj : Hid (Inc ys)) (h : PI w B a1 c1 xs a2 c2 ys n) :
    Calls Try.prog 22 #[.int .i64 n, .pointer (some ⟨B + 4, 0, none⟩), .pointer (some ⟨B + 5, 0, none⟩)] w fun e w' => e = .returned (.bool (hasB xs n && !hasB ys n)) ∧ PI w' B a1 c1 xs a2 c2 ys n ∧ Kept (fun k => k ≠ B + 1 ∧ k ≠ B + 3) w w' := by
  have hqa := h.qa
  obtain ⟨k1, f1⟩ := h.f1
  by_cases hx : hasB xs n = true
  · have HX : Hid (hasB xs n = true) := hx
    go_enter Try.func22, Try.ntmps22
    go_wp2_with fail
    refine (rowFind_any _ _ _ _ _ _ xs n k1 hi f1).mono ?_
    rintro e w1 ⟨rfl, h1, hk1⟩
    have p1 := h.first h1 hk1
    have hqb := p1.qb
    obtain ⟨k2, f2⟩ := p1.f2
    clear hqa h1
    go_wp2_with fail
    refine (rowFind_any _ _ _ _ _ _ ys n k2 hj f2).mono ?_
    rintro e w2 ⟨rfl, h2, hk2⟩
    have p2 := p1.second h2 hk2
    clear hqb h2
    go_wp2
    go_ret
    exact ⟨ret_bool (by rw [HX.out]; simp), p2, (hk1.mono (fun k h => h.1)).trans (hk2.mono (fun k h => h.2))⟩
  · have hx : hasB xs n = false := by simpa using hx
    have HX : Hid (hasB xs n = false) := hx
    go_enter Try.func22, Try.ntmps22
    go_wp2_with fail
    refine (rowFind_any _ _ _ _ _ _ xs n k1 hi f1).mono ?_
    rintro e w1 ⟨rfl, h1, hk1⟩
    have p1 := h.first h1 hk1
    clear hqa h1
    go_wp2
    go_ret
    exact ⟨ret_bool (by rw [HX.out]; simp), p1, hk1.mono (fun k h => h.1)⟩

end Go.Proofs.Ytppfcbapfbmckaa
