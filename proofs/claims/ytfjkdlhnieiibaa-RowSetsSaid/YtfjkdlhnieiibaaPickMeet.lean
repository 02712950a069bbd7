/-
  The walk of row.pick with the closure of row.Meet: the numbers of two rows of which it says that they stay.
-/
import Derived.Test.YtfjkdlhnieiibaaPick
namespace Go.Proofs.Ytfjkdlhnieiibaa
open Go.RowKit
set_option linter.unusedVariables false

set_option maxHeartbeats 2000000 in
set_option maxRecDepth 100000 in
theorem meet_pick (w : World) (B : Nat) (a1 : Option Addr) (c1 : Nat) (xs : List Int) (a2 : Option Addr) (c2 : Nat) (ys : List Int) (st : Int → Bool) (hst : StaysSaid 21 B a1 c1 xs a2 c2 ys st)
    (hp : PI w B a1 c1 xs a2 c2 ys (-1)) (h1 : AtB w B a1 xs) (h2 : AtB w B a2 ys) (k1 : xs.length ≤ c1) (k2 : ys.length ≤ c2) (m1 : c1 ≤ maxLen) (m2 : c2 ≤ maxLen) (hB : B + 6 ≤ w.heap.size)
    (hx : Hid (rowB 2147483648 xs = true)) (hy : Hid (rowB 2147483648 ys = true)) :
    Calls Try.prog 19 #[.slice a1 xs.length c1, .slice a2 ys.length c2, .func (.func 21) #[] #[.pointer (some ⟨B + 4, 0, none⟩), .pointer (some ⟨B + 5, 0, none⟩)]] w fun e w' => ∃ v, e = .returned (.tuple #[v, .int .i64 0]) ∧ Own w' (B + 6) v ((uni xs ys).filter st) ∧ Below B w w' := by
  obtain ⟨i0, hi, hz0, hz1, hz2⟩ := info_parts Try.infoInt
  have hlx := rowB_len hx.out
  have hly := rowB_len hy.out
  go_enter Try.func19, Try.ntmps19
  go_wp2_with fail
  refine (rowIs_any a1 c1 xs 2147483648 _ (h1.at (by omega)) (by omega)).mono ?_
  rintro e w' ⟨rfl, rfl⟩
  rw [hx.out]
  go_wp2_with fail
  refine (rowIs_any a2 c2 ys 2147483648 _ (h2.at (by omega)) (by omega)).mono ?_
  rintro e w' ⟨rfl, rfl⟩
  rw [hy.out]
  go_wp2_with fail
  go_loopw [0, 1, 8] (fun v0 v1 v wr => ∃ p1 d1 xs' p2 d2 ys' L m, v0 = .slice p1 xs'.length d1 ∧ v1 = .slice p2 ys'.length d2 ∧ PR w' wr B a1 c1 xs a2 c2 ys st p1 d1 xs' p2 d2 ys' v L m) (fun v0 v1 _ _ => lenSl v0 + lenSl v1)
  case atStart => exact ⟨a1, c1, xs, a2, c2, ys, [], -1, rfl, rfl, ⟨h1, h2, k1, k2, m1, m2, rowB_inc hx.out, rowB_inc hy.out, fun z hz => by have := rowB_bd hx.out z hz; omega, fun z hz => by have := rowB_bd hy.out z hz; omega, hp, own_nil _ _, Below.refl _ _, hB, rfl⟩⟩
  case round =>
    obtain ⟨p1, d1, xs', p2, d2, ys', L, m, rfl, rfl, hr⟩ := hrel
    clear hp h1 h2 k1 k2 m1 m2 hB
    have k1 := hr.k1
    have k2 := hr.k2
    have m1 := hr.m1
    have m2 := hr.m2
    have hsz := hr.hsz
    unfold maxLen at m1 m2
    by_cases hne : xs' = [] ∧ ys' = []
    · obtain ⟨rfl, rfl⟩ := hne
      have hown := hr.own
      have heq := hr.eq
      have hbel := hr.bel
      rw [show uni [] [] = [] from rfl, List.filter_nil, List.append_nil] at heq
      rw [← heq] at hown
      clear heq
      go_wp2
      go_ret2
      exact ⟨_, rfl, hown, hbel⟩
    · have HNE : NE xs' ys' := hne
      by_cases e1 : 0 < xs'.length
      · clear hne
        go_wp2_with fail
        refine (first_any p1 p2 d1 d2 xs' ys' _ HNE (hr.r1.at (by omega)) (hr.r2.at (by omega)) (by unfold maxLen; omega) (by unfold maxLen; omega)).mono ?_
        rintro e w1 ⟨rfl, q, rfl⟩
        go_wp2_with fail
        refine (behind_any p1 d1 B xs' _ _ (atB_drewN hr.r1 q) k1 hr.m1).mono ?_
        rintro e w1 ⟨⟨p1', d1', rfl, s1, s2, s3⟩, rfl⟩
        go_wp2_with fail
        refine (behind_any p2 d2 B ys' _ _ (atB_drewN hr.r2 q) k2 hr.m2).mono ?_
        rintro e w1 ⟨⟨p2', d2', rfl, t1, t2, t3⟩, rfl⟩
        go_wp2_with fail
        refine (hst _ _ ((pi_drewN hr.pi q).mono (fst_ge HNE hr.g1 hr.g2))).mono ?_
        rintro e w2 ⟨rfl, hpi, hkept⟩
        have hlt := rem_lenlt xs' ys' HNE
        have hroom := hr.room
        by_cases hs : st (fst xs' ys') = true
        · have HS : Hid (st (fst xs' ys') = true) := hs
          have hown2 : Own w2 (B + 6) _ L := hr.own.kept (kept_of_drewN hkept) (fun k h => by omega)
          have hsz2 : B + 6 ≤ w2.heap.size := Nat.le_trans hr.hsz hkept.size
          go_wp2_with (at_builtin; refine wpList_append_own _ rfl _ _ 22 rfl (B + 6) 3 i0 (.int .i64 0) 1 8 Try.underlying22 hi hz0 hz1 hz2 rfl (by decide) _ _ _ rfl (World.ownsRow.alloc hown2 _) ⟨w2.heap.size, 0, none⟩ 1 1 [.int .i64 (fst xs' ys')] rfl rfl (cell_one_new _ _ _) (by intro u hu; simp at hu; subst hu; rfl) (by unfold maxLen; omega) (by omega) (by simp; omega) ?_)
          intro v' w3 hown' hgrow _
          have R := hr.keep HNE s1 s2 s3 t1 t2 t3 hpi hkept HS.out hown' hgrow
          clear hown' hgrow hown2 hr hpi hkept s1 t1
          go_wp2
          go_roundw
          case rel => exact ⟨p1', d1', _, p2', d2', _, _, _, rfl, rfl, R⟩
          case measure => simp only [lenSl]; exact hlt
        · have hs : st (fst xs' ys') = false := by simpa using hs
          have R := hr.drop HNE s1 s2 s3 t1 t2 t3 hpi hkept hs
          go_wp2
          go_roundw
          case rel => exact ⟨p1', d1', _, p2', d2', _, _, _, rfl, rfl, R⟩
          case measure => simp only [lenSl]; exact hlt
      · have e0 : xs' = [] := List.eq_nil_of_length_eq_zero (by omega)
        subst e0
        have e2 : 0 < ys'.length := List.length_pos_iff.2 (fun h => hne ⟨rfl, h⟩)
        clear hne e1
        go_wp2_with fail
        refine (first_any p1 p2 d1 d2 [] ys' _ HNE (hr.r1.at (by omega)) (hr.r2.at (by omega)) (by unfold maxLen; omega) (by unfold maxLen; omega)).mono ?_
        rintro e w1 ⟨rfl, q, rfl⟩
        go_wp2_with fail
        refine (behind_any p1 d1 B [] _ _ (atB_drewN hr.r1 q) k1 hr.m1).mono ?_
        rintro e w1 ⟨⟨p1', d1', rfl, s1, s2, s3⟩, rfl⟩
        go_wp2_with fail
        refine (behind_any p2 d2 B ys' _ _ (atB_drewN hr.r2 q) k2 hr.m2).mono ?_
        rintro e w1 ⟨⟨p2', d2', rfl, t1, t2, t3⟩, rfl⟩
        go_wp2_with fail
        refine (hst _ _ ((pi_drewN hr.pi q).mono (fst_ge HNE hr.g1 hr.g2))).mono ?_
        rintro e w2 ⟨rfl, hpi, hkept⟩
        have hlt := rem_lenlt [] ys' HNE
        have hroom := hr.room
        by_cases hs : st (fst [] ys') = true
        · have HS : Hid (st (fst [] ys') = true) := hs
          have hown2 : Own w2 (B + 6) _ L := hr.own.kept (kept_of_drewN hkept) (fun k h => by omega)
          have hsz2 : B + 6 ≤ w2.heap.size := Nat.le_trans hr.hsz hkept.size
          go_wp2_with (at_builtin; refine wpList_append_own _ rfl _ _ 22 rfl (B + 6) 3 i0 (.int .i64 0) 1 8 Try.underlying22 hi hz0 hz1 hz2 rfl (by decide) _ _ _ rfl (World.ownsRow.alloc hown2 _) ⟨w2.heap.size, 0, none⟩ 1 1 [.int .i64 (fst [] ys')] rfl rfl (cell_one_new _ _ _) (by intro u hu; simp at hu; subst hu; rfl) (by unfold maxLen; omega) (by omega) (by simp; omega) ?_)
          intro v' w3 hown' hgrow _
          have R := hr.keep HNE s1 s2 s3 t1 t2 t3 hpi hkept HS.out hown' hgrow
          clear hown' hgrow hown2 hr hpi hkept s1 t1
          go_wp2
          go_roundw
          case rel => exact ⟨p1', d1', _, p2', d2', _, _, _, rfl, rfl, R⟩
          case measure => simp only [lenSl]; exact hlt
        · have hs : st (fst [] ys') = false := by simpa using hs
          have R := hr.drop HNE s1 s2 s3 t1 t2 t3 hpi hkept hs
          go_wp2
          go_roundw
          case rel => exact ⟨p1', d1', _, p2', d2', _, _, _, rfl, rfl, R⟩
          case measure => simp only [lenSl]; exact hlt

end Go.Proofs.Ytfjkdlhnieiibaa
