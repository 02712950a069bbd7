/-
  What is said on the way through jalousieref4.Beside, where the machine is laid out.
  What both walks of package beside leave.
  The walk of row.pick: the numbers of two rows of which a closure says that they stay; and its answer where one is no row.
  The walk of row.pick with the closure of row.Join: the numbers of two rows of which it says that they stay.
  Plain: what package beside makes of pairs and arrows on its way, held against what the chapter says. No program, no model.
  What is said of package beside's finder in a world: its block, its rows, its map; what a call turns of it; the map's look-up and its store.
  What a call turns of a world ('Turn'); what is said of package beside's finder ('FD').
-/
import Derived.Test.YtbdkaobbfmgnhaaDoorG37
import Derived.Test.YtbdkaobbfmgnhaaDoorG19
import Derived.Test.YtbdkaobbfmgnhaaDoorG08
import Derived.Test.YtbdkaobbfmgnhaaDoorG15
import Derived.DeepKeys4
import Derived.Maps.Keyed
import Derived.Deep.RegionHeld3
import Derived.Test.YtbdkaobbfmgnhaaDoorG06
namespace Go.Proofs.YtbdkaobbfmgnhaaDoor
open Go.RowKit
set_option linter.unusedVariables false

theorem InnB.kp {Y W : World} {v : Value} {xs : List Int} {b : Nat} {t : TypeId} {cs : Array Value} (h : InnB Y v xs) (hk : Kp b Y W) (hB : Blk Y b t cs) (ht : t ≠ 3) : InnB W v xs :=
  h.kept fun g cs' hg => hk.same g (Array.getElem?_eq_some_iff.1 hg).1 (by
    rintro rfl
    rw [show Y.heap[g]? = _ from hB] at hg; cases hg; exact ht rfl)
theorem Own2.kp {Y W : World} {B b : Nat} {v : Value} {LL : List (List Int)} {t : TypeId} {cs : Array Value} (h : Own2 Y B v LL) (hk : Kp b Y W) (hB : Blk Y b t cs) (ht : t ≠ 3) (ht2 : t ≠ 22) : Own2 W B v LL := by
  obtain ⟨vs, ho, hi⟩ := h
  refine ⟨vs, ⟨ho.1, ?_⟩, fun j x xs h1 h2 => (hi j x xs h1 h2).kp hk hB ht⟩
  rcases ho.2 with hn | ⟨g, cap, cur, rfl, hg, hgg, rest⟩
  · exact .inl hn
  · refine .inr ⟨g, cap, cur, rfl, hg, (hk.same g (Array.getElem?_eq_some_iff.1 hgg).1 ?_).trans hgg, rest⟩
    rintro rfl
    rw [show Y.heap[g]? = _ from hB] at hgg; cases hgg; exact ht2 rfl
theorem Kp.set5 {b : Nat} {W : World} (v0 v1 v2 v3 v4 : Value) : Kp b W (((((W.setCell ⟨b, 0, none⟩ v0).setCell ⟨b, 1, none⟩ v1).setCell ⟨b, 2, none⟩ v2).setCell ⟨b, 3, none⟩ v3).setCell ⟨b, 4, none⟩ v4) :=
  (((((Kp.refl b W).set 0 v0).set 1 v1).set 2 v2).set 3 v3).set 4 v4
theorem endsP_succ {a b : Mach} {L : List (Int × Int)} {n : Nat} {p : Int × Int} (hp : Hid (L[n]? = some p)) : endsP a b L (n + 1) = if (hasB a.ends p.1 && hasB b.ends p.2) = true then endsP a b L n ++ [(n : Int)] else endsP a b L n := by
  unfold endsP
  rw [rngI_succ, List.filter_append]
  have e : (L[((n : Int)).toNat]?.getD (0, 0)) = p := by rw [Int.toNat_natCast, hp.out]; rfl
  by_cases c : (hasB a.ends p.1 && hasB b.ends p.2) = true
  · rw [if_pos c]
    congr 1
    simp only [List.filter_cons, e, c, if_true, List.filter_nil]
  · rw [if_neg c]
    simp only [List.filter_cons, e, c, Bool.false_eq_true, if_false, List.filter_nil, List.append_nil]
theorem endsP_len (a b : Mach) (L : List (Int × Int)) (n : Nat) : (endsP a b L n).length ≤ n := by
  unfold endsP
  exact Nat.le_trans (List.length_filter_le _ _) (by rw [rngI_len]; exact Nat.le_refl _)

end Go.Proofs.YtbdkaobbfmgnhaaDoor
namespace Go.Proofs.YtbdkaobbfmgnhaaDoor
open Go.RowKit
set_option linter.unusedVariables false

/-- What Beside leaves where something is wrong. -/
def BesErr (c : Int) (w : World) (e : Ending) (w' : World) : Prop := e = .returned (.tuple #[mval m0 ml0, .slice none 0 0, .int .i64 c]) ∧ Below w.heap.size w w'

/-- What Beside leaves where nothing is wrong with what comes in. -/
def BesGives (w : World) (a b : Mach) (ofA ofB : List Int) (e : Ending) (w' : World) : Prop :=
  match besideS a b ofA ofB with
  | none => BesErr 1 w e w'
  | some s => ∃ L v, e = .returned (.tuple #[mval (besideM a b s) L, v, .int .i64 0]) ∧ MAt w' (besideM a b s) L ∧ Own2 w' w.heap.size v (prs s.ps) ∧ Below w.heap.size w w'
/-- What Beside leaves: the code of what is wrong, or the machine of both and its pairs. -/
def BesAll (w : World) (a b : Mach) (ofA ofB : List Int) (e : Ending) (w' : World) : Prop :=
  if mayB a = false ∨ mayB b = false then BesErr 2 w e w'
  else if ¬ a.ev = b.ev then BesErr 3 w e w'
  else if rowB a.ev ofA = false ∨ rowB a.ev ofB = false then BesErr 2 w e w'
  else BesGives w a b ofA ofB e w'

end Go.Proofs.YtbdkaobbfmgnhaaDoor
namespace Go.Proofs.YtbdkaobbfmgnhaaDoor
open Go.RowKit
set_option linter.unusedVariables false

theorem AtB.at {w : World} {B : Nat} {a : Option Addr} {xs : List Int} (h : AtB w B a xs) (hB : B ≤ w.heap.size) : At w a xs := by
  rcases h with h | ⟨b, off, rfl, hlt, hc⟩
  · exact .inl h
  · exact .inr ⟨b, off, rfl, by omega, hc⟩

/-- Not both are empty. -/
def NE (xs ys : List Int) : Prop := ¬ (xs = [] ∧ ys = [])

/-- What a closure that says whether a number stays is good for. -/
def StaysSaid (F B : Nat) (a1 : Option Addr) (c1 : Nat) (xs : List Int) (a2 : Option Addr) (c2 : Nat) (ys : List Int) (st : Int → Bool) : Prop :=
  ∀ (w : World) (n : Int), PI w B a1 c1 xs a2 c2 ys n → Calls Tryd.prog F #[.int .i64 n, .pointer (some ⟨B + 4, 0, none⟩), .pointer (some ⟨B + 5, 0, none⟩)] w fun e w' => e = .returned (.bool (st n)) ∧ PI w' B a1 c1 xs a2 c2 ys n ∧ Kept (fun k => k ≠ B + 1 ∧ k ≠ B + 3) w w'

/-- What holds at the head of each round of pick. -/
structure PR (w wr : World) (B : Nat) (a1 : Option Addr) (c1 : Nat) (xs : List Int) (a2 : Option Addr) (c2 : Nat) (ys : List Int) (st : Int → Bool) (p1 : Option Addr) (d1 : Nat) (xs' : List Int) (p2 : Option Addr) (d2 : Nat) (ys' : List Int) (v : Value) (L : List Int) (m : Int) : Prop where
  r1 : AtB wr B p1 xs'
  r2 : AtB wr B p2 ys'
  k1 : xs'.length ≤ d1
  k2 : ys'.length ≤ d2
  m1 : d1 ≤ maxLen
  m2 : d2 ≤ maxLen
  i1 : Inc xs'
  i2 : Inc ys'
  g1 : ∀ z ∈ xs', m ≤ z
  g2 : ∀ z ∈ ys', m ≤ z
  pi : PI wr B a1 c1 xs a2 c2 ys m
  own : Own wr (B + 6) v L
  bel : Below B w wr
  hsz : B + 6 ≤ wr.heap.size
  eq : (uni xs ys).filter st = L ++ (uni xs' ys').filter st

/-- The length of a slice value. -/
def lenSl : Value → Nat
  | .slice _ n _ => n
  | _ => 0

theorem pi_drewN {w : World} {B : Nat} {a1 : Option Addr} {c1 : Nat} {xs : List Int} {a2 : Option Addr} {c2 : Nat} {ys : List Int} {n : Int} (h : PI w B a1 c1 xs a2 c2 ys n) (q : Nat) : PI (w.drewN q) B a1 c1 xs a2 c2 ys n := h.kept ⟨rfl, rfl, rfl, Nat.le_refl _, fun _ _ => rfl⟩
theorem atB_drewN {w : World} {B : Nat} {a : Option Addr} {xs : List Int} (h : AtB w B a xs) (q : Nat) : AtB (w.drewN q) B a xs := h

theorem Own.kept {w w' : World} {B : Nat} {v : Value} {xs : List Int} {K : Nat → Prop} (h : Own w B v xs) (hk : Kept K w w') (hK : ∀ k, B ≤ k → K k) : Own w' B v xs := by
  refine ⟨h.1, ?_⟩
  rcases h.2 with hn | ⟨g, cap, cur, rfl, hb, hgg, rest⟩
  · exact .inl hn
  · exact .inr ⟨g, cap, cur, rfl, hb, (hk.block g (hK g hb)).trans hgg, rest⟩

theorem kept_of_drewN {K : Nat → Prop} {a w : World} {q : Nat} (h : Kept K (a.drewN q) w) : Kept K a w := ⟨h.os, h.tape, h.output, h.size, h.block⟩

section
variable {w wr w2 : World} {B : Nat} {a1 : Option Addr} {c1 : Nat} {xs : List Int} {a2 : Option Addr} {c2 : Nat} {ys : List Int} {st : Int → Bool} {p1 : Option Addr} {d1 : Nat} {xs' : List Int} {p2 : Option Addr} {d2 : Nat} {ys' : List Int} {v : Value} {L : List Int} {m : Int} {p1' : Option Addr} {d1' : Nat} {p2' : Option Addr} {d2' : Nat} {q : Nat}

theorem PR.drop (hr : PR w wr B a1 c1 xs a2 c2 ys st p1 d1 xs' p2 d2 ys' v L m) (hne : NE xs' ys')
    (s1 : AtB (wr.drewN q) B p1' (rem xs' (fst xs' ys'))) (s2 : (rem xs' (fst xs' ys')).length ≤ d1') (s3 : d1' ≤ maxLen) (t1 : AtB (wr.drewN q) B p2' (rem ys' (fst xs' ys'))) (t2 : (rem ys' (fst xs' ys')).length ≤ d2') (t3 : d2' ≤ maxLen)
    (hpi : PI w2 B a1 c1 xs a2 c2 ys (fst xs' ys')) (hk : Kept (fun k => k ≠ B + 1 ∧ k ≠ B + 3) (wr.drewN q) w2) (hs : st (fst xs' ys') = false) :
    PR w w2 B a1 c1 xs a2 c2 ys st p1' d1' (rem xs' (fst xs' ys')) p2' d2' (rem ys' (fst xs' ys')) v L (fst xs' ys') where
  r1 := s1.kept hk (fun k h => by omega)
  r2 := t1.kept hk (fun k h => by omega)
  k1 := s2
  k2 := t2
  m1 := s3
  m2 := t3
  i1 := inc_rem _ hr.i1
  i2 := inc_rem _ hr.i2
  g1 := fun z hz => Int.le_of_lt ((rem_low hr.i1 hr.i2).1 z hz)
  g2 := fun z hz => Int.le_of_lt ((rem_low hr.i1 hr.i2).2 z hz)
  pi := hpi
  own := hr.own.kept (kept_of_drewN hk) (fun k h => by omega)
  bel := hr.bel.trans ((kept_of_drewN hk).below (fun k h => by omega))
  hsz := Nat.le_trans hr.hsz hk.size
  eq := by rw [hr.eq, uni_step _ _ hne, List.filter_cons, hs]; rfl

theorem PR.keep {w3 : World} {v' : Value} {o : Obj} (hr : PR w wr B a1 c1 xs a2 c2 ys st p1 d1 xs' p2 d2 ys' v L m) (hne : NE xs' ys')
    (s1 : AtB (wr.drewN q) B p1' (rem xs' (fst xs' ys'))) (s2 : (rem xs' (fst xs' ys')).length ≤ d1') (s3 : d1' ≤ maxLen) (t1 : AtB (wr.drewN q) B p2' (rem ys' (fst xs' ys'))) (t2 : (rem ys' (fst xs' ys')).length ≤ d2') (t3 : d2' ≤ maxLen)
    (hpi : PI w2 B a1 c1 xs a2 c2 ys (fst xs' ys')) (hk : Kept (fun k => k ≠ B + 1 ∧ k ≠ B + 3) (wr.drewN q) w2) (hs : st (fst xs' ys') = true)
    (hown' : w3.ownsRow (B + 6) 3 1 v' (L.length + 1) (L.map (Value.int .i64) ++ [.int .i64 (fst xs' ys')])) (hgrow : (w2.alloc o).grownBy w3 v.ownBlock) :
    PR w w3 B a1 c1 xs a2 c2 ys st p1' d1' (rem xs' (fst xs' ys')) p2' d2' (rem ys' (fst xs' ys')) v' (L ++ [fst xs' ys']) (fst xs' ys') := by
  have hsz2 : B + 6 ≤ w2.heap.size := Nat.le_trans hr.hsz hk.size
  obtain ⟨o1, o2, o3⟩ := own_snoc (w := w2) (hr.own.kept (kept_of_drewN hk) (fun k h => by omega)) (Below.refl _ _) hsz2 hown' hgrow
  have hk3 : Kept (fun k => k < B + 6) w2 w3 := ⟨o2.os, o2.tape, o2.output, o2.size, o2.block⟩
  exact {
    r1 := (s1.kept hk (fun k h => by omega)).kept hk3 (fun k h => by omega)
    r2 := (t1.kept hk (fun k h => by omega)).kept hk3 (fun k h => by omega)
    k1 := s2
    k2 := t2
    m1 := s3
    m2 := t3
    i1 := inc_rem _ hr.i1
    i2 := inc_rem _ hr.i2
    g1 := fun z hz => Int.le_of_lt ((rem_low hr.i1 hr.i2).1 z hz)
    g2 := fun z hz => Int.le_of_lt ((rem_low hr.i1 hr.i2).2 z hz)
    pi := hpi.kept hk3
    own := o1
    bel := (hr.bel.trans ((kept_of_drewN hk).below (fun k h => by omega))).trans (o2.mono (by omega))
    hsz := o3
    eq := by rw [hr.eq, uni_step _ _ hne, List.filter_cons, hs]; simp }

theorem PR.room (hr : PR w wr B a1 c1 xs a2 c2 ys st p1 d1 xs' p2 d2 ys' v L m) : L.length ≤ xs.length + ys.length := by
  have h := congrArg List.length hr.eq
  have h1 := List.length_filter_le st (uni xs ys)
  have h2 := uni_len_le xs ys
  rw [List.length_append] at h
  omega
end

end Go.Proofs.YtbdkaobbfmgnhaaDoor
namespace Go.Proofs.YtbdkaobbfmgnhaaDoor
open Go.RowKit
set_option linter.unusedVariables false

set_option maxHeartbeats 2000000 in
set_option maxRecDepth 100000 in
theorem join_pick (w : World) (B : Nat) (a1 : Option Addr) (c1 : Nat) (xs : List Int) (a2 : Option Addr) (c2 : Nat) (ys : List Int) (st : Int → Bool) (hst : StaysSaid 102 B a1 c1 xs a2 c2 ys st)
    (hp : PI w B a1 c1 xs a2 c2 ys (-1)) (h1 : AtB w B a1 xs) (h2 : AtB w B a2 ys) (k1 : xs.length ≤ c1) (k2 : ys.length ≤ c2) (m1 : c1 ≤ maxLen) (m2 : c2 ≤ maxLen) (hB : B + 6 ≤ w.heap.size)
    (hx : Hid (rowB 2147483648 xs = true)) (hy : Hid (rowB 2147483648 ys = true)) :
    Calls Tryd.prog 101 #[.slice a1 xs.length c1, .slice a2 ys.length c2, .func (.func 102) #[] #[.pointer (some ⟨B + 4, 0, none⟩), .pointer (some ⟨B + 5, 0, none⟩)]] w fun e w' => ∃ v, e = .returned (.tuple #[v, .int .i64 0]) ∧ Own w' (B + 6) v ((uni xs ys).filter st) ∧ Below B w w' := by
  obtain ⟨i0, hi, hz0, hz1, hz2⟩ := info_parts Tryd.infoInt
  have hlx := rowB_len hx.out
  have hly := rowB_len hy.out
  go_enter Tryd.func101, Tryd.ntmps101
  go_wp2_with fail
  refine (rowIs_any a1 c1 xs 2147483648 _ (h1.at (by omega)) (by omega)).mono ?_
  rintro e w' ⟨rfl, rfl⟩
  rw [hx.out]
  go_wp2_with fail
  refine (rowIs_any a2 c2 ys 2147483648 _ (h2.at (by omega)) (by omega)).mono ?_
  rintro e w' ⟨rfl, rfl⟩
  rw [hy.out]
  go_wp2_with fail
  go_loopw [0, 1, 8] (fun v0 v1 v wr => ∃ p1 d1 xs' p2 d2 ys' L m, v0 = .slice p1 xs'.length d1 ∧ v1 = .slice p2 ys'.length d2 ∧ PR w' wr B a1 c1 xs a2 c2 ys st p1 d1 xs' p2 d2 ys' v L m) (fun v0 v1 _ _ => lenSl v0 + lenSl v1)
  case atStart => exact ⟨a1, c1, xs, a2, c2, ys, [], -1, rfl, rfl, ⟨h1, h2, k1, k2, m1, m2, rowB_inc hx.out, rowB_inc hy.out, fun z hz => by have := rowB_bd hx.out z hz; omega, fun z hz => by have := rowB_bd hy.out z hz; omega, hp, own_nil _ _, Below.refl _ _, hB, rfl⟩⟩
  case round =>
    obtain ⟨p1, d1, xs', p2, d2, ys', L, m, rfl, rfl, hr⟩ := hrel
    clear hp h1 h2 k1 k2 m1 m2 hB
    have k1 := hr.k1
    have k2 := hr.k2
    have m1 := hr.m1
    have m2 := hr.m2
    have hsz := hr.hsz
    unfold maxLen at m1 m2
    by_cases hne : xs' = [] ∧ ys' = []
    · obtain ⟨rfl, rfl⟩ := hne
      have hown := hr.own
      have heq := hr.eq
      have hbel := hr.bel
      rw [show uni [] [] = [] from rfl, List.filter_nil, List.append_nil] at heq
      rw [← heq] at hown
      clear heq
      go_wp2
      go_ret2
      exact ⟨_, rfl, hown, hbel⟩
    · have HNE : NE xs' ys' := hne
      by_cases e1 : 0 < xs'.length
      · clear hne
        go_wp2_with fail
        refine (first_any p1 p2 d1 d2 xs' ys' _ HNE (hr.r1.at (by omega)) (hr.r2.at (by omega)) (by unfold maxLen; omega) (by unfold maxLen; omega)).mono ?_
        rintro e w1 ⟨rfl, q, rfl⟩
        go_wp2_with fail
        refine (behind_any p1 d1 B xs' _ _ (atB_drewN hr.r1 q) k1 hr.m1).mono ?_
        rintro e w1 ⟨⟨p1', d1', rfl, s1, s2, s3⟩, rfl⟩
        go_wp2_with fail
        refine (behind_any p2 d2 B ys' _ _ (atB_drewN hr.r2 q) k2 hr.m2).mono ?_
        rintro e w1 ⟨⟨p2', d2', rfl, t1, t2, t3⟩, rfl⟩
        go_wp2_with fail
        refine (hst _ _ ((pi_drewN hr.pi q).mono (fst_ge HNE hr.g1 hr.g2))).mono ?_
        rintro e w2 ⟨rfl, hpi, hkept⟩
        have hlt := rem_lenlt xs' ys' HNE
        have hroom := hr.room
        by_cases hs : st (fst xs' ys') = true
        · have HS : Hid (st (fst xs' ys') = true) := hs
          have hown2 : Own w2 (B + 6) _ L := hr.own.kept (kept_of_drewN hkept) (fun k h => by omega)
          have hsz2 : B + 6 ≤ w2.heap.size := Nat.le_trans hr.hsz hkept.size
          go_wp2_with (at_builtin; refine wpList_append_own _ rfl _ _ 22 rfl (B + 6) 3 i0 (.int .i64 0) 1 8 Tryd.underlying22 hi hz0 hz1 hz2 rfl (by decide) _ _ _ rfl (World.ownsRow.alloc hown2 _) ⟨w2.heap.size, 0, none⟩ 1 1 [.int .i64 (fst xs' ys')] rfl rfl (cell_one_new _ _ _) (by intro u hu; simp at hu; subst hu; rfl) (by unfold maxLen; omega) (by omega) (by simp; omega) ?_)
          intro v' w3 hown' hgrow _
          have R := hr.keep HNE s1 s2 s3 t1 t2 t3 hpi hkept HS.out hown' hgrow
          clear hown' hgrow hown2 hr hpi hkept s1 t1
          go_wp2
          go_roundw
          case rel => exact ⟨p1', d1', _, p2', d2', _, _, _, rfl, rfl, R⟩
          case measure => simp only [lenSl]; exact hlt
        · have hs : st (fst xs' ys') = false := by simpa using hs
          have R := hr.drop HNE s1 s2 s3 t1 t2 t3 hpi hkept hs
          go_wp2
          go_roundw
          case rel => exact ⟨p1', d1', _, p2', d2', _, _, _, rfl, rfl, R⟩
          case measure => simp only [lenSl]; exact hlt
      · have e0 : xs' = [] := List.eq_nil_of_length_eq_zero (by omega)
        subst e0
        have e2 : 0 < ys'.length := List.length_pos_iff.2 (fun h => hne ⟨rfl, h⟩)
        clear hne e1
        go_wp2_with fail
        refine (first_any p1 p2 d1 d2 [] ys' _ HNE (hr.r1.at (by omega)) (hr.r2.at (by omega)) (by unfold maxLen; omega) (by unfold maxLen; omega)).mono ?_
        rintro e w1 ⟨rfl, q, rfl⟩
        go_wp2_with fail
        refine (behind_any p1 d1 B [] _ _ (atB_drewN hr.r1 q) k1 hr.m1).mono ?_
        rintro e w1 ⟨⟨p1', d1', rfl, s1, s2, s3⟩, rfl⟩
        go_wp2_with fail
        refine (behind_any p2 d2 B ys' _ _ (atB_drewN hr.r2 q) k2 hr.m2).mono ?_
        rintro e w1 ⟨⟨p2', d2', rfl, t1, t2, t3⟩, rfl⟩
        go_wp2_with fail
        refine (hst _ _ ((pi_drewN hr.pi q).mono (fst_ge HNE hr.g1 hr.g2))).mono ?_
        rintro e w2 ⟨rfl, hpi, hkept⟩
        have hlt := rem_lenlt [] ys' HNE
        have hroom := hr.room
        by_cases hs : st (fst [] ys') = true
        · have HS : Hid (st (fst [] ys') = true) := hs
          have hown2 : Own w2 (B + 6) _ L := hr.own.kept (kept_of_drewN hkept) (fun k h => by omega)
          have hsz2 : B + 6 ≤ w2.heap.size := Nat.le_trans hr.hsz hkept.size
          go_wp2_with (at_builtin; refine wpList_append_own _ rfl _ _ 22 rfl (B + 6) 3 i0 (.int .i64 0) 1 8 Tryd.underlying22 hi hz0 hz1 hz2 rfl (by decide) _ _ _ rfl (World.ownsRow.alloc hown2 _) ⟨w2.heap.size, 0, none⟩ 1 1 [.int .i64 (fst [] ys')] rfl rfl (cell_one_new _ _ _) (by intro u hu; simp at hu; subst hu; rfl) (by unfold maxLen; omega) (by omega) (by simp; omega) ?_)
          intro v' w3 hown' hgrow _
          have R := hr.keep HNE s1 s2 s3 t1 t2 t3 hpi hkept HS.out hown' hgrow
          clear hown' hgrow hown2 hr hpi hkept s1 t1
          go_wp2
          go_roundw
          case rel => exact ⟨p1', d1', _, p2', d2', _, _, _, rfl, rfl, R⟩
          case measure => simp only [lenSl]; exact hlt
        · have hs : st (fst [] ys') = false := by simpa using hs
          have R := hr.drop HNE s1 s2 s3 t1 t2 t3 hpi hkept hs
          go_wp2
          go_roundw
          case rel => exact ⟨p1', d1', _, p2', d2', _, _, _, rfl, rfl, R⟩
          case measure => simp only [lenSl]; exact hlt

end Go.Proofs.YtbdkaobbfmgnhaaDoor
namespace Go.Proofs.YtbdkaobbfmgnhaaDoor
open Go.RowKit
set_option linter.unusedVariables false

/-- Where the arrows of a state lead to at an event, in the arrows' order. -/
def tosL (ars : List Arr) (s e : Int) : List Int := (ars.filter fun a => a.f == s && a.e == e).map (·.t)
theorem inc_tosL {ars : List Arr} (h : IncA ars) (s e : Int) : Inc (tosL ars s e) := by
  unfold tosL
  rw [Inc, List.pairwise_map]
  refine (h.filter _).imp_of_mem (fun {x y} hx hy hxy => ?_)
  have h1 := (List.mem_filter.1 hx).2
  have h2 := (List.mem_filter.1 hy).2
  simp at h1 h2
  rw [aheadB_iff] at hxy
  omega
theorem tosL_step {m : Mach} (hm : mayB m = true) (s e : Int) : tosL m.arrows s e = stepL m.arrows [s] e := by
  refine inc_ext (inc_tosL (may_inc hm) s e) (inc_srt _) (fun x => ?_)
  refine Iff.trans ?_ (mem_stepL m.arrows [s] e x).symm
  unfold tosL
  rw [List.mem_map]
  constructor
  · rintro ⟨a, ha, rfl⟩
    obtain ⟨h1, h2⟩ := List.mem_filter.1 ha
    simp at h2
    exact ⟨a, h1, h2.2, by simp [h2.1], rfl⟩
  · rintro ⟨a, ha, h1, h2, h3⟩
    exact ⟨a, List.mem_filter.2 ⟨ha, by simp at h2; simp [h1, h2]⟩, h3⟩
/-- What stands in the table at a state and an event. -/
def toL (ars : List Arr) (of : List Int) (s e : Int) : List Int := if hasB of e = true then tosL ars s e else [s]
theorem leadsP_to {a b : Mach} (ha : mayB a = true) (hb : mayB b = true) (ofA ofB : List Int) (p : Int × Int) (e : Int) (h : (hasB ofA e || hasB ofB e) = true) : leadsP a.arrows b.arrows p e (hasB ofA e) (hasB ofB e) = crossP (toL a.arrows ofA p.1 e) (toL b.arrows ofB p.2 e) := by
  unfold leadsP toL
  rw [if_pos h, tosL_step ha, tosL_step hb]
theorem toL_inc {m : Mach} (hm : mayB m = true) (of : List Int) (s e : Int) : Inc (toL m.arrows of s e) := by
  unfold toL
  split
  · exact inc_tosL (may_inc hm) s e
  · simp [Inc]
theorem toL_bd {m : Mach} (hm : mayB m = true) (of : List Int) {s : Int} (e : Int) (hs : 0 ≤ s ∧ s < m.st) : ∀ x ∈ toL m.arrows of s e, 0 ≤ x ∧ x < m.st := by
  intro x hx
  unfold toL at hx
  split at hx
  · unfold tosL at hx
    obtain ⟨a, ha, rfl⟩ := List.mem_map.1 hx
    have := may_arrs hm a (List.mem_filter.1 ha).1
    exact ⟨this.2.2.1, this.2.2.2.1⟩
  · simp at hx; subst hx; exact hs
theorem toL_len {m : Mach} (hm : mayB m = true) (of : List Int) (s e : Int) : (toL m.arrows of s e).length ≤ 4096 := by
  have := mayB_size hm
  unfold sizeOk at this
  unfold toL tosL
  split
  · rw [List.length_map]; exact Nat.le_trans (List.length_filter_le _ _) (by omega)
  · simp

/-- The events of which one takes part. -/
def evL (n : Nat) (ofA ofB : List Int) : List Int := (rngI n).filter fun e => (hasB ofA e || hasB ofB e)
theorem leadsP_none (A B : List Arr) (p : Int × Int) (e : Int) {x y : Bool} (h : (x || y) = false) : leadsP A B p e x y = [] := by
  unfold leadsP; rw [if_neg (by simp [h])]
theorem bEvs_evL (a b : Mach) (ofA ofB : List Int) (i : Nat) (p : Int × Int) (s : BS) : ∀ k, bEvs a b ofA ofB i p s k = (evL k ofA ofB).foldl (bEv a b ofA ofB i p) s
  | 0 => by simp [bEvs, evL, rngI]
  | k + 1 => by
    rw [bEvs_succ, bEvs_evL a b ofA ofB i p s k]
    unfold evL
    rw [rngI_succ, List.filter_append, List.foldl_append]
    cases h : (hasB ofA (k : Int) || hasB ofB (k : Int)) with
    | true => simp [h]
    | false =>
      unfold bEv
      rw [leadsP_none _ _ _ _ h]
      simp [h]
theorem evL_eq {n : Int} {ofA ofB l : List Int} (h0 : 0 ≤ n) (hA : ∀ x ∈ ofA, 0 ≤ x ∧ x < n) (hB : ∀ x ∈ ofB, 0 ≤ x ∧ x < n) (hl : Inc l) (hm : ∀ x, x ∈ l ↔ x ∈ ofA ∨ x ∈ ofB) : l = evL n.toNat ofA ofB := by
  refine inc_ext hl ((inc_rngI _).filter _) (fun x => ?_)
  unfold evL
  rw [List.mem_filter, mem_rngI, hm, Bool.or_eq_true, hasB_iff, hasB_iff]
  constructor
  · rintro (h | h)
    · have := hA x h; exact ⟨by omega, .inl h⟩
    · have := hB x h; exact ⟨by omega, .inr h⟩
  · exact fun h => h.2
theorem evL_bd {n : Nat} {ofA ofB : List Int} : ∀ x ∈ evL n ofA ofB, (0 ≤ x ∧ x < n) ∧ (hasB ofA x || hasB ofB x) = true := fun x hx => by
  obtain ⟨h1, h2⟩ := List.mem_filter.1 hx
  exact ⟨(mem_rngI _ _).1 h1, h2⟩
theorem evL_inc (n : Nat) (ofA ofB : List Int) : Inc (evL n ofA ofB) := (inc_rngI _).filter _
theorem evL_len (n : Nat) (ofA ofB : List Int) : (evL n ofA ofB).length ≤ n := Nat.le_trans (List.length_filter_le _ _) (by rw [rngI_len]; exact Nat.le_refl _)

/-! Too many: once, and for ever. -/
theorem bBig_add {i : Nat} {e : Int} {s : BS} {p : Int × Int} (h : bBig s = true) : bBig (bAdd i e s p) = true := by
  obtain ⟨t, h1, -⟩ := bAdd_ps i e s p
  have h2 : (bAdd i e s p).ar.length = s.ar.length + 1 := by simp [bAdd]
  unfold bBig at h ⊢
  rw [h1, h2, List.length_append]
  simp at h ⊢
  omega
theorem bBig_fold {i : Nat} {e : Int} : ∀ (L : List (Int × Int)) {s : BS}, bBig s = true → bBig (L.foldl (bAdd i e) s) = true
  | [], _, h => h
  | p :: r, s, h => bBig_fold r (bBig_add h)
theorem bBig_evs {a b : Mach} {ofA ofB : List Int} {i : Nat} {p : Int × Int} : ∀ (E : List Int) {s : BS}, bBig s = true → bBig (E.foldl (bEv a b ofA ofB i p) s) = true
  | [], _, h => h
  | e :: r, s, h => bBig_evs r (bBig_fold _ h)
theorem bBig_some {s : BS} (h : bBig s = false) : s.ps.length ≤ 256 ∧ s.ar.length ≤ 4096 := by
  unfold bBig at h; simp at h; omega
theorem bBig_mk {s : BS} (h1 : s.ps.length ≤ 256) (h2 : s.ar.length ≤ 4096) : bBig s = false := by
  unfold bBig; simp; omega
theorem besideS_great {a b : Mach} {ofA ofB : List Int} (h : 256 < (crossP a.starts b.starts).length) : besideS a b ofA ofB = none := by
  unfold besideS
  rw [show (300 : Nat) = 299 + 1 from rfl, bGo, if_pos (by dsimp only; omega)]
  rw [if_pos]
  unfold bPair
  rw [bEvs_evL]
  refine bBig_evs _ ?_
  unfold bBig
  simp; omega

/-! The order of arrows. -/
theorem incA_ext : ∀ {a b : List Arr}, IncA a → IncA b → (∀ x, x ∈ a ↔ x ∈ b) → a = b
  | [], [], _, _, _ => rfl
  | [], y :: r, _, _, h => absurd ((h y).2 (by simp)) (by simp)
  | x :: r, [], _, _, h => absurd ((h x).1 (by simp)) (by simp)
  | x :: r, y :: t, ha, hb, h => by
    obtain ⟨a1, a2⟩ := List.pairwise_cons.1 ha
    obtain ⟨b1, b2⟩ := List.pairwise_cons.1 hb
    have irr : ∀ z : Arr, ¬ aheadB z z = true := fun z hz => by rw [aheadB_iff] at hz; omega
    have hxy : x = y := by
      rcases List.mem_cons.1 ((h x).1 (by simp)) with e | hx
      · exact e
      · rcases List.mem_cons.1 ((h y).2 (by simp)) with e | hy
        · exact e.symm
        · exact absurd (aheadB_trans (a1 y hy) (b1 x hx)) (irr x)
    subst hxy
    congr 1
    refine incA_ext a2 b2 (fun z => ?_)
    constructor
    · intro hz
      rcases List.mem_cons.1 ((h z).1 (by simp [hz])) with e | hz'
      · subst e; exact absurd (a1 z hz) (irr z)
      · exact hz'
    · intro hz
      rcases List.mem_cons.1 ((h z).2 (by simp [hz])) with e | hz'
      · subst e; exact absurd (b1 z hz) (irr z)
      · exact hz'
/-- The arrows that are new, sorted, behind those of before. -/
theorem srtA_behind {A N D : List Arr} {i e : Int} (hA : ∀ x ∈ A, x.f < i ∨ (x.f = i ∧ x.e < e)) (hN : ∀ x ∈ N, x.f = i ∧ x.e = e) (hp : D.Perm N) (hs : D.Pairwise fun x y => x.t < y.t) : srtA A ++ D = srtA (A ++ N) := by
  refine incA_ext (List.pairwise_append.2 ⟨inc_srtA A, ?_, fun x hx y hy => ?_⟩) (inc_srtA _) (fun x => ?_)
  · refine hs.imp_of_mem (fun {x y} hx hy h => ?_)
    have h1 := hN x (hp.mem_iff.1 hx)
    have h2 := hN y (hp.mem_iff.1 hy)
    rw [aheadB_iff]; omega
  · have h1 := hA x ((mem_srtA _ _).1 hx)
    have h2 := hN y (hp.mem_iff.1 hy)
    rw [aheadB_iff]; omega
  · rw [List.mem_append, mem_srtA, mem_srtA, List.mem_append, hp.mem_iff]

/-- What holds of pairs and arrows ahead of pair i's event e. -/
structure SI (a b : Mach) (i e : Int) (s : BS) : Prop where
  nd : s.ps.Nodup
  cr : ∀ p ∈ s.ps, (0 ≤ p.1 ∧ p.1 < a.st) ∧ (0 ≤ p.2 ∧ p.2 < b.st)
  lo : ∀ x ∈ s.ar, x.f < i ∨ (x.f = i ∧ x.e < e)
theorem SI.mono {a b : Mach} {i e i' e' : Int} {s : BS} (h : SI a b i e s) (hlt : i < i' ∨ (i = i' ∧ e ≤ e')) : SI a b i' e' s :=
  ⟨h.nd, h.cr, fun x hx => by have := h.lo x hx; omega⟩
theorem bAdd_nd {i : Nat} {e : Int} {s : BS} {p : Int × Int} (h : s.ps.Nodup) : (bAdd i e s p).ps.Nodup := by
  unfold bAdd
  by_cases hn : findP s.ps p.1 p.2 = s.ps.length
  · dsimp only
    rw [if_pos hn, List.nodup_append]
    have hm := findP_new.1 hn
    exact ⟨h, by simp, fun x hx y hy e => by simp at hy; subst hy; subst e; exact hm hx⟩
  · dsimp only
    rw [if_neg hn]; exact h
theorem bAdd_mem {i : Nat} {e : Int} {s : BS} {p q : Int × Int} (h : q ∈ (bAdd i e s p).ps) : q ∈ s.ps ∨ q = p := by
  unfold bAdd at h
  dsimp only at h
  split at h
  · simpa using h
  · exact .inl h
theorem bAdd_at {i : Nat} {e : Int} {s : BS} {p : Int × Int} : (bAdd i e s p).ps[findP s.ps p.1 p.2]? = some p := by
  unfold bAdd
  by_cases hn : findP s.ps p.1 p.2 = s.ps.length
  · dsimp only
    rw [if_pos hn, hn]; simp
  · have hm : p ∈ s.ps := Classical.byContradiction fun hc => hn (findP_new.2 hc)
    dsimp only
    rw [if_neg hn]; exact findP_nth hm
/-- The arrows that a list of pairs brings. -/
def newA (i : Nat) (e : Int) : BS → List (Int × Int) → List Arr
  | _, [] => []
  | s, p :: r => ⟨(i : Int), e, (findP s.ps p.1 p.2 : Nat)⟩ :: newA i e (bAdd i e s p) r
theorem fold_ar (i : Nat) (e : Int) : ∀ (L : List (Int × Int)) (s : BS), (L.foldl (bAdd i e) s).ar = s.ar ++ newA i e s L
  | [], s => by simp [newA]
  | p :: r, s => by
    rw [List.foldl_cons, fold_ar i e r (bAdd i e s p), newA]
    show (s.ar ++ [_]) ++ _ = _
    simp
theorem newA_len (i : Nat) (e : Int) : ∀ (L : List (Int × Int)) (s : BS), (newA i e s L).length = L.length
  | [], _ => rfl
  | p :: r, s => by rw [newA, List.length_cons, newA_len i e r, List.length_cons]
theorem newA_in (i : Nat) (e : Int) : ∀ (L : List (Int × Int)) (s : BS), ∀ x ∈ newA i e s L, x.f = i ∧ x.e = e
  | [], s => by simp [newA]
  | p :: r, s => by
    intro x hx
    rw [newA] at hx
    rcases List.mem_cons.1 hx with rfl | hx
    · exact ⟨rfl, rfl⟩
    · exact newA_in i e r _ x hx
theorem newA_at (i : Nat) (e : Int) : ∀ (L : List (Int × Int)) (s : BS), ∀ x ∈ newA i e s L, ∃ p ∈ L, 0 ≤ x.t ∧ (L.foldl (bAdd i e) s).ps[x.t.toNat]? = some p
  | [], s => by simp [newA]
  | p :: r, s => by
    intro x hx
    rw [newA] at hx
    rcases List.mem_cons.1 hx with rfl | hx
    · refine ⟨p, by simp, by dsimp only; omega, ?_⟩
      rw [List.foldl_cons]
      obtain ⟨t, h1, -⟩ := bFold_ps i e r (bAdd i e s p)
      have h2 := bAdd_at (i := i) (e := e) (s := s) (p := p)
      dsimp only
      rw [Int.toNat_natCast, h1, List.getElem?_append_left (List.getElem?_eq_some_iff.1 h2).1]
      exact h2
    · obtain ⟨q, hq, h1, h2⟩ := newA_at i e r _ x hx
      exact ⟨q, by simp [hq], h1, h2⟩
theorem newA_nd (i : Nat) (e : Int) : ∀ (L : List (Int × Int)) (s : BS), L.Nodup → (newA i e s L).Pairwise (fun x y => x.t ≠ y.t)
  | [], s, _ => by simp [newA]
  | p :: r, s, h => by
    obtain ⟨h1, h2⟩ := List.nodup_cons.1 h
    rw [newA]
    refine List.pairwise_cons.2 ⟨fun y hy he => ?_, newA_nd i e r _ h2⟩
    obtain ⟨q, hq, h3, h4⟩ := newA_at i e r _ y hy
    dsimp only at he
    rw [← he, Int.toNat_natCast] at h4
    obtain ⟨t, h5, -⟩ := bFold_ps i e r (bAdd i e s p)
    have h6 := bAdd_at (i := i) (e := e) (s := s) (p := p)
    rw [h5, List.getElem?_append_left (List.getElem?_eq_some_iff.1 h6).1, h6] at h4
    cases h4
    exact h1 hq
theorem fold_nd (i : Nat) (e : Int) : ∀ (L : List (Int × Int)) {s : BS}, s.ps.Nodup → (L.foldl (bAdd i e) s).ps.Nodup
  | [], _, h => h
  | p :: r, s, h => fold_nd i e r (bAdd_nd h)
theorem fold_mem (i : Nat) (e : Int) : ∀ (L : List (Int × Int)) {s : BS} {q : Int × Int}, q ∈ (L.foldl (bAdd i e) s).ps → q ∈ s.ps ∨ q ∈ L
  | [], _, _, h => .inl h
  | p :: r, s, q, h => by
    rcases fold_mem i e r (s := bAdd i e s p) h with h | h
    · rcases bAdd_mem h with h | rfl
      · exact .inl h
      · exact .inr (by simp)
    · exact .inr (by simp [h])
theorem SI.fold {a b : Mach} {i : Nat} {e : Int} {s : BS} {L : List (Int × Int)} (h : SI a b i e s) (hL : ∀ p ∈ L, (0 ≤ p.1 ∧ p.1 < a.st) ∧ (0 ≤ p.2 ∧ p.2 < b.st)) : SI a b i (e + 1) (L.foldl (bAdd i e) s) := by
  refine ⟨fold_nd i e L h.nd, fun p hp => ?_, fun x hx => ?_⟩
  · rcases fold_mem i e L hp with hp | hp
    · exact h.cr p hp
    · exact hL p hp
  · rw [fold_ar] at hx
    rcases List.mem_append.1 hx with hx | hx
    · have := h.lo x hx; omega
    · have := newA_in i e L s x hx; omega
theorem newA_snoc (i : Nat) (e : Int) : ∀ (L : List (Int × Int)) (s : BS) (p : Int × Int), newA i e s (L ++ [p]) = newA i e s L ++ [⟨(i : Int), e, (findP (L.foldl (bAdd i e) s).ps p.1 p.2 : Nat)⟩]
  | [], s, p => by simp [newA]
  | q :: r, s, p => by
    rw [List.cons_append, newA, newA_snoc i e r (bAdd i e s q) p, newA]
    simp
/-- Starts: each pair is new. -/
theorem findP_cross {S T : List Int} (hS : Inc S) (hT : Inc T) {n : Nat} {p : Int × Int} (hp : (crossP S T)[n]? = some p) : findP ((crossP S T).take n) p.1 p.2 = n := by
  have hn := (List.getElem?_eq_some_iff.1 hp).1
  have hnd := nodup_crossP (inc_nodup hS) (inc_nodup hT)
  have : p ∉ (crossP S T).take n := by
    intro hm
    obtain ⟨j, hj⟩ := List.mem_iff_getElem?.1 hm
    rw [List.getElem?_take] at hj
    split at hj
    · rename_i hjn
      obtain ⟨l1, e1⟩ := List.getElem?_eq_some_iff.1 hj
      obtain ⟨l2, e2⟩ := List.getElem?_eq_some_iff.1 hp
      have := (List.getElem_inj hnd).1 (e1.trans e2.symm)
      omega
    · cases hj
  rw [findP_new.2 this, List.length_take]
  omega

end Go.Proofs.YtbdkaobbfmgnhaaDoor
namespace Go.Proofs.YtbdkaobbfmgnhaaDoor
open Go.RowKit
set_option linter.unusedVariables false

/-! The map. -/
theorem laidOut : laidOutB Tryd.prog = true := by kernel_rfl
theorem rowPair : (135 : TypeId) < Tryd.prog.types.size := of_decide_eq_true (by kernel_rfl)
theorem widePair : (match Tryd.prog.underlying 135 with | some (.array _ _) | some (.struct _) => true | _ => false) = true := by kernel_rfl
set_option maxRecDepth 100000 in
theorem lawPair : WideMaps.KeyLaw Tryd.prog 135 := deep_law_laid laidOut (m := 3) (by omega) rowPair (by kernel_rfl) widePair
abbrev pval (p : Int × Int) : Value := .agg #[.int .i64 p.1, .int .i64 p.2]
set_option maxRecDepth 100000 in
theorem keyPair (p : Int × Int) (h1 : (Lit.int .i64 p.1).wf = true) (h2 : (Lit.int .i64 p.2).wf = true) : ∃ l, keyOf Tryd.prog 135 (pval p) = some l := by
  have hk : Tryd.prog.keyType 135 = true := by kernel_rfl
  have hc : Tryd.prog.cellsOf 135 = 2 := by kernel_rfl
  have hci : Tryd.prog.cellsOf 3 = 1 := by kernel_rfl
  have hs : ∃ m, Tryd.prog.types.size = m + 1 := ⟨_, (Nat.succ_pred_eq_of_pos (Nat.lt_of_le_of_lt (Nat.zero_le _) rowPair)).symm⟩
  obtain ⟨m, hm⟩ := hs
  unfold keyOf
  simp only [Tryd.underlying135]
  rw [if_pos (by simp [hk, Value.formed, Tryd.underlying135, hc]), hm]
  unfold Program.keyLits
  simp only [Tryd.underlying135, Value.cells]
  simp [hc, hci, Program.keyLits, Tryd.underlying3, h1, h2]

def entP (k : Nat) (p : Int × Int) : MapEntry := { key := pval p, val := .int .i64 k, born := k }
def entsP (L : List (Int × Int)) : Array MapEntry := (L.mapIdx entP).toArray
theorem entsP_snoc (L : List (Int × Int)) (p : Int × Int) : entsP (L ++ [p]) = (entsP L).push (entP L.length p) := by
  unfold entsP; rw [List.mapIdx_concat]; simp
theorem wf_state {x : Int} (h : 0 ≤ x ∧ x < 256) : (Lit.int .i64 x).wf = true := WalkArith.wf_i64 (by omega)
/-- Pairs of states. -/
abbrev StP (p : Int × Int) : Prop := (0 ≤ p.1 ∧ p.1 < 256) ∧ (0 ≤ p.2 ∧ p.2 < 256)
theorem keyPair' {p : Int × Int} (h : StP p) : ∃ l, keyOf Tryd.prog 135 (pval p) = some l := keyPair p (wf_state h.1) (wf_state h.2)
theorem pval_inj {p q : Int × Int} (h : pval p = pval q) : p = q := by
  simp [pval] at h; exact Prod.ext h.1 h.2
theorem find_pair {L : List (Int × Int)} (hL : ∀ p ∈ L, StP p) (hnd : L.Nodup) {p : Int × Int} (hp : StP p) (w : World) :
    (Instr.findKey 135 (pval p) (entsP L).toList).run Tryd.prog w = .ok (if findP L p.1 p.2 = L.length then none else some (findP L p.1 p.2, .int .i64 (findP L p.1 p.2 : Nat))) w := by
  obtain ⟨l, hl⟩ := keyPair' hp
  have hget : ∀ j e, (entsP L).toList[j]? = some e → ∃ q, L[j]? = some q ∧ e = entP j q := by
    intro j e h
    simp only [entsP] at h
    rw [List.getElem?_mapIdx] at h
    cases hq : L[j]? with
    | none => rw [hq] at h; cases h
    | some q => rw [hq] at h; exact ⟨q, rfl, (Option.some.inj h).symm⟩
  have hes : ∀ e ∈ (entsP L).toList, ∃ l, keyOf Tryd.prog 135 e.key = some l := by
    intro e he
    obtain ⟨j, hj⟩ := List.mem_iff_getElem?.1 he
    obtain ⟨q, hq, rfl⟩ := hget j e hj
    exact keyPair' (hL q (List.mem_of_getElem? hq))
  rcases lawPair.find w hl (entsP L).toList hes with ⟨h1, h2⟩ | ⟨j, e, h1, h2, h3⟩
  · have hn : findP L p.1 p.2 = L.length := findP_new.2 fun hm => by
      obtain ⟨j, hj⟩ := List.mem_iff_getElem?.1 hm
      refine h2 (entP j p) (List.mem_of_getElem? (i := j) ?_) rfl
      simp only [entsP]
      rw [List.getElem?_mapIdx, hj]; rfl
    rw [h1, if_pos hn]
  · obtain ⟨q, hq, rfl⟩ := hget j e h2
    have : q = p := pval_inj h3
    subst this
    have hj : findP L q.1 q.2 = j := findP_at hnd hq
    have hlt := (List.getElem?_eq_some_iff.1 hq).1
    rw [h1, hj, if_neg (by omega)]; rfl
theorem mapPair : Tryd.prog.underlying 74 = some (.map 135 3) := by kernel_rfl
theorem look_known {L : List (Int × Int)} (hL : ∀ p ∈ L, StP p) (hnd : L.Nodup) {p : Int × Int} (hp : StP p) {w : World} {r c : Nat} (hm : w.heap[r]? = some (.map (entsP L) c)) (h : ¬ findP L p.1 p.2 = L.length) :
    (Instr.lookup 74 (.map (some r)) (pval p) true).run Tryd.prog w = .ok (.tuple #[.int .i64 (findP L p.1 p.2 : Nat), .bool true]) w := by
  obtain ⟨l, hl⟩ := keyPair' hp
  have h1 := find_pair hL hnd hp w
  rw [if_neg h] at h1
  simp [Instr.lookup, run_underlying mapPair, MapKept.run_getObj_map hm, lawPair.check w _ hl, h1, Result.andThen]
theorem look_new {L : List (Int × Int)} (hL : ∀ p ∈ L, StP p) (hnd : L.Nodup) {p : Int × Int} (hp : StP p) {w : World} {r c : Nat} (hm : w.heap[r]? = some (.map (entsP L) c)) (h : findP L p.1 p.2 = L.length) :
    (Instr.lookup 74 (.map (some r)) (pval p) true).run Tryd.prog w = .ok (.tuple #[.int .i64 0, .bool false]) w := by
  obtain ⟨l, hl⟩ := keyPair' hp
  have h1 := find_pair hL hnd hp w
  rw [if_pos h] at h1
  simp [Instr.lookup, run_underlying mapPair, MapKept.run_getObj_map hm, lawPair.check w _ hl, h1, Result.andThen]
theorem upd_new {L : List (Int × Int)} (hL : ∀ p ∈ L, StP p) (hnd : L.Nodup) {p : Int × Int} (hp : StP p) {w : World} {r : Nat} (hm : w.heap[r]? = some (.map (entsP L) L.length)) (h : findP L p.1 p.2 = L.length) :
    (Instr.mapUpdate 74 (.map (some r)) (pval p) (.int .i64 (L.length : Nat))).run Tryd.prog w = .ok () (setMap w r (.map (entsP (L ++ [p])) (L ++ [p]).length)) := by
  obtain ⟨l, hl⟩ := keyPair' hp
  have h1 := find_pair hL hnd hp w
  rw [if_pos h] at h1
  simp [Instr.mapUpdate, run_underlying mapPair, MapKept.run_getObj_map hm, lawPair.check w _ hl, h1, MapKept.run_setObj_map _ hm, Result.andThen, setMap, entsP_snoc, entP]

end Go.Proofs.YtbdkaobbfmgnhaaDoor
namespace Go.Proofs.YtbdkaobbfmgnhaaDoor
open Go.RowKit
set_option linter.unusedVariables false

/-- Nothing is turned but the blocks of F; and F' are blocks of F, or new ones. -/
structure Turn (F F' : Nat → Prop) (W W' : World) : Prop where
  os : W'.os = W.os
  tape : W'.tape = W.tape
  output : W'.output = W.output
  size : W.heap.size ≤ W'.heap.size
  block : ∀ j, j < W.heap.size → ¬ F j → W'.heap[j]? = W.heap[j]?
  fp : ∀ j, F' j → F j ∨ W.heap.size ≤ j
theorem Turn.refl (F : Nat → Prop) (W : World) : Turn F F W W := ⟨rfl, rfl, rfl, Nat.le_refl _, fun _ _ _ => rfl, fun _ h => .inl h⟩
theorem Turn.trans {F F' F'' : Nat → Prop} {W W' W'' : World} (h : Turn F F' W W') (k : Turn F' F'' W' W'') : Turn F F'' W W'' :=
  ⟨k.os.trans h.os, k.tape.trans h.tape, k.output.trans h.output, Nat.le_trans h.size k.size, fun j hj hn => (k.block j (Nat.lt_of_lt_of_le hj h.size) (fun hF => by
    rcases h.fp j hF with h1 | h1
    · exact hn h1
    · omega)).trans (h.block j hj hn), fun j hj => by
    rcases k.fp j hj with h1 | h1
    · exact h.fp j h1
    · exact .inr (Nat.le_trans h.size h1)⟩
theorem Turn.of_below {F : Nat → Prop} {W W' : World} (h : Below W.heap.size W W') : Turn F F W W' := ⟨h.os, h.tape, h.output, h.size, fun j hj _ => h.block j hj, fun _ h => .inl h⟩
theorem Turn.below {F F' : Nat → Prop} {n : Nat} {W W' : World} (h : Turn F F' W W') (hF : ∀ j, F j → n ≤ j) (hn : n ≤ W.heap.size) : Below n W W' := ⟨h.os, h.tape, h.output, h.size, fun j hj => h.block j (by omega) (fun hF' => by have := hF j hF'; omega)⟩
theorem Turn.alloc {F F' : Nat → Prop} {W W' : World} (h : Turn F F' W W') (o : Obj) : Turn F F' W (W'.alloc o) := h.trans (Turn.of_below ((Below.refl _ _).alloc (Nat.le_refl _) o))
theorem Turn.drew {F F' : Nat → Prop} {W W' : World} (h : Turn F F' W W') : Turn F F' W W'.drew := h.trans (Turn.of_below (Below.refl _ _).drew)
theorem Turn.set {F F' : Nat → Prop} {W W' : World} (h : Turn F F' W W') {b j : Nat} (hb : F' b) (v : Value) : Turn F F' W (W'.setCell ⟨b, j, none⟩ v) :=
  h.trans ⟨rfl, rfl, rfl, by simp [World.setCell], fun k _ hn => Below.heap_setCell _ _ _ _ (fun e => hn (by rw [e]; exact hb)), fun _ h => .inl h⟩
theorem Turn.map {F F' : Nat → Prop} {W W' : World} (h : Turn F F' W W') {b : Nat} (hb : F' b) (o : Obj) : Turn F F' W (setMap W' b o) :=
  h.trans ⟨rfl, rfl, rfl, by rw [size_setMap]; exact Nat.le_refl _, fun k _ hn => heap_setMap_ne _ _ _ (fun e => hn (by rw [e]; exact hb)), fun _ h => .inl h⟩
theorem Turn.grown {F F' F'' : Nat → Prop} {W W' W'' : World} {row : Option Nat} (h : Turn F F' W W') (g : W'.grownBy W'' row) (hr : ∀ k, row = some k → F' k) (hf : ∀ j, F'' j → F' j ∨ W'.heap.size ≤ j) : Turn F F'' W W'' :=
  h.trans ⟨g.os, g.tape, g.output, g.size, fun j hj hn => g.block j hj (fun e => hn (hr j e.symm)), hf⟩

/-! Rows of pairs. -/
theorem Tryd.infoPair : (Tryd.prog.info? 135).map (fun i => (i.zero, i.size, i.bytes)) = some (some (.agg #[.int .i64 0, .int .i64 0]), 2, 16) := by kernel_rfl
def pflat : List (Int × Int) → List Value
  | [] => []
  | p :: r => .int .i64 p.1 :: .int .i64 p.2 :: pflat r
theorem pflat_append : ∀ L M : List (Int × Int), pflat (L ++ M) = pflat L ++ pflat M
  | [], M => rfl
  | a :: r, M => by simp only [List.cons_append, pflat, pflat_append r M]
theorem pflat_at : ∀ {L : List (Int × Int)} {k : Nat} {p : Int × Int}, L[k]? = some p → (pflat L)[k * 2]? = some (.int .i64 p.1) ∧ (pflat L)[k * 2 + 1]? = some (.int .i64 p.2)
  | [], k, p, h => by simp at h
  | a :: r, 0, p, h => by simp at h; subst h; simp [pflat]
  | a :: r, k + 1, p, h => by
    have := pflat_at (L := r) (k := k) (p := p) (by simpa using h)
    rw [show (k + 1) * 2 = k * 2 + 1 + 1 by omega]
    simpa [pflat] using this
abbrev OwnP (W : World) (B : Nat) (v : Value) (P : List (Int × Int)) : Prop := W.ownsRow B 135 2 v P.length (pflat P)
theorem OwnP.cell {W : World} {B : Nat} {v : Value} {P : List (Int × Int)} (h : OwnP W B v P) {k : Nat} {p : Int × Int} (hk : P[k]? = some p) : ∃ g cap, v = .slice (some ⟨g, 0, none⟩) P.length cap ∧ B ≤ g ∧ g < W.heap.size ∧ W.cell? ⟨g, k * 2, none⟩ = some (.int .i64 p.1) ∧ W.cell? ⟨g, k * 2 + 1, none⟩ = some (.int .i64 p.2) := by
  rcases h.2 with ⟨rfl, hn⟩ | ⟨g, cap, cur, rfl, hg, hh, hnc, hcm, hcs, ht⟩
  · have := (List.getElem?_eq_some_iff.1 hk).1; omega
  · obtain ⟨h1, h2⟩ := pflat_at hk
    have c1 := h.cells (g := g) rfl _ _ h1
    have c2 := h.cells (g := g) rfl _ _ h2
    rw [addr0_add, Nat.zero_add] at c1 c2
    exact ⟨g, cap, rfl, hg, (Array.getElem?_eq_some_iff.1 hh).1, c1, c2⟩

abbrev fcells (st ev : Int) (vs va ve vp : Value) (br : Nat) : Array Value := #[.int .i64 st, .int .i64 ev, vs, va, ve, vp, .map (some br)]
/-- The finder in a world: its block bf, its map br, its rows made from block B on. -/
structure FD (B : Nat) (W : World) (bf br : Nat) (st ev : Int) (vs va ve vp : Value) (S : List Int) (A : List Arr) (E : List Int) (P : List (Int × Int)) : Prop where
  blk : Blk W bf 77 (fcells st ev vs va ve vp br)
  st : Own W B vs S
  ar : OwnA W B va A
  en : Own W B ve E
  ps : OwnP W B vp P
  mp : W.heap[br]? = some (.map (entsP P) P.length)
  ne : vs.ownBlock = none ∨ vs.ownBlock ≠ ve.ownBlock
  nd : P.Nodup
  cr : ∀ p ∈ P, StP p
  lof : B ≤ bf
  lor : B ≤ br
/-- Its blocks. -/
def FF (bf br : Nat) (vs va ve vp : Value) : Nat → Prop := fun j => j = bf ∨ j = br ∨ vs.ownBlock = some j ∨ va.ownBlock = some j ∨ ve.ownBlock = some j ∨ vp.ownBlock = some j
theorem FF.f (bf br : Nat) (vs va ve vp : Value) : FF bf br vs va ve vp bf := .inl rfl
theorem FF.r (bf br : Nat) (vs va ve vp : Value) : FF bf br vs va ve vp br := .inr (.inl rfl)
section
variable {B : Nat} {W W' : World} {bf br : Nat} {st ev : Int} {vs va ve vp : Value} {S : List Int} {A : List Arr} {E : List Int} {P : List (Int × Int)}
theorem FD.lt (h : FD B W bf br st ev vs va ve vp S A E P) : ∀ j, FF bf br vs va ve vp j → B ≤ j ∧ j < W.heap.size := by
  rintro j (rfl | rfl | hj | hj | hj | hj)
  · exact ⟨h.lof, h.blk.lt⟩
  · exact ⟨h.lor, (Array.getElem?_eq_some_iff.1 h.mp).1⟩
  · exact World.ownsRow.lt h.st j hj
  · exact World.ownsRow.lt h.ar j hj
  · exact World.ownsRow.lt h.en j hj
  · exact World.ownsRow.lt h.ps j hj
theorem FD.same (h : FD B W bf br st ev vs va ve vp S A E P) (hs : ∀ j, FF bf br vs va ve vp j → W'.heap[j]? = W.heap[j]?) : FD B W' bf br st ev vs va ve vp S A E P :=
  ⟨(hs bf (.inl rfl)).trans h.blk, own_same h.st (fun k hk => hs k (.inr (.inr (.inl hk)))), own_same h.ar (fun k hk => hs k (.inr (.inr (.inr (.inl hk))))), own_same h.en (fun k hk => hs k (.inr (.inr (.inr (.inr (.inl hk)))))), own_same h.ps (fun k hk => hs k (.inr (.inr (.inr (.inr (.inr hk)))))), (hs br (.inr (.inl rfl))).trans h.mp, h.ne, h.nd, h.cr, h.lof, h.lor⟩
theorem FD.below (h : FD B W bf br st ev vs va ve vp S A E P) (hb : Below W.heap.size W W') : FD B W' bf br st ev vs va ve vp S A E P := h.same fun j hj => hb.block j (h.lt j hj).2
theorem FD.alloc (h : FD B W bf br st ev vs va ve vp S A E P) (o : Obj) : FD B (W.alloc o) bf br st ev vs va ve vp S A E P := h.below ((Below.refl _ _).alloc (Nat.le_refl _) o)
theorem FD.drew (h : FD B W bf br st ev vs va ve vp S A E P) : FD B W.drew bf br st ev vs va ve vp S A E P := h.below (Below.refl _ _).drew
/-- The finder's block is no row's, nor is the map. -/
theorem FD.apart (h : FD B W bf br st ev vs va ve vp S A E P) : bf ≠ br ∧ (∀ v ∈ [vs, va, ve, vp], v.ownBlock ≠ some bf ∧ v.ownBlock ≠ some br) := by
  have hb : W.heap[bf]? = _ := h.blk
  have hm := h.mp
  refine ⟨fun e => (by rw [e, hm] at hb; cases hb), fun v hv => ?_⟩
  have key : ∀ {e : TypeId} {s n : Nat} {xs : List Value}, e ≠ 77 → W.ownsRow B e s v n xs → v.ownBlock ≠ some bf ∧ v.ownBlock ≠ some br := fun {e s n xs} he ho =>
    ⟨fun hk => (by obtain ⟨cs, hc⟩ := own_type ho hk; rw [hb] at hc; cases hc; exact he rfl), fun hk => (by obtain ⟨cs, hc⟩ := own_type ho hk; rw [hm] at hc; cases hc)⟩
  simp at hv
  rcases hv with rfl | rfl | rfl | rfl
  · exact key (by decide) h.st
  · exact key (by decide) h.ar
  · exact key (by decide) h.en
  · exact key (by decide) h.ps
/-- The rows' blocks are apart. -/
theorem FD.rows (h : FD B W bf br st ev vs va ve vp S A E P) : (vp.ownBlock = none ∨ (vp.ownBlock ≠ vs.ownBlock ∧ vp.ownBlock ≠ va.ownBlock ∧ vp.ownBlock ≠ ve.ownBlock)) ∧ (va.ownBlock = none ∨ (va.ownBlock ≠ vs.ownBlock ∧ va.ownBlock ≠ vp.ownBlock ∧ va.ownBlock ≠ ve.ownBlock)) := by
  refine ⟨?_, ?_⟩
  · rcases own_apart h.ps h.st (by decide) with h1 | h1
    · exact .inl h1
    rcases own_apart h.ps h.ar (by decide) with h2 | h2
    · exact .inl h2
    rcases own_apart h.ps h.en (by decide) with h3 | h3
    · exact .inl h3
    exact .inr ⟨h1, h2, h3⟩
  · rcases own_apart h.ar h.st (by decide) with h1 | h1
    · exact .inl h1
    rcases own_apart h.ar h.ps (by decide) with h2 | h2
    · exact .inl h2
    rcases own_apart h.ar h.en (by decide) with h3 | h3
    · exact .inl h3
    exact .inr ⟨h1, h2, h3⟩
theorem FD.cells (h : FD B W bf br st ev vs va ve vp S A E P) : W.cell? ⟨bf, 0, none⟩ = some (.int .i64 st) ∧ W.cell? ⟨bf, 1, none⟩ = some (.int .i64 ev) ∧ W.cell? ⟨bf, 2, none⟩ = some vs ∧ W.cell? ⟨bf, 3, none⟩ = some va ∧ W.cell? ⟨bf, 4, none⟩ = some ve ∧ W.cell? ⟨bf, 5, none⟩ = some vp ∧ W.cell? ⟨bf, 6, none⟩ = some (.map (some br)) :=
  ⟨h.blk.cell 0 rfl, h.blk.cell 1 rfl, h.blk.cell 2 rfl, h.blk.cell 3 rfl, h.blk.cell 4 rfl, h.blk.cell 5 rfl, h.blk.cell 6 rfl⟩
/-- One pair more: the map, the row, the count. -/
theorem FD.push {W1 W2 : World} {vp' : Value} {p : Int × Int} (h : FD B W bf br st ev vs va ve vp S A E P) (hb1 : Below W.heap.size W W1) (hn : findP P p.1 p.2 = P.length) (hp : StP p)
    {W3 : World} (hW3 : Below (setMap W1 br (.map (entsP (P ++ [p])) (P.length + 1))).heap.size (setMap W1 br (.map (entsP (P ++ [p])) (P.length + 1))) W3) (o1 : W2.ownsRow B 135 2 vp' (P.length + 1) (pflat P ++ [.int .i64 p.1, .int .i64 p.2])) (g : W3.grownBy W2 vp.ownBlock) (hb : vp'.ownBlock = vp.ownBlock ∨ vp'.ownBlock = some W3.heap.size) (st' : Int) :
    Blk W2 bf 77 (fcells st ev vs va ve vp br) ∧ FD B ((W2.setCell ⟨bf, 5, none⟩ vp').setCell ⟨bf, 0, none⟩ (.int .i64 st')) bf br st' ev vs va ve vp' S A E (P ++ [p]) ∧ Turn (FF bf br vs va ve vp) (FF bf br vs va ve vp') W ((W2.setCell ⟨bf, 5, none⟩ vp').setCell ⟨bf, 0, none⟩ (.int .i64 st')) := by
  have h1 := h.below hb1
  obtain ⟨a1, a2⟩ := h1.apart
  obtain ⟨r1, r2⟩ := h1.rows
  have a5 := a2 vp (by simp)
  -- what stays
  have keep : ∀ j, j < W1.heap.size → j ≠ br → vp.ownBlock ≠ some j → j ≠ bf → ((W2.setCell ⟨bf, 5, none⟩ vp').setCell ⟨bf, 0, none⟩ (.int .i64 st')).heap[j]? = W1.heap[j]? := by
    intro j hj h2 h3 h4
    rw [Below.heap_setCell _ _ _ _ h4, Below.heap_setCell _ _ _ _ h4, g.block j (Nat.lt_of_lt_of_le (by rw [size_setMap]; exact hj) hW3.size) (fun e => h3 e.symm), hW3.block j (by rw [size_setMap]; exact hj), heap_setMap_ne _ _ _ h2]
  have hbf2 : W2.heap[bf]? = W1.heap[bf]? := by
    rw [g.block bf (Nat.lt_of_lt_of_le (by rw [size_setMap]; exact h1.blk.lt) hW3.size) (fun e => a5.1 e.symm), hW3.block bf (by rw [size_setMap]; exact h1.blk.lt), heap_setMap_ne _ _ _ a1]
  have b2 : Blk W2 bf 77 (fcells st ev vs va ve vp br) := hbf2.trans h1.blk
  have hbr := (Array.getElem?_eq_some_iff.1 h1.mp).1
  have m2 : W2.heap[br]? = some (.map (entsP (P ++ [p])) (P.length + 1)) := by
    rw [g.block br (Nat.lt_of_lt_of_le (by rw [size_setMap]; exact hbr) hW3.size) (fun e => a5.2 e.symm), hW3.block br (by rw [size_setMap]; exact hbr), heap_setMap _ _ hbr]
  refine ⟨b2, ⟨(b2.set 5 vp').set 0 _, own_same h1.st (fun k hk => keep k (World.ownsRow.lt h1.st k hk).2 (fun e => (a2 vs (by simp)).2 (by rw [hk, e])) (fun e => ?_) (fun e => (a2 vs (by simp)).1 (by rw [hk, e]))), own_same h1.ar (fun k hk => keep k (World.ownsRow.lt h1.ar k hk).2 (fun e => (a2 va (by simp)).2 (by rw [hk, e])) (fun e => ?_) (fun e => (a2 va (by simp)).1 (by rw [hk, e]))), own_same h1.en (fun k hk => keep k (World.ownsRow.lt h1.en k hk).2 (fun e => (a2 ve (by simp)).2 (by rw [hk, e])) (fun e => ?_) (fun e => (a2 ve (by simp)).1 (by rw [hk, e]))), ?_, ?_, h.ne, ?_, ?_, h.lof, h.lor⟩, ?_⟩
  · rcases r1 with r1 | r1
    · rw [r1] at e; cases e
    · exact r1.1 (e.trans hk.symm)
  · rcases r1 with r1 | r1
    · rw [r1] at e; cases e
    · exact r1.2.1 (e.trans hk.symm)
  · rcases r1 with r1 | r1
    · rw [r1] at e; cases e
    · exact r1.2.2 (e.trans hk.symm)
  · have hbk : vp'.ownBlock ≠ some bf := by
      rcases hb with hb | hb
      · rw [hb]; exact a5.1
      · rw [hb]; intro e
        have e1 := Option.some.inj e
        have := Nat.lt_of_lt_of_le (show bf < (setMap W1 br (.map (entsP (P ++ [p])) (P.length + 1))).heap.size by rw [size_setMap]; exact h1.blk.lt) hW3.size
        omega
    show World.ownsRow _ _ _ _ _ _ _
    rw [List.length_append, pflat_append]
    exact own_same o1 (fun k hk => by rw [Below.heap_setCell _ _ _ _ (fun e => hbk (by rw [hk, e])), Below.heap_setCell _ _ _ _ (fun e => hbk (by rw [hk, e]))])
  · rw [Below.heap_setCell _ _ _ _ (Ne.symm a1), Below.heap_setCell _ _ _ _ (Ne.symm a1), List.length_append]; exact m2
  · rw [List.nodup_append]
    have hm := findP_new.1 hn
    exact ⟨h.nd, by simp, fun x hx y hy e => by simp at hy; subst hy; subst e; exact hm hx⟩
  · intro q hq
    rcases List.mem_append.1 hq with hq | hq
    · exact h.cr q hq
    · simp at hq; subst hq; exact hp
  · have t1 : Turn (FF bf br vs va ve vp) (FF bf br vs va ve vp) W W1 := Turn.of_below hb1
    have t2 := t1.map (FF.r bf br vs va ve vp) (.map (entsP (P ++ [p])) (P.length + 1))
    have t3 := t2.trans (Turn.of_below (F := FF bf br vs va ve vp) hW3)
    have t4 : Turn (FF bf br vs va ve vp) (FF bf br vs va ve vp') W W2 := t3.grown g (fun k hk => .inr (.inr (.inr (.inr (.inr hk))))) (fun j hj => by
      rcases hj with h | h | h | h | h | h
      · exact .inl (.inl h)
      · exact .inl (.inr (.inl h))
      · exact .inl (.inr (.inr (.inl h)))
      · exact .inl (.inr (.inr (.inr (.inl h))))
      · exact .inl (.inr (.inr (.inr (.inr (.inl h)))))
      · rcases hb with hb | hb
        · exact .inl (.inr (.inr (.inr (.inr (.inr (by rw [← hb]; exact h))))))
        · rw [hb] at h
          exact .inr (Nat.le_of_eq (Option.some.inj h)))
    exact (t4.set (FF.f bf br vs va ve vp') vp').set (FF.f bf br vs va ve vp') _
end

end Go.Proofs.YtbdkaobbfmgnhaaDoor
