/-
  The walks of slices.Index, slices.Contains and row.Has: whether a list has a number.
  The walk of row.Is: it answers 'rowB n xs'.
  The walk of row.pick: the numbers of two rows of which a closure says that they stay; and its answer where one is no row.
  The walk of row.pick with the closure of row.Join: the numbers of two rows of which it says that they stay.
  The walks of machine.within and of its closure.
  The walks of cmp.Compare, cmp.Or (at integers) and of machine.compare: which of two arrows stands ahead.
  The walk of machine.compare.
-/
import Derived.Test.YtdnglodemkeooaaG01
import Derived.Deep.QuietTactic
import Derived.BigQuiet
import Derived.Test.YtdnglodemkeooaaG02
import Derived.Laws.EntriesVeiled
import Derived.Laws.Bits64b
import Derived.BigRegion
import Derived.Deep.RegionHeld3
import Derived.Test.YtdnglodemkeooaaG03
namespace Go.Proofs.Ytdnglodemkeooaa
open Go.RowKit

/-- What slices.Index answers: the first place, or -1. -/
def idxFrom (n : Int) : Nat → List Int → Int
  | _, [] => -1
  | k, x :: r => if n = x then k else idxFrom n (k + 1) r

theorem idx_has (n : Int) : ∀ (xs : List Int) (k : Nat), decide (0 ≤ idxFrom n k xs) = hasB xs n
  | [], _ => rfl
  | x :: r, k => by
    unfold idxFrom
    by_cases h : n = x
    · rw [if_pos h]; subst h; simp [hasB]
    · rw [if_neg h, idx_has n r (k + 1)]
      have h1 : (n == x) = false := by simp [h]
      simp only [hasB, List.contains_cons, h1, Bool.false_or]
theorem idx_hit {xs : List Int} {k : Nat} {n x : Int} (h : k < xs.length) (e : Hid (idxFrom n 0 xs = idxFrom n k (xs.drop k))) (hv : Hid (x = xs[k]?.getD 0)) (hx : (n == x) = true) : (k : Int) = idxFrom n 0 xs := by
  have hx : n = x := by simpa using hx
  rw [e.out, drop_cons h, ← hv.out, idxFrom, if_pos hx]
theorem idx_miss {xs : List Int} {k : Nat} {n x : Int} (h : k < xs.length) (e : Hid (idxFrom n 0 xs = idxFrom n k (xs.drop k))) (hv : Hid (x = xs[k]?.getD 0)) (hx : (n == x) = false) : Hid (idxFrom n 0 xs = idxFrom n (k + 1) (xs.drop (k + 1))) := by
  have hx : ¬ n = x := by simpa using hx
  show idxFrom n 0 xs = _
  rw [e.out, drop_cons h, ← hv.out, idxFrom, if_neg hx]
theorem idx_end {xs : List Int} {k : Nat} {n : Int} (h : ¬ k < xs.length) (e : Hid (idxFrom n 0 xs = idxFrom n k (xs.drop k))) : -1 = idxFrom n 0 xs := by
  rw [e.out, List.drop_eq_nil_of_le (by omega)]; rfl

set_option maxHeartbeats 400000 in
theorem index_some (b off cap : Nat) (xs : List Int) (n : Int) (w : World) (hl : xs.length ≤ 9223372036854775807) (hc : Cells w b off xs) :
    Calls Try.prog 49 #[.slice (some ⟨b, off, none⟩) xs.length cap, .int .i64 n] w fun e w' => e = .returned (.int .i64 (idxFrom n 0 xs)) ∧ w' = w := by
  go_enter Try.func49, Try.ntmps49
  go_wp2
  go_loop [8] (fun i => ∃ k : Nat, k ≤ xs.length ∧ i = .int .i64 k ∧ Hid (idxFrom n 0 xs = idxFrom n k (xs.drop k))) (fun i => xs.length - (intOf i).toNat)
  case atStart => exact ⟨0, Nat.zero_le _, rfl, rfl⟩
  case round =>
    obtain ⟨k, hk, rfl, he⟩ := hrel
    by_cases hlt : k < xs.length
    · obtain ⟨x, HX, hcell⟩ := hc.at hlt
      go_wp2
      · go_ret
        exact ⟨ret_int (idx_hit hlt he HX (by assumption)), rfl⟩
      · go_round
        case rel => exact ⟨k + 1, by omega, by go_num, idx_miss hlt he HX (by assumption)⟩
        case measure => simp [intOf]; omega
    · go_wp2
      go_ret
      exact ⟨ret_int (idx_end hlt he), rfl⟩

set_option maxHeartbeats 400000 in
theorem index_nil (a : Option Addr) (cap : Nat) (n : Int) (w : World) :
    Calls Try.prog 49 #[.slice a 0 cap, .int .i64 n] w fun e w' => e = .returned (.int .i64 (-1)) ∧ w' = w := by
  go_enter Try.func49, Try.ntmps49
  go_wp2
  refine wp_loop_rounds 1 ?_
  rw [rounds_succ]
  go_wp2
  go_ret
  exact ⟨rfl, rfl⟩

theorem index_any (a : Option Addr) (cap : Nat) (xs : List Int) (n : Int) (w : World) (hs : At w a xs) (hl : xs.length ≤ maxLen) :
    Calls Try.prog 49 #[.slice a xs.length cap, .int .i64 n] w fun e w' => e = .returned (.int .i64 (idxFrom n 0 xs)) ∧ w' = w := by
  rcases hs with rfl | ⟨b, off, rfl, -, hc⟩
  · exact index_nil a cap n w
  · exact index_some b off cap xs n w hl hc

set_option maxHeartbeats 400000 in
theorem contains_any (a : Option Addr) (cap : Nat) (xs : List Int) (n : Int) (w : World) (hs : At w a xs) (hl : xs.length ≤ maxLen) :
    Calls Try.prog 42 #[.slice a xs.length cap, .int .i64 n] w fun e w' => e = .returned (.bool (hasB xs n)) ∧ w' = w := by
  go_enter Try.func42, Try.ntmps42
  go_wp2_with fail
  refine (index_any a cap xs n _ hs hl).mono ?_
  rintro e w' ⟨rfl, rfl⟩
  go_wp2
  go_ret
  exact ⟨ret_bool (idx_has n xs 0), rfl⟩

set_option maxHeartbeats 400000 in
theorem rowHas_any (a : Option Addr) (cap : Nat) (xs : List Int) (n : Int) (w : World) (hs : At w a xs) (hl : xs.length ≤ maxLen) :
    Calls Try.prog 32 #[.slice a xs.length cap, .int .i64 n] w fun e w' => e = .returned (.bool (hasB xs n)) ∧ w' = w := by
  go_enter Try.func32, Try.ntmps32
  go_wp2_with fail
  refine (contains_any a cap xs n _ hs hl).mono ?_
  rintro e w' ⟨rfl, rfl⟩
  go_wp2
  go_ret
  exact ⟨rfl, rfl⟩

end Go.Proofs.Ytdnglodemkeooaa
namespace Go.Proofs.Ytdnglodemkeooaa
open Go.RowKit

theorem rowB_start1 {n : Int} (h : n ≤ 2147483648) (xs : List Int) : rowB n xs = goIs (-1) n xs := by unfold rowB; rw [show min n 2147483648 = n by omega]
theorem rowB_start2 {n : Int} (h : 2147483648 < n) (xs : List Int) : rowB n xs = goIs (-1) 2147483648 xs := by unfold rowB; rw [show min n 2147483648 = 2147483648 by omega]

set_option maxHeartbeats 400000 in
theorem rowIs_some (b off cap : Nat) (xs : List Int) (n : Int) (w : World) (hl : xs.length ≤ 9223372036854775807) (hc : Cells w b off xs) :
    Calls Try.prog 25 #[.slice (some ⟨b, off, none⟩) xs.length cap, .int .i64 n] w fun e w' => e = .returned (.bool (rowB n xs)) ∧ w' = w := by
  by_cases hn : n ≤ 2147483648
  · have HS : Hid (rowB n xs = goIs (-1) n (xs.drop 0)) := rowB_start1 hn xs
    go_enter Try.func25, Try.ntmps25
    go_wp2
    go_loop [5, 12] (fun l i => ∃ (k : Nat) (last : Int), k ≤ xs.length ∧ i = .int .i64 k ∧ l = .int .i64 last ∧ Hid (rowB n xs = goIs last n (xs.drop k))) (fun _ i => xs.length - (intOf i).toNat)
    case atStart => exact ⟨0, -1, Nat.zero_le _, rfl, rfl, HS⟩
    case round =>
      obtain ⟨k, last, hk, rfl, rfl, he⟩ := hrel
      by_cases hlt : k < xs.length
      · obtain ⟨x, HX, hcell⟩ := hc.at hlt
        by_cases h1 : x ≤ last
        · go_wp2
          go_ret
          exact ⟨ret_bool (is_no hlt he HX (.inl h1)), rfl⟩
        · by_cases h2 : n ≤ x
          · go_wp2
            go_ret
            exact ⟨ret_bool (is_no hlt he HX (.inr h2)), rfl⟩
          · go_wp2
            go_round
            case rel => exact ⟨k + 1, x, by omega, by go_num, rfl, is_yes hlt he HX (by omega)⟩
            case measure => simp [intOf]; omega
      · go_wp2
        go_ret
        exact ⟨ret_bool (is_end hlt he), rfl⟩
  · have HS : Hid (rowB n xs = goIs (-1) 2147483648 (xs.drop 0)) := rowB_start2 (by omega) xs
    go_enter Try.func25, Try.ntmps25
    go_wp2
    go_loop [5, 12] (fun l i => ∃ (k : Nat) (last : Int), k ≤ xs.length ∧ i = .int .i64 k ∧ l = .int .i64 last ∧ Hid (rowB n xs = goIs last 2147483648 (xs.drop k))) (fun _ i => xs.length - (intOf i).toNat)
    case atStart => exact ⟨0, -1, Nat.zero_le _, rfl, rfl, HS⟩
    case round =>
      obtain ⟨k, last, hk, rfl, rfl, he⟩ := hrel
      by_cases hlt : k < xs.length
      · obtain ⟨x, HX, hcell⟩ := hc.at hlt
        by_cases h1 : x ≤ last
        · go_wp2
          go_ret
          exact ⟨ret_bool (is_no hlt he HX (.inl h1)), rfl⟩
        · by_cases h2 : 2147483648 ≤ x
          · go_wp2
            go_ret
            exact ⟨ret_bool (is_no hlt he HX (.inr h2)), rfl⟩
          · go_wp2
            go_round
            case rel => exact ⟨k + 1, x, by omega, by go_num, rfl, is_yes hlt he HX (by omega)⟩
            case measure => simp [intOf]; omega
      · go_wp2
        go_ret
        exact ⟨ret_bool (is_end hlt he), rfl⟩

set_option maxHeartbeats 400000 in
theorem rowIs_nil (a : Option Addr) (cap : Nat) (n : Int) (w : World) :
    Calls Try.prog 25 #[.slice a 0 cap, .int .i64 n] w fun e w' => e = .returned (.bool true) ∧ w' = w := by
  go_enter Try.func25, Try.ntmps25
  go_wp2
  all_goals
    refine wp_loop_rounds 1 ?_
    rw [rounds_succ]
    go_wp2
    go_ret
    exact ⟨rfl, rfl⟩

theorem rowIs_any (a : Option Addr) (cap : Nat) (xs : List Int) (n : Int) (w : World) (hs : At w a xs) (hl : xs.length ≤ maxLen) :
    Calls Try.prog 25 #[.slice a xs.length cap, .int .i64 n] w fun e w' => e = .returned (.bool (rowB n xs)) ∧ w' = w := by
  rcases hs with rfl | ⟨b, off, rfl, -, hc⟩
  · exact rowIs_nil a cap n w
  · exact rowIs_some b off cap xs n w hl hc

end Go.Proofs.Ytdnglodemkeooaa
namespace Go.Proofs.Ytdnglodemkeooaa
open Go.RowKit
set_option linter.unusedVariables false

theorem AtB.at {w : World} {B : Nat} {a : Option Addr} {xs : List Int} (h : AtB w B a xs) (hB : B ≤ w.heap.size) : At w a xs := by
  rcases h with h | ⟨b, off, rfl, hlt, hc⟩
  · exact .inl h
  · exact .inr ⟨b, off, rfl, by omega, hc⟩

/-- Not both are empty. -/
def NE (xs ys : List Int) : Prop := ¬ (xs = [] ∧ ys = [])

/-- What a closure that says whether a number stays is good for. -/
def StaysSaid (F B : Nat) (a1 : Option Addr) (c1 : Nat) (xs : List Int) (a2 : Option Addr) (c2 : Nat) (ys : List Int) (st : Int → Bool) : Prop :=
  ∀ (w : World) (n : Int), PI w B a1 c1 xs a2 c2 ys n → Calls Try.prog F #[.int .i64 n, .pointer (some ⟨B + 4, 0, none⟩), .pointer (some ⟨B + 5, 0, none⟩)] w fun e w' => e = .returned (.bool (st n)) ∧ PI w' B a1 c1 xs a2 c2 ys n ∧ Kept (fun k => k ≠ B + 1 ∧ k ≠ B + 3) w w'

/-- What holds at the head of each round of pick. -/
structure PR (w wr : World) (B : Nat) (a1 : Option Addr) (c1 : Nat) (xs : List Int) (a2 : Option Addr) (c2 : Nat) (ys : List Int) (st : Int → Bool) (p1 : Option Addr) (d1 : Nat) (xs' : List Int) (p2 : Option Addr) (d2 : Nat) (ys' : List Int) (v : Value) (L : List Int) (m : Int) : Prop where
  r1 : AtB wr B p1 xs'
  r2 : AtB wr B p2 ys'
  k1 : xs'.length ≤ d1
  k2 : ys'.length ≤ d2
  m1 : d1 ≤ maxLen
  m2 : d2 ≤ maxLen
  i1 : Inc xs'
  i2 : Inc ys'
  g1 : ∀ z ∈ xs', m ≤ z
  g2 : ∀ z ∈ ys', m ≤ z
  pi : PI wr B a1 c1 xs a2 c2 ys m
  own : Own wr (B + 6) v L
  bel : Below B w wr
  hsz : B + 6 ≤ wr.heap.size
  eq : (uni xs ys).filter st = L ++ (uni xs' ys').filter st

/-- The length of a slice value. -/
def lenSl : Value → Nat
  | .slice _ n _ => n
  | _ => 0

theorem pi_drewN {w : World} {B : Nat} {a1 : Option Addr} {c1 : Nat} {xs : List Int} {a2 : Option Addr} {c2 : Nat} {ys : List Int} {n : Int} (h : PI w B a1 c1 xs a2 c2 ys n) (q : Nat) : PI (w.drewN q) B a1 c1 xs a2 c2 ys n := h.kept ⟨rfl, rfl, rfl, Nat.le_refl _, fun _ _ => rfl⟩
theorem atB_drewN {w : World} {B : Nat} {a : Option Addr} {xs : List Int} (h : AtB w B a xs) (q : Nat) : AtB (w.drewN q) B a xs := h

theorem Own.kept {w w' : World} {B : Nat} {v : Value} {xs : List Int} {K : Nat → Prop} (h : Own w B v xs) (hk : Kept K w w') (hK : ∀ k, B ≤ k → K k) : Own w' B v xs := by
  refine ⟨h.1, ?_⟩
  rcases h.2 with hn | ⟨g, cap, cur, rfl, hb, hgg, rest⟩
  · exact .inl hn
  · exact .inr ⟨g, cap, cur, rfl, hb, (hk.block g (hK g hb)).trans hgg, rest⟩

theorem kept_of_drewN {K : Nat → Prop} {a w : World} {q : Nat} (h : Kept K (a.drewN q) w) : Kept K a w := ⟨h.os, h.tape, h.output, h.size, h.block⟩

section
variable {w wr w2 : World} {B : Nat} {a1 : Option Addr} {c1 : Nat} {xs : List Int} {a2 : Option Addr} {c2 : Nat} {ys : List Int} {st : Int → Bool} {p1 : Option Addr} {d1 : Nat} {xs' : List Int} {p2 : Option Addr} {d2 : Nat} {ys' : List Int} {v : Value} {L : List Int} {m : Int} {p1' : Option Addr} {d1' : Nat} {p2' : Option Addr} {d2' : Nat} {q : Nat}

theorem PR.drop (hr : PR w wr B a1 c1 xs a2 c2 ys st p1 d1 xs' p2 d2 ys' v L m) (hne : NE xs' ys')
    (s1 : AtB (wr.drewN q) B p1' (rem xs' (fst xs' ys'))) (s2 : (rem xs' (fst xs' ys')).length ≤ d1') (s3 : d1' ≤ maxLen) (t1 : AtB (wr.drewN q) B p2' (rem ys' (fst xs' ys'))) (t2 : (rem ys' (fst xs' ys')).length ≤ d2') (t3 : d2' ≤ maxLen)
    (hpi : PI w2 B a1 c1 xs a2 c2 ys (fst xs' ys')) (hk : Kept (fun k => k ≠ B + 1 ∧ k ≠ B + 3) (wr.drewN q) w2) (hs : st (fst xs' ys') = false) :
    PR w w2 B a1 c1 xs a2 c2 ys st p1' d1' (rem xs' (fst xs' ys')) p2' d2' (rem ys' (fst xs' ys')) v L (fst xs' ys') where
  r1 := s1.kept hk (fun k h => by omega)
  r2 := t1.kept hk (fun k h => by omega)
  k1 := s2
  k2 := t2
  m1 := s3
  m2 := t3
  i1 := inc_rem _ hr.i1
  i2 := inc_rem _ hr.i2
  g1 := fun z hz => Int.le_of_lt ((rem_low hr.i1 hr.i2).1 z hz)
  g2 := fun z hz => Int.le_of_lt ((rem_low hr.i1 hr.i2).2 z hz)
  pi := hpi
  own := hr.own.kept (kept_of_drewN hk) (fun k h => by omega)
  bel := hr.bel.trans ((kept_of_drewN hk).below (fun k h => by omega))
  hsz := Nat.le_trans hr.hsz hk.size
  eq := by rw [hr.eq, uni_step _ _ hne, List.filter_cons, hs]; rfl

theorem PR.keep {w3 : World} {v' : Value} {o : Obj} (hr : PR w wr B a1 c1 xs a2 c2 ys st p1 d1 xs' p2 d2 ys' v L m) (hne : NE xs' ys')
    (s1 : AtB (wr.drewN q) B p1' (rem xs' (fst xs' ys'))) (s2 : (rem xs' (fst xs' ys')).length ≤ d1') (s3 : d1' ≤ maxLen) (t1 : AtB (wr.drewN q) B p2' (rem ys' (fst xs' ys'))) (t2 : (rem ys' (fst xs' ys')).length ≤ d2') (t3 : d2' ≤ maxLen)
    (hpi : PI w2 B a1 c1 xs a2 c2 ys (fst xs' ys')) (hk : Kept (fun k => k ≠ B + 1 ∧ k ≠ B + 3) (wr.drewN q) w2) (hs : st (fst xs' ys') = true)
    (hown' : w3.ownsRow (B + 6) 3 1 v' (L.length + 1) (L.map (Value.int .i64) ++ [.int .i64 (fst xs' ys')])) (hgrow : (w2.alloc o).grownBy w3 v.ownBlock) :
    PR w w3 B a1 c1 xs a2 c2 ys st p1' d1' (rem xs' (fst xs' ys')) p2' d2' (rem ys' (fst xs' ys')) v' (L ++ [fst xs' ys']) (fst xs' ys') := by
  have hsz2 : B + 6 ≤ w2.heap.size := Nat.le_trans hr.hsz hk.size
  obtain ⟨o1, o2, o3⟩ := own_snoc (w := w2) (hr.own.kept (kept_of_drewN hk) (fun k h => by omega)) (Below.refl _ _) hsz2 hown' hgrow
  have hk3 : Kept (fun k => k < B + 6) w2 w3 := ⟨o2.os, o2.tape, o2.output, o2.size, o2.block⟩
  exact {
    r1 := (s1.kept hk (fun k h => by omega)).kept hk3 (fun k h => by omega)
    r2 := (t1.kept hk (fun k h => by omega)).kept hk3 (fun k h => by omega)
    k1 := s2
    k2 := t2
    m1 := s3
    m2 := t3
    i1 := inc_rem _ hr.i1
    i2 := inc_rem _ hr.i2
    g1 := fun z hz => Int.le_of_lt ((rem_low hr.i1 hr.i2).1 z hz)
    g2 := fun z hz => Int.le_of_lt ((rem_low hr.i1 hr.i2).2 z hz)
    pi := hpi.kept hk3
    own := o1
    bel := (hr.bel.trans ((kept_of_drewN hk).below (fun k h => by omega))).trans (o2.mono (by omega))
    hsz := o3
    eq := by rw [hr.eq, uni_step _ _ hne, List.filter_cons, hs]; simp }

theorem PR.room (hr : PR w wr B a1 c1 xs a2 c2 ys st p1 d1 xs' p2 d2 ys' v L m) : L.length ≤ xs.length + ys.length := by
  have h := congrArg List.length hr.eq
  have h1 := List.length_filter_le st (uni xs ys)
  have h2 := uni_len_le xs ys
  rw [List.length_append] at h
  omega
end

end Go.Proofs.Ytdnglodemkeooaa
namespace Go.Proofs.Ytdnglodemkeooaa
open Go.RowKit
set_option linter.unusedVariables false

set_option maxHeartbeats 2000000 in
set_option maxRecDepth 100000 in
theorem join_pick (w : World) (B : Nat) (a1 : Option Addr) (c1 : Nat) (xs : List Int) (a2 : Option Addr) (c2 : Nat) (ys : List Int) (st : Int → Bool) (hst : StaysSaid 28 B a1 c1 xs a2 c2 ys st)
    (hp : PI w B a1 c1 xs a2 c2 ys (-1)) (h1 : AtB w B a1 xs) (h2 : AtB w B a2 ys) (k1 : xs.length ≤ c1) (k2 : ys.length ≤ c2) (m1 : c1 ≤ maxLen) (m2 : c2 ≤ maxLen) (hB : B + 6 ≤ w.heap.size)
    (hx : Hid (rowB 2147483648 xs = true)) (hy : Hid (rowB 2147483648 ys = true)) :
    Calls Try.prog 27 #[.slice a1 xs.length c1, .slice a2 ys.length c2, .func (.func 28) #[] #[.pointer (some ⟨B + 4, 0, none⟩), .pointer (some ⟨B + 5, 0, none⟩)]] w fun e w' => ∃ v, e = .returned (.tuple #[v, .int .i64 0]) ∧ Own w' (B + 6) v ((uni xs ys).filter st) ∧ Below B w w' := by
  obtain ⟨i0, hi, hz0, hz1, hz2⟩ := info_parts Try.infoInt
  have hlx := rowB_len hx.out
  have hly := rowB_len hy.out
  go_enter Try.func27, Try.ntmps27
  go_wp2_with fail
  refine (rowIs_any a1 c1 xs 2147483648 _ (h1.at (by omega)) (by omega)).mono ?_
  rintro e w' ⟨rfl, rfl⟩
  rw [hx.out]
  go_wp2_with fail
  refine (rowIs_any a2 c2 ys 2147483648 _ (h2.at (by omega)) (by omega)).mono ?_
  rintro e w' ⟨rfl, rfl⟩
  rw [hy.out]
  go_wp2_with fail
  go_loopw [0, 1, 8] (fun v0 v1 v wr => ∃ p1 d1 xs' p2 d2 ys' L m, v0 = .slice p1 xs'.length d1 ∧ v1 = .slice p2 ys'.length d2 ∧ PR w' wr B a1 c1 xs a2 c2 ys st p1 d1 xs' p2 d2 ys' v L m) (fun v0 v1 _ _ => lenSl v0 + lenSl v1)
  case atStart => exact ⟨a1, c1, xs, a2, c2, ys, [], -1, rfl, rfl, ⟨h1, h2, k1, k2, m1, m2, rowB_inc hx.out, rowB_inc hy.out, fun z hz => by have := rowB_bd hx.out z hz; omega, fun z hz => by have := rowB_bd hy.out z hz; omega, hp, own_nil _ _, Below.refl _ _, hB, rfl⟩⟩
  case round =>
    obtain ⟨p1, d1, xs', p2, d2, ys', L, m, rfl, rfl, hr⟩ := hrel
    clear hp h1 h2 k1 k2 m1 m2 hB
    have k1 := hr.k1
    have k2 := hr.k2
    have m1 := hr.m1
    have m2 := hr.m2
    have hsz := hr.hsz
    unfold maxLen at m1 m2
    by_cases hne : xs' = [] ∧ ys' = []
    · obtain ⟨rfl, rfl⟩ := hne
      have hown := hr.own
      have heq := hr.eq
      have hbel := hr.bel
      rw [show uni [] [] = [] from rfl, List.filter_nil, List.append_nil] at heq
      rw [← heq] at hown
      clear heq
      go_wp2
      go_ret2
      exact ⟨_, rfl, hown, hbel⟩
    · have HNE : NE xs' ys' := hne
      by_cases e1 : 0 < xs'.length
      · clear hne
        go_wp2_with fail
        refine (first_any p1 p2 d1 d2 xs' ys' _ HNE (hr.r1.at (by omega)) (hr.r2.at (by omega)) (by unfold maxLen; omega) (by unfold maxLen; omega)).mono ?_
        rintro e w1 ⟨rfl, q, rfl⟩
        go_wp2_with fail
        refine (behind_any p1 d1 B xs' _ _ (atB_drewN hr.r1 q) k1 hr.m1).mono ?_
        rintro e w1 ⟨⟨p1', d1', rfl, s1, s2, s3⟩, rfl⟩
        go_wp2_with fail
        refine (behind_any p2 d2 B ys' _ _ (atB_drewN hr.r2 q) k2 hr.m2).mono ?_
        rintro e w1 ⟨⟨p2', d2', rfl, t1, t2, t3⟩, rfl⟩
        go_wp2_with fail
        refine (hst _ _ ((pi_drewN hr.pi q).mono (fst_ge HNE hr.g1 hr.g2))).mono ?_
        rintro e w2 ⟨rfl, hpi, hkept⟩
        have hlt := rem_lenlt xs' ys' HNE
        have hroom := hr.room
        by_cases hs : st (fst xs' ys') = true
        · have HS : Hid (st (fst xs' ys') = true) := hs
          have hown2 : Own w2 (B + 6) _ L := hr.own.kept (kept_of_drewN hkept) (fun k h => by omega)
          have hsz2 : B + 6 ≤ w2.heap.size := Nat.le_trans hr.hsz hkept.size
          go_wp2_with (at_builtin; refine wpList_append_own _ rfl _ _ 22 rfl (B + 6) 3 i0 (.int .i64 0) 1 8 Try.underlying22 hi hz0 hz1 hz2 rfl (by decide) _ _ _ rfl (World.ownsRow.alloc hown2 _) ⟨w2.heap.size, 0, none⟩ 1 1 [.int .i64 (fst xs' ys')] rfl rfl (cell_one_new _ _ _) (by intro u hu; simp at hu; subst hu; rfl) (by unfold maxLen; omega) (by omega) (by simp; omega) ?_)
          intro v' w3 hown' hgrow _
          have R := hr.keep HNE s1 s2 s3 t1 t2 t3 hpi hkept HS.out hown' hgrow
          clear hown' hgrow hown2 hr hpi hkept s1 t1
          go_wp2
          go_roundw
          case rel => exact ⟨p1', d1', _, p2', d2', _, _, _, rfl, rfl, R⟩
          case measure => simp only [lenSl]; exact hlt
        · have hs : st (fst xs' ys') = false := by simpa using hs
          have R := hr.drop HNE s1 s2 s3 t1 t2 t3 hpi hkept hs
          go_wp2
          go_roundw
          case rel => exact ⟨p1', d1', _, p2', d2', _, _, _, rfl, rfl, R⟩
          case measure => simp only [lenSl]; exact hlt
      · have e0 : xs' = [] := List.eq_nil_of_length_eq_zero (by omega)
        subst e0
        have e2 : 0 < ys'.length := List.length_pos_iff.2 (fun h => hne ⟨rfl, h⟩)
        clear hne e1
        go_wp2_with fail
        refine (first_any p1 p2 d1 d2 [] ys' _ HNE (hr.r1.at (by omega)) (hr.r2.at (by omega)) (by unfold maxLen; omega) (by unfold maxLen; omega)).mono ?_
        rintro e w1 ⟨rfl, q, rfl⟩
        go_wp2_with fail
        refine (behind_any p1 d1 B [] _ _ (atB_drewN hr.r1 q) k1 hr.m1).mono ?_
        rintro e w1 ⟨⟨p1', d1', rfl, s1, s2, s3⟩, rfl⟩
        go_wp2_with fail
        refine (behind_any p2 d2 B ys' _ _ (atB_drewN hr.r2 q) k2 hr.m2).mono ?_
        rintro e w1 ⟨⟨p2', d2', rfl, t1, t2, t3⟩, rfl⟩
        go_wp2_with fail
        refine (hst _ _ ((pi_drewN hr.pi q).mono (fst_ge HNE hr.g1 hr.g2))).mono ?_
        rintro e w2 ⟨rfl, hpi, hkept⟩
        have hlt := rem_lenlt [] ys' HNE
        have hroom := hr.room
        by_cases hs : st (fst [] ys') = true
        · have HS : Hid (st (fst [] ys') = true) := hs
          have hown2 : Own w2 (B + 6) _ L := hr.own.kept (kept_of_drewN hkept) (fun k h => by omega)
          have hsz2 : B + 6 ≤ w2.heap.size := Nat.le_trans hr.hsz hkept.size
          go_wp2_with (at_builtin; refine wpList_append_own _ rfl _ _ 22 rfl (B + 6) 3 i0 (.int .i64 0) 1 8 Try.underlying22 hi hz0 hz1 hz2 rfl (by decide) _ _ _ rfl (World.ownsRow.alloc hown2 _) ⟨w2.heap.size, 0, none⟩ 1 1 [.int .i64 (fst [] ys')] rfl rfl (cell_one_new _ _ _) (by intro u hu; simp at hu; subst hu; rfl) (by unfold maxLen; omega) (by omega) (by simp; omega) ?_)
          intro v' w3 hown' hgrow _
          have R := hr.keep HNE s1 s2 s3 t1 t2 t3 hpi hkept HS.out hown' hgrow
          clear hown' hgrow hown2 hr hpi hkept s1 t1
          go_wp2
          go_roundw
          case rel => exact ⟨p1', d1', _, p2', d2', _, _, _, rfl, rfl, R⟩
          case measure => simp only [lenSl]; exact hlt
        · have hs : st (fst [] ys') = false := by simpa using hs
          have R := hr.drop HNE s1 s2 s3 t1 t2 t3 hpi hkept hs
          go_wp2
          go_roundw
          case rel => exact ⟨p1', d1', _, p2', d2', _, _, _, rfl, rfl, R⟩
          case measure => simp only [lenSl]; exact hlt

end Go.Proofs.Ytdnglodemkeooaa
namespace Go.Proofs.Ytdnglodemkeooaa
open Go.RowKit
set_option linter.unusedVariables false

set_option maxHeartbeats 400000 in
theorem within_any (b : Int) (w : World) :
    Calls Try.prog 44 #[.int .i64 b] w fun e w' => e = .returned (.func (.func 50) #[] #[.pointer (some ⟨w.heap.size, 0, none⟩)]) ∧ w' = w.alloc (.cells #[.int .i64 b] 3) := by
  have hmf : ∀ (fn : Fn) (first cap : Array Value) (w : World), (Instr.makeFunc fn first cap).run Try.prog w = .ok (.func fn first cap) w := fun _ _ _ _ => rfl
  go_enter Try.func44, Try.ntmps44
  go_wp2
  go_ret
  exact ⟨rfl, rfl⟩

/-- Is a number from 0 to below a bound? -/
def inB (b n : Int) : Bool := decide (0 ≤ n ∧ n < b)

set_option maxHeartbeats 400000 in
theorem within1_any (b n : Int) (B : Nat) (w : World) (hc : w.cell? ⟨B, 0, none⟩ = some (.int .i64 b)) :
    Calls Try.prog 50 #[.int .i64 n, .pointer (some ⟨B, 0, none⟩)] w fun e w' => e = .returned (.bool (inB b n)) ∧ w' = w := by
  by_cases h1 : 0 ≤ n
  · by_cases h2 : n < b
    · have hr : Hid (true = inB b n) := show true = inB b n by simp [inB, h1, h2]
      have f1 : decide (0 ≤ n) = true := by simpa using h1
      have f2 : decide (n < b) = true := by simpa using h2
      go_enter Try.func50, Try.ntmps50
      go_wp2
      go_ret
      exact ⟨ret_bool hr.out, rfl⟩
    · have hr : Hid (false = inB b n) := show false = inB b n by simp [inB]; omega
      have f1 : decide (0 ≤ n) = true := by simpa using h1
      have f2 : decide (n < b) = false := by simpa using h2
      go_enter Try.func50, Try.ntmps50
      go_wp2
      go_ret
      exact ⟨ret_bool hr.out, rfl⟩
  · have hr : Hid (false = inB b n) := show false = inB b n by simp [inB]; omega
    have f1 : decide (0 ≤ n) = false := by simpa using h1
    go_enter Try.func50, Try.ntmps50
    go_wp2
    go_ret
    exact ⟨ret_bool hr.out, rfl⟩

end Go.Proofs.Ytdnglodemkeooaa
namespace Go.Proofs.Ytdnglodemkeooaa
open Go.RowKit
set_option linter.unusedVariables false
set_option maxRecDepth 100000

set_option maxHeartbeats 400000 in
theorem isNaN_any (x : Int) (w : World) : Calls Try.prog 48 #[.int .i64 x] w fun e w' => e = .returned (.bool false) ∧ w' = w := by
  have h : (x != x) = false := by simp
  go_enter Try.func48, Try.ntmps48
  go_wp2
  go_ret
  exact ⟨rfl, rfl⟩

/-- -1, 0 or 1. -/
def cmpI (x y : Int) : Int := if x < y then -1 else if y < x then 1 else 0

theorem ret_i64 {a b : Int} (h : a = b) : Ending.returned (.int .i64 a) = .returned (.int .i64 b) := by rw [h]

set_option maxHeartbeats 1000000 in
theorem cmp_any (x y : Int) (w : World) : Calls Try.prog 41 #[.int .i64 x, .int .i64 y] w fun e w' => e = .returned (.int .i64 (cmpI x y)) ∧ w' = w := by
  have c1 := isNaN_any x
  have c2 := isNaN_any y
  by_cases h1 : x < y
  · have hr : Hid ((-1 : Int) = cmpI x y) := by show _ = _; simp [cmpI, h1]
    have f1 : decide (x < y) = true := by simpa using h1
    go_enter Try.func41, Try.ntmps41
    go_wp2_with (first | (go_at_call 48; refine (c1 _).mono ?_; rintro e w' ⟨rfl, rfl⟩) | (go_at_call 48; refine (c2 _).mono ?_; rintro e w' ⟨rfl, rfl⟩))
    go_ret
    exact ⟨ret_i64 hr.out, rfl⟩
  · have f1 : decide (x < y) = false := by simpa using h1
    by_cases h2 : y < x
    · have hr : Hid ((1 : Int) = cmpI x y) := by show _ = _; simp [cmpI, h1, h2]
      have f2 : decide (y < x) = true := by simpa using h2
      go_enter Try.func41, Try.ntmps41
      go_wp2_with (first | (go_at_call 48; refine (c1 _).mono ?_; rintro e w' ⟨rfl, rfl⟩) | (go_at_call 48; refine (c2 _).mono ?_; rintro e w' ⟨rfl, rfl⟩))
      go_ret
      exact ⟨ret_i64 hr.out, rfl⟩
    · have hr : Hid ((0 : Int) = cmpI x y) := by show _ = _; simp [cmpI, h1, h2]
      have f2 : decide (y < x) = false := by simpa using h2
      go_enter Try.func41, Try.ntmps41
      go_wp2_with (first | (go_at_call 48; refine (c1 _).mono ?_; rintro e w' ⟨rfl, rfl⟩) | (go_at_call 48; refine (c2 _).mono ?_; rintro e w' ⟨rfl, rfl⟩))
      go_ret
      exact ⟨ret_i64 hr.out, rfl⟩

/-- The first that is not 0. -/
def orI (x y z : Int) : Int := if x = 0 then (if y = 0 then z else y) else x

set_option maxHeartbeats 1000000 in
theorem or_any (x y z : Int) (b : Nat) (w : World) (h0 : w.cell? ⟨b, 0, none⟩ = some (.int .i64 x)) (h1 : w.cell? ⟨b, 1, none⟩ = some (.int .i64 y)) (h2 : w.cell? ⟨b, 2, none⟩ = some (.int .i64 z)) :
    Calls Try.prog 51 #[.slice (some ⟨b, 0, none⟩) 3 3] w fun e w' => e = .returned (.int .i64 (orI x y z)) ∧ w' = w := by
  by_cases e0 : x = 0
  · subst e0
    by_cases e1 : y = 0
    · subst e1
      by_cases e2 : z = 0
      · subst e2
        go_enter Try.func51, Try.ntmps51
        go_wp2
        refine wp_loop_rounds 4 ?_
        rw [rounds_succ]
        go_wp2
        rw [rounds_succ]
        go_wp2
        rw [rounds_succ]
        go_wp2
        rw [rounds_succ]
        go_wp2
        go_ret
        exact ⟨ret_i64 (by simp [orI]), rfl⟩
      · have f2 : (z == 0) = false := by simpa using e2
        have f2' : (z != 0) = true := by simpa using e2
        have hr : Hid (z = orI 0 0 z) := by show _ = _; simp [orI]
        go_enter Try.func51, Try.ntmps51
        go_wp2
        refine wp_loop_rounds 4 ?_
        rw [rounds_succ]
        go_wp2
        rw [rounds_succ]
        go_wp2
        rw [rounds_succ]
        go_wp2
        go_ret
        exact ⟨ret_i64 hr.out, rfl⟩
    · have f1 : (y == 0) = false := by simpa using e1
      have f1' : (y != 0) = true := by simpa using e1
      have hr : Hid (y = orI 0 y z) := by show _ = _; simp [orI, e1]
      go_enter Try.func51, Try.ntmps51
      go_wp2
      refine wp_loop_rounds 4 ?_
      rw [rounds_succ]
      go_wp2
      rw [rounds_succ]
      go_wp2
      go_ret
      exact ⟨ret_i64 hr.out, rfl⟩
  · have f0 : (x == 0) = false := by simpa using e0
    have f0' : (x != 0) = true := by simpa using e0
    have hr : Hid (x = orI x y z) := by show _ = _; simp [orI, e0]
    go_enter Try.func51, Try.ntmps51
    go_wp2
    refine wp_loop_rounds 4 ?_
    rw [rounds_succ]
    go_wp2
    go_ret
    exact ⟨ret_i64 hr.out, rfl⟩

/-- Which of two arrows stands ahead, by its sign. -/
def cmpA (a b : Arr) : Int := orI (cmpI a.f b.f) (cmpI a.e b.e) (cmpI a.t b.t)

theorem cmpA_ahead (a b : Arr) : decide (0 ≤ cmpA a b) = !aheadB a b := by
  unfold cmpA aheadB orI cmpI
  by_cases h1 : a.f < b.f
  · simp [h1, show ¬ a.f = b.f by omega]
  · by_cases h2 : b.f < a.f
    · simp [h1, h2, show ¬ a.f = b.f by omega]
    · have e : a.f = b.f := by omega
      by_cases h3 : a.e < b.e
      · simp [e, h3, show ¬ a.e = b.e by omega]
      · by_cases h4 : b.e < a.e
        · simp [e, h3, h4, show ¬ a.e = b.e by omega]
        · have e' : a.e = b.e := by omega
          by_cases h5 : a.t < b.t
          · simp [e, e', h5]
          · by_cases h6 : b.t < a.t
            · simp [e, e', h5, h6]
            · simp [e, e', h5, h6]

end Go.Proofs.Ytdnglodemkeooaa
namespace Go.Proofs.Ytdnglodemkeooaa
open Go.RowKit
set_option linter.unusedVariables false

/-- An arrow's cells. -/
abbrev acells (a : Arr) : Array Value := #[.int .i64 a.f, .int .i64 a.e, .int .i64 a.t]

set_option maxRecDepth 100000 in
set_option maxHeartbeats 4000000 in
theorem compare_any (a b : Arr) (w : World) :
    Calls Try.prog 45 #[.agg (acells a), .agg (acells b)] w fun e w' => e = .returned (.int .i64 (cmpA a b)) ∧ Below w.heap.size w w' := by
  have k1 : Blk ((w.alloc (.cells (acells a) 50)).alloc (.cells (acells b) 50)) w.heap.size 50 (acells a) := (Blk.new w _ _).alloc _
  have k2 : Blk ((w.alloc (.cells (acells a) 50)).alloc (.cells (acells b) 50)) (w.heap.size + 1) 50 (acells b) := by
    have := Blk.new (w.alloc (.cells (acells a) 50)) 50 (acells b)
    rwa [World.size_alloc] at this
  have hB : Below w.heap.size w ((w.alloc (.cells (acells a) 50)).alloc (.cells (acells b) 50)) := ((Below.refl _ _).alloc (Nat.le_refl _) _).alloc (by simp) _
  have hsz : ((w.alloc (.cells (acells a) 50)).alloc (.cells (acells b) 50)).heap.size = w.heap.size + 2 := by simp
  have K1 := Hid.of k1
  have K2 := Hid.of k2
  have HB := Hid.of hB
  have HS := Hid.of hsz
  clear k1 k2 hB hsz
  go_enter Try.func45, Try.ntmps45
  go_wp2
  revert K1 K2 HB HS
  generalize (w.alloc (.cells (acells a) 50)).alloc (.cells (acells b) 50) = V
  intro K1 K2 HB HS
  have a0 : V.cell? ⟨w.heap.size, 0, none⟩ = some (.int .i64 a.f) := K1.out.cell 0 rfl
  have a1 : V.cell? ⟨w.heap.size, 1, none⟩ = some (.int .i64 a.e) := K1.out.cell 1 rfl
  have a2 : V.cell? ⟨w.heap.size, 2, none⟩ = some (.int .i64 a.t) := K1.out.cell 2 rfl
  have b0 : V.cell? ⟨w.heap.size + 1, 0, none⟩ = some (.int .i64 b.f) := K2.out.cell 0 rfl
  have b1 : V.cell? ⟨w.heap.size + 1, 1, none⟩ = some (.int .i64 b.e) := K2.out.cell 1 rfl
  have b2 : V.cell? ⟨w.heap.size + 1, 2, none⟩ = some (.int .i64 b.t) := K2.out.cell 2 rfl
  have hs := HS.out
  have hn1 : w.heap.size < V.heap.size := by omega
  have hn2 : w.heap.size + 1 < V.heap.size := by omega
  have n1 := World.new_ne V _ a0
  have n2 := World.new_ne V _ b0
  go_region_held3 (fun w' => w'.cell? ⟨w.heap.size, 0, none⟩ = some (.int .i64 a.f) ∧ w'.cell? ⟨w.heap.size, 1, none⟩ = some (.int .i64 a.e) ∧ w'.cell? ⟨w.heap.size, 2, none⟩ = some (.int .i64 a.t) ∧ w'.cell? ⟨w.heap.size + 1, 0, none⟩ = some (.int .i64 b.f) ∧ w'.cell? ⟨w.heap.size + 1, 1, none⟩ = some (.int .i64 b.e) ∧ w'.cell? ⟨w.heap.size + 1, 2, none⟩ = some (.int .i64 b.t)) (go_keep) (first | (go_at_call 41; refine (cmp_any _ _ _).mono ?_; rintro e w1 ⟨rfl, rfl⟩) | (go_at_call 51; refine (or_any (cmpI a.f b.f) (cmpI a.e b.e) (cmpI a.t b.t) _ _ (by go_simp) (by go_simp) (by go_simp)).mono ?_; rintro e w1 ⟨rfl, rfl⟩))
  go_wp2
  go_ret
  exact ⟨rfl, (HB.out.alloc HB.out.size _).drew⟩

end Go.Proofs.Ytdnglodemkeooaa
