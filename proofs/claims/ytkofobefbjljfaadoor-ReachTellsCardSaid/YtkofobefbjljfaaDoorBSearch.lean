/-
  The walks of cmp.Less, slices.isNaN, cmp.isNaN and slices.BinarySearch: the place of a number in a row that rises.
-/
import Derived.Test.YtkofobefbjljfaaDoorBase
import Derived.Test.YtkofobefbjljfaaDoorTrimM
import Derived.Test.YtkofobefbjljfaaDoorBlkBase
namespace Go.Proofs.YtkofobefbjljfaaDoor
open Go.RowKit
set_option linter.unusedVariables false

set_option maxHeartbeats 400000 in
theorem cmpNaN_any (x : Int) (w : World) : Calls Tryd.prog 64 #[.int .i64 x] w fun e w' => e = .returned (.bool false) ∧ w' = w := by
  go_enter Tryd.func64, Tryd.ntmps64
  go_wp2
  go_ret
  exact ⟨rfl, rfl⟩

set_option maxHeartbeats 400000 in
theorem slNaN_any (x : Int) (w : World) : Calls Tryd.prog 67 #[.int .i64 x] w fun e w' => e = .returned (.bool false) ∧ w' = w := by
  go_enter Tryd.func67, Tryd.ntmps67
  go_wp2
  go_ret
  exact ⟨rfl, rfl⟩

def lessB (x y : Int) : Bool := decide (x < y)

set_option maxHeartbeats 400000 in
theorem less2_any (x y : Int) (w : World) : Calls Tryd.prog 66 #[.int .i64 x, .int .i64 y] w fun e w' => e = .returned (.bool (lessB x y)) ∧ w' = w := by
  go_enter Tryd.func66, Tryd.ntmps66
  go_wp2_with (go_at_call 64; refine (cmpNaN_any x _).mono ?_; rintro e w' ⟨rfl, rfl⟩)
  go_ret
  exact ⟨rfl, rfl⟩

theorem inc_at {xs : List Int} (h : Inc xs) {p q : Nat} {x y : Int} (hp : xs[p]? = some x) (hq : xs[q]? = some y) (hpq : p < q) : x < y := by
  obtain ⟨p1, p2⟩ := List.getElem?_eq_some_iff.1 hp
  obtain ⟨q1, q2⟩ := List.getElem?_eq_some_iff.1 hq
  have := List.pairwise_iff_getElem.1 h p q p1 q1 hpq
  rwa [p2, q2] at this
theorem at_of {xs : List Int} {k : Nat} {x : Int} (h : k < xs.length) (hx : Hid (x = xs[k]?.getD 0)) : xs[k]? = some x := by
  rw [hx.out, List.getElem?_eq_getElem h]; rfl
theorem bs_found {xs : List Int} {n : Int} {k : Nat} (hi : Inc xs) (hk : xs[k]? = some n) : placeI xs n = (k : Int) := by
  obtain ⟨k1, k2⟩ := List.getElem?_eq_some_iff.1 hk
  have hm : n ∈ xs := by rw [← k2]; exact List.getElem_mem k1
  obtain ⟨j, hj⟩ := placeN_mem hm
  rw [placeI_of hj]
  have h2 := placeN_some hj
  rcases Nat.lt_trichotomy j k with h | h | h
  · have := inc_at hi h2 hk h; omega
  · rw [h]
  · have := inc_at hi hk h2 h; omega
theorem bs_has {xs : List Int} {n : Int} {k : Nat} (hk : xs[k]? = some n) : hasB xs n = true := by
  obtain ⟨k1, k2⟩ := List.getElem?_eq_some_iff.1 hk
  exact (hasB_iff _ _).2 (by rw [← k2]; exact List.getElem_mem k1)
theorem bs_none {xs : List Int} {n : Int} {i j : Nat} (hij : i = j) (hl : ∀ p x, p < i → xs[p]? = some x → x < n) (hu : ∀ p x, j ≤ p → xs[p]? = some x → n ≤ x) (hi : Inc xs) (hn : xs[i]? ≠ some n) : hasB xs n = false := by
  cases h : hasB xs n with
  | false => rfl
  | true =>
    exfalso
    obtain ⟨p, hp⟩ := List.getElem?_of_mem ((hasB_iff _ _).1 h)
    rcases Nat.lt_trichotomy p i with c | c | c
    · have := hl p n c hp; omega
    · subst c; exact hn hp
    · have hlt : i < xs.length := Nat.lt_trans c (List.getElem?_eq_some_iff.1 hp).1
      have h1 := hu i _ (by omega) (List.getElem?_eq_getElem hlt)
      have h2 := inc_at hi (List.getElem?_eq_getElem hlt) hp c
      omega

set_option maxHeartbeats 1000000 in
theorem bs_some (b off cap : Nat) (xs : List Int) (n : Int) (w : World) (hl : xs.length ≤ 4611686018427387903) (hc : Cells w b off xs) (hi : Hid (Inc xs)) :
    Calls Tryd.prog 63 #[.slice (some ⟨b, off, none⟩) xs.length cap, .int .i64 n] w fun e w' => ∃ k : Nat, e = .returned (.tuple #[.int .i64 k, .bool (hasB xs n)]) ∧ (hasB xs n = true → placeI xs n = (k : Int)) ∧ w' = w := by
  go_enter Tryd.func63, Tryd.ntmps63
  go_wp2
  go_loop [7, 8] (fun vi vj => ∃ i j : Nat, i ≤ j ∧ j ≤ xs.length ∧ vi = .int .i64 i ∧ vj = .int .i64 j ∧ Hid (∀ p x, p < i → xs[p]? = some x → x < n) ∧ Hid (∀ p x, j ≤ p → xs[p]? = some x → n ≤ x)) (fun vi vj => (intOf vj).toNat - (intOf vi).toNat)
  case atStart => exact ⟨0, xs.length, Nat.zero_le _, Nat.le_refl _, rfl, rfl, fun p x h => by omega, fun p x h hx => by have := (List.getElem?_eq_some_iff.1 hx).1; omega⟩
  case round =>
    obtain ⟨i, j, hij, hj, rfl, rfl, HL, HU⟩ := hrel
    by_cases hlt : i < j
    · have hh : (i + j) / 2 < xs.length := by omega
      obtain ⟨x, HX, hcx⟩ := hc.at hh
      by_cases hx : x < n
      · have d : lessB x n = true := by simpa [lessB] using hx
        have HH : Hid (x < n) := hx
        clear hx
        go_wp2_with (go_at_call 66; refine (less2_any x n _).mono ?_; rintro e w' ⟨rfl, rfl⟩)
        go_round
        case rel =>
          refine ⟨(i + j) / 2 + 1, j, by omega, hj, by go_num, rfl, fun p y hp hy => ?_, HU⟩
          have e1 := at_of hh HX
          have e2 := HH.out
          by_cases hpq : p < (i + j) / 2
          · have := inc_at hi.out hy e1 hpq; omega
          · have : p = (i + j) / 2 := by omega
            subst this
            rw [e1] at hy; cases hy; exact e2
        case measure => simp [intOf]; omega
      · have d : lessB x n = false := by simpa [lessB] using hx
        have HH : Hid (¬ x < n) := hx
        clear hx
        go_wp2_with (go_at_call 66; refine (less2_any x n _).mono ?_; rintro e w' ⟨rfl, rfl⟩)
        go_round
        case rel =>
          refine ⟨i, (i + j) / 2, by omega, by omega, rfl, by go_num, HL, fun p y hp hy => ?_⟩
          have e1 := at_of hh HX
          have e2 := HH.out
          by_cases hpq : (i + j) / 2 < p
          · have := inc_at hi.out e1 hy hpq; omega
          · have : p = (i + j) / 2 := by omega
            subst this
            rw [e1] at hy; cases hy; omega
        case measure => simp [intOf]; omega
    · have hE : Hid (i = j) := show i = j by omega
      by_cases hil : i < xs.length
      · obtain ⟨x, HX, hcx⟩ := hc.at hil
        have HY := Hid.of (at_of hil HX)
        by_cases hx : x = n
        · subst hx
          go_wp2_with (go_at_call 67; refine (slNaN_any _ _).mono ?_; rintro e w' ⟨rfl, rfl⟩)
          go_ret2
          exact ⟨i, by rw [bs_has HY.out]; rfl, fun _ => bs_found hi.out HY.out, rfl⟩
        · have d : (x == n) = false := by simpa using hx
          have HH : Hid (¬ x = n) := hx
          clear hx
          go_wp2_with (go_at_call 67; refine (slNaN_any _ _).mono ?_; rintro e w' ⟨rfl, rfl⟩)
          go_ret2
          have hf := bs_none hE.out HL.out HU.out hi.out (by rw [HY.out]; intro h; exact HH.out (Option.some.inj h))
          exact ⟨i, by rw [hf]; rfl, fun h => (by rw [hf] at h; cases h), rfl⟩
      · have hf := Hid.of (bs_none hE.out HL.out HU.out hi.out (by rw [List.getElem?_eq_none (by omega)]; intro h; cases h))
        go_wp2
        go_ret2
        exact ⟨i, by rw [hf.out]; rfl, fun h => (by rw [hf.out] at h; cases h), rfl⟩

set_option maxHeartbeats 400000 in
theorem bs_nil (a : Option Addr) (cap : Nat) (n : Int) (w : World) :
    Calls Tryd.prog 63 #[.slice a 0 cap, .int .i64 n] w fun e w' => ∃ k : Nat, e = .returned (.tuple #[.int .i64 k, .bool (hasB [] n)]) ∧ (hasB [] n = true → placeI [] n = (k : Int)) ∧ w' = w := by
  go_enter Tryd.func63, Tryd.ntmps63
  go_wp2
  refine wp_loop_rounds 1 ?_
  rw [rounds_succ]
  go_wp2
  go_ret2
  exact ⟨0, rfl, fun h => (by cases h), rfl⟩

theorem bs_any (a : Option Addr) (cap : Nat) (xs : List Int) (n : Int) (w : World) (hs : At w a xs) (hl : xs.length ≤ 4611686018427387903) (hi : Inc xs) :
    Calls Tryd.prog 63 #[.slice a xs.length cap, .int .i64 n] w fun e w' => ∃ k : Nat, e = .returned (.tuple #[.int .i64 k, .bool (hasB xs n)]) ∧ (hasB xs n = true → placeI xs n = (k : Int)) ∧ w' = w := by
  rcases hs with rfl | ⟨b, off, rfl, -, hc⟩
  · exact bs_nil a cap n w
  · exact bs_some b off cap xs n w hl hc hi

end Go.Proofs.YtkofobefbjljfaaDoor
