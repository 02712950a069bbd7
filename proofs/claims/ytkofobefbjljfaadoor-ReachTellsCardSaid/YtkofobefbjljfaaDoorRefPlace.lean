/-
  The walks of jalousieref3.place and places.
-/
import Derived.Test.YtkofobefbjljfaaDoorOwnO
import Derived.Test.YtkofobefbjljfaaDoorPlace
namespace Go.Proofs.YtkofobefbjljfaaDoor
open Go.RowKit
set_option linter.unusedVariables false

theorem ret_int64 {a b : Int} (h : a = b) : Ending.returned (.int .i64 a) = .returned (.int .i64 b) := by rw [h]

set_option maxHeartbeats 400000 in
theorem place_some (b off cap : Nat) (xs : List Int) (n : Int) (w : World) (hl : xs.length ≤ 9223372036854775807) (hc : Cells w b off xs) :
    Calls Tryd.prog 41 #[.slice (some ⟨b, off, none⟩) xs.length cap, .int .i64 n] w fun e w' => e = .returned (.int .i64 (placeI xs n)) ∧ w' = w := by
  go_enter Tryd.func41, Tryd.ntmps41
  go_wp2
  go_loop [5] (fun i => ∃ k : Nat, k ≤ xs.length ∧ i = .int .i64 k ∧ Hid (placeI xs n = placeF k (xs.drop k) n)) (fun i => xs.length - (intOf i).toNat)
  case atStart => exact ⟨0, Nat.zero_le _, rfl, rfl⟩
  case round =>
    obtain ⟨k, hk, rfl, he⟩ := hrel
    by_cases hlt : k < xs.length
    · obtain ⟨x, HX, hcx⟩ := hc.at hlt
      by_cases hx : x = n
      · have d : (x == n) = true := by simp [hx]
        have HH : Hid (x = n) := hx
        clear hx
        go_wp2
        go_ret
        exact ⟨ret_int64 (place_hit hlt HX he HH.out), rfl⟩
      · have d : (x == n) = false := by simp [hx]
        have HH : Hid (¬ x = n) := hx
        clear hx
        go_wp2
        go_round
        case rel => exact ⟨k + 1, by omega, by go_num, place_miss hlt HX he HH.out⟩
        case measure => simp [intOf]; omega
    · go_wp2
      go_ret
      exact ⟨ret_int64 (place_end hlt he), rfl⟩

set_option maxHeartbeats 400000 in
theorem place_nil (a : Option Addr) (cap : Nat) (n : Int) (w : World) :
    Calls Tryd.prog 41 #[.slice a 0 cap, .int .i64 n] w fun e w' => e = .returned (.int .i64 (placeI [] n)) ∧ w' = w := by
  go_enter Tryd.func41, Tryd.ntmps41
  go_wp2
  refine wp_loop_rounds 1 ?_
  rw [rounds_succ]
  go_wp2
  go_ret
  exact ⟨rfl, rfl⟩

theorem place_any (a : Option Addr) (cap : Nat) (xs : List Int) (n : Int) (w : World) (hs : At w a xs) (hl : xs.length ≤ maxLen) :
    Calls Tryd.prog 41 #[.slice a xs.length cap, .int .i64 n] w fun e w' => e = .returned (.int .i64 (placeI xs n)) ∧ w' = w := by
  rcases hs with rfl | ⟨b, off, rfl, -, hc⟩
  · exact place_nil a cap n w
  · exact place_some b off cap xs n w hl hc

set_option maxRecDepth 100000 in
set_option maxHeartbeats 2000000 in
theorem places_some (la : Option Addr) (lc b off cap : Nat) (l ss : List Int) (w : World) (hat : At w la l) (hll : l.length ≤ maxLen) (hl : ss.length ≤ 17592186044416) (hb : b < w.heap.size) (hc : Cells w b off ss) :
    Calls Tryd.prog 40 #[.slice la l.length lc, .slice (some ⟨b, off, none⟩) ss.length cap] w fun e w' => GivesO w (placesL l ss) e w' := by
  obtain ⟨i0, hi, hz0, hz1, hz2⟩ := info_parts Tryd.infoInt
  have HL : Hid (l.length ≤ maxLen) := hll
  have HA0 : Hid (At w la l) := hat
  clear hll hat
  go_enter Tryd.func40, Tryd.ntmps40
  go_wp2
  go_loopw [5, 6] (fun v i wr => ∃ k : Nat, k ≤ ss.length ∧ i = .int .i64 k ∧ Own wr w.heap.size v (placesL l (ss.take k)) ∧ Below w.heap.size w wr) (fun _ i _ => ss.length - (intOf i).toNat)
  case atStart => exact ⟨0, Nat.zero_le _, rfl, own_nil _ _, Below.refl _ _⟩
  case round =>
    obtain ⟨k, hk, rfl, hown, hbel⟩ := hrel
    have hsz := hbel.size
    by_cases hlt : k < ss.length
    · obtain ⟨x, HX, y0⟩ := hc.at hlt
      have y0' := (hbel.cell (p := ⟨b, off + k, none⟩) hb).trans y0
      clear y0
      have hlw := placesL_len l (ss.take k)
      rw [List.length_take] at hlw
      have HN : Hid (placesL l (ss.take (k + 1)) = if 0 ≤ placeI l x then placesL l (ss.take k) ++ [placeI l x] else placesL l (ss.take k)) := placesL_take hlt HX
      have HAT : Hid (At wr la l) := HA0.out.below hbel (Nat.le_refl _)
      go_wp2_with fail
      refine (place_any la lc l x _ HAT.out HL.out).mono ?_
      rintro e w1 ⟨rfl, rfl⟩
      by_cases d : 0 ≤ placeI l x
      · have HR : Hid (placesL l (ss.take (k + 1)) = placesL l (ss.take k) ++ [placeI l x]) := by show _ = _; rw [HN.out, if_pos d]
        have dd : decide (0 ≤ placeI l x) = true := by simpa using d
        clear HN
        generalize placeI l x = q at *
        go_wp2_with (at_builtin; refine wpList_append_own _ rfl _ _ 22 rfl w.heap.size 3 i0 (.int .i64 0) 1 8 Tryd.underlying22 hi hz0 hz1 hz2 rfl (by decide) _ _ _ rfl (World.ownsRow.alloc hown _) ⟨_, 0, none⟩ 1 1 [.int .i64 q] rfl rfl (cell_one_new _ _ _) (by intro u hu; simp at hu; subst hu; rfl) (by unfold maxLen; omega) (by omega) (by simp; omega) ?_)
        intro v' w2 hown' hgrow _
        obtain ⟨r1, r2, -⟩ := own_snoc hown hbel (by omega) hown' hgrow
        rw [← HR.out] at r1
        clear hown' hgrow hown
        go_wp2
        go_roundw
        case rel => exact ⟨k + 1, by omega, by go_num, r1, r2⟩
        case measure => simp [intOf]; omega
      · have HR : Hid (placesL l (ss.take (k + 1)) = placesL l (ss.take k)) := by show _ = _; rw [HN.out, if_neg d]
        have dd : decide (0 ≤ placeI l x) = false := by simpa using d
        clear HN
        have r1 := hown
        rw [← HR.out] at r1
        generalize placeI l x = q at *
        go_wp2
        go_roundw
        case rel => exact ⟨k + 1, by omega, by go_num, r1, hbel⟩
        case measure => simp [intOf]; omega
    · rw [List.take_of_length_le (by omega)] at hown
      go_wp2
      go_ret
      exact ⟨_, rfl, hown, hbel⟩

set_option maxHeartbeats 400000 in
theorem places_nil (la a : Option Addr) (lc cap : Nat) (l : List Int) (w : World) :
    Calls Tryd.prog 40 #[.slice la l.length lc, .slice a 0 cap] w fun e w' => GivesO w (placesL l []) e w' := by
  go_enter Tryd.func40, Tryd.ntmps40
  go_wp2
  refine wp_loop_rounds 1 ?_
  rw [rounds_succ]
  go_wp2
  go_ret
  exact ⟨_, rfl, own_nil _ _, Below.refl _ _⟩

theorem places_any (la a : Option Addr) (lc cap : Nat) (l ss : List Int) (w : World) (hat : At w la l) (hll : l.length ≤ maxLen) (hs : At w a ss) (hl : ss.length ≤ 17592186044416) :
    Calls Tryd.prog 40 #[.slice la l.length lc, .slice a ss.length cap] w fun e w' => GivesO w (placesL l ss) e w' := by
  rcases hs with rfl | ⟨b, off, rfl, hb, hc⟩
  · exact places_nil la a lc cap l w
  · exact places_some la lc b off cap l ss w hat hll hl hb hc

end Go.Proofs.YtkofobefbjljfaaDoor
