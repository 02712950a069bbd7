/-
  The walks of jalousieref3.Reach and Live.
-/
import Derived.Test.YtkofobefbjljfaaDoorClos
import Derived.Test.YtkofobefbjljfaaDoorMBase
import Derived.Test.YtkofobefbjljfaaDoorSorted
import Derived.Test.YtkofobefbjljfaaDoorAppInts
import Derived.Test.YtkofobefbjljfaaDoorRefHas
namespace Go.Proofs.YtkofobefbjljfaaDoor
open Go.RowKit
set_option linter.unusedVariables false

theorem Hid.of3 {p : Prop} (h : p) : Hid p := h

set_option maxHeartbeats 4000000 in
set_option maxRecDepth 100000 in
theorem refReach_some (st ev : Int) (starts : List Int) (ars : List Arr) (ends : List Int) (a1 : Option Addr) (c1 b off c2 : Nat) (a3 : Option Addr) (c3 : Nat) (w : World) (h1 : 0 ≤ st) (h2 : st ≤ 256) (hlen : ars.length ≤ 4096) (hb : b < w.heap.size) (hca : CellsA w b off ars) (hs : At w a1 starts) (hsl : starts.length ≤ 4096) (hn : Hid (a1 = none → c1 = 0)) :
    Calls Tryd.prog 22 #[mval ⟨st, ev, starts, ars, ends⟩ ⟨a1, c1, some ⟨b, off, none⟩, c2, a3, c3⟩] w fun e w' => Gives w (srt (closeN (·.f) (·.t) ars st.toNat starts)) e w' := by
  obtain ⟨i0, hi, hz0, hz1, hz2⟩ := info_parts Tryd.infoInt
  have o0 : Own ((w.alloc (.cells (mcells ⟨st, ev, starts, ars, ends⟩ ⟨a1, c1, some ⟨b, off, none⟩, c2, a3, c3⟩) 25)).alloc (.cells #[] 3)) (w.heap.size + 1) (.slice (some ⟨w.heap.size + 1, 0, none⟩) 0 0) [] := by
    have := own_empty (w.alloc (.cells (mcells ⟨st, ev, starts, ars, ends⟩ ⟨a1, c1, some ⟨b, off, none⟩, c2, a3, c3⟩) 25))
    rwa [World.size_alloc] at this
  have b0 : Below w.heap.size w ((w.alloc (.cells (mcells ⟨st, ev, starts, ars, ends⟩ ⟨a1, c1, some ⟨b, off, none⟩, c2, a3, c3⟩) 25)).alloc (.cells #[] 3)) := ((Below.refl _ _).alloc (Nat.le_refl _) _).alloc (by simp) _
  have bb0 : Below (w.heap.size + 1) (w.alloc (.cells (mcells ⟨st, ev, starts, ars, ends⟩ ⟨a1, c1, some ⟨b, off, none⟩, c2, a3, c3⟩) 25)) ((w.alloc (.cells (mcells ⟨st, ev, starts, ars, ends⟩ ⟨a1, c1, some ⟨b, off, none⟩, c2, a3, c3⟩) 25)).alloc (.cells #[] 3)) := (Below.refl _ _).alloc (by simp) _
  have s0 := hs.below b0 (Nat.le_refl _)
  go_enter Tryd.func22, Tryd.ntmps22
  go_wp2_with (at_builtin; refine wpList_append_ints _ rfl _ _ 22 rfl (w.heap.size + 1) i0 Tryd.underlying22 hi hz0 hz1 hz2 _ [] rfl o0 a1 c1 starts rfl s0 hn.out (by simp only [List.length_nil]; omega) (by simp) ?_)
  intro v0 w0 o1 b1 z1
  have B1 : Hid (Below (w.heap.size + 1) (w.alloc (.cells (mcells ⟨st, ev, starts, ars, ends⟩ ⟨a1, c1, some ⟨b, off, none⟩, c2, a3, c3⟩) 25)) w0) := bb0.trans b1
  have O1 : Hid (Own w0 (w.heap.size + 1) v0 starts) := o1
  clear o0 b0 bb0 s0 o1 b1
  go_wp2
  go_loopw [3, 4] (fun v i wr => ∃ (k : Nat) (L : List Int), (k : Int) ≤ st ∧ i = .int .i64 k ∧ Hid (Own wr (w.heap.size + 1) v L) ∧ Hid (Below (w.heap.size + 1) (w.alloc (.cells (mcells ⟨st, ev, starts, ars, ends⟩ ⟨a1, c1, some ⟨b, off, none⟩, c2, a3, c3⟩) 25)) wr) ∧ Hid (closeN (·.f) (·.t) ars st.toNat starts = closeN (·.f) (·.t) ars (st.toNat - k) L) ∧ L.length ≤ 4096 + k * 4096) (fun _ i _ => st.toNat - (intOf i).toNat)
  case atStart => exact ⟨0, starts, by omega, rfl, O1, B1, rfl, by omega⟩
  case round =>
    clear O1 B1
    obtain ⟨k, L, hk, rfl, hown, hbel, hc, hll⟩ := hrel
    have hold := Hid.of3 (below_box hbel.out)
    have hsz := hbel.out.size
    rw [World.size_alloc] at hsz
    have hbx : w.heap.size < wr.heap.size := by omega
    obtain ⟨x0, -, -, x3, -⟩ := box_cells hbel.out
    dsimp only at x0 x3
    obtain ⟨la, lc, rfl, hat, hln⟩ := hown.out.at
    by_cases hks : (k : Int) < st
    · go_wp2
      go_loopw [3, 6] (fun v i wr' => ∃ (j : Nat), j ≤ ars.length ∧ i = .int .i64 j ∧ Hid (Own wr' (w.heap.size + 1) v (sweep (·.f) (·.t) (ars.take j) L)) ∧ Hid (Below (w.heap.size + 1) (w.alloc (.cells (mcells ⟨st, ev, starts, ars, ends⟩ ⟨a1, c1, some ⟨b, off, none⟩, c2, a3, c3⟩) 25)) wr') ∧ (sweep (·.f) (·.t) (ars.take j) L).length ≤ L.length + j) (fun _ i _ => ars.length - (intOf i).toNat)
      case atStart => exact ⟨0, Nat.zero_le _, rfl, hown, hbel, Nat.le_refl _⟩
      case round =>
        clear hown hbel hold hat x0 x3 hsz hbx hln
        obtain ⟨j, hj, rfl, hown, hbel, hlj⟩ := hrel
        have hold := Hid.of3 (below_box hbel.out)
        have hsz := hbel.out.size
        rw [World.size_alloc] at hsz
        have hbx : w.heap.size < wr.heap.size := by omega
        obtain ⟨x0, -, -, x3, -⟩ := box_cells hbel.out
        dsimp only at x0 x3
        by_cases hlt : j < ars.length
        · obtain ⟨a, HA, y0, y1, y2⟩ := hca.at hlt
          have y0' := (hold.out.cell (p := ⟨b, off + j * 3, none⟩) hb).trans y0
          have y2' := (hold.out.cell (p := ⟨b, off + j * 3 + 2, none⟩) hb).trans y2
          clear y0 y1 y2
          have HN := Hid.of3 (sweep_take (fr := (·.f)) (to := (·.t)) (l := L) hlt HA)
          obtain ⟨T, hT⟩ : ∃ T, T = sweep (·.f) (·.t) (ars.take j) L := ⟨_, rfl⟩
          rw [← hT] at hown hlj HN
          clear hT
          obtain ⟨la', lc', rfl, hat, hln⟩ := hown.out.at
          have HAT := Hid.of3 hat
          have hln2 := Hid.of3 hln
          clear hat hln
          by_cases d1 : hasB T a.f = true
          · by_cases d2 : hasB T a.t = true
            · have HR : Hid (sweep (·.f) (·.t) (ars.take (j + 1)) L = T) := by show _ = _; rw [HN.out]; unfold along; rw [if_neg (by rw [d2]; simp)]
              clear HN
              go_wp2_with (go_at_call 38; refine (refHas_any la' lc' T _ _ HAT.out hln2.out).mono ?_; rintro e w1 ⟨rfl, rfl⟩)
              go_roundw
              case rel => exact ⟨j + 1, by omega, by go_num, by rw [HR.out]; exact hown, hbel, by rw [HR.out]; omega⟩
              case measure => simp [intOf]; omega
            · have d2 : hasB T a.t = false := by simpa using d2
              have HR : Hid (sweep (·.f) (·.t) (ars.take (j + 1)) L = T ++ [a.t]) := by show _ = _; rw [HN.out]; unfold along; rw [if_pos (by rw [d1, d2]; rfl)]
              clear HN
              have hT2 : T.length ≤ 2000000 := by omega
              go_wp2_with (first | (go_at_call 38; refine (refHas_any la' lc' T _ _ HAT.out hln2.out).mono ?_; rintro e w1 ⟨rfl, rfl⟩) | (at_builtin; refine wpList_append_own _ rfl _ _ 22 rfl (w.heap.size + 1) 3 i0 (.int .i64 0) 1 8 Tryd.underlying22 hi hz0 hz1 hz2 rfl (by decide) _ _ _ rfl (World.ownsRow.alloc hown.out _) ⟨_, 0, none⟩ 1 1 [.int .i64 a.t] rfl rfl (cell_one_new _ _ _) (by intro u hu; simp at hu; subst hu; rfl) (by unfold maxLen; omega) (by omega) (by simp; omega) ?_; intro v' w2 hown' hgrow _; obtain ⟨r1, r2, -⟩ := own_snoc hown.out hbel.out (by omega) hown' hgrow; have R1 := Hid.of3 r1; have R2 := Hid.of3 r2; clear r1 r2 hown' hgrow))
              go_roundw
              case rel => exact ⟨j + 1, by omega, by go_num, by rw [HR.out]; exact R1, R2, by rw [HR.out]; simp only [List.length_append, List.length_cons, List.length_nil]; omega⟩
              case measure => simp [intOf]; omega
          · have d1 : hasB T a.f = false := by simpa using d1
            have HR : Hid (sweep (·.f) (·.t) (ars.take (j + 1)) L = T) := by show _ = _; rw [HN.out]; unfold along; rw [if_neg (by rw [d1]; simp)]
            clear HN
            go_wp2_with (go_at_call 38; refine (refHas_any la' lc' T _ _ HAT.out hln2.out).mono ?_; rintro e w1 ⟨rfl, rfl⟩)
            go_roundw
            case rel => exact ⟨j + 1, by omega, by go_num, by rw [HR.out]; exact hown, hbel, by rw [HR.out]; omega⟩
            case measure => simp [intOf]; omega
        · have htk : ars.take j = ars := List.take_of_length_le (by omega)
          rw [htk] at hown hlj
          clear htk
          obtain ⟨T, hT⟩ : ∃ T, T = sweep (·.f) (·.t) ars L := ⟨_, rfl⟩
          have HT := Hid.of3 hT
          rw [← hT] at hown hlj
          clear hT
          have hle := sweep_le (fr := (·.f)) (to := (·.t)) ars L
          rw [← HT.out] at hle
          obtain ⟨la', lc', rfl, hat, hln⟩ := hown.out.at
          have HAT := Hid.of3 hat
          have hln2 := Hid.of3 hln
          clear hat hln
          have hks2 : st.toNat - k = (st.toNat - (k + 1)) + 1 := by omega
          by_cases hq : T.length = L.length
          · have HC : Hid (closeN (·.f) (·.t) ars st.toNat starts = T) := by
              show _ = _
              rw [hc.out, hks2, closeN, ← HT.out, if_pos hq]
            have dq : ((T.length : Int) == (L.length : Int)) = true := by simp; omega
            clear hks2 hq
            go_wp2_with (go_at_call 39; refine (sorted_any la' lc' T _ HAT.out (by omega)).mono ?_; rintro e w1 ⟨a4, c4, rfl, h4, l4, b4⟩; have H4 := Hid.of3 h4; have L4 := Hid.of3 l4; have B4 := Hid.of3 b4; clear h4 l4 b4)
            go_ret
            exact ⟨a4, c4, by rw [HC.out]; rfl, by rw [HC.out]; exact H4.out, by rw [HC.out]; exact L4.out, hold.out.trans (B4.out.mono (by omega))⟩
          · have HC : Hid (closeN (·.f) (·.t) ars st.toNat starts = closeN (·.f) (·.t) ars (st.toNat - (k + 1)) T) := by
              show _ = _
              rw [hc.out, hks2, closeN, ← HT.out, if_neg hq]
            have dq : ((T.length : Int) == (L.length : Int)) = false := by simp; omega
            clear hks2 hq
            go_wp2
            exact ⟨⟨k + 1, T, by omega, by go_num, hown, hbel, HC, by omega⟩, by simp [intOf]; omega⟩
    · have HC : Hid (closeN (·.f) (·.t) ars st.toNat starts = L) := by
        show _ = _
        rw [hc.out, show st.toNat - k = 0 by omega]; rfl
      have HAT := Hid.of3 hat
      clear hat
      go_wp2_with (go_at_call 39; refine (sorted_any la lc L _ HAT.out (by omega)).mono ?_; rintro e w1 ⟨a4, c4, rfl, h4, l4, b4⟩; have H4 := Hid.of3 h4; have L4 := Hid.of3 l4; have B4 := Hid.of3 b4; clear h4 l4 b4)
      go_ret
      exact ⟨a4, c4, by rw [HC.out]; rfl, by rw [HC.out]; exact H4.out, by rw [HC.out]; exact L4.out, hold.out.trans (B4.out.mono (by omega))⟩

set_option maxHeartbeats 4000000 in
set_option maxRecDepth 100000 in
theorem refLive_some (st ev : Int) (starts : List Int) (ars : List Arr) (ends : List Int) (a1 : Option Addr) (c1 b off c2 : Nat) (a3 : Option Addr) (c3 : Nat) (w : World) (h1 : 0 ≤ st) (h2 : st ≤ 256) (hlen : ars.length ≤ 4096) (hb : b < w.heap.size) (hca : CellsA w b off ars) (hs : At w a3 ends) (hsl : ends.length ≤ 4096) (hn : Hid (a3 = none → c3 = 0)) :
    Calls Tryd.prog 23 #[mval ⟨st, ev, starts, ars, ends⟩ ⟨a1, c1, some ⟨b, off, none⟩, c2, a3, c3⟩] w fun e w' => Gives w (srt (closeN (·.t) (·.f) ars st.toNat ends)) e w' := by
  obtain ⟨i0, hi, hz0, hz1, hz2⟩ := info_parts Tryd.infoInt
  have o0 : Own ((w.alloc (.cells (mcells ⟨st, ev, starts, ars, ends⟩ ⟨a1, c1, some ⟨b, off, none⟩, c2, a3, c3⟩) 25)).alloc (.cells #[] 3)) (w.heap.size + 1) (.slice (some ⟨w.heap.size + 1, 0, none⟩) 0 0) [] := by
    have := own_empty (w.alloc (.cells (mcells ⟨st, ev, starts, ars, ends⟩ ⟨a1, c1, some ⟨b, off, none⟩, c2, a3, c3⟩) 25))
    rwa [World.size_alloc] at this
  have b0 : Below w.heap.size w ((w.alloc (.cells (mcells ⟨st, ev, starts, ars, ends⟩ ⟨a1, c1, some ⟨b, off, none⟩, c2, a3, c3⟩) 25)).alloc (.cells #[] 3)) := ((Below.refl _ _).alloc (Nat.le_refl _) _).alloc (by simp) _
  have bb0 : Below (w.heap.size + 1) (w.alloc (.cells (mcells ⟨st, ev, starts, ars, ends⟩ ⟨a1, c1, some ⟨b, off, none⟩, c2, a3, c3⟩) 25)) ((w.alloc (.cells (mcells ⟨st, ev, starts, ars, ends⟩ ⟨a1, c1, some ⟨b, off, none⟩, c2, a3, c3⟩) 25)).alloc (.cells #[] 3)) := (Below.refl _ _).alloc (by simp) _
  have s0 := hs.below b0 (Nat.le_refl _)
  go_enter Tryd.func23, Tryd.ntmps23
  go_wp2_with (at_builtin; refine wpList_append_ints _ rfl _ _ 22 rfl (w.heap.size + 1) i0 Tryd.underlying22 hi hz0 hz1 hz2 _ [] rfl o0 a3 c3 ends rfl s0 hn.out (by simp only [List.length_nil]; omega) (by simp) ?_)
  intro v0 w0 o1 b1 z1
  have B1 : Hid (Below (w.heap.size + 1) (w.alloc (.cells (mcells ⟨st, ev, starts, ars, ends⟩ ⟨a1, c1, some ⟨b, off, none⟩, c2, a3, c3⟩) 25)) w0) := bb0.trans b1
  have O1 : Hid (Own w0 (w.heap.size + 1) v0 ends) := o1
  clear o0 b0 bb0 s0 o1 b1
  go_wp2
  go_loopw [3, 4] (fun v i wr => ∃ (k : Nat) (L : List Int), (k : Int) ≤ st ∧ i = .int .i64 k ∧ Hid (Own wr (w.heap.size + 1) v L) ∧ Hid (Below (w.heap.size + 1) (w.alloc (.cells (mcells ⟨st, ev, starts, ars, ends⟩ ⟨a1, c1, some ⟨b, off, none⟩, c2, a3, c3⟩) 25)) wr) ∧ Hid (closeN (·.t) (·.f) ars st.toNat ends = closeN (·.t) (·.f) ars (st.toNat - k) L) ∧ L.length ≤ 4096 + k * 4096) (fun _ i _ => st.toNat - (intOf i).toNat)
  case atStart => exact ⟨0, ends, by omega, rfl, O1, B1, rfl, by omega⟩
  case round =>
    clear O1 B1
    obtain ⟨k, L, hk, rfl, hown, hbel, hc, hll⟩ := hrel
    have hold := Hid.of3 (below_box hbel.out)
    have hsz := hbel.out.size
    rw [World.size_alloc] at hsz
    have hbx : w.heap.size < wr.heap.size := by omega
    obtain ⟨x0, -, -, x3, -⟩ := box_cells hbel.out
    dsimp only at x0 x3
    obtain ⟨la, lc, rfl, hat, hln⟩ := hown.out.at
    by_cases hks : (k : Int) < st
    · go_wp2
      go_loopw [3, 6] (fun v i wr' => ∃ (j : Nat), j ≤ ars.length ∧ i = .int .i64 j ∧ Hid (Own wr' (w.heap.size + 1) v (sweep (·.t) (·.f) (ars.take j) L)) ∧ Hid (Below (w.heap.size + 1) (w.alloc (.cells (mcells ⟨st, ev, starts, ars, ends⟩ ⟨a1, c1, some ⟨b, off, none⟩, c2, a3, c3⟩) 25)) wr') ∧ (sweep (·.t) (·.f) (ars.take j) L).length ≤ L.length + j) (fun _ i _ => ars.length - (intOf i).toNat)
      case atStart => exact ⟨0, Nat.zero_le _, rfl, hown, hbel, Nat.le_refl _⟩
      case round =>
        clear hown hbel hold hat x0 x3 hsz hbx hln
        obtain ⟨j, hj, rfl, hown, hbel, hlj⟩ := hrel
        have hold := Hid.of3 (below_box hbel.out)
        have hsz := hbel.out.size
        rw [World.size_alloc] at hsz
        have hbx : w.heap.size < wr.heap.size := by omega
        obtain ⟨x0, -, -, x3, -⟩ := box_cells hbel.out
        dsimp only at x0 x3
        by_cases hlt : j < ars.length
        · obtain ⟨a, HA, y0, y1, y2⟩ := hca.at hlt
          have y0' := (hold.out.cell (p := ⟨b, off + j * 3, none⟩) hb).trans y0
          have y2' := (hold.out.cell (p := ⟨b, off + j * 3 + 2, none⟩) hb).trans y2
          clear y0 y1 y2
          have HN := Hid.of3 (sweep_take (fr := (·.t)) (to := (·.f)) (l := L) hlt HA)
          obtain ⟨T, hT⟩ : ∃ T, T = sweep (·.t) (·.f) (ars.take j) L := ⟨_, rfl⟩
          rw [← hT] at hown hlj HN
          clear hT
          obtain ⟨la', lc', rfl, hat, hln⟩ := hown.out.at
          have HAT := Hid.of3 hat
          have hln2 := Hid.of3 hln
          clear hat hln
          by_cases d1 : hasB T a.t = true
          · by_cases d2 : hasB T a.f = true
            · have HR : Hid (sweep (·.t) (·.f) (ars.take (j + 1)) L = T) := by show _ = _; rw [HN.out]; unfold along; rw [if_neg (by rw [d2]; simp)]
              clear HN
              go_wp2_with (go_at_call 38; refine (refHas_any la' lc' T _ _ HAT.out hln2.out).mono ?_; rintro e w1 ⟨rfl, rfl⟩)
              go_roundw
              case rel => exact ⟨j + 1, by omega, by go_num, by rw [HR.out]; exact hown, hbel, by rw [HR.out]; omega⟩
              case measure => simp [intOf]; omega
            · have d2 : hasB T a.f = false := by simpa using d2
              have HR : Hid (sweep (·.t) (·.f) (ars.take (j + 1)) L = T ++ [a.f]) := by show _ = _; rw [HN.out]; unfold along; rw [if_pos (by rw [d1, d2]; rfl)]
              clear HN
              have hT2 : T.length ≤ 2000000 := by omega
              go_wp2_with (first | (go_at_call 38; refine (refHas_any la' lc' T _ _ HAT.out hln2.out).mono ?_; rintro e w1 ⟨rfl, rfl⟩) | (at_builtin; refine wpList_append_own _ rfl _ _ 22 rfl (w.heap.size + 1) 3 i0 (.int .i64 0) 1 8 Tryd.underlying22 hi hz0 hz1 hz2 rfl (by decide) _ _ _ rfl (World.ownsRow.alloc hown.out _) ⟨_, 0, none⟩ 1 1 [.int .i64 a.f] rfl rfl (cell_one_new _ _ _) (by intro u hu; simp at hu; subst hu; rfl) (by unfold maxLen; omega) (by omega) (by simp; omega) ?_; intro v' w2 hown' hgrow _; obtain ⟨r1, r2, -⟩ := own_snoc hown.out hbel.out (by omega) hown' hgrow; have R1 := Hid.of3 r1; have R2 := Hid.of3 r2; clear r1 r2 hown' hgrow))
              go_roundw
              case rel => exact ⟨j + 1, by omega, by go_num, by rw [HR.out]; exact R1, R2, by rw [HR.out]; simp only [List.length_append, List.length_cons, List.length_nil]; omega⟩
              case measure => simp [intOf]; omega
          · have d1 : hasB T a.t = false := by simpa using d1
            have HR : Hid (sweep (·.t) (·.f) (ars.take (j + 1)) L = T) := by show _ = _; rw [HN.out]; unfold along; rw [if_neg (by rw [d1]; simp)]
            clear HN
            go_wp2_with (go_at_call 38; refine (refHas_any la' lc' T _ _ HAT.out hln2.out).mono ?_; rintro e w1 ⟨rfl, rfl⟩)
            go_roundw
            case rel => exact ⟨j + 1, by omega, by go_num, by rw [HR.out]; exact hown, hbel, by rw [HR.out]; omega⟩
            case measure => simp [intOf]; omega
        · have htk : ars.take j = ars := List.take_of_length_le (by omega)
          rw [htk] at hown hlj
          clear htk
          obtain ⟨T, hT⟩ : ∃ T, T = sweep (·.t) (·.f) ars L := ⟨_, rfl⟩
          have HT := Hid.of3 hT
          rw [← hT] at hown hlj
          clear hT
          have hle := sweep_le (fr := (·.t)) (to := (·.f)) ars L
          rw [← HT.out] at hle
          obtain ⟨la', lc', rfl, hat, hln⟩ := hown.out.at
          have HAT := Hid.of3 hat
          have hln2 := Hid.of3 hln
          clear hat hln
          have hks2 : st.toNat - k = (st.toNat - (k + 1)) + 1 := by omega
          by_cases hq : T.length = L.length
          · have HC : Hid (closeN (·.t) (·.f) ars st.toNat ends = T) := by
              show _ = _
              rw [hc.out, hks2, closeN, ← HT.out, if_pos hq]
            have dq : ((T.length : Int) == (L.length : Int)) = true := by simp; omega
            clear hks2 hq
            go_wp2_with (go_at_call 39; refine (sorted_any la' lc' T _ HAT.out (by omega)).mono ?_; rintro e w1 ⟨a4, c4, rfl, h4, l4, b4⟩; have H4 := Hid.of3 h4; have L4 := Hid.of3 l4; have B4 := Hid.of3 b4; clear h4 l4 b4)
            go_ret
            exact ⟨a4, c4, by rw [HC.out]; rfl, by rw [HC.out]; exact H4.out, by rw [HC.out]; exact L4.out, hold.out.trans (B4.out.mono (by omega))⟩
          · have HC : Hid (closeN (·.t) (·.f) ars st.toNat ends = closeN (·.t) (·.f) ars (st.toNat - (k + 1)) T) := by
              show _ = _
              rw [hc.out, hks2, closeN, ← HT.out, if_neg hq]
            have dq : ((T.length : Int) == (L.length : Int)) = false := by simp; omega
            clear hks2 hq
            go_wp2
            exact ⟨⟨k + 1, T, by omega, by go_num, hown, hbel, HC, by omega⟩, by simp [intOf]; omega⟩
    · have HC : Hid (closeN (·.t) (·.f) ars st.toNat ends = L) := by
        show _ = _
        rw [hc.out, show st.toNat - k = 0 by omega]; rfl
      have HAT := Hid.of3 hat
      clear hat
      go_wp2_with (go_at_call 39; refine (sorted_any la lc L _ HAT.out (by omega)).mono ?_; rintro e w1 ⟨a4, c4, rfl, h4, l4, b4⟩; have H4 := Hid.of3 h4; have L4 := Hid.of3 l4; have B4 := Hid.of3 b4; clear h4 l4 b4)
      go_ret
      exact ⟨a4, c4, by rw [HC.out]; rfl, by rw [HC.out]; exact H4.out, by rw [HC.out]; exact L4.out, hold.out.trans (B4.out.mono (by omega))⟩

set_option maxHeartbeats 4000000 in
set_option maxRecDepth 100000 in
theorem refReach_none (st ev : Int) (starts ends : List Int) (l : ML) (w : World) (h1 : 1 ≤ st) (hs : At w l.a1 starts) (hsl : starts.length ≤ 4096) (hn : Hid (l.a1 = none → l.c1 = 0)) :
    Calls Tryd.prog 22 #[mval ⟨st, ev, starts, [], ends⟩ l] w fun e w' => Gives w (srt starts) e w' := by
  obtain ⟨i0, hi, hz0, hz1, hz2⟩ := info_parts Tryd.infoInt
  have o0 : Own ((w.alloc (.cells (mcells ⟨st, ev, starts, [], ends⟩ l) 25)).alloc (.cells #[] 3)) (w.heap.size + 1) (.slice (some ⟨w.heap.size + 1, 0, none⟩) 0 0) [] := by
    have := own_empty (w.alloc (.cells (mcells ⟨st, ev, starts, [], ends⟩ l) 25))
    rwa [World.size_alloc] at this
  have b0 : Below w.heap.size w ((w.alloc (.cells (mcells ⟨st, ev, starts, [], ends⟩ l) 25)).alloc (.cells #[] 3)) := ((Below.refl _ _).alloc (Nat.le_refl _) _).alloc (by simp) _
  have bb0 : Below (w.heap.size + 1) (w.alloc (.cells (mcells ⟨st, ev, starts, [], ends⟩ l) 25)) ((w.alloc (.cells (mcells ⟨st, ev, starts, [], ends⟩ l) 25)).alloc (.cells #[] 3)) := (Below.refl _ _).alloc (by simp) _
  have s0 := hs.below b0 (Nat.le_refl _)
  go_enter Tryd.func22, Tryd.ntmps22
  go_wp2_with (at_builtin; refine wpList_append_ints _ rfl _ _ 22 rfl (w.heap.size + 1) i0 Tryd.underlying22 hi hz0 hz1 hz2 _ [] rfl o0 l.a1 l.c1 starts rfl s0 hn.out (by simp only [List.length_nil]; omega) (by simp) ?_)
  intro v0 w0 o1 b1 z1
  have B1 : Hid (Below (w.heap.size + 1) (w.alloc (.cells (mcells ⟨st, ev, starts, [], ends⟩ l) 25)) w0) := bb0.trans b1
  obtain ⟨la, lc, rfl, hat, hln⟩ := Own.at (show Own w0 (w.heap.size + 1) v0 starts from o1)
  have HAT := Hid.of3 hat
  obtain ⟨x0, -, -, x3, -⟩ := box_cells B1.out
  dsimp only at x0 x3
  clear o0 b0 bb0 s0 o1 b1 hat
  have hd : decide (0 < st) = true := by simp; omega
  have hd' : 0 < st := by omega
  go_wp2
  refine wp_loop_rounds 1 ?_
  rw [rounds_succ]
  go_wp2
  refine wp_loop_rounds 1 ?_
  rw [rounds_succ]
  go_wp2_with (go_at_call 39; refine (sorted_any la lc starts _ HAT.out (by omega)).mono ?_; rintro e w1 ⟨a4, c4, rfl, h4, l4, b4⟩; have H4 := Hid.of3 h4; have L4 := Hid.of3 l4; have B4 := Hid.of3 b4; clear h4 l4 b4)
  go_ret
  exact ⟨a4, c4, rfl, H4.out, L4.out, (below_box B1.out).trans (B4.out.mono (by have := B1.out.size; rw [World.size_alloc] at this; omega))⟩

theorem refReach_any (m : Mach) (l : ML) (w : World) (hm : mayB m = true) (h : MAt w m l) :
    Calls Tryd.prog 22 #[mval m l] w fun e w' => Gives w (reachL m) e w' := by
  have hz := mayB_size hm
  have hr := mayB_starts hm
  unfold sizeOk at hz
  have hl : m.starts.length ≤ 4096 := by
    unfold rowB at hr
    have := goIs_len _ _ _ (by omega) hr
    omega
  obtain ⟨st, ev, starts, arrows, ends⟩ := m
  obtain ⟨a1, c1, a2, c2, a3, c3⟩ := l
  simp only at hz hl
  rcases h.a with h0 | ⟨b, off, h0, hb, hc⟩
  · have h0 : arrows = [] := h0
    subst h0
    have e : reachL ⟨st, ev, starts, [], ends⟩ = srt starts := by
      unfold reachL
      simp only
      obtain ⟨k, hk⟩ : ∃ k, st.toNat = k + 1 := ⟨st.toNat - 1, by omega⟩
      rw [hk, closeN]
      simp [sweep]
    rw [e]
    exact refReach_none st ev starts ends ⟨a1, c1, a2, c2, a3, c3⟩ w hz.1 h.s hl (Hid.of3 h.s3)
  · have h0 : a2 = some ⟨b, off, none⟩ := h0
    subst h0
    exact refReach_some st ev starts arrows ends a1 c1 b off c2 a3 c3 w (by omega) (by omega) (by omega) hb hc h.s hl (Hid.of3 h.s3)

set_option maxHeartbeats 4000000 in
set_option maxRecDepth 100000 in
theorem refLive_none (st ev : Int) (starts ends : List Int) (l : ML) (w : World) (h1 : 1 ≤ st) (hs : At w l.a3 ends) (hsl : ends.length ≤ 4096) (hn : Hid (l.a3 = none → l.c3 = 0)) :
    Calls Tryd.prog 23 #[mval ⟨st, ev, starts, [], ends⟩ l] w fun e w' => Gives w (srt ends) e w' := by
  obtain ⟨i0, hi, hz0, hz1, hz2⟩ := info_parts Tryd.infoInt
  have o0 : Own ((w.alloc (.cells (mcells ⟨st, ev, starts, [], ends⟩ l) 25)).alloc (.cells #[] 3)) (w.heap.size + 1) (.slice (some ⟨w.heap.size + 1, 0, none⟩) 0 0) [] := by
    have := own_empty (w.alloc (.cells (mcells ⟨st, ev, starts, [], ends⟩ l) 25))
    rwa [World.size_alloc] at this
  have b0 : Below w.heap.size w ((w.alloc (.cells (mcells ⟨st, ev, starts, [], ends⟩ l) 25)).alloc (.cells #[] 3)) := ((Below.refl _ _).alloc (Nat.le_refl _) _).alloc (by simp) _
  have bb0 : Below (w.heap.size + 1) (w.alloc (.cells (mcells ⟨st, ev, starts, [], ends⟩ l) 25)) ((w.alloc (.cells (mcells ⟨st, ev, starts, [], ends⟩ l) 25)).alloc (.cells #[] 3)) := (Below.refl _ _).alloc (by simp) _
  have s0 := hs.below b0 (Nat.le_refl _)
  go_enter Tryd.func23, Tryd.ntmps23
  go_wp2_with (at_builtin; refine wpList_append_ints _ rfl _ _ 22 rfl (w.heap.size + 1) i0 Tryd.underlying22 hi hz0 hz1 hz2 _ [] rfl o0 l.a3 l.c3 ends rfl s0 hn.out (by simp only [List.length_nil]; omega) (by simp) ?_)
  intro v0 w0 o1 b1 z1
  have B1 : Hid (Below (w.heap.size + 1) (w.alloc (.cells (mcells ⟨st, ev, starts, [], ends⟩ l) 25)) w0) := bb0.trans b1
  obtain ⟨la, lc, rfl, hat, hln⟩ := Own.at (show Own w0 (w.heap.size + 1) v0 ends from o1)
  have HAT := Hid.of3 hat
  obtain ⟨x0, -, -, x3, -⟩ := box_cells B1.out
  dsimp only at x0 x3
  clear o0 b0 bb0 s0 o1 b1 hat
  have hd : decide (0 < st) = true := by simp; omega
  have hd' : 0 < st := by omega
  go_wp2
  refine wp_loop_rounds 1 ?_
  rw [rounds_succ]
  go_wp2
  refine wp_loop_rounds 1 ?_
  rw [rounds_succ]
  go_wp2_with (go_at_call 39; refine (sorted_any la lc ends _ HAT.out (by omega)).mono ?_; rintro e w1 ⟨a4, c4, rfl, h4, l4, b4⟩; have H4 := Hid.of3 h4; have L4 := Hid.of3 l4; have B4 := Hid.of3 b4; clear h4 l4 b4)
  go_ret
  exact ⟨a4, c4, rfl, H4.out, L4.out, (below_box B1.out).trans (B4.out.mono (by have := B1.out.size; rw [World.size_alloc] at this; omega))⟩

theorem refLive_any (m : Mach) (l : ML) (w : World) (hm : mayB m = true) (h : MAt w m l) :
    Calls Tryd.prog 23 #[mval m l] w fun e w' => Gives w (liveL m) e w' := by
  have hz := mayB_size hm
  have hr := mayB_ends hm
  unfold sizeOk at hz
  have hl : m.ends.length ≤ 4096 := by
    unfold rowB at hr
    have := goIs_len _ _ _ (by omega) hr
    omega
  obtain ⟨st, ev, starts, arrows, ends⟩ := m
  obtain ⟨a1, c1, a2, c2, a3, c3⟩ := l
  simp only at hz hl
  rcases h.a with h0 | ⟨b, off, h0, hb, hc⟩
  · have h0 : arrows = [] := h0
    subst h0
    have e : liveL ⟨st, ev, starts, [], ends⟩ = srt ends := by
      unfold liveL
      simp only
      obtain ⟨k, hk⟩ : ∃ k, st.toNat = k + 1 := ⟨st.toNat - 1, by omega⟩
      rw [hk, closeN]
      simp [sweep]
    rw [e]
    exact refLive_none st ev starts ends ⟨a1, c1, a2, c2, a3, c3⟩ w hz.1 h.e hl (Hid.of3 h.e3)
  · have h0 : a2 = some ⟨b, off, none⟩ := h0
    subst h0
    exact refLive_some st ev starts arrows ends a1 c1 b off c2 a3 c3 w (by omega) (by omega) (by omega) hb hc h.e hl (Hid.of3 h.e3)

end Go.Proofs.YtkofobefbjljfaaDoor
