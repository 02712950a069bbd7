/-
  The walks of jalousieref2.Word, Step, After and Accepts.
-/
import Derived.Test.YtfhbkemmdoappaaDoorMBase
import Derived.Test.YtfhbkemmdoappaaDoorOnly
import Derived.Test.YtfhbkemmdoappaaDoorSorted
import Derived.Test.YtfhbkemmdoappaaDoorAppInts
import Derived.Deep.RegionWith
import Derived.BigQuiet
namespace Go.Proofs.YtfhbkemmdoappaaDoor
open Go.RowKit
set_option linter.unusedVariables false

set_option maxHeartbeats 1000000 in
theorem refWord_some (m : Mach) (l : ML) (b off cap : Nat) (xs : List Int) (w : World) (hl : xs.length ≤ 9223372036854775807) (hb : b < w.heap.size) (hc : Cells w b off xs) :
    Calls Tryd.prog 9 #[mval m l, .slice (some ⟨b, off, none⟩) xs.length cap] w fun e w' => e = .returned (.bool (wordB m.ev xs)) ∧ Below w.heap.size w w' := by
  go_enter Tryd.func9, Tryd.ntmps9
  go_wp2
  go_loopw [5] (fun i wr => ∃ k : Nat, k ≤ xs.length ∧ i = .int .i64 k ∧ Below (w.heap.size + 1) (w.alloc (.cells (mcells m l) 25)) wr ∧ Hid (wordB m.ev xs = wordB m.ev (xs.drop k))) (fun i _ => xs.length - (intOf i).toNat)
  case atStart => exact ⟨0, Nat.zero_le _, rfl, Below.refl _ _, rfl⟩
  case round =>
    obtain ⟨k, hk, rfl, hbel, he⟩ := hrel
    have hold := below_box hbel
    by_cases hlt : k < xs.length
    · obtain ⟨x, HX, hcx0⟩ := hc.at hlt
      have hcx := (hold.cell (p := ⟨b, off + k, none⟩) hb).trans hcx0
      clear hcx0
      have hev := (box_cells hbel).2.1
      by_cases e1 : x < 0
      · have f1 : decide (x < 0) = true := by simpa using e1
        go_wp2
        go_quiet (fail)
        go_wp2
        go_ret
        exact ⟨ret_bool (word_no hlt HX he (.inl e1)), below_drewN hold _⟩
      · have f1 : decide (x < 0) = false := by simpa using e1
        by_cases e2 : m.ev ≤ x
        · have f2 : decide (m.ev ≤ x) = true := by simpa using e2
          go_wp2
          go_quiet (fail)
          go_wp2
          go_ret
          exact ⟨ret_bool (word_no hlt HX he (.inr e2)), below_drewN hold _⟩
        · have f2 : decide (m.ev ≤ x) = false := by simpa using e2
          go_wp2
          go_quiet (fail)
          go_wp2
          go_roundw
          case rel => exact ⟨k + 1, by omega, by go_num, below_drewN hbel _, word_yes hlt HX he (by omega)⟩
          case measure => simp [intOf]; omega
    · go_wp2
      go_ret
      exact ⟨ret_bool (word_end hlt he), hold⟩

set_option maxHeartbeats 400000 in
theorem refWord_nil (m : Mach) (l : ML) (a : Option Addr) (cap : Nat) (w : World) :
    Calls Tryd.prog 9 #[mval m l, .slice a 0 cap] w fun e w' => e = .returned (.bool true) ∧ Below w.heap.size w w' := by
  go_enter Tryd.func9, Tryd.ntmps9
  go_wp2
  refine wp_loop_rounds 1 ?_
  rw [rounds_succ]
  go_wp2
  go_ret
  exact ⟨rfl, (Below.refl _ _).alloc (Nat.le_refl _) _⟩

theorem refWord_any (m : Mach) (l : ML) (a : Option Addr) (cap : Nat) (xs : List Int) (w : World) (hs : At w a xs) (hl : xs.length ≤ maxLen) :
    Calls Tryd.prog 9 #[mval m l, .slice a xs.length cap] w fun e w' => e = .returned (.bool (wordB m.ev xs)) ∧ Below w.heap.size w w' := by
  rcases hs with rfl | ⟨b, off, rfl, hb, hc⟩
  · exact refWord_nil m l a cap w
  · exact refWord_some m l b off cap xs w hl hb hc

set_option maxHeartbeats 2000000 in
set_option maxRecDepth 100000 in
theorem refStep_some (st ev : Int) (starts : List Int) (ars : List Arr) (ends : List Int) (a1 : Option Addr) (c1 b off c2 : Nat) (a3 : Option Addr) (c3 : Nat) (sa : Option Addr) (sc : Nat) (ss : List Int) (x : Int) (w : World) (hlen : ars.length ≤ 17592186044416) (hb : b < w.heap.size) (hca : CellsA w b off ars) (hs : At w sa ss) (hl : ss.length ≤ maxLen) :
    Calls Tryd.prog 22 #[mval ⟨st, ev, starts, ars, ends⟩ ⟨a1, c1, some ⟨b, off, none⟩, c2, a3, c3⟩, .slice sa ss.length sc, .int .i64 x] w fun e w' => Gives w (stepL ars ss x) e w' := by
  obtain ⟨i0, hi, hz0, hz1, hz2⟩ := info_parts Tryd.infoInt
  go_enter Tryd.func22, Tryd.ntmps22
  go_wp2
  go_loopw [7, 8] (fun v i wr => ∃ k : Nat, k ≤ ars.length ∧ i = .int .i64 k ∧ Own wr (w.heap.size + 1) v (stepTo (ars.take k) ss x) ∧ Below (w.heap.size + 1) (w.alloc (.cells (mcells ⟨st, ev, starts, ars, ends⟩ ⟨a1, c1, some ⟨b, off, none⟩, c2, a3, c3⟩) 25)) wr) (fun _ i _ => ars.length - (intOf i).toNat)
  case atStart => exact ⟨0, Nat.zero_le _, rfl, own_nil _ _, Below.refl _ _⟩
  case round =>
    obtain ⟨k, hk, rfl, hown, hbel⟩ := hrel
    have hold := below_box hbel
    have hsz := hbel.size
    rw [World.size_alloc] at hsz
    have hbx : w.heap.size < wr.heap.size := by omega
    have hbr : b < wr.heap.size := by omega
    have hbox := (box_cells hbel).2.2.2.1
    dsimp only at hbox
    by_cases hlt : k < ars.length
    · obtain ⟨a, HA, y0, y1, y2⟩ := hca.at hlt
      have y0' := (hold.cell (p := ⟨b, off + k * 3, none⟩) hb).trans y0
      have y1' := (hold.cell (p := ⟨b, off + k * 3 + 1, none⟩) hb).trans y1
      have y2' := (hold.cell (p := ⟨b, off + k * 3 + 2, none⟩) hb).trans y2
      clear y0 y1 y2
      have hsr := hs.below hold (Nat.le_refl _)
      have hll := stepTo_len (ars.take k) ss x
      rw [List.length_take] at hll
      have HN := stepTo_take (ss := ss) (e := x) hlt HA
      by_cases c1' : a.e = x
      · have g1 : (a.e == x) = true := by simp [c1']
        have HC : Hid (a.e = x) := c1'
        clear c1'
        go_wp2_with fail
        refine (refHas_any sa sc ss a.f _ hsr hl).mono ?_
        rintro e w1 ⟨rfl, rfl⟩
        by_cases c2' : hasB ss a.f = true
        · rw [if_pos (by rw [g1, c2']; rfl)] at HN
          have HN' : Hid (stepTo (ars.take (k + 1)) ss x = stepTo (ars.take k) ss x ++ [a.t]) := HN
          clear HN
          go_wp2_with (at_builtin; refine wpList_append_own _ rfl _ _ 22 rfl (w.heap.size + 1) 3 i0 (.int .i64 0) 1 8 Tryd.underlying22 hi hz0 hz1 hz2 rfl (by decide) _ _ _ rfl (World.ownsRow.alloc hown _) ⟨w1.heap.size, 0, none⟩ 1 1 [.int .i64 a.t] rfl rfl (cell_one_new _ _ _) (by intro u hu; simp at hu; subst hu; rfl) (by unfold maxLen; omega) (by omega) (by simp; omega) ?_)
          intro v' w2 hown' hgrow _
          obtain ⟨r1, r2, -⟩ := own_snoc hown hbel (by omega) hown' hgrow
          rw [← HN'.out] at r1
          clear hown' hgrow hown
          go_wp2
          go_roundw
          case rel => exact ⟨k + 1, by omega, by go_num, r1, r2⟩
          case measure => simp [intOf]; omega
        · have c3' : hasB ss a.f = false := by simpa using c2'
          rw [if_neg (by rw [c3']; simp)] at HN
          have r1 := hown
          rw [← HN] at r1
          clear HN c2'
          go_wp2
          go_roundw
          case rel => exact ⟨k + 1, by omega, by go_num, r1, hbel⟩
          case measure => simp [intOf]; omega
      · have g1 : (a.e == x) = false := by simp [c1']
        rw [if_neg (by rw [g1]; simp)] at HN
        have r1 := hown
        rw [← HN] at r1
        clear HN
        go_wp2
        go_roundw
        case rel => exact ⟨k + 1, by omega, by go_num, r1, hbel⟩
        case measure => simp [intOf]; omega
    · have htk : Hid (ars.take k = ars) := List.take_of_length_le (by omega)
      rw [htk.out] at hown
      have hl2 := stepTo_len ars ss x
      obtain ⟨a', c', rfl, h3, l3⟩ := hown.at
      go_wp2_with fail
      refine (sorted_any a' c' (stepTo ars ss x) _ h3 (by omega)).mono ?_
      rintro e w1 ⟨a4, c4, rfl, h4, l4, b4⟩
      have bb : Below w.heap.size w w1 := hold.trans (b4.mono (by omega))
      go_wp2
      go_ret
      exact ⟨a4, c4, rfl, h4, l4, bb⟩

set_option maxHeartbeats 400000 in
theorem refStep_nil (st ev : Int) (starts : List Int) (ends : List Int) (l : ML) (sa : Option Addr) (sc : Nat) (ss : List Int) (x : Int) (w : World) :
    Calls Tryd.prog 22 #[mval ⟨st, ev, starts, [], ends⟩ l, .slice sa ss.length sc, .int .i64 x] w fun e w' => Gives w [] e w' := by
  go_enter Tryd.func22, Tryd.ntmps22
  go_wp2_with fail
  refine wp_loop_rounds 1 ?_
  rw [rounds_succ]
  go_wp2_with fail
  refine (sorted_nil none 0 _).mono ?_
  rintro e w1 ⟨rfl, rfl⟩
  go_wp2
  go_ret
  exact ⟨none, 0, rfl, .inl rfl, Nat.zero_le _, (Below.refl _ _).alloc (Nat.le_refl _) _⟩

theorem refStep_any (m : Mach) (l : ML) (sa : Option Addr) (sc : Nat) (ss : List Int) (x : Int) (w : World) (ha : AtA w l.a2 m.arrows) (hlen : m.arrows.length ≤ 17592186044416) (hs : At w sa ss) (hl : ss.length ≤ maxLen) :
    Calls Tryd.prog 22 #[mval m l, .slice sa ss.length sc, .int .i64 x] w fun e w' => Gives w (stepL m.arrows ss x) e w' := by
  obtain ⟨st, ev, starts, ars, ends⟩ := m
  obtain ⟨a1, c1, a2, c2, a3, c3⟩ := l
  rcases ha with h0 | ⟨b, off, h0, hb, hc⟩
  · have h0 : ars = [] := h0
    subst h0
    exact refStep_nil st ev starts ends _ sa sc ss x w
  · have h0 : a2 = some ⟨b, off, none⟩ := h0
    subst h0
    exact refStep_some st ev starts ars ends a1 c1 b off c2 a3 c3 sa sc ss x w hlen hb hc hs hl

/-- What holds of the list at the head of each round of After. -/
def AR (wr : World) (ars : List Arr) (ss word : List Int) (k : Nat) (v : Value) : Prop := ∃ a c, v = .slice a (afterL ars ss (word.take k)).length c ∧ At wr a (afterL ars ss (word.take k)) ∧ (afterL ars ss (word.take k)).length ≤ maxLen

set_option maxHeartbeats 2000000 in
set_option maxRecDepth 100000 in
theorem refAfter_some (m : Mach) (l : ML) (sa : Option Addr) (sc : Nat) (ss : List Int) (b off wc : Nat) (word : List Int) (w : World) (ha : AtA w l.a2 m.arrows) (hlen : m.arrows.length ≤ 17592186044416) (hs : At w sa ss) (hsl : ss.length ≤ 17592186044416) (hn : Hid (sa = none → sc = 0)) (hb : b < w.heap.size) (hc : Cells w b off word) (hwl : word.length ≤ 9223372036854775807) :
    Calls Tryd.prog 11 #[mval m l, .slice sa ss.length sc, .slice (some ⟨b, off, none⟩) word.length wc] w fun e w' => Gives w (afterL m.arrows ss word) e w' := by
  obtain ⟨i0, hi, hz0, hz1, hz2⟩ := info_parts Tryd.infoInt
  have o0 : Own ((w.alloc (.cells (mcells m l) 25)).alloc (.cells #[] 3)) (w.alloc (.cells (mcells m l) 25)).heap.size (.slice (some ⟨(w.alloc (.cells (mcells m l) 25)).heap.size, 0, none⟩) 0 0) [] := own_empty _
  rw [World.size_alloc] at o0
  have b0 : Below (w.heap.size + 1) (w.alloc (.cells (mcells m l) 25)) ((w.alloc (.cells (mcells m l) 25)).alloc (.cells #[] 3)) := (Below.refl _ _).alloc (by simp) _
  have s0 : At ((w.alloc (.cells (mcells m l) 25)).alloc (.cells #[] 3)) sa ss := hs.below (below_box b0) (Nat.le_refl _)
  go_enter Tryd.func11, Tryd.ntmps11
  go_wp2_with (at_builtin; refine wpList_append_ints _ rfl _ _ 22 rfl (w.heap.size + 1) i0 Tryd.underlying22 hi hz0 hz1 hz2 _ [] rfl o0 sa sc ss rfl s0 hn.out (by simp only [List.length_nil]; omega) (by simp) ?_)
  intro v1 w1 o1 b1 z1
  have hbel1 := b0.trans b1
  clear o0 s0 b0 b1
  have hAR : AR w1 m.arrows ss word 0 v1 := by
    obtain ⟨a, c, rfl, h1, h2⟩ := o1.at
    exact ⟨a, c, rfl, h1, h2⟩
  clear o1
  go_wp2
  go_loopw [7, 8] (fun v i wr => ∃ k : Nat, k ≤ word.length ∧ i = .int .i64 k ∧ AR wr m.arrows ss word k v ∧ Below (w.heap.size + 1) (w.alloc (.cells (mcells m l) 25)) wr) (fun _ i _ => word.length - (intOf i).toNat)
  case atStart => exact ⟨0, Nat.zero_le _, rfl, hAR, hbel1⟩
  case round =>
    obtain ⟨k, hk, rfl, hr, hbel⟩ := hrel
    clear hAR hbel1 z1
    obtain ⟨av, cv, rfl, hat, hal⟩ := hr
    have hold := below_box hbel
    have hsz := hbel.size
    rw [World.size_alloc] at hsz
    by_cases hlt : k < word.length
    · obtain ⟨x, HX, hcx0⟩ := hc.at hlt
      have hcx := (hold.cell (p := ⟨b, off + k, none⟩) hb).trans hcx0
      clear hcx0
      obtain ⟨x0, x1, x2, x3, x4⟩ := box_cells hbel
      have har := ha.below hold (Nat.le_refl _)
      have HN : Hid (afterL m.arrows ss (word.take (k + 1)) = stepL m.arrows (afterL m.arrows ss (word.take k)) x) := afterL_take hlt HX
      generalize afterL m.arrows ss (word.take k) = L at *
      go_wp2
      go_region_with (go_at_call 22; refine (refStep_any m l av cv L x _ ?_ hlen ?_ hal).mono ?_; exact har; exact hat; rintro e w2 ⟨a2', c2', rfl, h2', l2', b2'⟩)
      all_goals
        go_wp2
        go_roundw
        case rel => exact ⟨k + 1, by omega, by go_num, by unfold AR; rw [HN.out]; exact ⟨a2', c2', rfl, h2', l2'⟩, hbel.drew.trans (b2'.mono (by simp; omega))⟩
        case measure => simp [intOf]; omega
    · rw [show word.take k = word from List.take_of_length_le (by omega)] at hat hal ⊢
      go_wp2
      go_ret
      exact ⟨av, cv, rfl, hat, hal, hold⟩

set_option maxHeartbeats 1000000 in
theorem refAfter_nil (m : Mach) (l : ML) (sa : Option Addr) (sc : Nat) (ss : List Int) (wa : Option Addr) (wc : Nat) (w : World) (hs : At w sa ss) (hsl : ss.length ≤ 17592186044416) (hn : Hid (sa = none → sc = 0)) :
    Calls Tryd.prog 11 #[mval m l, .slice sa ss.length sc, .slice wa 0 wc] w fun e w' => Gives w ss e w' := by
  obtain ⟨i0, hi, hz0, hz1, hz2⟩ := info_parts Tryd.infoInt
  have o0 : Own ((w.alloc (.cells (mcells m l) 25)).alloc (.cells #[] 3)) (w.alloc (.cells (mcells m l) 25)).heap.size (.slice (some ⟨(w.alloc (.cells (mcells m l) 25)).heap.size, 0, none⟩) 0 0) [] := own_empty _
  rw [World.size_alloc] at o0
  have b0 : Below (w.heap.size + 1) (w.alloc (.cells (mcells m l) 25)) ((w.alloc (.cells (mcells m l) 25)).alloc (.cells #[] 3)) := (Below.refl _ _).alloc (by simp) _
  have s0 : At ((w.alloc (.cells (mcells m l) 25)).alloc (.cells #[] 3)) sa ss := hs.below (below_box b0) (Nat.le_refl _)
  go_enter Tryd.func11, Tryd.ntmps11
  go_wp2_with (at_builtin; refine wpList_append_ints _ rfl _ _ 22 rfl (w.heap.size + 1) i0 Tryd.underlying22 hi hz0 hz1 hz2 _ [] rfl o0 sa sc ss rfl s0 hn.out (by simp only [List.length_nil]; omega) (by simp) ?_)
  intro v1 w1 o1 b1 z1
  have hbel1 := b0.trans b1
  clear o0 s0 b0 b1
  obtain ⟨a, c, rfl, h1, h2⟩ := o1.at
  clear o1
  go_wp2_with fail
  refine wp_loop_rounds 1 ?_
  rw [rounds_succ]
  go_wp2
  go_ret
  exact ⟨a, c, rfl, h1, h2, below_box hbel1⟩

theorem refAfter_any (m : Mach) (l : ML) (sa : Option Addr) (sc : Nat) (ss : List Int) (wa : Option Addr) (wc : Nat) (word : List Int) (w : World) (ha : AtA w l.a2 m.arrows) (hlen : m.arrows.length ≤ 17592186044416) (hs : At w sa ss) (hsl : ss.length ≤ 17592186044416) (hn : sa = none → sc = 0) (hw : At w wa word) (hwl : word.length ≤ maxLen) :
    Calls Tryd.prog 11 #[mval m l, .slice sa ss.length sc, .slice wa word.length wc] w fun e w' => Gives w (afterL m.arrows ss word) e w' := by
  rcases hw with rfl | ⟨b, off, rfl, hb, hc⟩
  · exact refAfter_nil m l sa sc ss wa wc w hs hsl hn
  · exact refAfter_some m l sa sc ss b off wc word w ha hlen hs hsl hn hb hc hwl

set_option maxHeartbeats 1000000 in
theorem refAccepts_any (m : Mach) (l : ML) (wa : Option Addr) (wc : Nat) (word : List Int) (w : World) (h : MAt w m l) (hlen : m.arrows.length ≤ 4096) (hst : m.starts.length ≤ 4096) (hw : At w wa word) (hwl : word.length ≤ maxLen) :
    Calls Tryd.prog 13 #[mval m l, .slice wa word.length wc] w fun e w' => e = .returned (.bool (acceptsB m word)) ∧ Below w.heap.size w w' := by
  have b0 : Below w.heap.size w (w.alloc (.cells (mcells m l) 25)) := (Below.refl _ _).alloc (Nat.le_refl _) _
  have h' := h.below b0 (Nat.le_refl _)
  have hw' := hw.below b0 (Nat.le_refl _)
  have HA : Hid (acceptsB m word = decide (0 < (acceptsL m word).length)) := rfl
  have hll : (afterL m.arrows m.starts word).length ≤ 4096 := afterL_len hst hlen word
  have l3 : m.ends.length ≤ maxLen := Nat.le_trans h.e1 h.e2
  go_enter Tryd.func13, Tryd.ntmps13
  go_wp2_with fail
  refine (refAfter_any m l l.a1 l.c1 m.starts wa wc word _ h'.a (by omega) h'.s (by omega) h'.s3 hw' hwl).mono ?_
  rintro e w1 ⟨a1, c1, rfl, s1, l1, b1⟩
  have bb1 : Below (w.heap.size + 1) (w.alloc (.cells (mcells m l) 25)) w1 := b1.mono (by simp)
  have hold := below_box bb1
  have he := h.e.below hold (Nat.le_refl _)
  obtain ⟨x0, x1, x2, x3, x4⟩ := box_cells bb1
  clear b1 h' hw' b0
  go_wp2_with fail
  refine (only_any a1 l.a3 c1 l.c3 (afterL m.arrows m.starts word) m.ends true _ s1 (by omega) he l3).mono ?_
  rintro e w2 ⟨a2, c2, rfl, s2, l2, b2⟩
  have bb2 : Below w.heap.size w w2 := hold.trans (b2.mono hold.size)
  have HL : Hid ((afterL m.arrows m.starts word).filter (fun n => hasB m.ends n == true) = acceptsL m word) := rfl
  rw [HL.out] at l2 ⊢
  go_wp2
  go_ret
  exact ⟨ret_bool HA.out.symm, bb2⟩

end Go.Proofs.YtfhbkemmdoappaaDoor
