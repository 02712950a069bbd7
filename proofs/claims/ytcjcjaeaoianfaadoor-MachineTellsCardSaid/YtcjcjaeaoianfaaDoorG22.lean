/-
  The walk of jalousieref2.Step.
  The walks of jalousieref2.Word, Step, After and Accepts.
  The walks of jalousieref1.Same (two lists are one) and of jalousieref1.Only (the numbers of a list that are, or are not, in another).
  The walk of the law MachineTells.
-/
import Derived.Test.YtcjcjaeaoianfaaDoorG03
import Derived.Test.YtcjcjaeaoianfaaDoorG21
import Derived.Deep.RegionWith
import Derived.BigQuiet
import Derived.Test.YtcjcjaeaoianfaaDoorG04
import Derived.Deep.QuietTactic
import Derived.Test.YtcjcjaeaoianfaaDoorG19
import Derived.Test.YtcjcjaeaoianfaaDoorCRefMay
namespace Go.Proofs.YtcjcjaeaoianfaaDoor
open Go.RowKit
set_option linter.unusedVariables false

set_option maxHeartbeats 2000000 in
set_option maxRecDepth 100000 in
theorem refStep_some (st ev : Int) (starts : List Int) (ars : List Arr) (ends : List Int) (a1 : Option Addr) (c1 b off c2 : Nat) (a3 : Option Addr) (c3 : Nat) (sa : Option Addr) (sc : Nat) (ss : List Int) (x : Int) (w : World) (hlen : ars.length ≤ 17592186044416) (hb : b < w.heap.size) (hca : CellsA w b off ars) (hs : At w sa ss) (hl : ss.length ≤ maxLen) :
    Calls Tryd.prog 42 #[mval ⟨st, ev, starts, ars, ends⟩ ⟨a1, c1, some ⟨b, off, none⟩, c2, a3, c3⟩, .slice sa ss.length sc, .int .i64 x] w fun e w' => GivesO w (stepL ars ss x) e w' := by
  obtain ⟨i0, hi, hz0, hz1, hz2⟩ := info_parts Tryd.infoInt
  go_enter Tryd.func42, Tryd.ntmps42
  go_wp2
  go_loopw [7, 8] (fun v i wr => ∃ k : Nat, k ≤ ars.length ∧ i = .int .i64 k ∧ Own wr (w.heap.size + 1) v (stepTo (ars.take k) ss x) ∧ Below (w.heap.size + 1) (w.alloc (.cells (mcells ⟨st, ev, starts, ars, ends⟩ ⟨a1, c1, some ⟨b, off, none⟩, c2, a3, c3⟩) 25)) wr) (fun _ i _ => ars.length - (intOf i).toNat)
  case atStart => exact ⟨0, Nat.zero_le _, rfl, own_nil _ _, Below.refl _ _⟩
  case round =>
    obtain ⟨k, hk, rfl, hown, hbel⟩ := hrel
    have hold := below_box hbel
    have hsz := hbel.size
    rw [World.size_alloc] at hsz
    have hbx : w.heap.size < wr.heap.size := by omega
    have hbr : b < wr.heap.size := by omega
    have hbox := (box_cells hbel).2.2.2.1
    dsimp only at hbox
    by_cases hlt : k < ars.length
    · obtain ⟨a, HA, y0, y1, y2⟩ := hca.at hlt
      have y0' := (hold.cell (p := ⟨b, off + k * 3, none⟩) hb).trans y0
      have y1' := (hold.cell (p := ⟨b, off + k * 3 + 1, none⟩) hb).trans y1
      have y2' := (hold.cell (p := ⟨b, off + k * 3 + 2, none⟩) hb).trans y2
      clear y0 y1 y2
      have hsr := hs.below hold (Nat.le_refl _)
      have hll := stepTo_len (ars.take k) ss x
      rw [List.length_take] at hll
      have HN := stepTo_take (ss := ss) (e := x) hlt HA
      by_cases c1' : a.e = x
      · have g1 : (a.e == x) = true := by simp [c1']
        have HC : Hid (a.e = x) := c1'
        clear c1'
        go_wp2_with fail
        refine (refHas_any sa sc ss a.f _ hsr hl).mono ?_
        rintro e w1 ⟨rfl, rfl⟩
        by_cases c2' : hasB ss a.f = true
        · rw [if_pos (by rw [g1, c2']; rfl)] at HN
          have HN' : Hid (stepTo (ars.take (k + 1)) ss x = stepTo (ars.take k) ss x ++ [a.t]) := HN
          clear HN
          go_wp2_with (at_builtin; refine wpList_append_own _ rfl _ _ 22 rfl (w.heap.size + 1) 3 i0 (.int .i64 0) 1 8 Tryd.underlying22 hi hz0 hz1 hz2 rfl (by decide) _ _ _ rfl (World.ownsRow.alloc hown _) ⟨w1.heap.size, 0, none⟩ 1 1 [.int .i64 a.t] rfl rfl (cell_one_new _ _ _) (by intro u hu; simp at hu; subst hu; rfl) (by unfold maxLen; omega) (by omega) (by simp; omega) ?_)
          intro v' w2 hown' hgrow _
          obtain ⟨r1, r2, -⟩ := own_snoc hown hbel (by omega) hown' hgrow
          rw [← HN'.out] at r1
          clear hown' hgrow hown
          go_wp2
          go_roundw
          case rel => exact ⟨k + 1, by omega, by go_num, r1, r2⟩
          case measure => simp [intOf]; omega
        · have c3' : hasB ss a.f = false := by simpa using c2'
          rw [if_neg (by rw [c3']; simp)] at HN
          have r1 := hown
          rw [← HN] at r1
          clear HN c2'
          go_wp2
          go_roundw
          case rel => exact ⟨k + 1, by omega, by go_num, r1, hbel⟩
          case measure => simp [intOf]; omega
      · have g1 : (a.e == x) = false := by simp [c1']
        rw [if_neg (by rw [g1]; simp)] at HN
        have r1 := hown
        rw [← HN] at r1
        clear HN
        go_wp2
        go_roundw
        case rel => exact ⟨k + 1, by omega, by go_num, r1, hbel⟩
        case measure => simp [intOf]; omega
    · have htk : Hid (ars.take k = ars) := List.take_of_length_le (by omega)
      rw [htk.out] at hown
      have hl2 := stepTo_len ars ss x
      obtain ⟨a', c', rfl, h3, l3⟩ := hown.at
      go_wp2_with fail
      refine (sorted_own a' c' (stepTo ars ss x) _ h3 (by omega)).mono ?_
      rintro e w1 ⟨v4, rfl, o4, b4⟩
      have bb : Below w.heap.size w w1 := hold.trans (b4.mono (by omega))
      go_wp2
      go_ret
      exact ⟨v4, rfl, o4.low (by omega), bb⟩

set_option maxHeartbeats 400000 in
theorem refStep_nil (st ev : Int) (starts : List Int) (ends : List Int) (l : ML) (sa : Option Addr) (sc : Nat) (ss : List Int) (x : Int) (w : World) :
    Calls Tryd.prog 42 #[mval ⟨st, ev, starts, [], ends⟩ l, .slice sa ss.length sc, .int .i64 x] w fun e w' => GivesO w [] e w' := by
  go_enter Tryd.func42, Tryd.ntmps42
  go_wp2_with fail
  refine wp_loop_rounds 1 ?_
  rw [rounds_succ]
  go_wp2_with fail
  refine (sorted_nil none 0 _).mono ?_
  rintro e w1 ⟨rfl, rfl⟩
  go_wp2
  go_ret
  exact ⟨_, rfl, own_nil _ _, (Below.refl _ _).alloc (Nat.le_refl _) _⟩

theorem refStep_own (m : Mach) (l : ML) (sa : Option Addr) (sc : Nat) (ss : List Int) (x : Int) (w : World) (ha : AtA w l.a2 m.arrows) (hlen : m.arrows.length ≤ 17592186044416) (hs : At w sa ss) (hl : ss.length ≤ maxLen) :
    Calls Tryd.prog 42 #[mval m l, .slice sa ss.length sc, .int .i64 x] w fun e w' => GivesO w (stepL m.arrows ss x) e w' := by
  obtain ⟨st, ev, starts, ars, ends⟩ := m
  obtain ⟨a1, c1, a2, c2, a3, c3⟩ := l
  rcases ha with h0 | ⟨b, off, h0, hb, hc⟩
  · have h0 : ars = [] := h0
    subst h0
    exact refStep_nil st ev starts ends _ sa sc ss x w
  · have h0 : a2 = some ⟨b, off, none⟩ := h0
    subst h0
    exact refStep_some st ev starts ars ends a1 c1 b off c2 a3 c3 sa sc ss x w hlen hb hc hs hl

theorem refStep_any (m : Mach) (l : ML) (sa : Option Addr) (sc : Nat) (ss : List Int) (x : Int) (w : World) (ha : AtA w l.a2 m.arrows) (hlen : m.arrows.length ≤ 17592186044416) (hs : At w sa ss) (hl : ss.length ≤ maxLen) :
    Calls Tryd.prog 42 #[mval m l, .slice sa ss.length sc, .int .i64 x] w fun e w' => Gives w (stepL m.arrows ss x) e w' :=
  (refStep_own m l sa sc ss x w ha hlen hs hl).mono fun _ _ h => h.gives

end Go.Proofs.YtcjcjaeaoianfaaDoor
namespace Go.Proofs.YtcjcjaeaoianfaaDoor
open Go.RowKit
set_option linter.unusedVariables false

set_option maxHeartbeats 1000000 in
theorem refWord_some (m : Mach) (l : ML) (b off cap : Nat) (xs : List Int) (w : World) (hl : xs.length ≤ 9223372036854775807) (hb : b < w.heap.size) (hc : Cells w b off xs) :
    Calls Tryd.prog 15 #[mval m l, .slice (some ⟨b, off, none⟩) xs.length cap] w fun e w' => e = .returned (.bool (wordB m.ev xs)) ∧ Below w.heap.size w w' := by
  go_enter Tryd.func15, Tryd.ntmps15
  go_wp2
  go_loopw [5] (fun i wr => ∃ k : Nat, k ≤ xs.length ∧ i = .int .i64 k ∧ Below (w.heap.size + 1) (w.alloc (.cells (mcells m l) 25)) wr ∧ Hid (wordB m.ev xs = wordB m.ev (xs.drop k))) (fun i _ => xs.length - (intOf i).toNat)
  case atStart => exact ⟨0, Nat.zero_le _, rfl, Below.refl _ _, rfl⟩
  case round =>
    obtain ⟨k, hk, rfl, hbel, he⟩ := hrel
    have hold := below_box hbel
    by_cases hlt : k < xs.length
    · obtain ⟨x, HX, hcx0⟩ := hc.at hlt
      have hcx := (hold.cell (p := ⟨b, off + k, none⟩) hb).trans hcx0
      clear hcx0
      have hev := (box_cells hbel).2.1
      by_cases e1 : x < 0
      · have f1 : decide (x < 0) = true := by simpa using e1
        go_wp2
        go_quiet (fail)
        go_wp2
        go_ret
        exact ⟨ret_bool (word_no hlt HX he (.inl e1)), below_drewN hold _⟩
      · have f1 : decide (x < 0) = false := by simpa using e1
        by_cases e2 : m.ev ≤ x
        · have f2 : decide (m.ev ≤ x) = true := by simpa using e2
          go_wp2
          go_quiet (fail)
          go_wp2
          go_ret
          exact ⟨ret_bool (word_no hlt HX he (.inr e2)), below_drewN hold _⟩
        · have f2 : decide (m.ev ≤ x) = false := by simpa using e2
          go_wp2
          go_quiet (fail)
          go_wp2
          go_roundw
          case rel => exact ⟨k + 1, by omega, by go_num, below_drewN hbel _, word_yes hlt HX he (by omega)⟩
          case measure => simp [intOf]; omega
    · go_wp2
      go_ret
      exact ⟨ret_bool (word_end hlt he), hold⟩

set_option maxHeartbeats 400000 in
theorem refWord_nil (m : Mach) (l : ML) (a : Option Addr) (cap : Nat) (w : World) :
    Calls Tryd.prog 15 #[mval m l, .slice a 0 cap] w fun e w' => e = .returned (.bool true) ∧ Below w.heap.size w w' := by
  go_enter Tryd.func15, Tryd.ntmps15
  go_wp2
  refine wp_loop_rounds 1 ?_
  rw [rounds_succ]
  go_wp2
  go_ret
  exact ⟨rfl, (Below.refl _ _).alloc (Nat.le_refl _) _⟩

theorem refWord_any (m : Mach) (l : ML) (a : Option Addr) (cap : Nat) (xs : List Int) (w : World) (hs : At w a xs) (hl : xs.length ≤ maxLen) :
    Calls Tryd.prog 15 #[mval m l, .slice a xs.length cap] w fun e w' => e = .returned (.bool (wordB m.ev xs)) ∧ Below w.heap.size w w' := by
  rcases hs with rfl | ⟨b, off, rfl, hb, hc⟩
  · exact refWord_nil m l a cap w
  · exact refWord_some m l b off cap xs w hl hb hc

/-- What holds of the list at the head of each round of After. -/
def AR (wr : World) (ars : List Arr) (ss word : List Int) (k : Nat) (v : Value) : Prop := ∃ a c, v = .slice a (afterL ars ss (word.take k)).length c ∧ At wr a (afterL ars ss (word.take k)) ∧ (afterL ars ss (word.take k)).length ≤ maxLen

set_option maxHeartbeats 2000000 in
set_option maxRecDepth 100000 in
theorem refAfter_some (m : Mach) (l : ML) (sa : Option Addr) (sc : Nat) (ss : List Int) (b off wc : Nat) (word : List Int) (w : World) (ha : AtA w l.a2 m.arrows) (hlen : m.arrows.length ≤ 17592186044416) (hs : At w sa ss) (hsl : ss.length ≤ 17592186044416) (hn : Hid (sa = none → sc = 0)) (hb : b < w.heap.size) (hc : Cells w b off word) (hwl : word.length ≤ 9223372036854775807) :
    Calls Tryd.prog 17 #[mval m l, .slice sa ss.length sc, .slice (some ⟨b, off, none⟩) word.length wc] w fun e w' => Gives w (afterL m.arrows ss word) e w' := by
  obtain ⟨i0, hi, hz0, hz1, hz2⟩ := info_parts Tryd.infoInt
  have o0 : Own ((w.alloc (.cells (mcells m l) 25)).alloc (.cells #[] 3)) (w.alloc (.cells (mcells m l) 25)).heap.size (.slice (some ⟨(w.alloc (.cells (mcells m l) 25)).heap.size, 0, none⟩) 0 0) [] := own_empty _
  rw [World.size_alloc] at o0
  have b0 : Below (w.heap.size + 1) (w.alloc (.cells (mcells m l) 25)) ((w.alloc (.cells (mcells m l) 25)).alloc (.cells #[] 3)) := (Below.refl _ _).alloc (by simp) _
  have s0 : At ((w.alloc (.cells (mcells m l) 25)).alloc (.cells #[] 3)) sa ss := hs.below (below_box b0) (Nat.le_refl _)
  go_enter Tryd.func17, Tryd.ntmps17
  go_wp2_with (at_builtin; refine wpList_append_ints _ rfl _ _ 22 rfl (w.heap.size + 1) i0 Tryd.underlying22 hi hz0 hz1 hz2 _ [] rfl o0 sa sc ss rfl s0 hn.out (by simp only [List.length_nil]; omega) (by simp) ?_)
  intro v1 w1 o1 b1 z1
  have hbel1 := b0.trans b1
  clear o0 s0 b0 b1
  have hAR : AR w1 m.arrows ss word 0 v1 := by
    obtain ⟨a, c, rfl, h1, h2⟩ := o1.at
    exact ⟨a, c, rfl, h1, h2⟩
  clear o1
  go_wp2
  go_loopw [7, 8] (fun v i wr => ∃ k : Nat, k ≤ word.length ∧ i = .int .i64 k ∧ AR wr m.arrows ss word k v ∧ Below (w.heap.size + 1) (w.alloc (.cells (mcells m l) 25)) wr) (fun _ i _ => word.length - (intOf i).toNat)
  case atStart => exact ⟨0, Nat.zero_le _, rfl, hAR, hbel1⟩
  case round =>
    obtain ⟨k, hk, rfl, hr, hbel⟩ := hrel
    clear hAR hbel1 z1
    obtain ⟨av, cv, rfl, hat, hal⟩ := hr
    have hold := below_box hbel
    have hsz := hbel.size
    rw [World.size_alloc] at hsz
    by_cases hlt : k < word.length
    · obtain ⟨x, HX, hcx0⟩ := hc.at hlt
      have hcx := (hold.cell (p := ⟨b, off + k, none⟩) hb).trans hcx0
      clear hcx0
      obtain ⟨x0, x1, x2, x3, x4⟩ := box_cells hbel
      have har := ha.below hold (Nat.le_refl _)
      have HN : Hid (afterL m.arrows ss (word.take (k + 1)) = stepL m.arrows (afterL m.arrows ss (word.take k)) x) := afterL_take hlt HX
      generalize afterL m.arrows ss (word.take k) = L at *
      go_wp2
      go_region_with (go_at_call 42; refine (refStep_any m l av cv L x _ ?_ hlen ?_ hal).mono ?_; exact har; exact hat; rintro e w2 ⟨a2', c2', rfl, h2', l2', b2'⟩)
      all_goals
        go_wp2
        go_roundw
        case rel => exact ⟨k + 1, by omega, by go_num, by unfold AR; rw [HN.out]; exact ⟨a2', c2', rfl, h2', l2'⟩, hbel.drew.trans (b2'.mono (by simp; omega))⟩
        case measure => simp [intOf]; omega
    · rw [show word.take k = word from List.take_of_length_le (by omega)] at hat hal ⊢
      go_wp2
      go_ret
      exact ⟨av, cv, rfl, hat, hal, hold⟩

set_option maxHeartbeats 1000000 in
theorem refAfter_nil (m : Mach) (l : ML) (sa : Option Addr) (sc : Nat) (ss : List Int) (wa : Option Addr) (wc : Nat) (w : World) (hs : At w sa ss) (hsl : ss.length ≤ 17592186044416) (hn : Hid (sa = none → sc = 0)) :
    Calls Tryd.prog 17 #[mval m l, .slice sa ss.length sc, .slice wa 0 wc] w fun e w' => Gives w ss e w' := by
  obtain ⟨i0, hi, hz0, hz1, hz2⟩ := info_parts Tryd.infoInt
  have o0 : Own ((w.alloc (.cells (mcells m l) 25)).alloc (.cells #[] 3)) (w.alloc (.cells (mcells m l) 25)).heap.size (.slice (some ⟨(w.alloc (.cells (mcells m l) 25)).heap.size, 0, none⟩) 0 0) [] := own_empty _
  rw [World.size_alloc] at o0
  have b0 : Below (w.heap.size + 1) (w.alloc (.cells (mcells m l) 25)) ((w.alloc (.cells (mcells m l) 25)).alloc (.cells #[] 3)) := (Below.refl _ _).alloc (by simp) _
  have s0 : At ((w.alloc (.cells (mcells m l) 25)).alloc (.cells #[] 3)) sa ss := hs.below (below_box b0) (Nat.le_refl _)
  go_enter Tryd.func17, Tryd.ntmps17
  go_wp2_with (at_builtin; refine wpList_append_ints _ rfl _ _ 22 rfl (w.heap.size + 1) i0 Tryd.underlying22 hi hz0 hz1 hz2 _ [] rfl o0 sa sc ss rfl s0 hn.out (by simp only [List.length_nil]; omega) (by simp) ?_)
  intro v1 w1 o1 b1 z1
  have hbel1 := b0.trans b1
  clear o0 s0 b0 b1
  obtain ⟨a, c, rfl, h1, h2⟩ := o1.at
  clear o1
  go_wp2_with fail
  refine wp_loop_rounds 1 ?_
  rw [rounds_succ]
  go_wp2
  go_ret
  exact ⟨a, c, rfl, h1, h2, below_box hbel1⟩

theorem refAfter_any (m : Mach) (l : ML) (sa : Option Addr) (sc : Nat) (ss : List Int) (wa : Option Addr) (wc : Nat) (word : List Int) (w : World) (ha : AtA w l.a2 m.arrows) (hlen : m.arrows.length ≤ 17592186044416) (hs : At w sa ss) (hsl : ss.length ≤ 17592186044416) (hn : sa = none → sc = 0) (hw : At w wa word) (hwl : word.length ≤ maxLen) :
    Calls Tryd.prog 17 #[mval m l, .slice sa ss.length sc, .slice wa word.length wc] w fun e w' => Gives w (afterL m.arrows ss word) e w' := by
  rcases hw with rfl | ⟨b, off, rfl, hb, hc⟩
  · exact refAfter_nil m l sa sc ss wa wc w hs hsl hn
  · exact refAfter_some m l sa sc ss b off wc word w ha hlen hs hsl hn hb hc hwl

set_option maxHeartbeats 1000000 in
theorem refAccepts_any (m : Mach) (l : ML) (wa : Option Addr) (wc : Nat) (word : List Int) (w : World) (h : MAt w m l) (hlen : m.arrows.length ≤ 4096) (hst : m.starts.length ≤ 4096) (hw : At w wa word) (hwl : word.length ≤ maxLen) :
    Calls Tryd.prog 19 #[mval m l, .slice wa word.length wc] w fun e w' => e = .returned (.bool (acceptsB m word)) ∧ Below w.heap.size w w' := by
  have b0 : Below w.heap.size w (w.alloc (.cells (mcells m l) 25)) := (Below.refl _ _).alloc (Nat.le_refl _) _
  have h' := h.below b0 (Nat.le_refl _)
  have hw' := hw.below b0 (Nat.le_refl _)
  have HA : Hid (acceptsB m word = decide (0 < (acceptsL m word).length)) := rfl
  have hll : (afterL m.arrows m.starts word).length ≤ 4096 := afterL_len hst hlen word
  have l3 : m.ends.length ≤ maxLen := Nat.le_trans h.e1 h.e2
  go_enter Tryd.func19, Tryd.ntmps19
  go_wp2_with fail
  refine (refAfter_any m l l.a1 l.c1 m.starts wa wc word _ h'.a (by omega) h'.s (by omega) h'.s3 hw' hwl).mono ?_
  rintro e w1 ⟨a1, c1, rfl, s1, l1, b1⟩
  have bb1 : Below (w.heap.size + 1) (w.alloc (.cells (mcells m l) 25)) w1 := b1.mono (by simp)
  have hold := below_box bb1
  have he := h.e.below hold (Nat.le_refl _)
  obtain ⟨x0, x1, x2, x3, x4⟩ := box_cells bb1
  clear b1 h' hw' b0
  go_wp2_with fail
  refine (only_any a1 l.a3 c1 l.c3 (afterL m.arrows m.starts word) m.ends true _ s1 (by omega) he l3).mono ?_
  rintro e w2 ⟨a2, c2, rfl, s2, l2, b2⟩
  have bb2 : Below w.heap.size w w2 := hold.trans (b2.mono hold.size)
  have HL : Hid ((afterL m.arrows m.starts word).filter (fun n => hasB m.ends n == true) = acceptsL m word) := rfl
  rw [HL.out] at l2 ⊢
  go_wp2
  go_ret
  exact ⟨ret_bool HA.out.symm, bb2⟩

end Go.Proofs.YtcjcjaeaoianfaaDoor
namespace Go.Proofs.YtcjcjaeaoianfaaDoor
open Go.RowKit
set_option linter.unusedVariables false

/-- Are two lists one? (A function of our own, which the walk leaves as it stands.) -/
def sameB (xs ys : List Int) : Bool := xs == ys

theorem same_len {xs ys : List Int} (h : ¬ xs.length = ys.length) : false = sameB xs ys := by
  rw [sameB, eq_comm, beq_eq_false_iff_ne]; intro e; exact h (by rw [e])
theorem same_no {xs ys : List Int} {k : Nat} {x y : Int} (hx : Hid (x = xs[k]?.getD 0)) (hy : Hid (y = ys[k]?.getD 0)) (h : ¬ x = y) : false = sameB xs ys := by
  rw [sameB, eq_comm, beq_eq_false_iff_ne]; intro e; exact h (by rw [hx.out, hy.out, e])
theorem same_yes {xs ys : List Int} {k : Nat} {x y : Int} (h1 : k < xs.length) (h2 : k < ys.length) (hx : Hid (x = xs[k]?.getD 0)) (hy : Hid (y = ys[k]?.getD 0)) (h : x = y) (e : Hid (xs.take k = ys.take k)) : Hid (xs.take (k + 1) = ys.take (k + 1)) := by
  show xs.take (k + 1) = ys.take (k + 1)
  rw [List.take_add_one, List.take_add_one, e.out]
  have hx := hx.out; have hy := hy.out
  rw [List.getElem?_eq_getElem h1] at hx ⊢
  rw [List.getElem?_eq_getElem h2] at hy ⊢
  simp only [Option.getD_some] at hx hy
  rw [← hx, ← hy, h]
theorem same_end {xs ys : List Int} {k : Nat} (hl : xs.length = ys.length) (h : ¬ k < xs.length) (e : Hid (xs.take k = ys.take k)) : true = sameB xs ys := by
  have e := e.out
  rw [List.take_of_length_le (by omega), List.take_of_length_le (by omega)] at e
  subst e; simp [sameB]

set_option maxHeartbeats 400000 in
theorem same_ne (a b : Option Addr) (ca cb : Nat) (xs ys : List Int) (w : World) (hne : ¬ xs.length = ys.length) (hl : xs.length ≤ 9223372036854775807) (hm : ys.length ≤ 9223372036854775807) :
    Calls Tryd.prog 18 #[.slice a xs.length ca, .slice b ys.length cb] w fun e w' => e = .returned (.bool (sameB xs ys)) ∧ ∃ q, w' = w.drewN q := by
  have hb : ((xs.length : Int) != (ys.length : Int)) = true := by rw [bne_iff_ne]; omega
  go_enter Tryd.func18, Tryd.ntmps18
  go_wp2
  go_ret
  exact ⟨ret_bool (same_len hne), 0, rfl⟩

set_option maxHeartbeats 1000000 in
theorem same_eq (ba oa ca bb ob cb : Nat) (xs ys : List Int) (w : World) (hlen : Hid (xs.length = ys.length)) (hl : xs.length ≤ 9223372036854775807) (hca : Cells w ba oa xs) (hcb : Cells w bb ob ys) :
    Calls Tryd.prog 18 #[.slice (some ⟨ba, oa, none⟩) xs.length ca, .slice (some ⟨bb, ob, none⟩) ys.length cb] w fun e w' => e = .returned (.bool (sameB xs ys)) ∧ ∃ q, w' = w.drewN q := by
  have hm : ys.length ≤ 9223372036854775807 := by have := hlen.out; omega
  have hb : ((xs.length : Int) != (ys.length : Int)) = false := by have := hlen.out; simp; omega
  go_enter Tryd.func18, Tryd.ntmps18
  go_wp2
  go_loopw [5] (fun i wr => ∃ k q : Nat, k ≤ xs.length ∧ i = .int .i64 k ∧ wr = w.drewN q ∧ Hid (xs.take k = ys.take k)) (fun i _ => xs.length - (intOf i).toNat)
  case atStart => exact ⟨0, 0, Nat.zero_le _, rfl, rfl, rfl⟩
  case round =>
    obtain ⟨k, q, hk, rfl, rfl, he⟩ := hrel
    by_cases hlt : k < xs.length
    · have hlt2 : k < ys.length := by have := hlen.out; omega
      obtain ⟨x, HX, hcx⟩ := hca.at hlt
      obtain ⟨y, HY, hcy⟩ := hcb.at hlt2
      by_cases hxy : x = y
      · have HXY : Hid (x = y) := hxy
        have d : (x != y) = false := by simp [hxy]
        clear hxy
        go_wp2
        go_quiet (fail)
        go_wp2
        go_roundw
        case rel => exact ⟨k + 1, _, by omega, by go_num, rfl, same_yes hlt hlt2 HX HY HXY.out he⟩
        case measure => simp [intOf]; omega
      · have d : (x != y) = true := by simp [hxy]
        go_wp2
        go_quiet (fail)
        go_wp2
        go_ret
        exact ⟨ret_bool (same_no HX HY hxy), _, World.drewN_drewN _ _ _⟩
    · go_wp2
      go_ret
      exact ⟨ret_bool (same_end hlen.out hlt he), q, rfl⟩

set_option maxHeartbeats 400000 in
theorem same_nil (a b : Option Addr) (ca cb : Nat) (w : World) :
    Calls Tryd.prog 18 #[.slice a 0 ca, .slice b 0 cb] w fun e w' => e = .returned (.bool true) ∧ ∃ q, w' = w.drewN q := by
  go_enter Tryd.func18, Tryd.ntmps18
  go_wp2
  refine wp_loop_rounds 1 ?_
  rw [rounds_succ]
  go_wp2
  go_ret
  exact ⟨rfl, 0, rfl⟩

theorem same_any (a b : Option Addr) (ca cb : Nat) (xs ys : List Int) (w : World) (hs : At w a xs) (ht : At w b ys) (hl : xs.length ≤ maxLen) (hm : ys.length ≤ maxLen) :
    Calls Tryd.prog 18 #[.slice a xs.length ca, .slice b ys.length cb] w fun e w' => e = .returned (.bool (sameB xs ys)) ∧ ∃ q, w' = w.drewN q := by
  by_cases hne : xs.length = ys.length
  · rcases hs with rfl | ⟨ba, oa, rfl, -, hca⟩
    · have : ys = [] := List.eq_nil_of_length_eq_zero (by simpa using hne.symm)
      subst this
      exact same_nil a b ca cb w
    · rcases ht with rfl | ⟨bb, ob, rfl, -, hcb⟩
      · have : xs = [] := List.eq_nil_of_length_eq_zero (by simpa using hne)
        subst this
        exact same_nil _ b ca cb w
      · exact same_eq ba oa ca bb ob cb xs ys w hne hl hca hcb
  · exact same_ne a b ca cb xs ys w hne hl hm

end Go.Proofs.YtcjcjaeaoianfaaDoor
namespace Go.Proofs.YtcjcjaeaoianfaaDoor
open Go.RowKit
set_option linter.unusedVariables false

theorem sameB_refl : ∀ xs : List Int, sameB xs xs = true := by intro xs; simp [sameB]

set_option maxRecDepth 100000 in
set_option maxHeartbeats 4000000 in
theorem tells_no (m : Mach) (l : ML) (sa wa : Option Addr) (sc wc : Nat) (ss word : List Int) (w : World) (hT : Hid (Tab w)) (h : Hid (MAt w m l)) (hs : Hid (At w sa ss)) (hsl : Hid (ss.length ≤ maxLen)) (hsn : Hid (sa = none → sc = 0)) (hv : Hid (At w wa word)) (hwl : Hid (word.length ≤ maxLen)) (hm : Hid (mayB m = false)) :
    Calls Tryd.prog 3 #[mval m l, .slice sa ss.length sc, .slice wa word.length wc] w fun e w' => e = .returned (.bool true) ∧ Below w.heap.size w w' := by
  have B0 : Hid (Below w.heap.size w (w.alloc (.cells (mcells m l) 25))) := (Below.refl _ _).alloc (Nat.le_refl _) _
  have K0 := Hid.of (Blk.new w 25 (mcells m l))
  go_enter Tryd.func3, Tryd.ntmps3
  go_wp2_with fail
  refine (pMay_any m l _ (h.out.below B0.out (Nat.le_refl _))).mono ?_
  rintro e w1 ⟨rfl, hb⟩
  rw [hm.out]
  have B1 := Hid.of (B0.out.trans (hb.mono B0.out.size))
  have K1 := Hid.of (K0.out.below hb K0.out.lt)
  try clear x0 x1 x2 x3 x4
  obtain ⟨x0, x1, x2, x3, x4⟩ := mcell_of K1.out
  clear hb
  go_wp2_with fail
  refine (refMay_any m l _ (h.out.below B1.out (Nat.le_refl _))).mono ?_
  rintro e w2 ⟨rfl, hb⟩
  rw [hm.out]
  have B2 := Hid.of (B1.out.trans (hb.mono B1.out.size))
  have K2 := Hid.of (K1.out.below hb K1.out.lt)
  try clear x0 x1 x2 x3 x4
  obtain ⟨x0, x1, x2, x3, x4⟩ := mcell_of K2.out
  clear hb
  go_wp2_with fail
  refine (pAfter_err m l sa wa sc wc ss word 2 _ rfl (Hid.of (fun W hW => after_form1 m l sa wa sc wc ss word W (h.out.below (B2.out.trans (hW.mono B2.out.size)) (Nat.le_refl _)) hm))).mono ?_
  rintro e w3 ⟨rfl, hb⟩
  have B3 := Hid.of (B2.out.trans (hb.mono B2.out.size))
  have K3 := Hid.of (K2.out.below hb K2.out.lt)
  try clear x0 x1 x2 x3 x4
  obtain ⟨x0, x1, x2, x3, x4⟩ := mcell_of K3.out
  clear hb
  go_wp2_with fail
  refine (pAccepts_err m l wa wc word 2 _ rfl (Hid.of (fun W hW => after_form1 m l l.a1 wa l.c1 wc m.starts word W (h.out.below (B3.out.trans (hW.mono B3.out.size)) (Nat.le_refl _)) hm))).mono ?_
  rintro e w4 ⟨rfl, hb⟩
  have B4 := Hid.of (B3.out.trans (hb.mono B3.out.size))
  have K4 := Hid.of (K3.out.below hb K3.out.lt)
  try clear x0 x1 x2 x3 x4
  obtain ⟨x0, x1, x2, x3, x4⟩ := mcell_of K4.out
  clear hb
  go_wp2
  go_ret
  exact ⟨rfl, B4.out⟩

theorem rowB_len256 {m : Mach} (hm : mayB m = true) : m.starts.length ≤ 4096 := by
  have h1 := mayB_size hm
  have h2 := mayB_starts hm
  unfold rowB at h2
  have := goIs_len _ _ _ (by omega) h2
  omega

set_option maxRecDepth 100000 in
set_option maxHeartbeats 4000000 in
theorem tells_ff (m : Mach) (l : ML) (sa wa : Option Addr) (sc wc : Nat) (ss word : List Int) (w : World) (hT : Hid (Tab w)) (h : Hid (MAt w m l)) (hs : Hid (At w sa ss)) (hsl : Hid (ss.length ≤ maxLen)) (hsn : Hid (sa = none → sc = 0)) (hv : Hid (At w wa word)) (hwl : Hid (word.length ≤ maxLen)) (hm : Hid (mayB m = true)) (hr : Hid (rowB m.st ss = false)) (hwd : Hid (wordB m.ev word = false)) :
    Calls Tryd.prog 3 #[mval m l, .slice sa ss.length sc, .slice wa word.length wc] w fun e w' => e = .returned (.bool true) ∧ Below w.heap.size w w' := by
  have B0 : Hid (Below w.heap.size w (w.alloc (.cells (mcells m l) 25))) := (Below.refl _ _).alloc (Nat.le_refl _) _
  have K0 := Hid.of (Blk.new w 25 (mcells m l))
  go_enter Tryd.func3, Tryd.ntmps3
  go_wp2_with fail
  refine (pMay_any m l _ (h.out.below B0.out (Nat.le_refl _))).mono ?_
  rintro e w1 ⟨rfl, hb⟩
  rw [hm.out]
  have B1 := Hid.of (B0.out.trans (hb.mono B0.out.size))
  have K1 := Hid.of (K0.out.below hb K0.out.lt)
  try clear x0 x1 x2 x3 x4
  obtain ⟨x0, x1, x2, x3, x4⟩ := mcell_of K1.out
  clear hb
  go_wp2_with fail
  refine (refMay_any m l _ (h.out.below B1.out (Nat.le_refl _))).mono ?_
  rintro e w2 ⟨rfl, hb⟩
  rw [hm.out]
  have B2 := Hid.of (B1.out.trans (hb.mono B1.out.size))
  have K2 := Hid.of (K1.out.below hb K1.out.lt)
  try clear x0 x1 x2 x3 x4
  obtain ⟨x0, x1, x2, x3, x4⟩ := mcell_of K2.out
  clear hb
  go_wp2_with fail
  refine (pAfter_err m l sa wa sc wc ss word 2 _ rfl (Hid.of (fun W hW => after_form2 m l sa wa sc wc ss word W (h.out.below (B2.out.trans (hW.mono B2.out.size)) (Nat.le_refl _)) hm (Hid.of (hs.out.below (B2.out.trans (hW.mono B2.out.size)) (Nat.le_refl _))) hsl hr))).mono ?_
  rintro e w3 ⟨rfl, hb⟩
  have B3 := Hid.of (B2.out.trans (hb.mono B2.out.size))
  have K3 := Hid.of (K2.out.below hb K2.out.lt)
  try clear x0 x1 x2 x3 x4
  obtain ⟨x0, x1, x2, x3, x4⟩ := mcell_of K3.out
  clear hb
  go_wp2_with fail
  refine (pAccepts_err m l wa wc word 6 _ rfl (Hid.of (fun W hW => after_range m l l.a1 wa l.c1 wc m.starts word W (h.out.below (B3.out.trans (hW.mono B3.out.size)) (Nat.le_refl _)) hm (Hid.of (h.out.below (B3.out.trans (hW.mono B3.out.size)) (Nat.le_refl _)).s) (Hid.of (Nat.le_trans h.out.s1 h.out.s2)) (Hid.of (mayB_starts hm.out)) (Hid.of (hv.out.below (B3.out.trans (hW.mono B3.out.size)) (Nat.le_refl _))) hwl hwd))).mono ?_
  rintro e w4 ⟨rfl, hb⟩
  have B4 := Hid.of (B3.out.trans (hb.mono B3.out.size))
  have K4 := Hid.of (K3.out.below hb K3.out.lt)
  try clear x0 x1 x2 x3 x4
  obtain ⟨x0, x1, x2, x3, x4⟩ := mcell_of K4.out
  clear hb
  go_wp2_with fail
  refine (refWord_any m l wa wc word _ (hv.out.below B4.out (Nat.le_refl _)) hwl.out).mono ?_
  rintro e w5 ⟨rfl, hb⟩
  rw [hwd.out]
  have B5 := Hid.of (B4.out.trans (hb.mono B4.out.size))
  have K5 := Hid.of (K4.out.below hb K4.out.lt)
  try clear x0 x1 x2 x3 x4
  obtain ⟨x0, x1, x2, x3, x4⟩ := mcell_of K5.out
  clear hb
  go_wp2_with fail
  refine (refIs_any sa sc ss m.st _ (hs.out.below B5.out (Nat.le_refl _)) hsl.out).mono ?_
  rintro e w6 ⟨rfl, q6, rfl⟩
  rw [hr.out]
  have B6 := Hid.of (below_drewN B5.out q6)
  have K6 : Hid (Blk (w5.drewN q6) w.heap.size 25 (mcells m l)) := K5.out
  go_wp2
  go_ret
  exact ⟨rfl, B6.out⟩

set_option maxRecDepth 100000 in
set_option maxHeartbeats 4000000 in
theorem tells_ft (m : Mach) (l : ML) (sa wa : Option Addr) (sc wc : Nat) (ss word : List Int) (w : World) (hT : Hid (Tab w)) (h : Hid (MAt w m l)) (hs : Hid (At w sa ss)) (hsl : Hid (ss.length ≤ maxLen)) (hsn : Hid (sa = none → sc = 0)) (hv : Hid (At w wa word)) (hwl : Hid (word.length ≤ maxLen)) (hm : Hid (mayB m = true)) (hr : Hid (rowB m.st ss = false)) (hwd : Hid (wordB m.ev word = true)) :
    Calls Tryd.prog 3 #[mval m l, .slice sa ss.length sc, .slice wa word.length wc] w fun e w' => e = .returned (.bool true) ∧ Below w.heap.size w w' := by
  have B0 : Hid (Below w.heap.size w (w.alloc (.cells (mcells m l) 25))) := (Below.refl _ _).alloc (Nat.le_refl _) _
  have K0 := Hid.of (Blk.new w 25 (mcells m l))
  go_enter Tryd.func3, Tryd.ntmps3
  go_wp2_with fail
  refine (pMay_any m l _ (h.out.below B0.out (Nat.le_refl _))).mono ?_
  rintro e w1 ⟨rfl, hb⟩
  rw [hm.out]
  have B1 := Hid.of (B0.out.trans (hb.mono B0.out.size))
  have K1 := Hid.of (K0.out.below hb K0.out.lt)
  try clear x0 x1 x2 x3 x4
  obtain ⟨x0, x1, x2, x3, x4⟩ := mcell_of K1.out
  clear hb
  go_wp2_with fail
  refine (refMay_any m l _ (h.out.below B1.out (Nat.le_refl _))).mono ?_
  rintro e w2 ⟨rfl, hb⟩
  rw [hm.out]
  have B2 := Hid.of (B1.out.trans (hb.mono B1.out.size))
  have K2 := Hid.of (K1.out.below hb K1.out.lt)
  try clear x0 x1 x2 x3 x4
  obtain ⟨x0, x1, x2, x3, x4⟩ := mcell_of K2.out
  clear hb
  go_wp2_with fail
  refine (pAfter_err m l sa wa sc wc ss word 2 _ rfl (Hid.of (fun W hW => after_form2 m l sa wa sc wc ss word W (h.out.below (B2.out.trans (hW.mono B2.out.size)) (Nat.le_refl _)) hm (Hid.of (hs.out.below (B2.out.trans (hW.mono B2.out.size)) (Nat.le_refl _))) hsl hr))).mono ?_
  rintro e w3 ⟨rfl, hb⟩
  have B3 := Hid.of (B2.out.trans (hb.mono B2.out.size))
  have K3 := Hid.of (K2.out.below hb K2.out.lt)
  try clear x0 x1 x2 x3 x4
  obtain ⟨x0, x1, x2, x3, x4⟩ := mcell_of K3.out
  clear hb
  go_wp2_with fail
  refine (pAccepts_ok m l wa wc word _ (h.out.below B3.out (Nat.le_refl _)) (Hid.of (hT.out.below B3.out hT.out.lt)) hm (Hid.of (hv.out.below B3.out (Nat.le_refl _))) hwl hwd).mono ?_
  rintro e w4 ⟨rfl, hb⟩
  have B4 := Hid.of (B3.out.trans (hb.mono B3.out.size))
  have K4 := Hid.of (K3.out.below hb K3.out.lt)
  try clear x0 x1 x2 x3 x4
  obtain ⟨x0, x1, x2, x3, x4⟩ := mcell_of K4.out
  clear hb
  go_wp2_with fail
  refine (refWord_any m l wa wc word _ (hv.out.below B4.out (Nat.le_refl _)) hwl.out).mono ?_
  rintro e w5 ⟨rfl, hb⟩
  rw [hwd.out]
  have B5 := Hid.of (B4.out.trans (hb.mono B4.out.size))
  have K5 := Hid.of (K4.out.below hb K4.out.lt)
  try clear x0 x1 x2 x3 x4
  obtain ⟨x0, x1, x2, x3, x4⟩ := mcell_of K5.out
  clear hb
  go_wp2_with fail
  refine (refIs_any sa sc ss m.st _ (hs.out.below B5.out (Nat.le_refl _)) hsl.out).mono ?_
  rintro e w6 ⟨rfl, q6, rfl⟩
  rw [hr.out]
  have B6 := Hid.of (below_drewN B5.out q6)
  have K6 : Hid (Blk (w5.drewN q6) w.heap.size 25 (mcells m l)) := K5.out
  go_wp2_with fail
  refine (refAccepts_any m l wa wc word _ (h.out.below B6.out (Nat.le_refl _)) (mayB_size hm.out).2.2.2.2 (rowB_len256 hm.out) (hv.out.below B6.out (Nat.le_refl _)) hwl.out).mono ?_
  rintro e w7 ⟨rfl, hb⟩
  have B7 := Hid.of (B6.out.trans (hb.mono B6.out.size))
  have K7 := Hid.of (K6.out.below hb K6.out.lt)
  try clear x0 x1 x2 x3 x4
  obtain ⟨x0, x1, x2, x3, x4⟩ := mcell_of K7.out
  clear hb
  go_wp2
  go_ret
  exact ⟨rfl, B7.out⟩

set_option maxRecDepth 100000 in
set_option maxHeartbeats 4000000 in
theorem tells_tf (m : Mach) (l : ML) (sa wa : Option Addr) (sc wc : Nat) (ss word : List Int) (w : World) (hT : Hid (Tab w)) (h : Hid (MAt w m l)) (hs : Hid (At w sa ss)) (hsl : Hid (ss.length ≤ maxLen)) (hsn : Hid (sa = none → sc = 0)) (hv : Hid (At w wa word)) (hwl : Hid (word.length ≤ maxLen)) (hm : Hid (mayB m = true)) (hr : Hid (rowB m.st ss = true)) (hwd : Hid (wordB m.ev word = false)) :
    Calls Tryd.prog 3 #[mval m l, .slice sa ss.length sc, .slice wa word.length wc] w fun e w' => e = .returned (.bool true) ∧ Below w.heap.size w w' := by
  have B0 : Hid (Below w.heap.size w (w.alloc (.cells (mcells m l) 25))) := (Below.refl _ _).alloc (Nat.le_refl _) _
  have K0 := Hid.of (Blk.new w 25 (mcells m l))
  go_enter Tryd.func3, Tryd.ntmps3
  go_wp2_with fail
  refine (pMay_any m l _ (h.out.below B0.out (Nat.le_refl _))).mono ?_
  rintro e w1 ⟨rfl, hb⟩
  rw [hm.out]
  have B1 := Hid.of (B0.out.trans (hb.mono B0.out.size))
  have K1 := Hid.of (K0.out.below hb K0.out.lt)
  try clear x0 x1 x2 x3 x4
  obtain ⟨x0, x1, x2, x3, x4⟩ := mcell_of K1.out
  clear hb
  go_wp2_with fail
  refine (refMay_any m l _ (h.out.below B1.out (Nat.le_refl _))).mono ?_
  rintro e w2 ⟨rfl, hb⟩
  rw [hm.out]
  have B2 := Hid.of (B1.out.trans (hb.mono B1.out.size))
  have K2 := Hid.of (K1.out.below hb K1.out.lt)
  try clear x0 x1 x2 x3 x4
  obtain ⟨x0, x1, x2, x3, x4⟩ := mcell_of K2.out
  clear hb
  go_wp2_with fail
  refine (pAfter_err m l sa wa sc wc ss word 6 _ rfl (Hid.of (fun W hW => after_range m l sa wa sc wc ss word W (h.out.below (B2.out.trans (hW.mono B2.out.size)) (Nat.le_refl _)) hm (Hid.of (hs.out.below (B2.out.trans (hW.mono B2.out.size)) (Nat.le_refl _))) hsl hr (Hid.of (hv.out.below (B2.out.trans (hW.mono B2.out.size)) (Nat.le_refl _))) hwl hwd))).mono ?_
  rintro e w3 ⟨rfl, hb⟩
  have B3 := Hid.of (B2.out.trans (hb.mono B2.out.size))
  have K3 := Hid.of (K2.out.below hb K2.out.lt)
  try clear x0 x1 x2 x3 x4
  obtain ⟨x0, x1, x2, x3, x4⟩ := mcell_of K3.out
  clear hb
  go_wp2_with fail
  refine (pAccepts_err m l wa wc word 6 _ rfl (Hid.of (fun W hW => after_range m l l.a1 wa l.c1 wc m.starts word W (h.out.below (B3.out.trans (hW.mono B3.out.size)) (Nat.le_refl _)) hm (Hid.of (h.out.below (B3.out.trans (hW.mono B3.out.size)) (Nat.le_refl _)).s) (Hid.of (Nat.le_trans h.out.s1 h.out.s2)) (Hid.of (mayB_starts hm.out)) (Hid.of (hv.out.below (B3.out.trans (hW.mono B3.out.size)) (Nat.le_refl _))) hwl hwd))).mono ?_
  rintro e w4 ⟨rfl, hb⟩
  have B4 := Hid.of (B3.out.trans (hb.mono B3.out.size))
  have K4 := Hid.of (K3.out.below hb K3.out.lt)
  try clear x0 x1 x2 x3 x4
  obtain ⟨x0, x1, x2, x3, x4⟩ := mcell_of K4.out
  clear hb
  go_wp2_with fail
  refine (refWord_any m l wa wc word _ (hv.out.below B4.out (Nat.le_refl _)) hwl.out).mono ?_
  rintro e w5 ⟨rfl, hb⟩
  rw [hwd.out]
  have B5 := Hid.of (B4.out.trans (hb.mono B4.out.size))
  have K5 := Hid.of (K4.out.below hb K4.out.lt)
  try clear x0 x1 x2 x3 x4
  obtain ⟨x0, x1, x2, x3, x4⟩ := mcell_of K5.out
  clear hb
  go_wp2_with fail
  refine (refIs_any sa sc ss m.st _ (hs.out.below B5.out (Nat.le_refl _)) hsl.out).mono ?_
  rintro e w6 ⟨rfl, q6, rfl⟩
  rw [hr.out]
  have B6 := Hid.of (below_drewN B5.out q6)
  have K6 : Hid (Blk (w5.drewN q6) w.heap.size 25 (mcells m l)) := K5.out
  go_wp2
  go_ret
  exact ⟨rfl, B6.out⟩

set_option maxRecDepth 100000 in
set_option maxHeartbeats 4000000 in
theorem tells_tt (m : Mach) (l : ML) (sa wa : Option Addr) (sc wc : Nat) (ss word : List Int) (w : World) (hT : Hid (Tab w)) (h : Hid (MAt w m l)) (hs : Hid (At w sa ss)) (hsl : Hid (ss.length ≤ maxLen)) (hsn : Hid (sa = none → sc = 0)) (hv : Hid (At w wa word)) (hwl : Hid (word.length ≤ maxLen)) (hm : Hid (mayB m = true)) (hr : Hid (rowB m.st ss = true)) (hwd : Hid (wordB m.ev word = true)) :
    Calls Tryd.prog 3 #[mval m l, .slice sa ss.length sc, .slice wa word.length wc] w fun e w' => e = .returned (.bool true) ∧ Below w.heap.size w w' := by
  have B0 : Hid (Below w.heap.size w (w.alloc (.cells (mcells m l) 25))) := (Below.refl _ _).alloc (Nat.le_refl _) _
  have K0 := Hid.of (Blk.new w 25 (mcells m l))
  go_enter Tryd.func3, Tryd.ntmps3
  go_wp2_with fail
  refine (pMay_any m l _ (h.out.below B0.out (Nat.le_refl _))).mono ?_
  rintro e w1 ⟨rfl, hb⟩
  rw [hm.out]
  have B1 := Hid.of (B0.out.trans (hb.mono B0.out.size))
  have K1 := Hid.of (K0.out.below hb K0.out.lt)
  try clear x0 x1 x2 x3 x4
  obtain ⟨x0, x1, x2, x3, x4⟩ := mcell_of K1.out
  clear hb
  go_wp2_with fail
  refine (refMay_any m l _ (h.out.below B1.out (Nat.le_refl _))).mono ?_
  rintro e w2 ⟨rfl, hb⟩
  rw [hm.out]
  have B2 := Hid.of (B1.out.trans (hb.mono B1.out.size))
  have K2 := Hid.of (K1.out.below hb K1.out.lt)
  try clear x0 x1 x2 x3 x4
  obtain ⟨x0, x1, x2, x3, x4⟩ := mcell_of K2.out
  clear hb
  go_wp2_with fail
  refine (pAfter_ok m l sa wa sc wc ss word _ (h.out.below B2.out (Nat.le_refl _)) (Hid.of (hT.out.below B2.out hT.out.lt)) hm (Hid.of (hs.out.below B2.out (Nat.le_refl _))) hsl hr (Hid.of (hv.out.below B2.out (Nat.le_refl _))) hwl hwd).mono ?_
  rintro e w3 ⟨la, lc, rfl, hat, hll, hb⟩
  have HL := Hid.of hat
  have HLN := Hid.of hll
  have B3 := Hid.of (B2.out.trans (hb.mono B2.out.size))
  have K3 := Hid.of (K2.out.below hb K2.out.lt)
  clear x0 x1 x2 x3 x4 hat hll
  obtain ⟨x0, x1, x2, x3, x4⟩ := mcell_of K3.out
  clear hb
  go_wp2_with fail
  refine (pAccepts_ok m l wa wc word _ (h.out.below B3.out (Nat.le_refl _)) (Hid.of (hT.out.below B3.out hT.out.lt)) hm (Hid.of (hv.out.below B3.out (Nat.le_refl _))) hwl hwd).mono ?_
  rintro e w4 ⟨rfl, hb⟩
  have HL := Hid.of (HL.out.below hb (Nat.le_refl _))
  have B4 := Hid.of (B3.out.trans (hb.mono B3.out.size))
  have K4 := Hid.of (K3.out.below hb K3.out.lt)
  try clear x0 x1 x2 x3 x4
  obtain ⟨x0, x1, x2, x3, x4⟩ := mcell_of K4.out
  clear hb
  go_wp2_with fail
  refine (refWord_any m l wa wc word _ (hv.out.below B4.out (Nat.le_refl _)) hwl.out).mono ?_
  rintro e w5 ⟨rfl, hb⟩
  rw [hwd.out]
  have HL := Hid.of (HL.out.below hb (Nat.le_refl _))
  have B5 := Hid.of (B4.out.trans (hb.mono B4.out.size))
  have K5 := Hid.of (K4.out.below hb K4.out.lt)
  try clear x0 x1 x2 x3 x4
  obtain ⟨x0, x1, x2, x3, x4⟩ := mcell_of K5.out
  clear hb
  go_wp2_with fail
  refine (refIs_any sa sc ss m.st _ (hs.out.below B5.out (Nat.le_refl _)) hsl.out).mono ?_
  rintro e w6 ⟨rfl, q6, rfl⟩
  rw [hr.out]
  have B6 := Hid.of (below_drewN B5.out q6)
  have K6 : Hid (Blk (w5.drewN q6) w.heap.size 25 (mcells m l)) := K5.out
  have HL := Hid.of (At.drewN HL.out q6)
  go_wp2_with fail
  refine (refAfter_any m l sa sc ss wa wc word _ (h.out.below B6.out (Nat.le_refl _)).a (by have := (mayB_size hm.out).2.2.2.2; omega) (hs.out.below B6.out (Nat.le_refl _)) (by have := rowB_len hr.out; omega) hsn.out (hv.out.below B6.out (Nat.le_refl _)) hwl.out).mono ?_
  rintro e w7 ⟨ra, rc, rfl, hat, hll, hb⟩
  have HL := Hid.of (HL.out.below hb (Nat.le_refl _))
  have HR := Hid.of hat
  have HRN := Hid.of hll
  have B7 := Hid.of (B6.out.trans (hb.mono B6.out.size))
  have K7 := Hid.of (K6.out.below hb K6.out.lt)
  clear x0 x1 x2 x3 x4 hat hll
  obtain ⟨x0, x1, x2, x3, x4⟩ := mcell_of K7.out
  clear hb
  go_wp2_with fail
  refine (same_any la ra lc rc _ _ _ HL.out HR.out HLN.out HRN.out).mono ?_
  rintro e w8 ⟨rfl, q8, rfl⟩
  rw [sameB_refl]
  have B8 := Hid.of (below_drewN B7.out q8)
  have K8 : Hid (Blk (w7.drewN q8) w.heap.size 25 (mcells m l)) := K7.out
  go_wp2_with fail
  refine (refAccepts_any m l wa wc word _ (h.out.below B8.out (Nat.le_refl _)) (mayB_size hm.out).2.2.2.2 (rowB_len256 hm.out) (hv.out.below B8.out (Nat.le_refl _)) hwl.out).mono ?_
  rintro e w9 ⟨rfl, hb⟩
  have B9 := Hid.of (B8.out.trans (hb.mono B8.out.size))
  have K9 := Hid.of (K8.out.below hb K8.out.lt)
  try clear x0 x1 x2 x3 x4
  obtain ⟨x0, x1, x2, x3, x4⟩ := mcell_of K9.out
  clear hb
  go_wp2
  go_ret
  exact ⟨rfl, B9.out⟩

theorem tells_any (m : Mach) (l : ML) (sa wa : Option Addr) (sc wc : Nat) (ss word : List Int) (w : World) (hT : Hid (Tab w)) (h : Hid (MAt w m l)) (hs : Hid (At w sa ss)) (hsl : Hid (ss.length ≤ maxLen)) (hsn : Hid (sa = none → sc = 0)) (hv : Hid (At w wa word)) (hwl : Hid (word.length ≤ maxLen)) :
    Calls Tryd.prog 3 #[mval m l, .slice sa ss.length sc, .slice wa word.length wc] w fun e w' => e = .returned (.bool true) ∧ Below w.heap.size w w' := by
  cases hm : mayB m with
  | false => exact tells_no m l sa wa sc wc ss word w hT h hs hsl hsn hv hwl hm
  | true =>
    cases hr : rowB m.st ss with
    | false =>
      cases hwd : wordB m.ev word with
      | false => exact tells_ff m l sa wa sc wc ss word w hT h hs hsl hsn hv hwl hm hr hwd
      | true => exact tells_ft m l sa wa sc wc ss word w hT h hs hsl hsn hv hwl hm hr hwd
    | true =>
      cases hwd : wordB m.ev word with
      | false => exact tells_tf m l sa wa sc wc ss word w hT h hs hsl hsn hv hwl hm hr hwd
      | true => exact tells_tt m l sa wa sc wc ss word w hT h hs hsl hsn hv hwl hm hr hwd

end Go.Proofs.YtcjcjaeaoianfaaDoor
