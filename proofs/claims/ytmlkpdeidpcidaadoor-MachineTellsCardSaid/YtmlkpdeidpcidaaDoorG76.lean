/-
  The walks of jalousieref2.Word, Step, After and Accepts.
  The walk of the law MachineTells.
-/
import Derived.Deep.RegionWith
import Derived.BigQuiet
import Derived.Test.YtmlkpdeidpcidaaDoorG04
import Derived.Test.YtmlkpdeidpcidaaDoorG14
import Derived.Test.YtmlkpdeidpcidaaDoorG16
import Derived.Test.YtmlkpdeidpcidaaDoorCPAfter
import Derived.Test.YtmlkpdeidpcidaaDoorCPAccepts
import Derived.Test.YtmlkpdeidpcidaaDoorCRefMay
namespace Go.Proofs.YtmlkpdeidpcidaaDoor
open Go.RowKit
set_option linter.unusedVariables false

set_option maxHeartbeats 1000000 in
theorem refWord_some (m : Mach) (l : ML) (b off cap : Nat) (xs : List Int) (w : World) (hl : xs.length ≤ 9223372036854775807) (hb : b < w.heap.size) (hc : Cells w b off xs) :
    Calls Tryd.prog 16 #[mval m l, .slice (some ⟨b, off, none⟩) xs.length cap] w fun e w' => e = .returned (.bool (wordB m.ev xs)) ∧ Below w.heap.size w w' := by
  go_enter Tryd.func16, Tryd.ntmps16
  go_wp2
  go_loopw [5] (fun i wr => ∃ k : Nat, k ≤ xs.length ∧ i = .int .i64 k ∧ Below (w.heap.size + 1) (w.alloc (.cells (mcells m l) 25)) wr ∧ Hid (wordB m.ev xs = wordB m.ev (xs.drop k))) (fun i _ => xs.length - (intOf i).toNat)
  case atStart => exact ⟨0, Nat.zero_le _, rfl, Below.refl _ _, rfl⟩
  case round =>
    obtain ⟨k, hk, rfl, hbel, he⟩ := hrel
    have hold := below_box hbel
    by_cases hlt : k < xs.length
    · obtain ⟨x, HX, hcx0⟩ := hc.at hlt
      have hcx := (hold.cell (p := ⟨b, off + k, none⟩) hb).trans hcx0
      clear hcx0
      have hev := (box_cells hbel).2.1
      by_cases e1 : x < 0
      · have f1 : decide (x < 0) = true := by simpa using e1
        go_wp2
        go_quiet (fail)
        go_wp2
        go_ret
        exact ⟨ret_bool (word_no hlt HX he (.inl e1)), below_drewN hold _⟩
      · have f1 : decide (x < 0) = false := by simpa using e1
        by_cases e2 : m.ev ≤ x
        · have f2 : decide (m.ev ≤ x) = true := by simpa using e2
          go_wp2
          go_quiet (fail)
          go_wp2
          go_ret
          exact ⟨ret_bool (word_no hlt HX he (.inr e2)), below_drewN hold _⟩
        · have f2 : decide (m.ev ≤ x) = false := by simpa using e2
          go_wp2
          go_quiet (fail)
          go_wp2
          go_roundw
          case rel => exact ⟨k + 1, by omega, by go_num, below_drewN hbel _, word_yes hlt HX he (by omega)⟩
          case measure => simp [intOf]; omega
    · go_wp2
      go_ret
      exact ⟨ret_bool (word_end hlt he), hold⟩

set_option maxHeartbeats 400000 in
theorem refWord_nil (m : Mach) (l : ML) (a : Option Addr) (cap : Nat) (w : World) :
    Calls Tryd.prog 16 #[mval m l, .slice a 0 cap] w fun e w' => e = .returned (.bool true) ∧ Below w.heap.size w w' := by
  go_enter Tryd.func16, Tryd.ntmps16
  go_wp2
  refine wp_loop_rounds 1 ?_
  rw [rounds_succ]
  go_wp2
  go_ret
  exact ⟨rfl, (Below.refl _ _).alloc (Nat.le_refl _) _⟩

theorem refWord_any (m : Mach) (l : ML) (a : Option Addr) (cap : Nat) (xs : List Int) (w : World) (hs : At w a xs) (hl : xs.length ≤ maxLen) :
    Calls Tryd.prog 16 #[mval m l, .slice a xs.length cap] w fun e w' => e = .returned (.bool (wordB m.ev xs)) ∧ Below w.heap.size w w' := by
  rcases hs with rfl | ⟨b, off, rfl, hb, hc⟩
  · exact refWord_nil m l a cap w
  · exact refWord_some m l b off cap xs w hl hb hc

/-- What holds of the list at the head of each round of After. -/
def AR (wr : World) (ars : List Arr) (ss word : List Int) (k : Nat) (v : Value) : Prop := ∃ a c, v = .slice a (afterL ars ss (word.take k)).length c ∧ At wr a (afterL ars ss (word.take k)) ∧ (afterL ars ss (word.take k)).length ≤ maxLen

set_option maxHeartbeats 2000000 in
set_option maxRecDepth 100000 in
theorem refAfter_some (m : Mach) (l : ML) (sa : Option Addr) (sc : Nat) (ss : List Int) (b off wc : Nat) (word : List Int) (w : World) (ha : AtA w l.a2 m.arrows) (hlen : m.arrows.length ≤ 17592186044416) (hs : At w sa ss) (hsl : ss.length ≤ 17592186044416) (hn : Hid (sa = none → sc = 0)) (hb : b < w.heap.size) (hc : Cells w b off word) (hwl : word.length ≤ 9223372036854775807) :
    Calls Tryd.prog 18 #[mval m l, .slice sa ss.length sc, .slice (some ⟨b, off, none⟩) word.length wc] w fun e w' => Gives w (afterL m.arrows ss word) e w' := by
  obtain ⟨i0, hi, hz0, hz1, hz2⟩ := info_parts Tryd.infoInt
  have o0 : Own ((w.alloc (.cells (mcells m l) 25)).alloc (.cells #[] 3)) (w.alloc (.cells (mcells m l) 25)).heap.size (.slice (some ⟨(w.alloc (.cells (mcells m l) 25)).heap.size, 0, none⟩) 0 0) [] := own_empty _
  rw [World.size_alloc] at o0
  have b0 : Below (w.heap.size + 1) (w.alloc (.cells (mcells m l) 25)) ((w.alloc (.cells (mcells m l) 25)).alloc (.cells #[] 3)) := (Below.refl _ _).alloc (by simp) _
  have s0 : At ((w.alloc (.cells (mcells m l) 25)).alloc (.cells #[] 3)) sa ss := hs.below (below_box b0) (Nat.le_refl _)
  go_enter Tryd.func18, Tryd.ntmps18
  go_wp2_with (at_builtin; refine wpList_append_ints _ rfl _ _ 22 rfl (w.heap.size + 1) i0 Tryd.underlying22 hi hz0 hz1 hz2 _ [] rfl o0 sa sc ss rfl s0 hn.out (by simp only [List.length_nil]; omega) (by simp) ?_)
  intro v1 w1 o1 b1 z1
  have hbel1 := b0.trans b1
  clear o0 s0 b0 b1
  have hAR : AR w1 m.arrows ss word 0 v1 := by
    obtain ⟨a, c, rfl, h1, h2⟩ := o1.at
    exact ⟨a, c, rfl, h1, h2⟩
  clear o1
  go_wp2
  go_loopw [7, 8] (fun v i wr => ∃ k : Nat, k ≤ word.length ∧ i = .int .i64 k ∧ AR wr m.arrows ss word k v ∧ Below (w.heap.size + 1) (w.alloc (.cells (mcells m l) 25)) wr) (fun _ i _ => word.length - (intOf i).toNat)
  case atStart => exact ⟨0, Nat.zero_le _, rfl, hAR, hbel1⟩
  case round =>
    obtain ⟨k, hk, rfl, hr, hbel⟩ := hrel
    clear hAR hbel1 z1
    obtain ⟨av, cv, rfl, hat, hal⟩ := hr
    have hold := below_box hbel
    have hsz := hbel.size
    rw [World.size_alloc] at hsz
    by_cases hlt : k < word.length
    · obtain ⟨x, HX, hcx0⟩ := hc.at hlt
      have hcx := (hold.cell (p := ⟨b, off + k, none⟩) hb).trans hcx0
      clear hcx0
      obtain ⟨x0, x1, x2, x3, x4⟩ := box_cells hbel
      have har := ha.below hold (Nat.le_refl _)
      have HN : Hid (afterL m.arrows ss (word.take (k + 1)) = stepL m.arrows (afterL m.arrows ss (word.take k)) x) := afterL_take hlt HX
      generalize afterL m.arrows ss (word.take k) = L at *
      go_wp2
      go_region_with (go_at_call 60; refine (refStep_any m l av cv L x _ ?_ hlen ?_ hal).mono ?_; exact har; exact hat; rintro e w2 ⟨a2', c2', rfl, h2', l2', b2'⟩)
      all_goals
        go_wp2
        go_roundw
        case rel => exact ⟨k + 1, by omega, by go_num, by unfold AR; rw [HN.out]; exact ⟨a2', c2', rfl, h2', l2'⟩, hbel.drew.trans (b2'.mono (by simp; omega))⟩
        case measure => simp [intOf]; omega
    · rw [show word.take k = word from List.take_of_length_le (by omega)] at hat hal ⊢
      go_wp2
      go_ret
      exact ⟨av, cv, rfl, hat, hal, hold⟩

set_option maxHeartbeats 1000000 in
theorem refAfter_nil (m : Mach) (l : ML) (sa : Option Addr) (sc : Nat) (ss : List Int) (wa : Option Addr) (wc : Nat) (w : World) (hs : At w sa ss) (hsl : ss.length ≤ 17592186044416) (hn : Hid (sa = none → sc = 0)) :
    Calls Tryd.prog 18 #[mval m l, .slice sa ss.length sc, .slice wa 0 wc] w fun e w' => Gives w ss e w' := by
  obtain ⟨i0, hi, hz0, hz1, hz2⟩ := info_parts Tryd.infoInt
  have o0 : Own ((w.alloc (.cells (mcells m l) 25)).alloc (.cells #[] 3)) (w.alloc (.cells (mcells m l) 25)).heap.size (.slice (some ⟨(w.alloc (.cells (mcells m l) 25)).heap.size, 0, none⟩) 0 0) [] := own_empty _
  rw [World.size_alloc] at o0
  have b0 : Below (w.heap.size + 1) (w.alloc (.cells (mcells m l) 25)) ((w.alloc (.cells (mcells m l) 25)).alloc (.cells #[] 3)) := (Below.refl _ _).alloc (by simp) _
  have s0 : At ((w.alloc (.cells (mcells m l) 25)).alloc (.cells #[] 3)) sa ss := hs.below (below_box b0) (Nat.le_refl _)
  go_enter Tryd.func18, Tryd.ntmps18
  go_wp2_with (at_builtin; refine wpList_append_ints _ rfl _ _ 22 rfl (w.heap.size + 1) i0 Tryd.underlying22 hi hz0 hz1 hz2 _ [] rfl o0 sa sc ss rfl s0 hn.out (by simp only [List.length_nil]; omega) (by simp) ?_)
  intro v1 w1 o1 b1 z1
  have hbel1 := b0.trans b1
  clear o0 s0 b0 b1
  obtain ⟨a, c, rfl, h1, h2⟩ := o1.at
  clear o1
  go_wp2_with fail
  refine wp_loop_rounds 1 ?_
  rw [rounds_succ]
  go_wp2
  go_ret
  exact ⟨a, c, rfl, h1, h2, below_box hbel1⟩

theorem refAfter_any (m : Mach) (l : ML) (sa : Option Addr) (sc : Nat) (ss : List Int) (wa : Option Addr) (wc : Nat) (word : List Int) (w : World) (ha : AtA w l.a2 m.arrows) (hlen : m.arrows.length ≤ 17592186044416) (hs : At w sa ss) (hsl : ss.length ≤ 17592186044416) (hn : sa = none → sc = 0) (hw : At w wa word) (hwl : word.length ≤ maxLen) :
    Calls Tryd.prog 18 #[mval m l, .slice sa ss.length sc, .slice wa word.length wc] w fun e w' => Gives w (afterL m.arrows ss word) e w' := by
  rcases hw with rfl | ⟨b, off, rfl, hb, hc⟩
  · exact refAfter_nil m l sa sc ss wa wc w hs hsl hn
  · exact refAfter_some m l sa sc ss b off wc word w ha hlen hs hsl hn hb hc hwl

set_option maxHeartbeats 1000000 in
theorem refAccepts_any (m : Mach) (l : ML) (wa : Option Addr) (wc : Nat) (word : List Int) (w : World) (h : MAt w m l) (hlen : m.arrows.length ≤ 4096) (hst : m.starts.length ≤ 4096) (hw : At w wa word) (hwl : word.length ≤ maxLen) :
    Calls Tryd.prog 20 #[mval m l, .slice wa word.length wc] w fun e w' => e = .returned (.bool (acceptsB m word)) ∧ Below w.heap.size w w' := by
  have b0 : Below w.heap.size w (w.alloc (.cells (mcells m l) 25)) := (Below.refl _ _).alloc (Nat.le_refl _) _
  have h' := h.below b0 (Nat.le_refl _)
  have hw' := hw.below b0 (Nat.le_refl _)
  have HA : Hid (acceptsB m word = decide (0 < (acceptsL m word).length)) := rfl
  have hll : (afterL m.arrows m.starts word).length ≤ 4096 := afterL_len hst hlen word
  have l3 : m.ends.length ≤ maxLen := Nat.le_trans h.e1 h.e2
  go_enter Tryd.func20, Tryd.ntmps20
  go_wp2_with fail
  refine (refAfter_any m l l.a1 l.c1 m.starts wa wc word _ h'.a (by omega) h'.s (by omega) h'.s3 hw' hwl).mono ?_
  rintro e w1 ⟨a1, c1, rfl, s1, l1, b1⟩
  have bb1 : Below (w.heap.size + 1) (w.alloc (.cells (mcells m l) 25)) w1 := b1.mono (by simp)
  have hold := below_box bb1
  have he := h.e.below hold (Nat.le_refl _)
  obtain ⟨x0, x1, x2, x3, x4⟩ := box_cells bb1
  clear b1 h' hw' b0
  go_wp2_with fail
  refine (only_any a1 l.a3 c1 l.c3 (afterL m.arrows m.starts word) m.ends true _ s1 (by omega) he l3).mono ?_
  rintro e w2 ⟨a2, c2, rfl, s2, l2, b2⟩
  have bb2 : Below w.heap.size w w2 := hold.trans (b2.mono hold.size)
  have HL : Hid ((afterL m.arrows m.starts word).filter (fun n => hasB m.ends n == true) = acceptsL m word) := rfl
  rw [HL.out] at l2 ⊢
  go_wp2
  go_ret
  exact ⟨ret_bool HA.out.symm, bb2⟩

end Go.Proofs.YtmlkpdeidpcidaaDoor
namespace Go.Proofs.YtmlkpdeidpcidaaDoor
open Go.RowKit
set_option linter.unusedVariables false

theorem sameB_refl : ∀ xs : List Int, sameB xs xs = true := by intro xs; simp [sameB]

set_option maxRecDepth 100000 in
set_option maxHeartbeats 4000000 in
theorem tells_no (m : Mach) (l : ML) (sa wa : Option Addr) (sc wc : Nat) (ss word : List Int) (w : World) (hT : Hid (Tab w)) (h : Hid (MAt w m l)) (hs : Hid (At w sa ss)) (hsl : Hid (ss.length ≤ maxLen)) (hsn : Hid (sa = none → sc = 0)) (hv : Hid (At w wa word)) (hwl : Hid (word.length ≤ maxLen)) (hm : Hid (mayB m = false)) :
    Calls Tryd.prog 3 #[mval m l, .slice sa ss.length sc, .slice wa word.length wc] w fun e w' => e = .returned (.bool true) ∧ Below w.heap.size w w' := by
  have B0 : Hid (Below w.heap.size w (w.alloc (.cells (mcells m l) 25))) := (Below.refl _ _).alloc (Nat.le_refl _) _
  have K0 := Hid.of (Blk.new w 25 (mcells m l))
  go_enter Tryd.func3, Tryd.ntmps3
  go_wp2_with fail
  refine (pMay_any m l _ (h.out.below B0.out (Nat.le_refl _))).mono ?_
  rintro e w1 ⟨rfl, hb⟩
  rw [hm.out]
  have B1 := Hid.of (B0.out.trans (hb.mono B0.out.size))
  have K1 := Hid.of (K0.out.below hb K0.out.lt)
  try clear x0 x1 x2 x3 x4
  obtain ⟨x0, x1, x2, x3, x4⟩ := mcell_of K1.out
  clear hb
  go_wp2_with fail
  refine (refMay_any m l _ (h.out.below B1.out (Nat.le_refl _))).mono ?_
  rintro e w2 ⟨rfl, hb⟩
  rw [hm.out]
  have B2 := Hid.of (B1.out.trans (hb.mono B1.out.size))
  have K2 := Hid.of (K1.out.below hb K1.out.lt)
  try clear x0 x1 x2 x3 x4
  obtain ⟨x0, x1, x2, x3, x4⟩ := mcell_of K2.out
  clear hb
  go_wp2_with fail
  refine (pAfter_err m l sa wa sc wc ss word 2 _ rfl (Hid.of (fun W hW => after_form1 m l sa wa sc wc ss word W (h.out.below (B2.out.trans (hW.mono B2.out.size)) (Nat.le_refl _)) hm))).mono ?_
  rintro e w3 ⟨rfl, hb⟩
  have B3 := Hid.of (B2.out.trans (hb.mono B2.out.size))
  have K3 := Hid.of (K2.out.below hb K2.out.lt)
  try clear x0 x1 x2 x3 x4
  obtain ⟨x0, x1, x2, x3, x4⟩ := mcell_of K3.out
  clear hb
  go_wp2_with fail
  refine (pAccepts_err m l wa wc word 2 _ rfl (Hid.of (fun W hW => after_form1 m l l.a1 wa l.c1 wc m.starts word W (h.out.below (B3.out.trans (hW.mono B3.out.size)) (Nat.le_refl _)) hm))).mono ?_
  rintro e w4 ⟨rfl, hb⟩
  have B4 := Hid.of (B3.out.trans (hb.mono B3.out.size))
  have K4 := Hid.of (K3.out.below hb K3.out.lt)
  try clear x0 x1 x2 x3 x4
  obtain ⟨x0, x1, x2, x3, x4⟩ := mcell_of K4.out
  clear hb
  go_wp2
  go_ret
  exact ⟨rfl, B4.out⟩

theorem rowB_len256 {m : Mach} (hm : mayB m = true) : m.starts.length ≤ 4096 := by
  have h1 := mayB_size hm
  have h2 := mayB_starts hm
  unfold rowB at h2
  have := goIs_len _ _ _ (by omega) h2
  omega

set_option maxRecDepth 100000 in
set_option maxHeartbeats 4000000 in
theorem tells_ff (m : Mach) (l : ML) (sa wa : Option Addr) (sc wc : Nat) (ss word : List Int) (w : World) (hT : Hid (Tab w)) (h : Hid (MAt w m l)) (hs : Hid (At w sa ss)) (hsl : Hid (ss.length ≤ maxLen)) (hsn : Hid (sa = none → sc = 0)) (hv : Hid (At w wa word)) (hwl : Hid (word.length ≤ maxLen)) (hm : Hid (mayB m = true)) (hr : Hid (rowB m.st ss = false)) (hwd : Hid (wordB m.ev word = false)) :
    Calls Tryd.prog 3 #[mval m l, .slice sa ss.length sc, .slice wa word.length wc] w fun e w' => e = .returned (.bool true) ∧ Below w.heap.size w w' := by
  have B0 : Hid (Below w.heap.size w (w.alloc (.cells (mcells m l) 25))) := (Below.refl _ _).alloc (Nat.le_refl _) _
  have K0 := Hid.of (Blk.new w 25 (mcells m l))
  go_enter Tryd.func3, Tryd.ntmps3
  go_wp2_with fail
  refine (pMay_any m l _ (h.out.below B0.out (Nat.le_refl _))).mono ?_
  rintro e w1 ⟨rfl, hb⟩
  rw [hm.out]
  have B1 := Hid.of (B0.out.trans (hb.mono B0.out.size))
  have K1 := Hid.of (K0.out.below hb K0.out.lt)
  try clear x0 x1 x2 x3 x4
  obtain ⟨x0, x1, x2, x3, x4⟩ := mcell_of K1.out
  clear hb
  go_wp2_with fail
  refine (refMay_any m l _ (h.out.below B1.out (Nat.le_refl _))).mono ?_
  rintro e w2 ⟨rfl, hb⟩
  rw [hm.out]
  have B2 := Hid.of (B1.out.trans (hb.mono B1.out.size))
  have K2 := Hid.of (K1.out.below hb K1.out.lt)
  try clear x0 x1 x2 x3 x4
  obtain ⟨x0, x1, x2, x3, x4⟩ := mcell_of K2.out
  clear hb
  go_wp2_with fail
  refine (pAfter_err m l sa wa sc wc ss word 2 _ rfl (Hid.of (fun W hW => after_form2 m l sa wa sc wc ss word W (h.out.below (B2.out.trans (hW.mono B2.out.size)) (Nat.le_refl _)) hm (Hid.of (hs.out.below (B2.out.trans (hW.mono B2.out.size)) (Nat.le_refl _))) hsl hr))).mono ?_
  rintro e w3 ⟨rfl, hb⟩
  have B3 := Hid.of (B2.out.trans (hb.mono B2.out.size))
  have K3 := Hid.of (K2.out.below hb K2.out.lt)
  try clear x0 x1 x2 x3 x4
  obtain ⟨x0, x1, x2, x3, x4⟩ := mcell_of K3.out
  clear hb
  go_wp2_with fail
  refine (pAccepts_err m l wa wc word 6 _ rfl (Hid.of (fun W hW => after_range m l l.a1 wa l.c1 wc m.starts word W (h.out.below (B3.out.trans (hW.mono B3.out.size)) (Nat.le_refl _)) hm (Hid.of (h.out.below (B3.out.trans (hW.mono B3.out.size)) (Nat.le_refl _)).s) (Hid.of (Nat.le_trans h.out.s1 h.out.s2)) (Hid.of (mayB_starts hm.out)) (Hid.of (hv.out.below (B3.out.trans (hW.mono B3.out.size)) (Nat.le_refl _))) hwl hwd))).mono ?_
  rintro e w4 ⟨rfl, hb⟩
  have B4 := Hid.of (B3.out.trans (hb.mono B3.out.size))
  have K4 := Hid.of (K3.out.below hb K3.out.lt)
  try clear x0 x1 x2 x3 x4
  obtain ⟨x0, x1, x2, x3, x4⟩ := mcell_of K4.out
  clear hb
  go_wp2_with fail
  refine (refWord_any m l wa wc word _ (hv.out.below B4.out (Nat.le_refl _)) hwl.out).mono ?_
  rintro e w5 ⟨rfl, hb⟩
  rw [hwd.out]
  have B5 := Hid.of (B4.out.trans (hb.mono B4.out.size))
  have K5 := Hid.of (K4.out.below hb K4.out.lt)
  try clear x0 x1 x2 x3 x4
  obtain ⟨x0, x1, x2, x3, x4⟩ := mcell_of K5.out
  clear hb
  go_wp2_with fail
  refine (refIs_any sa sc ss m.st _ (hs.out.below B5.out (Nat.le_refl _)) hsl.out).mono ?_
  rintro e w6 ⟨rfl, q6, rfl⟩
  rw [hr.out]
  have B6 := Hid.of (below_drewN B5.out q6)
  have K6 : Hid (Blk (w5.drewN q6) w.heap.size 25 (mcells m l)) := K5.out
  go_wp2
  go_ret
  exact ⟨rfl, B6.out⟩

set_option maxRecDepth 100000 in
set_option maxHeartbeats 4000000 in
theorem tells_ft (m : Mach) (l : ML) (sa wa : Option Addr) (sc wc : Nat) (ss word : List Int) (w : World) (hT : Hid (Tab w)) (h : Hid (MAt w m l)) (hs : Hid (At w sa ss)) (hsl : Hid (ss.length ≤ maxLen)) (hsn : Hid (sa = none → sc = 0)) (hv : Hid (At w wa word)) (hwl : Hid (word.length ≤ maxLen)) (hm : Hid (mayB m = true)) (hr : Hid (rowB m.st ss = false)) (hwd : Hid (wordB m.ev word = true)) :
    Calls Tryd.prog 3 #[mval m l, .slice sa ss.length sc, .slice wa word.length wc] w fun e w' => e = .returned (.bool true) ∧ Below w.heap.size w w' := by
  have B0 : Hid (Below w.heap.size w (w.alloc (.cells (mcells m l) 25))) := (Below.refl _ _).alloc (Nat.le_refl _) _
  have K0 := Hid.of (Blk.new w 25 (mcells m l))
  go_enter Tryd.func3, Tryd.ntmps3
  go_wp2_with fail
  refine (pMay_any m l _ (h.out.below B0.out (Nat.le_refl _))).mono ?_
  rintro e w1 ⟨rfl, hb⟩
  rw [hm.out]
  have B1 := Hid.of (B0.out.trans (hb.mono B0.out.size))
  have K1 := Hid.of (K0.out.below hb K0.out.lt)
  try clear x0 x1 x2 x3 x4
  obtain ⟨x0, x1, x2, x3, x4⟩ := mcell_of K1.out
  clear hb
  go_wp2_with fail
  refine (refMay_any m l _ (h.out.below B1.out (Nat.le_refl _))).mono ?_
  rintro e w2 ⟨rfl, hb⟩
  rw [hm.out]
  have B2 := Hid.of (B1.out.trans (hb.mono B1.out.size))
  have K2 := Hid.of (K1.out.below hb K1.out.lt)
  try clear x0 x1 x2 x3 x4
  obtain ⟨x0, x1, x2, x3, x4⟩ := mcell_of K2.out
  clear hb
  go_wp2_with fail
  refine (pAfter_err m l sa wa sc wc ss word 2 _ rfl (Hid.of (fun W hW => after_form2 m l sa wa sc wc ss word W (h.out.below (B2.out.trans (hW.mono B2.out.size)) (Nat.le_refl _)) hm (Hid.of (hs.out.below (B2.out.trans (hW.mono B2.out.size)) (Nat.le_refl _))) hsl hr))).mono ?_
  rintro e w3 ⟨rfl, hb⟩
  have B3 := Hid.of (B2.out.trans (hb.mono B2.out.size))
  have K3 := Hid.of (K2.out.below hb K2.out.lt)
  try clear x0 x1 x2 x3 x4
  obtain ⟨x0, x1, x2, x3, x4⟩ := mcell_of K3.out
  clear hb
  go_wp2_with fail
  refine (pAccepts_ok m l wa wc word _ (h.out.below B3.out (Nat.le_refl _)) (Hid.of (hT.out.below B3.out hT.out.lt)) hm (Hid.of (hv.out.below B3.out (Nat.le_refl _))) hwl hwd).mono ?_
  rintro e w4 ⟨rfl, hb⟩
  have B4 := Hid.of (B3.out.trans (hb.mono B3.out.size))
  have K4 := Hid.of (K3.out.below hb K3.out.lt)
  try clear x0 x1 x2 x3 x4
  obtain ⟨x0, x1, x2, x3, x4⟩ := mcell_of K4.out
  clear hb
  go_wp2_with fail
  refine (refWord_any m l wa wc word _ (hv.out.below B4.out (Nat.le_refl _)) hwl.out).mono ?_
  rintro e w5 ⟨rfl, hb⟩
  rw [hwd.out]
  have B5 := Hid.of (B4.out.trans (hb.mono B4.out.size))
  have K5 := Hid.of (K4.out.below hb K4.out.lt)
  try clear x0 x1 x2 x3 x4
  obtain ⟨x0, x1, x2, x3, x4⟩ := mcell_of K5.out
  clear hb
  go_wp2_with fail
  refine (refIs_any sa sc ss m.st _ (hs.out.below B5.out (Nat.le_refl _)) hsl.out).mono ?_
  rintro e w6 ⟨rfl, q6, rfl⟩
  rw [hr.out]
  have B6 := Hid.of (below_drewN B5.out q6)
  have K6 : Hid (Blk (w5.drewN q6) w.heap.size 25 (mcells m l)) := K5.out
  go_wp2_with fail
  refine (refAccepts_any m l wa wc word _ (h.out.below B6.out (Nat.le_refl _)) (mayB_size hm.out).2.2.2.2 (rowB_len256 hm.out) (hv.out.below B6.out (Nat.le_refl _)) hwl.out).mono ?_
  rintro e w7 ⟨rfl, hb⟩
  have B7 := Hid.of (B6.out.trans (hb.mono B6.out.size))
  have K7 := Hid.of (K6.out.below hb K6.out.lt)
  try clear x0 x1 x2 x3 x4
  obtain ⟨x0, x1, x2, x3, x4⟩ := mcell_of K7.out
  clear hb
  go_wp2
  go_ret
  exact ⟨rfl, B7.out⟩

set_option maxRecDepth 100000 in
set_option maxHeartbeats 4000000 in
theorem tells_tf (m : Mach) (l : ML) (sa wa : Option Addr) (sc wc : Nat) (ss word : List Int) (w : World) (hT : Hid (Tab w)) (h : Hid (MAt w m l)) (hs : Hid (At w sa ss)) (hsl : Hid (ss.length ≤ maxLen)) (hsn : Hid (sa = none → sc = 0)) (hv : Hid (At w wa word)) (hwl : Hid (word.length ≤ maxLen)) (hm : Hid (mayB m = true)) (hr : Hid (rowB m.st ss = true)) (hwd : Hid (wordB m.ev word = false)) :
    Calls Tryd.prog 3 #[mval m l, .slice sa ss.length sc, .slice wa word.length wc] w fun e w' => e = .returned (.bool true) ∧ Below w.heap.size w w' := by
  have B0 : Hid (Below w.heap.size w (w.alloc (.cells (mcells m l) 25))) := (Below.refl _ _).alloc (Nat.le_refl _) _
  have K0 := Hid.of (Blk.new w 25 (mcells m l))
  go_enter Tryd.func3, Tryd.ntmps3
  go_wp2_with fail
  refine (pMay_any m l _ (h.out.below B0.out (Nat.le_refl _))).mono ?_
  rintro e w1 ⟨rfl, hb⟩
  rw [hm.out]
  have B1 := Hid.of (B0.out.trans (hb.mono B0.out.size))
  have K1 := Hid.of (K0.out.below hb K0.out.lt)
  try clear x0 x1 x2 x3 x4
  obtain ⟨x0, x1, x2, x3, x4⟩ := mcell_of K1.out
  clear hb
  go_wp2_with fail
  refine (refMay_any m l _ (h.out.below B1.out (Nat.le_refl _))).mono ?_
  rintro e w2 ⟨rfl, hb⟩
  rw [hm.out]
  have B2 := Hid.of (B1.out.trans (hb.mono B1.out.size))
  have K2 := Hid.of (K1.out.below hb K1.out.lt)
  try clear x0 x1 x2 x3 x4
  obtain ⟨x0, x1, x2, x3, x4⟩ := mcell_of K2.out
  clear hb
  go_wp2_with fail
  refine (pAfter_err m l sa wa sc wc ss word 6 _ rfl (Hid.of (fun W hW => after_range m l sa wa sc wc ss word W (h.out.below (B2.out.trans (hW.mono B2.out.size)) (Nat.le_refl _)) hm (Hid.of (hs.out.below (B2.out.trans (hW.mono B2.out.size)) (Nat.le_refl _))) hsl hr (Hid.of (hv.out.below (B2.out.trans (hW.mono B2.out.size)) (Nat.le_refl _))) hwl hwd))).mono ?_
  rintro e w3 ⟨rfl, hb⟩
  have B3 := Hid.of (B2.out.trans (hb.mono B2.out.size))
  have K3 := Hid.of (K2.out.below hb K2.out.lt)
  try clear x0 x1 x2 x3 x4
  obtain ⟨x0, x1, x2, x3, x4⟩ := mcell_of K3.out
  clear hb
  go_wp2_with fail
  refine (pAccepts_err m l wa wc word 6 _ rfl (Hid.of (fun W hW => after_range m l l.a1 wa l.c1 wc m.starts word W (h.out.below (B3.out.trans (hW.mono B3.out.size)) (Nat.le_refl _)) hm (Hid.of (h.out.below (B3.out.trans (hW.mono B3.out.size)) (Nat.le_refl _)).s) (Hid.of (Nat.le_trans h.out.s1 h.out.s2)) (Hid.of (mayB_starts hm.out)) (Hid.of (hv.out.below (B3.out.trans (hW.mono B3.out.size)) (Nat.le_refl _))) hwl hwd))).mono ?_
  rintro e w4 ⟨rfl, hb⟩
  have B4 := Hid.of (B3.out.trans (hb.mono B3.out.size))
  have K4 := Hid.of (K3.out.below hb K3.out.lt)
  try clear x0 x1 x2 x3 x4
  obtain ⟨x0, x1, x2, x3, x4⟩ := mcell_of K4.out
  clear hb
  go_wp2_with fail
  refine (refWord_any m l wa wc word _ (hv.out.below B4.out (Nat.le_refl _)) hwl.out).mono ?_
  rintro e w5 ⟨rfl, hb⟩
  rw [hwd.out]
  have B5 := Hid.of (B4.out.trans (hb.mono B4.out.size))
  have K5 := Hid.of (K4.out.below hb K4.out.lt)
  try clear x0 x1 x2 x3 x4
  obtain ⟨x0, x1, x2, x3, x4⟩ := mcell_of K5.out
  clear hb
  go_wp2_with fail
  refine (refIs_any sa sc ss m.st _ (hs.out.below B5.out (Nat.le_refl _)) hsl.out).mono ?_
  rintro e w6 ⟨rfl, q6, rfl⟩
  rw [hr.out]
  have B6 := Hid.of (below_drewN B5.out q6)
  have K6 : Hid (Blk (w5.drewN q6) w.heap.size 25 (mcells m l)) := K5.out
  go_wp2
  go_ret
  exact ⟨rfl, B6.out⟩

set_option maxRecDepth 100000 in
set_option maxHeartbeats 4000000 in
theorem tells_tt (m : Mach) (l : ML) (sa wa : Option Addr) (sc wc : Nat) (ss word : List Int) (w : World) (hT : Hid (Tab w)) (h : Hid (MAt w m l)) (hs : Hid (At w sa ss)) (hsl : Hid (ss.length ≤ maxLen)) (hsn : Hid (sa = none → sc = 0)) (hv : Hid (At w wa word)) (hwl : Hid (word.length ≤ maxLen)) (hm : Hid (mayB m = true)) (hr : Hid (rowB m.st ss = true)) (hwd : Hid (wordB m.ev word = true)) :
    Calls Tryd.prog 3 #[mval m l, .slice sa ss.length sc, .slice wa word.length wc] w fun e w' => e = .returned (.bool true) ∧ Below w.heap.size w w' := by
  have B0 : Hid (Below w.heap.size w (w.alloc (.cells (mcells m l) 25))) := (Below.refl _ _).alloc (Nat.le_refl _) _
  have K0 := Hid.of (Blk.new w 25 (mcells m l))
  go_enter Tryd.func3, Tryd.ntmps3
  go_wp2_with fail
  refine (pMay_any m l _ (h.out.below B0.out (Nat.le_refl _))).mono ?_
  rintro e w1 ⟨rfl, hb⟩
  rw [hm.out]
  have B1 := Hid.of (B0.out.trans (hb.mono B0.out.size))
  have K1 := Hid.of (K0.out.below hb K0.out.lt)
  try clear x0 x1 x2 x3 x4
  obtain ⟨x0, x1, x2, x3, x4⟩ := mcell_of K1.out
  clear hb
  go_wp2_with fail
  refine (refMay_any m l _ (h.out.below B1.out (Nat.le_refl _))).mono ?_
  rintro e w2 ⟨rfl, hb⟩
  rw [hm.out]
  have B2 := Hid.of (B1.out.trans (hb.mono B1.out.size))
  have K2 := Hid.of (K1.out.below hb K1.out.lt)
  try clear x0 x1 x2 x3 x4
  obtain ⟨x0, x1, x2, x3, x4⟩ := mcell_of K2.out
  clear hb
  go_wp2_with fail
  refine (pAfter_ok m l sa wa sc wc ss word _ (h.out.below B2.out (Nat.le_refl _)) (Hid.of (hT.out.below B2.out hT.out.lt)) hm (Hid.of (hs.out.below B2.out (Nat.le_refl _))) hsl hr (Hid.of (hv.out.below B2.out (Nat.le_refl _))) hwl hwd).mono ?_
  rintro e w3 ⟨la, lc, rfl, hat, hll, hb⟩
  have HL := Hid.of hat
  have HLN := Hid.of hll
  have B3 := Hid.of (B2.out.trans (hb.mono B2.out.size))
  have K3 := Hid.of (K2.out.below hb K2.out.lt)
  clear x0 x1 x2 x3 x4 hat hll
  obtain ⟨x0, x1, x2, x3, x4⟩ := mcell_of K3.out
  clear hb
  go_wp2_with fail
  refine (pAccepts_ok m l wa wc word _ (h.out.below B3.out (Nat.le_refl _)) (Hid.of (hT.out.below B3.out hT.out.lt)) hm (Hid.of (hv.out.below B3.out (Nat.le_refl _))) hwl hwd).mono ?_
  rintro e w4 ⟨rfl, hb⟩
  have HL := Hid.of (HL.out.below hb (Nat.le_refl _))
  have B4 := Hid.of (B3.out.trans (hb.mono B3.out.size))
  have K4 := Hid.of (K3.out.below hb K3.out.lt)
  try clear x0 x1 x2 x3 x4
  obtain ⟨x0, x1, x2, x3, x4⟩ := mcell_of K4.out
  clear hb
  go_wp2_with fail
  refine (refWord_any m l wa wc word _ (hv.out.below B4.out (Nat.le_refl _)) hwl.out).mono ?_
  rintro e w5 ⟨rfl, hb⟩
  rw [hwd.out]
  have HL := Hid.of (HL.out.below hb (Nat.le_refl _))
  have B5 := Hid.of (B4.out.trans (hb.mono B4.out.size))
  have K5 := Hid.of (K4.out.below hb K4.out.lt)
  try clear x0 x1 x2 x3 x4
  obtain ⟨x0, x1, x2, x3, x4⟩ := mcell_of K5.out
  clear hb
  go_wp2_with fail
  refine (refIs_any sa sc ss m.st _ (hs.out.below B5.out (Nat.le_refl _)) hsl.out).mono ?_
  rintro e w6 ⟨rfl, q6, rfl⟩
  rw [hr.out]
  have B6 := Hid.of (below_drewN B5.out q6)
  have K6 : Hid (Blk (w5.drewN q6) w.heap.size 25 (mcells m l)) := K5.out
  have HL := Hid.of (At.drewN HL.out q6)
  go_wp2_with fail
  refine (refAfter_any m l sa sc ss wa wc word _ (h.out.below B6.out (Nat.le_refl _)).a (by have := (mayB_size hm.out).2.2.2.2; omega) (hs.out.below B6.out (Nat.le_refl _)) (by have := rowB_len hr.out; omega) hsn.out (hv.out.below B6.out (Nat.le_refl _)) hwl.out).mono ?_
  rintro e w7 ⟨ra, rc, rfl, hat, hll, hb⟩
  have HL := Hid.of (HL.out.below hb (Nat.le_refl _))
  have HR := Hid.of hat
  have HRN := Hid.of hll
  have B7 := Hid.of (B6.out.trans (hb.mono B6.out.size))
  have K7 := Hid.of (K6.out.below hb K6.out.lt)
  clear x0 x1 x2 x3 x4 hat hll
  obtain ⟨x0, x1, x2, x3, x4⟩ := mcell_of K7.out
  clear hb
  go_wp2_with fail
  refine (same_any la ra lc rc _ _ _ HL.out HR.out HLN.out HRN.out).mono ?_
  rintro e w8 ⟨rfl, q8, rfl⟩
  rw [sameB_refl]
  have B8 := Hid.of (below_drewN B7.out q8)
  have K8 : Hid (Blk (w7.drewN q8) w.heap.size 25 (mcells m l)) := K7.out
  go_wp2_with fail
  refine (refAccepts_any m l wa wc word _ (h.out.below B8.out (Nat.le_refl _)) (mayB_size hm.out).2.2.2.2 (rowB_len256 hm.out) (hv.out.below B8.out (Nat.le_refl _)) hwl.out).mono ?_
  rintro e w9 ⟨rfl, hb⟩
  have B9 := Hid.of (B8.out.trans (hb.mono B8.out.size))
  have K9 := Hid.of (K8.out.below hb K8.out.lt)
  try clear x0 x1 x2 x3 x4
  obtain ⟨x0, x1, x2, x3, x4⟩ := mcell_of K9.out
  clear hb
  go_wp2
  go_ret
  exact ⟨rfl, B9.out⟩

theorem tells_any (m : Mach) (l : ML) (sa wa : Option Addr) (sc wc : Nat) (ss word : List Int) (w : World) (hT : Hid (Tab w)) (h : Hid (MAt w m l)) (hs : Hid (At w sa ss)) (hsl : Hid (ss.length ≤ maxLen)) (hsn : Hid (sa = none → sc = 0)) (hv : Hid (At w wa word)) (hwl : Hid (word.length ≤ maxLen)) :
    Calls Tryd.prog 3 #[mval m l, .slice sa ss.length sc, .slice wa word.length wc] w fun e w' => e = .returned (.bool true) ∧ Below w.heap.size w w' := by
  cases hm : mayB m with
  | false => exact tells_no m l sa wa sc wc ss word w hT h hs hsl hsn hv hwl hm
  | true =>
    cases hr : rowB m.st ss with
    | false =>
      cases hwd : wordB m.ev word with
      | false => exact tells_ff m l sa wa sc wc ss word w hT h hs hsl hsn hv hwl hm hr hwd
      | true => exact tells_ft m l sa wa sc wc ss word w hT h hs hsl hsn hv hwl hm hr hwd
    | true =>
      cases hwd : wordB m.ev word with
      | false => exact tells_tf m l sa wa sc wc ss word w hT h hs hsl hsn hv hwl hm hr hwd
      | true => exact tells_tt m l sa wa sc wc ss word w hT h hs hsl hsn hv hwl hm hr hwd

end Go.Proofs.YtmlkpdeidpcidaaDoor
