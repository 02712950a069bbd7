/-
  The walk of jalousieref1.Join: one list behind the other, sorted.
  The walk of the law TopFound.
-/
import Derived.Test.YtgebfkmfhpcdhaaDoorH13
import Derived.Test.YtgebfkmfhpcdhaaDoorH04
import Derived.Test.YtgebfkmfhpcdhaaDoorH24
import Derived.Test.YtgebfkmfhpcdhaaDoorDRefMay
import Derived.Test.YtgebfkmfhpcdhaaDoorH05
namespace Go.Proofs.YtgebfkmfhpcdhaaDoor
open Go.RowKit
set_option linter.unusedVariables false

set_option maxHeartbeats 400000 in
theorem refJoin_any (a1 a2 : Option Addr) (c1 c2 : Nat) (xs ys : List Int) (w : World) (h1 : At w a1 xs) (h2 : At w a2 ys) (n1 : a1 = none → c1 = 0) (n2 : a2 = none → c2 = 0) (l1 : xs.length ≤ 4398046511104) (l2 : ys.length ≤ 4398046511104) :
    Calls Tryd.prog 55 #[.slice a1 xs.length c1, .slice a2 ys.length c2] w fun e w' => Gives w (srt (xs ++ ys)) e w' := by
  obtain ⟨i0, hi, hz0, hz1, hz2⟩ := info_parts Tryd.infoInt
  have N1 : Hid (a1 = none → c1 = 0) := n1
  have N2 : Hid (a2 = none → c2 = 0) := n2
  clear n1 n2
  go_enter Tryd.func55, Tryd.ntmps55
  have o0 : Own (w.alloc (.cells #[] 3)) w.heap.size (.slice (some ⟨w.heap.size, 0, none⟩) 0 0) [] := own_empty w
  have b0 : Below w.heap.size w (w.alloc (.cells #[] 3)) := (Below.refl _ _).alloc (Nat.le_refl _) _
  have a1' : At (w.alloc (.cells #[] 3)) a1 xs := h1.below b0 (Nat.le_refl _)
  go_wp2_with (at_builtin; refine wpList_append_ints _ rfl (.tmp 6) (.tmp 7) 22 rfl w.heap.size i0 Tryd.underlying22 hi hz0 hz1 hz2 _ [] rfl o0 a1 c1 xs rfl a1' N1.out (by simp only [List.length_nil]; omega) (by simp) ?_)
  intro v1 w1 o1 b1 z1
  have bb1 : Below w.heap.size w w1 := b0.trans b1
  have a2' : At w1 a2 ys := h2.below bb1 (Nat.le_refl _)
  clear o0 a1' b1 b0
  go_wp2_with (at_builtin; refine wpList_append_ints _ rfl (.tmp 8) (.tmp 9) 22 rfl w.heap.size i0 Tryd.underlying22 hi hz0 hz1 hz2 _ xs rfl o1 a2 c2 ys rfl a2' N2.out (by omega) z1 ?_)
  intro v2 w2 o2 b2 z2
  have bb2 : Below w.heap.size w w2 := bb1.trans b2
  clear o1 a2' b2 bb1
  obtain ⟨a3, c3, rfl, h3, l3⟩ := o2.at
  clear o2
  have HL : Hid ((xs ++ ys).length ≤ 17592186044416) := by show _ ≤ _; rw [List.length_append]; omega
  generalize hz : xs ++ ys = zs at *
  have HZ : Hid (xs ++ ys = zs) := hz
  clear hz
  go_wp2_with fail
  refine (sorted_any a3 c3 zs _ h3 HL.out).mono ?_
  rintro e w3 ⟨a4, c4, rfl, h4, l4, b4⟩
  have bb3 : Below w.heap.size w w3 := bb2.trans (b4.mono bb2.size)
  go_wp2
  go_ret
  have hz := HZ.out
  subst hz
  exact ⟨a4, c4, rfl, h4, l4, bb3⟩

end Go.Proofs.YtgebfkmfhpcdhaaDoor
namespace Go.Proofs.YtgebfkmfhpcdhaaDoor
open Go.RowKit
set_option linter.unusedVariables false

theorem loop_may : mayB loopM = true := by decide
theorem loop_out : delOut loopM [] [0] = (-1, 0) := by
  rw [delOut_ok loop_may (by decide) (by decide) (by decide), del_loop (del_is loop_may (by decide) [] [0])]
theorem loop_lay (W : World) : MAt (((W.alloc (.cells #[.int .i64 0] 3)).alloc (.cells #[.int .i64 0, .int .i64 0, .int .i64 0] 75)).alloc (.cells #[.int .i64 0] 3)) loopM ⟨some ⟨W.heap.size, 0, none⟩, 1, some ⟨W.heap.size + 1, 0, none⟩, 1, none, 0⟩ ∧ At (((W.alloc (.cells #[.int .i64 0] 3)).alloc (.cells #[.int .i64 0, .int .i64 0, .int .i64 0] 75)).alloc (.cells #[.int .i64 0] 3)) (some ⟨W.heap.size + 1 + 1, 0, none⟩) [0] := by
  have b2 : Below (W.alloc (.cells #[.int .i64 0] 3)).heap.size (W.alloc (.cells #[.int .i64 0] 3)) (((W.alloc (.cells #[.int .i64 0] 3)).alloc (.cells #[.int .i64 0, .int .i64 0, .int .i64 0] 75)).alloc (.cells #[.int .i64 0] 3)) := ((Below.refl _ _).alloc (Nat.le_refl _) _).alloc (by simp) _
  have s1 := (at_one13 W 0).below b2 (Nat.le_refl _)
  have s3 := at_one13 ((W.alloc (.cells #[.int .i64 0] 3)).alloc (.cells #[.int .i64 0, .int .i64 0, .int .i64 0] 75)) 0
  rw [World.size_alloc, World.size_alloc] at s3
  have k2 := (Blk.new (W.alloc (.cells #[.int .i64 0] 3)) 75 #[.int .i64 0, .int .i64 0, .int .i64 0]).alloc (.cells #[.int .i64 0] 3)
  rw [World.size_alloc] at k2
  refine ⟨⟨s1, .inr ⟨W.heap.size + 1, 0, rfl, k2.lt, fun j hj => ?_⟩, .inl rfl, Nat.le_refl 1, (show 1 ≤ maxLen by decide), fun h => absurd h (by simp), Nat.le_refl 1, (show 1 ≤ maxLen by decide), fun h => absurd h (by simp), Nat.le_refl 0, (show 0 ≤ maxLen by decide), fun _ => rfl⟩, s3⟩
  have : j = 0 := by have hj : j < 1 := hj; omega
  subst this
  exact ⟨k2.cell 0 rfl, k2.cell 1 rfl, k2.cell 2 rfl⟩
theorem top_short13 {m : Mach} (hm : mayB m = true) {seen more : List Int} (hs : rowB m.ev seen = true) (h : rowB m.ev more = true) : seen.length ≤ 256 ∧ more.length ≤ 256 := by
  have hz := mayB_size hm
  unfold sizeOk at hz
  have h1 := row_short (by omega) (by omega) hs
  have h2 := row_short (by omega) (by omega) h
  omega
theorem top_wide13 {m : Mach} (hm : mayB m = true) {seen more : List Int} (hs : rowB m.ev seen = true) (h : rowB m.ev more = true) : rowB m.ev (srt (seen ++ more)) = true := by
  have hz := mayB_size hm
  unfold sizeOk at hz
  refine (rowB_iff _ (by omega) _).2 ⟨inc_srt _, fun x hx => ?_⟩
  rcases List.mem_append.1 ((mem_srt _ _).1 hx) with q | q
  · exact ((rowB_iff _ (by omega) _).1 hs).2 x q
  · exact ((rowB_iff _ (by omega) _).1 h).2 x q
set_option maxRecDepth 100000 in
set_option maxHeartbeats 8000000 in
theorem topf_any (m : Mach) (l : ML) (sa : Option Addr) (sc : Nat) (seen : List Int) (ma : Option Addr) (mc : Nat) (more : List Int) (fa : Option Addr) (fc : Nat) (faults : List Int) (w : World) (hT : Hid (Tab w)) (h : Hid (MAt w m l)) (hse : Hid (At w sa seen)) (hsl : Hid (seen.length ≤ maxLen)) (hmo : Hid (At w ma more)) (hml : Hid (more.length ≤ maxLen)) (n1 : Hid (sa = none → sc = 0)) (n2 : Hid (ma = none → mc = 0)) (hfa : Hid (At w fa faults)) (hfl : Hid (faults.length ≤ maxLen)) :
    Calls Tryd.prog 14 #[mval m l, .slice sa seen.length sc, .slice ma more.length mc, .slice fa faults.length fc] w fun e w' => e = .returned (.bool true) ∧ Below w.heap.size w w' := by
  have B : Hid (Below w.heap.size w (w.alloc (.cells (mcells m l) 25))) := (Below.refl _ _).alloc (Nat.le_refl _) _
  have KA : Hid (Blk (w.alloc (.cells (mcells m l) 25)) w.heap.size 25 (mcells m l)) := Blk.new w _ _
  go_enter Tryd.func14, Tryd.ntmps14
  obtain ⟨x0, x1, x2, x3, x4⟩ := mcell_at KA.out
  go_wp2_with fail
  clear x0 x1 x2 x3 x4
  revert B KA
  generalize (w.alloc (.cells (mcells m l) 25)) = V0
  intro B KA
  refine (refMay_any m l _ (h.out.below B.out (Nat.le_refl _))).mono ?_
  rintro e W1 ⟨rfl, hb⟩
  replace B := Hid.of (B.out.trans (hb.mono B.out.size))
  replace KA := Hid.of (KA.out.below hb KA.out.lt)
  clear hb
  cases hm : mayB m with
  | false =>
    go_wp2_with fail
    go_ret
    exact ⟨rfl, B.out⟩
  | true =>
    have HM := Hid.of hm
    clear hm
    by_cases z1 : m.st ≤ 6
    · have d2 : decide ((6 : Int) < m.st) = false := by simp; omega
      have Z1 := Hid.of z1
      clear z1
      obtain ⟨x0, x1, x2, x3, x4⟩ := mcell_at KA.out
      go_wp2_with fail
      clear x0 x1 x2 x3 x4
      refine (refIs_any sa sc seen m.ev _ (hse.out.below B.out (Nat.le_refl _)) hsl.out).mono ?_
      rintro e W2 ⟨rfl, qd, hqd⟩
      have hb : Below W1.heap.size W1 W2 := by rw [hqd]; exact below_drewN (Below.refl _ _) qd
      clear hqd
      replace B := Hid.of (B.out.trans (hb.mono B.out.size))
      replace KA := Hid.of (KA.out.below hb KA.out.lt)
      clear hb
      cases hr : rowB m.ev seen with
      | false =>
        go_wp2_with fail
        go_ret
        exact ⟨rfl, B.out⟩
      | true =>
        have HR := Hid.of hr
        clear hr
        obtain ⟨x0, x1, x2, x3, x4⟩ := mcell_at KA.out
        go_wp2_with fail
        clear x0 x1 x2 x3 x4
        refine (refIs_any ma mc more m.ev _ (hmo.out.below B.out (Nat.le_refl _)) hml.out).mono ?_
        rintro e W3 ⟨rfl, qd, hqd⟩
        have hb : Below W2.heap.size W2 W3 := by rw [hqd]; exact below_drewN (Below.refl _ _) qd
        clear hqd
        replace B := Hid.of (B.out.trans (hb.mono B.out.size))
        replace KA := Hid.of (KA.out.below hb KA.out.lt)
        clear hb
        cases hr : rowB m.ev more with
        | false =>
          go_wp2_with fail
          go_ret
          exact ⟨rfl, B.out⟩
        | true =>
          have HO := Hid.of hr
          clear hr
          obtain ⟨x0, x1, x2, x3, x4⟩ := mcell_at KA.out
          go_wp2_with fail
          clear x0 x1 x2 x3 x4
          refine (refIs_any fa fc faults m.ev _ (hfa.out.below B.out (Nat.le_refl _)) hfl.out).mono ?_
          rintro e W4 ⟨rfl, qd, hqd⟩
          have hb : Below W3.heap.size W3 W4 := by rw [hqd]; exact below_drewN (Below.refl _ _) qd
          clear hqd
          replace B := Hid.of (B.out.trans (hb.mono B.out.size))
          replace KA := Hid.of (KA.out.below hb KA.out.lt)
          clear hb
          cases hr : rowB m.ev faults with
          | false =>
            go_wp2_with fail
            go_ret
            exact ⟨rfl, B.out⟩
          | true =>
            have HF := Hid.of hr
            clear hr
            have HLP := Hid.of (loop_lay W4)
            have hb : Below W4.heap.size W4 (((W4.alloc (.cells #[.int .i64 0] 3)).alloc (.cells #[.int .i64 0, .int .i64 0, .int .i64 0] 75)).alloc (.cells #[.int .i64 0] 3)) := (((Below.refl _ _).alloc (Nat.le_refl _) _).alloc (by simp) _).alloc (by simp; omega) _
            replace B := Hid.of (B.out.trans (hb.mono B.out.size))
            replace KA := Hid.of (KA.out.below hb KA.out.lt)
            clear hb
            go_wp2_with fail
            revert B KA HLP
            generalize (((W4.alloc (.cells #[.int .i64 0] 3)).alloc (.cells #[.int .i64 0, .int .i64 0, .int .i64 0] 75)).alloc (.cells #[.int .i64 0] 3)) = V1
            generalize W4.heap.size = p4
            intro HLP B KA
            refine (pDel_any loopM ⟨some ⟨p4, 0, none⟩, 1, some ⟨p4 + 1, 0, none⟩, 1, none, 0⟩ none 0 [] (some ⟨p4 + 1 + 1, 0, none⟩) 1 [0] V1 HLP.out.1 (.inl rfl) (Nat.zero_le _) HLP.out.2 (by decide) (hT.out.below B.out hT.out.lt)).mono ?_
            intro e W5 hp
            unfold DelPost at hp
            rw [loop_out] at hp
            dsimp only at hp
            obtain ⟨rfl, hb⟩ := hp
            replace B := Hid.of (B.out.trans (hb.mono B.out.size))
            replace KA := Hid.of (KA.out.below hb KA.out.lt)
            clear hb
            clear HLP
            go_wp2_with fail
            have hs8 : seen.length ≤ 256 ∧ more.length ≤ 256 := top_short13 HM.out HR.out HO.out
            have H8 := Hid.of hs8
            clear hs8
            refine (refJoin_any sa ma sc mc seen more _ (hse.out.below B.out (Nat.le_refl _)) (hmo.out.below B.out (Nat.le_refl _)) n1.out n2.out (by have := H8.out; omega) (by have := H8.out; omega)).mono ?_
            rintro e W6 ⟨ja, jc, rfl, jat, jln, hb⟩
            replace B := Hid.of (B.out.trans (hb.mono B.out.size))
            replace KA := Hid.of (KA.out.below hb KA.out.lt)
            clear hb
            obtain ⟨wide, HWI⟩ : ∃ wide, Hid (wide = srt (seen ++ more)) := ⟨_, rfl⟩
            rw [← HWI.out] at jat jln
            have JA := Hid.of jat
            have JL := Hid.of jln
            clear jat jln
            rw [← HWI.out]
            obtain ⟨x0, x1, x2, x3, x4⟩ := mcell_at KA.out
            go_wp2_with fail
            clear x0 x1 x2 x3 x4
            obtain ⟨ad, ae, aH⟩ : ∃ d e, Hid (delOut m seen faults = (d, e)) := ⟨_, _, rfl⟩
            refine (pDel_any m l sa sc seen fa fc faults _ (h.out.below B.out (Nat.le_refl _)) (hse.out.below B.out (Nat.le_refl _)) hsl.out (hfa.out.below B.out (Nat.le_refl _)) hfl.out (hT.out.below B.out hT.out.lt)).mono ?_
            intro e W7 hp
            unfold DelPost at hp
            rw [aH.out] at hp
            dsimp only at hp
            obtain ⟨rfl, hb⟩ := hp
            replace B := Hid.of (B.out.trans (hb.mono B.out.size))
            replace KA := Hid.of (KA.out.below hb KA.out.lt)
            replace JA := Hid.of (JA.out.below hb (Nat.le_refl _))
            clear hb
            obtain ⟨x0, x1, x2, x3, x4⟩ := mcell_at KA.out
            go_wp2_with fail
            clear x0 x1 x2 x3 x4
            obtain ⟨bd, be, bH⟩ : ∃ d e, Hid (delOut m wide faults = (d, e)) := ⟨_, _, rfl⟩
            refine (pDel_any m l ja jc wide fa fc faults _ (h.out.below B.out (Nat.le_refl _)) JA.out JL.out (hfa.out.below B.out (Nat.le_refl _)) hfl.out (hT.out.below B.out hT.out.lt)).mono ?_
            intro e W8 hp
            unfold DelPost at hp
            rw [bH.out] at hp
            dsimp only at hp
            obtain ⟨rfl, hb⟩ := hp
            replace B := Hid.of (B.out.trans (hb.mono B.out.size))
            replace KA := Hid.of (KA.out.below hb KA.out.lt)
            replace JA := Hid.of (JA.out.below hb (Nat.le_refl _))
            clear hb
            have q1 := aH.out
            rw [delOut_ok HM.out HR.out HF.out Z1.out] at q1
            obtain ⟨A, HA⟩ : ∃ D, Hid (D = delD m seen faults) := ⟨_, rfl⟩
            rw [← HA.out] at q1
            obtain ⟨rfl, rfl⟩ : ad = A ∧ ae = 0 := by cases q1; exact ⟨rfl, rfl⟩
            clear q1 aH
            have q1 := bH.out
            rw [delOut_ok HM.out (by rw [HWI.out]; exact top_wide13 HM.out HR.out HO.out) HF.out Z1.out] at q1
            obtain ⟨D, HD⟩ : ∃ D, Hid (D = delD m wide faults) := ⟨_, rfl⟩
            rw [← HD.out] at q1
            obtain ⟨rfl, rfl⟩ : bd = D ∧ be = 0 := by cases q1; exact ⟨rfl, rfl⟩
            clear q1 bH
            have hq := del_more (faults := faults) (show ∀ e ∈ seen, e ∈ wide by rw [HWI.out]; exact fun e he => (mem_srt _ _).2 (List.mem_append.2 (.inl he))) (del_is HM.out Z1.out seen faults) (del_is HM.out Z1.out wide faults)
            rw [← HA.out, ← HD.out] at hq
            by_cases n0 : ad < 0
            · have d5 : decide (ad < 0) = true := by simp [n0]
              clear n0 hq
              go_wp2_with fail
              go_ret
              exact ⟨rfl, B.out⟩
            · have d5 : decide (ad < 0) = false := by simp; omega
              have d6 : decide ((0 : Int) ≤ bd) = true := by simp; omega
              have d7 : decide (bd ≤ ad) = true := by simp; omega
              have nn1 : 0 ≤ bd := by omega
              have nn2 : bd ≤ ad := by omega
              clear hq
              go_wp2_with fail
              go_ret
              exact ⟨rfl, B.out⟩
    · have d2 : decide ((6 : Int) < m.st) = true := by simp; omega
      clear z1
      obtain ⟨x0, x1, x2, x3, x4⟩ := mcell_at KA.out
      go_wp2_with fail
      clear x0 x1 x2 x3 x4
      go_ret
      exact ⟨rfl, B.out⟩

end Go.Proofs.YtgebfkmfhpcdhaaDoor
