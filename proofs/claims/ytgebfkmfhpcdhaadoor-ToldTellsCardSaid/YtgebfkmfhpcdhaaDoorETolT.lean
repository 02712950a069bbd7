/-
  The walk of the law ToldTells.
-/
import Derived.Test.YtgebfkmfhpcdhaaDoorEPTol
import Derived.Test.YtgebfkmfhpcdhaaDoorERefMay
import Derived.Test.YtgebfkmfhpcdhaaDoorI05
import Derived.Test.YtgebfkmfhpcdhaaDoorI10
namespace Go.Proofs.YtgebfkmfhpcdhaaDoor
open Go.RowKit
set_option linter.unusedVariables false

set_option maxRecDepth 100000 in
set_option maxHeartbeats 8000000 in
theorem tolt_any (m : Mach) (l : ML) (ha : Option Addr) (hc : Nat) (high : List Int) (w : World) (hT : Hid (Tab w)) (h : Hid (MAt w m l)) (hh : Hid (At w ha high)) (hhl : Hid (high.length ≤ maxLen)) :
    Calls Tryd.prog 10 #[mval m l, .slice ha high.length hc] w fun e w' => e = .returned (.bool true) ∧ Below w.heap.size w w' := by
  have B : Hid (Below w.heap.size w (w.alloc (.cells (mcells m l) 25))) := (Below.refl _ _).alloc (Nat.le_refl _) _
  have KA : Hid (Blk (w.alloc (.cells (mcells m l) 25)) w.heap.size 25 (mcells m l)) := Blk.new w _ _
  go_enter Tryd.func10, Tryd.ntmps10
  obtain ⟨x0, x1, x2, x3, x4⟩ := mcell_at KA.out
  go_wp2_with fail
  clear x0 x1 x2 x3 x4
  revert B KA
  generalize (w.alloc (.cells (mcells m l) 25)) = V0
  intro B KA
  obtain ⟨lb, lw, lc, lH⟩ : ∃ b l c, Hid (tolOut m high = (b, l, c)) := ⟨_, _, _, rfl⟩
  refine (pTol_any m l ha hc high _ (h.out.below B.out (Nat.le_refl _)) (hh.out.below B.out (Nat.le_refl _)) hhl.out (hT.out.below B.out hT.out.lt)).mono ?_
  intro e W1 hp
  unfold LeakPost at hp
  rw [lH.out] at hp
  dsimp only at hp
  obtain ⟨la, lk, rfl, lat, lln, hb⟩ := hp
  replace B := Hid.of (B.out.trans (hb.mono B.out.size))
  replace KA := Hid.of (KA.out.below hb KA.out.lt)
  clear hb
  have lA := Hid.of lat
  have lL := Hid.of lln
  clear lat lln
  obtain ⟨x0, x1, x2, x3, x4⟩ := mcell_at KA.out
  go_wp2_with fail
  clear x0 x1 x2 x3 x4
  refine (refMay_any m l _ (h.out.below B.out (Nat.le_refl _))).mono ?_
  rintro e W2 ⟨rfl, hb⟩
  replace B := Hid.of (B.out.trans (hb.mono B.out.size))
  replace KA := Hid.of (KA.out.below hb KA.out.lt)
  replace lA := Hid.of (lA.out.below hb (Nat.le_refl _))
  clear hb
  cases hm : mayB m with
  | false =>
    have q1 := lH.out
    rw [tolOut_m hm high] at q1
    cases q1
    go_wp2_with fail
    go_ret
    exact ⟨rfl, B.out⟩
  | true =>
    have HM := Hid.of hm
    clear hm
    obtain ⟨x0, x1, x2, x3, x4⟩ := mcell_at KA.out
    go_wp2_with fail
    clear x0 x1 x2 x3 x4
    refine (refIs_any ha hc high m.ev _ (hh.out.below B.out (Nat.le_refl _)) hhl.out).mono ?_
    rintro e W3 ⟨rfl, qd, hqd⟩
    have hb : Below W2.heap.size W2 W3 := by rw [hqd]; exact below_drewN (Below.refl _ _) qd
    clear hqd
    replace B := Hid.of (B.out.trans (hb.mono B.out.size))
    replace KA := Hid.of (KA.out.below hb KA.out.lt)
    replace lA := Hid.of (lA.out.below hb (Nat.le_refl _))
    clear hb
    cases hr : rowB m.ev high with
    | false =>
      have q1 := lH.out
      rw [tolOut_r hr] at q1
      cases q1
      go_wp2_with fail
      go_ret
      exact ⟨rfl, B.out⟩
    | true =>
      have HR := Hid.of hr
      clear hr
      by_cases z1 : m.st ≤ 6
      · have d2 : decide ((6 : Int) < m.st) = false := by simp; omega
        have q1 := lH.out
        rw [tolOut_ok HM.out HR.out z1] at q1
        have Z1 := Hid.of z1
        clear z1
        obtain ⟨o, HO⟩ : ∃ o, Hid (o = outT m high) := ⟨_, rfl⟩
        rw [← HO.out] at q1
        obtain ⟨rfl, rfl, rfl⟩ : lb = o.isSome ∧ lw = o.getD [] ∧ lc = 0 := by cases q1; exact ⟨rfl, rfl, rfl⟩
        clear q1 lH
        obtain ⟨bo, HBO⟩ : ∃ bo, Hid (bo = o.isSome) := ⟨_, rfl⟩
        obtain ⟨wo, HWO⟩ : ∃ wo, Hid (wo = o.getD []) := ⟨_, rfl⟩
        rw [← HWO.out] at lA lL
        rw [← HBO.out, ← HWO.out]
        obtain ⟨x0, x1, x2, x3, x4⟩ := mcell_at KA.out
        go_wp2_with fail
        clear x0 x1 x2 x3 x4
        refine (rqtold_any m l ha hc high _ (h.out.below B.out (Nat.le_refl _)) (hh.out.below B.out (Nat.le_refl _)) hhl.out HM.out Z1.out).mono ?_
        intro e W4 hp
        unfold TolPost at hp
        rw [← HO.out, ← HBO.out, ← HWO.out] at hp
        obtain ⟨xa, xk, rfl, xat, xln, hb⟩ := hp
        replace B := Hid.of (B.out.trans (hb.mono B.out.size))
        replace KA := Hid.of (KA.out.below hb KA.out.lt)
        replace lA := Hid.of (lA.out.below hb (Nat.le_refl _))
        clear hb
        have xA := Hid.of xat
        have xL := Hid.of xln
        clear xat xln
        have d4 : (bo == bo) = true := by simp
        have KS := Hid.of (same_any la xa lk xk wo wo _ lA.out xA.out lL.out xL.out)
        have HSS : Hid (sameB wo wo = true) := by show _ = _; simp [sameB]
        rw [HSS.out] at KS
        go_wp2_with fail
        refine KS.out.mono ?_
        rintro e W6 ⟨rfl, qd, hqd⟩
        have hb : Below W4.heap.size W4 W6 := by rw [hqd]; exact below_drewN (Below.refl _ _) qd
        clear KS hqd
        replace B := Hid.of (B.out.trans (hb.mono B.out.size))
        replace KA := Hid.of (KA.out.below hb KA.out.lt)
        replace lA := Hid.of (lA.out.below hb (Nat.le_refl _))
        replace xA := Hid.of (xA.out.below hb (Nat.le_refl _))
        clear hb
        go_wp2_with fail
        go_ret
        exact ⟨rfl, B.out⟩
      · have q1 := lH.out
        rw [tolOut_z HM.out HR.out z1] at q1
        cases q1
        have d2 : decide ((6 : Int) < m.st) = true := by simp; omega
        clear z1
        obtain ⟨x0, x1, x2, x3, x4⟩ := mcell_at KA.out
        go_wp2_with fail
        clear x0 x1 x2 x3 x4
        go_ret
        exact ⟨rfl, B.out⟩

end Go.Proofs.YtgebfkmfhpcdhaaDoor
