/-
  The walk of the law SecretTells.
-/
import Derived.Test.YtmlkpdeidpcidaaDoorEPSec
import Derived.Test.YtmlkpdeidpcidaaDoorERefMay
import Derived.Test.YtmlkpdeidpcidaaDoorI05
import Derived.Test.YtmlkpdeidpcidaaDoorI10
namespace Go.Proofs.YtmlkpdeidpcidaaDoor
open Go.RowKit
set_option linter.unusedVariables false

set_option maxRecDepth 100000 in
set_option maxHeartbeats 8000000 in
theorem sect_any (m s : Mach) (lm ls : ML) (sa : Option Addr) (sc : Nat) (seen : List Int) (w : World) (hT : Hid (Tab w)) (h : Hid (MAt w m lm)) (h' : Hid (MAt w s ls)) (hse : Hid (At w sa seen)) (hsl : Hid (seen.length ≤ maxLen)) :
    Calls Tryd.prog 9 #[mval m lm, mval s ls, .slice sa seen.length sc] w fun e w' => e = .returned (.bool true) ∧ Below w.heap.size w w' := by
  have B : Hid (Below w.heap.size w ((w.alloc (.cells (mcells m lm) 25)).alloc (.cells (mcells s ls) 25))) := ((Below.refl _ _).alloc (Nat.le_refl _) _).alloc (by simp) _
  have KA : Hid (Blk ((w.alloc (.cells (mcells m lm) 25)).alloc (.cells (mcells s ls) 25)) w.heap.size 25 (mcells m lm)) := (Blk.new w _ _).alloc _
  have KB : Hid (Blk ((w.alloc (.cells (mcells m lm) 25)).alloc (.cells (mcells s ls) 25)) (w.heap.size + 1) 25 (mcells s ls)) := by
    have := Blk.new (w.alloc (.cells (mcells m lm) 25)) 25 (mcells s ls)
    rwa [World.size_alloc] at this
  go_enter Tryd.func9, Tryd.ntmps9
  obtain ⟨x0, x1, x2, x3, x4⟩ := mcell_at KA.out
  obtain ⟨y0, y1, y2, y3, y4⟩ := mcell_at KB.out
  go_wp2_with fail
  clear x0 x1 x2 x3 x4 y0 y1 y2 y3 y4
  revert B KA KB
  generalize ((w.alloc (.cells (mcells m lm) 25)).alloc (.cells (mcells s ls) 25)) = V0
  intro B KA KB
  obtain ⟨lb, lw, lc, lH⟩ : ∃ b l c, Hid (secOut m s seen = (b, l, c)) := ⟨_, _, _, rfl⟩
  refine (pSec_any m s lm ls sa sc seen _ (h.out.below B.out (Nat.le_refl _)) (h'.out.below B.out (Nat.le_refl _)) (hse.out.below B.out (Nat.le_refl _)) hsl.out (hT.out.below B.out hT.out.lt)).mono ?_
  intro e W1 hp
  unfold LeakPost at hp
  rw [lH.out] at hp
  dsimp only at hp
  obtain ⟨la, lk, rfl, lat, lln, hb⟩ := hp
  replace B := Hid.of (B.out.trans (hb.mono B.out.size))
  replace KA := Hid.of (KA.out.below hb KA.out.lt)
  replace KB := Hid.of (KB.out.below hb KB.out.lt)
  clear hb
  have lA := Hid.of lat
  have lL := Hid.of lln
  clear lat lln
  obtain ⟨x0, x1, x2, x3, x4⟩ := mcell_at KA.out
  obtain ⟨y0, y1, y2, y3, y4⟩ := mcell_at KB.out
  go_wp2_with fail
  clear x0 x1 x2 x3 x4 y0 y1 y2 y3 y4
  refine (refMay_any m lm _ (h.out.below B.out (Nat.le_refl _))).mono ?_
  rintro e W2 ⟨rfl, hb⟩
  replace B := Hid.of (B.out.trans (hb.mono B.out.size))
  replace KA := Hid.of (KA.out.below hb KA.out.lt)
  replace KB := Hid.of (KB.out.below hb KB.out.lt)
  replace lA := Hid.of (lA.out.below hb (Nat.le_refl _))
  clear hb
  cases hm : mayB m with
  | false =>
    have q1 := lH.out
    rw [secOut_bad (secErr_m hm seen) (by decide)] at q1
    cases q1
    go_wp2_with fail
    go_ret
    exact ⟨rfl, B.out⟩
  | true =>
    have HM := Hid.of hm
    clear hm
    obtain ⟨x0, x1, x2, x3, x4⟩ := mcell_at KA.out
    obtain ⟨y0, y1, y2, y3, y4⟩ := mcell_at KB.out
    go_wp2_with fail
    clear x0 x1 x2 x3 x4 y0 y1 y2 y3 y4
    refine (refMay_any s ls _ (h'.out.below B.out (Nat.le_refl _))).mono ?_
    rintro e W3 ⟨rfl, hb⟩
    replace B := Hid.of (B.out.trans (hb.mono B.out.size))
    replace KA := Hid.of (KA.out.below hb KA.out.lt)
    replace KB := Hid.of (KB.out.below hb KB.out.lt)
    replace lA := Hid.of (lA.out.below hb (Nat.le_refl _))
    clear hb
    cases hs : mayB s with
    | false =>
      have q1 := lH.out
      rw [secOut_bad (secErr_s hs seen) (by decide)] at q1
      cases q1
      go_wp2_with fail
      go_ret
      exact ⟨rfl, B.out⟩
    | true =>
      have HS := Hid.of hs
      clear hs
      by_cases he : m.ev = s.ev
      · have d1 : (m.ev != s.ev) = false := by simp [he]
        have HE := Hid.of he
        clear he
        obtain ⟨x0, x1, x2, x3, x4⟩ := mcell_at KA.out
        obtain ⟨y0, y1, y2, y3, y4⟩ := mcell_at KB.out
        go_wp2_with fail
        clear x0 x1 x2 x3 x4 y0 y1 y2 y3 y4
        refine (refIs_any sa sc seen m.ev _ (hse.out.below B.out (Nat.le_refl _)) hsl.out).mono ?_
        rintro e W4 ⟨rfl, qd, hqd⟩
        have hb : Below W3.heap.size W3 W4 := by rw [hqd]; exact below_drewN (Below.refl _ _) qd
        clear hqd
        replace B := Hid.of (B.out.trans (hb.mono B.out.size))
        replace KA := Hid.of (KA.out.below hb KA.out.lt)
        replace KB := Hid.of (KB.out.below hb KB.out.lt)
        replace lA := Hid.of (lA.out.below hb (Nat.le_refl _))
        clear hb
        cases hr : rowB m.ev seen with
        | false =>
          have q1 := lH.out
          rw [secOut_bad (secErr_r HM.out HS.out HE.out hr) (by decide)] at q1
          cases q1
          go_wp2_with fail
          go_ret
          exact ⟨rfl, B.out⟩
        | true =>
          have HR := Hid.of hr
          clear hr
          have h8 : seen.length ≤ 8 := by
            have hz := mayB_size HM.out
            unfold sizeOk at hz
            have := row_short (by omega) (by omega) HR.out
            omega
          have H8 := Hid.of h8
          clear h8
          by_cases z1 : m.st ≤ 6
          · have d2 : decide ((6 : Int) < m.st) = false := by simp; omega
            by_cases z2 : s.st ≤ 4
            · have d3 : decide ((4 : Int) < s.st) = false := by simp; omega
              have HZ := Hid.of (secErr_ok HM.out HS.out HE.out HR.out z1 z2)
              have Z1 := Hid.of z1
              have Z2 := Hid.of z2
              clear z1 z2
              cases ho : outQ m s seen with
              | none =>
                have q1 := lH.out
                rw [secOut_big HZ.out ho] at q1
                cases q1
                have HLR : Hid (leakR (outQ m s seen) = (false, [], false)) := by show _ = _; rw [ho]; rfl
                clear ho
                obtain ⟨x0, x1, x2, x3, x4⟩ := mcell_at KA.out
                obtain ⟨y0, y1, y2, y3, y4⟩ := mcell_at KB.out
                go_wp2_with fail
                clear x0 x1 x2 x3 x4 y0 y1 y2 y3 y4
                refine (rqleak_any m s lm ls sa sc seen _ (h.out.below B.out (Nat.le_refl _)) (h'.out.below B.out (Nat.le_refl _)) (hse.out.below B.out (Nat.le_refl _)) H8.out HM.out HS.out Z1.out Z2.out).mono ?_
                intro e W5 hp
                unfold LeakQPost at hp
                rw [HLR.out] at hp
                obtain ⟨xa, xk, rfl, xat, xln, hb⟩ := hp
                replace B := Hid.of (B.out.trans (hb.mono B.out.size))
                replace KA := Hid.of (KA.out.below hb KA.out.lt)
                replace KB := Hid.of (KB.out.below hb KB.out.lt)
                replace lA := Hid.of (lA.out.below hb (Nat.le_refl _))
                clear hb
                clear xat xln
                go_wp2_with fail
                go_ret
                exact ⟨rfl, B.out⟩
              | some o =>
                have q1 := lH.out
                rw [secOut_ok HZ.out ho] at q1
                obtain ⟨rfl, rfl, rfl⟩ : lb = o.isSome ∧ lw = o.getD [] ∧ lc = 0 := by cases q1; exact ⟨rfl, rfl, rfl⟩
                have HLR : Hid (leakR (outQ m s seen) = (o.isSome, o.getD [], true)) := by show _ = _; rw [ho]; cases o <;> rfl
                clear ho q1 lH
                obtain ⟨bo, HBO⟩ : ∃ bo, Hid (bo = o.isSome) := ⟨_, rfl⟩
                obtain ⟨wo, HWO⟩ : ∃ wo, Hid (wo = o.getD []) := ⟨_, rfl⟩
                rw [← HWO.out] at lA lL
                rw [← HBO.out, ← HWO.out] at HLR
                rw [← HBO.out, ← HWO.out]
                obtain ⟨x0, x1, x2, x3, x4⟩ := mcell_at KA.out
                obtain ⟨y0, y1, y2, y3, y4⟩ := mcell_at KB.out
                go_wp2_with fail
                clear x0 x1 x2 x3 x4 y0 y1 y2 y3 y4
                refine (rqleak_any m s lm ls sa sc seen _ (h.out.below B.out (Nat.le_refl _)) (h'.out.below B.out (Nat.le_refl _)) (hse.out.below B.out (Nat.le_refl _)) H8.out HM.out HS.out Z1.out Z2.out).mono ?_
                intro e W5 hp
                unfold LeakQPost at hp
                rw [HLR.out] at hp
                obtain ⟨xa, xk, rfl, xat, xln, hb⟩ := hp
                replace B := Hid.of (B.out.trans (hb.mono B.out.size))
                replace KA := Hid.of (KA.out.below hb KA.out.lt)
                replace KB := Hid.of (KB.out.below hb KB.out.lt)
                replace lA := Hid.of (lA.out.below hb (Nat.le_refl _))
                clear hb
                dsimp only at xat xln
                have xA := Hid.of xat
                have xL := Hid.of xln
                clear xat xln
                dsimp only
                have d4 : (bo == bo) = true := by simp
                have KS := Hid.of (same_any la xa lk xk wo wo _ lA.out xA.out lL.out xL.out)
                have HSS : Hid (sameB wo wo = true) := by show _ = _; simp [sameB]
                rw [HSS.out] at KS
                go_wp2_with fail
                refine KS.out.mono ?_
                rintro e W6 ⟨rfl, qd, hqd⟩
                have hb : Below W5.heap.size W5 W6 := by rw [hqd]; exact below_drewN (Below.refl _ _) qd
                clear KS hqd
                replace B := Hid.of (B.out.trans (hb.mono B.out.size))
                replace KA := Hid.of (KA.out.below hb KA.out.lt)
                replace KB := Hid.of (KB.out.below hb KB.out.lt)
                replace lA := Hid.of (lA.out.below hb (Nat.le_refl _))
                replace xA := Hid.of (xA.out.below hb (Nat.le_refl _))
                clear hb
                go_wp2_with fail
                go_ret
                exact ⟨rfl, B.out⟩
            · have q1 := lH.out
              rw [secOut_bad (secErr_z HM.out HS.out HE.out HR.out (by omega)) (by decide)] at q1
              cases q1
              have d3 : decide ((4 : Int) < s.st) = true := by simp; omega
              clear z2
              obtain ⟨x0, x1, x2, x3, x4⟩ := mcell_at KA.out
              obtain ⟨y0, y1, y2, y3, y4⟩ := mcell_at KB.out
              go_wp2_with fail
              clear x0 x1 x2 x3 x4 y0 y1 y2 y3 y4
              go_ret
              exact ⟨rfl, B.out⟩
          · have q1 := lH.out
            rw [secOut_bad (secErr_z HM.out HS.out HE.out HR.out (by omega)) (by decide)] at q1
            cases q1
            have d2 : decide ((6 : Int) < m.st) = true := by simp; omega
            clear z1
            obtain ⟨x0, x1, x2, x3, x4⟩ := mcell_at KA.out
            obtain ⟨y0, y1, y2, y3, y4⟩ := mcell_at KB.out
            go_wp2_with fail
            clear x0 x1 x2 x3 x4 y0 y1 y2 y3 y4
            go_ret
            exact ⟨rfl, B.out⟩
      · have q1 := lH.out
        rw [secOut_bad (secErr_k HM.out HS.out he seen) (by decide)] at q1
        cases q1
        have d1 : (m.ev != s.ev) = true := by simp [he]
        clear he
        obtain ⟨x0, x1, x2, x3, x4⟩ := mcell_at KA.out
        obtain ⟨y0, y1, y2, y3, y4⟩ := mcell_at KB.out
        go_wp2_with fail
        clear x0 x1 x2 x3 x4 y0 y1 y2 y3 y4
        go_ret
        exact ⟨rfl, B.out⟩

end Go.Proofs.YtmlkpdeidpcidaaDoor
