/-
  The walk of the law TopSeen.
-/
import Derived.Test.YtmimjpkllgjdkaaDoorCPStp
import Derived.Test.YtmimjpkllgjdkaaDoorCPIni
import Derived.Test.YtmimjpkllgjdkaaDoorG55
import Derived.Test.YtmimjpkllgjdkaaDoorG28
import Derived.Test.YtmimjpkllgjdkaaDoorG05
namespace Go.Proofs.YtmimjpkllgjdkaaDoor
open Go.RowKit
set_option linter.unusedVariables false

set_option maxRecDepth 100000 in
set_option maxHeartbeats 8000000 in
theorem tseen_any (p : Plant) (P : PTL) (va : Option Addr) (vc : Nat) (more : List Int) (w : World) (hT : Hid (Tab w)) (h : Hid (PAt w p P)) (hw : Hid (At w va more)) (hwl : Hid (more.length ≤ maxLen)) (hwn : Hid (va = none → vc = 0)) :
    Calls Tryd.prog 13 #[ptval p P, .slice va more.length vc] w fun e w' => e = .returned (.bool true) ∧ Below w.heap.size w w' := by
  have B : Hid (Below w.heap.size w (w.alloc (.cells (ptcells p P) 44))) := (Below.refl _ _).alloc (Nat.le_refl _) _
  have KP : Hid (Blk (w.alloc (.cells (ptcells p P) 44)) w.heap.size 44 (ptcells p P)) := Blk.new w _ _
  go_enter Tryd.func13, Tryd.ntmps13
  go_wp2_with fail
  revert B KP
  generalize (w.alloc (.cells (ptcells p P) 44)) = V0
  intro B KP
  refine (rMayP_any p P _ (Hid.of (h.out.below B.out (Nat.le_refl _)))).mono ?_
  rintro e W1 ⟨rfl, hb⟩
  replace B := Hid.of (B.out.trans (hb.mono B.out.size))
  replace KP := Hid.of (KP.out.below hb KP.out.lt)
  clear hb
  obtain ⟨mp, HMP⟩ : ∃ mp, Hid (mayP p = mp) := ⟨_, rfl⟩
  rw [HMP.out]
  cases mp with
  | false =>
    go_wp2_with fail
    go_ret
    exact ⟨rfl, B.out⟩
  | true =>
    obtain ⟨x0, x1, x2, x3, x4, x5, x6⟩ := ptcell_at KP.out
    go_wp2_with fail
    clear x0 x1 x2 x3 x4 x5 x6
    refine (refIs_any va vc more p.m.ev _ (hw.out.below B.out (Nat.le_refl _)) hwl.out).mono ?_
    rintro e W2 ⟨rfl, qd, hqd⟩
    have hb : Below W1.heap.size W1 W2 := by rw [hqd]; exact below_drewN (Below.refl _ _) qd
    replace B := Hid.of (B.out.trans (hb.mono B.out.size))
    replace KP := Hid.of (KP.out.below hb KP.out.lt)
    clear hb
    clear hqd
    cases hmr : rowB p.m.ev more with
    | false =>
      clear hmr
      go_wp2_with fail
      go_ret
      exact ⟨rfl, B.out⟩
    | true =>
      obtain ⟨t1, t2⟩ := top_join HMP.out hmr
      have HMQ := Hid.of t1
      have HSQ := Hid.of t2
      have HSH := Hid.of (top_short HMP.out hmr)
      clear t1 t2 hmr
      have KP0 := KP
      have HBQ : Hid (w.heap.size < W2.heap.size) := KP.out.lt
      have hb : Below W2.heap.size W2 (W2.alloc (.cells (ptcells p P) 44)) := (Below.refl _ _).alloc (Nat.le_refl _) _
      have HBW : Hid (W2.heap.size < (W2.alloc (.cells (ptcells p P) 44)).heap.size) := show _ < _ by rw [World.size_alloc]; omega
      replace B := Hid.of (B.out.trans (hb.mono B.out.size))
      replace KP := Hid.of (KP.out.below hb KP.out.lt)
      clear hb
      have KQ := Hid.of (Blk.new W2 44 (ptcells p P))
      obtain ⟨y0, y1, y2, y3, y4, y5, y6⟩ := ptcell_at KP0.out
      obtain ⟨x0, x1, x2, x3, x4, x5, x6⟩ := ptcell_at KP.out
      go_wp2_with fail
      clear x0 x1 x2 x3 x4 x5 x6
      clear y0 y1 y2 y3 y4 y5 y6 KP0
      revert HBQ HBW B KP KQ
      show Hid (w.heap.size < W2.heap.size) → Hid (W2.heap.size < (W2.alloc (.cells #[.int .i64 p.m.st, .int .i64 p.m.ev, .slice P.l.a1 p.m.starts.length P.l.c1, .slice P.l.a2 p.m.arrows.length P.l.c2, .slice P.l.a3 p.m.ends.length P.l.c3, .slice P.sa p.seen.length P.sc, .slice P.ta p.secret.length P.tc] 44)).heap.size) → _
      generalize W2.alloc (.cells #[.int .i64 p.m.st, .int .i64 p.m.ev, .slice P.l.a1 p.m.starts.length P.l.c1, .slice P.l.a2 p.m.arrows.length P.l.c2, .slice P.l.a3 p.m.ends.length P.l.c3, .slice P.sa p.seen.length P.sc, .slice P.ta p.secret.length P.tc] 44) = W3
      generalize W2.heap.size = bq
      intro HBQ HBW B KP KQ
      refine (refJoin_own P.sa va P.sc vc p.seen more W3 (h.out.s.at_.below B.out (Nat.le_refl _)) (hw.out.below B.out (Nat.le_refl _)) h.out.s.nil hwn.out (Nat.le_trans HSH.out.1 (by decide)) (Nat.le_trans HSH.out.2 (by decide))).mono ?_
      rintro e W4 ⟨jv, rfl, jo, hb⟩
      replace B := Hid.of (B.out.trans (hb.mono B.out.size))
      replace KP := Hid.of (KP.out.below hb KP.out.lt)
      replace KQ := Hid.of (KQ.out.below hb KQ.out.lt)
      clear hb
      obtain ⟨ja, jc, hjv, jat, jl1, jl2, jl3⟩ := Own.at2 jo
      subst hjv
      have z5 := KQ.out.cell 5 rfl
      have zf := KQ.out.frozen
      have hbq := HBQ.out
      have KQ2 : Hid (Blk (W4.setCell ⟨bq, 5, none⟩ (.slice ja (srt (p.seen ++ more)).length jc)) bq 44 (ptcells ⟨p.m, srt (p.seen ++ more), p.secret⟩ ⟨P.l, ja, jc, P.ta, P.tc⟩)) := KQ.out.set 5 _
      have KP2 : Hid (Blk (W4.setCell ⟨bq, 5, none⟩ (.slice ja (srt (p.seen ++ more)).length jc)) w.heap.size 44 (ptcells p P)) := Blk.other KP.out (by omega) _
      have B2 : Hid (Below w.heap.size w (W4.setCell ⟨bq, 5, none⟩ (.slice ja (srt (p.seen ++ more)).length jc))) := B.out.setCell (p := ⟨bq, 5, none⟩) (show w.heap.size ≤ bq by omega) _
      have jo2 := ownsRow_set (j := 5) jo HBW.out (.slice ja (srt (p.seen ++ more)).length jc)
      obtain ⟨ja2, jc2, hjv2, jat2, -, -, -⟩ := Own.at2 jo2
      cases hjv2
      have PQ : Hid (PAt (W4.setCell ⟨bq, 5, none⟩ (.slice ja (srt (p.seen ++ more)).length jc)) ⟨p.m, srt (p.seen ++ more), p.secret⟩ ⟨P.l, ja, jc, P.ta, P.tc⟩) := ⟨h.out.m.below B2.out (Nat.le_refl _), ⟨jat2, jl1, jl2, jl3⟩, h.out.t.below B2.out (Nat.le_refl _)⟩
      clear jo jo2 jat jat2 jl1 jl2 jl3 KQ KP B
      obtain ⟨x0, x1, x2, x3, x4, x5, x6⟩ := ptcell_at KP2.out
      go_wp2_with fail
      clear x0 x1 x2 x3 x4 x5 x6 z5 zf
      revert KQ2 KP2 B2 PQ
      generalize W4.setCell ⟨bq, 5, none⟩ (.slice ja (srt (p.seen ++ more)).length jc) = W5
      intro KQ KP B PQ
      obtain ⟨q, HQ⟩ : ∃ q : Plant, Hid (q = ⟨p.m, srt (p.seen ++ more), p.secret⟩) := ⟨_, rfl⟩
      obtain ⟨Q, HQL⟩ : ∃ Q : PTL, Hid (Q = ⟨P.l, ja, jc, P.ta, P.tc⟩) := ⟨_, rfl⟩
      rw [← HQ.out, ← HQL.out] at KQ PQ
      rw [← HQ.out] at HMQ
      have HTS := Hid.of (top_seen HMP.out HMQ.out (by rw [HQ.out]) (by rw [HQ.out]; exact HSQ.out) (by rw [HQ.out]))
      obtain ⟨ab, aw, ac, aH⟩ : ∃ b l c, Hid (leakOut p (outC p) = (b, l, c)) := ⟨_, _, _, rfl⟩
      refine (pLeakC_any p P _ (h.out.below B.out (Nat.le_refl _)) (hT.out.below B.out hT.out.lt)).mono ?_
      intro e W6 hp
      unfold LeakPost at hp
      rw [aH.out] at hp
      dsimp only at hp
      obtain ⟨aa, ak, rfl, -, -, hb⟩ := hp
      replace B := Hid.of (B.out.trans (hb.mono B.out.size))
      replace KP := Hid.of (KP.out.below hb KP.out.lt)
      replace KQ := Hid.of (KQ.out.below hb KQ.out.lt)
      replace PQ := Hid.of (PQ.out.below hb (Nat.le_refl _))
      clear hb
      have q0 := aH.out
      rw [leakOut_ok HMP.out] at q0
      obtain ⟨rfl, rfl⟩ : ab = (outC p).isSome ∧ ac = 0 := by rw [Prod.mk.injEq, Prod.mk.injEq] at q0; exact ⟨q0.1.symm, q0.2.2.symm⟩
      clear q0 aH
      obtain ⟨x0, x1, x2, x3, x4, x5, x6⟩ := ptcell_at KQ.out
      go_wp2_with fail
      clear x0 x1 x2 x3 x4 x5 x6
      obtain ⟨bb, bw, bc, bH⟩ : ∃ b l c, Hid (leakOut q (outC q) = (b, l, c)) := ⟨_, _, _, rfl⟩
      refine (pLeakC_any q Q _ PQ.out (hT.out.below B.out hT.out.lt)).mono ?_
      intro e W7 hp
      unfold LeakPost at hp
      rw [bH.out] at hp
      dsimp only at hp
      obtain ⟨ba, bk, rfl, -, -, hb⟩ := hp
      replace B := Hid.of (B.out.trans (hb.mono B.out.size))
      replace KP := Hid.of (KP.out.below hb KP.out.lt)
      replace KQ := Hid.of (KQ.out.below hb KQ.out.lt)
      replace PQ := Hid.of (PQ.out.below hb (Nat.le_refl _))
      clear hb
      have q0 := bH.out
      rw [leakOut_ok HMQ.out] at q0
      obtain ⟨rfl, rfl⟩ : bb = (outC q).isSome ∧ bc = 0 := by rw [Prod.mk.injEq, Prod.mk.injEq] at q0; exact ⟨q0.1.symm, q0.2.2.symm⟩
      clear q0 bH
      obtain ⟨x0, x1, x2, x3, x4, x5, x6⟩ := ptcell_at KP.out
      go_wp2_with fail
      clear x0 x1 x2 x3 x4 x5 x6
      obtain ⟨cb, cw, cc, cH⟩ : ∃ b l c, Hid (leakOut p (outI p) = (b, l, c)) := ⟨_, _, _, rfl⟩
      refine (pLeakI_any p P _ (h.out.below B.out (Nat.le_refl _)) (hT.out.below B.out hT.out.lt)).mono ?_
      intro e W8 hp
      unfold LeakPost at hp
      rw [cH.out] at hp
      dsimp only at hp
      obtain ⟨ca, ck, rfl, -, -, hb⟩ := hp
      replace B := Hid.of (B.out.trans (hb.mono B.out.size))
      replace KP := Hid.of (KP.out.below hb KP.out.lt)
      replace KQ := Hid.of (KQ.out.below hb KQ.out.lt)
      replace PQ := Hid.of (PQ.out.below hb (Nat.le_refl _))
      clear hb
      have q0 := cH.out
      rw [leakOut_ok HMP.out] at q0
      obtain ⟨rfl, rfl⟩ : cb = (outI p).isSome ∧ cc = 0 := by rw [Prod.mk.injEq, Prod.mk.injEq] at q0; exact ⟨q0.1.symm, q0.2.2.symm⟩
      clear q0 cH
      obtain ⟨x0, x1, x2, x3, x4, x5, x6⟩ := ptcell_at KQ.out
      go_wp2_with fail
      clear x0 x1 x2 x3 x4 x5 x6
      obtain ⟨db, dw, dc, dH⟩ : ∃ b l c, Hid (leakOut q (outI q) = (b, l, c)) := ⟨_, _, _, rfl⟩
      refine (pLeakI_any q Q _ PQ.out (hT.out.below B.out hT.out.lt)).mono ?_
      intro e W9 hp
      unfold LeakPost at hp
      rw [dH.out] at hp
      dsimp only at hp
      obtain ⟨da, dk, rfl, -, -, hb⟩ := hp
      replace B := Hid.of (B.out.trans (hb.mono B.out.size))
      replace KP := Hid.of (KP.out.below hb KP.out.lt)
      replace KQ := Hid.of (KQ.out.below hb KQ.out.lt)
      replace PQ := Hid.of (PQ.out.below hb (Nat.le_refl _))
      clear hb
      have q0 := dH.out
      rw [leakOut_ok HMQ.out] at q0
      obtain ⟨rfl, rfl⟩ : db = (outI q).isSome ∧ dc = 0 := by rw [Prod.mk.injEq, Prod.mk.injEq] at q0; exact ⟨q0.1.symm, q0.2.2.symm⟩
      clear q0 dH
      obtain ⟨x0, x1, x2, x3, x4, x5, x6⟩ := ptcell_at KP.out
      go_wp2_with fail
      clear x0 x1 x2 x3 x4 x5 x6
      obtain ⟨eb, ⟨ew, ev⟩, ec, eH⟩ : ∃ b l c, Hid (stepOut p (-1) = (b, l, c)) := ⟨_, _, _, rfl⟩
      refine (pStep_any p P (-1) _ (h.out.below B.out (Nat.le_refl _)) (hT.out.below B.out hT.out.lt)).mono ?_
      intro e W10 hp
      unfold StepPost at hp
      rw [eH.out] at hp
      dsimp only at hp
      obtain ⟨ea, ek, ed, em, rfl, -, -, -, -, hb⟩ := hp
      replace B := Hid.of (B.out.trans (hb.mono B.out.size))
      replace KP := Hid.of (KP.out.below hb KP.out.lt)
      replace KQ := Hid.of (KQ.out.below hb KQ.out.lt)
      replace PQ := Hid.of (PQ.out.below hb (Nat.le_refl _))
      clear hb
      have q0 := eH.out
      rw [stepOut_ok HMP.out (by omega)] at q0
      obtain ⟨rfl, rfl⟩ : eb = (outS p (-1)).isSome ∧ ec = 0 := by rw [Prod.mk.injEq, Prod.mk.injEq] at q0; exact ⟨q0.1.symm, q0.2.2.symm⟩
      clear q0 eH
      obtain ⟨x0, x1, x2, x3, x4, x5, x6⟩ := ptcell_at KQ.out
      go_wp2_with fail
      clear x0 x1 x2 x3 x4 x5 x6
      obtain ⟨fb, ⟨fw, fv⟩, fc, fH⟩ : ∃ b l c, Hid (stepOut q (-1) = (b, l, c)) := ⟨_, _, _, rfl⟩
      refine (pStep_any q Q (-1) _ PQ.out (hT.out.below B.out hT.out.lt)).mono ?_
      intro e W11 hp
      unfold StepPost at hp
      rw [fH.out] at hp
      dsimp only at hp
      obtain ⟨fa, fk, fd, fm, rfl, -, -, -, -, hb⟩ := hp
      replace B := Hid.of (B.out.trans (hb.mono B.out.size))
      replace KP := Hid.of (KP.out.below hb KP.out.lt)
      replace KQ := Hid.of (KQ.out.below hb KQ.out.lt)
      replace PQ := Hid.of (PQ.out.below hb (Nat.le_refl _))
      clear hb
      have q0 := fH.out
      rw [stepOut_ok HMQ.out (by omega)] at q0
      obtain ⟨rfl, rfl⟩ : fb = (outS q (-1)).isSome ∧ fc = 0 := by rw [Prod.mk.injEq, Prod.mk.injEq] at q0; exact ⟨q0.1.symm, q0.2.2.symm⟩
      clear q0 fH
      obtain ⟨i1, i2, i3⟩ := HTS.out
      obtain ⟨s1, HS1⟩ : ∃ s, Hid (s = (outC p).isSome) := ⟨_, rfl⟩
      obtain ⟨s2, HS2⟩ : ∃ s, Hid (s = (outC q).isSome) := ⟨_, rfl⟩
      obtain ⟨s3, HS3⟩ : ∃ s, Hid (s = (outI p).isSome) := ⟨_, rfl⟩
      obtain ⟨s4, HS4⟩ : ∃ s, Hid (s = (outI q).isSome) := ⟨_, rfl⟩
      obtain ⟨s5, HS5⟩ : ∃ s, Hid (s = (outS p (-1)).isSome) := ⟨_, rfl⟩
      obtain ⟨s6, HS6⟩ : ∃ s, Hid (s = (outS q (-1)).isSome) := ⟨_, rfl⟩
      rw [← HS1.out, ← HS2.out] at i1
      rw [← HS3.out, ← HS4.out] at i2
      rw [← HS5.out, ← HS6.out] at i3
      rw [← HS1.out, ← HS2.out, ← HS3.out, ← HS4.out, ← HS5.out, ← HS6.out]
      have I1 := Hid.of i1
      have I2 := Hid.of i2
      have I3 := Hid.of i3
      clear i1 i2 i3
      cases s1 with
      | false =>
        cases s3 with
        | false =>
          cases s5 with
          | false =>
            obtain ⟨x0, x1, x2, x3, x4, x5, x6⟩ := ptcell_at KP.out
            go_wp2_with fail
            clear x0 x1 x2 x3 x4 x5 x6
            refine (pCurMay_any p P _ (h.out.below B.out (Nat.le_refl _))).mono ?_
            rintro e W12 ⟨rfl, hb⟩
            replace B := Hid.of (B.out.trans (hb.mono B.out.size))
            replace KP := Hid.of (KP.out.below hb KP.out.lt)
            replace KQ := Hid.of (KQ.out.below hb KQ.out.lt)
            replace PQ := Hid.of (PQ.out.below hb (Nat.le_refl _))
            clear hb
            rw [HMP.out]
            obtain ⟨x0, x1, x2, x3, x4, x5, x6⟩ := ptcell_at KQ.out
            go_wp2_with fail
            clear x0 x1 x2 x3 x4 x5 x6
            refine (pCurMay_any q Q _ PQ.out).mono ?_
            rintro e W13 ⟨rfl, hb⟩
            replace B := Hid.of (B.out.trans (hb.mono B.out.size))
            replace KP := Hid.of (KP.out.below hb KP.out.lt)
            replace KQ := Hid.of (KQ.out.below hb KQ.out.lt)
            replace PQ := Hid.of (PQ.out.below hb (Nat.le_refl _))
            clear hb
            rw [HMQ.out]
            go_wp2_with fail
            go_ret
            exact ⟨rfl, B.out⟩
          | true =>
            have e5 : s6 = true := I3.out rfl
            subst e5
            obtain ⟨x0, x1, x2, x3, x4, x5, x6⟩ := ptcell_at KP.out
            go_wp2_with fail
            clear x0 x1 x2 x3 x4 x5 x6
            refine (pCurMay_any p P _ (h.out.below B.out (Nat.le_refl _))).mono ?_
            rintro e W12 ⟨rfl, hb⟩
            replace B := Hid.of (B.out.trans (hb.mono B.out.size))
            replace KP := Hid.of (KP.out.below hb KP.out.lt)
            replace KQ := Hid.of (KQ.out.below hb KQ.out.lt)
            replace PQ := Hid.of (PQ.out.below hb (Nat.le_refl _))
            clear hb
            rw [HMP.out]
            obtain ⟨x0, x1, x2, x3, x4, x5, x6⟩ := ptcell_at KQ.out
            go_wp2_with fail
            clear x0 x1 x2 x3 x4 x5 x6
            refine (pCurMay_any q Q _ PQ.out).mono ?_
            rintro e W13 ⟨rfl, hb⟩
            replace B := Hid.of (B.out.trans (hb.mono B.out.size))
            replace KP := Hid.of (KP.out.below hb KP.out.lt)
            replace KQ := Hid.of (KQ.out.below hb KQ.out.lt)
            replace PQ := Hid.of (PQ.out.below hb (Nat.le_refl _))
            clear hb
            rw [HMQ.out]
            go_wp2_with fail
            go_ret
            exact ⟨rfl, B.out⟩
        | true =>
          have e3 : s4 = true := I2.out rfl
          subst e3
          cases s5 with
          | false =>
            obtain ⟨x0, x1, x2, x3, x4, x5, x6⟩ := ptcell_at KP.out
            go_wp2_with fail
            clear x0 x1 x2 x3 x4 x5 x6
            refine (pCurMay_any p P _ (h.out.below B.out (Nat.le_refl _))).mono ?_
            rintro e W12 ⟨rfl, hb⟩
            replace B := Hid.of (B.out.trans (hb.mono B.out.size))
            replace KP := Hid.of (KP.out.below hb KP.out.lt)
            replace KQ := Hid.of (KQ.out.below hb KQ.out.lt)
            replace PQ := Hid.of (PQ.out.below hb (Nat.le_refl _))
            clear hb
            rw [HMP.out]
            obtain ⟨x0, x1, x2, x3, x4, x5, x6⟩ := ptcell_at KQ.out
            go_wp2_with fail
            clear x0 x1 x2 x3 x4 x5 x6
            refine (pCurMay_any q Q _ PQ.out).mono ?_
            rintro e W13 ⟨rfl, hb⟩
            replace B := Hid.of (B.out.trans (hb.mono B.out.size))
            replace KP := Hid.of (KP.out.below hb KP.out.lt)
            replace KQ := Hid.of (KQ.out.below hb KQ.out.lt)
            replace PQ := Hid.of (PQ.out.below hb (Nat.le_refl _))
            clear hb
            rw [HMQ.out]
            go_wp2_with fail
            go_ret
            exact ⟨rfl, B.out⟩
          | true =>
            have e5 : s6 = true := I3.out rfl
            subst e5
            obtain ⟨x0, x1, x2, x3, x4, x5, x6⟩ := ptcell_at KP.out
            go_wp2_with fail
            clear x0 x1 x2 x3 x4 x5 x6
            refine (pCurMay_any p P _ (h.out.below B.out (Nat.le_refl _))).mono ?_
            rintro e W12 ⟨rfl, hb⟩
            replace B := Hid.of (B.out.trans (hb.mono B.out.size))
            replace KP := Hid.of (KP.out.below hb KP.out.lt)
            replace KQ := Hid.of (KQ.out.below hb KQ.out.lt)
            replace PQ := Hid.of (PQ.out.below hb (Nat.le_refl _))
            clear hb
            rw [HMP.out]
            obtain ⟨x0, x1, x2, x3, x4, x5, x6⟩ := ptcell_at KQ.out
            go_wp2_with fail
            clear x0 x1 x2 x3 x4 x5 x6
            refine (pCurMay_any q Q _ PQ.out).mono ?_
            rintro e W13 ⟨rfl, hb⟩
            replace B := Hid.of (B.out.trans (hb.mono B.out.size))
            replace KP := Hid.of (KP.out.below hb KP.out.lt)
            replace KQ := Hid.of (KQ.out.below hb KQ.out.lt)
            replace PQ := Hid.of (PQ.out.below hb (Nat.le_refl _))
            clear hb
            rw [HMQ.out]
            go_wp2_with fail
            go_ret
            exact ⟨rfl, B.out⟩
      | true =>
        have e1 : s2 = true := I1.out rfl
        subst e1
        cases s3 with
        | false =>
          cases s5 with
          | false =>
            obtain ⟨x0, x1, x2, x3, x4, x5, x6⟩ := ptcell_at KP.out
            go_wp2_with fail
            clear x0 x1 x2 x3 x4 x5 x6
            refine (pCurMay_any p P _ (h.out.below B.out (Nat.le_refl _))).mono ?_
            rintro e W12 ⟨rfl, hb⟩
            replace B := Hid.of (B.out.trans (hb.mono B.out.size))
            replace KP := Hid.of (KP.out.below hb KP.out.lt)
            replace KQ := Hid.of (KQ.out.below hb KQ.out.lt)
            replace PQ := Hid.of (PQ.out.below hb (Nat.le_refl _))
            clear hb
            rw [HMP.out]
            obtain ⟨x0, x1, x2, x3, x4, x5, x6⟩ := ptcell_at KQ.out
            go_wp2_with fail
            clear x0 x1 x2 x3 x4 x5 x6
            refine (pCurMay_any q Q _ PQ.out).mono ?_
            rintro e W13 ⟨rfl, hb⟩
            replace B := Hid.of (B.out.trans (hb.mono B.out.size))
            replace KP := Hid.of (KP.out.below hb KP.out.lt)
            replace KQ := Hid.of (KQ.out.below hb KQ.out.lt)
            replace PQ := Hid.of (PQ.out.below hb (Nat.le_refl _))
            clear hb
            rw [HMQ.out]
            go_wp2_with fail
            go_ret
            exact ⟨rfl, B.out⟩
          | true =>
            have e5 : s6 = true := I3.out rfl
            subst e5
            obtain ⟨x0, x1, x2, x3, x4, x5, x6⟩ := ptcell_at KP.out
            go_wp2_with fail
            clear x0 x1 x2 x3 x4 x5 x6
            refine (pCurMay_any p P _ (h.out.below B.out (Nat.le_refl _))).mono ?_
            rintro e W12 ⟨rfl, hb⟩
            replace B := Hid.of (B.out.trans (hb.mono B.out.size))
            replace KP := Hid.of (KP.out.below hb KP.out.lt)
            replace KQ := Hid.of (KQ.out.below hb KQ.out.lt)
            replace PQ := Hid.of (PQ.out.below hb (Nat.le_refl _))
            clear hb
            rw [HMP.out]
            obtain ⟨x0, x1, x2, x3, x4, x5, x6⟩ := ptcell_at KQ.out
            go_wp2_with fail
            clear x0 x1 x2 x3 x4 x5 x6
            refine (pCurMay_any q Q _ PQ.out).mono ?_
            rintro e W13 ⟨rfl, hb⟩
            replace B := Hid.of (B.out.trans (hb.mono B.out.size))
            replace KP := Hid.of (KP.out.below hb KP.out.lt)
            replace KQ := Hid.of (KQ.out.below hb KQ.out.lt)
            replace PQ := Hid.of (PQ.out.below hb (Nat.le_refl _))
            clear hb
            rw [HMQ.out]
            go_wp2_with fail
            go_ret
            exact ⟨rfl, B.out⟩
        | true =>
          have e3 : s4 = true := I2.out rfl
          subst e3
          cases s5 with
          | false =>
            obtain ⟨x0, x1, x2, x3, x4, x5, x6⟩ := ptcell_at KP.out
            go_wp2_with fail
            clear x0 x1 x2 x3 x4 x5 x6
            refine (pCurMay_any p P _ (h.out.below B.out (Nat.le_refl _))).mono ?_
            rintro e W12 ⟨rfl, hb⟩
            replace B := Hid.of (B.out.trans (hb.mono B.out.size))
            replace KP := Hid.of (KP.out.below hb KP.out.lt)
            replace KQ := Hid.of (KQ.out.below hb KQ.out.lt)
            replace PQ := Hid.of (PQ.out.below hb (Nat.le_refl _))
            clear hb
            rw [HMP.out]
            obtain ⟨x0, x1, x2, x3, x4, x5, x6⟩ := ptcell_at KQ.out
            go_wp2_with fail
            clear x0 x1 x2 x3 x4 x5 x6
            refine (pCurMay_any q Q _ PQ.out).mono ?_
            rintro e W13 ⟨rfl, hb⟩
            replace B := Hid.of (B.out.trans (hb.mono B.out.size))
            replace KP := Hid.of (KP.out.below hb KP.out.lt)
            replace KQ := Hid.of (KQ.out.below hb KQ.out.lt)
            replace PQ := Hid.of (PQ.out.below hb (Nat.le_refl _))
            clear hb
            rw [HMQ.out]
            go_wp2_with fail
            go_ret
            exact ⟨rfl, B.out⟩
          | true =>
            have e5 : s6 = true := I3.out rfl
            subst e5
            obtain ⟨x0, x1, x2, x3, x4, x5, x6⟩ := ptcell_at KP.out
            go_wp2_with fail
            clear x0 x1 x2 x3 x4 x5 x6
            refine (pCurMay_any p P _ (h.out.below B.out (Nat.le_refl _))).mono ?_
            rintro e W12 ⟨rfl, hb⟩
            replace B := Hid.of (B.out.trans (hb.mono B.out.size))
            replace KP := Hid.of (KP.out.below hb KP.out.lt)
            replace KQ := Hid.of (KQ.out.below hb KQ.out.lt)
            replace PQ := Hid.of (PQ.out.below hb (Nat.le_refl _))
            clear hb
            rw [HMP.out]
            obtain ⟨x0, x1, x2, x3, x4, x5, x6⟩ := ptcell_at KQ.out
            go_wp2_with fail
            clear x0 x1 x2 x3 x4 x5 x6
            refine (pCurMay_any q Q _ PQ.out).mono ?_
            rintro e W13 ⟨rfl, hb⟩
            replace B := Hid.of (B.out.trans (hb.mono B.out.size))
            replace KP := Hid.of (KP.out.below hb KP.out.lt)
            replace KQ := Hid.of (KQ.out.below hb KQ.out.lt)
            replace PQ := Hid.of (PQ.out.below hb (Nat.le_refl _))
            clear hb
            rw [HMQ.out]
            go_wp2_with fail
            go_ret
            exact ⟨rfl, B.out⟩

end Go.Proofs.YtmimjpkllgjdkaaDoor
