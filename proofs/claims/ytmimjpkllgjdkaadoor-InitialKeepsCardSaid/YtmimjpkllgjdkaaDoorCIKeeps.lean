/-
  The walk of the law InitialKeeps.
-/
import Derived.Test.YtmimjpkllgjdkaaDoorCPIni
import Derived.Test.YtmimjpkllgjdkaaDoorG33
import Derived.Test.YtmimjpkllgjdkaaDoorCKLess
namespace Go.Proofs.YtmimjpkllgjdkaaDoor
open Go.RowKit
set_option linter.unusedVariables false

set_option maxRecDepth 100000 in
set_option maxHeartbeats 8000000 in
theorem ikeeps_any (p : Plant) (P : PTL) (wa : Option Addr) (wc : Nat) (word : List Int) (w : World) (hT : Hid (Tab w)) (h : Hid (PAt w p P)) (hw : Hid (At w wa word)) (hwl : Hid (word.length ≤ 17592186044416)) :
    Calls Tryd.prog 9 #[ptval p P, .slice wa word.length wc] w fun e w' => e = .returned (.bool true) ∧ Below w.heap.size w w' := by
  have B : Hid (Below w.heap.size w (w.alloc (.cells (ptcells p P) 44))) := (Below.refl _ _).alloc (Nat.le_refl _) _
  have KP : Hid (Blk (w.alloc (.cells (ptcells p P) 44)) w.heap.size 44 (ptcells p P)) := Blk.new w _ _
  go_enter Tryd.func9, Tryd.ntmps9
  go_wp2_with fail
  revert B KP
  generalize (w.alloc (.cells (ptcells p P) 44)) = V0
  intro B KP
  obtain ⟨lb, lw, lc, lH⟩ : ∃ b l c, Hid (leakOut p (outI p) = (b, l, c)) := ⟨_, _, _, rfl⟩
  refine (pLeakI_any p P _ (h.out.below B.out (Nat.le_refl _)) (hT.out.below B.out hT.out.lt)).mono ?_
  intro e W1 hp
  unfold LeakPost at hp
  rw [lH.out] at hp
  dsimp only at hp
  obtain ⟨la, lk, rfl, lat, lln, hb⟩ := hp
  replace B := Hid.of (B.out.trans (hb.mono B.out.size))
  replace KP := Hid.of (KP.out.below hb KP.out.lt)
  clear hb
  have lA := Hid.of lat
  have lL := Hid.of lln
  clear lat lln
  cases hmp : mayP p with
  | false =>
    have q2 := lH.out
    rw [leakOut_bad hmp] at q2
    cases q2
    have HMP := Hid.of hmp
    clear hmp
    obtain ⟨x0, x1, x2, x3, x4, x5, x6⟩ := ptcell_at KP.out
    go_wp2_with fail
    clear x0 x1 x2 x3 x4 x5 x6
    refine (pCurMay_any p P _ (h.out.below B.out (Nat.le_refl _))).mono ?_
    rintro e W2 ⟨rfl, hb⟩
    replace B := Hid.of (B.out.trans (hb.mono B.out.size))
    replace KP := Hid.of (KP.out.below hb KP.out.lt)
    replace lA := Hid.of (lA.out.below hb (Nat.le_refl _))
    clear hb
    rw [HMP.out]
    go_wp2_with fail
    go_ret
    exact ⟨rfl, B.out⟩
  | true =>
    have HMP := Hid.of hmp
    have q2 := lH.out
    rw [leakOut_ok hmp] at q2
    clear hmp
    obtain ⟨rfl, rfl, rfl⟩ : lb = (outI p).isSome ∧ lw = (outI p).getD [] ∧ lc = 0 := by cases q2; exact ⟨rfl, rfl, rfl⟩
    clear q2 lH
    have HNONE : Hid (outI p = none → inSeen p.seen word = true → leakB p.secret (beganL p word) = false) := fun e hs => outI_none HMP.out e word ((inSeen_iff _ _).1 hs)
    have HSOME : Hid (∀ v, outI p = some v → leakB p.secret (beganL p v) = true ∧ inSeen p.seen v = true ∧ (inSeen p.seen word = true → leakB p.secret (beganL p word) = true → lessB word v = false)) := fun v e => by
      obtain ⟨q1, q2, -, q4⟩ := outI_some HMP.out e
      exact ⟨q1, (inSeen_iff _ _).2 q2, fun hs hl => q4 word ((inSeen_iff _ _).1 hs) hl⟩
    have HEM : Hid (inSeen p.seen [] = true) := (inSeen_iff _ _).2 (by simp)
    obtain ⟨x0, x1, x2, x3, x4, x5, x6⟩ := ptcell_at KP.out
    go_wp2_with fail
    clear x0 x1 x2 x3 x4 x5 x6
    refine (pCurMay_any p P _ (h.out.below B.out (Nat.le_refl _))).mono ?_
    rintro e W2 ⟨rfl, hb⟩
    replace B := Hid.of (B.out.trans (hb.mono B.out.size))
    replace KP := Hid.of (KP.out.below hb KP.out.lt)
    replace lA := Hid.of (lA.out.below hb (Nat.le_refl _))
    clear hb
    rw [HMP.out]
    obtain ⟨x0, x1, x2, x3, x4, x5, x6⟩ := ptcell_at KP.out
    go_wp2_with fail
    clear x0 x1 x2 x3 x4 x5 x6
    obtain ⟨el, ec, eH⟩ : ∃ l c, Hid (begOut p word = (l, c)) := ⟨_, _, rfl⟩
    refine (pBeg_any p P wa wc word _ (h.out.below B.out (Nat.le_refl _)) (hw.out.below B.out (Nat.le_refl _)) (Nat.le_trans hwl.out (by decide)) (hT.out.below B.out hT.out.lt)).mono ?_
    intro e W3 hp
    unfold ListPost at hp
    rw [eH.out] at hp
    dsimp only at hp
    obtain ⟨ea, ek, rfl, eat, eln, hb⟩ := hp
    replace B := Hid.of (B.out.trans (hb.mono B.out.size))
    replace KP := Hid.of (KP.out.below hb KP.out.lt)
    replace lA := Hid.of (lA.out.below hb (Nat.le_refl _))
    clear hb
    have eA := Hid.of eat
    have eL := Hid.of eln
    clear eat eln
    cases ho : outI p with
    | none =>
      have HON := Hid.of ho
      rw [ho] at lA lL
      obtain ⟨vv, HVV⟩ : ∃ vv : List Int, Hid (vv = []) := ⟨_, rfl⟩
      have HVS : Hid (inSeen p.seen vv = true) := by show _ = _; rw [HVV.out]; exact HEM.out
      replace lA : Hid (At W3 la vv) := by show At _ _ _; rw [HVV.out]; exact lA.out
      replace lL : Hid (vv.length ≤ maxLen) := by show _ ≤ _; rw [HVV.out]; exact lL.out
      have hvl : vv.length = 0 := by rw [HVV.out]; rfl
      clear ho
      rw [show (((none : Option (List Int)).getD []).length : Nat) = vv.length from hvl.symm]
      have HVLN := Hid.of hvl
      clear hvl
      cases hsw : inSeen p.seen word with
      | false =>
        have q1 := eH.out
        rw [begOut_out HMP.out hsw] at q1
        cases q1
        clear hsw eH
        obtain ⟨x0, x1, x2, x3, x4, x5, x6⟩ := ptcell_at KP.out
        go_wp2_with fail
        clear x0 x1 x2 x3 x4 x5 x6
        refine (pBeg_any p P la lk vv _ (h.out.below B.out (Nat.le_refl _)) lA.out lL.out (hT.out.below B.out hT.out.lt)).mono ?_
        intro e W6 hp
        unfold ListPost at hp
        rw [begOut_ok HMP.out HVS.out] at hp
        dsimp only at hp
        obtain ⟨ka, kk, rfl, kat, kln, hb⟩ := hp
        replace B := Hid.of (B.out.trans (hb.mono B.out.size))
        replace KP := Hid.of (KP.out.below hb KP.out.lt)
        replace lA := Hid.of (lA.out.below hb (Nat.le_refl _))
        replace eA := Hid.of (eA.out.below hb (Nat.le_refl _))
        clear hb
        have kA := Hid.of kat
        have kL := Hid.of kln
        clear kat kln
        obtain ⟨ev, HEV⟩ : ∃ ev, Hid (ev = beganL p vv) := ⟨_, rfl⟩
        rw [← HEV.out] at kA kL ⊢
        go_wp2_with fail
        go_ret
        exact ⟨rfl, B.out⟩
      | true =>
        have q1 := eH.out
        rw [begOut_ok HMP.out hsw] at q1
        obtain ⟨rfl, rfl⟩ : el = beganL p word ∧ ec = 0 := by cases q1; exact ⟨rfl, rfl⟩
        have HLK := Hid.of (HNONE.out HON.out hsw)
        clear q1 hsw eH
        obtain ⟨es, HES⟩ : ∃ es, Hid (es = beganL p word) := ⟨_, rfl⟩
        rw [← HES.out] at eA eL HLK ⊢
        have K1 := Hid.of (ktells_any ea P.ta ek P.tc es p.secret _ eA.out eL.out (h.out.t.at_.below B.out (Nat.le_refl _)) h.out.t.len)
        rw [HLK.out] at K1
        obtain ⟨x0, x1, x2, x3, x4, x5, x6⟩ := ptcell_at KP.out
        go_wp2_with fail
        clear x0 x1 x2 x3 x4 x5 x6
        refine K1.out.mono ?_
        rintro e W4 ⟨rfl, hw4⟩
        subst hw4
        obtain ⟨x0, x1, x2, x3, x4, x5, x6⟩ := ptcell_at KP.out
        go_wp2_with fail
        clear x0 x1 x2 x3 x4 x5 x6
        refine (pBeg_any p P la lk vv _ (h.out.below B.out (Nat.le_refl _)) lA.out lL.out (hT.out.below B.out hT.out.lt)).mono ?_
        intro e W6 hp
        unfold ListPost at hp
        rw [begOut_ok HMP.out HVS.out] at hp
        dsimp only at hp
        obtain ⟨ka, kk, rfl, kat, kln, hb⟩ := hp
        replace B := Hid.of (B.out.trans (hb.mono B.out.size))
        replace KP := Hid.of (KP.out.below hb KP.out.lt)
        replace lA := Hid.of (lA.out.below hb (Nat.le_refl _))
        replace eA := Hid.of (eA.out.below hb (Nat.le_refl _))
        clear hb
        have kA := Hid.of kat
        have kL := Hid.of kln
        clear kat kln
        obtain ⟨ev, HEV⟩ : ∃ ev, Hid (ev = beganL p vv) := ⟨_, rfl⟩
        rw [← HEV.out] at kA kL ⊢
        go_wp2_with fail
        go_ret
        exact ⟨rfl, B.out⟩
    | some vv =>
      obtain ⟨q5, q6, q7⟩ := HSOME.out vv ho
      have HVL := Hid.of q5
      have HVS := Hid.of q6
      have HV7 := Hid.of q7
      rw [ho] at lA lL
      replace lA : Hid (At W3 la vv) := lA.out
      replace lL : Hid (vv.length ≤ maxLen) := lL.out
      clear ho q5 q6 q7
      rw [Option.isSome_some, Option.getD_some]
      cases hsw : inSeen p.seen word with
      | false =>
        have q1 := eH.out
        rw [begOut_out HMP.out hsw] at q1
        cases q1
        clear hsw eH
        obtain ⟨x0, x1, x2, x3, x4, x5, x6⟩ := ptcell_at KP.out
        go_wp2_with fail
        clear x0 x1 x2 x3 x4 x5 x6
        refine (pBeg_any p P la lk vv _ (h.out.below B.out (Nat.le_refl _)) lA.out lL.out (hT.out.below B.out hT.out.lt)).mono ?_
        intro e W6 hp
        unfold ListPost at hp
        rw [begOut_ok HMP.out HVS.out] at hp
        dsimp only at hp
        obtain ⟨ka, kk, rfl, kat, kln, hb⟩ := hp
        replace B := Hid.of (B.out.trans (hb.mono B.out.size))
        replace KP := Hid.of (KP.out.below hb KP.out.lt)
        replace lA := Hid.of (lA.out.below hb (Nat.le_refl _))
        replace eA := Hid.of (eA.out.below hb (Nat.le_refl _))
        clear hb
        have kA := Hid.of kat
        have kL := Hid.of kln
        clear kat kln
        obtain ⟨ev, HEV⟩ : ∃ ev, Hid (ev = beganL p vv) := ⟨_, rfl⟩
        rw [← HEV.out] at kA kL ⊢
        have KT : Hid (leakB p.secret ev = true) := by show _ = _; rw [HEV.out]; exact HVL.out
        have K2 := Hid.of (ktells_any ka P.ta kk P.tc ev p.secret _ kA.out kL.out (h.out.t.at_.below B.out (Nat.le_refl _)) h.out.t.len)
        rw [KT.out] at K2
        obtain ⟨x0, x1, x2, x3, x4, x5, x6⟩ := ptcell_at KP.out
        go_wp2_with fail
        clear x0 x1 x2 x3 x4 x5 x6
        refine K2.out.mono ?_
        rintro e W7 ⟨rfl, hw7⟩
        subst hw7
        go_wp2_with fail
        go_ret
        exact ⟨rfl, B.out⟩
      | true =>
        have q1 := eH.out
        rw [begOut_ok HMP.out hsw] at q1
        obtain ⟨rfl, rfl⟩ : el = beganL p word ∧ ec = 0 := by cases q1; exact ⟨rfl, rfl⟩
        have HV8 : Hid (leakB p.secret (beganL p word) = true → lessB word vv = false) := HV7.out hsw
        clear q1 hsw eH
        obtain ⟨es, HES⟩ : ∃ es, Hid (es = beganL p word) := ⟨_, rfl⟩
        rw [← HES.out] at eA eL HV8 ⊢
        have K1 := Hid.of (ktells_any ea P.ta ek P.tc es p.secret _ eA.out eL.out (h.out.t.at_.below B.out (Nat.le_refl _)) h.out.t.len)
        cases hlk : leakB p.secret es with
        | false =>
          rw [hlk] at K1
          clear hlk
          obtain ⟨x0, x1, x2, x3, x4, x5, x6⟩ := ptcell_at KP.out
          go_wp2_with fail
          clear x0 x1 x2 x3 x4 x5 x6
          refine K1.out.mono ?_
          rintro e W4 ⟨rfl, hw4⟩
          subst hw4
          obtain ⟨x0, x1, x2, x3, x4, x5, x6⟩ := ptcell_at KP.out
          go_wp2_with fail
          clear x0 x1 x2 x3 x4 x5 x6
          refine (pBeg_any p P la lk vv _ (h.out.below B.out (Nat.le_refl _)) lA.out lL.out (hT.out.below B.out hT.out.lt)).mono ?_
          intro e W6 hp
          unfold ListPost at hp
          rw [begOut_ok HMP.out HVS.out] at hp
          dsimp only at hp
          obtain ⟨ka, kk, rfl, kat, kln, hb⟩ := hp
          replace B := Hid.of (B.out.trans (hb.mono B.out.size))
          replace KP := Hid.of (KP.out.below hb KP.out.lt)
          replace lA := Hid.of (lA.out.below hb (Nat.le_refl _))
          replace eA := Hid.of (eA.out.below hb (Nat.le_refl _))
          clear hb
          have kA := Hid.of kat
          have kL := Hid.of kln
          clear kat kln
          obtain ⟨ev, HEV⟩ : ∃ ev, Hid (ev = beganL p vv) := ⟨_, rfl⟩
          rw [← HEV.out] at kA kL ⊢
          have KT : Hid (leakB p.secret ev = true) := by show _ = _; rw [HEV.out]; exact HVL.out
          have K2 := Hid.of (ktells_any ka P.ta kk P.tc ev p.secret _ kA.out kL.out (h.out.t.at_.below B.out (Nat.le_refl _)) h.out.t.len)
          rw [KT.out] at K2
          obtain ⟨x0, x1, x2, x3, x4, x5, x6⟩ := ptcell_at KP.out
          go_wp2_with fail
          clear x0 x1 x2 x3 x4 x5 x6
          refine K2.out.mono ?_
          rintro e W7 ⟨rfl, hw7⟩
          subst hw7
          go_wp2_with fail
          go_ret
          exact ⟨rfl, B.out⟩
        | true =>
          have HLS := Hid.of (HV8.out hlk)
          rw [hlk] at K1
          clear hlk
          obtain ⟨x0, x1, x2, x3, x4, x5, x6⟩ := ptcell_at KP.out
          go_wp2_with fail
          clear x0 x1 x2 x3 x4 x5 x6
          refine K1.out.mono ?_
          rintro e W4 ⟨rfl, hw4⟩
          subst hw4
          have K3 := Hid.of (lesser_any wa la wc lk word vv _ (hw.out.below B.out (Nat.le_refl _)) lA.out (Nat.le_trans hwl.out (by decide)) lL.out)
          rw [HLS.out] at K3
          go_wp2_with fail
          refine K3.out.mono ?_
          rintro e W5 ⟨rfl, qd, hqd⟩
          have hb : Below W4.heap.size W4 W5 := by rw [hqd]; exact below_drewN (Below.refl _ _) qd
          replace B := Hid.of (B.out.trans (hb.mono B.out.size))
          replace KP := Hid.of (KP.out.below hb KP.out.lt)
          replace lA := Hid.of (lA.out.below hb (Nat.le_refl _))
          replace eA := Hid.of (eA.out.below hb (Nat.le_refl _))
          clear hb
          clear hqd K3 K1
          obtain ⟨x0, x1, x2, x3, x4, x5, x6⟩ := ptcell_at KP.out
          go_wp2_with fail
          clear x0 x1 x2 x3 x4 x5 x6
          refine (pBeg_any p P la lk vv _ (h.out.below B.out (Nat.le_refl _)) lA.out lL.out (hT.out.below B.out hT.out.lt)).mono ?_
          intro e W6 hp
          unfold ListPost at hp
          rw [begOut_ok HMP.out HVS.out] at hp
          dsimp only at hp
          obtain ⟨ka, kk, rfl, kat, kln, hb⟩ := hp
          replace B := Hid.of (B.out.trans (hb.mono B.out.size))
          replace KP := Hid.of (KP.out.below hb KP.out.lt)
          replace lA := Hid.of (lA.out.below hb (Nat.le_refl _))
          replace eA := Hid.of (eA.out.below hb (Nat.le_refl _))
          clear hb
          have kA := Hid.of kat
          have kL := Hid.of kln
          clear kat kln
          obtain ⟨ev, HEV⟩ : ∃ ev, Hid (ev = beganL p vv) := ⟨_, rfl⟩
          rw [← HEV.out] at kA kL ⊢
          have KT : Hid (leakB p.secret ev = true) := by show _ = _; rw [HEV.out]; exact HVL.out
          have K2 := Hid.of (ktells_any ka P.ta kk P.tc ev p.secret _ kA.out kL.out (h.out.t.at_.below B.out (Nat.le_refl _)) h.out.t.len)
          rw [KT.out] at K2
          obtain ⟨x0, x1, x2, x3, x4, x5, x6⟩ := ptcell_at KP.out
          go_wp2_with fail
          clear x0 x1 x2 x3 x4 x5 x6
          refine K2.out.mono ?_
          rintro e W7 ⟨rfl, hw7⟩
          subst hw7
          go_wp2_with fail
          go_ret
          exact ⟨rfl, B.out⟩

end Go.Proofs.YtmimjpkllgjdkaaDoor
