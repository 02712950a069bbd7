/-
  The walk of the law DetermineSame.
-/
import Derived.Test.YtcjcjaeaoianfaaDoorG25
import Derived.Test.YtcjcjaeaoianfaaDoorG28
namespace Go.Proofs.YtcjcjaeaoianfaaDoor
open Go.RowKit
set_option linter.unusedVariables false

theorem wordB_no {ev : Int} {word : List Int} (h : ¬ wordB ev word = true) : wordB ev word = false := by simpa using h

set_option maxRecDepth 100000 in
set_option maxHeartbeats 4000000 in
theorem dsame_err (m : Mach) (l : ML) (wa : Option Addr) (wc : Nat) (word : List Int) (w : World) (hT : Hid (Tab w)) (h : Hid (MAt w m l)) (c : Int) (hc : c = 1 ∨ c = 2) (hd : Hid (detOut m = (m0, [], c))) :
    Calls Tryd.prog 10 #[mval m l, .slice wa word.length wc] w fun e w' => e = .returned (.bool true) ∧ Below w.heap.size w w' := by
  have hc0 : (c != 0) = true := by rw [bne_iff_ne]; omega
  clear hc
  have B0 : Hid (Below w.heap.size w (w.alloc (.cells (mcells m l) 25))) := (Below.refl _ _).alloc (Nat.le_refl _) _
  go_enter Tryd.func10, Tryd.ntmps10
  go_wp2_with fail
  revert B0
  generalize w.alloc (.cells (mcells m l) 25) = V0
  intro B0
  refine (dMake_any m l _ (h.out.below B0.out (Nat.le_refl _)) (hT.out.below B0.out hT.out.lt)).mono ?_
  intro e w1 hp
  unfold MakePost at hp
  rw [hd.out] at hp
  obtain ⟨L, va, vc, rfl, -, -, -, hb1⟩ := hp
  have B1 := Hid.of (B0.out.trans (hb1.mono B0.out.size))
  have B2 := Hid.of (B1.out.alloc B1.out.size (.cells (mcells m0 L) 25))
  clear hb1 B0
  go_wp2
  go_ret
  exact ⟨rfl, B2.out⟩

set_option maxRecDepth 100000 in
set_option maxHeartbeats 8000000 in
theorem dsame_yes (m : Mach) (l : ML) (wa : Option Addr) (wc : Nat) (word : List Int) (w : World) (hT : Hid (Tab w)) (h : Hid (MAt w m l)) (hw : Hid (At w wa word)) (hwl : Hid (word.length ≤ maxLen)) (hm : Hid (mayB m = true)) (s : DS) (hd : Hid (detS m = some s)) (hwd : Hid (wordB m.ev word = true)) :
    Calls Tryd.prog 10 #[mval m l, .slice wa word.length wc] w fun e w' => e = .returned (.bool true) ∧ Below w.heap.size w w' := by
  have HDO := Hid.of (detOut_some hm.out hd.out)
  have HMD := Hid.of (may_det hm.out hd.out)
  have HDD := Hid.of (det_det hm.out hd.out)
  have H256 := Hid.of (detS_di hm.out hd.out).2
  have HEV : Hid ((detM m s).ev = m.ev) := rfl
  have HACC := Hid.of (det_accepts hm.out hd.out hwd.out)
  obtain ⟨t, ht1, ht2⟩ := det_after hm.out hd.out word hwd.out (detS_di hm.out hd.out).1.hd
  have HT1 : Hid (afterL (detM m s).arrows (detM m s).starts word = [(t : Int)]) := ht1
  have HT2 := Hid.of ht2
  clear ht1 ht2
  have HST : Hid ((((s.sets.length : Nat) : Int) != (detM m s).st) = false) := by
    show ((s.sets.length : Int) != (s.sets.length : Int)) = false
    simp
  have B0 : Hid (Below w.heap.size w (w.alloc (.cells (mcells m l) 25))) := (Below.refl _ _).alloc (Nat.le_refl _) _
  have K0 : Hid (Blk (w.alloc (.cells (mcells m l) 25)) w.heap.size 25 (mcells m l)) := Blk.new w _ _
  go_enter Tryd.func10, Tryd.ntmps10
  go_wp2_with fail
  revert B0 K0
  generalize w.alloc (.cells (mcells m l) 25) = V0
  intro B0 K0
  refine (dMake_any m l _ (h.out.below B0.out (Nat.le_refl _)) (hT.out.below B0.out hT.out.lt)).mono ?_
  intro e w1 hp
  unfold MakePost at hp
  rw [HDO.out] at hp
  dsimp only at hp
  obtain ⟨L, va, vc, rfl, mt1, at1, -, hb1⟩ := hp
  obtain ⟨M, HM⟩ : ∃ M, Hid (M = detM m s) := ⟨_, rfl⟩
  rw [← HM.out] at mt1 HMD HDD HEV HACC HT1 HST ⊢
  have B1 := Hid.of (B0.out.trans (hb1.mono B0.out.size))
  have b2 : Below w1.heap.size w1 (w1.alloc (.cells (mcells M L) 25)) := (Below.refl _ _).alloc (Nat.le_refl _) _
  have B2 := Hid.of (B1.out.trans (b2.mono B1.out.size))
  have K2 := Hid.of ((K0.out.below hb1 K0.out.lt).below b2 (K0.out.below hb1 K0.out.lt).lt)
  have N2 := Hid.of (Blk.new w1 25 (mcells M L))
  have MT2 := Hid.of (mt1.below b2 (Nat.le_refl _))
  have AT2 := Hid.of (at1.below b2 (Nat.le_refl _))
  clear hb1 b2 mt1 at1 B0 K0 B1
  have hst := HST.out
  go_wp2_with fail
  revert B2 K2 N2 MT2 AT2
  show Hid (Below w.heap.size w (w1.alloc (.cells #[.int .i64 M.st, .int .i64 M.ev, .slice L.a1 M.starts.length L.c1, .slice L.a2 M.arrows.length L.c2, .slice L.a3 M.ends.length L.c3] 25))) → _
  generalize w1.alloc (.cells #[.int .i64 M.st, .int .i64 M.ev, .slice L.a1 M.starts.length L.c1, .slice L.a2 M.arrows.length L.c2, .slice L.a3 M.ends.length L.c3] 25) = w2
  intro B2 K2 N2 MT2 AT2
  obtain ⟨bd, hbd⟩ : ∃ bd, Hid (bd = w1.heap.size) := ⟨_, rfl⟩
  rw [← hbd.out] at N2 ⊢
  refine (detIs_any M L _ MT2).mono ?_
  rintro e w3 ⟨rfl, hb3⟩
  rw [HDD.out]
  have B3 := Hid.of (B2.out.trans (hb3.mono B2.out.size))
  have K3 := Hid.of (K2.out.below hb3 K2.out.lt)
  have N3 := Hid.of (N2.out.below hb3 N2.out.lt)
  have MT3 := Hid.of (MT2.out.below hb3 (Nat.le_refl _))
  have AT3 := Hid.of (AT2.out.below hb3 (Nat.le_refl _))
  clear hb3 B2 K2 N2 MT2 AT2
  obtain ⟨x0, x1, x2, x3, x4⟩ := mcell_at K3.out
  obtain ⟨y0, y1, y2, y3, y4⟩ := mcell_at N3.out
  go_wp2_with fail
  clear hst
  refine (accepts_yes m l wa wc word _ (h.out.below B3.out (Nat.le_refl _)) (hT.out.below B3.out hT.out.lt) hm.out (hw.out.below B3.out (Nat.le_refl _)) hwl.out hwd.out).mono ?_
  rintro e w4 ⟨rfl, hb4⟩
  have B4 := Hid.of (B3.out.trans (hb4.mono B3.out.size))
  have K4 := Hid.of (K3.out.below hb4 K3.out.lt)
  have N4 := Hid.of (N3.out.below hb4 N3.out.lt)
  have MT4 := Hid.of (MT3.out.below hb4 (Nat.le_refl _))
  have AT4 := Hid.of (AT3.out.below hb4 (Nat.le_refl _))
  clear hb4 B3 K3 N3 MT3 AT3 y0 y1 y2 y3 y4 x0 x1 x2 x3 x4
  obtain ⟨y0, y1, y2, y3, y4⟩ := mcell_at N4.out
  go_wp2_with fail
  refine (accepts_yes M L wa wc word _ MT4.out (hT.out.below B4.out hT.out.lt) HMD.out (hw.out.below B4.out (Nat.le_refl _)) hwl.out (by rw [HEV.out]; exact hwd.out)).mono ?_
  rintro e w5 ⟨rfl, hb5⟩
  have B5 := Hid.of (B4.out.trans (hb5.mono B4.out.size))
  have K5 := Hid.of (K4.out.below hb5 K4.out.lt)
  have N5 := Hid.of (N4.out.below hb5 N4.out.lt)
  have MT5 := Hid.of (MT4.out.below hb5 (Nat.le_refl _))
  have AT5 := Hid.of (AT4.out.below hb5 (Nat.le_refl _))
  clear hb5 B4 K4 N4 MT4 AT4 y0 y1 y2 y3 y4
  obtain ⟨y0, y1, y2, y3, y4⟩ := mcell_at N5.out
  go_wp2_with fail
  refine (pAfter_ok M L L.a1 wa L.c1 wc M.starts word _ MT5.out (Hid.of (hT.out.below B5.out hT.out.lt)) HMD (Hid.of MT5.out.s) (Hid.of (Nat.le_trans MT5.out.s1 MT5.out.s2)) (Hid.of (mayB_starts HMD.out)) (Hid.of (hw.out.below B5.out (Nat.le_refl _))) hwl (Hid.of (by rw [HEV.out]; exact hwd.out))).mono ?_
  rintro e w6 ⟨ta, tc, rfl, at6, ln6, hb6⟩
  have B6 := Hid.of (B5.out.trans (hb6.mono B5.out.size))
  have K6 := Hid.of (K5.out.below hb6 K5.out.lt)
  have AT6 := Hid.of (AT5.out.below hb6 (Nat.le_refl _))
  rw [HT1.out] at at6
  rw [HT1.out, HACC.out]
  have TO6 := Hid.of at6
  clear hb6 B5 K5 N5 MT5 AT5 at6 ln6 y0 y1 y2 y3 y4
  have htl : t < s.sets.length := (List.getElem?_eq_some_iff.1 HT2.out).1
  have htI : (t : Int) < (s.sets.length : Int) := by omega
  have ht0 : (0 : Int) ≤ (t : Int) := by omega
  obtain ⟨tb, to, hta, htb, htc⟩ : ∃ b off, ta = some ⟨b, off, none⟩ ∧ b < w6.heap.size ∧ Cells w6 b off [(t : Int)] := by
    rcases TO6.out with h0 | h0
    · cases h0
    · exact h0
  subst hta
  have c0 : w6.cell? ⟨tb, to, none⟩ = some (.int .i64 t) := htc 0 (by simp)
  have HTB := Hid.of htb
  clear htc htb
  obtain ⟨x0, x1, x2, x3, x4⟩ := mcell_at K6.out
  go_wp2_with fail
  refine (pAfter_ok m l l.a1 wa l.c1 wc m.starts word _ (h.out.below B6.out (Nat.le_refl _)) (Hid.of (hT.out.below B6.out hT.out.lt)) hm (Hid.of (h.out.below B6.out (Nat.le_refl _)).s) (Hid.of (Nat.le_trans h.out.s1 h.out.s2)) (Hid.of (mayB_starts hm.out)) (Hid.of (hw.out.below B6.out (Nat.le_refl _))) hwl hwd).mono ?_
  rintro e w7 ⟨xa, xc, rfl, at7, ln7, hb7⟩
  have B7 := Hid.of (B6.out.trans (hb7.mono B6.out.size))
  have AT7 := Hid.of (AT6.out.below hb7 (Nat.le_refl _))
  have c7 := (hb7.cell (p := ⟨tb, to, none⟩) HTB.out).trans c0
  have A7 := Hid.of at7
  have LN7 := Hid.of ln7
  clear hb7 B6 K6 AT6 TO6 c0 at7 ln7 x0 x1 x2 x3 x4
  obtain ⟨lb, lo, hva, hlb, hlc⟩ : ∃ b off, va = some ⟨b, off, none⟩ ∧ b < w7.heap.size ∧ CellsL w7 b off s.sets := by
    rcases AT7.out with h0 | h0
    · rw [h0] at htl; simp at htl
    · exact h0
  subst hva
  obtain ⟨ya, yc, cy, ay, ly⟩ := hlc t _ HT2.out
  have AY := Hid.of ay
  clear hlc hlb ay
  obtain ⟨X, HX⟩ : ∃ X, Hid (X = afterL m.arrows m.starts word) := ⟨_, rfl⟩
  rw [← HX.out] at cy AY ly A7 LN7 ⊢
  go_wp2_with fail
  refine (ksame_any ya xa yc xc X X _ AY.out A7.out ly LN7.out).mono ?_
  rintro e w8 ⟨rfl, q, rfl⟩
  rw [sameB_self]
  go_wp2
  go_ret
  exact ⟨rfl, below_drewN B7.out q⟩

set_option maxRecDepth 100000 in
set_option maxHeartbeats 8000000 in
theorem dsame_no (m : Mach) (l : ML) (wa : Option Addr) (wc : Nat) (word : List Int) (w : World) (hT : Hid (Tab w)) (h : Hid (MAt w m l)) (hw : Hid (At w wa word)) (hwl : Hid (word.length ≤ maxLen)) (hm : Hid (mayB m = true)) (s : DS) (hd : Hid (detS m = some s)) (hwd : Hid (wordB m.ev word = false)) :
    Calls Tryd.prog 10 #[mval m l, .slice wa word.length wc] w fun e w' => e = .returned (.bool true) ∧ Below w.heap.size w w' := by
  have HDO := Hid.of (detOut_some hm.out hd.out)
  have HMD := Hid.of (may_det hm.out hd.out)
  have HDD := Hid.of (det_det hm.out hd.out)
  have H256 := Hid.of (detS_di hm.out hd.out).2
  have HEV : Hid ((detM m s).ev = m.ev) := rfl
  have HST : Hid ((((s.sets.length : Nat) : Int) != (detM m s).st) = false) := by
    show ((s.sets.length : Int) != (s.sets.length : Int)) = false
    simp
  have B0 : Hid (Below w.heap.size w (w.alloc (.cells (mcells m l) 25))) := (Below.refl _ _).alloc (Nat.le_refl _) _
  have K0 : Hid (Blk (w.alloc (.cells (mcells m l) 25)) w.heap.size 25 (mcells m l)) := Blk.new w _ _
  go_enter Tryd.func10, Tryd.ntmps10
  go_wp2_with fail
  revert B0 K0
  generalize w.alloc (.cells (mcells m l) 25) = V0
  intro B0 K0
  refine (dMake_any m l _ (h.out.below B0.out (Nat.le_refl _)) (hT.out.below B0.out hT.out.lt)).mono ?_
  intro e w1 hp
  unfold MakePost at hp
  rw [HDO.out] at hp
  dsimp only at hp
  obtain ⟨L, va, vc, rfl, mt1, at1, -, hb1⟩ := hp
  obtain ⟨M, HM⟩ : ∃ M, Hid (M = detM m s) := ⟨_, rfl⟩
  rw [← HM.out] at mt1 HMD HDD HEV HST ⊢
  have B1 := Hid.of (B0.out.trans (hb1.mono B0.out.size))
  have b2 : Below w1.heap.size w1 (w1.alloc (.cells (mcells M L) 25)) := (Below.refl _ _).alloc (Nat.le_refl _) _
  have B2 := Hid.of (B1.out.trans (b2.mono B1.out.size))
  have K2 := Hid.of ((K0.out.below hb1 K0.out.lt).below b2 (K0.out.below hb1 K0.out.lt).lt)
  have N2 := Hid.of (Blk.new w1 25 (mcells M L))
  have MT2 := Hid.of (mt1.below b2 (Nat.le_refl _))
  have AT2 := Hid.of (at1.below b2 (Nat.le_refl _))
  clear hb1 b2 mt1 at1 B0 K0 B1
  have hst := HST.out
  go_wp2_with fail
  revert B2 K2 N2 MT2 AT2
  show Hid (Below w.heap.size w (w1.alloc (.cells #[.int .i64 M.st, .int .i64 M.ev, .slice L.a1 M.starts.length L.c1, .slice L.a2 M.arrows.length L.c2, .slice L.a3 M.ends.length L.c3] 25))) → _
  generalize w1.alloc (.cells #[.int .i64 M.st, .int .i64 M.ev, .slice L.a1 M.starts.length L.c1, .slice L.a2 M.arrows.length L.c2, .slice L.a3 M.ends.length L.c3] 25) = w2
  intro B2 K2 N2 MT2 AT2
  obtain ⟨bd, hbd⟩ : ∃ bd, Hid (bd = w1.heap.size) := ⟨_, rfl⟩
  rw [← hbd.out] at N2 ⊢
  refine (detIs_any M L _ MT2).mono ?_
  rintro e w3 ⟨rfl, hb3⟩
  rw [HDD.out]
  have B3 := Hid.of (B2.out.trans (hb3.mono B2.out.size))
  have K3 := Hid.of (K2.out.below hb3 K2.out.lt)
  have N3 := Hid.of (N2.out.below hb3 N2.out.lt)
  have MT3 := Hid.of (MT2.out.below hb3 (Nat.le_refl _))
  have AT3 := Hid.of (AT2.out.below hb3 (Nat.le_refl _))
  clear hb3 B2 K2 N2 MT2 AT2
  obtain ⟨x0, x1, x2, x3, x4⟩ := mcell_at K3.out
  obtain ⟨y0, y1, y2, y3, y4⟩ := mcell_at N3.out
  go_wp2_with fail
  clear hst
  refine (accepts_no m l wa wc word _ (h.out.below B3.out (Nat.le_refl _)) hm.out (hw.out.below B3.out (Nat.le_refl _)) hwl.out hwd.out).mono ?_
  rintro e w4 ⟨rfl, hb4⟩
  have B4 := Hid.of (B3.out.trans (hb4.mono B3.out.size))
  have K4 := Hid.of (K3.out.below hb4 K3.out.lt)
  have N4 := Hid.of (N3.out.below hb4 N3.out.lt)
  have MT4 := Hid.of (MT3.out.below hb4 (Nat.le_refl _))
  have AT4 := Hid.of (AT3.out.below hb4 (Nat.le_refl _))
  clear hb4 B3 K3 N3 MT3 AT3 y0 y1 y2 y3 y4 x0 x1 x2 x3 x4
  obtain ⟨y0, y1, y2, y3, y4⟩ := mcell_at N4.out
  go_wp2_with fail
  refine (accepts_no M L wa wc word _ MT4.out HMD.out (hw.out.below B4.out (Nat.le_refl _)) hwl.out (by rw [HEV.out]; exact hwd.out)).mono ?_
  rintro e w5 ⟨rfl, hb5⟩
  have B5 := Hid.of (B4.out.trans (hb5.mono B4.out.size))
  have K5 := Hid.of (K4.out.below hb5 K4.out.lt)
  have N5 := Hid.of (N4.out.below hb5 N4.out.lt)
  have MT5 := Hid.of (MT4.out.below hb5 (Nat.le_refl _))
  have AT5 := Hid.of (AT4.out.below hb5 (Nat.le_refl _))
  clear hb5 B4 K4 N4 MT4 AT4 y0 y1 y2 y3 y4
  obtain ⟨y0, y1, y2, y3, y4⟩ := mcell_at N5.out
  go_wp2_with fail
  refine (after_no M L L.a1 wa L.c1 wc M.starts word _ MT5.out HMD.out MT5.out.s (Nat.le_trans MT5.out.s1 MT5.out.s2) (mayB_starts HMD.out) (hw.out.below B5.out (Nat.le_refl _)) hwl.out (by rw [HEV.out]; exact hwd.out)).mono ?_
  rintro e w6 ⟨rfl, hb6⟩
  have B6 := Hid.of (B5.out.trans (hb6.mono B5.out.size))
  clear hb6 B5 K5 N5 MT5 AT5 y0 y1 y2 y3 y4
  go_wp2
  go_ret
  exact ⟨rfl, B6.out⟩

theorem dsame_any (m : Mach) (l : ML) (wa : Option Addr) (wc : Nat) (word : List Int) (w : World) (hT : Tab w) (h : MAt w m l) (hw : At w wa word) (hwl : word.length ≤ maxLen) :
    Calls Tryd.prog 10 #[mval m l, .slice wa word.length wc] w fun e w' => e = .returned (.bool true) ∧ Below w.heap.size w w' := by
  cases hm : mayB m with
  | false => exact dsame_err m l wa wc word w (Hid.of hT) (Hid.of h) 2 (.inr rfl) (detOut_bad hm)
  | true =>
    cases hd : detS m with
    | none => exact dsame_err m l wa wc word w (Hid.of hT) (Hid.of h) 1 (.inl rfl) (detOut_none hm hd)
    | some s =>
      cases hwd : wordB m.ev word with
      | true => exact dsame_yes m l wa wc word w (Hid.of hT) (Hid.of h) (Hid.of hw) (Hid.of hwl) (Hid.of hm) s (Hid.of hd) (Hid.of hwd)
      | false => exact dsame_no m l wa wc word w (Hid.of hT) (Hid.of h) (Hid.of hw) (Hid.of hwl) (Hid.of hm) s (Hid.of hd) (Hid.of hwd)

end Go.Proofs.YtcjcjaeaoianfaaDoor
