/-
  The walk of jalousieref15.Most.
  The walk of jalousieref15.Stay.
  What jalousieref15.Make knows of the memory.
-/
import Derived.Test.YtmlkpdeidpcidaaDoorFR15G
import Derived.Test.YtmlkpdeidpcidaaDoorJ14
import Derived.Test.YtmlkpdeidpcidaaDoorJ15
import Derived.Test.YtmlkpdeidpcidaaDoorJ31
import Derived.Test.YtmlkpdeidpcidaaDoorJ32
import Derived.Test.YtmlkpdeidpcidaaDoorJ06
namespace Go.Proofs.YtmlkpdeidpcidaaDoor
open Go.RowKit
set_option linter.unusedVariables false

theorem mostNs_start (p : Plant) (g : List Int → Bool) (all : Nat) : mostNs p g all 1 [] := ⟨by simp [Inc], fun x => by
  constructor
  · intro h; cases h
  · rintro ⟨k, h1, h2, -⟩; omega⟩
theorem mostNs_no {p : Plant} {g : List Int → Bool} {all n : Nat} {out : List Int} (h : mostNs p g all n out) (hn : ¬ (partN n all = true ∧ g (wideL p.m.arrows p.seen (rowN n)) = true)) : mostNs p g all (n + 1) out := ⟨h.1, fun x => by
  rw [h.2]
  constructor
  · rintro ⟨k, h1, h2, h3⟩; exact ⟨k, h1, by omega, h3⟩
  · rintro ⟨k, h1, h2, h3, h4, h5⟩
    by_cases e : k = n
    · subst e; exact absurd ⟨h3, h5⟩ hn
    · exact ⟨k, h1, by omega, h3, h4, h5⟩⟩
theorem mostNs_yes {p : Plant} {g : List Int → Bool} {all n : Nat} {out : List Int} (h : mostNs p g all n out) (h0 : 1 ≤ n) (hp : partN n all = true) (hg : g (wideL p.m.arrows p.seen (rowN n)) = true) : mostNs p g all (n + 1) (srt (out ++ rowN n)) := ⟨inc_srt _, fun x => by
  rw [mem_srt, List.mem_append, h.2]
  constructor
  · rintro (⟨k, h1, h2, h3⟩ | h1)
    · exact ⟨k, h1, by omega, h3⟩
    · exact ⟨n, h0, by omega, hp, h1, hg⟩
  · rintro ⟨k, h1, h2, h3, h4, h5⟩
    by_cases e : k = n
    · subst e; exact .inr h4
    · exact .inl ⟨k, h1, by omega, h3, h4, h5⟩⟩
theorem mostNs_len {p : Plant} {g : List Int → Bool} {all n : Nat} {out : List Int} (h : mostNs p g all n out) (hn : n ≤ 64) : out.length ≤ 6 := inc_short h.1 fun x hx => by
  obtain ⟨k, h1, h2, h3, h4, -⟩ := (h.2 x).1 hx
  have := row_bd (k := 6) (n := k) (by omega) x h4
  omega

set_option maxRecDepth 100000 in
set_option maxHeartbeats 8000000 in
theorem rmost_any (p : Plant) (Pl : ML) (sa : Option Addr) (sc : Nat) (ta : Option Addr) (tc : Nat) (pg N : Nat) (g : Nat → Bool) (oa : Option Addr) (oc : Nat) (to : List Int) (w : World) (h : Hid (PAt w p ⟨Pl, sa, sc, ta, tc⟩)) (hp : Hid (mayP p = true)) (hN : Hid (N = 2 ^ p.m.st.toNat)) (hg : Hid (RowC w pg 4 N (fun j => .bool (g j)))) (hA : Hid (At w oa to)) (hi : Hid (Inc to)) (hb : Hid (∀ x ∈ to, 0 ≤ x ∧ x < p.m.st)) :
    Calls Tryd.prog 157 #[ptval p ⟨Pl, sa, sc, ta, tc⟩, .slice (some ⟨pg, 0, none⟩) N N, .slice oa to.length oc] w fun e w' => GivesO w (mostL p (fun r => g (numN r)) to) e w' := by
  have hmP := (mayP_iff p).1 hp.out
  have hMM := Hid.of hmP.1
  have hz := mayB_size hmP.1
  unfold sizeOk at hz
  have hz6 := Hid.of hmP.2.1
  have hal : Hid (p.m.arrows.length ≤ 4096) := by show _ ≤ _; omega
  have hb6 : Hid (∀ x ∈ to, 0 ≤ x ∧ x < 6) := fun x hx => by have h1 := hb.out x hx; have h2 := hmP.2.1; omega
  have hN64 : N ≤ 64 := by
    rw [hN.out]
    exact Nat.le_trans (Nat.pow_le_pow_right (by omega) (show p.m.st.toNat ≤ 6 by have := hmP.2.1; omega)) (by decide)
  clear hmP hz
  have B : Hid (Below w.heap.size w (w.alloc (.cells (ptcells p ⟨Pl, sa, sc, ta, tc⟩) 44))) := (Below.refl _ _).alloc (Nat.le_refl _) _
  have KP : Hid (Blk (w.alloc (.cells (ptcells p ⟨Pl, sa, sc, ta, tc⟩) 44)) w.heap.size 44 (ptcells p ⟨Pl, sa, sc, ta, tc⟩)) := Blk.new w _ _
  obtain ⟨all, HAL⟩ : ∃ all, Hid (all = numN to) := ⟨_, rfl⟩
  have hall : all < 64 := by rw [HAL.out]; exact num_lt (n := 6) hi.out (fun x hx => by have := hb6.out x hx; omega)
  go_enter Tryd.func157, Tryd.ntmps157
  go_wp2_with fail
  revert B KP
  generalize w.alloc (.cells (ptcells p ⟨Pl, sa, sc, ta, tc⟩) 44) = V0
  intro B KP
  refine (rnum_any oa oc to V0 (Hid.of (hA.out.below B.out (Nat.le_refl _))) hi hb6 (Nat.le_trans (inc_short hi.out hb6.out) (by omega))).mono ?_
  rintro e V1 ⟨rfl, rfl⟩
  rw [← HAL.out]
  obtain ⟨U, HU⟩ : ∃ U, U = V1 := ⟨_, rfl⟩
  subst HU
  go_wp2_with fail
  go_loopw [8, 9] (fun v i wr => ∃ (n : Nat) (out : List Int), i = .int .i64 n ∧ 1 ≤ n ∧ n ≤ all + 1 ∧ Hid (Own wr U.heap.size v out) ∧ Hid (Below U.heap.size U wr) ∧ Hid (mostNs p (fun r => g (numN r)) all n out)) (fun _ i _ => 65 - (intOf i).toNat)
  case atStart => exact ⟨1, [], rfl, by omega, by omega, own_nil _ _, Below.refl _ _, mostNs_start _ _ _⟩
  case round =>
    obtain ⟨n, out, rfl, hn1, hn2, HO, LB, HM⟩ := hrel
    obtain ⟨va, vc, hva, vat, -, -, vnil⟩ := HO.out.at2
    subst hva
    have VN := Hid.of vnil
    have VA := Hid.of vat
    clear vat vnil
    have hol := mostNs_len HM.out (by omega)
    have BW := Hid.of (B.out.trans (LB.out.mono B.out.size))
    by_cases hle : n ≤ all
    · have hn64 : n < 64 := by omega
      go_wp2_with fail
      refine (rpart_any n all _ hn64 hall).mono ?_
      rintro e W1 ⟨rfl, rfl⟩
      cases hpt : partN n all with
      | false =>
        have HM2 : Hid (mostNs p (fun r => g (numN r)) all (n + 1) out) := mostNs_no HM.out (fun hc => by rw [hpt] at hc; cases hc.1)
        clear hpt
        go_wp2_with fail
        go_roundw
        case rel => exact ⟨n + 1, out, by go_num, by omega, by omega, HO, LB, HM2⟩
        case measure => simp [intOf]; omega
      | true =>
        have HPT := Hid.of hpt
        clear hpt
        go_wp2_with fail
        refine (rrow_any n _ hn64).mono ?_
        rintro e W2 ⟨lv, rfl, ol, hb1⟩
        obtain ⟨la, lc, hlv, lat, -, -, lnil⟩ := ol.at2
        subst hlv
        have LA := Hid.of lat
        have LN := Hid.of lnil
        have L2 := Hid.of (LB.out.trans (hb1.mono LB.out.size))
        have B2 := Hid.of (BW.out.trans (hb1.mono BW.out.size))
        have K2 := Hid.of (KP.out.below L2.out KP.out.lt)
        have VA2 := Hid.of (VA.out.below hb1 (Nat.le_refl _))
        have O2 : Hid (Own W2 U.heap.size (.slice va out.length vc) out) := own_same HO.out (fun k hk => hb1.block k (World.ownsRow.lt HO.out k hk).2)
        clear ol lat lnil hb1 VA
        have hrl := rowNs_len n 64
        rw [← rowN_eq] at hrl
        obtain ⟨RN, HRN⟩ : ∃ R, Hid (R = rowN n) := ⟨_, rfl⟩
        rw [← HRN.out] at LA hrl
        rw [← HRN.out]
        obtain ⟨y0, y1, y2, y3, y4, y5, y6⟩ := ptcell_at K2.out
        go_wp2_with fail
        clear y0 y1 y2 y3 y4 y5 y6
        refine (refWide_any p.m Pl la sa lc sc RN p.seen _ (h.out.m.a.below B2.out (Nat.le_refl _)) hal.out (may_to hMM.out) LA.out (by omega) LN.out (h.out.s.at_.below B2.out (Nat.le_refl _)) h.out.s.len).mono ?_
        rintro e W3 ⟨wv, rfl, ow, hb2⟩
        obtain ⟨xa, xc, hwv, xat, -⟩ := ow.at
        subst hwv
        have XA := Hid.of xat
        have L3 := Hid.of (L2.out.trans (hb2.mono L2.out.size))
        have B3 := Hid.of (B2.out.trans (hb2.mono B2.out.size))
        have VA3 := Hid.of (VA2.out.below hb2 (Nat.le_refl _))
        have O3 : Hid (Own W3 U.heap.size (.slice va out.length vc) out) := own_same O2.out (fun k hk => hb2.block k (World.ownsRow.lt O2.out k hk).2)
        have LA3 := Hid.of (LA.out.below hb2 (Nat.le_refl _))
        clear ow xat hb2 VA2 LA
        obtain ⟨WD, HWD⟩ : ∃ R, Hid (R = wideL p.m.arrows p.seen RN) := ⟨_, rfl⟩
        rw [← HWD.out] at XA
        rw [← HWD.out]
        have hWi : Hid (Inc WD ∧ ∀ x ∈ WD, 0 ≤ x ∧ x < p.m.st) := by
          show _ ∧ _
          rw [HWD.out]
          refine wide_in hMM.out (fun x hx => ?_)
          rw [HRN.out] at hx
          have h1 := (partN_iff (by omega)).1 HPT.out x hx
          rw [HAL.out, row_num hi.out (fun x hx => by have := hb6.out x hx; omega)] at h1
          exact hb.out x h1
        have hW6 : Hid (∀ x ∈ WD, 0 ≤ x ∧ x < 6) := fun x hx => by have h1 := hWi.out.2 x hx; have h2 := hz6.out; omega
        obtain ⟨q, HQ⟩ : ∃ q, Hid (q = numN WD) := ⟨_, rfl⟩
        have hqN : q < N := by
          rw [HQ.out, hN.out]
          exact num_lt hWi.out.1 (fun x hx => by have := hWi.out.2 x hx; omega)
        have hqI : (q : Int) < (N : Int) := by omega
        have hq0 : (0 : Int) ≤ (q : Int) := by omega
        have gq := (hg.out.below B3.out hg.out.lt).cell hqN
        go_wp2_with fail
        refine (rnum_any xa xc WD _ XA hWi.out.1 hW6 (Nat.le_trans (inc_short hWi.out.1 hW6.out) (by omega))).mono ?_
        rintro e W4 ⟨rfl, rfl⟩
        rw [← HQ.out]
        cases hgq : g q with
        | false =>
          rw [hgq] at gq
          have HM2 : Hid (mostNs p (fun r => g (numN r)) all (n + 1) out) := mostNs_no HM.out (fun hc => by
            have h1 : g (numN (wideL p.m.arrows p.seen (rowN n))) = true := hc.2
            rw [← HRN.out, ← HWD.out, ← HQ.out, hgq] at h1
            cases h1)
          clear hgq
          go_wp2_with fail
          go_roundw
          case rel => exact ⟨n + 1, out, by go_num, by omega, by omega, O3, L3, HM2⟩
          case measure => simp [intOf]; omega
        | true =>
          rw [hgq] at gq
          have HM2 : Hid (mostNs p (fun r => g (numN r)) all (n + 1) (srt (out ++ RN))) := by
            show mostNs _ _ _ _ _
            rw [HRN.out]
            refine mostNs_yes HM.out hn1 HPT.out ?_
            show g (numN (wideL p.m.arrows p.seen (rowN n))) = true
            rw [← HRN.out, ← HWD.out, ← HQ.out]; exact hgq
          clear hgq
          go_wp2_with fail
          refine (refJoin_own va la vc lc out RN _ VA3.out LA3.out VN.out LN.out (by omega) (by omega)).mono ?_
          rintro e W5 ⟨jv, rfl, oj, hb3⟩
          have L4 := Hid.of (L3.out.trans (hb3.mono L3.out.size))
          have OJ := Hid.of (oj.low (B' := U.heap.size) L3.out.size)
          clear oj hb3
          obtain ⟨OJL, HOJ⟩ : ∃ l, Hid (l = srt (out ++ RN)) := ⟨_, rfl⟩
          rw [← HOJ.out] at OJ HM2
          obtain ⟨ja, jc, hjv, -, -, -⟩ := own_form2 OJ.out
          subst hjv
          go_wp2_with fail
          go_roundw
          case rel => exact ⟨n + 1, OJL, by go_num, by omega, by omega, OJ, L4, HM2⟩
          case measure => simp [intOf]; omega
    · have hn3 : n = all + 1 := by omega
      have HM2 : Hid (out = mostL p (fun r => g (numN r)) to) := by
        have := HM.out
        rw [hn3, HAL.out] at this
        exact mostNs_end hi.out (fun x hx => by have := hb6.out x hx; omega) this
      have hn4 : all < n := by omega
      clear hle hn3
      rw [HM2.out] at HO
      rw [HM2.out]
      go_wp2_with fail
      go_ret
      exact ⟨_, rfl, HO.out.low B.out.size, BW.out⟩

end Go.Proofs.YtmlkpdeidpcidaaDoor
namespace Go.Proofs.YtmlkpdeidpcidaaDoor
open Go.RowKit
set_option linter.unusedVariables false

/-- Is an event let be from a state? -/
def stayB (p : Plant) (TO : List Int) (e s : Int) : Bool := decide ((stepL p.m.arrows [s] e).length = 1) && hasB TO ((stepL p.m.arrows [s] e)[0]?.getD 0)
theorem filter_take {l : List Int} {f : Int → Bool} {k : Nat} {x : Int} (h : k < l.length) (hx : Hid (x = l[k]?.getD 0)) : (l.take (k + 1)).filter f = if f x = true then (l.take k).filter f ++ [x] else (l.take k).filter f := by
  have hx := hx.out
  rw [List.getElem?_eq_getElem h, Option.getD_some] at hx
  rw [List.take_add_one, List.getElem?_eq_getElem h, Option.toList_some, List.filter_append, ← hx]
  cases hf : f x <;> simp [hf]
theorem at_one15 (W : World) (x : Int) : At (W.alloc (.cells #[.int .i64 x] 3)) (some ⟨W.heap.size, 0, none⟩) [x] := by
  refine .inr ⟨_, 0, rfl, by simp, fun j hj => ?_⟩
  have : j = 0 := by simp at hj; omega
  subst this
  exact (Blk.new W 3 #[.int .i64 x]).cell 0 rfl

set_option maxRecDepth 100000 in
set_option maxHeartbeats 16000000 in
theorem rstay_any (p : Plant) (Pl : ML) (sa : Option Addr) (sc : Nat) (ta : Option Addr) (tc : Nat) (fa : Option Addr) (fc : Nat) (free : List Int) (pg N : Nat) (g : Nat → Bool) (na : Option Addr) (nc : Nat) (node : List Int) (e : Int) (w : World) (h : Hid (PAt w p ⟨Pl, sa, sc, ta, tc⟩)) (hp : Hid (mayP p = true)) (hF : Hid (At w fa free)) (hFl : Hid (free.length ≤ maxLen)) (hN : Hid (N = 2 ^ p.m.st.toNat)) (hg : Hid (RowC w pg 4 N (fun j => .bool (g j)))) (hNo : Hid (At w na node)) (hnl : node.length ≤ 6) :
    Calls Tryd.prog 112 #[ptval p ⟨Pl, sa, sc, ta, tc⟩, .slice fa free.length fc, .slice (some ⟨pg, 0, none⟩) N N, .slice na node.length nc, .int .i64 e] w fun r w' => ∃ sv tv, r = .returned (.tuple #[sv, tv]) ∧ Own w' w.heap.size sv (stayV p (fun r => g (numN r)) free node e) ∧ Own w' w.heap.size tv (toV p (fun r => g (numN r)) free node e) ∧ Below w.heap.size w w' := by
  have hmP := (mayP_iff p).1 hp.out
  have hMM := Hid.of hmP.1
  have hz := mayB_size hmP.1
  unfold sizeOk at hz
  have hal : Hid (p.m.arrows.length ≤ 4096) := by show _ ≤ _; omega
  clear hmP hz
  obtain ⟨i0, hi, hz0, hz1, hz2⟩ := info_parts Tryd.infoInt
  have B : Hid (Below w.heap.size w (w.alloc (.cells (ptcells p ⟨Pl, sa, sc, ta, tc⟩) 44))) := (Below.refl _ _).alloc (Nat.le_refl _) _
  have KP : Hid (Blk (w.alloc (.cells (ptcells p ⟨Pl, sa, sc, ta, tc⟩) 44)) w.heap.size 44 (ptcells p ⟨Pl, sa, sc, ta, tc⟩)) := Blk.new w _ _
  go_enter Tryd.func112, Tryd.ntmps112
  obtain ⟨y0, y1, y2, y3, y4, y5, y6⟩ := ptcell_at KP.out
  go_wp2_with fail
  clear y0 y1 y2 y3 y4 y5 y6
  revert B KP
  generalize w.alloc (.cells (ptcells p ⟨Pl, sa, sc, ta, tc⟩) 44) = V0
  intro B KP
  refine (refStep_own p.m Pl na nc node e V0 (h.out.m.a.below B.out (Nat.le_refl _)) (Nat.le_trans hal.out (by decide)) (hNo.out.below B.out (Nat.le_refl _)) (by unfold maxLen; omega)).mono ?_
  rintro e' V1 ⟨tv, rfl, ot, hb⟩
  have OT := Hid.of (ot.low (B' := w.heap.size) B.out.size)
  replace B := Hid.of (B.out.trans (hb.mono B.out.size))
  replace KP := Hid.of (KP.out.below hb KP.out.lt)
  clear hb ot
  obtain ⟨TO0, HTO0⟩ : ∃ T, Hid (T = stepL p.m.arrows node e) := ⟨_, rfl⟩
  rw [← HTO0.out] at OT
  have hTi : Hid (Inc TO0 ∧ ∀ x ∈ TO0, 0 ≤ x ∧ x < p.m.st) := by show _ ∧ _; rw [HTO0.out]; exact ⟨inc_srt _, step_bd hMM.out⟩
  go_wp2_with fail
  refine (refHas_any fa fc free e _ (hF.out.below B.out (Nat.le_refl _)) hFl.out).mono ?_
  rintro e' V2 ⟨rfl, rfl⟩
  cases hfe : hasB free e with
  | true =>
    obtain ⟨TO, HTO⟩ : ∃ T, Hid (T = toV p (fun r => g (numN r)) free node e) := ⟨_, rfl⟩
    have HTM : Hid (mostL p (fun r => g (numN r)) TO0 = TO) := by show _ = _; rw [HTO.out, HTO0.out]; unfold toV; rw [if_pos hfe]
    clear hfe
    obtain ⟨xa, xc, hxv, xat, -⟩ := OT.out.at
    subst hxv
    obtain ⟨y0, y1, y2, y3, y4, y5, y6⟩ := ptcell_at KP.out
    go_wp2_with fail
    clear y0 y1 y2 y3 y4 y5 y6
    refine (rmost_any p Pl sa sc ta tc pg N g xa xc TO0 _ (Hid.of (h.out.below B.out (Nat.le_refl _))) hp hN (Hid.of (hg.out.below B.out hg.out.lt)) (Hid.of xat) (Hid.of hTi.out.1) (Hid.of hTi.out.2)).mono ?_
    rintro e' V3 ⟨mv, rfl, om, hb⟩
    rw [HTM.out] at om
    replace OT := Hid.of (om.low (B' := w.heap.size) B.out.size)
    replace B := Hid.of (B.out.trans (hb.mono B.out.size))
    replace KP := Hid.of (KP.out.below hb KP.out.lt)
    clear hb om xat HTM
    have BU := Hid.of B.out
    have KU := Hid.of KP.out
    clear B KP
    obtain ⟨U, HUE⟩ : ∃ U, U = V3 := ⟨_, rfl⟩
    subst HUE
    obtain ⟨ya, yc, hyv, yat, yln⟩ := OT.out.at
    subst hyv
    have YA := Hid.of yat
    have YL := Hid.of yln
    clear yat yln
    go_wp2_with fail
    go_loopw [13, 14] (fun v i wr => ∃ (k : Nat), i = .int .i64 k ∧ k ≤ node.length ∧ Hid (Own wr U.heap.size v ((node.take k).filter (stayB p TO e))) ∧ Hid (Below U.heap.size U wr)) (fun _ i _ => node.length - (intOf i).toNat)
    case atStart => exact ⟨0, rfl, Nat.zero_le _, own_nil _ _, Below.refl _ _⟩
    case round =>
      obtain ⟨k, rfl, hk, HO, LB⟩ := hrel
      obtain ⟨va, vc, hva, -, -, -⟩ := own_form2 HO.out
      subst hva
      have BW := Hid.of (BU.out.trans (LB.out.mono BU.out.size))
      have KW := Hid.of (KU.out.below LB.out KU.out.lt)
      have YW := Hid.of (YA.out.below LB.out (Nat.le_refl _))
      by_cases hlt : k < node.length
      · obtain ⟨nb, no, rfl, hnb, hcn⟩ : ∃ nb no, na = some ⟨nb, no, none⟩ ∧ nb < w.heap.size ∧ Cells w nb no node := by
          rcases hNo.out with h0 | h0
          · rw [h0] at hlt; simp at hlt
          · exact h0
        obtain ⟨x, HX, c1⟩ := hcn.at hlt
        have SA : Hid (∀ W, Below w.heap.size w W → Blk W w.heap.size 44 (ptcells p ⟨Pl, sa, sc, ta, tc⟩) → W.cell? ⟨w.heap.size, 0, none⟩ = some (.int .i64 p.m.st) ∧ W.cell? ⟨w.heap.size, 1, none⟩ = some (.int .i64 p.m.ev) ∧ W.cell? ⟨w.heap.size, 2, none⟩ = some (.slice Pl.a1 p.m.starts.length Pl.c1) ∧ W.cell? ⟨w.heap.size, 3, none⟩ = some (.slice Pl.a2 p.m.arrows.length Pl.c2) ∧ W.cell? ⟨w.heap.size, 4, none⟩ = some (.slice Pl.a3 p.m.ends.length Pl.c3) ∧ W.cell? ⟨nb, no + k, none⟩ = some (.int .i64 x)) := fun W hW kW => by
          obtain ⟨y0, y1, y2, y3, y4, y5, y6⟩ := ptcell_at kW
          exact ⟨y0, y1, y2, y3, y4, (hW.cell (p := ⟨nb, no + k, none⟩) hnb).trans c1⟩
        have HFS := Hid.of (filter_take (f := stayB p TO e) hlt HX)
        obtain ⟨SL, HSL⟩ : ∃ SL, Hid (SL = stepL p.m.arrows [x] e) := ⟨_, rfl⟩
        have HSB : Hid (stayB p TO e x = (decide (SL.length = 1) && hasB TO (SL[0]?.getD 0))) := by show _ = _; unfold stayB; rw [HSL.out]
        obtain ⟨ST, HST⟩ : ∃ ST, Hid (ST = (node.take k).filter (stayB p TO e)) := ⟨_, rfl⟩
        have hstl : ST.length ≤ 6 := by rw [HST.out]; exact Nat.le_trans (List.length_filter_le _ _) (by rw [List.length_take]; omega)
        rw [← HST.out] at HFS HO
        rw [← HST.out]
        go_wp2_with fail
        refine wp_region_held_drew (S := fun w' => w'.cell? ⟨w.heap.size, 0, none⟩ = some (.int .i64 p.m.st) ∧ w'.cell? ⟨w.heap.size, 1, none⟩ = some (.int .i64 p.m.ev) ∧ w'.cell? ⟨w.heap.size, 2, none⟩ = some (.slice Pl.a1 p.m.starts.length Pl.c1) ∧ w'.cell? ⟨w.heap.size, 3, none⟩ = some (.slice Pl.a2 p.m.arrows.length Pl.c2) ∧ w'.cell? ⟨w.heap.size, 4, none⟩ = some (.slice Pl.a3 p.m.ends.length Pl.c3) ∧ w'.cell? ⟨nb, no + k, none⟩ = some (.int .i64 x)) (by kernel_rfl) (SA.out _ BW.out.drew (Blk.drew KW.out)) (fun hS0 => ?_)
        replace BW : Hid (Below w.heap.size w wr.drew) := BW.out.drew
        replace KW : Hid (Blk wr.drew w.heap.size 44 (ptcells p ⟨Pl, sa, sc, ta, tc⟩)) := Blk.drew KW.out
        replace LB : Hid (Below U.heap.size U wr.drew) := LB.out.drew
        replace HO : Hid (Own wr.drew U.heap.size (.slice va ST.length vc) ST) := own_same HO.out (fun _ _ => rfl)
        replace YW : Hid (At wr.drew ya TO) := YW.out
        revert hS0 BW KW LB HO YW
        generalize wr.drew = Y0
        intro hS0 BW KW LB HO YW
        refine wpAnyH_take (i := 0) (v := .pointer (some ⟨w.heap.size, 0, none⟩)) rfl (by kernel_rfl) (by kernel_rfl) (by kernel_rfl) (fun _ _ _ h => h) (Or.inl ⟨by kernel_rfl, fun w' hw' => by obtain ⟨q0, q1, q2, q3, q4, q5⟩ := hw'; go_simp⟩) hS0 ?_
        refine wpAnyH_take (i := 1) (v := .agg #[.int .i64 p.m.st, .int .i64 p.m.ev, .slice Pl.a1 p.m.starts.length Pl.c1, .slice Pl.a2 p.m.arrows.length Pl.c2, .slice Pl.a3 p.m.ends.length Pl.c3]) rfl (by kernel_rfl) (by kernel_rfl) (by kernel_rfl) (fun _ _ _ h => h) (Or.inl ⟨by kernel_rfl, fun w' hw' => by obtain ⟨q0, q1, q2, q3, q4, q5⟩ := hw'; go_simp⟩) hS0 ?_
        refine wpAnyH_take (i := 2) (v := .slice (some ⟨nb, no, none⟩) node.length nc) rfl (by kernel_rfl) (by kernel_rfl) (by kernel_rfl) (fun _ _ _ h => h) (Or.inl ⟨by kernel_rfl, fun w' hw' => by obtain ⟨q0, q1, q2, q3, q4, q5⟩ := hw'; go_simp⟩) hS0 ?_
        refine wpAnyH_take (i := 3) (v := .int .i64 k) rfl (by kernel_rfl) (by kernel_rfl) (by kernel_rfl) (fun _ _ _ h => h) (Or.inl ⟨by kernel_rfl, fun w' hw' => by obtain ⟨q0, q1, q2, q3, q4, q5⟩ := hw'; go_simp⟩) hS0 ?_
        refine wpAnyH_take (i := 4) (v := .pointer (some ⟨nb, no + k, none⟩)) rfl (by kernel_rfl) (by kernel_rfl) (by kernel_rfl) (fun _ _ _ h => h) (Or.inl ⟨by kernel_rfl, fun w' hw' => by obtain ⟨q0, q1, q2, q3, q4, q5⟩ := hw'; go_simp⟩) hS0 ?_
        refine wpAnyH_take (i := 5) (v := .int .i64 x) rfl (by kernel_rfl) (by kernel_rfl) (by kernel_rfl) (fun _ _ _ h => h) (Or.inl ⟨by kernel_rfl, fun w' hw' => by obtain ⟨q0, q1, q2, q3, q4, q5⟩ := hw'; go_simp⟩) hS0 ?_
        refine wpAnyH_take (i := 7) (v := .int .i64 e) rfl (by kernel_rfl) (by kernel_rfl) (by kernel_rfl) (fun _ _ _ h => h) (Or.inl ⟨by kernel_rfl, fun w' hw' => by obtain ⟨q0, q1, q2, q3, q4, q5⟩ := hw'; go_simp⟩) hS0 ?_
        simp only [Act.put, List.setIfInBounds_toArray]
        have hb0 : Below Y0.heap.size Y0 (Y0.alloc (.cells #[.int .i64 x] 3)) := (Below.refl _ _).alloc (Nat.le_refl _) _
        have A1 : Hid (At (Y0.alloc (.cells #[.int .i64 x] 3)) (some ⟨Y0.heap.size, 0, none⟩) [x]) := at_one15 Y0 x
        replace BW := Hid.of (BW.out.trans (hb0.mono BW.out.size))
        replace KW := Hid.of (KW.out.below hb0 KW.out.lt)
        replace LB := Hid.of (LB.out.trans (hb0.mono LB.out.size))
        replace HO : Hid (Own (Y0.alloc (.cells #[.int .i64 x] 3)) U.heap.size (.slice va ST.length vc) ST) := own_same HO.out (fun k hk => hb0.block k (World.ownsRow.lt HO.out k hk).2)
        replace YW := Hid.of (YW.out.below hb0 (Nat.le_refl _))
        refine wpAnyH_ready (rs := [6]) (by kernel_rfl) (by simp) ?_
        refine AllReadyH.cons rfl (fun K' hK' => ?_) AllReadyH.nil
        go_simp
        refine hK'.out _ _ (SA.out _ BW.out KW.out) (fun hS1 => ?_)
        clear hK' K' hb0 hS0
        revert A1 BW KW LB HO YW hS1
        generalize Y0.alloc (.cells #[.int .i64 x] 3) = Y1
        generalize Y0.heap.size = pb
        intro A1 BW KW LB HO YW hS1
        refine wpAnyH_ready (rs := [8]) (by kernel_rfl) (by simp) ?_
        refine AllReadyH.cons rfl (fun K' hK' => ?_) AllReadyH.nil
        clear hS1
        go_simp
        refine (refStep_own p.m Pl (some ⟨pb, 0, none⟩) 1 [x] e Y1 (h.out.m.a.below BW.out (Nat.le_refl _)) (Nat.le_trans hal.out (by decide)) A1.out (by simp; unfold maxLen; omega)).mono ?_
        rintro e' Y2 ⟨lv, rfl, ol, hb1⟩
        rw [← HSL.out] at ol
        obtain ⟨la, lc, hlv, lat, lln⟩ := ol.at
        subst hlv
        have LA := Hid.of lat
        replace BW := Hid.of (BW.out.trans (hb1.mono BW.out.size))
        replace KW := Hid.of (KW.out.below hb1 KW.out.lt)
        replace LB := Hid.of (LB.out.trans (hb1.mono LB.out.size))
        replace HO : Hid (Own Y2 U.heap.size (.slice va ST.length vc) ST) := own_same HO.out (fun k hk => hb1.block k (World.ownsRow.lt HO.out k hk).2)
        replace YW := Hid.of (YW.out.below hb1 (Nat.le_refl _))
        refine hK'.out _ _ (SA.out _ BW.out KW.out) (fun hS2 => ?_)
        clear hK' K' hb1 ol lat A1 HSL
        have cx := (SA.out _ BW.out KW.out).2.2.2.2.2
        refine wpAnyH_take (i := 9) (v := .slice la SL.length lc) rfl (by kernel_rfl) (by kernel_rfl) (by kernel_rfl) (fun _ _ _ h => h) (Or.inl ⟨by kernel_rfl, fun w' hw' => by obtain ⟨q0, q1, q2, q3, q4, q5⟩ := hw'; go_simp⟩) hS2 ?_
        refine wpAnyH_done (by kernel_rfl) ?_ _
        clear hS2 SA
        have hlb := LB.out.size
        by_cases h1 : SL.length = 1
        · obtain ⟨t, ht⟩ : ∃ t, SL = [t] := ⟨_, one_of h1⟩
          subst ht
          obtain ⟨lb, lo, rfl, -, hcl⟩ : ∃ b off, la = some ⟨b, off, none⟩ ∧ b < Y2.heap.size ∧ Cells Y2 b off [t] := by
            rcases LA.out with h0 | h0
            · cases h0
            · exact h0
          have ct : Y2.cell? ⟨lb, lo, none⟩ = some (.int .i64 t) := by have := hcl 0 (by simp); simpa using this
          clear hcl h1 LA
          go_wp2_with fail
          refine (refHas_any ya yc TO t _ YW.out YL.out).mono ?_
          rintro e' Y3 ⟨rfl, rfl⟩
          cases hh : hasB TO t with
          | true =>
            have HF2 : Hid ((node.take (k + 1)).filter (stayB p TO e) = ST ++ [x]) := by
              show _ = _
              rw [HFS.out, HSB.out]
              simp [hh]
            clear hh HFS HSB
            go_wp2_with (at_builtin; refine wpList_append_own _ rfl _ _ 22 rfl U.heap.size 3 i0 (.int .i64 0) 1 8 Tryd.underlying22 hi hz0 hz1 hz2 rfl (by decide) _ _ _ rfl (World.ownsRow.alloc HO.out _) ⟨Y3.heap.size, 0, none⟩ 1 1 [.int .i64 x] rfl rfl (cell_one_new _ _ _) (by intro u hu; simp at hu; subst hu; rfl) (by unfold maxLen; omega) (by omega) (by simp; omega) ?_)
            intro v' w3 hown' hgrow _
            obtain ⟨r1, r2, -⟩ := own_snoc HO.out LB.out hlb hown' hgrow
            have R1 := Hid.of r1
            have R2 := Hid.of r2
            clear hown' hgrow r1 r2
            go_wp2_with fail
            go_roundw
            case rel => exact ⟨k + 1, by go_num, by omega, by rw [HF2.out]; exact R1, R2⟩
            case measure => simp [intOf]; omega
          | false =>
            have HF2 : Hid ((node.take (k + 1)).filter (stayB p TO e) = ST) := by
              show _ = _
              rw [HFS.out, HSB.out]
              simp [hh]
            clear hh HFS HSB
            go_wp2_with fail
            go_roundw
            case rel => exact ⟨k + 1, by go_num, by omega, by rw [HF2.out]; exact HO, LB⟩
            case measure => simp [intOf]; omega
        · have HF2 : Hid ((node.take (k + 1)).filter (stayB p TO e) = ST) := by
            show _ = _
            rw [HFS.out, HSB.out, decide_eq_false h1]; rfl
          have hbe : ((SL.length : Int) == 1) = false := beq_eq_false_iff_ne.2 (by omega)
          clear HFS HSB
          go_wp2_with fail
          go_roundw
          case rel => exact ⟨k + 1, by go_num, by omega, by rw [HF2.out]; exact HO, LB⟩
          case measure => simp [intOf]; omega
      · have hk2 : k = node.length := by omega
        subst hk2
        have HSV : Hid ((node.take node.length).filter (stayB p TO e) = stayV p (fun r => g (numN r)) free node e) := by
          show _ = _
          rw [List.take_of_length_le (Nat.le_refl _), HTO.out]; rfl
        rw [HSV.out] at HO
        rw [HSV.out]
        have OT2 : Hid (Own wr w.heap.size (.slice ya TO.length yc) TO) := own_same OT.out (fun k hk => LB.out.block k (World.ownsRow.lt OT.out k hk).2)
        clear hlt hk
        go_wp2_with fail
        refine bodyPost_ret (v := .tuple #[.slice va (stayV p (fun r => g (numN r)) free node e).length vc, .slice ya TO.length yc]) (by simp [results, go_sem]) rfl ⟨_, _, rfl, HO.out.low BU.out.size, ?_, BW.out⟩
        rw [← HTO.out]; exact OT2.out
  | false =>
    obtain ⟨TO, HTO⟩ : ∃ T, Hid (T = toV p (fun r => g (numN r)) free node e) := ⟨_, rfl⟩
    have HTM : Hid (TO0 = TO) := by show _ = _; rw [HTO.out, HTO0.out]; unfold toV; rw [if_neg (by rw [hfe]; simp)]
    clear hfe
    rw [HTM.out] at OT
    clear hTi HTO0 HTM
    have BU := Hid.of B.out
    have KU := Hid.of KP.out
    clear B KP
    obtain ⟨U, HUE⟩ : ∃ U, U = V2 := ⟨_, rfl⟩
    subst HUE
    obtain ⟨ya, yc, hyv, yat, yln⟩ := OT.out.at
    subst hyv
    have YA := Hid.of yat
    have YL := Hid.of yln
    clear yat yln
    go_wp2_with fail
    go_loopw [13, 14] (fun v i wr => ∃ (k : Nat), i = .int .i64 k ∧ k ≤ node.length ∧ Hid (Own wr U.heap.size v ((node.take k).filter (stayB p TO e))) ∧ Hid (Below U.heap.size U wr)) (fun _ i _ => node.length - (intOf i).toNat)
    case atStart => exact ⟨0, rfl, Nat.zero_le _, own_nil _ _, Below.refl _ _⟩
    case round =>
      obtain ⟨k, rfl, hk, HO, LB⟩ := hrel
      obtain ⟨va, vc, hva, -, -, -⟩ := own_form2 HO.out
      subst hva
      have BW := Hid.of (BU.out.trans (LB.out.mono BU.out.size))
      have KW := Hid.of (KU.out.below LB.out KU.out.lt)
      have YW := Hid.of (YA.out.below LB.out (Nat.le_refl _))
      by_cases hlt : k < node.length
      · obtain ⟨nb, no, rfl, hnb, hcn⟩ : ∃ nb no, na = some ⟨nb, no, none⟩ ∧ nb < w.heap.size ∧ Cells w nb no node := by
          rcases hNo.out with h0 | h0
          · rw [h0] at hlt; simp at hlt
          · exact h0
        obtain ⟨x, HX, c1⟩ := hcn.at hlt
        have SA : Hid (∀ W, Below w.heap.size w W → Blk W w.heap.size 44 (ptcells p ⟨Pl, sa, sc, ta, tc⟩) → W.cell? ⟨w.heap.size, 0, none⟩ = some (.int .i64 p.m.st) ∧ W.cell? ⟨w.heap.size, 1, none⟩ = some (.int .i64 p.m.ev) ∧ W.cell? ⟨w.heap.size, 2, none⟩ = some (.slice Pl.a1 p.m.starts.length Pl.c1) ∧ W.cell? ⟨w.heap.size, 3, none⟩ = some (.slice Pl.a2 p.m.arrows.length Pl.c2) ∧ W.cell? ⟨w.heap.size, 4, none⟩ = some (.slice Pl.a3 p.m.ends.length Pl.c3) ∧ W.cell? ⟨nb, no + k, none⟩ = some (.int .i64 x)) := fun W hW kW => by
          obtain ⟨y0, y1, y2, y3, y4, y5, y6⟩ := ptcell_at kW
          exact ⟨y0, y1, y2, y3, y4, (hW.cell (p := ⟨nb, no + k, none⟩) hnb).trans c1⟩
        have HFS := Hid.of (filter_take (f := stayB p TO e) hlt HX)
        obtain ⟨SL, HSL⟩ : ∃ SL, Hid (SL = stepL p.m.arrows [x] e) := ⟨_, rfl⟩
        have HSB : Hid (stayB p TO e x = (decide (SL.length = 1) && hasB TO (SL[0]?.getD 0))) := by show _ = _; unfold stayB; rw [HSL.out]
        obtain ⟨ST, HST⟩ : ∃ ST, Hid (ST = (node.take k).filter (stayB p TO e)) := ⟨_, rfl⟩
        have hstl : ST.length ≤ 6 := by rw [HST.out]; exact Nat.le_trans (List.length_filter_le _ _) (by rw [List.length_take]; omega)
        rw [← HST.out] at HFS HO
        rw [← HST.out]
        go_wp2_with fail
        refine wp_region_held_drew (S := fun w' => w'.cell? ⟨w.heap.size, 0, none⟩ = some (.int .i64 p.m.st) ∧ w'.cell? ⟨w.heap.size, 1, none⟩ = some (.int .i64 p.m.ev) ∧ w'.cell? ⟨w.heap.size, 2, none⟩ = some (.slice Pl.a1 p.m.starts.length Pl.c1) ∧ w'.cell? ⟨w.heap.size, 3, none⟩ = some (.slice Pl.a2 p.m.arrows.length Pl.c2) ∧ w'.cell? ⟨w.heap.size, 4, none⟩ = some (.slice Pl.a3 p.m.ends.length Pl.c3) ∧ w'.cell? ⟨nb, no + k, none⟩ = some (.int .i64 x)) (by kernel_rfl) (SA.out _ BW.out.drew (Blk.drew KW.out)) (fun hS0 => ?_)
        replace BW : Hid (Below w.heap.size w wr.drew) := BW.out.drew
        replace KW : Hid (Blk wr.drew w.heap.size 44 (ptcells p ⟨Pl, sa, sc, ta, tc⟩)) := Blk.drew KW.out
        replace LB : Hid (Below U.heap.size U wr.drew) := LB.out.drew
        replace HO : Hid (Own wr.drew U.heap.size (.slice va ST.length vc) ST) := own_same HO.out (fun _ _ => rfl)
        replace YW : Hid (At wr.drew ya TO) := YW.out
        revert hS0 BW KW LB HO YW
        generalize wr.drew = Y0
        intro hS0 BW KW LB HO YW
        refine wpAnyH_take (i := 0) (v := .pointer (some ⟨w.heap.size, 0, none⟩)) rfl (by kernel_rfl) (by kernel_rfl) (by kernel_rfl) (fun _ _ _ h => h) (Or.inl ⟨by kernel_rfl, fun w' hw' => by obtain ⟨q0, q1, q2, q3, q4, q5⟩ := hw'; go_simp⟩) hS0 ?_
        refine wpAnyH_take (i := 1) (v := .agg #[.int .i64 p.m.st, .int .i64 p.m.ev, .slice Pl.a1 p.m.starts.length Pl.c1, .slice Pl.a2 p.m.arrows.length Pl.c2, .slice Pl.a3 p.m.ends.length Pl.c3]) rfl (by kernel_rfl) (by kernel_rfl) (by kernel_rfl) (fun _ _ _ h => h) (Or.inl ⟨by kernel_rfl, fun w' hw' => by obtain ⟨q0, q1, q2, q3, q4, q5⟩ := hw'; go_simp⟩) hS0 ?_
        refine wpAnyH_take (i := 2) (v := .slice (some ⟨nb, no, none⟩) node.length nc) rfl (by kernel_rfl) (by kernel_rfl) (by kernel_rfl) (fun _ _ _ h => h) (Or.inl ⟨by kernel_rfl, fun w' hw' => by obtain ⟨q0, q1, q2, q3, q4, q5⟩ := hw'; go_simp⟩) hS0 ?_
        refine wpAnyH_take (i := 3) (v := .int .i64 k) rfl (by kernel_rfl) (by kernel_rfl) (by kernel_rfl) (fun _ _ _ h => h) (Or.inl ⟨by kernel_rfl, fun w' hw' => by obtain ⟨q0, q1, q2, q3, q4, q5⟩ := hw'; go_simp⟩) hS0 ?_
        refine wpAnyH_take (i := 4) (v := .pointer (some ⟨nb, no + k, none⟩)) rfl (by kernel_rfl) (by kernel_rfl) (by kernel_rfl) (fun _ _ _ h => h) (Or.inl ⟨by kernel_rfl, fun w' hw' => by obtain ⟨q0, q1, q2, q3, q4, q5⟩ := hw'; go_simp⟩) hS0 ?_
        refine wpAnyH_take (i := 5) (v := .int .i64 x) rfl (by kernel_rfl) (by kernel_rfl) (by kernel_rfl) (fun _ _ _ h => h) (Or.inl ⟨by kernel_rfl, fun w' hw' => by obtain ⟨q0, q1, q2, q3, q4, q5⟩ := hw'; go_simp⟩) hS0 ?_
        refine wpAnyH_take (i := 7) (v := .int .i64 e) rfl (by kernel_rfl) (by kernel_rfl) (by kernel_rfl) (fun _ _ _ h => h) (Or.inl ⟨by kernel_rfl, fun w' hw' => by obtain ⟨q0, q1, q2, q3, q4, q5⟩ := hw'; go_simp⟩) hS0 ?_
        simp only [Act.put, List.setIfInBounds_toArray]
        have hb0 : Below Y0.heap.size Y0 (Y0.alloc (.cells #[.int .i64 x] 3)) := (Below.refl _ _).alloc (Nat.le_refl _) _
        have A1 : Hid (At (Y0.alloc (.cells #[.int .i64 x] 3)) (some ⟨Y0.heap.size, 0, none⟩) [x]) := at_one15 Y0 x
        replace BW := Hid.of (BW.out.trans (hb0.mono BW.out.size))
        replace KW := Hid.of (KW.out.below hb0 KW.out.lt)
        replace LB := Hid.of (LB.out.trans (hb0.mono LB.out.size))
        replace HO : Hid (Own (Y0.alloc (.cells #[.int .i64 x] 3)) U.heap.size (.slice va ST.length vc) ST) := own_same HO.out (fun k hk => hb0.block k (World.ownsRow.lt HO.out k hk).2)
        replace YW := Hid.of (YW.out.below hb0 (Nat.le_refl _))
        refine wpAnyH_ready (rs := [6]) (by kernel_rfl) (by simp) ?_
        refine AllReadyH.cons rfl (fun K' hK' => ?_) AllReadyH.nil
        go_simp
        refine hK'.out _ _ (SA.out _ BW.out KW.out) (fun hS1 => ?_)
        clear hK' K' hb0 hS0
        revert A1 BW KW LB HO YW hS1
        generalize Y0.alloc (.cells #[.int .i64 x] 3) = Y1
        generalize Y0.heap.size = pb
        intro A1 BW KW LB HO YW hS1
        refine wpAnyH_ready (rs := [8]) (by kernel_rfl) (by simp) ?_
        refine AllReadyH.cons rfl (fun K' hK' => ?_) AllReadyH.nil
        clear hS1
        go_simp
        refine (refStep_own p.m Pl (some ⟨pb, 0, none⟩) 1 [x] e Y1 (h.out.m.a.below BW.out (Nat.le_refl _)) (Nat.le_trans hal.out (by decide)) A1.out (by simp; unfold maxLen; omega)).mono ?_
        rintro e' Y2 ⟨lv, rfl, ol, hb1⟩
        rw [← HSL.out] at ol
        obtain ⟨la, lc, hlv, lat, lln⟩ := ol.at
        subst hlv
        have LA := Hid.of lat
        replace BW := Hid.of (BW.out.trans (hb1.mono BW.out.size))
        replace KW := Hid.of (KW.out.below hb1 KW.out.lt)
        replace LB := Hid.of (LB.out.trans (hb1.mono LB.out.size))
        replace HO : Hid (Own Y2 U.heap.size (.slice va ST.length vc) ST) := own_same HO.out (fun k hk => hb1.block k (World.ownsRow.lt HO.out k hk).2)
        replace YW := Hid.of (YW.out.below hb1 (Nat.le_refl _))
        refine hK'.out _ _ (SA.out _ BW.out KW.out) (fun hS2 => ?_)
        clear hK' K' hb1 ol lat A1 HSL
        have cx := (SA.out _ BW.out KW.out).2.2.2.2.2
        refine wpAnyH_take (i := 9) (v := .slice la SL.length lc) rfl (by kernel_rfl) (by kernel_rfl) (by kernel_rfl) (fun _ _ _ h => h) (Or.inl ⟨by kernel_rfl, fun w' hw' => by obtain ⟨q0, q1, q2, q3, q4, q5⟩ := hw'; go_simp⟩) hS2 ?_
        refine wpAnyH_done (by kernel_rfl) ?_ _
        clear hS2 SA
        have hlb := LB.out.size
        by_cases h1 : SL.length = 1
        · obtain ⟨t, ht⟩ : ∃ t, SL = [t] := ⟨_, one_of h1⟩
          subst ht
          obtain ⟨lb, lo, rfl, -, hcl⟩ : ∃ b off, la = some ⟨b, off, none⟩ ∧ b < Y2.heap.size ∧ Cells Y2 b off [t] := by
            rcases LA.out with h0 | h0
            · cases h0
            · exact h0
          have ct : Y2.cell? ⟨lb, lo, none⟩ = some (.int .i64 t) := by have := hcl 0 (by simp); simpa using this
          clear hcl h1 LA
          go_wp2_with fail
          refine (refHas_any ya yc TO t _ YW.out YL.out).mono ?_
          rintro e' Y3 ⟨rfl, rfl⟩
          cases hh : hasB TO t with
          | true =>
            have HF2 : Hid ((node.take (k + 1)).filter (stayB p TO e) = ST ++ [x]) := by
              show _ = _
              rw [HFS.out, HSB.out]
              simp [hh]
            clear hh HFS HSB
            go_wp2_with (at_builtin; refine wpList_append_own _ rfl _ _ 22 rfl U.heap.size 3 i0 (.int .i64 0) 1 8 Tryd.underlying22 hi hz0 hz1 hz2 rfl (by decide) _ _ _ rfl (World.ownsRow.alloc HO.out _) ⟨Y3.heap.size, 0, none⟩ 1 1 [.int .i64 x] rfl rfl (cell_one_new _ _ _) (by intro u hu; simp at hu; subst hu; rfl) (by unfold maxLen; omega) (by omega) (by simp; omega) ?_)
            intro v' w3 hown' hgrow _
            obtain ⟨r1, r2, -⟩ := own_snoc HO.out LB.out hlb hown' hgrow
            have R1 := Hid.of r1
            have R2 := Hid.of r2
            clear hown' hgrow r1 r2
            go_wp2_with fail
            go_roundw
            case rel => exact ⟨k + 1, by go_num, by omega, by rw [HF2.out]; exact R1, R2⟩
            case measure => simp [intOf]; omega
          | false =>
            have HF2 : Hid ((node.take (k + 1)).filter (stayB p TO e) = ST) := by
              show _ = _
              rw [HFS.out, HSB.out]
              simp [hh]
            clear hh HFS HSB
            go_wp2_with fail
            go_roundw
            case rel => exact ⟨k + 1, by go_num, by omega, by rw [HF2.out]; exact HO, LB⟩
            case measure => simp [intOf]; omega
        · have HF2 : Hid ((node.take (k + 1)).filter (stayB p TO e) = ST) := by
            show _ = _
            rw [HFS.out, HSB.out, decide_eq_false h1]; rfl
          have hbe : ((SL.length : Int) == 1) = false := beq_eq_false_iff_ne.2 (by omega)
          clear HFS HSB
          go_wp2_with fail
          go_roundw
          case rel => exact ⟨k + 1, by go_num, by omega, by rw [HF2.out]; exact HO, LB⟩
          case measure => simp [intOf]; omega
      · have hk2 : k = node.length := by omega
        subst hk2
        have HSV : Hid ((node.take node.length).filter (stayB p TO e) = stayV p (fun r => g (numN r)) free node e) := by
          show _ = _
          rw [List.take_of_length_le (Nat.le_refl _), HTO.out]; rfl
        rw [HSV.out] at HO
        rw [HSV.out]
        have OT2 : Hid (Own wr w.heap.size (.slice ya TO.length yc) TO) := own_same OT.out (fun k hk => LB.out.block k (World.ownsRow.lt OT.out k hk).2)
        clear hlt hk
        go_wp2_with fail
        refine bodyPost_ret (v := .tuple #[.slice va (stayV p (fun r => g (numN r)) free node e).length vc, .slice ya TO.length yc]) (by simp [results, go_sem]) rfl ⟨_, _, rfl, HO.out.low BU.out.size, ?_, BW.out⟩
        rw [← HTO.out]; exact OT2.out

end Go.Proofs.YtmlkpdeidpcidaaDoor
namespace Go.Proofs.YtmlkpdeidpcidaaDoor
open Go.RowKit
set_option linter.unusedVariables false

/-- A slice of moves, of the call's own. -/
def OwnMv (n : Nat) (W : World) (B : Nat) (v : Value) (L : List Mv) : Prop := ∃ vs : List Value, W.ownsRow B 79 4 v L.length vs ∧
  ∀ (k : Nat) (m : Mv), L[k]? = some m → vs[k * 4]? = some (.int .i64 (m.nd : Int)) ∧ vs[k * 4 + 1]? = some (.int .i64 m.ev) ∧ (∃ x, vs[k * 4 + 2]? = some x ∧ InnN n W x m.st) ∧ vs[k * 4 + 3]? = some (.int .i64 (m.to : Int))
theorem OwnMv.kept {n : Nat} {W W' : World} {B : Nat} {v : Value} {L : List Mv} (h : OwnMv n W B v L) (hz : W.heap.size ≤ W'.heap.size) (h0 : ∀ k, v.ownBlock = some k → W'.heap[k]? = W.heap[k]?) (h1 : ∀ j, j < n → W'.heap[j]? = W.heap[j]?) (h2 : ∀ (g : Nat) (cs : Array Value), W.heap[g]? = some (.cells cs 3 (0, 0)) → W'.heap[g]? = W.heap[g]?) : OwnMv n W' B v L := by
  obtain ⟨vs, ho, hi⟩ := h
  refine ⟨vs, own_same ho h0, fun k m hm => ?_⟩
  obtain ⟨e0, e1, ⟨x, e2, e3⟩, e4⟩ := hi k m hm
  exact ⟨e0, e1, ⟨x, e2, e3.kept hz h1 h2⟩, e4⟩
theorem OwnMv.below {n : Nat} {W W' : World} {B : Nat} {v : Value} {L : List Mv} (h : OwnMv n W B v L) (hb : Below W.heap.size W W') (hn : n ≤ W.heap.size) : OwnMv n W' B v L := by
  obtain ⟨vs, ho, -⟩ := id h
  exact h.kept hb.size (fun k hk => hb.block k (World.ownsRow.lt ho k hk).2) (fun j hj => hb.block j (by omega)) (fun g cs hg => hb.block g (Array.getElem?_eq_some_iff.1 hg).1)
theorem OwnMv.at {n : Nat} {W : World} {B : Nat} {v : Value} {L : List Mv} (h : OwnMv n W B v L) : ∃ a cap, v = .slice a L.length cap ∧ AtMv W a L := by
  obtain ⟨vs, ho, hi⟩ := h
  have hs := ho.2
  rcases hs with ⟨rfl, hn⟩ | ⟨g, cap, cur, rfl, hg, hh, hnc, hcm, hcs, ht⟩
  · have : L = [] := List.length_eq_zero_iff.1 hn
    subst this
    exact ⟨none, 0, rfl, .inl rfl⟩
  · refine ⟨some ⟨g, 0, none⟩, cap, rfl, .inr ⟨g, 0, rfl, (Array.getElem?_eq_some_iff.1 hh).1, fun k m hm => ?_⟩⟩
    obtain ⟨e0, e1, ⟨x, e2, e3⟩, e4⟩ := hi k m hm
    obtain ⟨xa, xc, rfl, x1, x2⟩ := e3.at
    have c0 := ho.cells (g := g) rfl _ _ e0
    have c1 := ho.cells (g := g) rfl _ _ e1
    have c2 := ho.cells (g := g) rfl _ _ e2
    have c3 := ho.cells (g := g) rfl _ _ e4
    rw [addr0_add] at c0 c1 c2 c3
    exact ⟨xa, xc, c0, c1, c2, c3, x1, x2⟩
/-- What Make knows. -/
structure MK (w W : World) (p : Plant) (P : PTL) (pg N : Nat) (g : Nat → Bool) (vb : Nat) (nv mv : Value) (s : VS) : Prop where
  bel : Below w.heap.size w W
  kp : Blk W w.heap.size 44 (ptcells p P)
  k4 : Blk W (w.heap.size + 1) 72 #[.slice none 0 0, .slice none 0 0]
  kg : RowC W pg 4 N (fun j => .bool (g j))
  kv : Blk W vb 72 #[nv, mv]
  hv : w.heap.size + 2 ≤ vb
  on : OwnN w.heap.size W (w.heap.size + 2) nv s.1
  om : OwnMv w.heap.size W (w.heap.size + 2) mv s.2
section
variable {w W : World} {p : Plant} {P : PTL} {pg N : Nat} {g : Nat → Bool} {vb : Nat} {nv mv : Value} {s : VS}
theorem MK.below {W' : World} (h : MK w W p P pg N g vb nv mv s) (hb : Below W.heap.size W W') : MK w W' p P pg N g vb nv mv s :=
  ⟨h.bel.trans (hb.mono h.bel.size), h.kp.below hb h.kp.lt, h.k4.below hb h.k4.lt, h.kg.below hb h.kg.lt, h.kv.below hb h.kv.lt, h.hv, h.on.below hb h.bel.size, h.om.below hb h.bel.size⟩
theorem MK.hB (h : MK w W p P pg N g vb nv mv s) : w.heap.size + 2 ≤ W.heap.size := by have := h.kv.lt; have := h.hv; omega
/-- A block of another type stays. -/
theorem grown_type {W2 W3 : World} {B n sz : Nat} {T : TypeId} {v : Value} {vs : List Value} (ho : W3.ownsRow B T sz v n vs) (gr : W3.grownBy W2 v.ownBlock) (q : Nat) (cs : Array Value) (t : TypeId) (ht : t ≠ T) (hq : W3.heap[q]? = some (.cells cs t (0, 0))) : W2.heap[q]? = W3.heap[q]? :=
  gr.block q (Array.getElem?_eq_some_iff.1 hq).1 (fun e => by
    obtain ⟨c2, h2⟩ := own_type ho e.symm
    rw [hq] at h2; cases h2; exact ht rfl)
/-- A node more. -/
theorem MK.pushN {W2 W3 : World} {nv' x : Value} {xs : List Int} {vs : List Value} (h : MK w W p P pg N g vb nv mv s) (hW3 : Below W.heap.size W W3) (ho : W3.ownsRow (w.heap.size + 2) 22 1 nv s.1.length vs) (hi : ∀ (j : Nat) (x : Value) (xs : List Int), vs[j]? = some x → s.1[j]? = some xs → InnN w.heap.size W3 x xs) (hx : InnN w.heap.size W3 x xs) (o1 : W2.ownsRow (w.heap.size + 2) 22 1 nv' (s.1.length + 1) (vs ++ [x])) (gr : W3.grownBy W2 nv.ownBlock) :
    Blk W2 vb 72 #[nv, mv] ∧ MK w (W2.setCell ⟨vb, 0, none⟩ nv') p P pg N g vb nv' mv (s.1 ++ [xs], s.2) ∧ ∀ (y : Value) (ys : List Int), InnN w.heap.size W3 y ys → InnN w.heap.size (W2.setCell ⟨vb, 0, none⟩ nv') y ys := by
  have h3 := h.below hW3
  have hv := h.hv
  have hty := grown_type ho gr
  have low : ∀ j, j < w.heap.size + 2 → W2.heap[j]? = W3.heap[j]? := fun j hj => gr.block j (Nat.lt_of_lt_of_le hj h3.hB) (fun e => by have := (World.ownsRow.lt ho j e.symm).1; omega)
  have kv3 : W3.heap[vb]? = some (.cells #[nv, mv] 72 (0, 0)) := h3.kv
  have kv2 : Blk W2 vb 72 #[nv, mv] := (hty _ _ _ (by decide) kv3).trans kv3
  have kv2' : W2.heap[vb]? = some (.cells #[nv, mv] 72 (0, 0)) := kv2
  have kpg : W2.heap[pg]? = W3.heap[pg]? := by obtain ⟨cs, hc, -⟩ := h3.kg; exact hty _ _ _ (by decide) hc
  have hgv : vb ≠ pg := fun e => by obtain ⟨cs, hc, -⟩ := h3.kg; have hc : W3.heap[pg]? = _ := hc; rw [← e, kv3] at hc; cases hc
  have kp : ∀ {y : Value} {ys : List Int}, InnN w.heap.size W3 y ys → InnN w.heap.size (W2.setCell ⟨vb, 0, none⟩ nv') y ys := fun hy => hy.kept (by have := gr.size; simpa [World.setCell] using this) (fun j hj => by rw [Below.heap_setCell _ _ _ _ (show j ≠ vb by omega), low j (by omega)]) (fun q cs hq => by rw [Below.heap_setCell _ _ _ _ (show q ≠ vb from fun e => by rw [e, kv3] at hq; cases hq), hty q cs _ (by decide) hq])
  refine ⟨kv2, ⟨?_, Blk.other ((low _ (by omega)).trans h3.kp) (by omega) _, Blk.other ((low _ (by omega)).trans h3.k4) (by omega) _, (h3.kg.same kpg).other hgv _, kv2.set 0 nv', hv, ?_, ?_⟩, fun y ys hy => kp hy⟩
  · exact (h3.bel.grown gr h3.bel.size (fun j hj => Nat.le_trans (by omega) (World.ownsRow.lt ho j hj).1)).setCell (p := ⟨vb, 0, none⟩) (show w.heap.size ≤ vb by omega) _
  · have hl : vs.length = s.1.length := by have := ho.1; omega
    refine ⟨vs ++ [x], by rw [List.length_append]; exact own_same o1 (fun k hk => Below.heap_setCell _ ⟨vb, 0, none⟩ _ k (fun e => by
      have e : k = vb := e
      obtain ⟨cs, hc⟩ := own_type o1 hk
      rw [e, kv2'] at hc; cases hc)), fun j y ys a b => ?_⟩
    by_cases hj : j < s.1.length
    · rw [List.getElem?_append_left (by omega)] at a
      rw [List.getElem?_append_left hj] at b
      exact kp (hi j y ys a b)
    · have hj2 : j < (s.1 ++ [xs]).length := (List.getElem?_eq_some_iff.1 b).1
      have : j = s.1.length := by simp at hj2; omega
      subst this
      rw [List.getElem?_append_right (by omega)] at a b
      rw [hl] at a
      simp at a b
      subst a; subst b
      exact kp hx
  · obtain ⟨us, hu, -⟩ := id h3.om
    refine h3.om.kept (by have := gr.size; simpa [World.setCell] using this) (fun k hk => ?_) (fun j hj => ?_) (fun q cs hq => ?_)
    · obtain ⟨cs, hc⟩ := own_type hu hk
      rw [Below.heap_setCell _ _ _ _ (show k ≠ vb from fun e => by rw [e, kv3] at hc; cases hc), hty k cs _ (by decide) hc]
    · rw [Below.heap_setCell _ _ _ _ (show j ≠ vb by omega), low j (by omega)]
    · rw [Below.heap_setCell _ _ _ _ (show q ≠ vb from fun e => by rw [e, kv3] at hq; cases hq), hty q cs _ (by decide) hq]
/-- A move more. -/
theorem MK.pushM {W2 W3 : World} {mv' x : Value} {m : Mv} {vs : List Value} (h : MK w W p P pg N g vb nv mv s) (hW3 : Below W.heap.size W W3) (ho : W3.ownsRow (w.heap.size + 2) 79 4 mv s.2.length vs)
    (hi : ∀ (k : Nat) (m : Mv), s.2[k]? = some m → vs[k * 4]? = some (.int .i64 (m.nd : Int)) ∧ vs[k * 4 + 1]? = some (.int .i64 m.ev) ∧ (∃ x, vs[k * 4 + 2]? = some x ∧ InnN w.heap.size W3 x m.st) ∧ vs[k * 4 + 3]? = some (.int .i64 (m.to : Int)))
    (hx : InnN w.heap.size W3 x m.st) (o1 : W2.ownsRow (w.heap.size + 2) 79 4 mv' (s.2.length + 1) (vs ++ [.int .i64 (m.nd : Int), .int .i64 m.ev, x, .int .i64 (m.to : Int)])) (gr : W3.grownBy W2 mv.ownBlock) :
    Blk W2 vb 72 #[nv, mv] ∧ MK w (W2.setCell ⟨vb, 1, none⟩ mv') p P pg N g vb nv mv' (s.1, s.2 ++ [m]) := by
  have h3 := h.below hW3
  have hv := h.hv
  have hty := grown_type ho gr
  have low : ∀ j, j < w.heap.size + 2 → W2.heap[j]? = W3.heap[j]? := fun j hj => gr.block j (Nat.lt_of_lt_of_le hj h3.hB) (fun e => by have := (World.ownsRow.lt ho j e.symm).1; omega)
  have kv3 : W3.heap[vb]? = some (.cells #[nv, mv] 72 (0, 0)) := h3.kv
  have kv2 : Blk W2 vb 72 #[nv, mv] := (hty _ _ _ (by decide) kv3).trans kv3
  have kv2' : W2.heap[vb]? = some (.cells #[nv, mv] 72 (0, 0)) := kv2
  have kpg : W2.heap[pg]? = W3.heap[pg]? := by obtain ⟨cs, hc, -⟩ := h3.kg; exact hty _ _ _ (by decide) hc
  have hgv : vb ≠ pg := fun e => by obtain ⟨cs, hc, -⟩ := h3.kg; have hc : W3.heap[pg]? = _ := hc; rw [← e, kv3] at hc; cases hc
  have kp : ∀ {y : Value} {ys : List Int}, InnN w.heap.size W3 y ys → InnN w.heap.size (W2.setCell ⟨vb, 1, none⟩ mv') y ys := fun hy => hy.kept (by have := gr.size; simpa [World.setCell] using this) (fun j hj => by rw [Below.heap_setCell _ _ _ _ (show j ≠ vb by omega), low j (by omega)]) (fun q cs hq => by rw [Below.heap_setCell _ _ _ _ (show q ≠ vb from fun e => by rw [e, kv3] at hq; cases hq), hty q cs _ (by decide) hq])
  refine ⟨kv2, ⟨?_, Blk.other ((low _ (by omega)).trans h3.kp) (by omega) _, Blk.other ((low _ (by omega)).trans h3.k4) (by omega) _, (h3.kg.same kpg).other hgv _, kv2.set 1 mv', hv, ?_, ?_⟩⟩
  · exact (h3.bel.grown gr h3.bel.size (fun j hj => Nat.le_trans (by omega) (World.ownsRow.lt ho j hj).1)).setCell (p := ⟨vb, 1, none⟩) (show w.heap.size ≤ vb by omega) _
  · obtain ⟨us, hu, -⟩ := id h3.on
    refine h3.on.kept (by have := gr.size; simpa [World.setCell] using this) (fun k hk => ?_) (fun j hj => ?_) (fun q cs hq => ?_)
    · obtain ⟨cs, hc⟩ := own_type hu hk
      rw [Below.heap_setCell _ _ _ _ (show k ≠ vb from fun e => by rw [e, kv3] at hc; cases hc), hty k cs _ (by decide) hc]
    · rw [Below.heap_setCell _ _ _ _ (show j ≠ vb by omega), low j (by omega)]
    · rw [Below.heap_setCell _ _ _ _ (show q ≠ vb from fun e => by rw [e, kv3] at hq; cases hq), hty q cs _ (by decide) hq]
  · have hl : vs.length = s.2.length * 4 := ho.1
    refine ⟨_, by rw [List.length_append]; exact own_same o1 (fun k hk => Below.heap_setCell _ ⟨vb, 1, none⟩ _ k (fun e => by
      have e : k = vb := e
      obtain ⟨cs, hc⟩ := own_type o1 hk
      rw [e, kv2'] at hc; cases hc)), fun k m' hm => ?_⟩
    by_cases hj : k < s.2.length
    · rw [List.getElem?_append_left hj] at hm
      obtain ⟨e0, e1, ⟨y, e2, e3⟩, e4⟩ := hi k m' hm
      refine ⟨?_, ?_, ⟨y, ?_, kp e3⟩, ?_⟩
      · rw [List.getElem?_append_left (by omega)]; exact e0
      · rw [List.getElem?_append_left (by omega)]; exact e1
      · rw [List.getElem?_append_left (by omega)]; exact e2
      · rw [List.getElem?_append_left (by omega)]; exact e4
    · have hj2 : k < (s.2 ++ [m]).length := (List.getElem?_eq_some_iff.1 hm).1
      have : k = s.2.length := by simp at hj2; omega
      subst this
      rw [List.getElem?_append_right (by omega)] at hm
      simp at hm
      subst hm
      refine ⟨?_, ?_, ⟨x, ?_, kp hx⟩, ?_⟩
      · rw [List.getElem?_append_right (by omega), hl, Nat.sub_self]; rfl
      · rw [List.getElem?_append_right (by omega), hl, show s.2.length * 4 + 1 - s.2.length * 4 = 1 by omega]; rfl
      · rw [List.getElem?_append_right (by omega), hl, show s.2.length * 4 + 2 - s.2.length * 4 = 2 by omega]; rfl
      · rw [List.getElem?_append_right (by omega), hl, show s.2.length * 4 + 3 - s.2.length * 4 = 3 by omega]; rfl
end
/-- At first. -/
theorem MK.start {W3 : World} {w : World} {p : Plant} {P : PTL} {pg N : Nat} {g : Nat → Bool} {F : List Int} {fv : Value} {B' : Nat} (B : Below w.heap.size w W3) (KP : Blk W3 w.heap.size 44 (ptcells p P)) (K4 : Blk W3 (w.heap.size + 1) 72 #[.slice none 0 0, .slice none 0 0]) (KG : RowC W3 pg 4 N (fun j => .bool (g j))) (OF : Own W3 B' fv F) :
    MK w ((W3.alloc (.cells #[fv] 22)).alloc (.cells #[.slice (some ⟨W3.heap.size, 0, none⟩) 1 1, .slice none 0 0] 72)) p P pg N g (W3.heap.size + 1) (.slice (some ⟨W3.heap.size, 0, none⟩) 1 1) (.slice none 0 0) ([F], []) := by
  have h1 := K4.lt
  have b1 : Below W3.heap.size W3 ((W3.alloc (.cells #[fv] 22)).alloc (.cells #[.slice (some ⟨W3.heap.size, 0, none⟩) 1 1, .slice none 0 0] 72)) := ((Below.refl _ _).alloc (Nat.le_refl _) _).alloc (by simp) _
  have kn : Blk ((W3.alloc (.cells #[fv] 22)).alloc (.cells #[.slice (some ⟨W3.heap.size, 0, none⟩) 1 1, .slice none 0 0] 72)) W3.heap.size 22 #[fv] := (Blk.new W3 _ _).alloc _
  refine ⟨B.trans (b1.mono B.size), KP.below b1 KP.lt, K4.below b1 K4.lt, KG.below b1 KG.lt, ?_, by omega, ⟨[fv], ⟨rfl, .inr ⟨W3.heap.size, 1, #[fv], rfl, by omega, kn, Nat.le_refl _, by unfold maxLen; omega, rfl, rfl⟩⟩, fun j x xs a b => ?_⟩, ⟨[], ⟨rfl, .inl ⟨rfl, rfl⟩⟩, fun k m hm => by simp at hm⟩⟩
  · have := Blk.new (W3.alloc (.cells #[fv] 22)) 72 #[.slice (some ⟨W3.heap.size, 0, none⟩) 1 1, .slice none 0 0]
    rwa [World.size_alloc] at this
  · have hj : j = 0 := by have := (List.getElem?_eq_some_iff.1 b).1; simpa using this
    subst hj
    simp at a b
    subst a; subst b
    exact (InnN.of_own OF).kept b1.size (fun j hj => b1.block j (by have := B.size; omega)) (fun q cs hq => b1.block q (Array.getElem?_eq_some_iff.1 hq).1)
/-- At the end: what is handed back. -/
theorem MK.fin {w W : World} {p : Plant} {P : PTL} {pg N : Nat} {g : Nat → Bool} {vb : Nat} {nv mv : Value} {s : VS} (h : MK w W p P pg N g vb nv mv s) (h1 : s.1.length ≤ 64) (h2 : s.2.length ≤ 4096) : ∃ L : VL, nv = .slice L.na s.1.length L.nc ∧ mv = .slice L.ma s.2.length L.mc ∧ VAt ((W.setCell ⟨w.heap.size + 1, 0, none⟩ nv).setCell ⟨w.heap.size + 1, 1, none⟩ mv) s L := by
  have k4 : W.heap[w.heap.size + 1]? = some (.cells #[.slice none 0 0, .slice none 0 0] 72 (0, 0)) := h.k4
  have hs : ∀ q, q ≠ w.heap.size + 1 → ((W.setCell ⟨w.heap.size + 1, 0, none⟩ nv).setCell ⟨w.heap.size + 1, 1, none⟩ mv).heap[q]? = W.heap[q]? := fun q hq => by
    rw [Below.heap_setCell _ _ _ _ (show q ≠ w.heap.size + 1 from hq), Below.heap_setCell _ _ _ _ (show q ≠ w.heap.size + 1 from hq)]
  have hz : W.heap.size ≤ ((W.setCell ⟨w.heap.size + 1, 0, none⟩ nv).setCell ⟨w.heap.size + 1, 1, none⟩ mv).heap.size := by simp [World.setCell]
  have hint : ∀ (q : Nat) (cs : Array Value), W.heap[q]? = some (.cells cs 3 (0, 0)) → ((W.setCell ⟨w.heap.size + 1, 0, none⟩ nv).setCell ⟨w.heap.size + 1, 1, none⟩ mv).heap[q]? = W.heap[q]? := fun q cs hq => hs q (fun e => by rw [e, k4] at hq; cases hq)
  obtain ⟨vs, ho, -⟩ := id h.on
  obtain ⟨us, hu, -⟩ := id h.om
  have on' := h.on.kept hz (fun k hk => hs k (fun e => by obtain ⟨cs, hc⟩ := own_type ho hk; rw [e, k4] at hc; cases hc)) (fun j hj => hs j (by omega)) hint
  have om' := h.om.kept hz (fun k hk => hs k (fun e => by obtain ⟨cs, hc⟩ := own_type hu hk; rw [e, k4] at hc; cases hc)) (fun j hj => hs j (by omega)) hint
  obtain ⟨na, nc, e1, a1⟩ := on'.at2
  obtain ⟨ma, mc, e2, a2⟩ := om'.at
  exact ⟨⟨na, nc, ma, mc⟩, e1, e2, ⟨a1, a2, h1, h2⟩⟩
theorem veStep_len (p : Plant) (g : List Int → Bool) (free : List Int) (n : Nat) (node : List Int) (s : VS) (e : Int) : (veStep p g free n node s e).2.length ≤ s.2.length + 1 := by
  unfold veStep
  by_cases h : (stayV p g free node e).length = 0
  · rw [if_pos h]; omega
  · rw [if_neg h]; simp
theorem veRow_len (p : Plant) (g : List Int → Bool) (free : List Int) (n : Nat) (node : List Int) (s : VS) : ∀ k, k ≤ p.seen.length → (veRow p g free n node s k).2.length ≤ s.2.length + k
  | 0, _ => by show s.2.length ≤ _; omega
  | k + 1, hk => by
    have h1 := veRow_len p g free n node s k (by omega)
    have h2 := veStep_len p g free n node (veRow p g free n node s k) p.seen[k]
    rw [veRow_succ (List.getElem?_eq_getElem (by omega))]
    omega
/-- Looking a row up. -/
theorem posN_skip {l : List (List Int)} {x y : List Int} {k : Nat} (hk : l[k]? = some y) (h : posN l x = k + posN (l.drop k) x) (hn : y ≠ x) : posN l x = (k + 1) + posN (l.drop (k + 1)) x := by
  have hlt := (List.getElem?_eq_some_iff.1 hk).1
  have hy := (List.getElem?_eq_some_iff.1 hk).2
  rw [h, List.drop_eq_getElem_cons hlt, hy]
  show k + (if y = x then 0 else posN (l.drop (k + 1)) x + 1) = _
  rw [if_neg hn]; omega
theorem posN_hit {l : List (List Int)} {x y : List Int} {k : Nat} (hk : l[k]? = some y) (h : posN l x = k + posN (l.drop k) x) (hn : y = x) : posN l x = k := by
  have hlt := (List.getElem?_eq_some_iff.1 hk).1
  have hy := (List.getElem?_eq_some_iff.1 hk).2
  rw [h, List.drop_eq_getElem_cons hlt, hy]
  show k + (if y = x then 0 else posN (l.drop (k + 1)) x + 1) = _
  rw [if_pos hn]; rfl
theorem posN_end {l : List (List Int)} {x : List Int} (h : posN l x = l.length + posN (l.drop l.length) x) : posN l x = l.length := by
  rw [h, List.drop_length]; rfl
/-- What Make leaves. -/
def MakePost (w : World) (o : Option VS) (e : Ending) (w' : World) : Prop := match o with
  | none => e = .returned (.tuple #[.agg #[.slice none 0 0, .slice none 0 0], .bool false]) ∧ Below w.heap.size w w'
  | some v => ∃ L : VL, e = .returned (.tuple #[vval v L, .bool true]) ∧ VAt w' v L ∧ Below w.heap.size w w'

end Go.Proofs.YtmlkpdeidpcidaaDoor
