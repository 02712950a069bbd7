/-
  The walk of secret.Leak.
-/
import Derived.Test.YtmlkpdeidpcidaaDoorEQFnd
import Derived.Test.YtmlkpdeidpcidaaDoorEQWat
import Derived.Test.YtmlkpdeidpcidaaDoorEQPar
import Derived.Test.YtmlkpdeidpcidaaDoorI27
import Derived.Test.YtmlkpdeidpcidaaDoorI21
import Derived.Test.YtmlkpdeidpcidaaDoorI23
namespace Go.Proofs.YtmlkpdeidpcidaaDoor
open Go.RowKit
set_option linter.unusedVariables false

theorem OwnG.rd {W : World} {B : Nat} {v : Value} {L : List PlC} (h : OwnG W B v L) : ∃ a c, v = .slice a L.length c ∧ RdC W a L := by
  rcases h.2 with ⟨rfl, hn⟩ | ⟨g, cap, cur, rfl, hg, hh, hnc, hcm, hcs, ht⟩
  · have : L = [] := List.eq_nil_of_length_eq_zero hn
    subst this
    exact ⟨none, 0, rfl, .inl rfl⟩
  · refine ⟨_, cap, rfl, .inr ⟨g, 0, rfl, (Array.getElem?_eq_some_iff.1 hh).1, fun k q hq j u hu => ?_⟩⟩
    obtain ⟨g', cap', e, -, -, hc⟩ := h.cell hq
    cases e
    rw [Nat.zero_add]
    exact hc j u hu

set_option maxRecDepth 100000 in
set_option maxHeartbeats 4000000 in
theorem pSec_err (a b : Mach) (la lb : ML) (sa : Option Addr) (sc : Nat) (seen : List Int) (w : World) (h : Hid (MAt w a la)) (h' : Hid (MAt w b lb)) (hs : Hid (At w sa seen)) (hsl : Hid (seen.length ≤ maxLen)) (c : Int) (hc : Hid (secErr a b seen = c)) (h0 : (c != 0) = true) :
    Calls Tryd.prog 45 #[mval a la, mval b lb, .slice sa seen.length sc] w fun e w' => LeakPost w (secOut a b seen) e w' := by
  have B0 : Hid (Below w.heap.size w ((w.alloc (.cells (mcells a la) 25)).alloc (.cells (mcells b lb) 25))) := ((Below.refl _ _).alloc (Nat.le_refl _) _).alloc (by simp) _
  have KA : Hid (Blk ((w.alloc (.cells (mcells a la) 25)).alloc (.cells (mcells b lb) 25)) w.heap.size 25 (mcells a la)) := (Blk.new w _ _).alloc _
  have KB : Hid (Blk ((w.alloc (.cells (mcells a la) 25)).alloc (.cells (mcells b lb) 25)) (w.heap.size + 1) 25 (mcells b lb)) := by
    have := Blk.new (w.alloc (.cells (mcells a la) 25)) 25 (mcells b lb)
    rwa [World.size_alloc] at this
  have HO : Hid (secOut a b seen = (false, [], c)) := secOut_bad hc.out (by intro e; rw [e] at h0; cases h0)
  go_enter Tryd.func45, Tryd.ntmps45
  obtain ⟨x0, x1, x2, x3, x4⟩ := mcell_at KA.out
  obtain ⟨y0, y1, y2, y3, y4⟩ := mcell_at KB.out
  go_wp2_with fail
  clear x0 x1 x2 x3 x4 y0 y1 y2 y3 y4 KA KB
  revert B0
  generalize (w.alloc (.cells (mcells a la) 25)).alloc (.cells (mcells b lb) 25) = V0
  intro B0
  refine (qrefuse_any a b la lb sa sc seen V0 (Hid.of (h.out.below B0.out (Nat.le_refl _))) (Hid.of (h'.out.below B0.out (Nat.le_refl _))) (Hid.of (hs.out.below B0.out (Nat.le_refl _))) hsl).mono ?_
  rintro e V1 ⟨rfl, hb⟩
  rw [hc.out]
  have B1 := Hid.of (B0.out.trans (hb.mono B0.out.size))
  clear hb
  go_wp2_with fail
  refine bodyPost_ret (v := .tuple #[.bool false, .slice none 0 0, .int .i64 c]) (by simp [results, go_sem]) rfl ?_
  rw [HO.out]
  exact ⟨none, 0, rfl, .inl rfl, Nat.zero_le _, B1.out⟩

set_option maxRecDepth 100000 in
set_option maxHeartbeats 16000000 in
theorem pSec_ok (st sb ev : Nat) (starts startsB : List Int) (ars arsB : List Arr) (ends endsB : List Int) (a1 : Option Addr) (c1 : Nat) (a2 : Option Addr) (c2 : Nat) (a3 : Option Addr) (c3 : Nat) (b1 : Option Addr) (d1 : Nat) (b2 : Option Addr) (d2 : Nat) (b3 : Option Addr) (d3 : Nat) (sa : Option Addr) (sc : Nat) (seen : List Int) (hma : Hid (mayB ⟨(st : Int), (ev : Int), starts, ars, ends⟩ = true)) (hmb : Hid (mayB ⟨(sb : Int), (ev : Int), startsB, arsB, endsB⟩ = true)) (z6 : st ≤ 6) (z4 : sb ≤ 4) (hsr : Hid (rowB (ev : Int) seen = true)) (w : World) (hT : Hid (Tab w)) (h : Hid (MAt w ⟨(st : Int), (ev : Int), starts, ars, ends⟩ ⟨a1, c1, a2, c2, a3, c3⟩)) (h' : Hid (MAt w ⟨(sb : Int), (ev : Int), startsB, arsB, endsB⟩ ⟨b1, d1, b2, d2, b3, d3⟩)) (hs : Hid (At w sa seen)) (hsl : Hid (seen.length ≤ maxLen)) :
    Calls Tryd.prog 45 #[mval ⟨(st : Int), (ev : Int), starts, ars, ends⟩ ⟨a1, c1, a2, c2, a3, c3⟩, mval ⟨(sb : Int), (ev : Int), startsB, arsB, endsB⟩ ⟨b1, d1, b2, d2, b3, d3⟩, .slice sa seen.length sc] w fun e w' => LeakPost w (secOut ⟨(st : Int), (ev : Int), starts, ars, ends⟩ ⟨(sb : Int), (ev : Int), startsB, arsB, endsB⟩ seen) e w' := by
  have zm : Hid ((⟨(st : Int), (ev : Int), starts, ars, ends⟩ : Mach).st ≤ 6) := by show (st : Int) ≤ 6; omega
  have zs : Hid ((⟨(sb : Int), (ev : Int), startsB, arsB, endsB⟩ : Mach).st ≤ 4) := by show (sb : Int) ≤ 4; omega
  have HE0 : Hid (secErr ⟨(st : Int), (ev : Int), starts, ars, ends⟩ ⟨(sb : Int), (ev : Int), startsB, arsB, endsB⟩ seen = 0) := secErr_ok hma.out hmb.out rfl hsr.out zm.out zs.out
  have B : Hid (Below w.heap.size w ((w.alloc (.cells (mcells ⟨(st : Int), (ev : Int), starts, ars, ends⟩ ⟨a1, c1, a2, c2, a3, c3⟩) 25)).alloc (.cells (mcells ⟨(sb : Int), (ev : Int), startsB, arsB, endsB⟩ ⟨b1, d1, b2, d2, b3, d3⟩) 25))) := ((Below.refl _ _).alloc (Nat.le_refl _) _).alloc (by simp) _
  have KA : Hid (Blk ((w.alloc (.cells (mcells ⟨(st : Int), (ev : Int), starts, ars, ends⟩ ⟨a1, c1, a2, c2, a3, c3⟩) 25)).alloc (.cells (mcells ⟨(sb : Int), (ev : Int), startsB, arsB, endsB⟩ ⟨b1, d1, b2, d2, b3, d3⟩) 25)) w.heap.size 25 (mcells ⟨(st : Int), (ev : Int), starts, ars, ends⟩ ⟨a1, c1, a2, c2, a3, c3⟩)) := (Blk.new w _ _).alloc _
  have KB : Hid (Blk ((w.alloc (.cells (mcells ⟨(st : Int), (ev : Int), starts, ars, ends⟩ ⟨a1, c1, a2, c2, a3, c3⟩) 25)).alloc (.cells (mcells ⟨(sb : Int), (ev : Int), startsB, arsB, endsB⟩ ⟨b1, d1, b2, d2, b3, d3⟩) 25)) (w.heap.size + 1) 25 (mcells ⟨(sb : Int), (ev : Int), startsB, arsB, endsB⟩ ⟨b1, d1, b2, d2, b3, d3⟩)) := by
    have := Blk.new (w.alloc (.cells (mcells ⟨(st : Int), (ev : Int), starts, ars, ends⟩ ⟨a1, c1, a2, c2, a3, c3⟩) 25)) 25 (mcells ⟨(sb : Int), (ev : Int), startsB, arsB, endsB⟩ ⟨b1, d1, b2, d2, b3, d3⟩)
    rwa [World.size_alloc] at this
  go_enter Tryd.func45, Tryd.ntmps45
  obtain ⟨x0, x1, x2, x3, x4⟩ := mcell_at KA.out
  obtain ⟨y0, y1, y2, y3, y4⟩ := mcell_at KB.out
  go_wp2_with fail
  clear x0 x1 x2 x3 x4 y0 y1 y2 y3 y4
  revert B KA KB
  generalize ((w.alloc (.cells (mcells ⟨(st : Int), (ev : Int), starts, ars, ends⟩ ⟨a1, c1, a2, c2, a3, c3⟩) 25)).alloc (.cells (mcells ⟨(sb : Int), (ev : Int), startsB, arsB, endsB⟩ ⟨b1, d1, b2, d2, b3, d3⟩) 25)) = V0
  intro B KA KB
  refine (qrefuse_any ⟨(st : Int), (ev : Int), starts, ars, ends⟩ ⟨(sb : Int), (ev : Int), startsB, arsB, endsB⟩ ⟨a1, c1, a2, c2, a3, c3⟩ ⟨b1, d1, b2, d2, b3, d3⟩ sa sc seen V0 (Hid.of (h.out.below B.out (Nat.le_refl _))) (Hid.of (h'.out.below B.out (Nat.le_refl _))) (Hid.of (hs.out.below B.out (Nat.le_refl _))) hsl).mono ?_
  rintro e V1 ⟨rfl, hb⟩
  rw [HE0.out]
  replace B := Hid.of (B.out.trans (hb.mono B.out.size))
  replace KA := Hid.of (KA.out.below hb KA.out.lt)
  replace KB := Hid.of (KB.out.below hb KB.out.lt)
  clear hb
  obtain ⟨x0, x1, x2, x3, x4⟩ := mcell_at KA.out
  obtain ⟨y0, y1, y2, y3, y4⟩ := mcell_at KB.out
  dsimp only at x0 x1 x2 x3 x4 y0 y1 y2 y3 y4
  go_wp2_with fail
  clear x0 x1 x2 x3 x4 y0 y1 y2 y3 y4
  refine (qwatch_go st sb ev starts startsB ars arsB ends endsB a1 c1 a2 c2 a3 c3 b1 d1 b2 d2 b3 d3 sa sc seen hma hmb z6 z4 V1 (Hid.of (hT.out.below B.out hT.out.lt)) (Hid.of (h.out.below B.out (Nat.le_refl _))) (Hid.of (h'.out.below B.out (Nat.le_refl _))) (Hid.of (hs.out.below B.out (Nat.le_refl _))) hsl).mono ?_
  rintro e V2 ⟨F, p8, p9, pA, pB, LA, LC, ua, uc, rfl, rf, wq, hb⟩
  have HRF : Hid (RepI F (nF ⟨(st : Int), (ev : Int), starts, ars, ends⟩ ⟨(sb : Int), (ev : Int), startsB, arsB, endsB⟩ seen)) := rep_nF hma.out hmb.out zm.out zs.out rf
  replace B := Hid.of (B.out.trans (hb.mono B.out.size))
  replace KA := Hid.of (KA.out.below hb KA.out.lt)
  replace KB := Hid.of (KB.out.below hb KB.out.lt)
  have HWQ := Hid.of wq
  clear hb wq rf
  have hb : Below V2.heap.size V2 (V2.alloc (.cells (scells F) 85)) := (Below.refl _ _).alloc (Nat.le_refl _) _
  replace B := Hid.of (B.out.trans (hb.mono B.out.size))
  replace KA := Hid.of (KA.out.below hb KA.out.lt)
  replace KB := Hid.of (KB.out.below hb KB.out.lt)
  replace HWQ := Hid.of (HWQ.out.kept hb)
  have KF := Hid.of (show SB (V2.alloc (.cells (scells F) 85)) V2.heap.size F from Blk.new V2 _ _)
  clear hb
  obtain ⟨f0, f1, f2, f3⟩ := SB.cells KF.out
  go_wp2_with fail
  clear f0 f1 f2 f3 KF
  revert B KA KB HWQ
  generalize V2.alloc (.cells (scells F) 85) = V3
  generalize V2.heap.size = p10
  intro B KA KB HWQ
  refine (qfind_go ⟨(st : Int), (ev : Int), starts, ars, ends⟩ ⟨(sb : Int), (ev : Int), startsB, arsB, endsB⟩ seen F hma hmb zm zs rfl hsr HRF sa sc p8 p9 pA pB LA LC ua uc V3 (Hid.of (hT.out.below B.out hT.out.lt)) HWQ (Hid.of (hs.out.below B.out (Nat.le_refl _)))).mono ?_
  rintro e V4 (⟨hn, rfl, hb⟩ | ⟨l, v, L, hf, rfl, pls, hb⟩)
  · have HN := Hid.of (outN_big hma.out hmb.out zm.out zs.out hn)
    replace B := Hid.of (B.out.trans (hb.mono B.out.size))
    clear hb hn
    go_wp2_with fail
    refine bodyPost_ret (v := .tuple #[.bool false, .slice none 0 0, .int .i64 1]) (by simp [results, go_sem]) rfl ?_
    rw [secOut_big HE0.out HN.out]
    exact ⟨none, 0, rfl, .inl rfl, Nat.zero_le _, B.out⟩
  · replace B := Hid.of (B.out.trans (hb.mono B.out.size))
    replace KA := Hid.of (KA.out.below hb KA.out.lt)
    replace KB := Hid.of (KB.out.below hb KB.out.lt)
    obtain ⟨ra, rc, hv, rd⟩ := pls.ow.rd
    subst hv
    have HRD := Hid.of rd
    have HIN : Hid (∀ q ∈ L, InnW 0 V4 q.v q.word) := pls.inn
    have HRP : Hid (RepCL L l) := pls.rep
    have HWD : Hid (WdC seen L l) := pls.wd
    have HFN := Hid.of hf
    have HBI := Hid.of (fndN_len hma.out hmb.out zm.out zs.out hf)
    have hll : L.length ≤ 256 := by rw [pls.rep.len]; exact HBI.out.2
    clear hb pls rd hf HWQ
    obtain ⟨x0, x1, x2, x3, x4⟩ := mcell_at KA.out
    obtain ⟨y0, y1, y2, y3, y4⟩ := mcell_at KB.out
    dsimp only at x0 x1 x2 x3 x4 y0 y1 y2 y3 y4
    go_wp2_with fail
    clear x0 x1 x2 x3 x4 y0 y1 y2 y3 y4
    refine (parts_go st sb ev starts startsB ars arsB ends endsB a1 c1 a2 c2 a3 c3 b1 d1 b2 d2 b3 d3 hma hmb z6 z4 V4 (Hid.of (hT.out.below B.out hT.out.lt)) (Hid.of (h.out.below B.out (Nat.le_refl _))) (Hid.of (h'.out.below B.out (Nat.le_refl _)))).mono ?_
    rintro e V5 ⟨rfl, hb⟩
    have HLK : Hid (∀ (c : List Pla) (S : Nat → Nat), (∀ x ∈ c, x ∈ allQ ⟨(st : Int), (ev : Int), starts, ars, ends⟩ ⟨(sb : Int), (ev : Int), startsB, arsB, endsB⟩) → Rep S (c.map encQ) → (meetB S (secF (ofS ends) (ofS endsB) true 16) && !meetB S (secF (ofS ends) (ofS endsB) false 16)) = leakQ ⟨(st : Int), (ev : Int), starts, ars, ends⟩ ⟨(sb : Int), (ev : Int), startsB, arsB, endsB⟩ c) := fun c S hc hr => leak_part hma.out hmb.out zm.out zs.out hc hr
    have okT := Hid.of (ok_secF (ofS ends) (ofS endsB) true 16)
    have okU := Hid.of (ok_secF (ofS ends) (ofS endsB) false 16)
    generalize secF (ofS ends) (ofS endsB) true 16 = T at *
    generalize secF (ofS ends) (ofS endsB) false 16 = U at *
    have hb2 : Below V5.heap.size V5 ((V5.alloc (.cells (scells T) 85)).alloc (.cells (scells U) 85)) := ((Below.refl _ _).alloc (Nat.le_refl _) _).alloc (by simp) _
    have hb3 := hb.trans (hb2.mono hb.size)
    replace B := Hid.of (B.out.trans (hb3.mono B.out.size))
    replace HRD := Hid.of (HRD.out.below hb3)
    replace HIN : Hid (∀ q ∈ L, InnW 0 ((V5.alloc (.cells (scells T) 85)).alloc (.cells (scells U) 85)) q.v q.word) := fun q hq => (HIN.out q hq).below hb3 (Nat.zero_le _)
    have KT : Hid (SB ((V5.alloc (.cells (scells T) 85)).alloc (.cells (scells U) 85)) V5.heap.size T) := (Blk.new V5 _ _).alloc _
    have KU : Hid (SB ((V5.alloc (.cells (scells T) 85)).alloc (.cells (scells U) 85)) (V5.heap.size + 1) U) := by
      have := Blk.new (V5.alloc (.cells (scells T) 85)) 85 (scells U)
      rwa [World.size_alloc] at this
    clear hb hb2 hb3 KA KB
    go_wp2_with fail
    revert B HRD HIN KT KU
    generalize (V5.alloc (.cells (scells T) 85)).alloc (.cells (scells U) 85) = V
    generalize V5.heap.size + 1 = pu
    generalize V5.heap.size = pt
    intro B HRD HIN KT KU
    have HN0 : Hid (∀ (j : Nat) (y : List Int × List Int), j < 0 → l[j]? = some y → leakN ⟨(st : Int), (ev : Int), starts, ars, ends⟩ ⟨(sb : Int), (ev : Int), startsB, arsB, endsB⟩ y.1 = false) := fun j y hj => absurd hj (Nat.not_lt_zero _)
    have B0 : Hid (Below V.heap.size V V) := Below.refl _ _
    go_loopw [49] (fun i wr => ∃ k : Nat, i = .int .i64 k ∧ k ≤ L.length ∧ Hid (Below V.heap.size V wr) ∧ Hid (∀ (j : Nat) (y : List Int × List Int), j < k → l[j]? = some y → leakN ⟨(st : Int), (ev : Int), starts, ars, ends⟩ ⟨(sb : Int), (ev : Int), startsB, arsB, endsB⟩ y.1 = false)) (fun i _ => L.length - (intOf i).toNat)
    case atStart => exact ⟨0, rfl, Nat.zero_le _, B0, HN0⟩
    case round =>
      clear B0 HN0
      obtain ⟨k, rfl, hk, HB, HN⟩ := hrel
      by_cases hlt : k < L.length
      · obtain ⟨q, HQ⟩ : ∃ q, Hid (L[k]? = some q) := ⟨_, List.getElem?_eq_getElem hlt⟩
        obtain ⟨x, hx, hrx⟩ := HRP.out.rep k q HQ.out
        have HX := Hid.of hx
        have HRX := Hid.of hrx.1
        have HWX : Hid (q.word = wordS seen x.2) := HWD.out k q x HQ.out hx
        obtain ⟨za, zc, hzv, hat, hzl, -⟩ := (HIN.out q (List.mem_of_getElem? HQ.out)).at
        have HAT := Hid.of hat
        have HZL := Hid.of hzl
        have HFR := Hid.of (found_rdy hma.out hmb.out zm.out zs.out HBI.out.1 (List.mem_of_getElem? hx) hrx.1).1
        rcases HRD.out with h0 | ⟨g, o, hra, hg, hc⟩
        · rw [h0] at hlt; simp at hlt
        subst hra
        obtain ⟨qs, qv, qw⟩ := q
        dsimp only at hzv HAT HZL HWX HRX HFR
        subst hzv
        have HOUT : Hid ((meetB qs T && !meetB qs U) = leakN ⟨(st : Int), (ev : Int), starts, ars, ends⟩ ⟨(sb : Int), (ev : Int), startsB, arsB, endsB⟩ x.1) := HLK.out _ _ (decL_in _) HFR.out
        obtain ⟨d0, d1, d2, d3, d4⟩ := rdc_cells (hc k _ HQ.out)
        have c0 := (HB.out.cell (p := ⟨g, o + k * 5, none⟩) hg).trans d0
        have c1 := (HB.out.cell (p := ⟨g, o + k * 5 + 1, none⟩) hg).trans d1
        have c2 := (HB.out.cell (p := ⟨g, o + k * 5 + 2, none⟩) hg).trans d2
        have c3 := (HB.out.cell (p := ⟨g, o + k * 5 + 3, none⟩) hg).trans d3
        have c4 := (HB.out.cell (p := ⟨g, o + k * 5 + 4, none⟩) hg).trans d4
        dsimp only at c0 c1 c2 c3 c4
        have N1 : Hid (Blk (wr.alloc (.cells (pcarr ⟨qs, .slice za qw.length zc, qw⟩) 142)) wr.heap.size 142 (pcarr ⟨qs, .slice za qw.length zc, qw⟩)) := Blk.new wr _ _
        have B1 : Hid (Below V.heap.size V (wr.alloc (.cells (pcarr ⟨qs, .slice za qw.length zc, qw⟩) 142))) := HB.out.alloc HB.out.size _
        obtain ⟨n0, n1, n2, n3, n4⟩ := PGk.cells N1.out
        obtain ⟨y0, y1, y2, y3⟩ := SB.cells (KT.out.below B1.out KT.out.lt)
        have hltI : (k : Int) < (L.length : Int) := by omega
        clear hx hrx hat hzl hc d0 d1 d2 d3 d4
        go_wp2_with fail
        clear c0 c1 c2 c3 c4 n0 n1 n2 n3 n4 y0 y1 y2 y3 hltI HB
        revert N1 B1
        generalize wr.alloc (.cells (pcarr ⟨qs, .slice za qw.length zc, qw⟩) 142) = W1
        generalize wr.heap.size = pq
        intro N1 B1
        refine (meets_any qs T W1 HRX.out.ok okT.out).mono ?_
        rintro e W2 ⟨rfl, hb⟩
        have N2 := Hid.of (N1.out.below hb N1.out.lt)
        have B2 := Hid.of (B1.out.trans (hb.mono B1.out.size))
        clear hb N1 B1
        cases hmt : meetB qs T with
        | false =>
          have HNN : Hid (∀ (j : Nat) (y : List Int × List Int), j < k + 1 → l[j]? = some y → leakN ⟨(st : Int), (ev : Int), starts, ars, ends⟩ ⟨(sb : Int), (ev : Int), startsB, arsB, endsB⟩ y.1 = false) := no_more (f := leakN ⟨(st : Int), (ev : Int), starts, ars, ends⟩ ⟨(sb : Int), (ev : Int), startsB, arsB, endsB⟩) HN.out HX.out (by rw [← HOUT.out, hmt]; rfl)
          clear hmt HOUT
          go_wp2_with fail
          go_roundw
          case rel => exact ⟨k + 1, by go_num, by omega, B2, HNN⟩
          case measure => simp [intOf]; omega
        | true =>
          have HMT := Hid.of hmt
          clear hmt
          obtain ⟨n0, n1, n2, n3, n4⟩ := PGk.cells N2.out
          obtain ⟨y0, y1, y2, y3⟩ := SB.cells (KU.out.below B2.out KU.out.lt)
          go_wp2_with fail
          clear n0 n1 n2 n3 n4 y0 y1 y2 y3
          refine (meets_any qs U W2 HRX.out.ok okU.out).mono ?_
          rintro e W3 ⟨rfl, hb⟩
          replace N2 := Hid.of (N2.out.below hb N2.out.lt)
          replace B2 := Hid.of (B2.out.trans (hb.mono B2.out.size))
          clear hb
          cases hmu : meetB qs U with
          | true =>
            have HNN : Hid (∀ (j : Nat) (y : List Int × List Int), j < k + 1 → l[j]? = some y → leakN ⟨(st : Int), (ev : Int), starts, ars, ends⟩ ⟨(sb : Int), (ev : Int), startsB, arsB, endsB⟩ y.1 = false) := no_more (f := leakN ⟨(st : Int), (ev : Int), starts, ars, ends⟩ ⟨(sb : Int), (ev : Int), startsB, arsB, endsB⟩) HN.out HX.out (by rw [← HOUT.out, HMT.out, hmu]; rfl)
            clear hmu HOUT HMT
            go_wp2_with fail
            go_roundw
            case rel => exact ⟨k + 1, by go_num, by omega, B2, HNN⟩
            case measure => simp [intOf]; omega
          | false =>
            have HW : Hid (outQ ⟨(st : Int), (ev : Int), starts, ars, ends⟩ ⟨(sb : Int), (ev : Int), startsB, arsB, endsB⟩ seen = some (some qw)) := by
              show _ = _
              rw [HWX.out]
              exact outN_found hma.out hmb.out zm.out zs.out HFN.out HN.out HX.out (by rw [← HOUT.out, HMT.out, hmu]; rfl)
            clear hmu HOUT HMT
            go_wp2_with fail
            refine wp_region_held_drew (S := fun w' => w'.cell? ⟨pq, 4, none⟩ = some (.slice za qw.length zc)) (by kernel_rfl) ((Blk.drew N2.out).cell 4 rfl) (fun hS => ?_)
            refine wpAnyH_take (i := 0) (v := .pointer (some ⟨pq, 4, none⟩)) rfl (by kernel_rfl) (by kernel_rfl) (by kernel_rfl) (fun _ _ _ h => h) (Or.inl ⟨by kernel_rfl, fun w' hw' => by go_simp⟩) hS ?_
            refine wpAnyH_take (i := 1) (v := .slice za qw.length zc) rfl (by kernel_rfl) (by kernel_rfl) (by kernel_rfl) (fun _ _ _ h => h) (Or.inl ⟨by kernel_rfl, fun w' hw' => by go_simp⟩) hS ?_
            refine wpAnyH_take (i := 2) (v := .bool true) rfl (by kernel_rfl) (by kernel_rfl) (by kernel_rfl) (fun _ _ _ h => h) (Or.inl ⟨by kernel_rfl, fun w' hw' => by go_simp⟩) hS ?_
            refine wpAnyH_take (i := 3) (v := .slice za qw.length zc) rfl (by kernel_rfl) (by kernel_rfl) (by kernel_rfl) (fun _ _ _ h => h) (Or.inl ⟨by kernel_rfl, fun w' hw' => by go_simp⟩) hS ?_
            refine wpAnyH_take (i := 4) (v := .int .i64 0) rfl (by kernel_rfl) (by kernel_rfl) (by kernel_rfl) (fun _ _ _ h => h) (Or.inl ⟨by kernel_rfl, fun w' hw' => by go_simp⟩) hS ?_
            refine wpAnyH_done (by kernel_rfl) ?_ _
            clear hS
            go_wp2_with fail
            refine bodyPost_ret (v := .tuple #[.bool true, .slice za qw.length zc, .int .i64 0]) (by simp [results, go_sem]) rfl ?_
            rw [secOut_ok HE0.out HW.out]
            exact ⟨za, zc, rfl, HAT.out.below B2.out.drew (Nat.le_refl _), HZL.out, B.out.trans (B2.out.drew.mono B.out.size)⟩
      · have hkl : k = L.length := by omega
        subst hkl
        have HW : Hid (outQ ⟨(st : Int), (ev : Int), starts, ars, ends⟩ ⟨(sb : Int), (ev : Int), startsB, arsB, endsB⟩ seen = some none) := outN_not hma.out hmb.out zm.out zs.out HFN.out HN.out (by rw [HRP.out.len]; exact Nat.le_refl _)
        clear hlt
        go_wp2_with fail
        refine bodyPost_ret (v := .tuple #[.bool false, .slice none 0 0, .int .i64 0]) (by simp [results, go_sem]) rfl ?_
        rw [secOut_ok HE0.out HW.out]
        exact ⟨none, 0, rfl, .inl rfl, Nat.zero_le _, B.out.trans (HB.out.mono B.out.size)⟩

theorem pSec_any (m s : Mach) (lm ls : ML) (sa : Option Addr) (sc : Nat) (seen : List Int) (w : World) (h : MAt w m lm) (h' : MAt w s ls) (hs : At w sa seen) (hsl : seen.length ≤ maxLen) (hT : Tab w) :
    Calls Tryd.prog 45 #[mval m lm, mval s ls, .slice sa seen.length sc] w fun e w' => LeakPost w (secOut m s seen) e w' := by
  by_cases h0 : secErr m s seen = 0
  · have h1 := h0
    unfold secErr at h1
    by_cases hm : mayB m = true ∧ mayB s = true
    · rw [if_pos hm] at h1
      by_cases he : m.ev = s.ev
      · rw [if_pos he] at h1
        by_cases hr : rowB m.ev seen = true
        · rw [if_pos hr] at h1
          by_cases hz : m.st ≤ 6 ∧ s.st ≤ 4
          · have hza := mayB_size hm.1
            have hzb := mayB_size hm.2
            unfold sizeOk at hza hzb
            obtain ⟨st, ev, starts, ars, ends⟩ := m
            obtain ⟨sb, eb, startsB, arsB, endsB⟩ := s
            obtain ⟨a1, c1, a2, c2, a3, c3⟩ := lm
            obtain ⟨b1, d1, b2, d2, b3, d3⟩ := ls
            dsimp only at he hz hza hzb hr
            subst he
            obtain ⟨s, rfl⟩ : ∃ s : Nat, st = (s : Int) := ⟨st.toNat, by omega⟩
            obtain ⟨t, rfl⟩ : ∃ t : Nat, sb = (t : Int) := ⟨sb.toNat, by omega⟩
            obtain ⟨e, rfl⟩ : ∃ e : Nat, ev = (e : Int) := ⟨ev.toNat, by omega⟩
            exact pSec_ok s t e starts startsB ars arsB ends endsB a1 c1 a2 c2 a3 c3 b1 d1 b2 d2 b3 d3 sa sc seen (Hid.of hm.1) (Hid.of hm.2) (by omega) (by omega) (Hid.of hr) w (Hid.of hT) (Hid.of h) (Hid.of h') (Hid.of hs) (Hid.of hsl)
          · rw [if_neg hz] at h1; cases h1
        · rw [if_neg hr] at h1; cases h1
      · rw [if_neg he] at h1; cases h1
    · rw [if_neg hm] at h1; cases h1
  · exact pSec_err m s lm ls sa sc seen w (Hid.of h) (Hid.of h') (Hid.of hs) (Hid.of hsl) _ rfl (by simpa using h0)

end Go.Proofs.YtmlkpdeidpcidaaDoor
