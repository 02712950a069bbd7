/-
  The walk of keeper.stay.
  What keeper.findSafe knows of the memory.
-/
import Derived.Test.YtmlkpdeidpcidaaDoorJ38
import Derived.Test.YtmlkpdeidpcidaaDoorJ37
import Derived.Test.YtmlkpdeidpcidaaDoorJ08
import Derived.Test.YtmlkpdeidpcidaaDoorJ21
import Derived.Test.YtmlkpdeidpcidaaDoorJ18
import Derived.Test.YtmlkpdeidpcidaaDoorJ06
namespace Go.Proofs.YtmlkpdeidpcidaaDoor
open Go.RowKit
set_option linter.unusedVariables false

/-- What the keeper is made of: the table, and the map of the sets that can be kept. -/
structure KeepV (p : Plant) (free : List Int) (g : List Int → Bool) (T : Nat → Nat → Nat) (LS : List PlC) (lS : List (List Int × List Int)) : Prop where
  hp : mayP p = true
  pl : PlnV p
  gg : TellsG p free g
  t : TabV p T
  r : RepCL LS lS
  k : ∀ s, Inc s → (∀ x ∈ s, 0 ≤ x ∧ x < p.m.st) → knownB lS s = g s
/-- All blocks but one are as they were. -/
structure OthV (b : Nat) (V W : World) : Prop where
  bel : Below b V W
  oth : ∀ j, j < V.heap.size → j ≠ b → W.heap[j]? = V.heap[j]?
theorem OthV.refl (b : Nat) (V : World) : OthV b V V := ⟨Below.refl _ _, fun _ _ _ => rfl⟩
theorem OthV.below {b : Nat} {V W W' : World} (h : OthV b V W) (hb : Below W.heap.size W W') (hv : b ≤ V.heap.size) : OthV b V W' :=
  ⟨h.bel.trans (hb.mono (Nat.le_trans hv h.bel.size)), fun j hj hn => (hb.block j (Nat.lt_of_lt_of_le hj h.bel.size)).trans (h.oth j hj hn)⟩
theorem OthV.set4 {b : Nat} {V W : World} (h : OthV b V W) (v0 v1 v2 v3 : Value) : OthV b V ((((W.setCell ⟨b, 0, none⟩ v0).setCell ⟨b, 1, none⟩ v1).setCell ⟨b, 2, none⟩ v2).setCell ⟨b, 3, none⟩ v3) :=
  ⟨below_set4 h.bel (Nat.le_refl _) v0 v1 v2 v3, fun j hj hn => by
    rw [Below.heap_setCell _ _ _ _ (show j ≠ b from hn), Below.heap_setCell _ _ _ _ (show j ≠ b from hn), Below.heap_setCell _ _ _ _ (show j ≠ b from hn), Below.heap_setCell _ _ _ _ (show j ≠ b from hn)]
    exact h.oth j hj hn⟩
theorem alls_lt {S : Nat → Nat} {l : List Int} (hr : Rep S l) {m : Nat} (hb : ∀ x ∈ l, 0 ≤ x ∧ x < (m : Int)) : ∀ k ∈ allS S, k < m := fun k hk => by
  have := hb _ ((mem_alls hr k).1 hk)
  omega

set_option maxRecDepth 100000 in
set_option maxHeartbeats 8000000 in
theorem kstay_any (p : Plant) (P : PTL) (fa : Option Addr) (fc : Nat) (free : List Int) (R : Nat → Nat) (T : Nat → Nat → Nat) (mb c kb : Nat) (g : List Int → Bool) (LS : List PlC) (lS : List (List Int × List Int)) (hV : Hid (KeepV p free g T LS lS)) (S : Nat → Nat) (l : List Int) (hr : Hid (Rep S l)) (hi : Hid (Inc l)) (hb : Hid (∀ x ∈ l, 0 ≤ x ∧ x < p.m.st)) (e : Nat) (he : Hid ((e : Int) ∈ p.seen)) (w : World) (hK : Hid (KV w kb p P fa fc free R T mb)) (hm : Hid (w.heap[mb]? = some (.map (entsC LS) c))) (hF : Hid (At w fa free)) (hFl : Hid (free.length ≤ maxLen)) (hT : Hid (Tab w)) :
    Calls Tryd.prog 154 #[.pointer (some ⟨kb, 0, none⟩), sval S, .int .i64 (e : Int)] w fun e' w' => ∃ O, e' = .returned (sval O) ∧ Rep O (stayV p g free l (e : Int)) ∧ Below w.heap.size w w' := by
  have h6 := Hid.of (states_bd hV.out.hp)
  have he8 : e < 8 := by have := (seen_bd hV.out.hp).2 _ he.out; omega
  have HSB : Hid (∀ x ∈ l, 0 ≤ x ∧ x < (6 : Nat)) := fun x hx => by have := hb.out x hx; have := h6.out; omega
  have B : Hid (Below w.heap.size w ((w.alloc (.cells (scells S) 85)).alloc (.cells zs4c 85))) := ((Below.refl _ _).alloc (Nat.le_refl _) _).alloc (by simp) _
  have KR : Hid (SB ((w.alloc (.cells (scells S) 85)).alloc (.cells zs4c 85)) (w.heap.size + 1) zeroS) := by
    have := Blk.new (w.alloc (.cells (scells S) 85)) 85 zs4c
    rwa [World.size_alloc] at this
  go_enter Tryd.func154, Tryd.ntmps154
  go_wp2_with fail
  revert B KR
  generalize (w.alloc (.cells (scells S) 85)).alloc (.cells zs4c 85) = V0
  intro B KR
  refine (kable_any S hr.out.ok e he8 p P fa fc free R T mb hV.out.t.ok (alls_lt hr.out HSB.out) kb V0 (hT.out.below B.out hT.out.lt) (hK.out.below B.out hK.out.lt)).mono ?_
  rintro e' V1 ⟨rfl, hb1⟩
  have RA : Hid (Rep (ableF T e (allS S)) (ableL p l (e : Int))) := by
    have := rep_able hV.out.hp hV.out.pl hV.out.t hr.out hb.out he.out
    rwa [Int.toNat_natCast] at this
  obtain ⟨A, HA⟩ : ∃ A, Hid (A = ableF T e (allS S)) := ⟨_, rfl⟩
  rw [← HA.out] at RA ⊢
  replace B := Hid.of (B.out.trans (hb1.mono B.out.size))
  replace KR := Hid.of (KR.out.below hb1 KR.out.lt)
  clear hb1
  have hbA : Below V1.heap.size V1 (V1.alloc (.cells (scells A) 85)) := (Below.refl _ _).alloc (Nat.le_refl _) _
  have KA : Hid (SB (V1.alloc (.cells (scells A) 85)) V1.heap.size A) := Blk.new V1 _ _
  have HAV : Hid (w.heap.size + 1 < V1.heap.size) := KR.out.lt
  replace B := Hid.of (B.out.trans (hbA.mono B.out.size))
  replace KR := Hid.of (KR.out.below hbA KR.out.lt)
  have x7 := (hK.out.below B.out hK.out.lt).fr
  go_wp2_with fail
  clear x7
  revert B KR KA HAV
  generalize V1.alloc (.cells (scells A) 85) = V2
  generalize V1.heap.size = pa
  clear hbA
  intro KA HAV B KR
  refine (rowHas_any fa fc free (e : Int) V2 (hF.out.below B.out (Nat.le_refl _)) hFl.out).mono ?_
  rintro e' V3 ⟨rfl, rfl⟩
  cases hf : hasB free (e : Int) with
  | false =>
    have HF0 := Hid.of hf
    clear hf
    obtain ⟨a0, a1, a2, a3⟩ := SB.cells KA.out
    obtain ⟨r0, r1, r2, r3⟩ := SB.cells KR.out
    have rz := KR.out.frozen
    have RR := Hid.of (SB.set4 KR.out A)
    have BB := Hid.of (below_set4 B.out (b' := w.heap.size + 1) (by omega) (.int .u64 (A 0)) (.int .u64 (A 1)) (.int .u64 (A 2)) (.int .u64 (A 3)))
    go_wp2_with fail
    clear r0 r1 r2 r3 a0 a1 a2 a3
    obtain ⟨r0, r1, r2, r3⟩ := SB.cells RR.out
    refine bodyPost_ret (v := sval A) ?_ rfl ⟨A, rfl, by rw [stay_able g HF0.out]; exact RA.out, BB.out⟩
    simp [results, go_sem, r0, r1, r2, r3]
  | true =>
    have HF1 := Hid.of hf
    clear hf
    have hbo : Below V3.heap.size V3 (V3.alloc (.cells zs4c 85)) := (Below.refl _ _).alloc (Nat.le_refl _) _
    have KO : Hid (SB (V3.alloc (.cells zs4c 85)) V3.heap.size zeroS) := Blk.new V3 _ _
    have HPO : Hid (pa < V3.heap.size) := KA.out.lt
    replace B := Hid.of (B.out.trans (hbo.mono B.out.size))
    replace KR := Hid.of (KR.out.below hbo KR.out.lt)
    replace KA := Hid.of (KA.out.below hbo KA.out.lt)
    obtain ⟨a0, a1, a2, a3⟩ := SB.cells KA.out
    go_wp2_with fail
    clear a0 a1 a2 a3
    revert B KR KA KO HPO
    generalize V3.alloc (.cells zs4c 85) = V4
    generalize V3.heap.size = po
    clear hbo
    intro KO HPO B KR KA
    have HAB : Hid (∀ x ∈ ableL p l (e : Int), 0 ≤ x ∧ x < (6 : Nat)) := fun x hx => HSB.out x (List.mem_filter.1 hx).1
    refine (prt_any A RA.out.ok (alls_lt RA.out HAB.out) V4 (hT.out.below B.out hT.out.lt)).mono ?_
    rintro e' V5 ⟨v, rfl, hown, hb5⟩
    have HRL : Hid (RepL (prtS (allS A)) (prtL (allS A))) := prt_rep _ (inc_fromS A 4 0) (fun n hn => ((mem_allS A n).1 hn).1)
    have hpos : 0 < (prtS (allS A)).length := by rw [prt_len]; exact Nat.pow_pos (by omega)
    have hslen : (prtS (allS A)).length ≤ 64 := by
      rw [prt_len]
      have := inc_len (allS A) 6 (inc_fromS A 4 0) (alls_lt RA.out HAB.out)
      calc 2 ^ (allS A).length ≤ 2 ^ 6 := Nat.pow_le_pow_right (by omega) this
        _ = 64 := rfl
    have HLM : Hid (∀ q ∈ prtL (allS A), Inc q ∧ ∀ x ∈ q, 0 ≤ x ∧ x < p.m.st) := fun q hq => by
      have h1 : (allS A).map (fun n : Nat => (n : Int)) = ableL p l (e : Int) := rep_row RA.out (List.Pairwise.filter _ hi.out)
      have h2 := (mem_prtL _ _).1 hq
      rw [h1] at h2
      exact ⟨List.Pairwise.sublist h2 (List.Pairwise.filter _ hi.out), fun x hx => hb.out x (List.mem_filter.1 (h2.subset hx)).1⟩
    obtain ⟨SL, HSL⟩ : ∃ SL, Hid (SL = prtS (allS A)) := ⟨_, rfl⟩
    obtain ⟨LL, HLL⟩ : ∃ LL, Hid (LL = prtL (allS A)) := ⟨_, rfl⟩
    rw [← HSL.out] at hown HRL hpos hslen
    rw [← HLL.out] at HRL HLM
    obtain ⟨gg, cap, rfl, hg, hrd⟩ := OwnS.rd hown hpos
    have HRD := Hid.of hrd
    have HGP : Hid (gg ≠ po) := by show _ ≠ _; have := KO.out.lt; omega
    have HPR : Hid (w.heap.size + 1 ≠ po) := by show _ ≠ _; have h1 := HAV.out; have h2 := HPO.out; omega
    replace B := Hid.of (B.out.trans (hb5.mono B.out.size))
    replace KR := Hid.of (KR.out.below hb5 KR.out.lt)
    replace KO := Hid.of (KO.out.below hb5 KO.out.lt)
    clear hb5 hown hrd hg KA
    go_wp2_with fail
    have HBP : Hid (w.heap.size ≤ po) := by show _ ≤ _; have h1 := HAV.out; have h2 := HPO.out; omega
    go_loopw [26] (fun i wr => ∃ (k : Nat) (O : Nat → Nat), i = .int .i64 k ∧ k ≤ SL.length ∧ Hid (SB wr po O) ∧ Hid (StO p g (e : Int) (LL.take k) O) ∧ Hid (OthV po V5 wr)) (fun i _ => SL.length - (intOf i).toNat)
    case atStart => exact ⟨0, zeroS, rfl, Nat.zero_le _, KO, StO.start _ _ _, OthV.refl _ _⟩
    case round =>
      obtain ⟨k, O, rfl, hk, WO, WS, WX⟩ := hrel
      have WB := Hid.of (B.out.trans (WX.out.bel.mono HBP.out))
      by_cases hlt : k < SL.length
      · obtain ⟨Q, HQ⟩ : ∃ Q, Hid (SL[k]? = some Q) := ⟨_, List.getElem?_eq_getElem hlt⟩
        obtain ⟨q, hq1, hq2, hq3⟩ := HRL.out.rep k Q HQ.out
        have HQL := Hid.of hq1
        have HQR := Hid.of hq2
        have HQM := Hid.of (HLM.out q (List.mem_of_getElem? hq1))
        have hq6 : Hid (∀ x ∈ q, 0 ≤ x ∧ x < (6 : Nat)) := fun x hx => by have := HQM.out.2 x hx; have := h6.out; omega
        clear hq1 hq2 hq3
        obtain ⟨c0, c1, c2, c3⟩ := (HRD.out.same WX.out.bel.size (WX.out.oth gg HRD.out.1 HGP.out)).2 k Q HQ.out
        have hbz : Below wr.heap.size wr (wr.alloc (.cells (scells Q) 85)) := (Below.refl _ _).alloc (Nat.le_refl _) _
        have WP : Hid (SB (wr.alloc (.cells (scells Q) 85)) wr.heap.size Q) := Blk.new wr _ _
        go_wp2_with fail
        clear c0 c1 c2 c3
        have ZO := Hid.of (WO.out.below hbz WO.out.lt)
        have ZX := Hid.of (WX.out.below hbz (Nat.le_of_lt KO.out.lt))
        have ZB := Hid.of (WB.out.trans (hbz.mono WB.out.size))
        have HNP : Hid (po < wr.heap.size) := WO.out.lt
        clear hbz
        revert WP ZO ZX ZB HNP
        generalize wr.alloc (.cells (scells Q) 85) = Z
        generalize wr.heap.size = pb
        intro WP ZO ZX ZB HNP
        clear WO WX WB
        refine (knext_any Q HQR.out.ok e he8 p P fa fc free R T mb hV.out.t.ok (alls_lt HQR.out hq6.out) kb Z (hT.out.below ZB.out hT.out.lt) (hK.out.below ZB.out hK.out.lt)).mono ?_
        rintro e1 Z1 ⟨rfl, hb1⟩
        have RN : Hid (Rep (toF (fun n => T (n * 8 + e)) (allS Q)) (seeL p q (e : Int))) := by
          have := rep_nextV hV.out.hp hV.out.t HQR.out HQM.out.2 he.out
          rwa [Int.toNat_natCast] at this
        obtain ⟨X, HX⟩ : ∃ X, Hid (X = toF (fun n => T (n * 8 + e)) (allS Q)) := ⟨_, rfl⟩
        rw [← HX.out] at RN ⊢
        replace WP := Hid.of (WP.out.below hb1 WP.out.lt)
        replace ZO := Hid.of (ZO.out.below hb1 ZO.out.lt)
        replace ZX := Hid.of (ZX.out.below hb1 (Nat.le_of_lt KO.out.lt))
        replace ZB := Hid.of (ZB.out.trans (hb1.mono ZB.out.size))
        clear hb1
        have HSI := Hid.of (see_in ((mayP_iff p).1 hV.out.hp).1 q (e : Int))
        go_wp2_with fail
        refine (ksafe_one (g (seeL p q (e : Int))) X (seeL p q (e : Int)) (Hid.of ⟨RN.out, HSI.out.1⟩) LS lS (Hid.of hV.out.r) p P fa fc free R T mb c kb Z1 (Hid.of (hK.out.below ZB.out hK.out.lt)) (Hid.of ((ZB.out.block mb (Array.getElem?_eq_some_iff.1 hm.out).1).trans hm.out)) (Hid.of (hV.out.k _ HSI.out.1 HSI.out.2))).mono ?_
        rintro e2 Z2 ⟨rfl, hb2⟩
        replace WP := Hid.of (WP.out.below hb2 WP.out.lt)
        replace ZO := Hid.of (ZO.out.below hb2 ZO.out.lt)
        replace ZX := Hid.of (ZX.out.below hb2 (Nat.le_of_lt KO.out.lt))
        replace ZB := Hid.of (ZB.out.trans (hb2.mono ZB.out.size))
        clear hb2
        have HTK : Hid (LL.take (k + 1) = LL.take k ++ [q]) := by show _ = _; rw [List.take_add_one, HQL.out]; rfl
        cases hg : g (seeL p q (e : Int)) with
        | true =>
          have HG := Hid.of hg
          have HST := Hid.of (WS.out.yes HQR.out hg)
          rw [← HTK.out] at HST
          clear hg
          obtain ⟨o0, o1, o2, o3⟩ := SB.cells ZO.out
          obtain ⟨p0, p1, p2, p3⟩ := SB.cells WP.out
          go_wp2_with fail
          refine (join_any O Q Z2 WS.out.1 HQR.out.ok).mono ?_
          rintro e3 Z3 ⟨rfl, hb3⟩
          clear o0 o1 o2 o3 p0 p1 p2 p3
          replace ZO := Hid.of (ZO.out.below hb3 ZO.out.lt)
          replace ZX := Hid.of (ZX.out.below hb3 (Nat.le_of_lt KO.out.lt))
          clear hb3
          obtain ⟨o0, o1, o2, o3⟩ := SB.cells ZO.out
          have oz := ZO.out.frozen
          have O2 := Hid.of (SB.set4 ZO.out (joinS O Q))
          have X2 := Hid.of (ZX.out.set4 (.int .u64 (joinS O Q 0)) (.int .u64 (joinS O Q 1)) (.int .u64 (joinS O Q 2)) (.int .u64 (joinS O Q 3)))
          go_wp2_with fail
          go_roundw
          case rel => exact ⟨k + 1, joinS O Q, by go_num, by omega, O2, HST, X2⟩
          case measure => simp [intOf]; omega
        | false =>
          have HST := Hid.of (WS.out.no hg)
          rw [← HTK.out] at HST
          clear hg
          go_wp2_with fail
          go_roundw
          case rel => exact ⟨k + 1, O, by go_num, by omega, ZO, HST, ZX⟩
          case measure => simp [intOf]; omega
      · have hk2 : SL.length ≤ k := by omega
        have HKE : Hid (k = SL.length) := by show _ = _; omega
        clear hlt
        have HEND : Hid (Rep O (stayV p g free l (e : Int))) := by
          have h1 := WS.out
          rw [HKE.out, HRL.out.len, List.take_of_length_le (Nat.le_refl _), HLL.out] at h1
          exact h1.fin hV.out.hp hV.out.pl hV.out.gg he.out HF1.out hb.out RA.out hi.out
        obtain ⟨o0, o1, o2, o3⟩ := SB.cells WO.out
        have RW : Hid (SB wr (w.heap.size + 1) zeroS) := (WX.out.oth _ KR.out.lt HPR.out).trans KR.out
        obtain ⟨r0, r1, r2, r3⟩ := SB.cells RW.out
        have rz := RW.out.frozen
        have RR := Hid.of (SB.set4 RW.out O)
        have BB := Hid.of (below_set4 WB.out (b' := w.heap.size + 1) (by omega) (.int .u64 (O 0)) (.int .u64 (O 1)) (.int .u64 (O 2)) (.int .u64 (O 3)))
        go_wp2_with fail
        clear r0 r1 r2 r3 o0 o1 o2 o3
        obtain ⟨r0, r1, r2, r3⟩ := SB.cells RR.out
        refine bodyPost_ret (v := sval O) ?_ rfl ⟨O, rfl, HEND.out, BB.out⟩
        simp [results, go_sem, r0, r1, r2, r3]

end Go.Proofs.YtmlkpdeidpcidaaDoor
namespace Go.Proofs.YtmlkpdeidpcidaaDoor
open Go.RowKit
set_option linter.unusedVariables false

theorem repNilV : RepL [] [] := ⟨rfl, fun k S h => by simp at h⟩
theorem lookS_plain {SL : List (Nat → Nat)} {L : List (List Int)} (hR : RepL SL L) (hnd : L.Nodup) {S : Nat → Nat} {l : List Int} (hr : Rep S l) (hi : Inc l) {w : World} {r c : Nat} (hm : w.heap[r]? = some (.map (entsS SL) c)) (h : ¬ findL L l = L.length) :
    (Instr.lookup 222 (.map (some r)) (sval S) false).run Tryd.prog w = .ok (.int .i64 (findL L l : Nat)) w := by
  obtain ⟨kl, hl⟩ := keySet hr.ok
  have h1 := find_set hR hnd hr hi w
  rw [if_neg h] at h1
  simp [Instr.lookup, run_underlying mapSet, MapKept.run_getObj_map hm, lawSet.check w _ hl, h1, Result.andThen]
theorem findL_nodup_new {L : List (List Int)} (hnd : L.Nodup) {k : Nat} {l : List Int} (hk : L[k]? = some l) : findL (L.take k) l = (L.take k).length := by
  refine findL_new.2 fun hm => ?_
  obtain ⟨j, hj⟩ := List.mem_iff_getElem?.1 hm
  have hjk : j < k := by have := (List.getElem?_eq_some_iff.1 hj).1; simp at this; omega
  rw [List.getElem?_take_of_lt hjk] at hj
  obtain ⟨j1, j2⟩ := List.getElem?_eq_some_iff.1 hj
  obtain ⟨k1, k2⟩ := List.getElem?_eq_some_iff.1 hk
  have := List.pairwise_iff_getElem.1 (List.nodup_iff_pairwise_ne.1 hnd) j k j1 k1 hjk
  rw [j2, k2] at this
  exact this rfl
theorem RepL.take {SL : List (Nat → Nat)} {L : List (List Int)} (h : RepL SL L) (k : Nat) : RepL (SL.take k) (L.take k) := by
  refine ⟨by simp [h.len], fun j S hj => ?_⟩
  have hjk : j < k := by have := (List.getElem?_eq_some_iff.1 hj).1; simp at this; omega
  rw [List.getElem?_take_of_lt hjk] at hj ⊢
  exact h.rep j S hj
theorem Below.mapV {B : Nat} {w W : World} (h : Below B w W) {br : Nat} (hb : B ≤ br) (o : Obj) : Below B w (setMap W br o) :=
  h.trans ⟨rfl, rfl, rfl, by rw [size_setMap]; exact Nat.le_refl _, fun j hj => heap_setMap_ne _ _ _ (by omega)⟩
theorem OthV.map {b : Nat} {V W : World} (h : OthV b V W) (o : Obj) : OthV b V (setMap W b o) :=
  ⟨Below.mapV h.bel (Nat.le_refl _) o, fun j hj hn => (heap_setMap_ne _ _ _ hn).trans (h.oth j hj hn)⟩
theorem OthV.trans {b : Nat} {V W X : World} (h : OthV b V W) (h' : OthV b W X) : OthV b V X :=
  ⟨h.bel.trans h'.bel, fun j hj hn => (h'.oth j (Nat.lt_of_lt_of_le hj h.bel.size) hn).trans (h.oth j hj hn)⟩
theorem OthV.of_below {b : Nat} {V W : World} (h : Below V.heap.size V W) (hb : b ≤ V.heap.size) : OthV b V W := ⟨h.mono hb, fun j hj _ => h.block j hj⟩
theorem own_lower {W : World} {B B' s n : Nat} {e : TypeId} {v : Value} {xs : List Value} (h : W.ownsRow B e s v n xs) (hb : B' ≤ B) : W.ownsRow B' e s v n xs := by
  refine ⟨h.1, ?_⟩
  rcases h.2 with hn | ⟨g, cap, cur, e1, hg, rest⟩
  · exact .inl hn
  · exact .inr ⟨g, cap, cur, e1, Nat.le_trans hb hg, rest⟩
theorem grown_cellsV {W2 W3 : World} {B n sz : Nat} {T : TypeId} {v : Value} {vs : List Value} (ho : W3.ownsRow B T sz v n vs) (gr : W3.grownBy W2 v.ownBlock) (q : Nat) (cs : Array Value) (t : TypeId) (ht : t ≠ T) (hq : W3.heap[q]? = some (.cells cs t (0, 0))) : W2.heap[q]? = W3.heap[q]? :=
  gr.block q (Array.getElem?_eq_some_iff.1 hq).1 (fun e => by
    obtain ⟨c2, h2⟩ := own_type ho e.symm
    rw [hq] at h2; cases h2; exact ht rfl)
theorem grown_mapV {W2 W3 : World} {B n sz : Nat} {T : TypeId} {v : Value} {vs : List Value} (ho : W3.ownsRow B T sz v n vs) (gr : W3.grownBy W2 v.ownBlock) (q : Nat) (es : Array MapEntry) (c : Nat) (hq : W3.heap[q]? = some (.map es c)) : W2.heap[q]? = W3.heap[q]? :=
  gr.block q (Array.getElem?_eq_some_iff.1 hq).1 (fun e => by
    obtain ⟨c2, h2⟩ := own_type ho e.symm
    rw [hq] at h2; cases h2)

/-- What findSafe knows while it lays the machine of all sets: its own row of sets, the map of their numbers, the machine, the row of those that tell, the row of arrows. -/
structure FSt (w W : World) (vs : Value) (nb pk : Nat) (ev : Int) (bv va : Value) (SL : List (Nat → Nat)) (bad : List Int) (A : List Arr) : Prop where
  bel : Below w.heap.size w W
  ss : OwnS W w.heap.size vs SL
  mp : W.heap[nb]? = some (.map (entsS SL) SL.length)
  kn : Blk W pk 25 #[.int .i64 (SL.length : Int), .int .i64 ev, .slice none 0 0, va, .slice none 0 0]
  bd : Own W w.heap.size bv bad
  ar : OwnA W w.heap.size va A
  lk : w.heap.size ≤ pk
section
variable {w W : World} {vs : Value} {nb pk : Nat} {ev : Int} {bv va : Value} {SL : List (Nat → Nat)} {bad : List Int} {A : List Arr}
theorem FSt.below {W' : World} (h : FSt w W vs nb pk ev bv va SL bad A) (hb : Below W.heap.size W W') : FSt w W' vs nb pk ev bv va SL bad A :=
  ⟨h.bel.trans (hb.mono h.bel.size), own_same h.ss (fun k hk => hb.block k (World.ownsRow.lt h.ss k hk).2), (hb.block nb (Array.getElem?_eq_some_iff.1 h.mp).1).trans h.mp, h.kn.below hb h.kn.lt, own_same h.bd (fun k hk => hb.block k (World.ownsRow.lt h.bd k hk).2), own_same h.ar (fun k hk => hb.block k (World.ownsRow.lt h.ar k hk).2), h.lk⟩
/-- One number more that tells. -/
theorem FSt.tell {W2 W3 : World} {bv' : Value} {x : Int} (h : FSt w W vs nb pk ev bv va SL bad A) (hW3 : Below W.heap.size W W3) (o1 : Own W2 w.heap.size bv' (bad ++ [x])) (g : W3.grownBy W2 bv.ownBlock) : FSt w W2 vs nb pk ev bv' va SL (bad ++ [x]) A := by
  have h3 := h.below hW3
  have hty := grown_cellsV h3.bd g
  have own : ∀ {B s n : Nat} {e : TypeId} {v : Value} {xs : List Value}, e ≠ 3 → W3.ownsRow B e s v n xs → W2.ownsRow B e s v n xs := fun he ho => own_same ho (fun k hk => by
    obtain ⟨cs, hc⟩ := own_type ho hk
    exact hty k cs _ he hc)
  refine ⟨h3.bel.grown g h3.bel.size (fun j hj => (World.ownsRow.lt h3.bd j hj).1), own (by decide) h3.ss, (grown_mapV h3.bd g _ _ _ h3.mp).trans h3.mp, (hty _ _ _ (by decide) h3.kn).trans h3.kn, o1, own (by decide) h3.ar, h.lk⟩
/-- One arrow more. -/
theorem FSt.arrow {W2 W3 : World} {va' : Value} {x : Arr} (h : FSt w W vs nb pk ev bv va SL bad A) (hW3 : Below W.heap.size W W3) (o1 : OwnA W2 w.heap.size va' (A ++ [x])) (g : W3.grownBy W2 va.ownBlock) :
    Blk W2 pk 25 #[.int .i64 (SL.length : Int), .int .i64 ev, .slice none 0 0, va, .slice none 0 0] ∧ FSt w (W2.setCell ⟨pk, 3, none⟩ va') vs nb pk ev bv va' SL bad (A ++ [x]) ∧ ∀ (q : Nat) (cs : Array Value) (t : TypeId), t ≠ 81 → t ≠ 25 → W3.heap[q]? = some (.cells cs t (0, 0)) → (W2.setCell ⟨pk, 3, none⟩ va').heap[q]? = W3.heap[q]? := by
  have h3 := h.below hW3
  have hty := grown_cellsV h3.ar g
  have kn2 : Blk W2 pk 25 #[.int .i64 (SL.length : Int), .int .i64 ev, .slice none 0 0, va, .slice none 0 0] := (hty _ _ _ (by decide) h3.kn).trans h3.kn
  have kn2' : W2.heap[pk]? = some (.cells #[.int .i64 (SL.length : Int), .int .i64 ev, .slice none 0 0, va, .slice none 0 0] 25 (0, 0)) := kn2
  have own : ∀ {B s n : Nat} {e : TypeId} {v : Value} {xs : List Value}, e ≠ 81 → e ≠ 25 → W3.ownsRow B e s v n xs → (W2.setCell ⟨pk, 3, none⟩ va').ownsRow B e s v n xs := fun he hm ho => own_same ho (fun k hk => by
    obtain ⟨cs, hc⟩ := own_type ho hk
    have h2 := hty k cs _ he hc
    rw [Below.heap_setCell _ _ _ _ (show k ≠ pk from fun e => by rw [e] at hc h2; rw [h2, hc] at kn2'; cases kn2'; exact hm rfl), h2])
  have hmp2 : W2.heap[nb]? = some (.map (entsS SL) SL.length) := (grown_mapV h3.ar g _ _ _ h3.mp).trans h3.mp
  refine ⟨kn2, ⟨(h3.bel.grown g h3.bel.size (fun j hj => (World.ownsRow.lt h3.ar j hj).1)).setCell (p := ⟨pk, 3, none⟩) h.lk _, own (by decide) (by decide) h3.ss, ?_, kn2.set 3 va', own (by decide) (by decide) h3.bd, own_same o1 (fun k hk => ?_), h.lk⟩, fun q cs t h1 h2 hq => ?_⟩
  · rw [Below.heap_setCell _ _ _ _ (show nb ≠ pk from fun e => by rw [e, kn2'] at hmp2; cases hmp2)]; exact hmp2
  · obtain ⟨cs, hc⟩ := own_type o1 hk
    exact Below.heap_setCell _ _ _ _ (show k ≠ pk from fun e => by rw [e, kn2'] at hc; cases hc)
  · have h4 := hty q cs t h1 hq
    rw [Below.heap_setCell _ _ _ _ (show q ≠ pk from fun e => by rw [e] at hq h4; rw [h4, hq] at kn2'; cases kn2'; exact h2 rfl), h4]
theorem cell_mapV {W : World} {b j : Nat} {es : Array MapEntry} {c : Nat} (h : W.heap[b]? = some (.map es c)) : W.cell? ⟨b, j, none⟩ = none := by
  unfold World.cell?
  simp [h]
end
/-- At first. -/
theorem FSt.start {w W : World} {vs : Value} {nb : Nat} {ev : Int} {SL : List (Nat → Nat)} (hB : Below w.heap.size w W) (hs : OwnS W w.heap.size vs SL) (hm : W.heap[nb]? = some (.map (entsS SL) SL.length)) : FSt w (W.alloc (.cells #[.int .i64 (SL.length : Int), .int .i64 ev, .slice none 0 0, .slice none 0 0, .slice none 0 0] 25)) vs nb W.heap.size ev (.slice none 0 0) (.slice none 0 0) SL [] [] :=
  ⟨hB.alloc hB.size _, World.ownsRow.alloc hs _, (Below.heap_alloc W _ nb (Array.getElem?_eq_some_iff.1 hm).1).trans hm, Blk.new W _ _, own_nil _ _, ownA_nil _ _, hB.size⟩
/-- All states' numbers. -/
theorem all_firF {N : Nat} (h : N ≤ 256) : allS (firF N) = List.range N := by
  have h1 : Rep (firF N) ((List.range N).map fun k : Nat => (k : Int)) := by
    refine ⟨ok_firF N, fun x hx => ?_, fun k hk => ?_⟩
    · obtain ⟨n, hn, rfl⟩ := List.mem_map.1 hx
      have := List.mem_range.1 hn
      omega
    · rw [has_firF, decide_eq_true_eq, List.mem_map]
      constructor
      · exact fun h => ⟨k, List.mem_range.2 h, rfl⟩
      · rintro ⟨n, hn, e⟩
        have := List.mem_range.1 hn
        omega
  have h2 := rep_row h1 (by unfold Inc; rw [List.pairwise_map]; exact List.Pairwise.imp (fun h => by omega) List.pairwise_lt_range)
  unfold rowS at h2
  exact List.map_inj_right (fun a b e => by omega) |>.1 h2
/-- The map of what can be kept. -/
def sfS (SL : List (Nat → Nat)) (ks : List Int) : List PlC := ks.map fun n => ⟨SL[n.toNat]?.getD zeroS, .slice none 0 0, []⟩
theorem sf_rep {SL : List (Nat → Nat)} {L : List (List Int)} (hR : RepL SL L) {ks : List Int} (hb : ∀ x ∈ ks, 0 ≤ x ∧ x < (L.length : Int)) : RepCL (sfS SL ks) (sfL L ks) := by
  refine ⟨by simp [sfS, sfL], fun k p hk => ?_⟩
  unfold sfS at hk
  rw [List.getElem?_map] at hk
  obtain ⟨n, hn, rfl⟩ := Option.map_eq_some_iff.1 hk
  have hnb := hb n (List.mem_of_getElem? hn)
  have hx := List.getElem?_eq_getElem (show n.toNat < L.length by omega)
  obtain ⟨S, h1, h2, h3⟩ := hR.at hx
  refine ⟨(L[n.toNat]?.getD [], []), by unfold sfL; rw [List.getElem?_map, hn]; rfl, ?_⟩
  show RepI (SL[n.toNat]?.getD zeroS) (L[n.toNat]?.getD [])
  rw [h1, hx]
  exact ⟨h2, h3⟩
theorem sfS_succ {SL : List (Nat → Nat)} {ks : List Int} {k : Nat} {n : Int} {S : Nat → Nat} (hk : ks[k]? = some n) (hS : SL[n.toNat]? = some S) : sfS SL (ks.take (k + 1)) = sfS SL (ks.take k) ++ [⟨S, .slice none 0 0, []⟩] := by
  unfold sfS
  rw [List.take_add_one, hk, Option.toList_some, List.map_append]
  simp [hS]

end Go.Proofs.YtmlkpdeidpcidaaDoor
