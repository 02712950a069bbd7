/-
 The walk of keeper.findSafe.
-/
import Derived.Deep.RegionHeld3
import Derived.Test.YtkodmnooibpflaaDoorI15
import Derived.Test.YtkodmnooibpflaaDoorI45
import Derived.Test.YtkodmnooibpflaaDoorI42
import Derived.Test.YtkodmnooibpflaaDoorI30
import Derived.Test.YtkodmnooibpflaaDoorEPCtl
import Derived.Test.YtkodmnooibpflaaDoorI04
namespace Go.Proofs.YtkodmnooibpflaaDoor
open Go.RowKit
set_option linter.unusedVariables false

set_option maxRecDepth 100000 in
set_option maxHeartbeats 8000000 in
theorem kfind_any (p : Plant) (Pl : ML) (sa : Option Addr) (sc : Nat) (ta : Option Addr) (tc : Nat) (fa : Option Addr) (fc : Nat) (free : List Int) (R : Nat → Nat) (T : Nat → Nat → Nat) (mb kb N : Nat) (g : List Int → Bool) (hp : Hid (mayP p = true)) (hpl : Hid (PlnV p)) (hg : Hid (TellsG p free g)) (hfr : Hid (rowB p.m.ev free = true)) (hTb : Hid (TabV p T)) (hR : Hid (Rep R p.secret)) (hN : Hid (p.m.st = (N : Int))) (w : World) (hK : Hid (KV w kb p ⟨Pl, sa, sc, ta, tc⟩ fa fc free R T mb)) (hm : Hid (w.heap[mb]? = some (.map #[] 0))) (hP : Hid (PAt w p ⟨Pl, sa, sc, ta, tc⟩)) (hF : Hid (At w fa free)) (hFl : Hid (free.length ≤ maxLen)) (hT : Hid (Tab w)) :
  Calls Tryd.prog 117 #[.pointer (some ⟨kb, 0, none⟩)] w fun e w' => e = .returned (.tuple #[]) ∧ ∃ LS lS c, w'.heap[mb]? = some (.map (entsC LS) c) ∧ KeepV p free g T LS lS ∧ OthV mb w w' := by
 have h6 := states_bd hp.out
 have hN6 : N ≤ 6 := by have := hN.out; omega
 have HSE := Hid.of (seen_bd hp.out)
 have hs8 := seen_len hp.out
 obtain ⟨i0, hi, hz0, hz1, hz2⟩ := info_parts Tryd.infoInt
 obtain ⟨j0, ji, jz0, jz1, jz2⟩ := info_parts Tryd.infoArrow
 clear h6
 go_enter Tryd.func117, Tryd.ntmps117
 go_wp2_with fail
 refine (kall_any p ⟨Pl, sa, sc, ta, tc⟩ fa fc free R T mb kb N hN (by omega) w hK).mono ?_
 rintro e0 V0 ⟨rfl, hb0⟩
 have B0 := Hid.of hb0
 clear hb0
 go_wp2_with fail
 have HAR : Hid (allS (firF N) = List.range N) := all_firF (by omega)
 refine (prt_any (firF N) (ok_firF N) (by rw [HAR.out]; intro k hk; have := List.mem_range.1 hk; omega) V0 (hT.out.below B0.out hT.out.lt)).mono ?_
 rintro e1 V1 ⟨vs, rfl, hown, hb1⟩
 rw [HAR.out] at hown
 have HKL := Hid.of (kl_prt hp.out hN.out)
 have HRL : Hid (RepL (prtS (List.range N)) (prtL (List.range N))) := prt_rep _ List.pairwise_lt_range (fun n hn => by have := List.mem_range.1 hn; omega)
 obtain ⟨SL, HSL⟩ : ∃ SL, Hid (SL = prtS (List.range N)) := ⟨_, rfl⟩
 obtain ⟨LL, HLL⟩ : ∃ LL, Hid (LL = prtL (List.range N)) := ⟨_, rfl⟩
 rw [← HLL.out] at HKL HRL
 rw [← HSL.out] at hown HRL
 have hSL : SL.length = LL.length := HRL.out.len
 have hpos : 0 < SL.length := by rw [hSL]; exact HKL.out.pos
 have hslen : SL.length ≤ 64 := by rw [hSL]; exact HKL.out.len
 have HLN := Hid.of hSL
 clear hSL HAR
 have hmm := @run_makeMap Tryd.prog
 obtain ⟨gg, cap, rfl, hgg, hrd⟩ := OwnS.rd hown hpos
 have hbz : Below V1.heap.size V1 (V1.alloc (.map #[] 0)) := (Below.refl _ _).alloc (Nat.le_refl _) _
 have B : Hid (Below w.heap.size w (V1.alloc (.map #[] 0))) := (B0.out.trans (hb1.mono B0.out.size)).trans (hbz.mono (Nat.le_trans B0.out.size hb1.size))
 have OS : Hid (OwnS (V1.alloc (.map #[] 0)) w.heap.size (.slice (some ⟨gg, 0, none⟩) SL.length cap) SL) := World.ownsRow.alloc (own_lower hown B0.out.size) _
 have RD : Hid (RdS (V1.alloc (.map #[] 0)) gg SL) := hrd.below hbz
 have MP : Hid ((V1.alloc (.map #[] 0)).heap[V1.heap.size]? = some (.map #[] 0)) := World.alloc_heap_new V1 (.map #[] 0)
 have HGN : Hid (gg ≠ V1.heap.size) := Nat.ne_of_lt hrd.1
 have HWN : Hid (w.heap.size ≤ V1.heap.size) := Nat.le_trans B0.out.size hb1.size
 have HNV : Hid (V1.heap.size < (V1.alloc (.map #[] 0)).heap.size) := by show _ < _; rw [World.size_alloc]; omega
 have HWG : Hid (w.heap.size ≤ gg) := Nat.le_trans B0.out.size hgg
 go_wp2_with fail
 clear hmm hbz hown hrd hgg hb1 B0
 revert B OS RD MP HGN HWN HNV
 generalize V1.alloc (.map #[] 0) = V2
 generalize V1.heap.size = nb
 intro B OS RD MP HGN HWN HNV
 go_loopw [23] (fun i wr => ∃ k : Nat, i = .int .i64 k ∧ k ≤ SL.length ∧ Hid (wr.heap[nb]? = some (.map (entsS (SL.take k)) k)) ∧ Hid (OthV nb V2 wr)) (fun i _ => SL.length - (intOf i).toNat)
 case atStart => exact ⟨0, rfl, Nat.zero_le _, MP, OthV.refl _ _⟩
 case round =>
  clear MP
  obtain ⟨k, rfl, hk, WM, WX⟩ := hrel
  by_cases hlt : k < SL.length
  ·obtain ⟨Q, HQ⟩ : ∃ Q, Hid (SL[k]? = some Q) := ⟨_, List.getElem?_eq_getElem hlt⟩
   obtain ⟨q, hq1, hq2, hq3⟩ := HRL.out.rep k Q HQ.out
   obtain ⟨c0, c1, c2, c3⟩ := (RD.out.same WX.out.bel.size (WX.out.oth gg RD.out.1 HGN.out)).2 k Q HQ.out
   have hbz : Below wr.heap.size wr (wr.alloc (.cells (scells Q) 79)) := (Below.refl _ _).alloc (Nat.le_refl _) _
   have WP : Hid (SB (wr.alloc (.cells (scells Q) 79)) wr.heap.size Q) := Blk.new wr _ _
   have hlk : (SL.take k).length = k := by simp; omega
   have hlk2 : (LL.take k).length = k := by simp; have := HLN.out; omega
   have WM2 : Hid ((wr.alloc (.cells (scells Q) 79)).heap[nb]? = some (.map (entsS (SL.take k)) (SL.take k).length)) := by
    show _ = _
    rw [hlk]
    exact (hbz.block nb (Array.getElem?_eq_some_iff.1 WM.out).1).trans WM.out
   have hu := updS_new (HRL.out.take k) (HKL.out.nd.sublist (List.take_sublist k LL)) hq2 hq3 (w := wr.alloc (.cells (scells Q) 79)) (r := nb) WM2.out (findL_nodup_new HKL.out.nd hq1)
   have HT1 : Hid (SL.take k ++ [Q] = SL.take (k + 1)) := by show _ = _; rw [List.take_add_one, HQ.out]; rfl
   rw [hlk, HT1.out] at hu
   clear hlk hlk2 hq1 hq2 hq3
   obtain ⟨y0, y1, y2, y3⟩ := SB.cells WP.out
   have N1 : Hid ((setMap (wr.alloc (.cells (scells Q) 79)) nb (.map (entsS (SL.take (k + 1))) (k + 1))).heap[nb]? = some (.map (entsS (SL.take (k + 1))) (k + 1))) := heap_setMap _ _ (Array.getElem?_eq_some_iff.1 WM2.out).1
   have N2 := Hid.of ((WX.out.below hbz (Nat.le_of_lt HNV.out)).map (.map (entsS (SL.take (k + 1))) (k + 1)))
   clear hbz
   go_wp2_with fail
   go_roundw
   case rel => exact ⟨k + 1, by go_num, by omega, N1, N2⟩
   case measure => simp [intOf]; omega
  ·have hke : k = SL.length := by omega
   subst hke
   clear hlt
   have MPN : Hid (wr.heap[nb]? = some (.map (entsS SL) SL.length)) := by
    have h := WM.out
    rw [List.take_of_length_le (Nat.le_refl _)] at h
    exact h
   have BW := Hid.of (B.out.trans (WX.out.bel.mono HWN.out))
   have OW : Hid (OwnS wr w.heap.size (.slice (some ⟨gg, 0, none⟩) SL.length cap) SL) := own_same OS.out (fun j hj => by
    have e : gg = j := by injection hj
    rw [← e]; exact WX.out.oth gg RD.out.1 HGN.out)
   obtain ⟨x0, x1, x2, x3, x4, x5, x6⟩ := (hK.out.below BW.out hK.out.lt).plant
   dsimp only at x0 x1 x2 x3 x4 x5 x6
   go_wp2_with fail
   clear x0 x1 x2 x3 x4 x5 x6 WM
   have FU := Hid.of (FSt.start (ev := p.m.ev) BW.out OW.out MPN.out)
   clear BW OW MPN WX B OS RD HNV
   revert FU
   generalize wr.alloc (.cells #[.int .i64 (SL.length : Int), .int .i64 p.m.ev, .slice none 0 0, .slice none 0 0, .slice none 0 0] 25) = U0
   generalize wr.heap.size = pk
   intro FU
   go_loopw [7, 43] (fun bv i wr => ∃ (n : Nat) (va : Value), i = .int .i64 n ∧ n ≤ SL.length ∧ Hid (FSt w wr (.slice (some ⟨gg, 0, none⟩) SL.length cap) nb pk p.m.ev bv va SL (badN p LL n) (knA p LL n 0))) (fun _ i _ => SL.length - (intOf i).toNat)
   case atStart => exact ⟨0, .slice none 0 0, rfl, Nat.zero_le _, FU⟩
   case round =>
    clear FU
    obtain ⟨n, va, rfl, hn, WF⟩ := hrel
    obtain ⟨bad, HBD⟩ : ∃ bad, Hid (bad = badN p LL n) := ⟨_, rfl⟩
    rw [← HBD.out] at WF
    have hbl : bad.length ≤ n := by rw [HBD.out]; exact badN_len p LL n
    obtain ⟨ba, bc, hbv, -, -, -⟩ := own_form2 WF.out.bd
    subst hbv
    by_cases hlt : n < SL.length
    ·obtain ⟨Q, HQ⟩ : ∃ Q, Hid (SL[n]? = some Q) := ⟨_, List.getElem?_eq_getElem hlt⟩
     obtain ⟨q, hq1, hq2, hq3⟩ := HRL.out.rep n Q HQ.out
     have HQL := Hid.of hq1
     have HQR := Hid.of hq2
     have HQM := Hid.of (HKL.out.row q (List.mem_of_getElem? hq1))
     have hq6 : Hid (∀ x ∈ q, 0 ≤ x ∧ x < (6 : Nat)) := fun x hx => by have := HQM.out.2 x hx; have := hN.out; omega
     clear hq1 hq2 hq3
     obtain ⟨g', cap', hge, -, -, c0, c1, c2, c3⟩ := WF.out.ss.cell HQ.out
     cases hge
     have hbz : Below wr.heap.size wr (wr.alloc (.cells (scells Q) 79)) := (Below.refl _ _).alloc (Nat.le_refl _) _
     have WP : Hid (SB (wr.alloc (.cells (scells Q) 79)) wr.heap.size Q) := Blk.new wr _ _
     have ZF := Hid.of (WF.out.below hbz)
     clear hbz
     go_wp2_with fail
     clear c0 c1 c2 c3 WF
     revert WP ZF
     generalize wr.alloc (.cells (scells Q) 79) = Z
     generalize wr.heap.size = pb
     intro WP ZF
     have ZK := Hid.of (hK.out.below ZF.out.bel hK.out.lt)
     have SA : Hid (∀ X, Below Z.heap.size Z X → X.cell? ⟨pb, 0, none⟩ = some (.int .u64 (Q 0)) ∧ X.cell? ⟨pb, 1, none⟩ = some (.int .u64 (Q 1)) ∧ X.cell? ⟨pb, 2, none⟩ = some (.int .u64 (Q 2)) ∧ X.cell? ⟨pb, 3, none⟩ = some (.int .u64 (Q 3)) ∧ X.cell? ⟨kb, 8, none⟩ = some (.int .u64 (R 0)) ∧ X.cell? ⟨kb, 9, none⟩ = some (.int .u64 (R 1)) ∧ X.cell? ⟨kb, 10, none⟩ = some (.int .u64 (R 2)) ∧ X.cell? ⟨kb, 11, none⟩ = some (.int .u64 (R 3))) := fun X hb => by
      obtain ⟨y0, y1, y2, y3⟩ := SB.cells (WP.out.below hb WP.out.lt)
      obtain ⟨z0, z1, z2, z3⟩ := (ZK.out.below hb ZK.out.lt).sec
      exact ⟨y0, y1, y2, y3, z0, z1, z2, z3⟩
     refine wp_region_held_drew (S := fun w' => w'.cell? ⟨pb, 0, none⟩ = some (.int .u64 (Q 0)) ∧ w'.cell? ⟨pb, 1, none⟩ = some (.int .u64 (Q 1)) ∧ w'.cell? ⟨pb, 2, none⟩ = some (.int .u64 (Q 2)) ∧ w'.cell? ⟨pb, 3, none⟩ = some (.int .u64 (Q 3)) ∧ w'.cell? ⟨kb, 8, none⟩ = some (.int .u64 (R 0)) ∧ w'.cell? ⟨kb, 9, none⟩ = some (.int .u64 (R 1)) ∧ w'.cell? ⟨kb, 10, none⟩ = some (.int .u64 (R 2)) ∧ w'.cell? ⟨kb, 11, none⟩ = some (.int .u64 (R 3))) (by kernel_rfl) (SA.out _ (Below.refl _ _).drew) (fun hS => ?_)
     have BF : Hid (Below Z.heap.size Z Z.drew) := (Below.refl _ _).drew
     revert hS BF
     generalize Z.drew = Y0
     intro hS BF
     refine tkH 0 (sval Q) rfl (fun w' hw' => by obtain ⟨q0, q1, q2, q3, q4, q5, q6, q7⟩ := hw'; go_simp) hS ?_
     refine tkH 1 (.pointer (some ⟨kb, 0, none⟩)) rfl (fun w' hw' => by obtain ⟨q0, q1, q2, q3, q4, q5, q6, q7⟩ := hw'; go_simp) hS ?_
     refine tkH 2 (.pointer (some ⟨kb, 0, none⟩)) rfl (fun w' hw' => by obtain ⟨q0, q1, q2, q3, q4, q5, q6, q7⟩ := hw'; go_simp) hS ?_
     refine tkH 3 (.pointer (some ⟨kb, 8, none⟩)) rfl (fun w' hw' => by obtain ⟨q0, q1, q2, q3, q4, q5, q6, q7⟩ := hw'; go_simp) hS ?_
     refine tkH 4 (sval R) rfl (fun w' hw' => by obtain ⟨q0, q1, q2, q3, q4, q5, q6, q7⟩ := hw'; go_simp) hS ?_
     simp only [Act.put, List.setIfInBounds_toArray]
     refine wpAnyH_ready (rs := [5]) (by kernel_rfl) (by simp) ?_
     refine AllReadyH.cons rfl (fun K' hK' => ?_) AllReadyH.nil
     clear hS
     go_simp
     refine (onlyIn_any Q R HQR.out.ok hR.out.ok Y0).mono ?_
     rintro e Y1 ⟨rfl, hb⟩
     rw [only_set HQR.out hR.out]
     replace BF := Hid.of (BF.out.trans (hb.mono BF.out.size))
     refine hK'.out _ _ (SA.out _ BF.out) (fun hS => ?_)
     clear hK' K' hb hS
     refine wpAnyH_done (by kernel_rfl) ?_ _
     replace ZF := Hid.of (ZF.out.below BF.out)
     replace WP := Hid.of (WP.out.below BF.out WP.out.lt)
     clear BF SA ZK
     cases hlk : leakB p.secret q with
     | true =>
      have HBN : Hid (badN p LL (n + 1) = bad ++ [(n : Int)]) := by show _ = _; rw [HBD.out]; exact badN_yes HQL.out hlk
      clear hlk
      have bZ : Below Y1.heap.size Y1 (Y1.alloc (.cells #[.int .i64 (n : Int)] 3)) := (Below.refl _ _).alloc (Nat.le_refl _) _
      have hYB := ZF.out.bel.size
      go_wp2_with (at_builtin; refine wpList_append_block _ rfl (.tmp 54) (.tmp 56) 22 rfl w.heap.size 3 i0 (.int .i64 0) 1 8 Tryd.underlying22 hi hz0 hz1 hz2 rfl (by decide) _ _ _ rfl (World.ownsRow.alloc ZF.out.bd _) ⟨Y1.heap.size, 0, none⟩ 1 1 [.int .i64 (n : Int)] rfl rfl (cell_one_new _ _ _) (by intro u hu; simp at hu; subst hu; rfl) (by decide) (by unfold maxLen; omega) (by omega) (by simp; omega) ?_)
      intro v7 w7 o7 g7 n7
      have O7 : Own w7 w.heap.size v7 (bad ++ [(n : Int)]) := by
       show World.ownsRow _ _ _ _ _ _ _
       rw [List.length_append, List.map_append]; exact o7
      have F7 := Hid.of (ZF.out.tell bZ O7 g7)
      have P7 : Hid (SB w7 pb Q) := by
       have h1 : (Y1.alloc (.cells #[.int .i64 (n : Int)] 3)).heap[pb]? = some (.cells (scells Q) 79 (0, 0)) := WP.out.below bZ WP.out.lt
       exact (grown_cellsV (World.ownsRow.alloc ZF.out.bd _) g7 pb _ _ (by decide) h1).trans h1
      obtain ⟨qa, qc, hv7, -, -, -⟩ := own_form2 o7
      subst hv7
      clear o7 g7 n7 O7 bZ hYB WP ZF
      obtain ⟨bd, HBE⟩ : ∃ bd, Hid (bd = bad ++ [(n : Int)]) := ⟨_, rfl⟩
      have hbl7 : bad.length + 1 = bd.length := by rw [HBE.out]; simp
      rw [hbl7] at F7 ⊢
      clear hbl7
      rw [← HBE.out] at HBN F7
      obtain ⟨x0, x1, x2, x3, x4, x5, x6⟩ := (hK.out.below F7.out.bel hK.out.lt).plant
      dsimp only at x0 x1 x2 x3 x4 x5 x6
      go_wp2_with fail
      clear x0 x1 x2 x3 x4 x5 x6
      go_loopw [64] (fun i wr => ∃ (k : Nat) (va : Value), i = .int .i64 k ∧ k ≤ p.seen.length ∧ Hid (SB wr pb Q) ∧ Hid (FSt w wr (.slice (some ⟨gg, 0, none⟩) SL.length cap) nb pk p.m.ev (.slice qa bd.length qc) va SL bd (knA p LL n k))) (fun i _ => p.seen.length - (intOf i).toNat)
      case atStart => exact ⟨0, va, rfl, Nat.zero_le _, P7, F7⟩
      case round =>
       clear F7 P7
       obtain ⟨k, va, rfl, hk, KQ, KF⟩ := hrel
       by_cases hks : k < p.seen.length
       ·obtain ⟨eb, eo, rfl, hwb, hcw⟩ : ∃ eb eo, sa = some ⟨eb, eo, none⟩ ∧ eb < w.heap.size ∧ Cells w eb eo p.seen := by
         rcases hP.out.s.at_ with h0 | h0
         ·rw [h0] at hks; simp at hks
         ·exact h0
        obtain ⟨e, HE1, ce⟩ := hcw.at hks
        have HEK : Hid (p.seen[k]? = some e) := by show _ = _; rw [HE1.out, List.getElem?_eq_getElem hks]; rfl
        have HEM := Hid.of (List.mem_of_getElem? HEK.out)
        have heb := HSE.out.2 e HEM.out
        obtain ⟨en, rfl⟩ : ∃ en : Nat, e = (en : Int) := ⟨e.toNat, by omega⟩
        have he8 : en < 8 := by omega
        clear heb HE1 hcw
        replace ce := (KF.out.bel.cell (p := ⟨eb, eo + k, none⟩) hwb).trans ce
        have hkI : (k : Int) < (p.seen.length : Int) := by omega
        obtain ⟨c0, c1, c2, c3⟩ := SB.cells KQ.out
        go_wp2_with fail
        clear ce c0 c1 c2 c3
        refine (knext_any Q HQR.out.ok en he8 p ⟨Pl, some ⟨eb, eo, none⟩, sc, ta, tc⟩ fa fc free R T mb hTb.out.ok (alls_lt HQR.out hq6.out) kb wr (hT.out.below KF.out.bel hT.out.lt) (hK.out.below KF.out.bel hK.out.lt)).mono ?_
        rintro e1 Z1 ⟨rfl, hb1⟩
        have RN : Hid (Rep (toF (fun n => T (n * 8 + en)) (allS Q)) (seeL p q (en : Int))) := by
         have := rep_nextV hp.out hTb.out HQR.out HQM.out.2 HEM.out
         rwa [Int.toNat_natCast] at this
        obtain ⟨X, HX⟩ : ∃ X, Hid (X = toF (fun n => T (n * 8 + en)) (allS Q)) := ⟨_, rfl⟩
        rw [← HX.out] at RN ⊢
        replace KQ := Hid.of (KQ.out.below hb1 KQ.out.lt)
        replace KF := Hid.of (KF.out.below hb1)
        clear hb1
        have HNA := Hid.of (nx_at hp.out HKL.out HQL.out (en : Int))
        have hnx : nxN p LL n (en : Int) = findL LL (seeL p q (en : Int)) := by unfold nxN; rw [HQL.out]; rfl
        have lk := lookS_plain HRL.out HKL.out.nd RN.out (see_in ((mayP_iff p).1 hp.out).1 q (en : Int)).1 (w := Z1) (r := nb) KF.out.mp (by have := HNA.out.2; rw [hnx] at this; omega)
        rw [← hnx] at lk
        have HKA : Hid (knA p LL n (k + 1) = knA p LL n k ++ [⟨(n : Int), (en : Int), (nxN p LL n (en : Int) : Int)⟩]) := knA_event HEK.out
        have hal := knA_len p LL hs8 n k (by omega)
        obtain ⟨nx, HNX⟩ : ∃ nx, Hid (nx = nxN p LL n (en : Int)) := ⟨_, rfl⟩
        obtain ⟨A, HA⟩ : ∃ A, Hid (A = knA p LL n k) := ⟨_, rfl⟩
        rw [← HNX.out] at lk HKA
        rw [← HA.out] at HKA hal KF
        clear hnx HNA
        obtain ⟨ra, rc, hra, -, -, -⟩ := own_form2 KF.out.ar
        subst hra
        have z3 := KF.out.kn.cell 3 rfl
        have hZB := KF.out.bel.size
        have bZ : Below Z1.heap.size Z1 (Z1.alloc (.cells #[.int .i64 (n : Int), .int .i64 (en : Int), .int .i64 (nx : Int)] 75)) := (Below.refl _ _).alloc (Nat.le_refl _) _
        go_wp2_with (at_builtin; refine wpList_append_arrs _ rfl (.tmp 75) (.tmp 80) 23 rfl w.heap.size j0 Tryd.underlying23 ji jz0 jz1 jz2 _ A rfl (World.ownsRow.alloc KF.out.ar _) (some ⟨Z1.heap.size, 0, none⟩) 1 [⟨(n : Int), (en : Int), (nx : Int)⟩] rfl (atA_new _ _ ⟨(n : Int), (en : Int), (nx : Int)⟩ _ rfl) (fun h => by cases h) (by simp; omega) (by simp; omega) ?_)
        intro v8 w8 o8 g8 n8
        obtain ⟨f1, f2, f3⟩ := FSt.arrow KF.out bZ o8 g8
        have F8 := Hid.of f2
        have KQ8 : Hid (SB (w8.setCell ⟨pk, 3, none⟩ v8) pb Q) := by
         have h1 : (Z1.alloc (.cells #[.int .i64 (n : Int), .int .i64 (en : Int), .int .i64 (nx : Int)] 75)).heap[pb]? = some (.cells (scells Q) 79 (0, 0)) := KQ.out.below bZ KQ.out.lt
         exact (f3 pb _ _ (by decide) (by decide) h1).trans h1
        rw [← HKA.out] at F8
        obtain ⟨sa8, sc8, hv8, -, -, -⟩ := own_form2 o8
        subst hv8
        have hl8 : (A ++ [(⟨(n : Int), (en : Int), (nx : Int)⟩ : Arr)]).length = A.length + 1 := by simp
        rw [hl8] at F8 KQ8
        clear hl8
        have y3 := f1.cell 3 rfl
        have yf := f1.frozen
        clear f1 f2 f3 o8 g8 n8 bZ hZB z3 lk KF KQ
        go_wp2_with fail
        go_roundw
        case rel => exact ⟨k + 1, _, by go_num, by omega, KQ8, F8⟩
        case measure => simp [intOf]; omega
       ·have hke : k = p.seen.length := by omega
        subst hke
        clear hks
        have KF2 : Hid (FSt w wr (.slice (some ⟨gg, 0, none⟩) SL.length cap) nb pk p.m.ev (.slice qa bd.length qc) va SL (badN p LL (n + 1)) (knA p LL (n + 1) 0)) := by
         have h := KF.out
         show FSt _ _ _ _ _ _ _ _ _ _ _
         rw [knA_next p LL n, HBN.out]; exact h
        clear KF
        go_wp2_with fail
        go_roundw
        case rel => exact ⟨n + 1, va, by go_num, by omega, KF2⟩
        case measure => simp [intOf]; omega
     | false =>
      have HBN : Hid (badN p LL (n + 1) = bad) := by show _ = _; rw [HBD.out]; exact badN_no HQL.out hlk
      clear hlk
      obtain ⟨x0, x1, x2, x3, x4, x5, x6⟩ := (hK.out.below ZF.out.bel hK.out.lt).plant
      dsimp only at x0 x1 x2 x3 x4 x5 x6
      go_wp2_with fail
      clear x0 x1 x2 x3 x4 x5 x6
      go_loopw [64] (fun i wr => ∃ (k : Nat) (va : Value), i = .int .i64 k ∧ k ≤ p.seen.length ∧ Hid (SB wr pb Q) ∧ Hid (FSt w wr (.slice (some ⟨gg, 0, none⟩) SL.length cap) nb pk p.m.ev (.slice ba bad.length bc) va SL bad (knA p LL n k))) (fun i _ => p.seen.length - (intOf i).toNat)
      case atStart => exact ⟨0, va, rfl, Nat.zero_le _, WP, ZF⟩
      case round =>
       clear ZF WP
       obtain ⟨k, va, rfl, hk, KQ, KF⟩ := hrel
       by_cases hks : k < p.seen.length
       ·obtain ⟨eb, eo, rfl, hwb, hcw⟩ : ∃ eb eo, sa = some ⟨eb, eo, none⟩ ∧ eb < w.heap.size ∧ Cells w eb eo p.seen := by
         rcases hP.out.s.at_ with h0 | h0
         ·rw [h0] at hks; simp at hks
         ·exact h0
        obtain ⟨e, HE1, ce⟩ := hcw.at hks
        have HEK : Hid (p.seen[k]? = some e) := by show _ = _; rw [HE1.out, List.getElem?_eq_getElem hks]; rfl
        have HEM := Hid.of (List.mem_of_getElem? HEK.out)
        have heb := HSE.out.2 e HEM.out
        obtain ⟨en, rfl⟩ : ∃ en : Nat, e = (en : Int) := ⟨e.toNat, by omega⟩
        have he8 : en < 8 := by omega
        clear heb HE1 hcw
        replace ce := (KF.out.bel.cell (p := ⟨eb, eo + k, none⟩) hwb).trans ce
        have hkI : (k : Int) < (p.seen.length : Int) := by omega
        obtain ⟨c0, c1, c2, c3⟩ := SB.cells KQ.out
        go_wp2_with fail
        clear ce c0 c1 c2 c3
        refine (knext_any Q HQR.out.ok en he8 p ⟨Pl, some ⟨eb, eo, none⟩, sc, ta, tc⟩ fa fc free R T mb hTb.out.ok (alls_lt HQR.out hq6.out) kb wr (hT.out.below KF.out.bel hT.out.lt) (hK.out.below KF.out.bel hK.out.lt)).mono ?_
        rintro e1 Z1 ⟨rfl, hb1⟩
        have RN : Hid (Rep (toF (fun n => T (n * 8 + en)) (allS Q)) (seeL p q (en : Int))) := by
         have := rep_nextV hp.out hTb.out HQR.out HQM.out.2 HEM.out
         rwa [Int.toNat_natCast] at this
        obtain ⟨X, HX⟩ : ∃ X, Hid (X = toF (fun n => T (n * 8 + en)) (allS Q)) := ⟨_, rfl⟩
        rw [← HX.out] at RN ⊢
        replace KQ := Hid.of (KQ.out.below hb1 KQ.out.lt)
        replace KF := Hid.of (KF.out.below hb1)
        clear hb1
        have HNA := Hid.of (nx_at hp.out HKL.out HQL.out (en : Int))
        have hnx : nxN p LL n (en : Int) = findL LL (seeL p q (en : Int)) := by unfold nxN; rw [HQL.out]; rfl
        have lk := lookS_plain HRL.out HKL.out.nd RN.out (see_in ((mayP_iff p).1 hp.out).1 q (en : Int)).1 (w := Z1) (r := nb) KF.out.mp (by have := HNA.out.2; rw [hnx] at this; omega)
        rw [← hnx] at lk
        have HKA : Hid (knA p LL n (k + 1) = knA p LL n k ++ [⟨(n : Int), (en : Int), (nxN p LL n (en : Int) : Int)⟩]) := knA_event HEK.out
        have hal := knA_len p LL hs8 n k (by omega)
        obtain ⟨nx, HNX⟩ : ∃ nx, Hid (nx = nxN p LL n (en : Int)) := ⟨_, rfl⟩
        obtain ⟨A, HA⟩ : ∃ A, Hid (A = knA p LL n k) := ⟨_, rfl⟩
        rw [← HNX.out] at lk HKA
        rw [← HA.out] at HKA hal KF
        clear hnx HNA
        obtain ⟨ra, rc, hra, -, -, -⟩ := own_form2 KF.out.ar
        subst hra
        have z3 := KF.out.kn.cell 3 rfl
        have hZB := KF.out.bel.size
        have bZ : Below Z1.heap.size Z1 (Z1.alloc (.cells #[.int .i64 (n : Int), .int .i64 (en : Int), .int .i64 (nx : Int)] 75)) := (Below.refl _ _).alloc (Nat.le_refl _) _
        go_wp2_with (at_builtin; refine wpList_append_arrs _ rfl (.tmp 75) (.tmp 80) 23 rfl w.heap.size j0 Tryd.underlying23 ji jz0 jz1 jz2 _ A rfl (World.ownsRow.alloc KF.out.ar _) (some ⟨Z1.heap.size, 0, none⟩) 1 [⟨(n : Int), (en : Int), (nx : Int)⟩] rfl (atA_new _ _ ⟨(n : Int), (en : Int), (nx : Int)⟩ _ rfl) (fun h => by cases h) (by simp; omega) (by simp; omega) ?_)
        intro v8 w8 o8 g8 n8
        obtain ⟨f1, f2, f3⟩ := FSt.arrow KF.out bZ o8 g8
        have F8 := Hid.of f2
        have KQ8 : Hid (SB (w8.setCell ⟨pk, 3, none⟩ v8) pb Q) := by
         have h1 : (Z1.alloc (.cells #[.int .i64 (n : Int), .int .i64 (en : Int), .int .i64 (nx : Int)] 75)).heap[pb]? = some (.cells (scells Q) 79 (0, 0)) := KQ.out.below bZ KQ.out.lt
         exact (f3 pb _ _ (by decide) (by decide) h1).trans h1
        rw [← HKA.out] at F8
        obtain ⟨sa8, sc8, hv8, -, -, -⟩ := own_form2 o8
        subst hv8
        have hl8 : (A ++ [(⟨(n : Int), (en : Int), (nx : Int)⟩ : Arr)]).length = A.length + 1 := by simp
        rw [hl8] at F8 KQ8
        clear hl8
        have y3 := f1.cell 3 rfl
        have yf := f1.frozen
        clear f1 f2 f3 o8 g8 n8 bZ hZB z3 lk KF KQ
        go_wp2_with fail
        go_roundw
        case rel => exact ⟨k + 1, _, by go_num, by omega, KQ8, F8⟩
        case measure => simp [intOf]; omega
       ·have hke : k = p.seen.length := by omega
        subst hke
        clear hks
        have KF2 : Hid (FSt w wr (.slice (some ⟨gg, 0, none⟩) SL.length cap) nb pk p.m.ev (.slice ba bad.length bc) va SL (badN p LL (n + 1)) (knA p LL (n + 1) 0)) := by
         have h := KF.out
         show FSt _ _ _ _ _ _ _ _ _ _ _
         rw [knA_next p LL n, HBN.out]; exact h
        clear KF
        go_wp2_with fail
        go_roundw
        case rel => exact ⟨n + 1, va, by go_num, by omega, KF2⟩
        case measure => simp [intOf]; omega
    ·have hne : n = SL.length := by omega
     subst hne
     clear hlt
     obtain ⟨A, HA⟩ : ∃ A, Hid (A = knA p LL SL.length 0) := ⟨_, rfl⟩
     rw [← HA.out] at WF
     have HKM : Hid ((⟨(SL.length : Int), p.m.ev, [], A, []⟩ : Mach) = knM p LL) := by show _ = _; unfold knM; rw [HA.out, HLN.out]
     have HBB : Hid (bad = badN p LL LL.length) := by show _ = _; rw [HBD.out, HLN.out]
     have HMK := Hid.of (may_kn hp.out HKL.out)
     have HOK : Hid (ctlOut (knM p LL) free (badN p LL LL.length) = (keepL (knM p LL) free (badN p LL LL.length), 0)) := ctlOut_ok (by
      rw [HMK.out, Bool.true_and, Bool.and_eq_true]
      exact ⟨hfr.out, badN_row HKL.out.len⟩)
     have HKI := Hid.of (inc_keep (knM p LL) free (badN p LL LL.length))
     have HKD : Hid (∀ x ∈ keepL (knM p LL) free (badN p LL LL.length), 0 ≤ x ∧ x < (LL.length : Int)) := keep_bd HMK.out free _
     have HSK : Hid (∀ s, Inc s → (∀ x ∈ s, 0 ≤ x ∧ x < p.m.st) → knownB (sfL LL (keepL (knM p LL) free (badN p LL LL.length))) s = g s) := fun s h1 h2 => safe_known hp.out HKL.out hg.out h1 h2
     obtain ⟨ks, HKS⟩ : ∃ ks, Hid (ks = keepL (knM p LL) free (badN p LL LL.length)) := ⟨_, rfl⟩
     rw [← HKS.out] at HOK HKI HKD HSK
     obtain ⟨aa, ac, haa, hat, al1, al2, al3⟩ := OwnA.at WF.out.ar
     subst haa
     have HAT := Hid.of hat
     have HAL := Hid.of al1
     have HAL2 := Hid.of al2
     have HAL3 := Hid.of al3
     obtain ⟨ba2, bc2, hbe, hbt, hbm⟩ := Own.at WF.out.bd
     cases hbe
     have HBT := Hid.of hbt
     have HBM := Hid.of hbm
     clear hat al1 al2 al3 hbt hbm
     have ZK := Hid.of (hK.out.below WF.out.bel hK.out.lt)
     have SA : Hid (∀ X, Below wr.heap.size wr X → X.cell? ⟨pk, 0, none⟩ = some (.int .i64 (SL.length : Int)) ∧ X.cell? ⟨pk, 1, none⟩ = some (.int .i64 p.m.ev) ∧ X.cell? ⟨pk, 2, none⟩ = some (.slice none 0 0) ∧ X.cell? ⟨pk, 3, none⟩ = some (.slice aa A.length ac) ∧ X.cell? ⟨pk, 4, none⟩ = some (.slice none 0 0) ∧ X.cell? ⟨kb, 7, none⟩ = some (.slice fa free.length fc)) := fun X hb => by
      have h1 := WF.out.kn.below hb WF.out.kn.lt
      exact ⟨h1.cell 0 rfl, h1.cell 1 rfl, h1.cell 2 rfl, h1.cell 3 rfl, h1.cell 4 rfl, (ZK.out.below hb ZK.out.lt).fr⟩
     go_wp2_with fail
     refine wp_region_held_drew (S := fun w' => w'.cell? ⟨pk, 0, none⟩ = some (.int .i64 (SL.length : Int)) ∧ w'.cell? ⟨pk, 1, none⟩ = some (.int .i64 p.m.ev) ∧ w'.cell? ⟨pk, 2, none⟩ = some (.slice none 0 0) ∧ w'.cell? ⟨pk, 3, none⟩ = some (.slice aa A.length ac) ∧ w'.cell? ⟨pk, 4, none⟩ = some (.slice none 0 0) ∧ w'.cell? ⟨kb, 7, none⟩ = some (.slice fa free.length fc)) (by kernel_rfl) (SA.out _ (Below.refl _ _).drew) (fun hS => ?_)
     have BF : Hid (Below wr.heap.size wr wr.drew) := (Below.refl _ _).drew
     revert hS BF
     generalize wr.drew = Y0
     intro hS BF
     refine tkH 0 (.agg #[.int .i64 (SL.length : Int), .int .i64 p.m.ev, .slice none 0 0, .slice aa A.length ac, .slice none 0 0]) rfl (fun w' hw' => by obtain ⟨q0, q1, q2, q3, q4, q5⟩ := hw'; go_simp) hS ?_
     refine tkH 1 (.pointer (some ⟨kb, 0, none⟩)) rfl (fun w' hw' => by obtain ⟨q0, q1, q2, q3, q4, q5⟩ := hw'; go_simp) hS ?_
     refine tkH 2 (.pointer (some ⟨kb, 0, none⟩)) rfl (fun w' hw' => by obtain ⟨q0, q1, q2, q3, q4, q5⟩ := hw'; go_simp) hS ?_
     refine tkH 3 (.pointer (some ⟨kb, 7, none⟩)) rfl (fun w' hw' => by obtain ⟨q0, q1, q2, q3, q4, q5⟩ := hw'; go_simp) hS ?_
     refine tkH 4 (.slice fa free.length fc) rfl (fun w' hw' => by obtain ⟨q0, q1, q2, q3, q4, q5⟩ := hw'; go_simp) hS ?_
     refine tkH 5 (.slice ba bad.length bc) rfl (fun w' hw' => by obtain ⟨q0, q1, q2, q3, q4, q5⟩ := hw'; go_simp) hS ?_
     simp only [Act.put, List.setIfInBounds_toArray]
     refine wpAnyH_ready (rs := [6]) (by kernel_rfl) (by simp) ?_
     refine AllReadyH.cons rfl (fun K' hK' => ?_) AllReadyH.nil
     clear hS
     go_simp
     have HMA : Hid (MAt Y0 ⟨(SL.length : Int), p.m.ev, [], A, []⟩ ⟨none, 0, aa, ac, none, 0⟩) := ⟨.inl rfl, HAT.out.below BF.out (Nat.le_refl _), .inl rfl, Nat.le_refl _, Nat.zero_le _, fun _ => rfl, HAL.out, HAL2.out, HAL3.out, Nat.le_refl _, Nat.zero_le _, fun _ => rfl⟩
     refine (pCtl_any ⟨(SL.length : Int), p.m.ev, [], A, []⟩ ⟨none, 0, aa, ac, none, 0⟩ fa fc free ba bc bad Y0 HMA.out (hF.out.below (WF.out.bel.trans (BF.out.mono WF.out.bel.size)) (Nat.le_refl _)) hFl.out (HBT.out.below BF.out (Nat.le_refl _)) HBM.out (hT.out.below (WF.out.bel.trans (BF.out.mono WF.out.bel.size)) hT.out.lt)).mono ?_
     rw [HKM.out, HBB.out, HOK.out]
     rintro e Y1 ⟨la, lc, rfl, hla, hlm, hb⟩
     dsimp only at hla hlm ⊢
     have HLA := Hid.of hla
     have HLM := Hid.of hlm
     replace BF := Hid.of (BF.out.trans (hb.mono BF.out.size))
     refine hK'.out _ _ (SA.out _ BF.out) (fun hS => ?_)
     clear hK' K' hb hla hlm HMA
     refine tkH 7 (.tuple #[.slice la ks.length lc, .int .i64 0]) rfl (fun w' hw' => by obtain ⟨q0, q1, q2, q3, q4, q5⟩ := hw'; go_simp) hS ?_
     refine tkH 8 (.slice la ks.length lc) rfl (fun w' hw' => by obtain ⟨q0, q1, q2, q3, q4, q5⟩ := hw'; go_simp) hS ?_
     refine tkH 9 (.int .i64 0) rfl (fun w' hw' => by obtain ⟨q0, q1, q2, q3, q4, q5⟩ := hw'; go_simp) hS ?_
     refine tkH 10 (.slice la ks.length lc) rfl (fun w' hw' => by obtain ⟨q0, q1, q2, q3, q4, q5⟩ := hw'; go_simp) hS ?_
     refine tkH 11 (.int .i64 0) rfl (fun w' hw' => by obtain ⟨q0, q1, q2, q3, q4, q5⟩ := hw'; go_simp) hS ?_
     refine wpAnyH_done (by kernel_rfl) ?_ _
     clear hS SA
     replace WF := Hid.of (WF.out.below BF.out)
     clear BF ZK HAT HAL HAL2 HAL3 HBT HBM
     have hmb := (Array.getElem?_eq_some_iff.1 hm.out).1
     have HMB := Hid.of hmb
     have HM1 : Hid (Y1.heap[mb]? = some (.map #[] 0)) := (WF.out.bel.block mb hmb).trans hm.out
     have HKB : Hid (kb ≠ mb) := by
      intro e
      have h1 := hK.out.frozen 0
      obtain ⟨cs, h2, -⟩ := hK.out
      have h2 : w.heap[kb]? = _ := h2
      rw [e, hm.out] at h2; cases h2
     have HGB : Hid (gg ≠ mb) := by show _ ≠ _; have := HWG.out; omega
     obtain ⟨gg2, cap2, hge, -, hrd⟩ := OwnS.rd WF.out.ss hpos
     cases hge
     have RD := Hid.of hrd
     have YK := Hid.of (hK.out.below WF.out.bel hK.out.lt)
     have BY := Hid.of WF.out.bel
     clear hrd hmb WF
     have hksl : ks.length ≤ 64 := nodup_len 64 _ (inc_nodup HKI.out) (fun x hx => by have := HKD.out x hx; have := HKL.out.len; omega)
     go_wp2_with fail
     go_loopw [97] (fun i wr => ∃ k : Nat, i = .int .i64 k ∧ k ≤ ks.length ∧ Hid (wr.heap[mb]? = some (.map (entsC (sfS SL (ks.take k))) k)) ∧ Hid (OthV mb Y1 wr)) (fun i _ => ks.length - (intOf i).toNat)
     case atStart => exact ⟨0, rfl, Nat.zero_le _, HM1, OthV.refl _ _⟩
     case round =>
      obtain ⟨k, rfl, hk, WM, WX⟩ := hrel
      by_cases hks : k < ks.length
      ·obtain ⟨eb, eo, rfl, hwb, hcw⟩ : ∃ eb eo, la = some ⟨eb, eo, none⟩ ∧ eb < Y1.heap.size ∧ Cells Y1 eb eo ks := by
        rcases HLA.out with h0 | h0
        ·rw [h0] at hks; simp at hks
        ·exact h0
       obtain ⟨e, HE1, ce⟩ := hcw.at hks
       have HEK : Hid (ks[k]? = some e) := by show _ = _; rw [HE1.out, List.getElem?_eq_getElem hks]; rfl
       have heb := HKD.out e (List.mem_of_getElem? HEK.out)
       obtain ⟨n, rfl⟩ : ∃ n : Nat, e = (n : Int) := ⟨e.toNat, by omega⟩
       have hnl : n < SL.length := by have := HLN.out; omega
       obtain ⟨Q, HQ⟩ : ∃ Q, Hid (SL[n]? = some Q) := ⟨_, List.getElem?_eq_getElem hnl⟩
       obtain ⟨q, hq1, hq2, hq3⟩ := HRL.out.rep n Q HQ.out
       have HNE : Hid (eb ≠ mb) := by
        intro h
        rw [h, cell_mapV HM1.out] at ce
        cases ce
       have cw : wr.cell? ⟨eb, eo + k, none⟩ = some (.int .i64 (n : Int)) := by
        have := WX.out.oth eb hwb HNE.out
        rw [World.cell?_of_block (w := Y1) this]; exact ce
       have hkI : (k : Int) < (ks.length : Int) := by omega
       have hnI : (n : Int) < (SL.length : Int) := by omega
       have HRep : Hid (RepCL (sfS SL (ks.take k)) (sfL LL (ks.take k))) := sf_rep HRL.out (fun x hx => HKD.out x (List.mem_of_mem_take hx))
       have hsl : (sfS SL (ks.take k)).length = k := by simp [sfS]; omega
       have hnew : knownB (sfL LL (ks.take k)) q = false := by
        have := sf_new HKL.out.nd HKI.out HKD.out HEK.out
        rw [Int.toNat_natCast, hq1] at this
        exact this
       have HU : Hid (∀ X : World, X.heap[mb]? = some (.map (entsC (sfS SL (ks.take k))) k) → (Instr.mapUpdate 118 (.map (some mb)) (sval Q) (.agg #[])).run Tryd.prog X = .ok () (setMap X mb (.map (entsC (sfS SL (ks.take (k + 1)))) (k + 1)))) := fun X hX => by
        have := updC_new HRep.out (p := ⟨Q, .slice none 0 0, []⟩) (s := q) ⟨hq2, hq3⟩ (w := X) (r := mb) (by rw [hsl]; exact hX) hnew
        rw [hsl, ← sfS_succ HEK.out (by rw [Int.toNat_natCast]; exact HQ.out)] at this
        exact this
       clear hq1 hq2 hq3 hsl hnew HRep ce hcw HE1 heb
       have SA : Hid (∀ X, OthV mb Y1 X → X.cell? ⟨kb, 204, none⟩ = some (.map (some mb)) ∧ X.cell? ⟨gg, n * 4, none⟩ = some (.int .u64 (Q 0)) ∧ X.cell? ⟨gg, n * 4 + 1, none⟩ = some (.int .u64 (Q 1)) ∧ X.cell? ⟨gg, n * 4 + 2, none⟩ = some (.int .u64 (Q 2)) ∧ X.cell? ⟨gg, n * 4 + 3, none⟩ = some (.int .u64 (Q 3))) := fun X hb => by
        obtain ⟨c0, c1, c2, c3⟩ := (RD.out.same hb.bel.size (hb.oth gg RD.out.1 HGB.out)).2 n Q HQ.out
        exact ⟨(YK.out.same (hb.oth kb YK.out.lt HKB.out)).mp, c0, c1, c2, c3⟩
       go_wp2_with fail
       clear cw
       have hmY : mb ≤ Y1.heap.size := Nat.le_of_lt (Nat.lt_of_lt_of_le HMB.out BY.out.size)
       refine wp_region_held_drew (S := fun w' => w'.cell? ⟨kb, 204, none⟩ = some (.map (some mb)) ∧ w'.cell? ⟨gg, n * 4, none⟩ = some (.int .u64 (Q 0)) ∧ w'.cell? ⟨gg, n * 4 + 1, none⟩ = some (.int .u64 (Q 1)) ∧ w'.cell? ⟨gg, n * 4 + 2, none⟩ = some (.int .u64 (Q 2)) ∧ w'.cell? ⟨gg, n * 4 + 3, none⟩ = some (.int .u64 (Q 3))) (by kernel_rfl) (SA.out _ (WX.out.below (Below.refl _ _).drew hmY)) (fun hS => ?_)
       have WX2 : Hid (OthV mb Y1 wr.drew) := WX.out.below (Below.refl _ _).drew hmY
       have WM2 : Hid (wr.drew.heap[mb]? = some (.map (entsC (sfS SL (ks.take k))) k)) := WM.out
       revert hS WX2 WM2
       generalize wr.drew = Y0
       intro hS WX2 WM2
       refine tkH 0 (.pointer (some ⟨kb, 0, none⟩)) rfl (fun w' hw' => by obtain ⟨q0, q1, q2, q3, q4⟩ := hw'; go_simp) hS ?_
       refine tkH 1 (.pointer (some ⟨kb, 0, none⟩)) rfl (fun w' hw' => by obtain ⟨q0, q1, q2, q3, q4⟩ := hw'; go_simp) hS ?_
       refine tkH 2 (.pointer (some ⟨kb, 204, none⟩)) rfl (fun w' hw' => by obtain ⟨q0, q1, q2, q3, q4⟩ := hw'; go_simp) hS ?_
       refine tkH 3 (.map (some mb)) rfl (fun w' hw' => by obtain ⟨q0, q1, q2, q3, q4⟩ := hw'; go_simp) hS ?_
       refine tkH 4 (.slice (some ⟨gg, 0, none⟩) SL.length cap) rfl (fun w' hw' => by obtain ⟨q0, q1, q2, q3, q4⟩ := hw'; go_simp) hS ?_
       refine tkH 5 (.int .i64 (n : Int)) rfl (fun w' hw' => by obtain ⟨q0, q1, q2, q3, q4⟩ := hw'; go_simp) hS ?_
       refine tkH 6 (.pointer (some ⟨gg, n * 4, none⟩)) rfl (fun w' hw' => by obtain ⟨q0, q1, q2, q3, q4⟩ := hw'; go_simp) hS ?_
       refine tkH 7 (sval Q) rfl (fun w' hw' => by obtain ⟨q0, q1, q2, q3, q4⟩ := hw'; go_simp) hS ?_
       refine tkH 8 (.agg #[]) rfl (fun w' hw' => by obtain ⟨q0, q1, q2, q3, q4⟩ := hw'; go_simp) hS ?_
       simp only [Act.put, List.setIfInBounds_toArray]
       refine wpAnyH_ready (rs := [9]) (by kernel_rfl) (by simp) ?_
       refine AllReadyH.cons rfl (fun K' hK' => ?_) AllReadyH.nil
       clear hS
       have hu := HU.out Y0 WM2.out
       go_simp
       have N1 : Hid ((setMap Y0 mb (.map (entsC (sfS SL (ks.take (k + 1)))) (k + 1))).heap[mb]? = some (.map (entsC (sfS SL (ks.take (k + 1)))) (k + 1))) := heap_setMap _ _ (Array.getElem?_eq_some_iff.1 WM2.out).1
       have N2 := Hid.of (WX2.out.map (.map (entsC (sfS SL (ks.take (k + 1)))) (k + 1)))
       refine hK'.out _ _ (SA.out _ N2.out) (fun hS => ?_)
       clear hK' K' hS hu
       refine wpAnyH_done (by kernel_rfl) ?_ _
       clear SA HU WX2 WM2 WX WM
       go_wp2_with fail
       go_roundw
       case rel => exact ⟨k + 1, by go_num, by omega, N1, N2⟩
       case measure => simp [intOf]; omega
      ·have hke : k = ks.length := by omega
       subst hke
       clear hks
       go_wp2_with fail
       go_end0
       have hM := WM.out
       rw [List.take_of_length_le (Nat.le_refl _)] at hM
       exact ⟨rfl, sfS SL ks, sfL LL ks, ks.length, hM, ⟨hp.out, hpl.out, hg.out, hTb.out, sf_rep HRL.out HKD.out, HSK.out⟩, (OthV.of_below BY.out (Nat.le_of_lt HMB.out)).trans WX.out⟩

end Go.Proofs.YtkodmnooibpflaaDoor
