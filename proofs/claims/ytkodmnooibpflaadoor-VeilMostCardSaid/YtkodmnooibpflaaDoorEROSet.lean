/-
 The walk of jalousieref15.sets.
-/
import Derived.Deep.RegionHeld3
import Derived.Test.YtkodmnooibpflaaDoorI15
import Derived.Test.YtkodmnooibpflaaDoorI39
namespace Go.Proofs.YtkodmnooibpflaaDoor
open Go.RowKit
set_option linter.unusedVariables false

theorem cells_oneO (W W' : World) (hW : W'.heap = W.heap) (t : TypeId) (x : Value) : ∀ j u, ([x] : List Value)[j]? = some u → (W'.alloc (.cells #[x] t)).cell? ((⟨W.heap.size, 0, none⟩ : Addr).add j) = some u := by
 intro j u hu
 rw [addr0_add, Nat.zero_add, ← hW]
 exact (Blk.new W' t #[x]).cell j (by rw [← Array.getElem?_toList]; exact hu)
set_option maxRecDepth 100000 in
set_option maxHeartbeats 16000000 in
theorem rosets_go (p : Plant) (Pl : ML) (sa : Option Addr) (sc : Nat) (ta : Option Addr) (tc : Nat) (o : Mach) (lo : ML) (s0 : Int) (w : World) (hp : Hid (PAt w p ⟨Pl, sa, sc, ta, tc⟩)) (ho : Hid (MAt w o lo)) (hm : Hid (mayB p.m = true)) (hmo : Hid (mayB o = true)) (z6 : Hid (p.m.st ≤ 6)) (zo : Hid (o.st ≤ 6)) (hs8 : p.seen.length ≤ 8) (hst : Hid (p.m.starts[0]? = some s0)) (hx0 : Hid (OkP p o (s0, o.starts))) :
  Calls Tryd.prog 94 #[ptval p ⟨Pl, sa, sc, ta, tc⟩, mval o lo] w fun e w' => SetsPost w (setsO p o (s0, o.starts)) e w' := by
 obtain ⟨la1, lb1, la2, lb2, la3, lb3⟩ := Pl
 have hz := mayB_size hm.out
 have hz2' := mayB_size hmo.out
 unfold sizeOk at hz hz2'
 have hl1 : Hid (p.m.arrows.length ≤ 4096) := show _ ≤ _ by omega
 have hl2 : Hid (o.arrows.length ≤ 4096) := show _ ≤ _ by omega
 clear hz hz2'
 obtain ⟨i0, hi, hz0, hz1, hz2⟩ := info_parts Tryd.infoAtQ
 obtain ⟨j0, hjq, jz0, jz1, jz2⟩ := info_parts Tryd.infoRowQ
 have HG0 : Hid (∀ x ∈ [widO p o [(s0, o.starts)]], GoodL p o x) := fun x hx => by
  rw [List.mem_singleton] at hx
  have h := widO_spec hm.out hmo.out z6.out zo.out (l := [(s0, o.starts)]) (by simp) (fun y hy => by rw [List.mem_singleton] at hy; rw [hy]; exact hx0.out)
  rw [hx]; exact ⟨h.1, h.2.1⟩
 have HVB : Hid (Below w.heap.size w ((w.alloc (.cells (ptcells p ⟨⟨la1, lb1, la2, lb2, la3, lb3⟩, sa, sc, ta, tc⟩) 44)).alloc (.cells (mcells o lo) 25))) := ((Below.refl _ _).alloc (Nat.le_refl _) _).alloc (by simp) _
 have KP : Hid (Blk ((w.alloc (.cells (ptcells p ⟨⟨la1, lb1, la2, lb2, la3, lb3⟩, sa, sc, ta, tc⟩) 44)).alloc (.cells (mcells o lo) 25)) w.heap.size 44 (ptcells p ⟨⟨la1, lb1, la2, lb2, la3, lb3⟩, sa, sc, ta, tc⟩)) := (Blk.new w _ _).alloc _
 have KO : Hid (Blk ((w.alloc (.cells (ptcells p ⟨⟨la1, lb1, la2, lb2, la3, lb3⟩, sa, sc, ta, tc⟩) 44)).alloc (.cells (mcells o lo) 25)) (w.heap.size + 1) 25 (mcells o lo)) := by
  have := Blk.new (w.alloc (.cells (ptcells p ⟨⟨la1, lb1, la2, lb2, la3, lb3⟩, sa, sc, ta, tc⟩) 44)) 25 (mcells o lo)
  rwa [World.size_alloc] at this
 have hs1 : 0 < p.m.starts.length := (List.getElem?_eq_some_iff.1 hst.out).1
 have hsI : (0 : Int) < (p.m.starts.length : Int) := by omega
 rcases hp.out.m.s with h0 | ⟨b0, f0, ha0, hb0, hc0⟩
 ·exact absurd h0 (by intro q; rw [q] at hs1; simp at hs1)
 dsimp only at ha0
 subst ha0
 have HB0 := Hid.of hb0
 have CS0 : Hid (w.cell? ⟨b0, f0, none⟩ = some (.int .i64 s0)) := by
  have := hc0 0 hs1
  rw [List.getD_eq_getElem?_getD, hst.out, Nat.add_zero] at this
  exact this
 clear hb0 hc0
 go_enter Tryd.func94, Tryd.ntmps94
 go_wp2_with fail
 revert HVB KP KO
 generalize ((w.alloc (.cells (ptcells p ⟨⟨some ⟨b0, f0, none⟩, lb1, la2, lb2, la3, lb3⟩, sa, sc, ta, tc⟩) 44)).alloc (.cells (mcells o lo) 25)) = V0
 intro HVB KP KO
 have SA : Hid (∀ W, Below V0.heap.size V0 W → W.cell? ⟨w.heap.size, 0, none⟩ = some (.int .i64 p.m.st) ∧ W.cell? ⟨w.heap.size, 1, none⟩ = some (.int .i64 p.m.ev) ∧ W.cell? ⟨w.heap.size, 2, none⟩ = some (.slice (some ⟨b0, f0, none⟩) p.m.starts.length lb1) ∧ W.cell? ⟨w.heap.size, 3, none⟩ = some (.slice la2 p.m.arrows.length lb2) ∧ W.cell? ⟨w.heap.size, 4, none⟩ = some (.slice la3 p.m.ends.length lb3) ∧ W.cell? ⟨w.heap.size, 5, none⟩ = some (.slice sa p.seen.length sc) ∧ W.cell? ⟨w.heap.size, 6, none⟩ = some (.slice ta p.secret.length tc) ∧ W.cell? ⟨w.heap.size + 1, 0, none⟩ = some (.int .i64 o.st) ∧ W.cell? ⟨w.heap.size + 1, 1, none⟩ = some (.int .i64 o.ev) ∧ W.cell? ⟨w.heap.size + 1, 2, none⟩ = some (.slice lo.a1 o.starts.length lo.c1) ∧ W.cell? ⟨w.heap.size + 1, 3, none⟩ = some (.slice lo.a2 o.arrows.length lo.c2) ∧ W.cell? ⟨w.heap.size + 1, 4, none⟩ = some (.slice lo.a3 o.ends.length lo.c3) ∧ W.cell? ⟨b0, f0, none⟩ = some (.int .i64 s0)) := fun W hb => by
  obtain ⟨x0, x1, x2, x3, x4, x5, x6⟩ := ptcell_at (KP.out.below hb KP.out.lt)
  obtain ⟨y0, y1, y2, y3, y4⟩ := mcell_at (KO.out.below hb KO.out.lt)
  exact ⟨x0, x1, x2, x3, x4, x5, x6, y0, y1, y2, y3, y4, ((HVB.out.trans (hb.mono HVB.out.size)).cell (p := ⟨b0, f0, none⟩) HB0.out).trans CS0.out⟩
 refine wp_region_held_drew (S := fun w' => w'.cell? ⟨w.heap.size, 0, none⟩ = some (.int .i64 p.m.st) ∧ w'.cell? ⟨w.heap.size, 1, none⟩ = some (.int .i64 p.m.ev) ∧ w'.cell? ⟨w.heap.size, 2, none⟩ = some (.slice (some ⟨b0, f0, none⟩) p.m.starts.length lb1) ∧ w'.cell? ⟨w.heap.size, 3, none⟩ = some (.slice la2 p.m.arrows.length lb2) ∧ w'.cell? ⟨w.heap.size, 4, none⟩ = some (.slice la3 p.m.ends.length lb3) ∧ w'.cell? ⟨w.heap.size, 5, none⟩ = some (.slice sa p.seen.length sc) ∧ w'.cell? ⟨w.heap.size, 6, none⟩ = some (.slice ta p.secret.length tc) ∧ w'.cell? ⟨w.heap.size + 1, 0, none⟩ = some (.int .i64 o.st) ∧ w'.cell? ⟨w.heap.size + 1, 1, none⟩ = some (.int .i64 o.ev) ∧ w'.cell? ⟨w.heap.size + 1, 2, none⟩ = some (.slice lo.a1 o.starts.length lo.c1) ∧ w'.cell? ⟨w.heap.size + 1, 3, none⟩ = some (.slice lo.a2 o.arrows.length lo.c2) ∧ w'.cell? ⟨w.heap.size + 1, 4, none⟩ = some (.slice lo.a3 o.ends.length lo.c3) ∧ w'.cell? ⟨b0, f0, none⟩ = some (.int .i64 s0)) (by kernel_rfl) (SA.out _ (Below.refl _ _).drew) (fun hS => ?_)
 have HY : Hid (Below V0.heap.size V0 V0.drew) := (Below.refl _ _).drew
 revert hS HY
 generalize V0.drew = Y0
 intro hS HY
 refine tkH 0 (ptval p ⟨⟨some ⟨b0, f0, none⟩, lb1, la2, lb2, la3, lb3⟩, sa, sc, ta, tc⟩) rfl (fun w' hw' => by obtain ⟨q0, q1, q2, q3, q4, q5, q6, q7, q8, q9, q10, q11, q12⟩ := hw'; go_simp) hS ?_
 refine tkH 1 (mval o lo) rfl (fun w' hw' => by obtain ⟨q0, q1, q2, q3, q4, q5, q6, q7, q8, q9, q10, q11, q12⟩ := hw'; go_simp) hS ?_
 refine tkH 2 (.pointer (some ⟨w.heap.size, 0, none⟩)) rfl (fun w' hw' => by obtain ⟨q0, q1, q2, q3, q4, q5, q6, q7, q8, q9, q10, q11, q12⟩ := hw'; go_simp) hS ?_
 refine tkH 3 (.pointer (some ⟨w.heap.size, 2, none⟩)) rfl (fun w' hw' => by obtain ⟨q0, q1, q2, q3, q4, q5, q6, q7, q8, q9, q10, q11, q12⟩ := hw'; go_simp) hS ?_
 refine tkH 4 (.slice (some ⟨b0, f0, none⟩) p.m.starts.length lb1) rfl (fun w' hw' => by obtain ⟨q0, q1, q2, q3, q4, q5, q6, q7, q8, q9, q10, q11, q12⟩ := hw'; go_simp) hS ?_
 refine tkH 5 (.pointer (some ⟨b0, f0, none⟩)) rfl (fun w' hw' => by obtain ⟨q0, q1, q2, q3, q4, q5, q6, q7, q8, q9, q10, q11, q12⟩ := hw'; go_simp) hS ?_
 refine tkH 6 (.int .i64 s0) rfl (fun w' hw' => by obtain ⟨q0, q1, q2, q3, q4, q5, q6, q7, q8, q9, q10, q11, q12⟩ := hw'; go_simp) hS ?_
 refine tkH 7 (.pointer (some ⟨w.heap.size + 1, 2, none⟩)) rfl (fun w' hw' => by obtain ⟨q0, q1, q2, q3, q4, q5, q6, q7, q8, q9, q10, q11, q12⟩ := hw'; go_simp) hS ?_
 refine tkH 8 (.slice lo.a1 o.starts.length lo.c1) rfl (fun w' hw' => by obtain ⟨q0, q1, q2, q3, q4, q5, q6, q7, q8, q9, q10, q11, q12⟩ := hw'; go_simp) hS ?_
 refine tkH 9 (.agg #[.int .i64 s0, .slice lo.a1 o.starts.length lo.c1]) rfl (fun w' hw' => by obtain ⟨q0, q1, q2, q3, q4, q5, q6, q7, q8, q9, q10, q11, q12⟩ := hw'; go_simp) hS ?_
 simp only [Act.put, List.setIfInBounds_toArray]
 refine wpAnyH_ready (rs := [10]) (by kernel_rfl) (by simp) ?_
 refine AllReadyH.cons rfl (fun K' hK' => ?_) AllReadyH.nil
 clear hS
 go_simp
 have hb : Below Y0.heap.size Y0 (Y0.alloc (.cells #[.int .i64 s0, .slice lo.a1 o.starts.length lo.c1] 135)) := (Below.refl _ _).alloc (Nat.le_refl _) _
 have OW : Hid (NXo V0 (Y0.alloc (.cells #[.int .i64 s0, .slice lo.a1 o.starts.length lo.c1] 135)) w.heap.size (.slice (some ⟨Y0.heap.size, 0, none⟩) 1 1) [(s0, o.starts)]) := ⟨ownQ_one (innW_at ho.out.s (Nat.le_trans ho.out.s1 ho.out.s2) ho.out.s3 (HVB.out.trans (HY.out.mono HVB.out.size))) (HVB.out.trans (HY.out.mono HVB.out.size)).size HY.out.size, HY.out.trans (hb.mono HY.out.size)⟩
 replace HY := Hid.of (HY.out.trans (hb.mono HY.out.size))
 refine hK'.out _ _ (SA.out _ HY.out) (fun hS => ?_)
 clear hK' K' hb
 revert OW HY hS
 generalize Y0.alloc (.cells #[.int .i64 s0, .slice lo.a1 o.starts.length lo.c1] 135) = Y1
 generalize Y0.heap.size = sb
 intro OW HY hS
 refine wpAnyH_ready (rs := [11]) (by kernel_rfl) (by simp) ?_
 refine AllReadyH.cons rfl (fun K' hK' => ?_) AllReadyH.nil
 clear hS
 go_simp
 refine (rowide_any p (⟨some ⟨b0, f0, none⟩, lb1, la2, lb2, la3, lb3⟩ : ML) sa sc ta tc o lo w hp ho hm hmo z6 zo w.heap.size V0.heap.size (.slice (some ⟨sb, 0, none⟩) 1 1) [(s0, o.starts)] Y1 (Hid.of (HVB.out.trans (HY.out.mono HVB.out.size))) HVB.out.size HVB.out.size HY.out.size (Hid.of OW.out.ow) (Hid.of (by simp)) (Hid.of (fun x hx => by rw [List.mem_singleton] at hx; rw [hx]; exact mem_allO zo.out hx0.out))).mono ?_
 rintro e1 Y2 ⟨v1, rfl, ow1, hb⟩
 have OW1 : Hid (NXo V0 Y2 w.heap.size v1 (widO p o [(s0, o.starts)])) := ⟨ow1, HY.out.trans hb⟩
 replace HY := Hid.of (HY.out.trans hb)
 refine hK'.out _ _ (SA.out _ HY.out) (fun hS => ?_)
 clear hK' K' hb OW ow1
 refine tkH 12 (v1) rfl (fun w' hw' => by obtain ⟨q0, q1, q2, q3, q4, q5, q6, q7, q8, q9, q10, q11, q12⟩ := hw'; go_simp) hS ?_
 refine wpAnyH_done (by kernel_rfl) ?_ _
 clear hS
 obtain ⟨a1, c1, hv1⟩ := OW1.out.ow.form
 subst hv1
 obtain ⟨a1', c1', ev1, at1, -⟩ := OW1.out.ow.at
 cases ev1
 have HL0 : Hid (LO w (Y2.alloc (.cells #[.slice a1 (widO p o [(s0, o.starts)]).length c1] 133)) p ⟨⟨some ⟨b0, f0, none⟩, lb1, la2, lb2, la3, lb3⟩, sa, sc, ta, tc⟩ o lo (.slice (some ⟨Y2.heap.size, 0, none⟩) 1 1) [widO p o [(s0, o.starts)]]) := by
  have b0 : Below w.heap.size w Y2 := HVB.out.trans (HY.out.mono HVB.out.size)
  have b1 : Below Y2.heap.size Y2 (Y2.alloc (.cells #[.slice a1 (widO p o [(s0, o.starts)]).length c1] 133)) := (Below.refl _ _).alloc (Nat.le_refl _) _
  exact ⟨ownQQ_one at1 b0.size b0.size, b0.trans (b1.mono b0.size), (KP.out.below HY.out KP.out.lt).below b1 (KP.out.below HY.out KP.out.lt).lt, (KO.out.below HY.out KO.out.lt).below b1 (KO.out.below HY.out KO.out.lt).lt⟩
 clear OW1 HY at1 SA HVB KP KO
 go_wp2_with fail
 revert HL0
 generalize Y2.alloc (.cells #[.slice a1 (widO p o [(s0, o.starts)]).length c1] 133) = VL
 intro HL0
 go_loopw [7, 8] (fun v7 i wr => ∃ (k : Nat) (QL : List (List PlO)), i = .int .i64 (k : Int) ∧ k ≤ QL.length ∧ k ≤ 600 ∧ QL.length ≤ 608 ∧ Hid (LO w wr p ⟨⟨some ⟨b0, f0, none⟩, lb1, la2, lb2, la3, lb3⟩, sa, sc, ta, tc⟩ o lo v7 QL) ∧ Hid (∀ x ∈ QL, GoodL p o x) ∧ Hid (setsO p o (s0, o.starts) = setGo p o (602 - k) k QL)) (fun _ i _ => 602 - (intOf i).toNat)
 case atStart => exact ⟨0, _, rfl, by simp, by omega, by simp, HL0, HG0.out, rfl⟩
 case round =>
  clear HL0
  obtain ⟨k, QL, rfl, hk, hk6, hql, HL, HGD, HGO⟩ := hrel
  obtain ⟨la, lc, hv7⟩ := HL.out.qq.form
  subst hv7
  by_cases hlt : k < QL.length
  ·obtain ⟨Lk, HLK⟩ : ∃ y, Hid (QL[k]? = some y) := ⟨_, List.getElem?_eq_getElem hlt⟩
   have hkD : decide ((k : Int) < (QL.length : Int)) = true := by simp; omega
   by_cases hbig : 600 < QL.length
   ·have hbD : decide ((600 : Int) < (QL.length : Int)) = true := by simp; omega
    have HE : Hid (setsO p o (s0, o.starts) = none) := by
     show _ = _
     rw [HGO.out, show 602 - k = (601 - k) + 1 by omega, setGo, HLK.out]
     exact if_pos hbig
    have HWB := Hid.of HL.out.bel
    clear HL HGD HGO
    go_wp2_with fail
    refine bodyPost_ret (v := .tuple #[.slice none 0 0, .bool false]) (by simp [results, go_sem]) rfl ?_
    rw [HE.out]
    exact ⟨rfl, HWB.out⟩
   ·have hbD : decide ((600 : Int) < (QL.length : Int)) = false := by simp; omega
    have HGN : Hid (setsO p o (s0, o.starts) = setGo p o (602 - (k + 1)) (k + 1) (setRow p o Lk QL p.seen.length)) := by
     show _ = _
     rw [HGO.out, show 602 - k = (602 - (k + 1)) + 1 by omega, setGo, HLK.out]
     exact if_neg hbig
    have HGK : Hid (GoodL p o Lk) := HGD.out Lk (List.mem_of_getElem? HLK.out)
    have HLkl : Hid (Lk.length ≤ 384) := HGK.out.len z6.out zo.out
    have HQ6 : Hid (QL.length ≤ 600) := show _ ≤ _ by omega
    go_wp2_with fail
    clear hkD hbD
    go_loopw [7, 9] (fun v7 i wr' => ∃ i' : Nat, i = .int .i64 (i' : Int) ∧ i' ≤ p.seen.length ∧ Hid (LO w wr' p ⟨⟨some ⟨b0, f0, none⟩, lb1, la2, lb2, la3, lb3⟩, sa, sc, ta, tc⟩ o lo v7 (setRow p o Lk QL i'))) (fun _ i _ => p.seen.length - (intOf i).toNat)
    case atStart => exact ⟨0, rfl, Nat.zero_le _, HL⟩
    case round =>
     clear HL
     obtain ⟨i, rfl, hii, HLW⟩ := hrel
     obtain ⟨cur, HCU⟩ : ∃ cur, Hid (cur = setRow p o Lk QL i) := ⟨_, rfl⟩
     rw [← HCU.out] at HLW
     obtain ⟨la, lc, hv7⟩ := HLW.out.qq.form
     subst hv7
     obtain ⟨x0, x1, x2, x3, x4, x5, x6⟩ := ptcell_at HLW.out.kp
     by_cases hil : i < p.seen.length
     ·have hiD : decide ((i : Int) < (p.seen.length : Int)) = true := by simp; omega
      have HCK : Hid (cur[k]? = some Lk) := by show _ = _; rw [HCU.out]; exact setRow_at HLK.out i
      have hcl : cur.length ≤ 608 := by
       rw [HCU.out]
       have := setRow_len (p := p) (o := o) (L := Lk) (l := QL) i
       have := HQ6.out
       omega
      have HCG : Hid (∀ x ∈ cur, GoodL p o x) := by rw [HCU.out]; exact setRow_good hm.out hmo.out z6.out zo.out HGD.out i
      obtain ⟨ee, HEE⟩ : ∃ e, Hid (p.seen[i]? = some e) := ⟨_, List.getElem?_eq_getElem hil⟩
      have HSN : Hid (setRow p o Lk QL (i + 1) = setStep p o Lk cur ee) := by show _ = _; rw [setRow_succ HEE.out, ← HCU.out]
      go_wp2_with fail
      clear x0 x1 x2 x3 x4 x5 x6 hiD
      obtain ⟨Wn, hWn⟩ : ∃ W : World, W = wr := ⟨_, rfl⟩
      rw [← hWn] at HLW ⊢
      clear hWn
      go_loopw [10, 11] (fun v10 i wr'' => ∃ j : Nat, i = .int .i64 (j : Int) ∧ j ≤ Lk.length ∧ Hid (NXo Wn wr'' w.heap.size v10 (stpT p o Lk ee j))) (fun _ i _ => Lk.length - (intOf i).toNat)
      case atStart => exact ⟨0, rfl, Nat.zero_le _, ⟨ownQ_nil _ _ _, Below.refl _ _⟩⟩
      case round =>
       obtain ⟨j, rfl, hj, HW⟩ := hrel
       obtain ⟨W1, hW1⟩ : ∃ W : World, W = wr := ⟨_, rfl⟩
       rw [← hW1] at HW ⊢
       clear hW1
       obtain ⟨nx, HC⟩ : ∃ nx, Hid (nx = stpT p o Lk ee j) := ⟨_, rfl⟩
       rw [← HC.out] at HW
       have HGX : Hid (GoodL p o nx) := by rw [HC.out]; exact stpT_good hm.out hmo.out Lk ee j
       have hnl : nx.length ≤ 384 := HGX.out.len z6.out zo.out
       have hLl := HLkl.out
       obtain ⟨na, nc, hv10⟩ := HW.out.ow.form
       subst hv10
       have HL1 := Hid.of (HLW.out.below HW.out.bel)
       have HBW := Hid.of HL1.out.bel
       obtain ⟨gl, cp, ra, rc, egl, hgl, cgl, hat⟩ := HL1.out.qq.get HCK.out
       cases egl
       have hk0 : (0 : Int) ≤ (k : Int) := by omega
       have hk1 : (k : Int) < (cur.length : Int) := by have := (List.getElem?_eq_some_iff.1 HCK.out).1; omega
       by_cases hjl : j < Lk.length
       ·have hjD : decide ((j : Int) < (Lk.length : Int)) = true := by simp; omega
        obtain ⟨⟨ym, ys⟩, HYY⟩ : ∃ y, Hid (Lk[j]? = some y) := ⟨_, List.getElem?_eq_getElem hjl⟩
        obtain ⟨g, og, sy, sk, hga, hg, c1q, c2q, i1, i2, -⟩ := hat.get HYY.out
        dsimp only at c1q c2q i1 i2
        subst hga
        go_wp2_with fail
        have I1 := Hid.of i1
        have I2 := Hid.of i2
        have HG := Hid.of hg
        have C1 := Hid.of c1q
        have C2 := Hid.of c2q
        have HGL := Hid.of hgl
        have CGL := Hid.of cgl
        clear c1q c2q i1 i2 hg hgl cgl hat hjD
        rcases hp.out.s.at_ with hs0 | ⟨gs, os, hsa, hgs, hsc⟩
        ·exact absurd hs0 (by intro q; rw [q] at hil; simp at hil)
        have HGS := Hid.of hgs
        have CS : Hid (w.cell? ⟨gs, os + i, none⟩ = some (.int .i64 ee)) := by
         have := hsc i hil
         rw [List.getD_eq_getElem?_getD, HEE.out] at this
         exact this
        clear hgs hsc
        have HSA := Hid.of hsa
        have SA : Hid (∀ W, Below W1.heap.size W1 W → W.cell? ⟨w.heap.size, 0, none⟩ = some (.int .i64 p.m.st) ∧ W.cell? ⟨w.heap.size, 1, none⟩ = some (.int .i64 p.m.ev) ∧ W.cell? ⟨w.heap.size, 2, none⟩ = some (.slice (some ⟨b0, f0, none⟩) p.m.starts.length lb1) ∧ W.cell? ⟨w.heap.size, 3, none⟩ = some (.slice la2 p.m.arrows.length lb2) ∧ W.cell? ⟨w.heap.size, 4, none⟩ = some (.slice la3 p.m.ends.length lb3) ∧ W.cell? ⟨w.heap.size, 5, none⟩ = some (.slice sa p.seen.length sc) ∧ W.cell? ⟨w.heap.size, 6, none⟩ = some (.slice ta p.secret.length tc) ∧ W.cell? ⟨w.heap.size + 1, 0, none⟩ = some (.int .i64 o.st) ∧ W.cell? ⟨w.heap.size + 1, 1, none⟩ = some (.int .i64 o.ev) ∧ W.cell? ⟨w.heap.size + 1, 2, none⟩ = some (.slice lo.a1 o.starts.length lo.c1) ∧ W.cell? ⟨w.heap.size + 1, 3, none⟩ = some (.slice lo.a2 o.arrows.length lo.c2) ∧ W.cell? ⟨w.heap.size + 1, 4, none⟩ = some (.slice lo.a3 o.ends.length lo.c3) ∧ W.cell? ⟨gl, k, none⟩ = some (.slice (some ⟨g, og, none⟩) Lk.length rc) ∧ W.cell? ⟨g, og + j * 2, none⟩ = some (.int .i64 ym) ∧ W.cell? ⟨g, og + j * 2 + 1, none⟩ = some (.slice sy ys.length sk) ∧ W.cell? ⟨gs, os + i, none⟩ = some (.int .i64 ee)) := fun W hb => by
         have q := HL1.out.below hb
         obtain ⟨x0, x1, x2, x3, x4, x5, x6⟩ := ptcell_at q.kp
         obtain ⟨y0, y1, y2, y3, y4⟩ := mcell_at q.ko
         exact ⟨x0, x1, x2, x3, x4, x5, x6, y0, y1, y2, y3, y4, (hb.cell (p := ⟨gl, k, none⟩) HGL.out).trans CGL.out, (hb.cell (p := ⟨g, og + j * 2, none⟩) HG.out).trans C1.out, (hb.cell (p := ⟨g, og + j * 2 + 1, none⟩) HG.out).trans C2.out, (q.bel.cell (p := ⟨gs, os + i, none⟩) HGS.out).trans CS.out⟩
        have hsaE := HSA.out
        dsimp only at hsaE
        subst hsaE
        have hj0 : (0 : Int) ≤ (j : Int) := by omega
        have hj1 : (j : Int) < (Lk.length : Int) := by omega
        have hi0 : (0 : Int) ≤ (i : Int) := by omega
        have hi1 : (i : Int) < (p.seen.length : Int) := by omega
        cases hon : onO p o (ym, ys) ee with
        | none =>
         have HON := Hid.of hon
         have HNX : Hid (stpT p o Lk ee (j + 1) = nx) := by show _ = _; rw [stpT_none HYY.out hon, ← HC.out]
         clear hon
         refine wp_region_held_drew (S := fun w' => w'.cell? ⟨w.heap.size, 0, none⟩ = some (.int .i64 p.m.st) ∧ w'.cell? ⟨w.heap.size, 1, none⟩ = some (.int .i64 p.m.ev) ∧ w'.cell? ⟨w.heap.size, 2, none⟩ = some (.slice (some ⟨b0, f0, none⟩) p.m.starts.length lb1) ∧ w'.cell? ⟨w.heap.size, 3, none⟩ = some (.slice la2 p.m.arrows.length lb2) ∧ w'.cell? ⟨w.heap.size, 4, none⟩ = some (.slice la3 p.m.ends.length lb3) ∧ w'.cell? ⟨w.heap.size, 5, none⟩ = some (.slice (some ⟨gs, os, none⟩) p.seen.length sc) ∧ w'.cell? ⟨w.heap.size, 6, none⟩ = some (.slice ta p.secret.length tc) ∧ w'.cell? ⟨w.heap.size + 1, 0, none⟩ = some (.int .i64 o.st) ∧ w'.cell? ⟨w.heap.size + 1, 1, none⟩ = some (.int .i64 o.ev) ∧ w'.cell? ⟨w.heap.size + 1, 2, none⟩ = some (.slice lo.a1 o.starts.length lo.c1) ∧ w'.cell? ⟨w.heap.size + 1, 3, none⟩ = some (.slice lo.a2 o.arrows.length lo.c2) ∧ w'.cell? ⟨w.heap.size + 1, 4, none⟩ = some (.slice lo.a3 o.ends.length lo.c3) ∧ w'.cell? ⟨gl, k, none⟩ = some (.slice (some ⟨g, og, none⟩) Lk.length rc) ∧ w'.cell? ⟨g, og + j * 2, none⟩ = some (.int .i64 ym) ∧ w'.cell? ⟨g, og + j * 2 + 1, none⟩ = some (.slice sy ys.length sk) ∧ w'.cell? ⟨gs, os + i, none⟩ = some (.int .i64 ee)) (by kernel_rfl) (SA.out _ (Below.refl _ _).drew) (fun hS => ?_)
         have HY : Hid (Below W1.heap.size W1 W1.drew) := (Below.refl _ _).drew
         revert hS HY
         generalize W1.drew = Y0
         intro hS HY
         refine tkH 0 (ptval p ⟨⟨some ⟨b0, f0, none⟩, lb1, la2, lb2, la3, lb3⟩, (some ⟨gs, os, none⟩), sc, ta, tc⟩) rfl (fun w' hw' => by obtain ⟨q0, q1, q2, q3, q4, q5, q6, q7, q8, q9, q10, q11, q12, q13, q14, q15⟩ := hw'; go_simp) hS ?_
         refine tkH 1 (mval o lo) rfl (fun w' hw' => by obtain ⟨q0, q1, q2, q3, q4, q5, q6, q7, q8, q9, q10, q11, q12, q13, q14, q15⟩ := hw'; go_simp) hS ?_
         refine tkH 2 (.slice (some ⟨gl, 0, none⟩) cur.length lc) rfl (fun w' hw' => by obtain ⟨q0, q1, q2, q3, q4, q5, q6, q7, q8, q9, q10, q11, q12, q13, q14, q15⟩ := hw'; go_simp) hS ?_
         refine tkH 3 (.int .i64 (k : Int)) rfl (fun w' hw' => by obtain ⟨q0, q1, q2, q3, q4, q5, q6, q7, q8, q9, q10, q11, q12, q13, q14, q15⟩ := hw'; go_simp) hS ?_
         refine tkH 4 (.pointer (some ⟨gl, k, none⟩)) rfl (fun w' hw' => by obtain ⟨q0, q1, q2, q3, q4, q5, q6, q7, q8, q9, q10, q11, q12, q13, q14, q15⟩ := hw'; go_simp) hS ?_
         refine tkH 5 (.slice (some ⟨g, og, none⟩) Lk.length rc) rfl (fun w' hw' => by obtain ⟨q0, q1, q2, q3, q4, q5, q6, q7, q8, q9, q10, q11, q12, q13, q14, q15⟩ := hw'; go_simp) hS ?_
         refine tkH 6 (.int .i64 (j : Int)) rfl (fun w' hw' => by obtain ⟨q0, q1, q2, q3, q4, q5, q6, q7, q8, q9, q10, q11, q12, q13, q14, q15⟩ := hw'; go_simp) hS ?_
         refine tkH 7 (.pointer (some ⟨g, og + j * 2, none⟩)) rfl (fun w' hw' => by obtain ⟨q0, q1, q2, q3, q4, q5, q6, q7, q8, q9, q10, q11, q12, q13, q14, q15⟩ := hw'; go_simp) hS ?_
         refine tkH 8 (.agg #[.int .i64 ym, .slice sy ys.length sk]) rfl (fun w' hw' => by obtain ⟨q0, q1, q2, q3, q4, q5, q6, q7, q8, q9, q10, q11, q12, q13, q14, q15⟩ := hw'; go_simp) hS ?_
         refine tkH 9 (.pointer (some ⟨w.heap.size, 5, none⟩)) rfl (fun w' hw' => by obtain ⟨q0, q1, q2, q3, q4, q5, q6, q7, q8, q9, q10, q11, q12, q13, q14, q15⟩ := hw'; go_simp) hS ?_
         refine tkH 10 (.slice (some ⟨gs, os, none⟩) p.seen.length sc) rfl (fun w' hw' => by obtain ⟨q0, q1, q2, q3, q4, q5, q6, q7, q8, q9, q10, q11, q12, q13, q14, q15⟩ := hw'; go_simp) hS ?_
         refine tkH 11 (.int .i64 (i : Int)) rfl (fun w' hw' => by obtain ⟨q0, q1, q2, q3, q4, q5, q6, q7, q8, q9, q10, q11, q12, q13, q14, q15⟩ := hw'; go_simp) hS ?_
         refine tkH 12 (.pointer (some ⟨gs, os + i, none⟩)) rfl (fun w' hw' => by obtain ⟨q0, q1, q2, q3, q4, q5, q6, q7, q8, q9, q10, q11, q12, q13, q14, q15⟩ := hw'; go_simp) hS ?_
         refine tkH 13 (.int .i64 ee) rfl (fun w' hw' => by obtain ⟨q0, q1, q2, q3, q4, q5, q6, q7, q8, q9, q10, q11, q12, q13, q14, q15⟩ := hw'; go_simp) hS ?_
         simp only [Act.put, List.setIfInBounds_toArray]
         refine wpAnyH_ready (rs := [14, 18]) (by kernel_rfl) (by simp) ?_
         refine AllReadyH.cons rfl (fun K' hK' => ?_) (AllReadyH.cons rfl (fun K' hK' => ?_) AllReadyH.nil)
         ·clear hS
          go_simp
          refine (ron_any p (⟨some ⟨b0, f0, none⟩, lb1, la2, lb2, la3, lb3⟩ : ML) (some ⟨gs, os, none⟩) sc ta tc o lo ym sy sk ys ee Y0 (Hid.of (hp.out.below (HBW.out.trans (HY.out.mono HBW.out.size)) (Nat.le_refl _))) (Hid.of (ho.out.below (HBW.out.trans (HY.out.mono HBW.out.size)) (Nat.le_refl _))) (Hid.of (I1.out.below HY.out (Nat.le_refl _))) I2 hl1 hl2).mono ?_
          rintro e1 Y1 hO
          rw [HON.out] at hO
          obtain ⟨rfl, hb⟩ := hO
          replace HY := Hid.of (HY.out.trans (hb.mono HY.out.size))
          refine hK'.out _ _ (SA.out _ HY.out) (fun hS => ?_)
          clear hK' K' hb
          refine tkH 15 (.tuple #[.agg #[.int .i64 0, .slice none 0 0], .bool false]) rfl (fun w' hw' => by obtain ⟨q0, q1, q2, q3, q4, q5, q6, q7, q8, q9, q10, q11, q12, q13, q14, q15⟩ := hw'; go_simp) hS ?_
          refine tkH 16 (.agg #[.int .i64 0, .slice none 0 0]) rfl (fun w' hw' => by obtain ⟨q0, q1, q2, q3, q4, q5, q6, q7, q8, q9, q10, q11, q12, q13, q14, q15⟩ := hw'; go_simp) hS ?_
          refine tkH 17 (.bool false) rfl (fun w' hw' => by obtain ⟨q0, q1, q2, q3, q4, q5, q6, q7, q8, q9, q10, q11, q12, q13, q14, q15⟩ := hw'; go_simp) hS ?_
          refine wpAnyH_ready (rs := [18]) (by kernel_rfl) (by simp) ?_
          refine AllReadyH.cons rfl (fun K' hK' => ?_) AllReadyH.nil
          clear hS
          go_simp
          have hb : Below Y1.heap.size Y1 (Y1.alloc (.cells #[.int .i64 0, .slice none 0 0] 135)) := (Below.refl _ _).alloc (Nat.le_refl _) _
          have KX := Hid.of (Blk.new Y1 135 #[.int .i64 0, .slice none 0 0])
          have HPB : Hid (W1.heap.size ≤ Y1.heap.size) := HY.out.size
          replace HY := Hid.of (HY.out.trans (hb.mono HY.out.size))
          refine hK'.out _ _ (SA.out _ HY.out) (fun hS => ?_)
          clear hK' K' hb
          revert KX HPB HY hS
          generalize Y1.alloc (.cells #[.int .i64 0, .slice none 0 0] 135) = Y2
          generalize Y1.heap.size = pb
          intro KX HPB HY hS
          refine wpAnyH_ready (rs := [19]) (by kernel_rfl) (by simp) ?_
          refine AllReadyH.cons rfl (fun K' hK' => ?_) AllReadyH.nil
          clear hS
          have f := KX.out.frozen
          have r0 := KX.out.cell 0 rfl
          have r1 := KX.out.cell 1 rfl
          go_simp
          replace HY := Hid.of (below_set2 HY.out HPB.out (.int .i64 0) (.slice none 0 0))
          replace KX := Hid.of ((KX.out.set 0 (.int .i64 0)).set 1 (.slice none 0 0))
          refine hK'.out _ _ (SA.out _ HY.out) (fun hS => ?_)
          clear hK' K' f r0 r1
          revert HY KX hS
          generalize (Y2.setCell ⟨pb, 0, none⟩ (.int .i64 0)).setCell ⟨pb, 1, none⟩ (.slice none 0 0) = Y3
          intro HY KX hS
          refine tkH 20 (.bool false) rfl (fun w' hw' => by obtain ⟨q0, q1, q2, q3, q4, q5, q6, q7, q8, q9, q10, q11, q12, q13, q14, q15⟩ := hw'; go_simp) hS ?_
          refine wpAnyH_done (by kernel_rfl) ?_ _
          clear hS
          have Q1 := Hid.of (HW.out.below HLW.out.bel.size HY.out)
          clear KX HPB
          go_wp2_with fail
          go_roundw
          case rel => exact ⟨j + 1, by go_num, by omega, by rw [HNX.out]; exact Q1⟩
          case measure => simp [intOf]; omega
         ·clear hS
          go_simp
          have hb : Below Y0.heap.size Y0 (Y0.alloc (.cells #[.int .i64 0, .slice none 0 0] 135)) := (Below.refl _ _).alloc (Nat.le_refl _) _
          have KX := Hid.of (Blk.new Y0 135 #[.int .i64 0, .slice none 0 0])
          have HPB : Hid (W1.heap.size ≤ Y0.heap.size) := HY.out.size
          replace HY := Hid.of (HY.out.trans (hb.mono HY.out.size))
          refine hK'.out _ _ (SA.out _ HY.out) (fun hS => ?_)
          clear hK' K' hb
          revert KX HPB HY hS
          generalize Y0.alloc (.cells #[.int .i64 0, .slice none 0 0] 135) = Y4
          generalize Y0.heap.size = pb
          intro KX HPB HY hS
          refine wpAnyH_ready (rs := [14]) (by kernel_rfl) (by simp) ?_
          refine AllReadyH.cons rfl (fun K' hK' => ?_) AllReadyH.nil
          clear hS
          go_simp
          refine (ron_any p (⟨some ⟨b0, f0, none⟩, lb1, la2, lb2, la3, lb3⟩ : ML) (some ⟨gs, os, none⟩) sc ta tc o lo ym sy sk ys ee Y4 (Hid.of (hp.out.below (HBW.out.trans (HY.out.mono HBW.out.size)) (Nat.le_refl _))) (Hid.of (ho.out.below (HBW.out.trans (HY.out.mono HBW.out.size)) (Nat.le_refl _))) (Hid.of (I1.out.below HY.out (Nat.le_refl _))) I2 hl1 hl2).mono ?_
          rintro e1 Y5 hO
          rw [HON.out] at hO
          obtain ⟨rfl, hb⟩ := hO
          replace HY := Hid.of (HY.out.trans (hb.mono HY.out.size))
          replace KX := Hid.of (KX.out.below hb KX.out.lt)
          refine hK'.out _ _ (SA.out _ HY.out) (fun hS => ?_)
          clear hK' K' hb
          refine tkH 15 (.tuple #[.agg #[.int .i64 0, .slice none 0 0], .bool false]) rfl (fun w' hw' => by obtain ⟨q0, q1, q2, q3, q4, q5, q6, q7, q8, q9, q10, q11, q12, q13, q14, q15⟩ := hw'; go_simp) hS ?_
          refine tkH 16 (.agg #[.int .i64 0, .slice none 0 0]) rfl (fun w' hw' => by obtain ⟨q0, q1, q2, q3, q4, q5, q6, q7, q8, q9, q10, q11, q12, q13, q14, q15⟩ := hw'; go_simp) hS ?_
          refine tkH 17 (.bool false) rfl (fun w' hw' => by obtain ⟨q0, q1, q2, q3, q4, q5, q6, q7, q8, q9, q10, q11, q12, q13, q14, q15⟩ := hw'; go_simp) hS ?_
          refine wpAnyH_ready (rs := [19]) (by kernel_rfl) (by simp) ?_
          refine AllReadyH.cons rfl (fun K' hK' => ?_) AllReadyH.nil
          clear hS
          have f := KX.out.frozen
          have r0 := KX.out.cell 0 rfl
          have r1 := KX.out.cell 1 rfl
          go_simp
          replace HY := Hid.of (below_set2 HY.out HPB.out (.int .i64 0) (.slice none 0 0))
          replace KX := Hid.of ((KX.out.set 0 (.int .i64 0)).set 1 (.slice none 0 0))
          refine hK'.out _ _ (SA.out _ HY.out) (fun hS => ?_)
          clear hK' K' f r0 r1
          revert HY KX hS
          generalize (Y5.setCell ⟨pb, 0, none⟩ (.int .i64 0)).setCell ⟨pb, 1, none⟩ (.slice none 0 0) = Y6
          intro HY KX hS
          refine tkH 20 (.bool false) rfl (fun w' hw' => by obtain ⟨q0, q1, q2, q3, q4, q5, q6, q7, q8, q9, q10, q11, q12, q13, q14, q15⟩ := hw'; go_simp) hS ?_
          refine wpAnyH_done (by kernel_rfl) ?_ _
          clear hS
          have Q1 := Hid.of (HW.out.below HLW.out.bel.size HY.out)
          clear KX HPB
          go_wp2_with fail
          go_roundw
          case rel => exact ⟨j + 1, by go_num, by omega, by rw [HNX.out]; exact Q1⟩
          case measure => simp [intOf]; omega
        | some zz =>
         obtain ⟨zm, zs⟩ := zz
         have HON := Hid.of hon
         clear hon
         refine wp_region_held_drew (S := fun w' => w'.cell? ⟨w.heap.size, 0, none⟩ = some (.int .i64 p.m.st) ∧ w'.cell? ⟨w.heap.size, 1, none⟩ = some (.int .i64 p.m.ev) ∧ w'.cell? ⟨w.heap.size, 2, none⟩ = some (.slice (some ⟨b0, f0, none⟩) p.m.starts.length lb1) ∧ w'.cell? ⟨w.heap.size, 3, none⟩ = some (.slice la2 p.m.arrows.length lb2) ∧ w'.cell? ⟨w.heap.size, 4, none⟩ = some (.slice la3 p.m.ends.length lb3) ∧ w'.cell? ⟨w.heap.size, 5, none⟩ = some (.slice (some ⟨gs, os, none⟩) p.seen.length sc) ∧ w'.cell? ⟨w.heap.size, 6, none⟩ = some (.slice ta p.secret.length tc) ∧ w'.cell? ⟨w.heap.size + 1, 0, none⟩ = some (.int .i64 o.st) ∧ w'.cell? ⟨w.heap.size + 1, 1, none⟩ = some (.int .i64 o.ev) ∧ w'.cell? ⟨w.heap.size + 1, 2, none⟩ = some (.slice lo.a1 o.starts.length lo.c1) ∧ w'.cell? ⟨w.heap.size + 1, 3, none⟩ = some (.slice lo.a2 o.arrows.length lo.c2) ∧ w'.cell? ⟨w.heap.size + 1, 4, none⟩ = some (.slice lo.a3 o.ends.length lo.c3) ∧ w'.cell? ⟨gl, k, none⟩ = some (.slice (some ⟨g, og, none⟩) Lk.length rc) ∧ w'.cell? ⟨g, og + j * 2, none⟩ = some (.int .i64 ym) ∧ w'.cell? ⟨g, og + j * 2 + 1, none⟩ = some (.slice sy ys.length sk) ∧ w'.cell? ⟨gs, os + i, none⟩ = some (.int .i64 ee)) (by kernel_rfl) (SA.out _ (Below.refl _ _).drew) (fun hS => ?_)
         have HY : Hid (Below W1.heap.size W1 W1.drew) := (Below.refl _ _).drew
         revert hS HY
         generalize W1.drew = Y0
         intro hS HY
         refine tkH 0 (ptval p ⟨⟨some ⟨b0, f0, none⟩, lb1, la2, lb2, la3, lb3⟩, (some ⟨gs, os, none⟩), sc, ta, tc⟩) rfl (fun w' hw' => by obtain ⟨q0, q1, q2, q3, q4, q5, q6, q7, q8, q9, q10, q11, q12, q13, q14, q15⟩ := hw'; go_simp) hS ?_
         refine tkH 1 (mval o lo) rfl (fun w' hw' => by obtain ⟨q0, q1, q2, q3, q4, q5, q6, q7, q8, q9, q10, q11, q12, q13, q14, q15⟩ := hw'; go_simp) hS ?_
         refine tkH 2 (.slice (some ⟨gl, 0, none⟩) cur.length lc) rfl (fun w' hw' => by obtain ⟨q0, q1, q2, q3, q4, q5, q6, q7, q8, q9, q10, q11, q12, q13, q14, q15⟩ := hw'; go_simp) hS ?_
         refine tkH 3 (.int .i64 (k : Int)) rfl (fun w' hw' => by obtain ⟨q0, q1, q2, q3, q4, q5, q6, q7, q8, q9, q10, q11, q12, q13, q14, q15⟩ := hw'; go_simp) hS ?_
         refine tkH 4 (.pointer (some ⟨gl, k, none⟩)) rfl (fun w' hw' => by obtain ⟨q0, q1, q2, q3, q4, q5, q6, q7, q8, q9, q10, q11, q12, q13, q14, q15⟩ := hw'; go_simp) hS ?_
         refine tkH 5 (.slice (some ⟨g, og, none⟩) Lk.length rc) rfl (fun w' hw' => by obtain ⟨q0, q1, q2, q3, q4, q5, q6, q7, q8, q9, q10, q11, q12, q13, q14, q15⟩ := hw'; go_simp) hS ?_
         refine tkH 6 (.int .i64 (j : Int)) rfl (fun w' hw' => by obtain ⟨q0, q1, q2, q3, q4, q5, q6, q7, q8, q9, q10, q11, q12, q13, q14, q15⟩ := hw'; go_simp) hS ?_
         refine tkH 7 (.pointer (some ⟨g, og + j * 2, none⟩)) rfl (fun w' hw' => by obtain ⟨q0, q1, q2, q3, q4, q5, q6, q7, q8, q9, q10, q11, q12, q13, q14, q15⟩ := hw'; go_simp) hS ?_
         refine tkH 8 (.agg #[.int .i64 ym, .slice sy ys.length sk]) rfl (fun w' hw' => by obtain ⟨q0, q1, q2, q3, q4, q5, q6, q7, q8, q9, q10, q11, q12, q13, q14, q15⟩ := hw'; go_simp) hS ?_
         refine tkH 9 (.pointer (some ⟨w.heap.size, 5, none⟩)) rfl (fun w' hw' => by obtain ⟨q0, q1, q2, q3, q4, q5, q6, q7, q8, q9, q10, q11, q12, q13, q14, q15⟩ := hw'; go_simp) hS ?_
         refine tkH 10 (.slice (some ⟨gs, os, none⟩) p.seen.length sc) rfl (fun w' hw' => by obtain ⟨q0, q1, q2, q3, q4, q5, q6, q7, q8, q9, q10, q11, q12, q13, q14, q15⟩ := hw'; go_simp) hS ?_
         refine tkH 11 (.int .i64 (i : Int)) rfl (fun w' hw' => by obtain ⟨q0, q1, q2, q3, q4, q5, q6, q7, q8, q9, q10, q11, q12, q13, q14, q15⟩ := hw'; go_simp) hS ?_
         refine tkH 12 (.pointer (some ⟨gs, os + i, none⟩)) rfl (fun w' hw' => by obtain ⟨q0, q1, q2, q3, q4, q5, q6, q7, q8, q9, q10, q11, q12, q13, q14, q15⟩ := hw'; go_simp) hS ?_
         refine tkH 13 (.int .i64 ee) rfl (fun w' hw' => by obtain ⟨q0, q1, q2, q3, q4, q5, q6, q7, q8, q9, q10, q11, q12, q13, q14, q15⟩ := hw'; go_simp) hS ?_
         simp only [Act.put, List.setIfInBounds_toArray]
         refine wpAnyH_ready (rs := [14, 18]) (by kernel_rfl) (by simp) ?_
         refine AllReadyH.cons rfl (fun K' hK' => ?_) (AllReadyH.cons rfl (fun K' hK' => ?_) AllReadyH.nil)
         ·clear hS
          go_simp
          refine (ron_any p (⟨some ⟨b0, f0, none⟩, lb1, la2, lb2, la3, lb3⟩ : ML) (some ⟨gs, os, none⟩) sc ta tc o lo ym sy sk ys ee Y0 (Hid.of (hp.out.below (HBW.out.trans (HY.out.mono HBW.out.size)) (Nat.le_refl _))) (Hid.of (ho.out.below (HBW.out.trans (HY.out.mono HBW.out.size)) (Nat.le_refl _))) (Hid.of (I1.out.below HY.out (Nat.le_refl _))) I2 hl1 hl2).mono ?_
          rintro e1 Y1 hO
          rw [HON.out] at hO
          obtain ⟨za, zc, rfl, hiz, hb⟩ := hO
          have OZ := Hid.of (hiz w.heap.size)
          replace HY := Hid.of (HY.out.trans (hb.mono HY.out.size))
          refine hK'.out _ _ (SA.out _ HY.out) (fun hS => ?_)
          clear hK' K' hb hiz
          refine tkH 15 (.tuple #[.agg #[.int .i64 zm, .slice za zs.length zc], .bool true]) rfl (fun w' hw' => by obtain ⟨q0, q1, q2, q3, q4, q5, q6, q7, q8, q9, q10, q11, q12, q13, q14, q15⟩ := hw'; go_simp) hS ?_
          refine tkH 16 (.agg #[.int .i64 zm, .slice za zs.length zc]) rfl (fun w' hw' => by obtain ⟨q0, q1, q2, q3, q4, q5, q6, q7, q8, q9, q10, q11, q12, q13, q14, q15⟩ := hw'; go_simp) hS ?_
          refine tkH 17 (.bool true) rfl (fun w' hw' => by obtain ⟨q0, q1, q2, q3, q4, q5, q6, q7, q8, q9, q10, q11, q12, q13, q14, q15⟩ := hw'; go_simp) hS ?_
          refine wpAnyH_ready (rs := [18]) (by kernel_rfl) (by simp) ?_
          refine AllReadyH.cons rfl (fun K' hK' => ?_) AllReadyH.nil
          clear hS
          go_simp
          have hb : Below Y1.heap.size Y1 (Y1.alloc (.cells #[.int .i64 0, .slice none 0 0] 135)) := (Below.refl _ _).alloc (Nat.le_refl _) _
          have KX := Hid.of (Blk.new Y1 135 #[.int .i64 0, .slice none 0 0])
          have HPB : Hid (W1.heap.size ≤ Y1.heap.size) := HY.out.size
          replace OZ := Hid.of (OZ.out.below hb (Nat.le_trans HBW.out.size HY.out.size))
          replace HY := Hid.of (HY.out.trans (hb.mono HY.out.size))
          refine hK'.out _ _ (SA.out _ HY.out) (fun hS => ?_)
          clear hK' K' hb
          revert KX HPB OZ HY hS
          generalize Y1.alloc (.cells #[.int .i64 0, .slice none 0 0] 135) = Y2
          generalize Y1.heap.size = pb
          intro KX HPB OZ HY hS
          refine wpAnyH_ready (rs := [19]) (by kernel_rfl) (by simp) ?_
          refine AllReadyH.cons rfl (fun K' hK' => ?_) AllReadyH.nil
          clear hS
          have f := KX.out.frozen
          have r0 := KX.out.cell 0 rfl
          have r1 := KX.out.cell 1 rfl
          go_simp
          replace OZ := Hid.of (innW_box OZ.out (Nat.le_trans HBW.out.size HPB.out) KX.out (.int .i64 zm) (.slice za zs.length zc))
          replace HY := Hid.of (below_set2 HY.out HPB.out (.int .i64 zm) (.slice za zs.length zc))
          replace KX := Hid.of ((KX.out.set 0 (.int .i64 zm)).set 1 (.slice za zs.length zc))
          refine hK'.out _ _ (SA.out _ HY.out) (fun hS => ?_)
          clear hK' K' f r0 r1
          revert OZ HY KX hS
          generalize (Y2.setCell ⟨pb, 0, none⟩ (.int .i64 zm)).setCell ⟨pb, 1, none⟩ (.slice za zs.length zc) = Y3
          intro OZ HY KX hS
          refine tkH 20 (.bool true) rfl (fun w' hw' => by obtain ⟨q0, q1, q2, q3, q4, q5, q6, q7, q8, q9, q10, q11, q12, q13, q14, q15⟩ := hw'; go_simp) hS ?_
          refine wpAnyH_done (by kernel_rfl) ?_ _
          clear hS
          have r0 := KX.out.cell 0 rfl
          have r1 := KX.out.cell 1 rfl
          obtain ⟨na, nc, en, nat, -⟩ := (HW.out.below HLW.out.bel.size HY.out).ow.at
          cases en
          have NAT := Hid.of nat
          clear nat
          go_wp2_with fail
          clear r0 r1
          obtain ⟨oq1, oq2, eoz, oz1, oz2, -⟩ := OZ.out.at
          cases eoz
          refine (rqhas_any w.heap.size na nc nx zm zs za zc Y3 NAT (by omega) (Hid.of oz1) (Hid.of oz2)).mono ?_
          rintro e1 Z ⟨rfl, hb⟩
          replace OZ := Hid.of (OZ.out.below hb (Nat.le_trans HBW.out.size HY.out.size))
          replace HY := Hid.of (HY.out.trans (hb.mono HY.out.size))
          replace KX := Hid.of (KX.out.below hb KX.out.lt)
          clear hb NAT oz1 oz2
          cases hmem : memQ nx (zm, zs) with
          | true =>
           have HNX : Hid (stpT p o Lk ee (j + 1) = nx) := by show _ = _; rw [stpT_some HYY.out HON.out, ← HC.out]; exact cAdd_yesO hmem
           clear hmem
           have Q1 := Hid.of (HW.out.below HLW.out.bel.size HY.out)
           go_wp2_with fail
           go_roundw
           case rel => exact ⟨j + 1, by go_num, by omega, by rw [HNX.out]; exact Q1⟩
           case measure => simp [intOf]; omega
          | false =>
           have HNX : Hid (stpT p o Lk ee (j + 1) = nx ++ [(zm, zs)]) := by show _ = _; rw [stpT_some HYY.out HON.out, ← HC.out]; exact cAdd_noO hmem
           clear hmem
           have n0 := KX.out.cell 0 rfl
           have n1 := KX.out.cell 1 rfl
           have bq : Below Z.heap.size Z (Z.alloc (.cells #[.int .i64 zm, .slice za zs.length zc] 135)) := (Below.refl _ _).alloc (Nat.le_refl _) _
           have Q4 := Hid.of ((HW.out.below HLW.out.bel.size HY.out).below HLW.out.bel.size bq)
           have OZ4 := Hid.of (OZ.out.below bq (Nat.le_trans HBW.out.size HY.out.size))
           have CF : Hid (∀ j u, ([.int .i64 zm, .slice za zs.length zc] : List Value)[j]? = some u → (Z.alloc (.cells #[.int .i64 zm, .slice za zs.length zc] 135)).cell? ((⟨Z.heap.size, 0, none⟩ : Addr).add j) = some u) := cells_duoQ Z Z rfl _ _ _
           clear bq
           obtain ⟨vs, hos, hi'⟩ := Q4.out.ow
           have HOS := Hid.of hos
           have HI := Hid.of hi'
           clear hos hi'
           have hBq := Q4.out.bel.size
           go_wp2_with (at_builtin; refine wpList_append_block _ rfl (.tmp 80) (.tmp 82) 133 rfl Wn.heap.size 135 i0 _ 2 32 Tryd.underlying133 hi hz0 hz1 hz2 rfl (by decide) _ _ _ rfl HOS.out ⟨Z.heap.size, 0, none⟩ 1 1 [.int .i64 zm, .slice za zs.length zc] rfl rfl CF.out (one_vals (x := (zm, zs)) OZ4.out) (by decide) (by unfold maxLen; omega) (by omega) hBq ?_)
           intro v9 w9 o9 g9 n9
           have Q1 := Hid.of (NXo.push (x := (zm, zs)) Q4.out HLW.out.bel.size HOS.out HI.out OZ4.out o9 g9)
           clear o9 g9 n9 HOS HI Q4 OZ4 CF n0 n1 KX OZ hBq HPB
           go_wp2_with fail
           go_roundw
           case rel => exact ⟨j + 1, by go_num, by omega, by rw [HNX.out]; exact Q1⟩
           case measure => simp [intOf]; omega
         ·clear hS
          go_simp
          have hb : Below Y0.heap.size Y0 (Y0.alloc (.cells #[.int .i64 0, .slice none 0 0] 135)) := (Below.refl _ _).alloc (Nat.le_refl _) _
          have KX := Hid.of (Blk.new Y0 135 #[.int .i64 0, .slice none 0 0])
          have HPB : Hid (W1.heap.size ≤ Y0.heap.size) := HY.out.size
          replace HY := Hid.of (HY.out.trans (hb.mono HY.out.size))
          refine hK'.out _ _ (SA.out _ HY.out) (fun hS => ?_)
          clear hK' K' hb
          revert KX HPB HY hS
          generalize Y0.alloc (.cells #[.int .i64 0, .slice none 0 0] 135) = Y4
          generalize Y0.heap.size = pb
          intro KX HPB HY hS
          refine wpAnyH_ready (rs := [14]) (by kernel_rfl) (by simp) ?_
          refine AllReadyH.cons rfl (fun K' hK' => ?_) AllReadyH.nil
          clear hS
          go_simp
          refine (ron_any p (⟨some ⟨b0, f0, none⟩, lb1, la2, lb2, la3, lb3⟩ : ML) (some ⟨gs, os, none⟩) sc ta tc o lo ym sy sk ys ee Y4 (Hid.of (hp.out.below (HBW.out.trans (HY.out.mono HBW.out.size)) (Nat.le_refl _))) (Hid.of (ho.out.below (HBW.out.trans (HY.out.mono HBW.out.size)) (Nat.le_refl _))) (Hid.of (I1.out.below HY.out (Nat.le_refl _))) I2 hl1 hl2).mono ?_
          rintro e1 Y5 hO
          rw [HON.out] at hO
          obtain ⟨za, zc, rfl, hiz, hb⟩ := hO
          have OZ := Hid.of (hiz w.heap.size)
          replace HY := Hid.of (HY.out.trans (hb.mono HY.out.size))
          replace KX := Hid.of (KX.out.below hb KX.out.lt)
          refine hK'.out _ _ (SA.out _ HY.out) (fun hS => ?_)
          clear hK' K' hb hiz
          refine tkH 15 (.tuple #[.agg #[.int .i64 zm, .slice za zs.length zc], .bool true]) rfl (fun w' hw' => by obtain ⟨q0, q1, q2, q3, q4, q5, q6, q7, q8, q9, q10, q11, q12, q13, q14, q15⟩ := hw'; go_simp) hS ?_
          refine tkH 16 (.agg #[.int .i64 zm, .slice za zs.length zc]) rfl (fun w' hw' => by obtain ⟨q0, q1, q2, q3, q4, q5, q6, q7, q8, q9, q10, q11, q12, q13, q14, q15⟩ := hw'; go_simp) hS ?_
          refine tkH 17 (.bool true) rfl (fun w' hw' => by obtain ⟨q0, q1, q2, q3, q4, q5, q6, q7, q8, q9, q10, q11, q12, q13, q14, q15⟩ := hw'; go_simp) hS ?_
          refine wpAnyH_ready (rs := [19]) (by kernel_rfl) (by simp) ?_
          refine AllReadyH.cons rfl (fun K' hK' => ?_) AllReadyH.nil
          clear hS
          have f := KX.out.frozen
          have r0 := KX.out.cell 0 rfl
          have r1 := KX.out.cell 1 rfl
          go_simp
          replace OZ := Hid.of (innW_box OZ.out (Nat.le_trans HBW.out.size HPB.out) KX.out (.int .i64 zm) (.slice za zs.length zc))
          replace HY := Hid.of (below_set2 HY.out HPB.out (.int .i64 zm) (.slice za zs.length zc))
          replace KX := Hid.of ((KX.out.set 0 (.int .i64 zm)).set 1 (.slice za zs.length zc))
          refine hK'.out _ _ (SA.out _ HY.out) (fun hS => ?_)
          clear hK' K' f r0 r1
          revert OZ HY KX hS
          generalize (Y5.setCell ⟨pb, 0, none⟩ (.int .i64 zm)).setCell ⟨pb, 1, none⟩ (.slice za zs.length zc) = Y6
          intro OZ HY KX hS
          refine tkH 20 (.bool true) rfl (fun w' hw' => by obtain ⟨q0, q1, q2, q3, q4, q5, q6, q7, q8, q9, q10, q11, q12, q13, q14, q15⟩ := hw'; go_simp) hS ?_
          refine wpAnyH_done (by kernel_rfl) ?_ _
          clear hS
          have r0 := KX.out.cell 0 rfl
          have r1 := KX.out.cell 1 rfl
          obtain ⟨na, nc, en, nat, -⟩ := (HW.out.below HLW.out.bel.size HY.out).ow.at
          cases en
          have NAT := Hid.of nat
          clear nat
          go_wp2_with fail
          clear r0 r1
          obtain ⟨oq1, oq2, eoz, oz1, oz2, -⟩ := OZ.out.at
          cases eoz
          refine (rqhas_any w.heap.size na nc nx zm zs za zc Y6 NAT (by omega) (Hid.of oz1) (Hid.of oz2)).mono ?_
          rintro e1 Z ⟨rfl, hb⟩
          replace OZ := Hid.of (OZ.out.below hb (Nat.le_trans HBW.out.size HY.out.size))
          replace HY := Hid.of (HY.out.trans (hb.mono HY.out.size))
          replace KX := Hid.of (KX.out.below hb KX.out.lt)
          clear hb NAT oz1 oz2
          cases hmem : memQ nx (zm, zs) with
          | true =>
           have HNX : Hid (stpT p o Lk ee (j + 1) = nx) := by show _ = _; rw [stpT_some HYY.out HON.out, ← HC.out]; exact cAdd_yesO hmem
           clear hmem
           have Q1 := Hid.of (HW.out.below HLW.out.bel.size HY.out)
           go_wp2_with fail
           go_roundw
           case rel => exact ⟨j + 1, by go_num, by omega, by rw [HNX.out]; exact Q1⟩
           case measure => simp [intOf]; omega
          | false =>
           have HNX : Hid (stpT p o Lk ee (j + 1) = nx ++ [(zm, zs)]) := by show _ = _; rw [stpT_some HYY.out HON.out, ← HC.out]; exact cAdd_noO hmem
           clear hmem
           have n0 := KX.out.cell 0 rfl
           have n1 := KX.out.cell 1 rfl
           have bq : Below Z.heap.size Z (Z.alloc (.cells #[.int .i64 zm, .slice za zs.length zc] 135)) := (Below.refl _ _).alloc (Nat.le_refl _) _
           have Q4 := Hid.of ((HW.out.below HLW.out.bel.size HY.out).below HLW.out.bel.size bq)
           have OZ4 := Hid.of (OZ.out.below bq (Nat.le_trans HBW.out.size HY.out.size))
           have CF : Hid (∀ j u, ([.int .i64 zm, .slice za zs.length zc] : List Value)[j]? = some u → (Z.alloc (.cells #[.int .i64 zm, .slice za zs.length zc] 135)).cell? ((⟨Z.heap.size, 0, none⟩ : Addr).add j) = some u) := cells_duoQ Z Z rfl _ _ _
           clear bq
           obtain ⟨vs, hos, hi'⟩ := Q4.out.ow
           have HOS := Hid.of hos
           have HI := Hid.of hi'
           clear hos hi'
           have hBq := Q4.out.bel.size
           go_wp2_with (at_builtin; refine wpList_append_block _ rfl (.tmp 80) (.tmp 82) 133 rfl Wn.heap.size 135 i0 _ 2 32 Tryd.underlying133 hi hz0 hz1 hz2 rfl (by decide) _ _ _ rfl HOS.out ⟨Z.heap.size, 0, none⟩ 1 1 [.int .i64 zm, .slice za zs.length zc] rfl rfl CF.out (one_vals (x := (zm, zs)) OZ4.out) (by decide) (by unfold maxLen; omega) (by omega) hBq ?_)
           intro v9 w9 o9 g9 n9
           have Q1 := Hid.of (NXo.push (x := (zm, zs)) Q4.out HLW.out.bel.size HOS.out HI.out OZ4.out o9 g9)
           clear o9 g9 n9 HOS HI Q4 OZ4 CF n0 n1 KX OZ hBq HPB
           go_wp2_with fail
           go_roundw
           case rel => exact ⟨j + 1, by go_num, by omega, by rw [HNX.out]; exact Q1⟩
           case measure => simp [intOf]; omega
       ·have hjD : decide ((j : Int) < (Lk.length : Int)) = false := by simp; omega
        have hjE : j = Lk.length := by omega
        rw [hjE, stpT_full] at HC
        obtain ⟨x0, x1, x2, x3, x4, x5, x6⟩ := ptcell_at HL1.out.kp
        obtain ⟨y0, y1, y2, y3, y4⟩ := mcell_at HL1.out.ko
        clear hat hgl
        go_wp2_with fail
        clear x0 x1 x2 x3 x4 x5 x6 y0 y1 y2 y3 y4 cgl hjD
        refine (rowide_any p (⟨some ⟨b0, f0, none⟩, lb1, la2, lb2, la3, lb3⟩ : ML) sa sc ta tc o lo w hp ho hm hmo z6 zo w.heap.size Wn.heap.size (.slice na nx.length nc) nx _ HBW HLW.out.bel.size HLW.out.bel.size HW.out.bel.size (Hid.of HW.out.ow) (Hid.of HGX.out.1) (Hid.of (fun x hx => mem_allO zo.out (HGX.out.2 x hx)))).mono ?_
        rintro e1 W2 ⟨v2, rfl, ow2, hb2⟩
        obtain ⟨sx, HSX⟩ : ∃ sx, Hid (sx = seeO p o Lk ee) := ⟨_, rfl⟩
        have HW2 : Hid (NXo Wn W2 w.heap.size v2 sx) := by
         have e : sx = widO p o nx := by rw [HSX.out, HC.out]; rfl
         rw [e]
         exact ⟨ow2, HW.out.bel.trans hb2⟩
        have HL2 := Hid.of (HLW.out.below HW2.out.bel)
        have HGS : Hid (GoodL p o sx) := by
         have h := seeO_spec hm.out hmo.out z6.out zo.out (p := p) (o := o) Lk ee
         rw [HSX.out]; exact ⟨h.1, h.2.1⟩
        have hsl : sx.length ≤ 384 := HGS.out.len z6.out zo.out
        obtain ⟨va, vc, hv2⟩ := HW2.out.ow.form
        subst hv2
        obtain ⟨va', vc', ev2, sat, -⟩ := HW2.out.ow.at
        cases ev2
        have SAT := Hid.of sat
        clear sat ow2 hb2 HW HL1 HBW HGX HC hnl HLW HW2
        go_wp2_with fail
        go_loopw [14, 15] (fun v14 i wr => ∃ q : Nat, v14 = .bool (knownO (cur.take q) sx) ∧ i = .int .i64 (q : Int) ∧ q ≤ cur.length ∧ Hid (Below W2.heap.size W2 wr)) (fun _ i _ => cur.length - (intOf i).toNat)
        case atStart => exact ⟨0, by simp [knownO], rfl, Nat.zero_le _, Below.refl _ _⟩
        case round =>
         obtain ⟨q, rfl, rfl, hq, HBQ⟩ := hrel
         have HL3 := Hid.of (HL2.out.below HBQ.out)
         have SAT3 := Hid.of (SAT.out.below HBQ.out HL2.out.bel.size)
         by_cases hql2 : q < cur.length
         ·have hqD : decide ((q : Int) < (cur.length : Int)) = true := by simp; omega
          cases hkn : knownO (cur.take q) sx with
          | true =>
           have HNE : Hid (setRow p o Lk QL (i + 1) = cur) := by
            show _ = _
            rw [HSN.out]; unfold setStep
            rw [← HSX.out, if_pos (knownO_more hkn)]
           clear hkn SAT3 HL2 SAT
           go_wp2_with fail
           go_roundw
           case rel => exact ⟨i + 1, by go_num, by omega, by rw [HNE.out]; exact HL3⟩
           case measure => simp [intOf]; omega
          | false =>
           obtain ⟨xq, HXQ⟩ : ∃ y, Hid (cur[q]? = some y) := ⟨_, List.getElem?_eq_getElem hql2⟩
           have hxl : xq.length ≤ 384 := (HCG.out xq (List.mem_of_getElem? HXQ.out)).len z6.out zo.out
           have HKS : Hid (knownO (cur.take (q + 1)) sx = sameQ xq sx) := by
            show _ = _
            rw [knownO_snoc HXQ.out, hkn]; rfl
           obtain ⟨gq, cq, ra2, rc2, eg, hgq, cgq, hat⟩ := HL3.out.qq.get HXQ.out
           cases eg
           have hq0 : (0 : Int) ≤ (q : Int) := by omega
           have hq1 : (q : Int) < (cur.length : Int) := by omega
           clear hkn
           go_wp2_with fail
           clear cgq hqD
           refine (rqsame_any w.heap.size ra2 va rc2 vc xq sx _ (Hid.of hat) SAT3 (by omega) (by omega) HL3.out.bel.size).mono ?_
           rintro e2 W3 ⟨rfl, hb3⟩
           have HB4 := Hid.of (HBQ.out.trans (hb3.mono HBQ.out.size))
           clear hb3 hat SAT3 HL3
           go_wp2_with fail
           go_roundw
           case rel => exact ⟨q + 1, by rw [HKS.out], by go_num, by omega, HB4⟩
           case measure => simp [intOf]; omega
         ·have hqD : decide ((q : Int) < (cur.length : Int)) = false := by simp; omega
          have hqE : cur.take q = cur := List.take_of_length_le (by omega)
          rw [hqE]
          clear hqE
          cases hkn : knownO cur sx with
          | true =>
           have HNE : Hid (setRow p o Lk QL (i + 1) = cur) := by
            show _ = _
            rw [HSN.out]; unfold setStep
            rw [← HSX.out, if_pos hkn]
           clear hkn SAT3 HL2 SAT
           go_wp2_with fail
           go_roundw
           case rel => exact ⟨i + 1, by go_num, by omega, by rw [HNE.out]; exact HL3⟩
           case measure => simp [intOf]; omega
          | false =>
           have HNE : Hid (setRow p o Lk QL (i + 1) = cur ++ [sx]) := by
            show _ = _
            rw [HSN.out]; unfold setStep
            rw [← HSX.out, if_neg (by rw [hkn]; simp)]
           clear hkn HL2 SAT
           have bq : Below wr.heap.size wr (wr.alloc (.cells #[.slice va sx.length vc] 133)) := (Below.refl _ _).alloc (Nat.le_refl _) _
           have SAT4 := Hid.of (SAT3.out.below bq HL3.out.bel.size)
           replace HL3 := Hid.of (HL3.out.below bq)
           obtain ⟨vs, hos, hiq⟩ := HL3.out.qq
           have HOS := Hid.of hos
           have HIQ := Hid.of hiq
           have hBq := HL3.out.bel.size
           clear bq hos hiq SAT3
           go_wp2_with (at_builtin; refine wpList_append_block _ rfl (.tmp 106) (.tmp 108) 129 rfl w.heap.size 133 j0 (.slice none 0 0) 1 24 Tryd.underlying129 hjq jz0 jz1 jz2 rfl (by decide) _ _ _ rfl HOS.out ⟨wr.heap.size, 0, none⟩ 1 1 [.slice va sx.length vc] rfl rfl (cells_oneO wr _ rfl _ _) (by intro u hu; rw [List.mem_singleton.1 hu]; rfl) (by decide) (by unfold maxLen; omega) (by omega) hBq ?_)
           intro v9 w9 o9 g9 n9
           have Q1 := Hid.of (LO.push HL3.out HOS.out HIQ.out SAT4.out o9 g9)
           clear o9 g9 n9 HOS HIQ SAT4 hBq HL3
           go_wp2_with fail
           go_roundw
           case rel => exact ⟨i + 1, by go_num, by omega, by rw [HNE.out]; exact Q1⟩
           case measure => simp [intOf]; omega
     ·have hiD : decide ((i : Int) < (p.seen.length : Int)) = false := by simp; omega
      have hiE : i = p.seen.length := by omega
      have HCG : Hid (∀ x ∈ cur, GoodL p o x) := by rw [HCU.out]; exact setRow_good hm.out hmo.out z6.out zo.out HGD.out i
      have hcl : cur.length ≤ 608 := by
       rw [HCU.out]
       have := setRow_len (p := p) (o := o) (L := Lk) (l := QL) i
       have := HQ6.out
       omega
      have HCK : Hid (cur[k]? = some Lk) := by show _ = _; rw [HCU.out]; exact setRow_at HLK.out i
      have hkc := (List.getElem?_eq_some_iff.1 HCK.out).1
      have h6 := HQ6.out
      rw [← hiE, ← HCU.out] at HGN
      clear HCU HCK
      go_wp2_with fail
      go_roundw
      case rel => exact ⟨k + 1, cur, by go_num, by omega, by omega, hcl, HLW, HCG, HGN⟩
      case measure => simp [intOf]; omega
  ·have hkD : decide ((k : Int) < (QL.length : Int)) = false := by simp; omega
   have HE : Hid (setsO p o (s0, o.starts) = some QL) := by
    show _ = _
    rw [HGO.out, show 602 - k = (601 - k) + 1 by omega, setGo, List.getElem?_eq_none (by omega)]
   have HLE : Hid (∀ L ∈ QL, L.length ≤ 384) := fun L hL => (HGD.out L hL).len z6.out zo.out
   go_wp2_with fail
   refine bodyPost_ret (v := .tuple #[.slice la QL.length lc, .bool true]) (by simp [results, go_sem]) rfl ?_
   rw [HE.out]
   exact ⟨_, rfl, HL.out.qq, ⟨by omega, HLE.out⟩, HL.out.bel⟩

end Go.Proofs.YtkodmnooibpflaaDoor
