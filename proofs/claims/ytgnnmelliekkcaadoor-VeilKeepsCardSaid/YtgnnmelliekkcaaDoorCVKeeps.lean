/-
 The walk of the law VeilKeeps, the program's contract as a hypothesis.
-/
import Derived.Deep.RegionHeld3
import Derived.Test.YtgnnmelliekkcaaDoorG15
import Derived.Test.YtgnnmelliekkcaaDoorG36
import Derived.Test.YtgnnmelliekkcaaDoorG31
import Derived.Test.YtgnnmelliekkcaaDoorCR15L
import Derived.Test.YtgnnmelliekkcaaDoorG04
namespace Go.Proofs.YtgnnmelliekkcaaDoor
open Go.RowKit
set_option linter.unusedVariables false

/-- The empty word is let be, where there is a veil. -/
theorem lets_nil {p : Plant} {g : List Int → Bool} {free : List Int} {v : VS} {n : Nat} (hm : mayB p.m = true) (hpl : p.m.starts.length ≤ 1) (h : VI p g free n 0 v) : letsV p v [] ≠ none := by
 have h0 : 0 < v.1.length := (List.getElem?_eq_some_iff.1 h.hd).1
 have h1 : 0 < p.m.starts.length := by
  obtain ⟨-, -, ⟨x, hx⟩, -⟩ := h.row _ (List.mem_of_getElem? h.hd)
  apply Classical.byContradiction
  intro hc
  have e : p.m.starts = [] := List.eq_nil_of_length_eq_zero (by omega)
  have hx : x ∈ wideL p.m.arrows p.seen p.m.starts := hx
  rw [e] at hx
  obtain ⟨y, hy, -⟩ := rch_one.1 ((mem_wide (may_to hm) x).1 hx)
  cases hy
 unfold letsV
 rw [if_pos ⟨by omega, h0⟩]
 exact fun k => by cases k
theorem veiled_parts {p : Plant} {free : List Int} (h : veiledB p free = true) : mayP p = true ∧ p.m.starts.length ≤ 1 := by
 unfold veiledB plainB at h
 simp only [Bool.and_eq_true, decide_eq_true_eq] at h
 exact ⟨h.1, h.2.2.1.1⟩

set_option maxRecDepth 100000 in
set_option maxHeartbeats 16000000 in
theorem vkeeps_any (p : Plant) (Pl : ML) (sa : Option Addr) (sc : Nat) (ta : Option Addr) (tc : Nat) (fa : Option Addr) (fc : Nat) (free : List Int) (wa : Option Addr) (wc : Nat) (word : List Int) (w : World) (hT : Hid (Tab w)) (h : Hid (PAt w p ⟨Pl, sa, sc, ta, tc⟩)) (hF : Hid (At w fa free)) (hFl : Hid (free.length ≤ maxLen)) (hW : Hid (At w wa word)) (hWl : Hid (word.length ≤ 17592186044415)) (hWn : Hid (wa = none → wc = 0))
  (HC : Hid (∀ u : World, Tab u → PAt u p ⟨Pl, sa, sc, ta, tc⟩ → At u fa free → Calls Tryd.prog 35 #[ptval p ⟨Pl, sa, sc, ta, tc⟩, .slice fa free.length fc] u fun e w' => VeilPost u p free e w')) :
  Calls Tryd.prog 8 #[ptval p ⟨Pl, sa, sc, ta, tc⟩, .slice fa free.length fc, .slice wa word.length wc] w fun e w' => e = .returned (.bool true) ∧ Below w.heap.size w w' := by
 obtain ⟨i0, hi, hz0, hz1, hz2⟩ := info_parts Tryd.infoInt
 have B : Hid (Below w.heap.size w (w.alloc (.cells (ptcells p ⟨Pl, sa, sc, ta, tc⟩) 44))) := (Below.refl _ _).alloc (Nat.le_refl _) _
 have KP : Hid (Blk (w.alloc (.cells (ptcells p ⟨Pl, sa, sc, ta, tc⟩) 44)) w.heap.size 44 (ptcells p ⟨Pl, sa, sc, ta, tc⟩)) := Blk.new w _ _
 go_enter Tryd.func8, Tryd.ntmps8
 obtain ⟨x0, x1, x2, x3, x4, x5, x6⟩ := ptcell_at KP.out
 go_wp2_with fail
 clear x0 x1 x2 x3 x4 x5 x6
 revert B KP
 generalize w.alloc (.cells (ptcells p ⟨Pl, sa, sc, ta, tc⟩) 44) = V
 intro B KP
 refine (veiled_any p Pl sa sc ta tc fa fc free V (Hid.of (h.out.below B.out (Nat.le_refl _))) (Hid.of (hF.out.below B.out (Nat.le_refl _))) hFl).mono ?_
 rintro e0 W1 ⟨rfl, hb⟩
 replace B := Hid.of (B.out.trans (hb.mono B.out.size))
 replace KP := Hid.of (KP.out.below hb KP.out.lt)
 clear hb
 cases hv : veiledB p free with
 | false =>
  clear hv
  go_wp2_with fail
  go_ret
  exact ⟨rfl, B.out⟩
 | true =>
  have HVE := Hid.of hv
  clear hv
  obtain ⟨hMP, hST⟩ := veiled_parts HVE.out
  have HMP := Hid.of hMP
  have HST := Hid.of hST
  obtain ⟨hM, hz6, -, -⟩ := (mayP_iff p).1 hMP
  have HM := Hid.of hM
  have HZ6 := Hid.of hz6
  have hsz := mayB_size hM
  unfold sizeOk at hsz
  obtain ⟨ev, HEV⟩ : ∃ ev : Nat, Hid (p.m.ev = (ev : Int)) := ⟨p.m.ev.toNat, by show _ = _; omega⟩
  have hev8 : ev ≤ 8 := by have := HEV.out; omega
  have HAL : Hid (p.m.arrows.length ≤ 4096) := by show _ ≤ _; omega
  clear hMP hST hM hz6 hsz
  obtain ⟨x0, x1, x2, x3, x4, x5, x6⟩ := ptcell_at KP.out
  go_wp2_with fail
  clear x0 x1 x2 x3 x4 x5 x6
  refine (HC.out W1 (hT.out.below B.out hT.out.lt) (h.out.below B.out (Nat.le_refl _)) (hF.out.below B.out (Nat.le_refl _))).mono ?_
  rintro e0 W2 ⟨o, er, v, L, rfl, hvv, hat, hb, -, -, c3⟩
  obtain ⟨rfl, g, tg, ho⟩ := c3 HVE.out
  have TG := Hid.of tg
  have HO := Hid.of ho
  replace B := Hid.of (B.out.trans (hb.mono B.out.size))
  replace KP := Hid.of (KP.out.below hb KP.out.lt)
  clear hb HC c3 tg ho
  cases o with
  | none =>
   subst hvv
   have HAT := Hid.of hat
   clear hat
   have hb2 : Below W2.heap.size W2 (W2.alloc (.cells #[.slice L.na 0 L.nc, .slice L.ma 0 L.mc] 58)) := (Below.refl _ _).alloc (Nat.le_refl _) _
   replace B := Hid.of (B.out.trans (hb2.mono B.out.size))
   replace KP := Hid.of (KP.out.below hb2 KP.out.lt)
   have KV := Hid.of (Blk.new W2 58 #[.slice L.na 0 L.nc, .slice L.ma 0 L.mc])
   clear hb2 HAT
   obtain ⟨x0, x1, x2, x3, x4, x5, x6⟩ := ptcell_at KP.out
   have y0 := KV.out.cell 0 rfl
   have y1 := KV.out.cell 1 rfl
   go_wp2_with fail
   clear x0 x1 x2 x3 x4 x5 x6 y0 y1
   revert B KP KV
   show Hid (Below w.heap.size w (W2.alloc (.cells #[.slice L.na 0 L.nc, .slice L.ma 0 L.mc] 58))) → _
   generalize W2.alloc (.cells #[.slice L.na 0 L.nc, .slice L.ma 0 L.mc] 58) = U
   generalize W2.heap.size = vb
   intro B KP KV
   refine (rmake_any p Pl sa sc ta tc fa fc free U (Hid.of (h.out.below B.out (Nat.le_refl _))) (Hid.of (hF.out.below B.out (Nat.le_refl _))) hFl HMP).mono ?_
   rintro e1 U1 ⟨g', hg', hMk⟩
   rw [(makeV_eq HM.out hg' TG.out).trans HO.out.symm] at hMk
   obtain ⟨L2, rfl, hat2, hb⟩ := make_post hMk
   replace B := Hid.of (B.out.trans (hb.mono B.out.size))
   replace KV := Hid.of (KV.out.below hb KV.out.lt)
   clear hb hat2 hMk hg'
   have hb2 : Below U1.heap.size U1 (U1.alloc (.cells #[.slice L2.na 0 L2.nc, .slice L2.ma 0 L2.mc] 58)) := (Below.refl _ _).alloc (Nat.le_refl _) _
   replace B := Hid.of (B.out.trans (hb2.mono B.out.size))
   replace KV := Hid.of (KV.out.below hb2 KV.out.lt)
   clear hb2
   have y0 := KV.out.cell 0 rfl
   go_wp2_with fail
   go_ret
   exact ⟨rfl, B.out⟩
  | some vv =>
   have e0 : v = vv := hvv
   subst e0
   clear hvv
   have HVI := Hid.of (make_vi HM.out HZ6.out TG.out HO.out.symm)
   have HAT := Hid.of hat
   clear hat
   have hb2 : Below W2.heap.size W2 (W2.alloc (.cells (vcells v L) 58)) := (Below.refl _ _).alloc (Nat.le_refl _) _
   replace B := Hid.of (B.out.trans (hb2.mono B.out.size))
   replace KP := Hid.of (KP.out.below hb2 KP.out.lt)
   have KV := Hid.of (Blk.new W2 58 (vcells v L))
   replace HAT := Hid.of (HAT.out.below hb2)
   clear hb2
   obtain ⟨x0, x1, x2, x3, x4, x5, x6⟩ := ptcell_at KP.out
   obtain ⟨y0, y1⟩ := vcell_at KV.out
   go_wp2_with fail
   clear x0 x1 x2 x3 x4 x5 x6 y0 y1
   revert B KP KV HAT
   show Hid (Below w.heap.size w (W2.alloc (.cells (vcells v L) 58))) → _
   generalize W2.alloc (.cells (vcells v L) 58) = U
   generalize W2.heap.size = vb
   intro B KP KV HAT
   refine (rlets_any p Pl sa sc ta tc v L wa wc word U (Hid.of (h.out.below B.out (Nat.le_refl _))) HMP HAT (Hid.of (hW.out.below B.out (Nat.le_refl _))) (Hid.of (Nat.le_trans hWl.out (by decide)))).mono ?_
   rintro e1 U1 hL
   cases hl : letsV p v word with
   | none =>
    rw [hl] at hL
    obtain ⟨rfl, hb⟩ := hL
    replace B := Hid.of (B.out.trans (hb.mono B.out.size))
    clear hb
    have hpos : 0 < word.length := by
     cases hw : word with
     | nil => rw [hw] at hl; exact absurd hl (lets_nil HM.out HST.out HVI.out)
     | cons x r => simp
    clear hl
    go_wp2_with fail
    go_ret
    exact ⟨rfl, B.out⟩
   | some sn =>
    rw [hl] at hL
    obtain ⟨s, nd⟩ := sn
    obtain ⟨rfl, hb⟩ := hL
    obtain ⟨node, hn, hs, hk⟩ := lets_node HM.out HVI.out hl
    replace B := Hid.of (B.out.trans (hb.mono B.out.size))
    replace KP := Hid.of (KP.out.below hb KP.out.lt)
    replace KV := Hid.of (KV.out.below hb KV.out.lt)
    replace HAT := Hid.of (HAT.out.below hb)
    clear hb
    have HL := Hid.of hl
    have HN := Hid.of hn
    have HSI := Hid.of hs
    have HKK := Hid.of hk
    dsimp only at hn hs
    have hnl : nd < v.1.length := (List.getElem?_eq_some_iff.1 hn).1
    have hn64 : v.1.length ≤ 64 := vi_bound HZ6.out HVI.out
    have HHS : Hid (hasB node s = true) := (hasB_iff node s).2 hs
    have HNS : Hid (node.length ≤ 17592186044416) := by
     obtain ⟨h1, h2, -⟩ := HVI.out.row node (List.mem_of_getElem? hn)
     show _ ≤ _
     have := inc_short h1 (fun x hx => by have := h2 x hx; have := HZ6.out; omega)
     omega
    rcases HAT.out.n with h0 | ⟨gb, off, hna, hgb, hcn⟩
    ·rw [h0] at hnl; simp at hnl
    obtain ⟨ka, kc, cn, hnA, hnL⟩ := hcn nd node hn
    have HNA := Hid.of hnA
    have HNL := Hid.of hnL
    have HTA : Hid (At U1 ta p.secret) := (h.out.below B.out (Nat.le_refl _)).t.at_
    have HTL : Hid (p.secret.length ≤ maxLen) := h.out.t.len
    have HCN := Hid.of cn
    have HGB := Hid.of hgb
    obtain ⟨na, nc, ma, mc⟩ := L
    dsimp only at hna
    subst hna
    clear hl hn hs hk hcn cn hnA hnL hgb
    have SA : Hid (∀ W, Below U1.heap.size U1 W → W.cell? ⟨vb, 0, none⟩ = some (.slice (some ⟨gb, off, none⟩) v.1.length nc) ∧ W.cell? ⟨gb, off + nd, none⟩ = some (.slice ka node.length kc) ∧ W.cell? ⟨w.heap.size, 6, none⟩ = some (.slice ta p.secret.length tc)) := fun W hb => ⟨(vcell_at (KV.out.below hb KV.out.lt)).1, (hb.cell (p := ⟨gb, off + nd, none⟩) HGB.out).trans HCN.out, (ptcell_at (KP.out.below hb KP.out.lt)).2.2.2.2.2.2⟩
    have hnd0 : (0 : Int) ≤ (nd : Int) := by omega
    have hnd1 : (nd : Int) < (v.1.length : Int) := by omega
    go_wp2_with fail
    refine wp_region_held_drew (S := fun w' => w'.cell? ⟨vb, 0, none⟩ = some (.slice (some ⟨gb, off, none⟩) v.1.length nc) ∧ w'.cell? ⟨gb, off + nd, none⟩ = some (.slice ka node.length kc) ∧ w'.cell? ⟨w.heap.size, 6, none⟩ = some (.slice ta p.secret.length tc)) (by kernel_rfl) (SA.out _ (Below.refl _ _).drew) (fun hS => ?_)
    have HY : Hid (Below U1.heap.size U1 U1.drew) := (Below.refl _ _).drew
    revert hS HY
    generalize U1.drew = Y0
    intro hS HY
    refine tkH 0 (.pointer (some ⟨vb, 0, none⟩)) rfl (fun w' hw' => by obtain ⟨q0, q1, q2⟩ := hw'; go_simp) hS ?_
    refine tkH 1 (.slice (some ⟨gb, off, none⟩) v.1.length nc) rfl (fun w' hw' => by obtain ⟨q0, q1, q2⟩ := hw'; go_simp) hS ?_
    refine tkH 2 (.int .i64 (nd : Int)) rfl (fun w' hw' => by obtain ⟨q0, q1, q2⟩ := hw'; go_simp) hS ?_
    refine tkH 3 (.pointer (some ⟨gb, off + nd, none⟩)) rfl (fun w' hw' => by obtain ⟨q0, q1, q2⟩ := hw'; go_simp) hS ?_
    refine tkH 4 (.slice ka node.length kc) rfl (fun w' hw' => by obtain ⟨q0, q1, q2⟩ := hw'; go_simp) hS ?_
    refine tkH 5 (.int .i64 s) rfl (fun w' hw' => by obtain ⟨q0, q1, q2⟩ := hw'; go_simp) hS ?_
    simp only [Act.put, List.setIfInBounds_toArray]
    refine wpAnyH_ready (rs := [6]) (by kernel_rfl) (by simp) ?_
    refine AllReadyH.cons rfl (fun K' hK' => ?_) AllReadyH.nil
    clear hS
    go_simp
    refine (refHas_any ka kc node s _ (HNA.out.below HY.out (Nat.le_refl _)) HNL.out).mono ?_
    rintro e1 Y1 ⟨rfl, rfl⟩
    rw [HHS.out]
    refine hK'.out _ _ (SA.out _ HY.out) (fun hS => ?_)
    clear hK' K'
    refine tkH 7 (.bool false) rfl (fun w' hw' => by obtain ⟨q0, q1, q2⟩ := hw'; go_simp) hS ?_
    refine tkH 8 (.bool false) rfl (fun w' hw' => by obtain ⟨q0, q1, q2⟩ := hw'; go_simp) hS ?_
    refine tkH 9 (.pointer (some ⟨vb, 0, none⟩)) rfl (fun w' hw' => by obtain ⟨q0, q1, q2⟩ := hw'; go_simp) hS ?_
    refine tkH 10 (.slice (some ⟨gb, off, none⟩) v.1.length nc) rfl (fun w' hw' => by obtain ⟨q0, q1, q2⟩ := hw'; go_simp) hS ?_
    refine tkH 11 (.int .i64 (nd : Int)) rfl (fun w' hw' => by obtain ⟨q0, q1, q2⟩ := hw'; go_simp) hS ?_
    refine tkH 12 (.pointer (some ⟨gb, off + nd, none⟩)) rfl (fun w' hw' => by obtain ⟨q0, q1, q2⟩ := hw'; go_simp) hS ?_
    refine tkH 13 (.slice ka node.length kc) rfl (fun w' hw' => by obtain ⟨q0, q1, q2⟩ := hw'; go_simp) hS ?_
    refine tkH 14 (.pointer (some ⟨w.heap.size, 6, none⟩)) rfl (fun w' hw' => by obtain ⟨q0, q1, q2⟩ := hw'; go_simp) hS ?_
    refine tkH 15 (.slice ta p.secret.length tc) rfl (fun w' hw' => by obtain ⟨q0, q1, q2⟩ := hw'; go_simp) hS ?_
    refine wpAnyH_ready (rs := [16]) (by kernel_rfl) (by simp) ?_
    refine AllReadyH.cons rfl (fun K' hK' => ?_) AllReadyH.nil
    clear hS
    go_simp
    refine (rTells_any ka ta kc tc node p.secret _ (HNA.out.below HY.out (Nat.le_refl _)) HNS.out (HTA.out.below HY.out (Nat.le_refl _)) HTL.out).mono ?_
    rintro e1 Y2 ⟨rfl, hb⟩
    rw [HKK.out]
    replace HY := Hid.of (HY.out.trans (hb.mono HY.out.size))
    refine hK'.out _ _ (SA.out _ HY.out) (fun hS => ?_)
    clear hK' K' hb
    refine tkH 17 (.bool false) rfl (fun w' hw' => by obtain ⟨q0, q1, q2⟩ := hw'; go_simp) hS ?_
    refine wpAnyH_done (by kernel_rfl) ?_ _
    clear hS
    go_wp2_with fail
    go_loopw [15] (fun i wr => ∃ k : Nat, i = .int .i64 (k : Int) ∧ k ≤ ev ∧ Hid (Below U1.heap.size U1 wr)) (fun i _ => ev - (intOf i).toNat)
    case atStart => exact ⟨0, rfl, Nat.zero_le _, HY⟩
    case round =>
     clear HY
     obtain ⟨k, rfl, hk, HY⟩ := hrel
     have KPr := Hid.of (KP.out.below HY.out KP.out.lt)
     have HBr := Hid.of (B.out.trans (HY.out.mono B.out.size))
     by_cases hke : k < ev
     ·have hkD : decide ((k : Int) < p.m.ev) = true := by rw [HEV.out]; simp; omega
      have hbA : Below wr.heap.size wr (wr.alloc (.cells #[.int .i64 s] 3)) := (Below.refl _ _).alloc (Nat.le_refl _) _
      have A1 : Hid (At (wr.alloc (.cells #[.int .i64 s] 3)) (some ⟨wr.heap.size, 0, none⟩) [s]) := at_one15 wr s
      have HY1 := Hid.of (HY.out.trans (hbA.mono HY.out.size))
      obtain ⟨x0, x1, x2, x3, x4, x5, x6⟩ := ptcell_at KPr.out
      clear hbA KPr HBr
      go_wp2_with fail
      clear x0 x1 x2 x3 x4 x5 x6
      revert A1 HY1
      generalize wr.alloc (.cells #[.int .i64 s] 3) = X1
      generalize wr.heap.size = sb
      intro A1 HY1
      obtain ⟨to, HTO⟩ : ∃ to, Hid (to = stepL p.m.arrows [s] (k : Int)) := ⟨_, rfl⟩
      refine (refStep_any p.m Pl (some ⟨sb, 0, none⟩) 1 [s] (k : Int) X1 (h.out.below (B.out.trans (HY1.out.mono B.out.size)) (Nat.le_refl _)).m.a (by have := HAL.out; omega) A1.out (by show 1 ≤ maxLen; decide)).mono ?_
      rw [← HTO.out]
      rintro e1 X2 ⟨ua, uc, rfl, -, -, hb⟩
      have HY2 := Hid.of (HY1.out.trans (hb.mono HY1.out.size))
      clear hb A1 HY1
      have o0 := own_empty X2
      have b0 : Below X2.heap.size X2 (X2.alloc (.cells #[] 3)) := (Below.refl _ _).alloc (Nat.le_refl _) _
      have at1 : At (X2.alloc (.cells #[] 3)) wa word := (hW.out.below (B.out.trans (HY2.out.mono B.out.size)) (Nat.le_refl _)).below b0 (Nat.le_refl _)
      have hwl := hWl.out
      go_wp2_with (at_builtin; refine wpList_append_ints _ rfl (.tmp 94) (.tmp 95) 22 rfl X2.heap.size i0 Tryd.underlying22 hi hz0 hz1 hz2 _ [] rfl o0 wa wc word rfl at1 hWn.out (by simp only [List.length_nil]; omega) (by simp) ?_)
      intro v1 u1 o1 b1 z1
      have bb1 : Below X2.heap.size X2 u1 := b0.trans b1
      have b2 : Below u1.heap.size u1 (u1.alloc (.cells #[.int .i64 (k : Int)] 3)) := (Below.refl _ _).alloc (Nat.le_refl _) _
      have o1 : Own (u1.alloc (.cells #[.int .i64 (k : Int)] 3)) X2.heap.size v1 word := by
       have o1 : Own u1 X2.heap.size v1 word := o1
       exact own_same o1 (fun q hq => b2.block q (World.ownsRow.lt o1 q hq).2)
      have at2 : At (u1.alloc (.cells #[.int .i64 (k : Int)] 3)) (some ⟨u1.heap.size, 0, none⟩) [(k : Int)] := at_one15 u1 (k : Int)
      have z2 : X2.heap.size ≤ (u1.alloc (.cells #[.int .i64 (k : Int)] 3)).heap.size := by simp; omega
      have bb2 : Below X2.heap.size X2 (u1.alloc (.cells #[.int .i64 (k : Int)] 3)) := bb1.trans (b2.mono z1)
      clear o0 at1 b0 b1 b2 bb1
      go_wp2_with (at_builtin; refine wpList_append_ints _ rfl (.tmp 96) (.tmp 98) 22 rfl X2.heap.size i0 Tryd.underlying22 hi hz0 hz1 hz2 _ word rfl o1 (some ⟨u1.heap.size, 0, none⟩) 1 [(k : Int)] rfl at2 (by simp) (by simp only [List.length_cons, List.length_nil]; omega) z2 ?_)
      intro v2 u2 o2 b3 z3
      have HY3 := Hid.of (HY2.out.trans ((bb2.trans b3).mono HY2.out.size))
      obtain ⟨va, vc, rfl, h3, l3⟩ := o2.at
      have HLS : Hid (letsV p v (word ++ [(k : Int)]) = letStep p v (some (s, nd)) (k : Int)) := lets_snoc HL.out
      clear o2 b3 bb2 o1 at2 z2 z3 z1 hwl HY2
      obtain ⟨zs, HZS⟩ : ∃ zs, Hid (zs = word ++ [(k : Int)]) := ⟨_, rfl⟩
      rw [← HZS.out] at h3 l3 HLS ⊢
      have H3 := Hid.of h3
      have L3 := Hid.of l3
      clear h3 l3
      obtain ⟨x0, x1, x2, x3, x4, x5, x6⟩ := ptcell_at (KP.out.below HY3.out KP.out.lt)
      obtain ⟨y0, y1⟩ := vcell_at (KV.out.below HY3.out KV.out.lt)
      go_wp2_with fail
      clear x0 x1 x2 x3 x4 x5 x6 y0 y1
      refine (rlets_any p Pl sa sc ta tc v ⟨some ⟨gb, off, none⟩, nc, ma, mc⟩ va vc zs u2 (Hid.of (h.out.below (B.out.trans (HY3.out.mono B.out.size)) (Nat.le_refl _))) HMP (Hid.of (HAT.out.below HY3.out)) H3 L3).mono ?_
      rintro e1 u3 hL3
      rw [HLS.out] at hL3
      have HON : Hid (to.length = 1 → hasB free (k : Int) = false → (letStep p v (some (s, nd)) (k : Int)).isSome = true) := fun q1 q2 => lets_on HM.out HVI.out HN.out HSI.out (by rw [← HTO.out]; exact q1) (fun q => by rw [(hasB_iff _ _).2 q] at q2; cases q2)
      obtain ⟨fr, HFR⟩ : ∃ fr, Hid (hasB free (k : Int) = fr) := ⟨_, rfl⟩
      cases hst : letStep p v (some (s, nd)) (k : Int) with
      | none =>
       rw [hst] at hL3
       obtain ⟨rfl, hb⟩ := hL3
       have HY4 := Hid.of (HY3.out.trans (hb.mono HY3.out.size))
       have HNO : Hid (to.length = 1 → fr = true) := fun q => by
        cases hq : fr with
        | true => rfl
        | false =>
         have := HON.out q (HFR.out.trans hq)
         rw [hst] at this
         cases this
       clear hb hst HON
       by_cases h1 : to.length = 1
       ·have d1 : ((to.length : Int) == 1) = true := by rw [h1]; rfl
        have hfr : fr = true := HNO.out h1
        subst hfr
        clear h1
        go_wp2_with fail
        refine (refHas_any fa fc free (k : Int) _ (hF.out.below (B.out.trans (HY4.out.mono B.out.size)) (Nat.le_refl _)) hFl.out).mono ?_
        rintro e1 u4 ⟨rfl, rfl⟩
        rw [HFR.out]
        go_wp2_with fail
        go_roundw
        case rel => exact ⟨k + 1, by go_num, by omega, HY4⟩
        case measure => simp [intOf]; omega
       ·have d1 : ((to.length : Int) == 1) = false := by simpa using (by omega : (to.length : Int) ≠ 1)
        clear h1
        go_wp2_with fail
        go_roundw
        case rel => exact ⟨k + 1, by go_num, by omega, HY4⟩
        case measure => simp [intOf]; omega
      | some y =>
       rw [hst] at hL3
       obtain ⟨rfl, hb⟩ := hL3
       have HY4 := Hid.of (HY3.out.trans (hb.mono HY3.out.size))
       clear hb hst HON
       by_cases h1 : to.length = 1
       ·have d1 : ((to.length : Int) == 1) = true := by rw [h1]; rfl
        clear h1
        go_wp2_with fail
        refine (refHas_any fa fc free (k : Int) _ (hF.out.below (B.out.trans (HY4.out.mono B.out.size)) (Nat.le_refl _)) hFl.out).mono ?_
        rintro e1 u4 ⟨rfl, rfl⟩
        rw [HFR.out]
        cases hfr : fr with
        | true =>
         go_wp2_with fail
         go_roundw
         case rel => exact ⟨k + 1, by go_num, by omega, HY4⟩
         case measure => simp [intOf]; omega
        | false =>
         go_wp2_with fail
         go_roundw
         case rel => exact ⟨k + 1, by go_num, by omega, HY4⟩
         case measure => simp [intOf]; omega
       ·have d1 : ((to.length : Int) == 1) = false := by simpa using (by omega : (to.length : Int) ≠ 1)
        clear h1
        go_wp2_with fail
        go_roundw
        case rel => exact ⟨k + 1, by go_num, by omega, HY4⟩
        case measure => simp [intOf]; omega
     ·have hkD : decide ((k : Int) < p.m.ev) = false := by rw [HEV.out]; simp; omega
      have x1 := (ptcell_at KPr.out).2.1
      clear hke
      go_wp2_with fail
      exact bodyPost_ret (v := .bool true) (by simp [results, go_sem]) rfl ⟨rfl, HBr.out⟩

end Go.Proofs.YtgnnmelliekkcaaDoor
