/-
  jalousieref11.Leak, whatever the number of steps.
  The walk of jalousieref11.Was.
-/
import Derived.Test.YtmlkpdeidpcidaaDoorDR11LkA
import Derived.Test.YtmlkpdeidpcidaaDoorDR11LkB
import Derived.Test.YtmlkpdeidpcidaaDoorH39
import Derived.Test.YtmlkpdeidpcidaaDoorH28
namespace Go.Proofs.YtmlkpdeidpcidaaDoor
open Go.RowKit
set_option linter.unusedVariables false

theorem rLeakS_any (p : Plant) (P : PTL) (most : Int) (w : World) (h : PAt w p P) (hp : mayP p = true) :
    Calls Tryd.prog 44 #[ptval p P, .int .i64 most] w fun e w' => SLPost w (outS p most) e w' := by
  by_cases h0 : 0 ≤ most
  · exact rLeakS_A p P most w (Hid.of h) (Hid.of hp) (Hid.of h0)
  · exact rLeakS_B p P most w (Hid.of h) (Hid.of hp) (Hid.of h0)

end Go.Proofs.YtmlkpdeidpcidaaDoor
namespace Go.Proofs.YtmlkpdeidpcidaaDoor
open Go.RowKit
set_option linter.unusedVariables false

set_option maxRecDepth 100000 in
set_option maxHeartbeats 8000000 in
theorem rwas_go (st : Nat) (ev : Int) (starts : List Int) (ars : List Arr) (ends seen secret : List Int) (a1 : Option Addr) (c1 : Nat) (a2 : Option Addr) (c2 : Nat) (a3 : Option Addr) (c3 : Nat) (sa : Option Addr) (sc : Nat) (ta : Option Addr) (tc : Nat) (ba va : Option Addr) (bc vc : Nat) (before behind : List Int) (w : World) (h : Hid (PAt w ⟨⟨(st : Int), ev, starts, ars, ends⟩, seen, secret⟩ ⟨⟨a1, c1, a2, c2, a3, c3⟩, sa, sc, ta, tc⟩)) (hm : Hid (mayB ⟨(st : Int), ev, starts, ars, ends⟩ = true)) (hb : Hid (At w ba before)) (hbl : Hid (before.length ≤ maxLen)) (hv : Hid (At w va behind)) (hvl : Hid (behind.length ≤ maxLen)) :
    Calls Tryd.prog 43 #[ptval ⟨⟨(st : Int), ev, starts, ars, ends⟩, seen, secret⟩ ⟨⟨a1, c1, a2, c2, a3, c3⟩, sa, sc, ta, tc⟩, .slice ba before.length bc, .slice va behind.length vc] w fun e w' => GivesO w (wasL ⟨⟨(st : Int), ev, starts, ars, ends⟩, seen, secret⟩ before behind) e w' := by
  obtain ⟨j0, ji, jz0, jz1, jz2⟩ := info_parts Tryd.infoInt
  have B : Hid (Below w.heap.size w (w.alloc (.cells (ptcells ⟨⟨(st : Int), ev, starts, ars, ends⟩, seen, secret⟩ ⟨⟨a1, c1, a2, c2, a3, c3⟩, sa, sc, ta, tc⟩) 44))) := (Below.refl _ _).alloc (Nat.le_refl _) _
  have K : Hid (Blk (w.alloc (.cells (ptcells ⟨⟨(st : Int), ev, starts, ars, ends⟩, seen, secret⟩ ⟨⟨a1, c1, a2, c2, a3, c3⟩, sa, sc, ta, tc⟩) 44)) w.heap.size 44 (ptcells ⟨⟨(st : Int), ev, starts, ars, ends⟩, seen, secret⟩ ⟨⟨a1, c1, a2, c2, a3, c3⟩, sa, sc, ta, tc⟩)) := Blk.new w _ _
  go_enter Tryd.func43, Tryd.ntmps43
  obtain ⟨x0, x1, x2, x3, x4, x5, x6⟩ := ptcell_at K.out
  dsimp only at x0 x1 x2 x3 x4 x5 x6
  go_wp2_with fail
  clear x0 x1 x2 x3 x4 x5 x6
  refine (rEst_any ⟨⟨(st : Int), ev, starts, ars, ends⟩, seen, secret⟩ ⟨⟨a1, c1, a2, c2, a3, c3⟩, sa, sc, ta, tc⟩ ba bc before _ (h.out.below B.out (Nat.le_refl _)) hm.out (hb.out.below B.out (Nat.le_refl _)) hbl.out).mono ?_
  rintro e W1 ⟨v1, rfl, o1, hb1⟩
  obtain ⟨ea, ec, rfl, ha1, -, -, -⟩ := o1.at2
  have hel : (estL ⟨⟨(st : Int), ev, starts, ars, ends⟩, seen, secret⟩ before).length ≤ 256 := by
    have h1 := mayB_size hm.out
    unfold sizeOk at h1
    have h2 := est_in (p := ⟨⟨(st : Int), ev, starts, ars, ends⟩, seen, secret⟩) hm.out before
    exact nodup_len 256 _ (inc_nodup h2.1) (fun x hx => by have := h2.2 x hx; dsimp only at this h1; omega)
  obtain ⟨est, HE⟩ : ∃ est, Hid (est = estL ⟨⟨(st : Int), ev, starts, ars, ends⟩, seen, secret⟩ before) := ⟨_, rfl⟩
  rw [← HE.out] at ha1 hel ⊢
  have HA := Hid.of ha1
  have B1 := Hid.of (B.out.trans (hb1.mono B.out.size))
  have K1 := Hid.of (K.out.below hb1 K.out.lt)
  clear o1 hb1 ha1 B K
  go_wp2_with fail
  go_loopw [8, 9] (fun v i wr => ∃ k : Nat, i = .int .i64 k ∧ k ≤ est.length ∧ Hid (Own wr W1.heap.size v ((est.take k).filter (fun s => decide (0 < (fromL ⟨⟨(st : Int), ev, starts, ars, ends⟩, seen, secret⟩ [s] behind).length)))) ∧ Hid (Below W1.heap.size W1 wr)) (fun _ i _ => est.length - (intOf i).toNat)
  case atStart => exact ⟨0, rfl, Nat.zero_le _, own_nil _ _, Below.refl _ _⟩
  case round =>
    obtain ⟨k, rfl, hk, HO, BR⟩ := hrel
    have hlo := BR.out.size
    have BW := Hid.of (B1.out.trans (BR.out.mono B1.out.size))
    have KW := Hid.of (K1.out.below BR.out K1.out.lt)
    by_cases hlt : k < est.length
    · obtain ⟨x, HX⟩ : ∃ x, Hid (est[k]? = some x) := ⟨_, List.getElem?_eq_getElem hlt⟩
      obtain ⟨eb, eo, hea, heb1, cx⟩ := at_get HA.out HX.out
      subst hea
      have heb : eb < wr.heap.size := Nat.lt_of_lt_of_le heb1 hlo
      have CX : Hid (wr.cell? ⟨eb, eo + k, none⟩ = some (.int .i64 x)) := (BR.out.cell (p := ⟨eb, eo + k, none⟩) heb1).trans cx
      have HTK := Hid.of (filter_take (fun s => decide (0 < (fromL ⟨⟨(st : Int), ev, starts, ars, ends⟩, seen, secret⟩ [s] behind).length)) hlt (show Hid (x = est[k]?.getD 0) from by show _ = _; rw [HX.out]; rfl))
      have hln : ((est.take k).filter (fun s => decide (0 < (fromL ⟨⟨(st : Int), ev, starts, ars, ends⟩, seen, secret⟩ [s] behind).length))).length ≤ 256 := Nat.le_trans (List.length_filter_le _ _) (by rw [List.length_take]; omega)
      clear cx
      go_wp2_with fail
      have SA : Hid (∀ W : World, Below wr.heap.size wr W → W.cell? ⟨w.heap.size, 0, none⟩ = some (.int .i64 (st : Int)) ∧ W.cell? ⟨w.heap.size, 1, none⟩ = some (.int .i64 ev) ∧ W.cell? ⟨w.heap.size, 2, none⟩ = some (.slice a1 starts.length c1) ∧ W.cell? ⟨w.heap.size, 3, none⟩ = some (.slice a2 ars.length c2) ∧ W.cell? ⟨w.heap.size, 4, none⟩ = some (.slice a3 ends.length c3) ∧ W.cell? ⟨w.heap.size, 5, none⟩ = some (.slice sa seen.length sc) ∧ W.cell? ⟨w.heap.size, 6, none⟩ = some (.slice ta secret.length tc) ∧ W.cell? ⟨eb, eo + k, none⟩ = some (.int .i64 x)) := fun W hb => by
        obtain ⟨x0, x1, x2, x3, x4, x5, x6⟩ := ptcell_at (KW.out.below hb KW.out.lt)
        exact ⟨x0, x1, x2, x3, x4, x5, x6, (hb.cell (p := ⟨eb, eo + k, none⟩) heb).trans CX.out⟩
      refine wp_region_held_drew (S := fun w' => w'.cell? ⟨w.heap.size, 0, none⟩ = some (.int .i64 (st : Int)) ∧ w'.cell? ⟨w.heap.size, 1, none⟩ = some (.int .i64 ev) ∧ w'.cell? ⟨w.heap.size, 2, none⟩ = some (.slice a1 starts.length c1) ∧ w'.cell? ⟨w.heap.size, 3, none⟩ = some (.slice a2 ars.length c2) ∧ w'.cell? ⟨w.heap.size, 4, none⟩ = some (.slice a3 ends.length c3) ∧ w'.cell? ⟨w.heap.size, 5, none⟩ = some (.slice sa seen.length sc) ∧ w'.cell? ⟨w.heap.size, 6, none⟩ = some (.slice ta secret.length tc) ∧ w'.cell? ⟨eb, eo + k, none⟩ = some (.int .i64 x)) (by kernel_rfl) (SA.out _ (Below.refl _ _).drew) (fun hS => ?_)
      have BF : Hid (Below wr.heap.size wr wr.drew) := (Below.refl _ _).drew
      revert hS BF
      generalize wr.drew = Y0
      intro hS BF
      refine wpAnyH_take (i := 0) (v := ptval ⟨⟨(st : Int), ev, starts, ars, ends⟩, seen, secret⟩ ⟨⟨a1, c1, a2, c2, a3, c3⟩, sa, sc, ta, tc⟩) rfl (by kernel_rfl) (by kernel_rfl) (by kernel_rfl) (fun _ _ _ h => h) (Or.inl ⟨by kernel_rfl, fun w' hw' => by obtain ⟨q0, q1, q2, q3, q4, q5, q6, q7⟩ := hw'; go_simp⟩) hS ?_
      refine wpAnyH_take (i := 1) (v := .slice (some ⟨eb, eo, none⟩) est.length ec) rfl (by kernel_rfl) (by kernel_rfl) (by kernel_rfl) (fun _ _ _ h => h) (Or.inl ⟨by kernel_rfl, fun w' hw' => by obtain ⟨q0, q1, q2, q3, q4, q5, q6, q7⟩ := hw'; go_simp⟩) hS ?_
      refine wpAnyH_take (i := 2) (v := .int .i64 k) rfl (by kernel_rfl) (by kernel_rfl) (by kernel_rfl) (fun _ _ _ h => h) (Or.inl ⟨by kernel_rfl, fun w' hw' => by obtain ⟨q0, q1, q2, q3, q4, q5, q6, q7⟩ := hw'; go_simp⟩) hS ?_
      refine wpAnyH_take (i := 3) (v := .pointer (some ⟨eb, eo + k, none⟩)) rfl (by kernel_rfl) (by kernel_rfl) (by kernel_rfl) (fun _ _ _ h => h) (Or.inl ⟨by kernel_rfl, fun w' hw' => by obtain ⟨q0, q1, q2, q3, q4, q5, q6, q7⟩ := hw'; go_simp⟩) hS ?_
      refine wpAnyH_take (i := 4) (v := .int .i64 x) rfl (by kernel_rfl) (by kernel_rfl) (by kernel_rfl) (fun _ _ _ h => h) (Or.inl ⟨by kernel_rfl, fun w' hw' => by obtain ⟨q0, q1, q2, q3, q4, q5, q6, q7⟩ := hw'; go_simp⟩) hS ?_
      refine wpAnyH_take (i := 6) (v := .slice va behind.length vc) rfl (by kernel_rfl) (by kernel_rfl) (by kernel_rfl) (fun _ _ _ h => h) (Or.inl ⟨by kernel_rfl, fun w' hw' => by obtain ⟨q0, q1, q2, q3, q4, q5, q6, q7⟩ := hw'; go_simp⟩) hS ?_
      simp only [Act.put, List.setIfInBounds_toArray]
      refine wpAnyH_ready (rs := [5]) (by kernel_rfl) (by simp) ?_
      refine AllReadyH.cons rfl (fun K' hK' => ?_) AllReadyH.nil
      go_simp
      have bA : Below Y0.heap.size Y0 (Y0.alloc (.cells #[.int .i64 x] 3)) := (Below.refl _ _).alloc (Nat.le_refl _) _
      have A1 := Hid.of (at_new1 Y0 x)
      replace BF := Hid.of (BF.out.trans (bA.mono BF.out.size))
      refine hK'.out _ _ (SA.out _ BF.out) (fun hS1 => ?_)
      clear hK' K' bA hS
      revert A1 BF hS1
      generalize Y0.alloc (.cells #[.int .i64 x] 3) = Y1
      generalize Y0.heap.size = p1
      intro A1 BF hS1
      refine wpAnyH_ready (rs := [7]) (by kernel_rfl) (by simp) ?_
      refine AllReadyH.cons rfl (fun K' hK' => ?_) AllReadyH.nil
      have B1 := Hid.of (BW.out.trans (BF.out.mono BW.out.size))
      go_simp
      refine (rFrom_any ⟨⟨(st : Int), ev, starts, ars, ends⟩, seen, secret⟩ ⟨⟨a1, c1, a2, c2, a3, c3⟩, sa, sc, ta, tc⟩ (some ⟨p1, 0, none⟩) va 1 vc [x] behind Y1 (h.out.below B1.out (Nat.le_refl _)) hm.out A1.out (by simp) (fun h => by cases h) (hv.out.below B1.out (Nat.le_refl _)) hvl.out).mono ?_
      rintro e W2 ⟨v, rfl, ov, hb⟩
      replace BF := Hid.of (BF.out.trans (hb.mono BF.out.size))
      obtain ⟨fa, fc, hfa, -, -, -⟩ := own_form2 ov
      subst hfa
      refine hK'.out _ _ (SA.out _ BF.out) (fun hS2 => ?_)
      clear hK' K' hb ov hS1 B1 A1
      obtain ⟨fr, HFR⟩ : ∃ fr, Hid (fr = fromL ⟨⟨(st : Int), ev, starts, ars, ends⟩, seen, secret⟩ [x] behind) := ⟨_, rfl⟩
      rw [← HFR.out] at HTK ⊢
      refine wpAnyH_take (i := 8) (v := .slice fa fr.length fc) rfl (by kernel_rfl) (by kernel_rfl) (by kernel_rfl) (fun _ _ _ h => h) (Or.inl ⟨by kernel_rfl, fun w' hw' => by obtain ⟨q0, q1, q2, q3, q4, q5, q6, q7⟩ := hw'; go_simp⟩) hS2 ?_
      refine wpAnyH_done (by kernel_rfl) ?_ _
      clear hS2

      have HO2 : Hid (Own W2 W1.heap.size _ _) := own_same HO.out (fun j hj => BF.out.block j (World.ownsRow.lt HO.out j hj).2)
      have BR2 := Hid.of (BR.out.trans (BF.out.mono hlo))
      have CX2 : W2.cell? ⟨eb, eo + k, none⟩ = some (.int .i64 x) := (BF.out.cell (p := ⟨eb, eo + k, none⟩) heb).trans CX.out
      have hlo2 := BR2.out.size
      clear HO BR CX SA BF BW KW hlo heb
      obtain ⟨ga, gc, hga, -, -, -⟩ := own_form2 HO2.out
      subst hga
      revert HO2 HTK hln
      generalize (est.take k).filter (fun s => decide (0 < (fromL ⟨⟨(st : Int), ev, starts, ars, ends⟩, seen, secret⟩ [s] behind).length)) = cur
      intro hln HTK HO2
      by_cases hp : 0 < fr.length
      · have dp : decide ((0 : Int) < (fr.length : Int)) = true := decide_eq_true (by omega)
        have HT2 : Hid ((est.take (k + 1)).filter (fun s => decide (0 < (fromL ⟨⟨(st : Int), ev, starts, ars, ends⟩, seen, secret⟩ [s] behind).length)) = cur ++ [x]) := by show _ = _; rw [HTK.out, if_pos (decide_eq_true hp)]
        clear HTK
        go_wp2_with (at_builtin; refine wpList_append_block _ rfl (.tmp 31) (.tmp 36) 22 rfl W1.heap.size 3 j0 (.int .i64 0) 1 8 Tryd.underlying22 ji jz0 jz1 jz2 rfl (by decide) _ _ _ rfl (World.ownsRow.alloc HO2.out _) ⟨W2.heap.size, 0, none⟩ 1 1 [.int .i64 x] rfl rfl (cell_one_new _ _ _) (by intro u hu; simp at hu; subst hu; rfl) (by decide) (by unfold maxLen; omega) (by omega) (by simp; omega) ?_)
        intro v9 w9 o9 g9 n9
        obtain ⟨q1, q2, q3⟩ := own_snoc HO2.out (Below.refl _ W2) hlo2 o9 g9
        have Q1 := Hid.of q1
        have Q2 := Hid.of (BR2.out.trans q2)
        clear q1 q2 q3 o9 g9 n9
        go_wp2_with fail
        go_roundw
        case rel => exact ⟨k + 1, by go_num, by omega, (by show Own _ _ _ _; rw [HT2.out]; exact Q1.out), Q2⟩
        case measure => simp [intOf]; omega
      · have dp : decide ((0 : Int) < (fr.length : Int)) = false := decide_eq_false (by omega)
        have HT2 : Hid ((est.take (k + 1)).filter (fun s => decide (0 < (fromL ⟨⟨(st : Int), ev, starts, ars, ends⟩, seen, secret⟩ [s] behind).length)) = cur) := by show _ = _; rw [HTK.out, if_neg (by simpa using hp), List.append_nil]
        clear HTK
        go_wp2_with fail
        all_goals
          go_roundw
          case rel => exact ⟨k + 1, by go_num, by omega, (by show Own _ _ _ _; rw [HT2.out]; exact HO2.out), BR2⟩
          case measure => simp [intOf]; omega
    · have hltD : decide ((k : Int) < (est.length : Int)) = false := by simp; omega
      have HF : Hid ((est.take k).filter (fun s => decide (0 < (fromL ⟨⟨(st : Int), ev, starts, ars, ends⟩, seen, secret⟩ [s] behind).length)) = wasL ⟨⟨(st : Int), ev, starts, ars, ends⟩, seen, secret⟩ before behind) := by show _ = _; rw [List.take_of_length_le (by omega), HE.out]; rfl
      rw [HF.out] at HO
      go_wp2_with fail
      go_ret
      exact ⟨_, rfl, Own.low HO.out (Nat.le_trans (Nat.le_of_lt (Nat.lt_of_le_of_lt (Nat.le_refl _) K1.out.lt)) (Nat.le_refl _)), BW.out⟩

theorem rWas_any (p : Plant) (P : PTL) (ba va : Option Addr) (bc vc : Nat) (before behind : List Int) (w : World) (h : PAt w p P) (hm : mayB p.m = true) (hb : At w ba before) (hbl : before.length ≤ maxLen) (hv : At w va behind) (hvl : behind.length ≤ maxLen) :
    Calls Tryd.prog 43 #[ptval p P, .slice ba before.length bc, .slice va behind.length vc] w fun e w' => GivesO w (wasL p before behind) e w' := by
  have hz := mayB_size hm
  unfold sizeOk at hz
  obtain ⟨⟨st, ev, starts, ars, ends⟩, seen, secret⟩ := p
  obtain ⟨⟨a1, c1, a2, c2, a3, c3⟩, sa, sc, ta, tc⟩ := P
  dsimp only at hz
  obtain ⟨s, rfl⟩ : ∃ s : Nat, st = (s : Int) := ⟨st.toNat, by omega⟩
  exact rwas_go s ev starts ars ends seen secret a1 c1 a2 c2 a3 c3 sa sc ta tc ba va bc vc before behind w (Hid.of h) (Hid.of hm) (Hid.of hb) (Hid.of hbl) (Hid.of hv) (Hid.of hvl)

end Go.Proofs.YtmlkpdeidpcidaaDoor
