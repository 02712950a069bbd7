/-
  jalousieref11.Leak, whatever the number of steps.
  The walk of jalousieref11.Was.
  The walk of steps.compare: which of two pairs of lists comes first, as far as their lengths tell it.
  The closures of package steps, and slices.IndexFunc over places with each of them.
-/
import Derived.Test.YtmlkpdeidpcidaaDoorCR11LkA
import Derived.Test.YtmlkpdeidpcidaaDoorCR11LkB
import Derived.Test.YtmlkpdeidpcidaaDoorG99
import Derived.Test.YtmlkpdeidpcidaaDoorG37
import Derived.Deep.RegionHeld3
import Derived.Test.YtmlkpdeidpcidaaDoorG05
import Derived.Test.YtmlkpdeidpcidaaDoorG39
import Derived.Test.YtmlkpdeidpcidaaDoorG38
namespace Go.Proofs.YtmlkpdeidpcidaaDoor
open Go.RowKit
set_option linter.unusedVariables false

theorem rLeakS_any (p : Plant) (P : PTL) (most : Int) (w : World) (h : PAt w p P) (hp : mayP p = true) :
    Calls Tryd.prog 44 #[ptval p P, .int .i64 most] w fun e w' => SLPost w (outS p most) e w' := by
  by_cases h0 : 0 ≤ most
  · exact rLeakS_A p P most w (Hid.of h) (Hid.of hp) (Hid.of h0)
  · exact rLeakS_B p P most w (Hid.of h) (Hid.of hp) (Hid.of h0)

end Go.Proofs.YtmlkpdeidpcidaaDoor
namespace Go.Proofs.YtmlkpdeidpcidaaDoor
open Go.RowKit
set_option linter.unusedVariables false

set_option maxRecDepth 100000 in
set_option maxHeartbeats 8000000 in
theorem rwas_go (st : Nat) (ev : Int) (starts : List Int) (ars : List Arr) (ends seen secret : List Int) (a1 : Option Addr) (c1 : Nat) (a2 : Option Addr) (c2 : Nat) (a3 : Option Addr) (c3 : Nat) (sa : Option Addr) (sc : Nat) (ta : Option Addr) (tc : Nat) (ba va : Option Addr) (bc vc : Nat) (before behind : List Int) (w : World) (h : Hid (PAt w ⟨⟨(st : Int), ev, starts, ars, ends⟩, seen, secret⟩ ⟨⟨a1, c1, a2, c2, a3, c3⟩, sa, sc, ta, tc⟩)) (hm : Hid (mayB ⟨(st : Int), ev, starts, ars, ends⟩ = true)) (hb : Hid (At w ba before)) (hbl : Hid (before.length ≤ maxLen)) (hv : Hid (At w va behind)) (hvl : Hid (behind.length ≤ maxLen)) :
    Calls Tryd.prog 43 #[ptval ⟨⟨(st : Int), ev, starts, ars, ends⟩, seen, secret⟩ ⟨⟨a1, c1, a2, c2, a3, c3⟩, sa, sc, ta, tc⟩, .slice ba before.length bc, .slice va behind.length vc] w fun e w' => GivesO w (wasL ⟨⟨(st : Int), ev, starts, ars, ends⟩, seen, secret⟩ before behind) e w' := by
  obtain ⟨j0, ji, jz0, jz1, jz2⟩ := info_parts Tryd.infoInt
  have B : Hid (Below w.heap.size w (w.alloc (.cells (ptcells ⟨⟨(st : Int), ev, starts, ars, ends⟩, seen, secret⟩ ⟨⟨a1, c1, a2, c2, a3, c3⟩, sa, sc, ta, tc⟩) 44))) := (Below.refl _ _).alloc (Nat.le_refl _) _
  have K : Hid (Blk (w.alloc (.cells (ptcells ⟨⟨(st : Int), ev, starts, ars, ends⟩, seen, secret⟩ ⟨⟨a1, c1, a2, c2, a3, c3⟩, sa, sc, ta, tc⟩) 44)) w.heap.size 44 (ptcells ⟨⟨(st : Int), ev, starts, ars, ends⟩, seen, secret⟩ ⟨⟨a1, c1, a2, c2, a3, c3⟩, sa, sc, ta, tc⟩)) := Blk.new w _ _
  go_enter Tryd.func43, Tryd.ntmps43
  obtain ⟨x0, x1, x2, x3, x4, x5, x6⟩ := ptcell_at K.out
  dsimp only at x0 x1 x2 x3 x4 x5 x6
  go_wp2_with fail
  clear x0 x1 x2 x3 x4 x5 x6
  refine (rEst_any ⟨⟨(st : Int), ev, starts, ars, ends⟩, seen, secret⟩ ⟨⟨a1, c1, a2, c2, a3, c3⟩, sa, sc, ta, tc⟩ ba bc before _ (h.out.below B.out (Nat.le_refl _)) hm.out (hb.out.below B.out (Nat.le_refl _)) hbl.out).mono ?_
  rintro e W1 ⟨v1, rfl, o1, hb1⟩
  obtain ⟨ea, ec, rfl, ha1, -, -, -⟩ := o1.at2
  have hel : (estL ⟨⟨(st : Int), ev, starts, ars, ends⟩, seen, secret⟩ before).length ≤ 256 := by
    have h1 := mayB_size hm.out
    unfold sizeOk at h1
    have h2 := est_in (p := ⟨⟨(st : Int), ev, starts, ars, ends⟩, seen, secret⟩) hm.out before
    exact nodup_len 256 _ (inc_nodup h2.1) (fun x hx => by have := h2.2 x hx; dsimp only at this h1; omega)
  obtain ⟨est, HE⟩ : ∃ est, Hid (est = estL ⟨⟨(st : Int), ev, starts, ars, ends⟩, seen, secret⟩ before) := ⟨_, rfl⟩
  rw [← HE.out] at ha1 hel ⊢
  have HA := Hid.of ha1
  have B1 := Hid.of (B.out.trans (hb1.mono B.out.size))
  have K1 := Hid.of (K.out.below hb1 K.out.lt)
  clear o1 hb1 ha1 B K
  go_wp2_with fail
  go_loopw [8, 9] (fun v i wr => ∃ k : Nat, i = .int .i64 k ∧ k ≤ est.length ∧ Hid (Own wr W1.heap.size v ((est.take k).filter (fun s => decide (0 < (fromL ⟨⟨(st : Int), ev, starts, ars, ends⟩, seen, secret⟩ [s] behind).length)))) ∧ Hid (Below W1.heap.size W1 wr)) (fun _ i _ => est.length - (intOf i).toNat)
  case atStart => exact ⟨0, rfl, Nat.zero_le _, own_nil _ _, Below.refl _ _⟩
  case round =>
    obtain ⟨k, rfl, hk, HO, BR⟩ := hrel
    have hlo := BR.out.size
    have BW := Hid.of (B1.out.trans (BR.out.mono B1.out.size))
    have KW := Hid.of (K1.out.below BR.out K1.out.lt)
    by_cases hlt : k < est.length
    · obtain ⟨x, HX⟩ : ∃ x, Hid (est[k]? = some x) := ⟨_, List.getElem?_eq_getElem hlt⟩
      obtain ⟨eb, eo, hea, heb1, cx⟩ := at_get HA.out HX.out
      subst hea
      have heb : eb < wr.heap.size := Nat.lt_of_lt_of_le heb1 hlo
      have CX : Hid (wr.cell? ⟨eb, eo + k, none⟩ = some (.int .i64 x)) := (BR.out.cell (p := ⟨eb, eo + k, none⟩) heb1).trans cx
      have HTK := Hid.of (filter_take (fun s => decide (0 < (fromL ⟨⟨(st : Int), ev, starts, ars, ends⟩, seen, secret⟩ [s] behind).length)) hlt (show Hid (x = est[k]?.getD 0) from by show _ = _; rw [HX.out]; rfl))
      have hln : ((est.take k).filter (fun s => decide (0 < (fromL ⟨⟨(st : Int), ev, starts, ars, ends⟩, seen, secret⟩ [s] behind).length))).length ≤ 256 := Nat.le_trans (List.length_filter_le _ _) (by rw [List.length_take]; omega)
      clear cx
      go_wp2_with fail
      have SA : Hid (∀ W : World, Below wr.heap.size wr W → W.cell? ⟨w.heap.size, 0, none⟩ = some (.int .i64 (st : Int)) ∧ W.cell? ⟨w.heap.size, 1, none⟩ = some (.int .i64 ev) ∧ W.cell? ⟨w.heap.size, 2, none⟩ = some (.slice a1 starts.length c1) ∧ W.cell? ⟨w.heap.size, 3, none⟩ = some (.slice a2 ars.length c2) ∧ W.cell? ⟨w.heap.size, 4, none⟩ = some (.slice a3 ends.length c3) ∧ W.cell? ⟨w.heap.size, 5, none⟩ = some (.slice sa seen.length sc) ∧ W.cell? ⟨w.heap.size, 6, none⟩ = some (.slice ta secret.length tc) ∧ W.cell? ⟨eb, eo + k, none⟩ = some (.int .i64 x)) := fun W hb => by
        obtain ⟨x0, x1, x2, x3, x4, x5, x6⟩ := ptcell_at (KW.out.below hb KW.out.lt)
        exact ⟨x0, x1, x2, x3, x4, x5, x6, (hb.cell (p := ⟨eb, eo + k, none⟩) heb).trans CX.out⟩
      refine wp_region_held_drew (S := fun w' => w'.cell? ⟨w.heap.size, 0, none⟩ = some (.int .i64 (st : Int)) ∧ w'.cell? ⟨w.heap.size, 1, none⟩ = some (.int .i64 ev) ∧ w'.cell? ⟨w.heap.size, 2, none⟩ = some (.slice a1 starts.length c1) ∧ w'.cell? ⟨w.heap.size, 3, none⟩ = some (.slice a2 ars.length c2) ∧ w'.cell? ⟨w.heap.size, 4, none⟩ = some (.slice a3 ends.length c3) ∧ w'.cell? ⟨w.heap.size, 5, none⟩ = some (.slice sa seen.length sc) ∧ w'.cell? ⟨w.heap.size, 6, none⟩ = some (.slice ta secret.length tc) ∧ w'.cell? ⟨eb, eo + k, none⟩ = some (.int .i64 x)) (by kernel_rfl) (SA.out _ (Below.refl _ _).drew) (fun hS => ?_)
      have BF : Hid (Below wr.heap.size wr wr.drew) := (Below.refl _ _).drew
      revert hS BF
      generalize wr.drew = Y0
      intro hS BF
      refine wpAnyH_take (i := 0) (v := ptval ⟨⟨(st : Int), ev, starts, ars, ends⟩, seen, secret⟩ ⟨⟨a1, c1, a2, c2, a3, c3⟩, sa, sc, ta, tc⟩) rfl (by kernel_rfl) (by kernel_rfl) (by kernel_rfl) (fun _ _ _ h => h) (Or.inl ⟨by kernel_rfl, fun w' hw' => by obtain ⟨q0, q1, q2, q3, q4, q5, q6, q7⟩ := hw'; go_simp⟩) hS ?_
      refine wpAnyH_take (i := 1) (v := .slice (some ⟨eb, eo, none⟩) est.length ec) rfl (by kernel_rfl) (by kernel_rfl) (by kernel_rfl) (fun _ _ _ h => h) (Or.inl ⟨by kernel_rfl, fun w' hw' => by obtain ⟨q0, q1, q2, q3, q4, q5, q6, q7⟩ := hw'; go_simp⟩) hS ?_
      refine wpAnyH_take (i := 2) (v := .int .i64 k) rfl (by kernel_rfl) (by kernel_rfl) (by kernel_rfl) (fun _ _ _ h => h) (Or.inl ⟨by kernel_rfl, fun w' hw' => by obtain ⟨q0, q1, q2, q3, q4, q5, q6, q7⟩ := hw'; go_simp⟩) hS ?_
      refine wpAnyH_take (i := 3) (v := .pointer (some ⟨eb, eo + k, none⟩)) rfl (by kernel_rfl) (by kernel_rfl) (by kernel_rfl) (fun _ _ _ h => h) (Or.inl ⟨by kernel_rfl, fun w' hw' => by obtain ⟨q0, q1, q2, q3, q4, q5, q6, q7⟩ := hw'; go_simp⟩) hS ?_
      refine wpAnyH_take (i := 4) (v := .int .i64 x) rfl (by kernel_rfl) (by kernel_rfl) (by kernel_rfl) (fun _ _ _ h => h) (Or.inl ⟨by kernel_rfl, fun w' hw' => by obtain ⟨q0, q1, q2, q3, q4, q5, q6, q7⟩ := hw'; go_simp⟩) hS ?_
      refine wpAnyH_take (i := 6) (v := .slice va behind.length vc) rfl (by kernel_rfl) (by kernel_rfl) (by kernel_rfl) (fun _ _ _ h => h) (Or.inl ⟨by kernel_rfl, fun w' hw' => by obtain ⟨q0, q1, q2, q3, q4, q5, q6, q7⟩ := hw'; go_simp⟩) hS ?_
      simp only [Act.put, List.setIfInBounds_toArray]
      refine wpAnyH_ready (rs := [5]) (by kernel_rfl) (by simp) ?_
      refine AllReadyH.cons rfl (fun K' hK' => ?_) AllReadyH.nil
      go_simp
      have bA : Below Y0.heap.size Y0 (Y0.alloc (.cells #[.int .i64 x] 3)) := (Below.refl _ _).alloc (Nat.le_refl _) _
      have A1 := Hid.of (at_new1 Y0 x)
      replace BF := Hid.of (BF.out.trans (bA.mono BF.out.size))
      refine hK'.out _ _ (SA.out _ BF.out) (fun hS1 => ?_)
      clear hK' K' bA hS
      revert A1 BF hS1
      generalize Y0.alloc (.cells #[.int .i64 x] 3) = Y1
      generalize Y0.heap.size = p1
      intro A1 BF hS1
      refine wpAnyH_ready (rs := [7]) (by kernel_rfl) (by simp) ?_
      refine AllReadyH.cons rfl (fun K' hK' => ?_) AllReadyH.nil
      have B1 := Hid.of (BW.out.trans (BF.out.mono BW.out.size))
      go_simp
      refine (rFrom_any ⟨⟨(st : Int), ev, starts, ars, ends⟩, seen, secret⟩ ⟨⟨a1, c1, a2, c2, a3, c3⟩, sa, sc, ta, tc⟩ (some ⟨p1, 0, none⟩) va 1 vc [x] behind Y1 (h.out.below B1.out (Nat.le_refl _)) hm.out A1.out (by simp) (fun h => by cases h) (hv.out.below B1.out (Nat.le_refl _)) hvl.out).mono ?_
      rintro e W2 ⟨v, rfl, ov, hb⟩
      replace BF := Hid.of (BF.out.trans (hb.mono BF.out.size))
      obtain ⟨fa, fc, hfa, -, -, -⟩ := own_form2 ov
      subst hfa
      refine hK'.out _ _ (SA.out _ BF.out) (fun hS2 => ?_)
      clear hK' K' hb ov hS1 B1 A1
      obtain ⟨fr, HFR⟩ : ∃ fr, Hid (fr = fromL ⟨⟨(st : Int), ev, starts, ars, ends⟩, seen, secret⟩ [x] behind) := ⟨_, rfl⟩
      rw [← HFR.out] at HTK ⊢
      refine wpAnyH_take (i := 8) (v := .slice fa fr.length fc) rfl (by kernel_rfl) (by kernel_rfl) (by kernel_rfl) (fun _ _ _ h => h) (Or.inl ⟨by kernel_rfl, fun w' hw' => by obtain ⟨q0, q1, q2, q3, q4, q5, q6, q7⟩ := hw'; go_simp⟩) hS2 ?_
      refine wpAnyH_done (by kernel_rfl) ?_ _
      clear hS2

      have HO2 : Hid (Own W2 W1.heap.size _ _) := own_same HO.out (fun j hj => BF.out.block j (World.ownsRow.lt HO.out j hj).2)
      have BR2 := Hid.of (BR.out.trans (BF.out.mono hlo))
      have CX2 : W2.cell? ⟨eb, eo + k, none⟩ = some (.int .i64 x) := (BF.out.cell (p := ⟨eb, eo + k, none⟩) heb).trans CX.out
      have hlo2 := BR2.out.size
      clear HO BR CX SA BF BW KW hlo heb
      obtain ⟨ga, gc, hga, -, -, -⟩ := own_form2 HO2.out
      subst hga
      revert HO2 HTK hln
      generalize (est.take k).filter (fun s => decide (0 < (fromL ⟨⟨(st : Int), ev, starts, ars, ends⟩, seen, secret⟩ [s] behind).length)) = cur
      intro hln HTK HO2
      by_cases hp : 0 < fr.length
      · have dp : decide ((0 : Int) < (fr.length : Int)) = true := decide_eq_true (by omega)
        have HT2 : Hid ((est.take (k + 1)).filter (fun s => decide (0 < (fromL ⟨⟨(st : Int), ev, starts, ars, ends⟩, seen, secret⟩ [s] behind).length)) = cur ++ [x]) := by show _ = _; rw [HTK.out, if_pos (decide_eq_true hp)]
        clear HTK
        go_wp2_with (at_builtin; refine wpList_append_block _ rfl (.tmp 31) (.tmp 36) 22 rfl W1.heap.size 3 j0 (.int .i64 0) 1 8 Tryd.underlying22 ji jz0 jz1 jz2 rfl (by decide) _ _ _ rfl (World.ownsRow.alloc HO2.out _) ⟨W2.heap.size, 0, none⟩ 1 1 [.int .i64 x] rfl rfl (cell_one_new _ _ _) (by intro u hu; simp at hu; subst hu; rfl) (by decide) (by unfold maxLen; omega) (by omega) (by simp; omega) ?_)
        intro v9 w9 o9 g9 n9
        obtain ⟨q1, q2, q3⟩ := own_snoc HO2.out (Below.refl _ W2) hlo2 o9 g9
        have Q1 := Hid.of q1
        have Q2 := Hid.of (BR2.out.trans q2)
        clear q1 q2 q3 o9 g9 n9
        go_wp2_with fail
        go_roundw
        case rel => exact ⟨k + 1, by go_num, by omega, (by show Own _ _ _ _; rw [HT2.out]; exact Q1.out), Q2⟩
        case measure => simp [intOf]; omega
      · have dp : decide ((0 : Int) < (fr.length : Int)) = false := decide_eq_false (by omega)
        have HT2 : Hid ((est.take (k + 1)).filter (fun s => decide (0 < (fromL ⟨⟨(st : Int), ev, starts, ars, ends⟩, seen, secret⟩ [s] behind).length)) = cur) := by show _ = _; rw [HTK.out, if_neg (by simpa using hp), List.append_nil]
        clear HTK
        go_wp2_with fail
        all_goals
          go_roundw
          case rel => exact ⟨k + 1, by go_num, by omega, (by show Own _ _ _ _; rw [HT2.out]; exact HO2.out), BR2⟩
          case measure => simp [intOf]; omega
    · have hltD : decide ((k : Int) < (est.length : Int)) = false := by simp; omega
      have HF : Hid ((est.take k).filter (fun s => decide (0 < (fromL ⟨⟨(st : Int), ev, starts, ars, ends⟩, seen, secret⟩ [s] behind).length)) = wasL ⟨⟨(st : Int), ev, starts, ars, ends⟩, seen, secret⟩ before behind) := by show _ = _; rw [List.take_of_length_le (by omega), HE.out]; rfl
      rw [HF.out] at HO
      go_wp2_with fail
      go_ret
      exact ⟨_, rfl, Own.low HO.out (Nat.le_trans (Nat.le_of_lt (Nat.lt_of_le_of_lt (Nat.le_refl _) K1.out.lt)) (Nat.le_refl _)), BW.out⟩

theorem rWas_any (p : Plant) (P : PTL) (ba va : Option Addr) (bc vc : Nat) (before behind : List Int) (w : World) (h : PAt w p P) (hm : mayB p.m = true) (hb : At w ba before) (hbl : before.length ≤ maxLen) (hv : At w va behind) (hvl : behind.length ≤ maxLen) :
    Calls Tryd.prog 43 #[ptval p P, .slice ba before.length bc, .slice va behind.length vc] w fun e w' => GivesO w (wasL p before behind) e w' := by
  have hz := mayB_size hm
  unfold sizeOk at hz
  obtain ⟨⟨st, ev, starts, ars, ends⟩, seen, secret⟩ := p
  obtain ⟨⟨a1, c1, a2, c2, a3, c3⟩, sa, sc, ta, tc⟩ := P
  dsimp only at hz
  obtain ⟨s, rfl⟩ : ∃ s : Nat, st = (s : Int) := ⟨st.toNat, by omega⟩
  exact rwas_go s ev starts ars ends seen secret a1 c1 a2 c2 a3 c3 sa sc ta tc ba va bc vc before behind w (Hid.of h) (Hid.of hm) (Hid.of hb) (Hid.of hbl) (Hid.of hv) (Hid.of hvl)

end Go.Proofs.YtmlkpdeidpcidaaDoor
namespace Go.Proofs.YtmlkpdeidpcidaaDoor
open Go.RowKit
set_option linter.unusedVariables false
set_option maxRecDepth 100000

/-- The first of two that is not 0. -/
def orI2 (x y : Int) : Int := if x = 0 then y else x

set_option maxHeartbeats 1000000 in
theorem or2_any (x y : Int) (b : Nat) (w : World) (h0 : w.cell? ⟨b, 0, none⟩ = some (.int .i64 x)) (h1 : w.cell? ⟨b, 1, none⟩ = some (.int .i64 y)) :
    Calls Tryd.prog 159 #[.slice (some ⟨b, 0, none⟩) 2 2] w fun e w' => e = .returned (.int .i64 (orI2 x y)) ∧ w' = w := by
  by_cases e0 : x = 0
  · subst e0
    by_cases e1 : y = 0
    · subst e1
      go_enter Tryd.func159, Tryd.ntmps159
      go_wp2
      refine wp_loop_rounds 3 ?_
      rw [rounds_succ]
      go_wp2
      rw [rounds_succ]
      go_wp2
      rw [rounds_succ]
      go_wp2
      go_ret
      exact ⟨ret_i64 (by simp [orI2]), rfl⟩
    · have f1 : (y == 0) = false := by simpa using e1
      have f1' : (y != 0) = true := by simpa using e1
      have hr : Hid (y = orI2 0 y) := by show _ = _; simp [orI2]
      go_enter Tryd.func159, Tryd.ntmps159
      go_wp2
      refine wp_loop_rounds 3 ?_
      rw [rounds_succ]
      go_wp2
      rw [rounds_succ]
      go_wp2
      go_ret
      exact ⟨ret_i64 hr.out, rfl⟩
  · have f0 : (x == 0) = false := by simpa using e0
    have f0' : (x != 0) = true := by simpa using e0
    have hr : Hid (x = orI2 x y) := by show _ = _; simp [orI2, e0]
    go_enter Tryd.func159, Tryd.ntmps159
    go_wp2
    refine wp_loop_rounds 3 ?_
    rw [rounds_succ]
    go_wp2
    go_ret
    exact ⟨ret_i64 hr.out, rfl⟩

/-- A pair of lists as it lies in memory: where each lies, how long it is, and how much room it has. -/
structure PrV where
  a : Option Addr
  n : Nat
  c : Nat
  a' : Option Addr
  n' : Nat
  c' : Nat
abbrev prcells (q : PrV) : Array Value := #[.slice q.a q.n q.c, .slice q.a' q.n' q.c']
abbrev prval (q : PrV) : Value := .agg (prcells q)
def cmpP (p q : PrV) : Int := orI2 (cmpI ((p.n : Int) + (p.n' : Int)) ((q.n : Int) + (q.n' : Int))) (cmpI (p.n' : Int) (q.n' : Int))
theorem cmpP_le (p q : PrV) : decide (cmpP p q ≤ 0) = decide (p.n + p.n' < q.n + q.n' ∨ (p.n + p.n' = q.n + q.n' ∧ p.n' ≤ q.n')) := by
  rw [decide_eq_decide]
  unfold cmpP orI2 cmpI
  split <;> (repeat' split at *) <;> constructor <;> intro h <;> first | omega | (exfalso; omega)

set_option maxHeartbeats 4000000 in
theorem scompare_any (p q : PrV) (w : World) (h1 : p.n ≤ 64) (h2 : p.n' ≤ 64) (h3 : q.n ≤ 64) (h4 : q.n' ≤ 64) :
    Calls Tryd.prog 140 #[prval p, prval q] w fun e w' => e = .returned (.int .i64 (cmpP p q)) ∧ Below w.heap.size w w' := by
  obtain ⟨pa, pn, pc, pa', pn', pc'⟩ := p
  obtain ⟨qa, qn, qc, qa', qn', qc'⟩ := q
  dsimp only at h1 h2 h3 h4
  have k1 : Blk ((w.alloc (.cells (prcells ⟨pa, pn, pc, pa', pn', pc'⟩) 129)).alloc (.cells (prcells ⟨qa, qn, qc, qa', qn', qc'⟩) 129)) w.heap.size 129 (prcells ⟨pa, pn, pc, pa', pn', pc'⟩) := (Blk.new w _ _).alloc _
  have k2 : Blk ((w.alloc (.cells (prcells ⟨pa, pn, pc, pa', pn', pc'⟩) 129)).alloc (.cells (prcells ⟨qa, qn, qc, qa', qn', qc'⟩) 129)) (w.heap.size + 1) 129 (prcells ⟨qa, qn, qc, qa', qn', qc'⟩) := by
    have := Blk.new (w.alloc (.cells (prcells ⟨pa, pn, pc, pa', pn', pc'⟩) 129)) 129 (prcells ⟨qa, qn, qc, qa', qn', qc'⟩)
    rwa [World.size_alloc] at this
  have hB : Below w.heap.size w ((w.alloc (.cells (prcells ⟨pa, pn, pc, pa', pn', pc'⟩) 129)).alloc (.cells (prcells ⟨qa, qn, qc, qa', qn', qc'⟩) 129)) := ((Below.refl _ _).alloc (Nat.le_refl _) _).alloc (by simp) _
  have hsz : ((w.alloc (.cells (prcells ⟨pa, pn, pc, pa', pn', pc'⟩) 129)).alloc (.cells (prcells ⟨qa, qn, qc, qa', qn', qc'⟩) 129)).heap.size = w.heap.size + 2 := by simp
  have K1 := Hid.of k1
  have K2 := Hid.of k2
  have HB := Hid.of hB
  have HS := Hid.of hsz
  clear k1 k2 hB hsz
  have hw1 : IntKind.i64.wrap ((pn : Int) + (pn' : Int)) = (pn : Int) + (pn' : Int) := by rw [IntKind.wrap_i64]; omega
  have hw2 : IntKind.i64.wrap ((qn : Int) + (qn' : Int)) = (qn : Int) + (qn' : Int) := by rw [IntKind.wrap_i64]; omega
  go_enter Tryd.func140, Tryd.ntmps140
  go_wp2
  revert K1 K2 HB HS
  generalize (w.alloc (.cells (prcells ⟨pa, pn, pc, pa', pn', pc'⟩) 129)).alloc (.cells (prcells ⟨qa, qn, qc, qa', qn', qc'⟩) 129) = V
  intro K1 K2 HB HS
  have a0 : V.cell? ⟨w.heap.size, 0, none⟩ = some (.slice pa pn pc) := K1.out.cell 0 rfl
  have a1 : V.cell? ⟨w.heap.size, 1, none⟩ = some (.slice pa' pn' pc') := K1.out.cell 1 rfl
  have b0 : V.cell? ⟨w.heap.size + 1, 0, none⟩ = some (.slice qa qn qc) := K2.out.cell 0 rfl
  have b1 : V.cell? ⟨w.heap.size + 1, 1, none⟩ = some (.slice qa' qn' qc') := K2.out.cell 1 rfl
  have hs := HS.out
  have hn1 : w.heap.size < V.heap.size := by omega
  have hn2 : w.heap.size + 1 < V.heap.size := by omega
  have n1 := World.new_ne V _ a0
  have n2 := World.new_ne V _ b0
  go_region_held3 (fun w' => w'.cell? ⟨w.heap.size, 0, none⟩ = some (.slice pa pn pc) ∧ w'.cell? ⟨w.heap.size, 1, none⟩ = some (.slice pa' pn' pc') ∧ w'.cell? ⟨w.heap.size + 1, 0, none⟩ = some (.slice qa qn qc) ∧ w'.cell? ⟨w.heap.size + 1, 1, none⟩ = some (.slice qa' qn' qc')) (go_keep) (first | (go_at_call 160; refine (cmp_any _ _ _).mono ?_; rintro e w1 ⟨rfl, rfl⟩) | (go_at_call 159; refine (or2_any (cmpI ((pn : Int) + (pn' : Int)) ((qn : Int) + (qn' : Int))) (cmpI (pn' : Int) (qn' : Int)) _ _ (by go_simp) (by go_simp)).mono ?_; rintro e w1 ⟨rfl, rfl⟩))
  go_wp2
  go_ret
  exact ⟨rfl, (HB.out.alloc HB.out.size _).drew⟩

end Go.Proofs.YtmlkpdeidpcidaaDoor
namespace Go.Proofs.YtmlkpdeidpcidaaDoor
open Go.RowKit
set_option linter.unusedVariables false

set_option maxRecDepth 100000 in
set_option maxHeartbeats 2000000 in
theorem upTo1_any (qs : Nat → Nat) (za : Option Addr) (zc : Nat) (qw : List Int) (most : Int) (pm : Nat) (w : World) (hm : w.cell? ⟨pm, 0, none⟩ = some (.int .i64 most)) :
    Calls Tryd.prog 141 #[pcval ⟨qs, .slice za qw.length zc, qw⟩, .pointer (some ⟨pm, 0, none⟩)] w fun e w' => e = .returned (.bool (decide (most < (qw.length : Int)))) ∧ Below w.heap.size w w' := by
  have B : Hid (Below w.heap.size w (w.alloc (.cells (pcarr ⟨qs, .slice za qw.length zc, qw⟩) 115))) := (Below.refl _ _).alloc (Nat.le_refl _) _
  have KQ : Hid (Blk (w.alloc (.cells (pcarr ⟨qs, .slice za qw.length zc, qw⟩) 115)) w.heap.size 115 (pcarr ⟨qs, .slice za qw.length zc, qw⟩)) := Blk.new w _ _
  have hm2 : (w.alloc (.cells (pcarr ⟨qs, .slice za qw.length zc, qw⟩) 115)).cell? ⟨pm, 0, none⟩ = some (.int .i64 most) := (World.cell?_alloc_some w _ _ (by rw [hm]; rfl)).trans hm
  obtain ⟨n0, n1, n2, n3, n4⟩ := PCk.cells KQ.out
  go_enter Tryd.func141, Tryd.ntmps141
  go_wp2_with fail
  go_ret
  exact ⟨rfl, B.out⟩

set_option maxRecDepth 100000 in
set_option maxHeartbeats 4000000 in
theorem first1_any (b : PlC) (qs : Nat → Nat) (za : Option Addr) (zc : Nat) (qw : List Int) (R : Nat → Nat) (ob : okS b.s) (oq : okS qs) (oR : okS R) (pb pr : Nat) (w : World) (hb : Hid (Blk w pb 115 (pcarr b))) (hr : Hid (SB w pr R)) :
    Calls Tryd.prog 139 #[pcval ⟨qs, .slice za qw.length zc, qw⟩, .pointer (some ⟨pb, 0, none⟩), .pointer (some ⟨pr, 0, none⟩)] w fun e w' => e = .returned (.bool (onlyS (meetS b.s qs) R)) ∧ Below w.heap.size w w' := by
  have B : Hid (Below w.heap.size w (w.alloc (.cells (pcarr ⟨qs, .slice za qw.length zc, qw⟩) 115))) := (Below.refl _ _).alloc (Nat.le_refl _) _
  have KQ : Hid (Blk (w.alloc (.cells (pcarr ⟨qs, .slice za qw.length zc, qw⟩) 115)) w.heap.size 115 (pcarr ⟨qs, .slice za qw.length zc, qw⟩)) := Blk.new w _ _
  have SA : Hid (∀ W, Below w.heap.size w W → Blk W w.heap.size 115 (pcarr ⟨qs, .slice za qw.length zc, qw⟩) → W.cell? ⟨pb, 0, none⟩ = some (.int .u64 (b.s 0)) ∧ W.cell? ⟨pb, 1, none⟩ = some (.int .u64 (b.s 1)) ∧ W.cell? ⟨pb, 2, none⟩ = some (.int .u64 (b.s 2)) ∧ W.cell? ⟨pb, 3, none⟩ = some (.int .u64 (b.s 3)) ∧ W.cell? ⟨w.heap.size, 0, none⟩ = some (.int .u64 (qs 0)) ∧ W.cell? ⟨w.heap.size, 1, none⟩ = some (.int .u64 (qs 1)) ∧ W.cell? ⟨w.heap.size, 2, none⟩ = some (.int .u64 (qs 2)) ∧ W.cell? ⟨w.heap.size, 3, none⟩ = some (.int .u64 (qs 3)) ∧ W.cell? ⟨pr, 0, none⟩ = some (.int .u64 (R 0)) ∧ W.cell? ⟨pr, 1, none⟩ = some (.int .u64 (R 1)) ∧ W.cell? ⟨pr, 2, none⟩ = some (.int .u64 (R 2)) ∧ W.cell? ⟨pr, 3, none⟩ = some (.int .u64 (R 3))) := fun W h1 h2 => by
    obtain ⟨x0, x1, x2, x3, -⟩ := PCk.cells (hb.out.below h1 hb.out.lt)
    obtain ⟨n0, n1, n2, n3, -⟩ := PCk.cells h2
    obtain ⟨y0, y1, y2, y3⟩ := SB.cells (hr.out.below h1 hr.out.lt)
    exact ⟨x0, x1, x2, x3, n0, n1, n2, n3, y0, y1, y2, y3⟩
  go_enter Tryd.func139, Tryd.ntmps139
  go_wp2_with fail
  revert B KQ
  generalize w.alloc (.cells (pcarr ⟨qs, .slice za qw.length zc, qw⟩) 115) = V0
  intro B KQ
  refine wp_region_held_drew (S := fun w' => w'.cell? ⟨pb, 0, none⟩ = some (.int .u64 (b.s 0)) ∧ w'.cell? ⟨pb, 1, none⟩ = some (.int .u64 (b.s 1)) ∧ w'.cell? ⟨pb, 2, none⟩ = some (.int .u64 (b.s 2)) ∧ w'.cell? ⟨pb, 3, none⟩ = some (.int .u64 (b.s 3)) ∧ w'.cell? ⟨w.heap.size, 0, none⟩ = some (.int .u64 (qs 0)) ∧ w'.cell? ⟨w.heap.size, 1, none⟩ = some (.int .u64 (qs 1)) ∧ w'.cell? ⟨w.heap.size, 2, none⟩ = some (.int .u64 (qs 2)) ∧ w'.cell? ⟨w.heap.size, 3, none⟩ = some (.int .u64 (qs 3)) ∧ w'.cell? ⟨pr, 0, none⟩ = some (.int .u64 (R 0)) ∧ w'.cell? ⟨pr, 1, none⟩ = some (.int .u64 (R 1)) ∧ w'.cell? ⟨pr, 2, none⟩ = some (.int .u64 (R 2)) ∧ w'.cell? ⟨pr, 3, none⟩ = some (.int .u64 (R 3))) (by kernel_rfl) (SA.out _ B.out.drew (Blk.drew KQ.out)) (fun hS => ?_)
  replace B : Hid (Below w.heap.size w V0.drew) := B.out.drew
  replace KQ : Hid (Blk V0.drew w.heap.size 115 (pcarr ⟨qs, .slice za qw.length zc, qw⟩)) := Blk.drew KQ.out
  revert hS B KQ
  generalize V0.drew = Y0
  intro hS B KQ
  refine wpAnyH_take (i := 0) (v := .pointer (some ⟨pb, 0, none⟩)) rfl (by kernel_rfl) (by kernel_rfl) (by kernel_rfl) (fun _ _ _ h => h) (Or.inl ⟨by kernel_rfl, fun w' hw' => by obtain ⟨q0, q1, q2, q3, q4, q5, q6, q7, q8, q9, q10, q11⟩ := hw'; go_simp⟩) hS ?_
  refine wpAnyH_take (i := 1) (v := sval b.s) rfl (by kernel_rfl) (by kernel_rfl) (by kernel_rfl) (fun _ _ _ h => h) (Or.inl ⟨by kernel_rfl, fun w' hw' => by obtain ⟨q0, q1, q2, q3, q4, q5, q6, q7, q8, q9, q10, q11⟩ := hw'; go_simp⟩) hS ?_
  refine wpAnyH_take (i := 2) (v := .pointer (some ⟨w.heap.size, 0, none⟩)) rfl (by kernel_rfl) (by kernel_rfl) (by kernel_rfl) (fun _ _ _ h => h) (Or.inl ⟨by kernel_rfl, fun w' hw' => by obtain ⟨q0, q1, q2, q3, q4, q5, q6, q7, q8, q9, q10, q11⟩ := hw'; go_simp⟩) hS ?_
  refine wpAnyH_take (i := 3) (v := sval qs) rfl (by kernel_rfl) (by kernel_rfl) (by kernel_rfl) (fun _ _ _ h => h) (Or.inl ⟨by kernel_rfl, fun w' hw' => by obtain ⟨q0, q1, q2, q3, q4, q5, q6, q7, q8, q9, q10, q11⟩ := hw'; go_simp⟩) hS ?_
  refine wpAnyH_take (i := 5) (v := sval R) rfl (by kernel_rfl) (by kernel_rfl) (by kernel_rfl) (fun _ _ _ h => h) (Or.inl ⟨by kernel_rfl, fun w' hw' => by obtain ⟨q0, q1, q2, q3, q4, q5, q6, q7, q8, q9, q10, q11⟩ := hw'; go_simp⟩) hS ?_
  simp only [Act.put, List.setIfInBounds_toArray]
  refine wpAnyH_ready (rs := [4]) (by kernel_rfl) (by simp) ?_
  refine AllReadyH.cons rfl (fun K' hK' => ?_) AllReadyH.nil
  clear hS
  go_simp
  refine (meet_any b.s qs _ ob oq).mono ?_
  rintro e Y1 ⟨rfl, hb⟩
  replace B := Hid.of (B.out.trans (hb.mono B.out.size))
  replace KQ := Hid.of (KQ.out.below hb KQ.out.lt)
  refine hK'.out _ _ (SA.out _ B.out KQ.out) (fun hS => ?_)
  clear hK' K' hb
  refine wpAnyH_ready (rs := [6]) (by kernel_rfl) (by simp) ?_
  refine AllReadyH.cons rfl (fun K' hK' => ?_) AllReadyH.nil
  clear hS
  go_simp
  refine (onlyIn_any (meetS b.s qs) R (okS_meet ob) oR _).mono ?_
  rintro e Y2 ⟨rfl, hb⟩
  replace B := Hid.of (B.out.trans (hb.mono B.out.size))
  replace KQ := Hid.of (KQ.out.below hb KQ.out.lt)
  refine hK'.out _ _ (SA.out _ B.out KQ.out) (fun hS => ?_)
  clear hK' K' hb
  refine wpAnyH_take (i := 7) (v := .bool (onlyS (meetS b.s qs) R)) rfl (by kernel_rfl) (by kernel_rfl) (by kernel_rfl) (fun _ _ _ h => h) (Or.inl ⟨by kernel_rfl, fun w' hw' => by obtain ⟨q0, q1, q2, q3, q4, q5, q6, q7, q8, q9, q10, q11⟩ := hw'; go_simp⟩) hS ?_
  refine wpAnyH_done (by kernel_rfl) ?_ _
  clear hS
  go_wp2_with fail
  exact bodyPost_ret (v := .bool (onlyS (meetS b.s qs) R)) (by simp [results, go_sem]) rfl ⟨rfl, B.out⟩

/-- Is a place's list too long? -/
def longP (most : Int) (q : PlC) : Bool := decide (most < (q.word.length : Int))
/-- Does a place tell, with another one? -/
def tellsP (s R : Nat → Nat) (q : PlC) : Bool := onlyS (meetS s q.s) R

set_option maxRecDepth 100000 in
set_option maxHeartbeats 4000000 in
theorem idxU_any (L : List PlC) (a : Option Addr) (cap : Nat) (most : Int) (pm : Nat) (w : World) (hll : L.length ≤ 64) (hrd : Hid (RdC w a L)) (hin : Hid (∀ q ∈ L, InnW 0 w q.v q.word)) (hm : Hid (w.cell? ⟨pm, 0, none⟩ = some (.int .i64 most))) (hpm : pm < w.heap.size) :
    Calls Tryd.prog 138 #[.slice a L.length cap, .func (.func 141) #[] #[.pointer (some ⟨pm, 0, none⟩)]] w fun e w' => ∃ r : Int, e = .returned (.int .i64 r) ∧ IdxR (longP most) L r ∧ Below w.heap.size w w' := by
  go_enter Tryd.func138, Tryd.ntmps138
  go_wp2_with fail
  go_loopw [8] (fun i wr => ∃ k : Nat, i = .int .i64 k ∧ k ≤ L.length ∧ Hid (Below w.heap.size w wr) ∧ Hid (noneP (longP most) L k)) (fun i _ => L.length - (intOf i).toNat)
  case atStart => exact ⟨0, rfl, Nat.zero_le _, Below.refl _ _, noneP_zero _ _⟩
  case round =>
    obtain ⟨k, rfl, hk, HB, HN⟩ := hrel
    by_cases hlt : k < L.length
    · obtain ⟨q, HQ⟩ : ∃ q, Hid (L[k]? = some q) := ⟨_, List.getElem?_eq_getElem hlt⟩
      obtain ⟨za, zc, hzv, -, -, -⟩ := (hin.out q (List.mem_of_getElem? HQ.out)).at
      rcases hrd.out with h0 | ⟨g, o, hra, hg, hc⟩
      · rw [h0] at hlt; simp at hlt
      subst hra
      obtain ⟨qs, qv, qw⟩ := q
      dsimp only at hzv
      subst hzv
      obtain ⟨d0, d1, d2, d3, d4⟩ := rdc_cells (hc k _ HQ.out)
      have c0 := (HB.out.cell (p := ⟨g, o + k * 5, none⟩) hg).trans d0
      have c1 := (HB.out.cell (p := ⟨g, o + k * 5 + 1, none⟩) hg).trans d1
      have c2 := (HB.out.cell (p := ⟨g, o + k * 5 + 2, none⟩) hg).trans d2
      have c3 := (HB.out.cell (p := ⟨g, o + k * 5 + 3, none⟩) hg).trans d3
      have c4 := (HB.out.cell (p := ⟨g, o + k * 5 + 4, none⟩) hg).trans d4
      dsimp only at c0 c1 c2 c3 c4
      have hltI : (k : Int) < (L.length : Int) := by omega
      clear hc d0 d1 d2 d3 d4
      obtain ⟨bv, HBV⟩ : ∃ bv, Hid (bv = (longP most) ⟨qs, .slice za qw.length zc, qw⟩) := ⟨_, rfl⟩
      have CALL : Hid (Calls Tryd.prog 141 #[pcval ⟨qs, .slice za qw.length zc, qw⟩, .pointer (some ⟨pm, 0, none⟩)] wr fun e w' => e = .returned (.bool bv) ∧ Below wr.heap.size wr w') := by
        rw [HBV.out]; exact upTo1_any qs za zc qw most pm wr ((HB.out.cell (p := ⟨pm, 0, none⟩) hpm).trans hm.out)
      go_wp2_with fail
      clear c0 c1 c2 c3 c4 hltI
      refine CALL.out.mono ?_
      rintro e W1 ⟨rfl, hb⟩
      have B1 := Hid.of (HB.out.trans (hb.mono HB.out.size))
      clear hb CALL
      cases bv with
      | true =>
        go_wp2_with fail
        refine bodyPost_ret (v := .int .i64 k) (by simp [results, go_sem]) rfl ?_
        exact ⟨_, rfl, .inr ⟨k, _, rfl, HQ.out, HBV.out.symm, HN.out⟩, B1.out⟩
      | false =>
        have HN2 : Hid (noneP (longP most) L (k + 1)) := noneP_succ HN.out HQ.out HBV.out.symm
        go_wp2_with fail
        go_roundw
        case rel => exact ⟨k + 1, by go_num, by omega, B1, HN2⟩
        case measure => simp [intOf]; omega
    · have hkl : k = L.length := by omega
      subst hkl
      clear hlt
      go_wp2_with fail
      refine bodyPost_ret (v := .int .i64 (-1)) (by simp [results, go_sem]) rfl ?_
      exact ⟨_, rfl, .inl ⟨rfl, noneP_all HN.out (Nat.le_refl _)⟩, HB.out⟩

set_option maxRecDepth 100000 in
set_option maxHeartbeats 4000000 in
theorem idxF_any (L : List PlC) (a : Option Addr) (cap : Nat) (b : PlC) (R : Nat → Nat) (ob : okS b.s) (oR : okS R) (pb pr : Nat) (w : World) (hll : L.length ≤ 64) (hrd : Hid (RdC w a L)) (hin : Hid (∀ q ∈ L, InnW 0 w q.v q.word)) (hok : Hid (∀ q ∈ L, okS q.s)) (hpb : Hid (Blk w pb 115 (pcarr b))) (hpr : Hid (SB w pr R)) :
    Calls Tryd.prog 138 #[.slice a L.length cap, .func (.func 139) #[] #[.pointer (some ⟨pb, 0, none⟩), .pointer (some ⟨pr, 0, none⟩)]] w fun e w' => ∃ r : Int, e = .returned (.int .i64 r) ∧ IdxR (tellsP b.s R) L r ∧ Below w.heap.size w w' := by
  go_enter Tryd.func138, Tryd.ntmps138
  go_wp2_with fail
  go_loopw [8] (fun i wr => ∃ k : Nat, i = .int .i64 k ∧ k ≤ L.length ∧ Hid (Below w.heap.size w wr) ∧ Hid (noneP (tellsP b.s R) L k)) (fun i _ => L.length - (intOf i).toNat)
  case atStart => exact ⟨0, rfl, Nat.zero_le _, Below.refl _ _, noneP_zero _ _⟩
  case round =>
    obtain ⟨k, rfl, hk, HB, HN⟩ := hrel
    by_cases hlt : k < L.length
    · obtain ⟨q, HQ⟩ : ∃ q, Hid (L[k]? = some q) := ⟨_, List.getElem?_eq_getElem hlt⟩
      obtain ⟨za, zc, hzv, -, -, -⟩ := (hin.out q (List.mem_of_getElem? HQ.out)).at
      have OQ := Hid.of (hok.out q (List.mem_of_getElem? HQ.out))
      rcases hrd.out with h0 | ⟨g, o, hra, hg, hc⟩
      · rw [h0] at hlt; simp at hlt
      subst hra
      obtain ⟨qs, qv, qw⟩ := q
      dsimp only at hzv
      subst hzv
      obtain ⟨d0, d1, d2, d3, d4⟩ := rdc_cells (hc k _ HQ.out)
      have c0 := (HB.out.cell (p := ⟨g, o + k * 5, none⟩) hg).trans d0
      have c1 := (HB.out.cell (p := ⟨g, o + k * 5 + 1, none⟩) hg).trans d1
      have c2 := (HB.out.cell (p := ⟨g, o + k * 5 + 2, none⟩) hg).trans d2
      have c3 := (HB.out.cell (p := ⟨g, o + k * 5 + 3, none⟩) hg).trans d3
      have c4 := (HB.out.cell (p := ⟨g, o + k * 5 + 4, none⟩) hg).trans d4
      dsimp only at c0 c1 c2 c3 c4
      have hltI : (k : Int) < (L.length : Int) := by omega
      clear hc d0 d1 d2 d3 d4
      obtain ⟨bv, HBV⟩ : ∃ bv, Hid (bv = (tellsP b.s R) ⟨qs, .slice za qw.length zc, qw⟩) := ⟨_, rfl⟩
      have CALL : Hid (Calls Tryd.prog 139 #[pcval ⟨qs, .slice za qw.length zc, qw⟩, .pointer (some ⟨pb, 0, none⟩), .pointer (some ⟨pr, 0, none⟩)] wr fun e w' => e = .returned (.bool bv) ∧ Below wr.heap.size wr w') := by
        rw [HBV.out]; exact first1_any b qs za zc qw R ob OQ.out oR pb pr wr (Hid.of (hpb.out.below HB.out hpb.out.lt)) (Hid.of (hpr.out.below HB.out hpr.out.lt))
      go_wp2_with fail
      clear c0 c1 c2 c3 c4 hltI
      refine CALL.out.mono ?_
      rintro e W1 ⟨rfl, hb⟩
      have B1 := Hid.of (HB.out.trans (hb.mono HB.out.size))
      clear hb CALL
      cases bv with
      | true =>
        go_wp2_with fail
        refine bodyPost_ret (v := .int .i64 k) (by simp [results, go_sem]) rfl ?_
        exact ⟨_, rfl, .inr ⟨k, _, rfl, HQ.out, HBV.out.symm, HN.out⟩, B1.out⟩
      | false =>
        have HN2 : Hid (noneP (tellsP b.s R) L (k + 1)) := noneP_succ HN.out HQ.out HBV.out.symm
        go_wp2_with fail
        go_roundw
        case rel => exact ⟨k + 1, by go_num, by omega, B1, HN2⟩
        case measure => simp [intOf]; omega
    · have hkl : k = L.length := by omega
      subst hkl
      clear hlt
      go_wp2_with fail
      refine bodyPost_ret (v := .int .i64 (-1)) (by simp [results, go_sem]) rfl ?_
      exact ⟨_, rfl, .inl ⟨rfl, noneP_all HN.out (Nat.le_refl _)⟩, HB.out⟩

end Go.Proofs.YtmlkpdeidpcidaaDoor
