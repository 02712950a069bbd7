/-
  The walk of determine.Make.
  What Hide leaves, the program's and the reference's.
  What least.refuse tells; what least.Least leaves where it refuses; what is folded is the least machine.
  The walk of least.Least.
-/
import Derived.Test.YtkkkacmccndinaaDoorG32
import Derived.Test.YtkkkacmccndinaaDoorG13
import Derived.Test.YtkkkacmccndinaaDoorG07
import Derived.Test.YtkkkacmccndinaaDoorG19
import Derived.Test.YtkkkacmccndinaaDoorG31
import Derived.Test.YtkkkacmccndinaaDoorG08
import Derived.Test.YtkkkacmccndinaaDoorG27
import Derived.Test.YtkkkacmccndinaaDoorG11
namespace Go.Proofs.YtkkkacmccndinaaDoor
open Go.RowKit
set_option linter.unusedVariables false

set_option maxRecDepth 100000 in
set_option maxHeartbeats 4000000 in
theorem dmake_err (m : Mach) (l : ML) (w : World) (h : Hid (MAt w m l)) (hm : Hid (mayB m = false)) :
    Calls Tryd.prog 30 #[mval m l] w fun e w' => MakePost w m e w' := by
  have B0 : Hid (Below w.heap.size w ((w.alloc (.cells (mcells m l) 25)).alloc (.cells zcells 25))) := ((Below.refl _ _).alloc (Nat.le_refl _) _).alloc (by simp) _
  have R0 : Hid (Blk ((w.alloc (.cells (mcells m l) 25)).alloc (.cells zcells 25)) (w.heap.size + 1) 25 zcells) := by
    have := Blk.new (w.alloc (.cells (mcells m l) 25)) 25 zcells
    rwa [World.size_alloc] at this
  go_enter Tryd.func30, Tryd.ntmps30
  go_wp2_with fail
  revert B0 R0
  generalize (w.alloc (.cells (mcells m l) 25)).alloc (.cells zcells 25) = V0
  intro B0 R0
  refine (pMay_any m l _ (h.out.below B0.out (Nat.le_refl _))).mono ?_
  rintro e V ⟨rfl, hb1⟩
  rw [hm.out]
  have B1 := Hid.of (B0.out.trans (hb1.mono B0.out.size))
  have R1 := Hid.of (R0.out.below hb1 R0.out.lt)
  clear hb1 B0 R0
  obtain ⟨r0, r1, r2, r3, r4⟩ := zcell_at R1.out
  have rz := R1.out.frozen
  have RR : Hid (Blk _ (w.heap.size + 1) 25 (mcells m0 ml0)) := R1.out.set5 (.int .i64 0) (.int .i64 0) (.slice none 0 0) (.slice none 0 0) (.slice none 0 0)
  go_wp2
  refine bodyPost_ret (v := .tuple #[mval m0 ml0, .slice none 0 0, .int .i64 2]) ?_ rfl (makePost_err (detOut_bad hm.out) (below_set5 B1.out (b' := w.heap.size + 1) (by omega) _ _ _ _ _))
  exact results_three (p := 2) (u := 3) (v := 4) rfl _ _ (w.heap.size + 1) m0 ml0 _ _ rfl rfl rfl RR.out

theorem at_oneD (W : World) (x : Int) : At (W.alloc (.cells #[.int .i64 x] 3)) (some ⟨W.heap.size, 0, none⟩) [x] := by
  refine .inr ⟨W.heap.size, 0, rfl, by simp, fun j hj => ?_⟩
  have hj : j = 0 := by simp at hj; exact hj
  subst hj
  exact (Blk.new W 3 #[.int .i64 x]).cell 0 rfl

theorem make_some {st ev : Nat} {starts : List Int} {ars : List Arr} {ends : List Int} {s : DS} {SL : List (Nat → Nat)} (h : RepL SL s.sets) (hr : Rep (ofS ends) ends) : detM ⟨(st : Int), (ev : Int), starts, ars, ends⟩ s = ⟨(SL.length : Int), (ev : Int), [0], s.ar, meetFrom (ofS ends) 0 SL⟩ := by
  unfold detM endsD
  rw [h.len, meet_ends hr 0 h]

set_option maxRecDepth 100000 in
set_option maxHeartbeats 8000000 in
theorem dmake_ok (st ev : Nat) (starts : List Int) (ars : List Arr) (ends : List Int) (a1 : Option Addr) (c1 : Nat) (a2 : Option Addr) (c2 : Nat) (a3 : Option Addr) (c3 : Nat) (w : World) (h : Hid (MAt w ⟨(st : Int), (ev : Int), starts, ars, ends⟩ ⟨a1, c1, a2, c2, a3, c3⟩)) (hm : Hid (mayB ⟨(st : Int), (ev : Int), starts, ars, ends⟩ = true)) (hT : Hid (Tab w)) :
    Calls Tryd.prog 30 #[mval ⟨(st : Int), (ev : Int), starts, ars, ends⟩ ⟨a1, c1, a2, c2, a3, c3⟩] w fun e w' => MakePost w ⟨(st : Int), (ev : Int), starts, ars, ends⟩ e w' := by
  have hz := mayB_size hm.out
  unfold sizeOk at hz
  dsimp only at hz
  have hst : st ≤ 256 := by omega
  have hev : ev ≤ 8 := by omega
  have hlen : Hid (ars.length ≤ 4096) := show _ ≤ _ by omega
  clear hz
  have hsl : Hid (starts.length ≤ maxLen) := Nat.le_trans h.out.s1 h.out.s2
  have hel : Hid (ends.length ≤ maxLen) := Nat.le_trans h.out.e1 h.out.e2
  have hsb : Hid (∀ x ∈ starts, 0 ≤ x ∧ x < 256) := fun x hx => by have := (may_starts hm.out).2 x hx; dsimp only at this; omega
  have heb : Hid (∀ x ∈ ends, 0 ≤ x ∧ x < 256) := fun x hx => by have := (may_ends hm.out).2 x hx; dsimp only at this; omega
  have hrs : Hid (Rep (ofS starts) starts) := by
    have := rep_of hsb.out starts.length
    rwa [List.take_of_length_le (Nat.le_refl _)] at this
  have hre : Hid (Rep (ofS ends) ends) := by
    have := rep_of heb.out ends.length
    rwa [List.take_of_length_le (Nat.le_refl _)] at this
  have B0 : Hid (Below w.heap.size w ((w.alloc (.cells (mcells ⟨(st : Int), (ev : Int), starts, ars, ends⟩ ⟨a1, c1, a2, c2, a3, c3⟩) 25)).alloc (.cells zcells 25))) := ((Below.refl _ _).alloc (Nat.le_refl _) _).alloc (by simp) _
  have K0 : Hid (Blk ((w.alloc (.cells (mcells ⟨(st : Int), (ev : Int), starts, ars, ends⟩ ⟨a1, c1, a2, c2, a3, c3⟩) 25)).alloc (.cells zcells 25)) w.heap.size 25 (mcells ⟨(st : Int), (ev : Int), starts, ars, ends⟩ ⟨a1, c1, a2, c2, a3, c3⟩)) := (Blk.new w _ _).alloc _
  have R0 : Hid (Blk ((w.alloc (.cells (mcells ⟨(st : Int), (ev : Int), starts, ars, ends⟩ ⟨a1, c1, a2, c2, a3, c3⟩) 25)).alloc (.cells zcells 25)) (w.heap.size + 1) 25 zcells) := by
    have := Blk.new (w.alloc (.cells (mcells ⟨(st : Int), (ev : Int), starts, ars, ends⟩ ⟨a1, c1, a2, c2, a3, c3⟩) 25)) 25 zcells
    rwa [World.size_alloc] at this
  go_enter Tryd.func30, Tryd.ntmps30
  go_wp2_with fail
  revert B0 K0 R0
  generalize (w.alloc (.cells (mcells ⟨(st : Int), (ev : Int), starts, ars, ends⟩ ⟨a1, c1, a2, c2, a3, c3⟩) 25)).alloc (.cells zcells 25) = V0
  intro B0 K0 R0
  refine (pMay_any ⟨(st : Int), (ev : Int), starts, ars, ends⟩ ⟨a1, c1, a2, c2, a3, c3⟩ _ (h.out.below B0.out (Nat.le_refl _))).mono ?_
  rintro e V ⟨rfl, hb1⟩
  rw [hm.out]
  have B1 : Hid (Below w.heap.size w V.drew) := (B0.out.trans (hb1.mono B0.out.size)).drew
  have K1 : Hid (Blk V.drew w.heap.size 25 (mcells ⟨(st : Int), (ev : Int), starts, ars, ends⟩ ⟨a1, c1, a2, c2, a3, c3⟩)) := Blk.drew (K0.out.below hb1 K0.out.lt)
  have R1 : Hid (Blk V.drew (w.heap.size + 1) 25 zcells) := Blk.drew (R0.out.below hb1 R0.out.lt)
  clear hb1 B0 K0 R0
  go_wp2
  refine wp_region_held_drew (S := fun w' => w'.cell? ⟨w.heap.size, 0, none⟩ = some (.int .i64 st) ∧ w'.cell? ⟨w.heap.size, 1, none⟩ = some (.int .i64 ev) ∧ w'.cell? ⟨w.heap.size, 2, none⟩ = some (.slice a1 starts.length c1) ∧ w'.cell? ⟨w.heap.size, 3, none⟩ = some (.slice a2 ars.length c2) ∧ w'.cell? ⟨w.heap.size, 4, none⟩ = some (.slice a3 ends.length c3)) (by kernel_rfl) (mcell_at K1.out) (fun hS0 => ?_)
  revert B1 K1 R1 hS0
  generalize V.drew = Y0
  intro B1 K1 R1 hS0
  refine wpAnyH_take (i := 0) (v := .pointer (some ⟨w.heap.size, 2, none⟩)) rfl (by kernel_rfl) (by kernel_rfl) (by kernel_rfl) (fun _ _ _ h => h) (Or.inl ⟨by kernel_rfl, fun w' hw' => by obtain ⟨q0, q1, q2, q3, q4⟩ := hw'; go_simp⟩) hS0 ?_
  refine wpAnyH_take (i := 1) (v := .slice a1 starts.length c1) rfl (by kernel_rfl) (by kernel_rfl) (by kernel_rfl) (fun _ _ _ h => h) (Or.inl ⟨by kernel_rfl, fun w' hw' => by obtain ⟨q0, q1, q2, q3, q4⟩ := hw'; go_simp⟩) hS0 ?_
  refine wpAnyH_take (i := 3) (v := .pointer (some ⟨w.heap.size, 1, none⟩)) rfl (by kernel_rfl) (by kernel_rfl) (by kernel_rfl) (fun _ _ _ h => h) (Or.inl ⟨by kernel_rfl, fun w' hw' => by obtain ⟨q0, q1, q2, q3, q4⟩ := hw'; go_simp⟩) hS0 ?_
  refine wpAnyH_take (i := 4) (v := .int .i64 ev) rfl (by kernel_rfl) (by kernel_rfl) (by kernel_rfl) (fun _ _ _ h => h) (Or.inl ⟨by kernel_rfl, fun w' hw' => by obtain ⟨q0, q1, q2, q3, q4⟩ := hw'; go_simp⟩) hS0 ?_
  refine wpAnyH_take (i := 5) (v := .agg #[.int .i64 st, .int .i64 ev, .slice a1 starts.length c1, .slice a2 ars.length c2, .slice a3 ends.length c3]) rfl (by kernel_rfl) (by kernel_rfl) (by kernel_rfl) (fun _ _ _ h => h) (Or.inl ⟨by kernel_rfl, fun w' hw' => by obtain ⟨q0, q1, q2, q3, q4⟩ := hw'; go_simp⟩) hS0 ?_
  simp only [Act.put, List.setIfInBounds_toArray]
  refine wpAnyH_ready (rs := [2]) (by kernel_rfl) (by simp) ?_
  refine AllReadyH.cons rfl (fun K' hK' => ?_) AllReadyH.nil
  go_simp
  refine (of_any a1 c1 starts _ (h.out.s.below B1.out (Nat.le_refl _)) hsl.out hsb.out).mono ?_
  rintro e Y1 ⟨rfl, hb1⟩
  have B2 := Hid.of (B1.out.trans (hb1.mono B1.out.size))
  have K2 := Hid.of (K1.out.below hb1 K1.out.lt)
  have R2 := Hid.of (R1.out.below hb1 R1.out.lt)
  refine hK'.out _ _ (mcell_at K2.out) (fun hS1 => ?_)
  clear hK' K' hb1 B1 K1 R1 hS0
  refine wpAnyH_ready (rs := [6]) (by kernel_rfl) (by simp) ?_
  refine AllReadyH.cons rfl (fun K' hK' => ?_) AllReadyH.nil
  go_simp
  refine (leader_go st ev starts ars ends a1 c1 a2 c2 a3 c3 _ (Hid.of (h.out.below B2.out (Nat.le_refl _))) hm hst hev hlen.out (Hid.of (may_arrs hm.out))).mono ?_
  rintro e Y2 ⟨L, rfl, hLD, hLa, hb2⟩
  have B3 := Hid.of (B2.out.trans (hb2.mono B2.out.size))
  have K3 := Hid.of (K2.out.below hb2 K2.out.lt)
  have R3 := Hid.of (R2.out.below hb2 R2.out.lt)
  have HLD := Hid.of hLD
  refine hK'.out _ _ (mcell_at K3.out) (fun hS2 => ?_)
  clear hK' K' hb2 B2 K2 R2 hS1 hLD hLa
  refine wpAnyH_ready (rs := [7]) (by kernel_rfl) (by simp) ?_
  refine AllReadyH.cons rfl (fun K' hK' => ?_) AllReadyH.nil
  go_simp
  refine (find_any0 st ev starts ars ends hm (ofS starts) hrs L _ (Hid.of (hT.out.below B3.out hT.out.lt)) HLD).mono ?_
  intro e Y3 hfp
  unfold FindPost at hfp
  have hY2 : Hid (w.heap.size + 2 ≤ Y2.heap.size) := R3.out.lt
  cases hd : detS ⟨(st : Int), (ev : Int), starts, ars, ends⟩ with
  | none =>
    rw [hd] at hfp
    obtain ⟨rfl, hb3⟩ := hfp
    have HDN := Hid.of (detOut_none hm.out hd)
    have B4 := Hid.of (B3.out.trans (hb3.mono B3.out.size))
    have K4 := Hid.of (K3.out.below hb3 K3.out.lt)
    have R4 := Hid.of (R3.out.below hb3 R3.out.lt)
    refine hK'.out _ _ (mcell_at K4.out) (fun hS3 => ?_)
    clear hK' K' hb3 B3 K3 R3 hS2 hd HLD
    refine wpAnyH_take (i := 8) (v := .tuple #[.slice none 0 0, .slice none 0 0, .bool false]) rfl (by kernel_rfl) (by kernel_rfl) (by kernel_rfl) (fun _ _ _ h => h) (Or.inl ⟨by kernel_rfl, fun w' hw' => by obtain ⟨q0, q1, q2, q3, q4⟩ := hw'; go_simp⟩) hS3 ?_
    refine wpAnyH_take (i := 9) (v := .slice none 0 0) rfl (by kernel_rfl) (by kernel_rfl) (by kernel_rfl) (fun _ _ _ h => h) (Or.inl ⟨by kernel_rfl, fun w' hw' => by obtain ⟨q0, q1, q2, q3, q4⟩ := hw'; go_simp⟩) hS3 ?_
    refine wpAnyH_take (i := 10) (v := .slice none 0 0) rfl (by kernel_rfl) (by kernel_rfl) (by kernel_rfl) (fun _ _ _ h => h) (Or.inl ⟨by kernel_rfl, fun w' hw' => by obtain ⟨q0, q1, q2, q3, q4⟩ := hw'; go_simp⟩) hS3 ?_
    refine wpAnyH_take (i := 11) (v := .bool false) rfl (by kernel_rfl) (by kernel_rfl) (by kernel_rfl) (fun _ _ _ h => h) (Or.inl ⟨by kernel_rfl, fun w' hw' => by obtain ⟨q0, q1, q2, q3, q4⟩ := hw'; go_simp⟩) hS3 ?_
    refine wpAnyH_take (i := 12) (v := .slice none 0 0) rfl (by kernel_rfl) (by kernel_rfl) (by kernel_rfl) (fun _ _ _ h => h) (Or.inl ⟨by kernel_rfl, fun w' hw' => by obtain ⟨q0, q1, q2, q3, q4⟩ := hw'; go_simp⟩) hS3 ?_
    refine wpAnyH_take (i := 13) (v := .slice none 0 0) rfl (by kernel_rfl) (by kernel_rfl) (by kernel_rfl) (fun _ _ _ h => h) (Or.inl ⟨by kernel_rfl, fun w' hw' => by obtain ⟨q0, q1, q2, q3, q4⟩ := hw'; go_simp⟩) hS3 ?_
    refine wpAnyH_take (i := 14) (v := .bool false) rfl (by kernel_rfl) (by kernel_rfl) (by kernel_rfl) (fun _ _ _ h => h) (Or.inl ⟨by kernel_rfl, fun w' hw' => by obtain ⟨q0, q1, q2, q3, q4⟩ := hw'; go_simp⟩) hS3 ?_
    refine wpAnyH_done (by kernel_rfl) ?_ _
    obtain ⟨r0, r1, r2, r3, r4⟩ := zcell_at R4.out
    have rz := R4.out.frozen
    have RR : Hid (Blk _ (w.heap.size + 1) 25 (mcells m0 ml0)) := R4.out.set5 (.int .i64 0) (.int .i64 0) (.slice none 0 0) (.slice none 0 0) (.slice none 0 0)
    simp only [Act.put, List.setIfInBounds_toArray]
    go_wp2
    refine bodyPost_ret (v := .tuple #[mval m0 ml0, .slice none 0 0, .int .i64 1]) ?_ rfl (makePost_err HDN.out (below_set5 B4.out (b' := w.heap.size + 1) (by omega) _ _ _ _ _))
    exact results_three (p := 2) (u := 3) (v := 4) rfl _ _ (w.heap.size + 1) m0 ml0 _ _ rfl rfl rfl RR.out
  | some s =>
    rw [hd] at hfp
    obtain ⟨vs, va, SL, rfl, hRL, hOS, hOA, hb3⟩ := hfp
    have HDN := Hid.of (detOut_some hm.out hd)
    have H256 := Hid.of (detS_di hm.out hd).2
    have D4 : Hid (DB w Y3 ⟨(st : Int), (ev : Int), starts, ars, ends⟩ ⟨a1, c1, a2, c2, a3, c3⟩ vs va SL s.ar) := ⟨B3.out.trans (hb3.mono B3.out.size), K3.out.below hb3 K3.out.lt, R3.out.below hb3 R3.out.lt, ownsRow_low hOS hY2.out, ownsRow_low hOA hY2.out, hT.out.below (B3.out.trans (hb3.mono B3.out.size)) hT.out.lt⟩
    refine hK'.out _ _ (mcell_at D4.out.kb) (fun hS3 => ?_)
    clear hK' K' hb3 B3 K3 R3 hS2 hd hOS hOA HLD
    obtain ⟨va8, vc8, hvs, -, -, -⟩ := own_form2 D4.out.ss
    subst hvs
    obtain ⟨fa, fc, hva, fl1, fl2, fl3⟩ := own_form2 D4.out.ar
    subst hva
    refine wpAnyH_take (i := 8) (v := .tuple #[.slice va8 SL.length vc8, .slice fa s.ar.length fc, .bool true]) rfl (by kernel_rfl) (by kernel_rfl) (by kernel_rfl) (fun _ _ _ h => h) (Or.inl ⟨by kernel_rfl, fun w' hw' => by obtain ⟨q0, q1, q2, q3, q4⟩ := hw'; go_simp⟩) hS3 ?_
    refine wpAnyH_take (i := 9) (v := .slice va8 SL.length vc8) rfl (by kernel_rfl) (by kernel_rfl) (by kernel_rfl) (fun _ _ _ h => h) (Or.inl ⟨by kernel_rfl, fun w' hw' => by obtain ⟨q0, q1, q2, q3, q4⟩ := hw'; go_simp⟩) hS3 ?_
    refine wpAnyH_take (i := 10) (v := .slice fa s.ar.length fc) rfl (by kernel_rfl) (by kernel_rfl) (by kernel_rfl) (fun _ _ _ h => h) (Or.inl ⟨by kernel_rfl, fun w' hw' => by obtain ⟨q0, q1, q2, q3, q4⟩ := hw'; go_simp⟩) hS3 ?_
    refine wpAnyH_take (i := 11) (v := .bool true) rfl (by kernel_rfl) (by kernel_rfl) (by kernel_rfl) (fun _ _ _ h => h) (Or.inl ⟨by kernel_rfl, fun w' hw' => by obtain ⟨q0, q1, q2, q3, q4⟩ := hw'; go_simp⟩) hS3 ?_
    refine wpAnyH_take (i := 12) (v := .slice va8 SL.length vc8) rfl (by kernel_rfl) (by kernel_rfl) (by kernel_rfl) (fun _ _ _ h => h) (Or.inl ⟨by kernel_rfl, fun w' hw' => by obtain ⟨q0, q1, q2, q3, q4⟩ := hw'; go_simp⟩) hS3 ?_
    refine wpAnyH_take (i := 13) (v := .slice fa s.ar.length fc) rfl (by kernel_rfl) (by kernel_rfl) (by kernel_rfl) (fun _ _ _ h => h) (Or.inl ⟨by kernel_rfl, fun w' hw' => by obtain ⟨q0, q1, q2, q3, q4⟩ := hw'; go_simp⟩) hS3 ?_
    refine wpAnyH_take (i := 14) (v := .bool true) rfl (by kernel_rfl) (by kernel_rfl) (by kernel_rfl) (fun _ _ _ h => h) (Or.inl ⟨by kernel_rfl, fun w' hw' => by obtain ⟨q0, q1, q2, q3, q4⟩ := hw'; go_simp⟩) hS3 ?_
    refine wpAnyH_done (by kernel_rfl) ?_ _
    have HRL := Hid.of hRL
    have hSLl : SL.length ≤ 256 := by rw [hRL.len]; exact H256.out
    have hok : Hid (∀ S ∈ SL, okS S) := fun S hS => by
      obtain ⟨j, hj⟩ := List.mem_iff_getElem?.1 hS
      obtain ⟨l', -, q, -⟩ := hRL.rep j S hj
      exact q.ok
    have HME : Hid (detM ⟨(st : Int), (ev : Int), starts, ars, ends⟩ s = ⟨(SL.length : Int), (ev : Int), [0], s.ar, meetFrom (ofS ends) 0 SL⟩) := make_some HRL.out hre.out
    have HSE : Hid (s.sets = SL.map rowS) := HRL.out.map.symm
    clear hRL hS3
    simp only [Act.put, List.setIfInBounds_toArray]
    go_wp2
    have hbd : Below Y3.heap.size Y3 Y3.drew := (Below.refl _ _).drew
    have D := Hid.of (D4.out.below hbd)
    refine wp_region_held_drew (S := fun w' => w'.cell? ⟨w.heap.size, 1, none⟩ = some (.int .i64 ev) ∧ w'.cell? ⟨w.heap.size, 4, none⟩ = some (.slice a3 ends.length c3)) (by kernel_rfl) D4.out.cells (fun hS0 => ?_)
    clear D4 hbd
    revert D hS0
    generalize Y3.drew = Z0
    intro D hS0
    refine wpAnyH_take (i := 0) (v := .slice va8 SL.length vc8) rfl (by kernel_rfl) (by kernel_rfl) (by kernel_rfl) (fun _ _ _ h => h) (Or.inl ⟨by kernel_rfl, fun w' hw' => by obtain ⟨q0, q1⟩ := hw'; go_simp⟩) hS0 ?_
    refine wpAnyH_take (i := 1) (v := .int .i64 SL.length) rfl (by kernel_rfl) (by kernel_rfl) (by kernel_rfl) (fun _ _ _ h => h) (Or.inl ⟨by kernel_rfl, fun w' hw' => by obtain ⟨q0, q1⟩ := hw'; go_simp⟩) hS0 ?_
    refine wpAnyH_take (i := 2) (v := .pointer (some ⟨w.heap.size, 1, none⟩)) rfl (by kernel_rfl) (by kernel_rfl) (by kernel_rfl) (fun _ _ _ h => h) (Or.inl ⟨by kernel_rfl, fun w' hw' => by obtain ⟨q0, q1⟩ := hw'; go_simp⟩) hS0 ?_
    refine wpAnyH_take (i := 3) (v := .int .i64 ev) rfl (by kernel_rfl) (by kernel_rfl) (by kernel_rfl) (fun _ _ _ h => h) (Or.inl ⟨by kernel_rfl, fun w' hw' => by obtain ⟨q0, q1⟩ := hw'; go_simp⟩) hS0 ?_
    refine wpAnyH_take (i := 5) (v := .slice fa s.ar.length fc) rfl (by kernel_rfl) (by kernel_rfl) (by kernel_rfl) (fun _ _ _ h => h) (Or.inl ⟨by kernel_rfl, fun w' hw' => by obtain ⟨q0, q1⟩ := hw'; go_simp⟩) hS0 ?_
    refine wpAnyH_take (i := 6) (v := .slice va8 SL.length vc8) rfl (by kernel_rfl) (by kernel_rfl) (by kernel_rfl) (fun _ _ _ h => h) (Or.inl ⟨by kernel_rfl, fun w' hw' => by obtain ⟨q0, q1⟩ := hw'; go_simp⟩) hS0 ?_
    refine wpAnyH_take (i := 7) (v := .pointer (some ⟨w.heap.size, 4, none⟩)) rfl (by kernel_rfl) (by kernel_rfl) (by kernel_rfl) (fun _ _ _ h => h) (Or.inl ⟨by kernel_rfl, fun w' hw' => by obtain ⟨q0, q1⟩ := hw'; go_simp⟩) hS0 ?_
    refine wpAnyH_take (i := 8) (v := .slice a3 ends.length c3) rfl (by kernel_rfl) (by kernel_rfl) (by kernel_rfl) (fun _ _ _ h => h) (Or.inl ⟨by kernel_rfl, fun w' hw' => by obtain ⟨q0, q1⟩ := hw'; go_simp⟩) hS0 ?_
    refine wpAnyH_take (i := 12) (v := .slice va8 SL.length vc8) rfl (by kernel_rfl) (by kernel_rfl) (by kernel_rfl) (fun _ _ _ h => h) (Or.inl ⟨by kernel_rfl, fun w' hw' => by obtain ⟨q0, q1⟩ := hw'; go_simp⟩) hS0 ?_
    simp only [Act.put, List.setIfInBounds_toArray]
    refine wpAnyH_ready (rs := [4, 9]) (by kernel_rfl) (by simp) ?_
    refine AllReadyH.cons rfl (fun K' hK' => ?_) (AllReadyH.cons rfl (fun K' hK' => ?_) AllReadyH.nil)
    · go_simp
      have hb : Below Z0.heap.size Z0 (Z0.alloc (.cells #[.int .i64 0] 3)) := (Below.refl _ _).alloc (Nat.le_refl _) _
      have D' := Hid.of (D.out.below hb)
      have A4n := Hid.of (at_oneD Z0 0)
      have P4 : Hid (w.heap.size + 2 ≤ Z0.heap.size) := D.out.rb.lt
      refine hK'.out _ _ D'.out.cells (fun hSn => ?_)
      clear hK' K' hb D hS0 
      revert D' A4n hSn
      generalize Z0.alloc (.cells #[.int .i64 0] 3) = Z1
      revert P4
      generalize Z0.heap.size = p
      intro P4 D  A4 hS1
      refine wpAnyH_ready (rs := [9]) (by kernel_rfl) (by simp) ?_
      refine AllReadyH.cons rfl (fun K' hK' => ?_) AllReadyH.nil
      go_simp
      refine (of_any a3 c3 ends _ (h.out.e.below D.out.bel (Nat.le_refl _)) hel.out heb.out).mono ?_
      rintro e Z2 ⟨rfl, hb⟩
      have D' := Hid.of (D.out.below hb)
      have A4' := Hid.of (A4.out.below hb (Nat.le_refl _))
      refine hK'.out _ _ D'.out.cells (fun hS2 => ?_)
      clear hK' K' hb D hS1 A4
      have D := D'
      have A4 := A4'
      clear D' A4'
      refine wpAnyH_ready (rs := [10]) (by kernel_rfl) (by simp) ?_
      refine AllReadyH.cons rfl (fun K' hK' => ?_) AllReadyH.nil
      go_simp
      refine (meeting_any (w.heap.size + 2) _ SL (ofS ends) _ (Hid.of D.out.ss) hSLl hok (Hid.of hre.out.ok)).mono ?_
      rintro e Z3 ⟨ve, rfl, oe, hb⟩
      obtain ⟨ea, ec, rfl, -, -, -, -⟩ := oe.at2
      have En := Hid.of (oe.low (show w.heap.size + 2 ≤ _ from D.out.rb.lt))
      clear oe
      have D' := Hid.of (D.out.below hb)
      have A4' := Hid.of (A4.out.below hb (Nat.le_refl _))
      refine hK'.out _ _ D'.out.cells (fun hS3 => ?_)
      clear hK' K' hb D hS2 A4
      have D := D'
      have A4 := A4'
      have E := En
      clear D' A4' En
      refine wpAnyH_take (i := 11) (v := .agg #[.int .i64 SL.length, .int .i64 ev, .slice (some ⟨p, 0, none⟩) 1 1, .slice fa s.ar.length fc, .slice ea (meetFrom (ofS ends) 0 SL).length ec]) rfl (by kernel_rfl) (by kernel_rfl) (by kernel_rfl) (fun _ _ _ h => h) (Or.inl ⟨by kernel_rfl, fun w' hw' => by obtain ⟨q0, q1⟩ := hw'; go_simp⟩) hS3 ?_
      refine wpAnyH_ready (rs := [13]) (by kernel_rfl) (by simp) ?_
      refine AllReadyH.cons rfl (fun K' hK' => ?_) AllReadyH.nil
      go_simp
      refine (rowsS_any (w.heap.size + 2) _ SL _ (Hid.of D.out.ss) hSLl hok (Hid.of D.out.tab)).mono ?_
      rintro e Z4 ⟨vr, rfl, orr, hb⟩
      obtain ⟨ra, rc, rfl, -, -, -, -⟩ := orr.at
      have RWn := Hid.of (orr.low (show w.heap.size + 2 ≤ _ from D.out.rb.lt))
      clear orr
      have D' := Hid.of (D.out.below hb)
      have A4' := Hid.of (A4.out.below hb (Nat.le_refl _))
      have E' := Hid.of (E.out.keep hb (Nat.le_refl _))
      refine hK'.out _ _ D'.out.cells (fun hS4 => ?_)
      clear hK' K' hb D hS3 A4 E
      have D := D'
      have A4 := A4'
      have E := E'
      have RW := RWn
      clear D' A4' E' RWn
      refine wpAnyH_ready (rs := [14]) (by kernel_rfl) (by simp) ?_
      refine AllReadyH.cons rfl (fun K' hK' => ?_) AllReadyH.nil
      obtain ⟨r0, r1, r2, r3, r4⟩ := zcell_at D.out.rb
      have rz := D.out.rb.frozen
      obtain ⟨xa, xc, xe, xt, x1, x2, x3⟩ := Own.at2 E.out
      cases xe
      obtain ⟨ya, yc, ye, yt, y1, y2, y3⟩ := OwnA.at D.out.ar
      cases ye
      have hMX : MAt Z4 ⟨(SL.length : Int), (ev : Int), [0], s.ar, meetFrom (ofS ends) 0 SL⟩ ⟨some ⟨p, 0, none⟩, 1, fa, fc, ea, ec⟩ := ⟨A4.out, yt, xt, Nat.le_refl _, (show (1 : Nat) ≤ maxLen by decide), (fun h => by cases h), y1, y2, y3, x1, x2, x3⟩
      have hFX : FrM (w.heap.size + 2) ⟨(SL.length : Int), (ev : Int), [0], s.ar, meetFrom (ofS ends) 0 SL⟩ ⟨some ⟨p, 0, none⟩, 1, fa, fc, ea, ec⟩ := ⟨.inr ⟨p, 0, rfl, P4.out⟩, OwnA.fr D.out.ar, Own.fr E.out⟩
      have hLF := Hid.of (dleaf D.out.bel D.out.rb hMX hFX RW.out)
      have hne : w.heap.size ≠ w.heap.size + 1 := by omega
      have KK := ((((D.out.kb.other hne (j := 0) (.int .i64 SL.length)).other hne (j := 1) (.int .i64 ev)).other hne (j := 2) (.slice (some ⟨p, 0, none⟩) 1 1)).other hne (j := 3) (.slice fa s.ar.length fc)).other hne (j := 4) (.slice ea (meetFrom (ofS ends) 0 SL).length ec)
      go_simp
      refine hK'.out _ _ ⟨KK.cell 1 rfl, KK.cell 4 rfl⟩ (fun hSZ => ?_)
      clear hK' K' r0 r1 r2 r3 r4 rz hMX hFX
      refine wpAnyH_take (i := 15) (v := .slice ra (SL.map rowS).length rc) rfl (by kernel_rfl) (by kernel_rfl) (by kernel_rfl) (fun _ _ _ h => h) (Or.inl ⟨by kernel_rfl, fun w' hw' => by obtain ⟨q0, q1⟩ := hw'; go_simp⟩) hSZ ?_
      refine wpAnyH_take (i := 16) (v := .int .i64 0) rfl (by kernel_rfl) (by kernel_rfl) (by kernel_rfl) (fun _ _ _ h => h) (Or.inl ⟨by kernel_rfl, fun w' hw' => by obtain ⟨q0, q1⟩ := hw'; go_simp⟩) hSZ ?_
      refine wpAnyH_done (by kernel_rfl) ?_ _
      clear KK hSZ
      go_wp2
      refine bodyPost_ret (v := .tuple #[mval ⟨(SL.length : Int), (ev : Int), [0], s.ar, meetFrom (ofS ends) 0 SL⟩ ⟨some ⟨p, 0, none⟩, 1, fa, fc, ea, ec⟩, .slice ra SL.length rc, .int .i64 0]) ?_ rfl ?_
      · exact results_three (p := 2) (u := 3) (v := 4) rfl _ _ (w.heap.size + 1) ⟨(SL.length : Int), (ev : Int), [0], s.ar, meetFrom (ofS ends) 0 SL⟩ ⟨some ⟨p, 0, none⟩, 1, fa, fc, ea, ec⟩ _ _ rfl rfl rfl hLF.out.1
      · unfold MakePost
        rw [HDN.out]
        dsimp only
        rw [HME.out, HSE.out]
        obtain ⟨za, zc, ze, zt, z1, z2, z3⟩ := hLF.out.2.2.1.at
        cases ze
        exact ⟨_, _, _, (by rw [List.length_map]), hLF.out.2.1, zt, (by rw [List.length_map]; exact hSLl), hLF.out.2.2.2⟩
    · go_simp
      refine (of_any a3 c3 ends _ (h.out.e.below D.out.bel (Nat.le_refl _)) hel.out heb.out).mono ?_
      rintro e Z1 ⟨rfl, hb⟩
      have D' := Hid.of (D.out.below hb)
      refine hK'.out _ _ D'.out.cells (fun hS1 => ?_)
      clear hK' K' hb D hS0 
      have D := D'
      clear D'
      refine wpAnyH_ready (rs := [4, 10]) (by kernel_rfl) (by simp) ?_
      refine AllReadyH.cons rfl (fun K' hK' => ?_) (AllReadyH.cons rfl (fun K' hK' => ?_) AllReadyH.nil)
      · go_simp
        have hb : Below Z1.heap.size Z1 (Z1.alloc (.cells #[.int .i64 0] 3)) := (Below.refl _ _).alloc (Nat.le_refl _) _
        have D' := Hid.of (D.out.below hb)
        have A4n := Hid.of (at_oneD Z1 0)
        have P4 : Hid (w.heap.size + 2 ≤ Z1.heap.size) := D.out.rb.lt
        refine hK'.out _ _ D'.out.cells (fun hSn => ?_)
        clear hK' K' hb D hS1 
        revert D' A4n hSn
        generalize Z1.alloc (.cells #[.int .i64 0] 3) = Z2
        revert P4
        generalize Z1.heap.size = p
        intro P4 D  A4 hS2
        refine wpAnyH_ready (rs := [10]) (by kernel_rfl) (by simp) ?_
        refine AllReadyH.cons rfl (fun K' hK' => ?_) AllReadyH.nil
        go_simp
        refine (meeting_any (w.heap.size + 2) _ SL (ofS ends) _ (Hid.of D.out.ss) hSLl hok (Hid.of hre.out.ok)).mono ?_
        rintro e Z3 ⟨ve, rfl, oe, hb⟩
        obtain ⟨ea, ec, rfl, -, -, -, -⟩ := oe.at2
        have En := Hid.of (oe.low (show w.heap.size + 2 ≤ _ from D.out.rb.lt))
        clear oe
        have D' := Hid.of (D.out.below hb)
        have A4' := Hid.of (A4.out.below hb (Nat.le_refl _))
        refine hK'.out _ _ D'.out.cells (fun hS3 => ?_)
        clear hK' K' hb D hS2 A4
        have D := D'
        have A4 := A4'
        have E := En
        clear D' A4' En
        refine wpAnyH_take (i := 11) (v := .agg #[.int .i64 SL.length, .int .i64 ev, .slice (some ⟨p, 0, none⟩) 1 1, .slice fa s.ar.length fc, .slice ea (meetFrom (ofS ends) 0 SL).length ec]) rfl (by kernel_rfl) (by kernel_rfl) (by kernel_rfl) (fun _ _ _ h => h) (Or.inl ⟨by kernel_rfl, fun w' hw' => by obtain ⟨q0, q1⟩ := hw'; go_simp⟩) hS3 ?_
        refine wpAnyH_ready (rs := [13]) (by kernel_rfl) (by simp) ?_
        refine AllReadyH.cons rfl (fun K' hK' => ?_) AllReadyH.nil
        go_simp
        refine (rowsS_any (w.heap.size + 2) _ SL _ (Hid.of D.out.ss) hSLl hok (Hid.of D.out.tab)).mono ?_
        rintro e Z4 ⟨vr, rfl, orr, hb⟩
        obtain ⟨ra, rc, rfl, -, -, -, -⟩ := orr.at
        have RWn := Hid.of (orr.low (show w.heap.size + 2 ≤ _ from D.out.rb.lt))
        clear orr
        have D' := Hid.of (D.out.below hb)
        have A4' := Hid.of (A4.out.below hb (Nat.le_refl _))
        have E' := Hid.of (E.out.keep hb (Nat.le_refl _))
        refine hK'.out _ _ D'.out.cells (fun hS4 => ?_)
        clear hK' K' hb D hS3 A4 E
        have D := D'
        have A4 := A4'
        have E := E'
        have RW := RWn
        clear D' A4' E' RWn
        refine wpAnyH_ready (rs := [14]) (by kernel_rfl) (by simp) ?_
        refine AllReadyH.cons rfl (fun K' hK' => ?_) AllReadyH.nil
        obtain ⟨r0, r1, r2, r3, r4⟩ := zcell_at D.out.rb
        have rz := D.out.rb.frozen
        obtain ⟨xa, xc, xe, xt, x1, x2, x3⟩ := Own.at2 E.out
        cases xe
        obtain ⟨ya, yc, ye, yt, y1, y2, y3⟩ := OwnA.at D.out.ar
        cases ye
        have hMX : MAt Z4 ⟨(SL.length : Int), (ev : Int), [0], s.ar, meetFrom (ofS ends) 0 SL⟩ ⟨some ⟨p, 0, none⟩, 1, fa, fc, ea, ec⟩ := ⟨A4.out, yt, xt, Nat.le_refl _, (show (1 : Nat) ≤ maxLen by decide), (fun h => by cases h), y1, y2, y3, x1, x2, x3⟩
        have hFX : FrM (w.heap.size + 2) ⟨(SL.length : Int), (ev : Int), [0], s.ar, meetFrom (ofS ends) 0 SL⟩ ⟨some ⟨p, 0, none⟩, 1, fa, fc, ea, ec⟩ := ⟨.inr ⟨p, 0, rfl, P4.out⟩, OwnA.fr D.out.ar, Own.fr E.out⟩
        have hLF := Hid.of (dleaf D.out.bel D.out.rb hMX hFX RW.out)
        have hne : w.heap.size ≠ w.heap.size + 1 := by omega
        have KK := ((((D.out.kb.other hne (j := 0) (.int .i64 SL.length)).other hne (j := 1) (.int .i64 ev)).other hne (j := 2) (.slice (some ⟨p, 0, none⟩) 1 1)).other hne (j := 3) (.slice fa s.ar.length fc)).other hne (j := 4) (.slice ea (meetFrom (ofS ends) 0 SL).length ec)
        go_simp
        refine hK'.out _ _ ⟨KK.cell 1 rfl, KK.cell 4 rfl⟩ (fun hSZ => ?_)
        clear hK' K' r0 r1 r2 r3 r4 rz hMX hFX
        refine wpAnyH_take (i := 15) (v := .slice ra (SL.map rowS).length rc) rfl (by kernel_rfl) (by kernel_rfl) (by kernel_rfl) (fun _ _ _ h => h) (Or.inl ⟨by kernel_rfl, fun w' hw' => by obtain ⟨q0, q1⟩ := hw'; go_simp⟩) hSZ ?_
        refine wpAnyH_take (i := 16) (v := .int .i64 0) rfl (by kernel_rfl) (by kernel_rfl) (by kernel_rfl) (fun _ _ _ h => h) (Or.inl ⟨by kernel_rfl, fun w' hw' => by obtain ⟨q0, q1⟩ := hw'; go_simp⟩) hSZ ?_
        refine wpAnyH_done (by kernel_rfl) ?_ _
        clear KK hSZ
        go_wp2
        refine bodyPost_ret (v := .tuple #[mval ⟨(SL.length : Int), (ev : Int), [0], s.ar, meetFrom (ofS ends) 0 SL⟩ ⟨some ⟨p, 0, none⟩, 1, fa, fc, ea, ec⟩, .slice ra SL.length rc, .int .i64 0]) ?_ rfl ?_
        · exact results_three (p := 2) (u := 3) (v := 4) rfl _ _ (w.heap.size + 1) ⟨(SL.length : Int), (ev : Int), [0], s.ar, meetFrom (ofS ends) 0 SL⟩ ⟨some ⟨p, 0, none⟩, 1, fa, fc, ea, ec⟩ _ _ rfl rfl rfl hLF.out.1
        · unfold MakePost
          rw [HDN.out]
          dsimp only
          rw [HME.out, HSE.out]
          obtain ⟨za, zc, ze, zt, z1, z2, z3⟩ := hLF.out.2.2.1.at
          cases ze
          exact ⟨_, _, _, (by rw [List.length_map]), hLF.out.2.1, zt, (by rw [List.length_map]; exact hSLl), hLF.out.2.2.2⟩
      · go_simp
        refine (meeting_any (w.heap.size + 2) _ SL (ofS ends) _ (Hid.of D.out.ss) hSLl hok (Hid.of hre.out.ok)).mono ?_
        rintro e Z2 ⟨ve, rfl, oe, hb⟩
        obtain ⟨ea, ec, rfl, -, -, -, -⟩ := oe.at2
        have En := Hid.of (oe.low (show w.heap.size + 2 ≤ _ from D.out.rb.lt))
        clear oe
        have D' := Hid.of (D.out.below hb)
        refine hK'.out _ _ D'.out.cells (fun hS2 => ?_)
        clear hK' K' hb D hS1 
        have D := D'
        have E := En
        clear D' En
        refine wpAnyH_ready (rs := [4, 13]) (by kernel_rfl) (by simp) ?_
        refine AllReadyH.cons rfl (fun K' hK' => ?_) (AllReadyH.cons rfl (fun K' hK' => ?_) AllReadyH.nil)
        · go_simp
          have hb : Below Z2.heap.size Z2 (Z2.alloc (.cells #[.int .i64 0] 3)) := (Below.refl _ _).alloc (Nat.le_refl _) _
          have D' := Hid.of (D.out.below hb)
          have E' := Hid.of (E.out.keep hb (Nat.le_refl _))
          have A4n := Hid.of (at_oneD Z2 0)
          have P4 : Hid (w.heap.size + 2 ≤ Z2.heap.size) := D.out.rb.lt
          refine hK'.out _ _ D'.out.cells (fun hSn => ?_)
          clear hK' K' hb D hS2 E
          revert D' A4n E' hSn
          generalize Z2.alloc (.cells #[.int .i64 0] 3) = Z3
          revert P4
          generalize Z2.heap.size = p
          intro P4 D E A4 hS3
          refine wpAnyH_take (i := 11) (v := .agg #[.int .i64 SL.length, .int .i64 ev, .slice (some ⟨p, 0, none⟩) 1 1, .slice fa s.ar.length fc, .slice ea (meetFrom (ofS ends) 0 SL).length ec]) rfl (by kernel_rfl) (by kernel_rfl) (by kernel_rfl) (fun _ _ _ h => h) (Or.inl ⟨by kernel_rfl, fun w' hw' => by obtain ⟨q0, q1⟩ := hw'; go_simp⟩) hS3 ?_
          refine wpAnyH_ready (rs := [13]) (by kernel_rfl) (by simp) ?_
          refine AllReadyH.cons rfl (fun K' hK' => ?_) AllReadyH.nil
          go_simp
          refine (rowsS_any (w.heap.size + 2) _ SL _ (Hid.of D.out.ss) hSLl hok (Hid.of D.out.tab)).mono ?_
          rintro e Z4 ⟨vr, rfl, orr, hb⟩
          obtain ⟨ra, rc, rfl, -, -, -, -⟩ := orr.at
          have RWn := Hid.of (orr.low (show w.heap.size + 2 ≤ _ from D.out.rb.lt))
          clear orr
          have D' := Hid.of (D.out.below hb)
          have A4' := Hid.of (A4.out.below hb (Nat.le_refl _))
          have E' := Hid.of (E.out.keep hb (Nat.le_refl _))
          refine hK'.out _ _ D'.out.cells (fun hS4 => ?_)
          clear hK' K' hb D hS3 A4 E
          have D := D'
          have A4 := A4'
          have E := E'
          have RW := RWn
          clear D' A4' E' RWn
          refine wpAnyH_ready (rs := [14]) (by kernel_rfl) (by simp) ?_
          refine AllReadyH.cons rfl (fun K' hK' => ?_) AllReadyH.nil
          obtain ⟨r0, r1, r2, r3, r4⟩ := zcell_at D.out.rb
          have rz := D.out.rb.frozen
          obtain ⟨xa, xc, xe, xt, x1, x2, x3⟩ := Own.at2 E.out
          cases xe
          obtain ⟨ya, yc, ye, yt, y1, y2, y3⟩ := OwnA.at D.out.ar
          cases ye
          have hMX : MAt Z4 ⟨(SL.length : Int), (ev : Int), [0], s.ar, meetFrom (ofS ends) 0 SL⟩ ⟨some ⟨p, 0, none⟩, 1, fa, fc, ea, ec⟩ := ⟨A4.out, yt, xt, Nat.le_refl _, (show (1 : Nat) ≤ maxLen by decide), (fun h => by cases h), y1, y2, y3, x1, x2, x3⟩
          have hFX : FrM (w.heap.size + 2) ⟨(SL.length : Int), (ev : Int), [0], s.ar, meetFrom (ofS ends) 0 SL⟩ ⟨some ⟨p, 0, none⟩, 1, fa, fc, ea, ec⟩ := ⟨.inr ⟨p, 0, rfl, P4.out⟩, OwnA.fr D.out.ar, Own.fr E.out⟩
          have hLF := Hid.of (dleaf D.out.bel D.out.rb hMX hFX RW.out)
          have hne : w.heap.size ≠ w.heap.size + 1 := by omega
          have KK := ((((D.out.kb.other hne (j := 0) (.int .i64 SL.length)).other hne (j := 1) (.int .i64 ev)).other hne (j := 2) (.slice (some ⟨p, 0, none⟩) 1 1)).other hne (j := 3) (.slice fa s.ar.length fc)).other hne (j := 4) (.slice ea (meetFrom (ofS ends) 0 SL).length ec)
          go_simp
          refine hK'.out _ _ ⟨KK.cell 1 rfl, KK.cell 4 rfl⟩ (fun hSZ => ?_)
          clear hK' K' r0 r1 r2 r3 r4 rz hMX hFX
          refine wpAnyH_take (i := 15) (v := .slice ra (SL.map rowS).length rc) rfl (by kernel_rfl) (by kernel_rfl) (by kernel_rfl) (fun _ _ _ h => h) (Or.inl ⟨by kernel_rfl, fun w' hw' => by obtain ⟨q0, q1⟩ := hw'; go_simp⟩) hSZ ?_
          refine wpAnyH_take (i := 16) (v := .int .i64 0) rfl (by kernel_rfl) (by kernel_rfl) (by kernel_rfl) (fun _ _ _ h => h) (Or.inl ⟨by kernel_rfl, fun w' hw' => by obtain ⟨q0, q1⟩ := hw'; go_simp⟩) hSZ ?_
          refine wpAnyH_done (by kernel_rfl) ?_ _
          clear KK hSZ
          go_wp2
          refine bodyPost_ret (v := .tuple #[mval ⟨(SL.length : Int), (ev : Int), [0], s.ar, meetFrom (ofS ends) 0 SL⟩ ⟨some ⟨p, 0, none⟩, 1, fa, fc, ea, ec⟩, .slice ra SL.length rc, .int .i64 0]) ?_ rfl ?_
          · exact results_three (p := 2) (u := 3) (v := 4) rfl _ _ (w.heap.size + 1) ⟨(SL.length : Int), (ev : Int), [0], s.ar, meetFrom (ofS ends) 0 SL⟩ ⟨some ⟨p, 0, none⟩, 1, fa, fc, ea, ec⟩ _ _ rfl rfl rfl hLF.out.1
          · unfold MakePost
            rw [HDN.out]
            dsimp only
            rw [HME.out, HSE.out]
            obtain ⟨za, zc, ze, zt, z1, z2, z3⟩ := hLF.out.2.2.1.at
            cases ze
            exact ⟨_, _, _, (by rw [List.length_map]), hLF.out.2.1, zt, (by rw [List.length_map]; exact hSLl), hLF.out.2.2.2⟩
        · go_simp
          refine (rowsS_any (w.heap.size + 2) _ SL _ (Hid.of D.out.ss) hSLl hok (Hid.of D.out.tab)).mono ?_
          rintro e Z3 ⟨vr, rfl, orr, hb⟩
          obtain ⟨ra, rc, rfl, -, -, -, -⟩ := orr.at
          have RWn := Hid.of (orr.low (show w.heap.size + 2 ≤ _ from D.out.rb.lt))
          clear orr
          have D' := Hid.of (D.out.below hb)
          have E' := Hid.of (E.out.keep hb (Nat.le_refl _))
          refine hK'.out _ _ D'.out.cells (fun hS3 => ?_)
          clear hK' K' hb D hS2 E
          have D := D'
          have E := E'
          have RW := RWn
          clear D' E' RWn
          refine wpAnyH_ready (rs := [4]) (by kernel_rfl) (by simp) ?_
          refine AllReadyH.cons rfl (fun K' hK' => ?_) AllReadyH.nil
          go_simp
          have hb : Below Z3.heap.size Z3 (Z3.alloc (.cells #[.int .i64 0] 3)) := (Below.refl _ _).alloc (Nat.le_refl _) _
          have D' := Hid.of (D.out.below hb)
          have E' := Hid.of (E.out.keep hb (Nat.le_refl _))
          have RW' := Hid.of (RW.out.below hb)
          have A4n := Hid.of (at_oneD Z3 0)
          have P4 : Hid (w.heap.size + 2 ≤ Z3.heap.size) := D.out.rb.lt
          refine hK'.out _ _ D'.out.cells (fun hSn => ?_)
          clear hK' K' hb D hS3 E RW
          revert D' A4n E' RW' hSn
          generalize Z3.alloc (.cells #[.int .i64 0] 3) = Z4
          revert P4
          generalize Z3.heap.size = p
          intro P4 D E RW A4 hS4
          refine wpAnyH_take (i := 11) (v := .agg #[.int .i64 SL.length, .int .i64 ev, .slice (some ⟨p, 0, none⟩) 1 1, .slice fa s.ar.length fc, .slice ea (meetFrom (ofS ends) 0 SL).length ec]) rfl (by kernel_rfl) (by kernel_rfl) (by kernel_rfl) (fun _ _ _ h => h) (Or.inl ⟨by kernel_rfl, fun w' hw' => by obtain ⟨q0, q1⟩ := hw'; go_simp⟩) hS4 ?_
          refine wpAnyH_ready (rs := [14]) (by kernel_rfl) (by simp) ?_
          refine AllReadyH.cons rfl (fun K' hK' => ?_) AllReadyH.nil
          obtain ⟨r0, r1, r2, r3, r4⟩ := zcell_at D.out.rb
          have rz := D.out.rb.frozen
          obtain ⟨xa, xc, xe, xt, x1, x2, x3⟩ := Own.at2 E.out
          cases xe
          obtain ⟨ya, yc, ye, yt, y1, y2, y3⟩ := OwnA.at D.out.ar
          cases ye
          have hMX : MAt Z4 ⟨(SL.length : Int), (ev : Int), [0], s.ar, meetFrom (ofS ends) 0 SL⟩ ⟨some ⟨p, 0, none⟩, 1, fa, fc, ea, ec⟩ := ⟨A4.out, yt, xt, Nat.le_refl _, (show (1 : Nat) ≤ maxLen by decide), (fun h => by cases h), y1, y2, y3, x1, x2, x3⟩
          have hFX : FrM (w.heap.size + 2) ⟨(SL.length : Int), (ev : Int), [0], s.ar, meetFrom (ofS ends) 0 SL⟩ ⟨some ⟨p, 0, none⟩, 1, fa, fc, ea, ec⟩ := ⟨.inr ⟨p, 0, rfl, P4.out⟩, OwnA.fr D.out.ar, Own.fr E.out⟩
          have hLF := Hid.of (dleaf D.out.bel D.out.rb hMX hFX RW.out)
          have hne : w.heap.size ≠ w.heap.size + 1 := by omega
          have KK := ((((D.out.kb.other hne (j := 0) (.int .i64 SL.length)).other hne (j := 1) (.int .i64 ev)).other hne (j := 2) (.slice (some ⟨p, 0, none⟩) 1 1)).other hne (j := 3) (.slice fa s.ar.length fc)).other hne (j := 4) (.slice ea (meetFrom (ofS ends) 0 SL).length ec)
          go_simp
          refine hK'.out _ _ ⟨KK.cell 1 rfl, KK.cell 4 rfl⟩ (fun hSZ => ?_)
          clear hK' K' r0 r1 r2 r3 r4 rz hMX hFX
          refine wpAnyH_take (i := 15) (v := .slice ra (SL.map rowS).length rc) rfl (by kernel_rfl) (by kernel_rfl) (by kernel_rfl) (fun _ _ _ h => h) (Or.inl ⟨by kernel_rfl, fun w' hw' => by obtain ⟨q0, q1⟩ := hw'; go_simp⟩) hSZ ?_
          refine wpAnyH_take (i := 16) (v := .int .i64 0) rfl (by kernel_rfl) (by kernel_rfl) (by kernel_rfl) (fun _ _ _ h => h) (Or.inl ⟨by kernel_rfl, fun w' hw' => by obtain ⟨q0, q1⟩ := hw'; go_simp⟩) hSZ ?_
          refine wpAnyH_done (by kernel_rfl) ?_ _
          clear KK hSZ
          go_wp2
          refine bodyPost_ret (v := .tuple #[mval ⟨(SL.length : Int), (ev : Int), [0], s.ar, meetFrom (ofS ends) 0 SL⟩ ⟨some ⟨p, 0, none⟩, 1, fa, fc, ea, ec⟩, .slice ra SL.length rc, .int .i64 0]) ?_ rfl ?_
          · exact results_three (p := 2) (u := 3) (v := 4) rfl _ _ (w.heap.size + 1) ⟨(SL.length : Int), (ev : Int), [0], s.ar, meetFrom (ofS ends) 0 SL⟩ ⟨some ⟨p, 0, none⟩, 1, fa, fc, ea, ec⟩ _ _ rfl rfl rfl hLF.out.1
          · unfold MakePost
            rw [HDN.out]
            dsimp only
            rw [HME.out, HSE.out]
            obtain ⟨za, zc, ze, zt, z1, z2, z3⟩ := hLF.out.2.2.1.at
            cases ze
            exact ⟨_, _, _, (by rw [List.length_map]), hLF.out.2.1, zt, (by rw [List.length_map]; exact hSLl), hLF.out.2.2.2⟩

theorem dMake_any (m : Mach) (l : ML) (w : World) (h : MAt w m l) (hT : Tab w) : Calls Tryd.prog 30 #[mval m l] w fun e w' => MakePost w m e w' := by
  cases hm : mayB m with
  | false => exact dmake_err m l w (Hid.of h) (Hid.of hm)
  | true =>
    have hz := mayB_size hm
    obtain ⟨st, ev, starts, ars, ends⟩ := m
    obtain ⟨a1, c1, a2, c2, a3, c3⟩ := l
    obtain ⟨z1, z2, z3, z4, z5⟩ := hz
    simp only at z1 z2 z3 z4 z5
    obtain ⟨s, rfl⟩ : ∃ s : Nat, st = (s : Int) := ⟨st.toNat, by omega⟩
    obtain ⟨v, rfl⟩ : ∃ v : Nat, ev = (v : Int) := ⟨ev.toNat, by omega⟩
    exact dmake_ok s v starts ars ends a1 c1 a2 c2 a3 c3 w (Hid.of h) (Hid.of hm) (Hid.of hT)

end Go.Proofs.YtkkkacmccndinaaDoor
namespace Go.Proofs.YtkkkacmccndinaaDoor
open Go.RowKit
set_option linter.unusedVariables false

theorem results_twoM {fn : Func} {p u : Tmp} (h : fn.results = #[.cell p 25, .tmp u]) (tmps : Array Value) (w : World) (g : Nat) (m : Mach) (l : ML) (x : Value) (hp : tmps.getD p undef = .pointer (some ⟨g, 0, none⟩)) (hu : tmps.getD u undef = x) (hB : Blk w g 25 (mcells m l)) :
    (results fn tmps).run Tryd.prog w = .ok (.tuple #[mval m l, x]) w := by
  obtain ⟨x0, x1, x2, x3, x4⟩ := mcell_at hB
  have e : (results fn tmps).run Tryd.prog w = ((asAddr (tmps.getD p undef)).run Tryd.prog w).andThen fun a w₁ => ((loadVar 25 a).run Tryd.prog w₁).andThen fun r w₂ => .ok (.tuple #[r, tmps.getD u undef]) w₂ := by
    simp only [results, h]
    simp [Sem.run_bind, Result.andThen]
  rw [e, hp, hu]
  go_simp

/-- What Hide leaves where something is wrong. -/
def HErr (c : Int) (w : World) (e : Ending) (w' : World) : Prop := e = .returned (.tuple #[mval m0 ml0, .int .i64 c]) ∧ Below w.heap.size w w'
/-- What Hide leaves. -/
def HidePost (w : World) (m : Mach) (seen : List Int) (e : Ending) (w' : World) : Prop :=
  if mayB m = false ∨ rowB m.ev seen = false then HErr 2 w e w'
  else if (hAll m seen m.st.toNat).length ≤ 4096 then ∃ L, e = .returned (.tuple #[mval (hideM m seen) L, .int .i64 0]) ∧ MAt w' (hideM m seen) L ∧ Below w.heap.size w w'
  else HErr 1 w e w'

end Go.Proofs.YtkkkacmccndinaaDoor
namespace Go.Proofs.YtkkkacmccndinaaDoor
open Go.RowKit
set_option linter.unusedVariables false

/-- What refuse tells. -/
def lrefB (m : Mach) : Int := if mayB m = false then 2 else if 6 < m.st then 1 else 0
set_option maxRecDepth 100000 in
set_option maxHeartbeats 4000000 in
theorem lrefuse_any (m : Mach) (l : ML) (w : World) (h : Hid (MAt w m l)) :
    Calls Tryd.prog 72 #[mval m l] w fun e w' => e = .returned (.int .i64 (lrefB m)) ∧ Below w.heap.size w w' := by
  have B0 : Hid (Below w.heap.size w (w.alloc (.cells (mcells m l) 25))) := (Below.refl _ _).alloc (Nat.le_refl _) _
  have K0 : Hid (Blk (w.alloc (.cells (mcells m l) 25)) w.heap.size 25 (mcells m l)) := Blk.new w _ _
  go_enter Tryd.func72, Tryd.ntmps72
  go_wp2_with fail
  revert B0 K0
  generalize w.alloc (.cells (mcells m l) 25) = V0
  intro B0 K0
  refine (pMay_any m l _ (h.out.below B0.out (Nat.le_refl _))).mono ?_
  rintro e V ⟨rfl, hb1⟩
  have B1 := Hid.of (B0.out.trans (hb1.mono B0.out.size))
  have x0 : V.cell? ⟨w.heap.size, 0, none⟩ = some (.int .i64 m.st) := (K0.out.below hb1 K0.out.lt).cell 0 rfl
  clear hb1 B0 K0
  cases hm : mayB m with
  | false =>
    have HV : Hid (lrefB m = 2) := by show _ = _; unfold lrefB; rw [if_pos hm]
    clear hm
    go_wp2
    exact bodyPost_ret (v := .int .i64 2) (by simp [results, go_sem]) rfl ⟨by rw [HV.out], B1.out⟩
  | true =>
    by_cases hs : 6 < m.st
    · have HV : Hid (lrefB m = 1) := by show _ = _; unfold lrefB; rw [if_neg (by rw [hm]; simp), if_pos hs]
      clear hm
      go_wp2
      exact bodyPost_ret (v := .int .i64 1) (by simp [results, go_sem]) rfl ⟨by rw [HV.out], B1.out⟩
    · have HV : Hid (lrefB m = 0) := by show _ = _; unfold lrefB; rw [if_neg (by rw [hm]; simp), if_neg hs]
      clear hm
      go_wp2
      exact bodyPost_ret (v := .int .i64 0) (by simp [results, go_sem]) rfl ⟨by rw [HV.out], B1.out⟩

set_option maxRecDepth 100000 in
set_option maxHeartbeats 4000000 in
theorem lea_err (m : Mach) (l : ML) (w : World) (h : Hid (MAt w m l)) (hc : Hid (lrefB m ≠ 0)) (ho : Hid (LeastOut m m0 (lrefB m))) :
    Calls Tryd.prog 37 #[mval m l] w fun e w' => LeastPost w m e w' := by
  have B0 : Hid (Below w.heap.size w ((w.alloc (.cells (mcells m l) 25)).alloc (.cells zcells 25))) := ((Below.refl _ _).alloc (Nat.le_refl _) _).alloc (by simp) _
  have R0 : Hid (Blk ((w.alloc (.cells (mcells m l) 25)).alloc (.cells zcells 25)) (w.heap.size + 1) 25 zcells) := by
    have := Blk.new (w.alloc (.cells (mcells m l) 25)) 25 zcells
    rwa [World.size_alloc] at this
  go_enter Tryd.func37, Tryd.ntmps37
  go_wp2_with fail
  revert B0 R0
  generalize (w.alloc (.cells (mcells m l) 25)).alloc (.cells zcells 25) = V0
  intro B0 R0
  refine (lrefuse_any m l _ (h.out.below B0.out (Nat.le_refl _))).mono ?_
  rintro e V ⟨rfl, hb1⟩
  have B1 := Hid.of (B0.out.trans (hb1.mono B0.out.size))
  have R1 := Hid.of (R0.out.below hb1 R0.out.lt)
  clear hb1 B0 R0
  obtain ⟨r0, r1, r2, r3, r4⟩ := zcell_at R1.out
  have rz := R1.out.frozen
  have RR : Hid (Blk _ (w.heap.size + 1) 25 (mcells m0 ml0)) := R1.out.set5 (.int .i64 0) (.int .i64 0) (.slice none 0 0) (.slice none 0 0) (.slice none 0 0)
  obtain ⟨c, HC⟩ : ∃ c, Hid (c = lrefB m) := ⟨_, rfl⟩
  rw [← HC.out] at hc ho ⊢
  have hc0 : (c == 0) = false := by simpa using hc.out
  have hc1 : ¬ c = 0 := hc.out
  go_wp2
  refine bodyPost_ret (v := .tuple #[mval m0 ml0, .int .i64 c]) ?_ rfl ⟨m0, ml0, c, ho.out, rfl, mat0 _, below_set5 B1.out (b' := w.heap.size + 1) (by omega) _ _ _ _ _⟩
  exact results_twoM (p := 2) (u := 3) rfl _ _ (w.heap.size + 1) m0 ml0 _ rfl rfl RR.out

/-- What is folded is the least machine. -/
theorem fold_isLeast {m : Mach} (hm : mayB m = true) (zm : m.st ≤ 6) {s : DS} (hs : detS m = some s) {ev N : Nat} (hE : m.ev = (ev : Int)) (hN : s.sets.length = N) {c : Nat → Nat} (hrg : RGr c N) (hap : ∀ x y : Int, 0 ≤ x → x < (detM m s).st → 0 ≤ y → y < (detM m s).st → (decide (c x.toNat ≠ c y.toNat) = true ↔ langS (detM m s) [x] ≠ langS (detM m s) [y])) : IsLeast m ⟨((reps c N).length : Int), (ev : Int), [0], arrF s.ar c ev N, endF (endsD m.ends s.sets) c N⟩ := by
  intro inst
  have hd := det_det hm hs
  have hst : (detM m s).st = (N : Int) := by show (s.sets.length : Int) = _; rw [hN]
  have hdi := (detS_di hm hs).1
  have h64 : N ≤ 64 := by rw [← hN]; exact di_small zm hdi
  have hN0 : 0 < N := by rw [← hN]; exact hdi.pos
  have hev : (detM m s).ev = (ev : Int) := hE
  have hcg : ∀ x y e : Nat, x < N → y < N → e < ev → c x = c y → c (toI (detM m s).arrows (x : Int) (e : Int)).toNat = c (toI (detM m s).arrows (y : Int) (e : Int)).toNat := by
    intro x y e hx hy he hxy
    have q1 := toI_step hd (Int.natCast_nonneg x) (by rw [hst]; omega) (Int.natCast_nonneg e) (by rw [hev]; omega)
    have q2 := toI_step hd (Int.natCast_nonneg y) (by rw [hst]; omega) (Int.natCast_nonneg e) (by rw [hev]; omega)
    have k1 : langS (detM m s) [(x : Int)] = langS (detM m s) [(y : Int)] := by
      have := hap (x : Int) (y : Int) (by omega) (by rw [hst]; omega) (by omega) (by rw [hst]; omega)
      simp only [Int.toNat_natCast] at this
      by_cases q : langS (detM m s) [(x : Int)] = langS (detM m s) [(y : Int)]
      · exact q
      · have := this.2 q
        simp [hxy] at this
    have k2 : langS (detM m s) [toI (detM m s).arrows (x : Int) (e : Int)] = langS (detM m s) [toI (detM m s).arrows (y : Int) (e : Int)] := by
      rw [← langS_step hd (Int.natCast_nonneg x) (by rw [hst]; omega) (by rw [hev]; omega), ← langS_step hd (Int.natCast_nonneg y) (by rw [hst]; omega) (by rw [hev]; omega), k1]
    have := hap _ _ q1.2.1 q1.2.2 q2.2.1 q2.2.2
    by_cases q : c (toI (detM m s).arrows (x : Int) (e : Int)).toNat = c (toI (detM m s).arrows (y : Int) (e : Int)).toNat
    · exact q
    · exact absurd k2 (this.1 (decide_eq_true q))
  have h1 := fold_least hst hev hd (det_bfn hm hs) hrg hcg hN0 (Nat.le_trans (reps_len c N) h64)
  have h2 := leastR_det hm hs hap
  rw [← h2, h1]
  unfold foldM
  rw [hst, hev]
  rfl

end Go.Proofs.YtkkkacmccndinaaDoor
namespace Go.Proofs.YtkkkacmccndinaaDoor
open Go.RowKit
set_option linter.unusedVariables false

set_option maxRecDepth 100000 in
set_option maxHeartbeats 4000000 in
theorem lea_ok (m : Mach) (l : ML) (w : World) (h : Hid (MAt w m l)) (hT : Hid (Tab w)) (hm : Hid (mayB m = true)) (hz : Hid (lrefB m = 0)) (zm : Hid (m.st ≤ 6)) (N ev : Nat) (ars : List Arr) (ends : List Int) (SS : List (List Int)) (hD : Hid (detOut m = (⟨(N : Int), (ev : Int), [0], ars, ends⟩, SS, 0))) (hN : N ≤ 256) (hev : ev ≤ 8) (hel : ends.length ≤ 256) (hal : Hid (ars.length = N * ev)) (hd : Hid (detB ⟨(N : Int), (ev : Int), [0], ars, ends⟩ = true)) (hE : Hid (∀ x ∈ ends, 0 ≤ x ∧ x < (N : Int))) (hA : Hid (∀ f e : Nat, f < N → e < ev → ∃ t : Nat, ars[f * ev + e]? = some ⟨(f : Int), (e : Int), (t : Int)⟩ ∧ toI ars (f : Int) (e : Int) = (t : Int) ∧ t < N)) (hfin : Hid (∀ c : Nat → Nat, RGr c N → (∀ s t : Int, 0 ≤ s → s < (N : Int) → 0 ≤ t → t < (N : Int) → (decide (c s.toNat ≠ c t.toNat) = true ↔ langS ⟨(N : Int), (ev : Int), [0], ars, ends⟩ [s] ≠ langS ⟨(N : Int), (ev : Int), [0], ars, ends⟩ [t])) → IsLeast m ⟨((reps c N).length : Int), (ev : Int), [0], arrF ars c ev N, endF ends c N⟩)) :
    Calls Tryd.prog 37 #[mval m l] w fun e w' => LeastPost w m e w' := by
  have B0 : Hid (Below w.heap.size w ((w.alloc (.cells (mcells m l) 25)).alloc (.cells zcells 25))) := ((Below.refl _ _).alloc (Nat.le_refl _) _).alloc (by simp) _
  have K0 : Hid (Blk ((w.alloc (.cells (mcells m l) 25)).alloc (.cells zcells 25)) w.heap.size 25 (mcells m l)) := (Blk.new w _ _).alloc _
  have R0 : Hid (Blk ((w.alloc (.cells (mcells m l) 25)).alloc (.cells zcells 25)) (w.heap.size + 1) 25 zcells) := by
    have := Blk.new (w.alloc (.cells (mcells m l) 25)) 25 zcells
    rwa [World.size_alloc] at this
  go_enter Tryd.func37, Tryd.ntmps37
  go_wp2_with fail
  revert B0 K0 R0
  generalize (w.alloc (.cells (mcells m l) 25)).alloc (.cells zcells 25) = V0
  intro B0 K0 R0
  refine (lrefuse_any m l _ (h.out.below B0.out (Nat.le_refl _))).mono ?_
  rintro e V ⟨rfl, hb1⟩
  rw [hz.out]
  have B1 := Hid.of (B0.out.trans (hb1.mono B0.out.size))
  have K1 := Hid.of (K0.out.below hb1 K0.out.lt)
  have R1 := Hid.of (R0.out.below hb1 R0.out.lt)
  clear hb1 B0 R0 K0
  obtain ⟨x0, x1, x2, x3, x4⟩ := mcell_at K1.out
  go_wp2_with fail
  clear x0 x1 x2 x3 x4
  refine (dMake_any m l V (h.out.below B1.out (Nat.le_refl _)) (hT.out.below B1.out hT.out.lt)).mono ?_
  rintro e X ⟨L, va, vc, he, hMA, -, -, hb2⟩
  rw [hD.out] at he hMA
  obtain ⟨a1, c1, a2, c2, a3, c3⟩ := L
  dsimp only at he hMA
  subst he
  have B2 := Hid.of (B1.out.trans (hb2.mono B1.out.size))
  have R2 := Hid.of (R1.out.below hb2 R1.out.lt)
  have HM := Hid.of hMA
  clear hb2 B1 R1 K1 hMA
  have HX := Hid.of (Blk.new X 25 (mcells ⟨(N : Int), (ev : Int), [0], ars, ends⟩ ⟨a1, c1, a2, c2, a3, c3⟩))
  have BX : Below X.heap.size X (X.alloc (.cells (mcells ⟨(N : Int), (ev : Int), [0], ars, ends⟩ ⟨a1, c1, a2, c2, a3, c3⟩) 25)) := (Below.refl _ _).alloc (Nat.le_refl _) _
  have B3 := Hid.of (B2.out.trans (BX.mono B2.out.size))
  have R3 := Hid.of (R2.out.below BX R2.out.lt)
  have M3 := Hid.of (HM.out.below BX (Nat.le_refl _))
  have hXl := R2.out.lt
  clear BX B2 R2 HM
  go_wp2_with fail
  revert HX B3 R3 M3
  generalize X.alloc (.cells (mcells ⟨(N : Int), (ev : Int), [0], ars, ends⟩ ⟨a1, c1, a2, c2, a3, c3⟩) 25) = Y
  intro HX B3 R3 M3
  refine wp_region_held_drew (S := fun w' => w'.cell? ⟨X.heap.size, 0, none⟩ = some (.int .i64 (N : Int)) ∧ w'.cell? ⟨X.heap.size, 1, none⟩ = some (.int .i64 (ev : Int)) ∧ w'.cell? ⟨X.heap.size, 2, none⟩ = some (.slice a1 1 c1) ∧ w'.cell? ⟨X.heap.size, 3, none⟩ = some (.slice a2 ars.length c2) ∧ w'.cell? ⟨X.heap.size, 4, none⟩ = some (.slice a3 ends.length c3)) (by kernel_rfl) (mcell_at HX.out) (fun hS => ?_)
  have HXd := Hid.of (HX.out.below (Below.refl _ Y).drew HX.out.lt)
  have B3d := Hid.of (B3.out.drew)
  have R3d := Hid.of (R3.out.below (Below.refl _ Y).drew R3.out.lt)
  have M3d := Hid.of (M3.out.below (Below.refl _ Y).drew (Nat.le_refl _))
  clear HX B3 R3 M3
  revert hS HXd B3d R3d M3d
  generalize Y.drew = Z
  intro hS HX B3 R3 M3
  refine wpAnyH_take (i := 0) (v := mval ⟨(N : Int), (ev : Int), [0], ars, ends⟩ ⟨a1, c1, a2, c2, a3, c3⟩) rfl (by kernel_rfl) (by kernel_rfl) (by kernel_rfl) (fun _ _ _ h => h) (Or.inl ⟨by kernel_rfl, fun w' hw' => by obtain ⟨q0, q1, q2, q3, q4⟩ := hw'; go_simp⟩) hS ?_
  refine wpAnyH_take (i := 1) (v := mval ⟨(N : Int), (ev : Int), [0], ars, ends⟩ ⟨a1, c1, a2, c2, a3, c3⟩) rfl (by kernel_rfl) (by kernel_rfl) (by kernel_rfl) (fun _ _ _ h => h) (Or.inl ⟨by kernel_rfl, fun w' hw' => by obtain ⟨q0, q1, q2, q3, q4⟩ := hw'; go_simp⟩) hS ?_
  simp only [Act.put, List.setIfInBounds_toArray]
  refine wpAnyH_ready (rs := [2]) (by kernel_rfl) (by simp) ?_
  refine AllReadyH.cons rfl (fun K' hK' => ?_) AllReadyH.nil
  go_simp
  refine (kinds_any N ev [0] ars ends a1 c1 a2 c2 a3 c3 Z hN hev hel hal hd M3 hE hA).mono ?_
  rintro e Z1 ⟨gk, c, rfl, hR, hb4, -, hrg, hap⟩
  have HR := Hid.of hR
  have HLE := Hid.of (hfin.out c hrg hap)
  have HX1 := Hid.of (HX.out.below hb4 HX.out.lt)
  have B4 := Hid.of (B3.out.trans (hb4.mono B3.out.size))
  have R4 := Hid.of (R3.out.below hb4 R3.out.lt)
  have M4 := Hid.of (M3.out.below hb4 (Nat.le_refl _))
  refine hK'.out _ _ (mcell_at HX1.out) (fun hS1 => ?_)
  clear hK' K' hR hrg hap hb4 HX B3 R3 M3 hS
  refine wpAnyH_ready (rs := [3]) (by kernel_rfl) (by simp) ?_
  refine AllReadyH.cons rfl (fun K' hK' => ?_) AllReadyH.nil
  go_simp
  refine (fold_any N ev [0] ars ends a1 c1 a2 c2 a3 c3 gk c Z1 hN hev hal M4 hA HR).mono ?_
  rintro e Z2 ⟨⟨b1, d1, b2, d2, b3, d3⟩, rfl, hMF, hFR, hb5⟩
  have HX2 := Hid.of (HX1.out.below hb5 HX1.out.lt)
  have B5 := Hid.of (B4.out.trans (hb5.mono B4.out.size))
  have R5 := Hid.of (R4.out.below hb5 R4.out.lt)
  have hZ1 : w.heap.size + 1 < Z1.heap.size := R4.out.lt
  refine hK'.out _ _ (mcell_at HX2.out) (fun hS2 => ?_)
  clear hK' K' hb5 HX1 B4 R4 M4 hS1 HR
  obtain ⟨r0, r1, r2, r3, r4⟩ := zcell_at R5.out
  have rz := R5.out.frozen
  obtain ⟨A, HAA⟩ : ∃ A, Hid (A = arrF ars c ev N) := ⟨_, rfl⟩
  obtain ⟨E, HEE⟩ : ∃ E, Hid (E = endF ends c N) := ⟨_, rfl⟩
  obtain ⟨K, HKK⟩ : ∃ K : Int, Hid (K = ((reps c N).length : Int)) := ⟨_, rfl⟩
  rw [← HAA.out, ← HEE.out, ← HKK.out] at HLE hMF hFR
  rw [← HAA.out, ← HEE.out, ← HKK.out]
  have HMF := Hid.of hMF
  have HFR := Hid.of hFR
  clear hMF hFR
  have RR := Hid.of (R5.out.set5 (.int .i64 K) (.int .i64 ev) (.slice b1 1 d1) (.slice b2 A.length d2) (.slice b3 E.length d3))
  have BB := Hid.of (below_set5 B5.out (b' := w.heap.size + 1) (by omega) (.int .i64 K) (.int .i64 ev) (.slice b1 1 d1) (.slice b2 A.length d2) (.slice b3 E.length d3))
  have MM := Hid.of (HMF.out.set5 HFR.out (b := w.heap.size + 1) (by omega) (.int .i64 K) (.int .i64 ev) (.slice b1 1 d1) (.slice b2 A.length d2) (.slice b3 E.length d3))
  have XX := Hid.of (Blk.other5 HX2.out (b' := w.heap.size + 1) (by omega) (.int .i64 K) (.int .i64 ev) (.slice b1 1 d1) (.slice b2 A.length d2) (.slice b3 E.length d3))
  refine wpAnyH_ready (rs := [4]) (by kernel_rfl) (by simp) ?_
  refine AllReadyH.cons rfl (fun K' hK' => ?_) AllReadyH.nil
  go_simp
  refine hK'.out _ _ (mcell_at XX.out) (fun hS3 => ?_)
  clear hK' K' r0 r1 r2 r3 r4 rz hS2
  refine wpAnyH_take (i := 5) (v := .int .i64 0) rfl (by kernel_rfl) (by kernel_rfl) (by kernel_rfl) (fun _ _ _ h => h) (Or.inl ⟨by kernel_rfl, fun w' hw' => by obtain ⟨q0, q1, q2, q3, q4⟩ := hw'; go_simp⟩) hS3 ?_
  refine wpAnyH_done (by kernel_rfl) ?_ _
  clear hS3
  revert RR BB MM
  generalize ((((Z2.setCell ⟨w.heap.size + 1, 0, none⟩ (.int .i64 K)).setCell ⟨w.heap.size + 1, 1, none⟩ (.int .i64 ev)).setCell ⟨w.heap.size + 1, 2, none⟩ (.slice b1 1 d1)).setCell ⟨w.heap.size + 1, 3, none⟩ (.slice b2 A.length d2)).setCell ⟨w.heap.size + 1, 4, none⟩ (.slice b3 E.length d3) = Q
  intro RR BB MM
  go_wp2_with fail
  refine bodyPost_ret (v := .tuple #[mval ⟨K, (ev : Int), [0], A, E⟩ ⟨b1, d1, b2, d2, b3, d3⟩, .int .i64 0]) ?_ rfl ⟨⟨K, (ev : Int), [0], A, E⟩, ⟨b1, d1, b2, d2, b3, d3⟩, 0, .inr (.inr ⟨hm.out, zm.out, rfl, HLE.out⟩), rfl, MM.out, BB.out⟩
  refine results_twoM (p := 2) (u := 3) rfl _ _ (w.heap.size + 1) ⟨K, (ev : Int), [0], A, E⟩ ⟨b1, d1, b2, d2, b3, d3⟩ _ ?_ ?_ RR.out
  · rfl
  · rfl

theorem pLeast_any (m : Mach) (l : ML) (w : World) (h : MAt w m l) (hT : Tab w) : Calls Tryd.prog 37 #[mval m l] w fun e w' => LeastPost w m e w' := by
  cases hm : mayB m with
  | false => exact lea_err m l w (Hid.of h) (show _ ≠ _ by unfold lrefB; rw [if_pos hm]; simp) (show LeastOut _ _ _ by unfold lrefB; rw [if_pos hm]; exact .inl ⟨hm, rfl, rfl⟩)
  | true =>
    by_cases zs : 6 < m.st
    · exact lea_err m l w (Hid.of h) (show _ ≠ _ by unfold lrefB; rw [if_neg (by rw [hm]; simp), if_pos zs]; simp) (show LeastOut _ _ _ by unfold lrefB; rw [if_neg (by rw [hm]; simp), if_pos zs]; exact .inr (.inl ⟨hm, zs, rfl, rfl⟩))
    · have zm : m.st ≤ 6 := by omega
      obtain ⟨s, hs, h64⟩ := det_small hm zm
      have hz := mayB_size hm
      unfold sizeOk at hz
      obtain ⟨ev, hE⟩ : ∃ ev : Nat, m.ev = (ev : Int) := ⟨m.ev.toNat, by omega⟩
      have hev : m.ev.toNat = ev := by omega
      have hdi := (detS_di hm hs).1
      have hd := det_det hm hs
      have hmd : mayB (detM m s) = true := by unfold detB at hd; rw [Bool.and_eq_true] at hd; exact hd.1
      have hDM : detM m s = ⟨(s.sets.length : Int), (ev : Int), [0], s.ar, endsD m.ends s.sets⟩ := by unfold detM; rw [hE]
      refine lea_ok m l w (Hid.of h) (Hid.of hT) (Hid.of hm) (show lrefB m = 0 by unfold lrefB; rw [if_neg (by rw [hm]; simp), if_neg zs]) (Hid.of zm) s.sets.length ev s.ar (endsD m.ends s.sets) s.sets (show _ = _ by rw [detOut_some hm hs, hDM]) (by omega) (by omega) (Nat.le_trans (endsFrom_len m.ends 0 s.sets) (by omega)) (show _ = _ by rw [hdi.len, hev]) (show _ = _ by rw [← hDM]; exact hd) (fun x hx => ?_) (fun f e hf he => ?_) (fun c hrg hap => ?_)
      · have := (may_ends hmd).2 x hx
        exact this
      · have := det_arrow hm hs (f := f) (e := e) hf (by omega)
        rw [hev] at this
        exact this
      · rw [← hDM] at hap
        exact fold_isLeast hm zm hs hE rfl hrg hap

end Go.Proofs.YtkkkacmccndinaaDoor
