/-
  The walk of jalousieref13.leads.
-/
import Derived.Deep.RegionHeld3
import Derived.Test.YtmlkpdeidpcidaaDoorG68
import Derived.Test.YtmlkpdeidpcidaaDoorG16
import Derived.Test.YtmlkpdeidpcidaaDoorG14
namespace Go.Proofs.YtmlkpdeidpcidaaDoor
open Go.RowKit
set_option linter.unusedVariables false

theorem own_at13 {W : World} {B : Nat} {a : Option Addr} {n c : Nat} {xs : List Int} (h : Own W B (.slice a n c) xs) : At W a xs := by
  obtain ⟨q, cap, e, hat, -⟩ := h.at
  cases e
  exact hat
theorem At.cells_of13 {w : World} {a : Option Addr} {xs : List Int} (h : At w a xs) {k : Nat} (hk : k < xs.length) : ∃ b off, a = some ⟨b, off, none⟩ ∧ b < w.heap.size ∧ Cells w b off xs := by
  rcases h with rfl | h
  · simp at hk
  · exact h
theorem crs_nil (x : Tw) : ∀ ns : List Int, crsT x ns [] = []
  | [] => rfl
  | a :: r => by
    have ih := crs_nil x r
    unfold crsT at ih ⊢
    rw [List.flatMap_cons, ih]; rfl
set_option maxRecDepth 100000 in
set_option maxHeartbeats 16000000 in
theorem rtleads_go (st ev : Int) (starts : List Int) (ars : List Arr) (ends : List Int) (a1 : Option Addr) (c1 : Nat) (a2 : Option Addr) (c2 : Nat) (a3 : Option Addr) (c3 : Nat) (sa : Option Addr) (sc : Nat) (seen : List Int) (fa : Option Addr) (fc : Nat) (faults : List Int) (x1 x2 x3 : Int) (w : World) (hma : Hid (AtA w a2 ars)) (hlen : ars.length ≤ 4096) (hev0 : 0 ≤ ev) (hev : ev ≤ 8) (hse : Hid (At w sa seen)) (hsl : Hid (seen.length ≤ maxLen)) (hfa : Hid (At w fa faults)) (hfl : Hid (faults.length ≤ maxLen)) :
    Calls Tryd.prog 151 #[mval ⟨st, ev, starts, ars, ends⟩ ⟨a1, c1, a2, c2, a3, c3⟩, .slice sa seen.length sc, .slice fa faults.length fc, .agg #[.int .i64 x1, .int .i64 x2, .int .i64 x3]] w fun e w' => LeadPost13 w (leadsT ⟨st, ev, starts, ars, ends⟩ seen faults (x1, x2, x3)) e w' := by
  obtain ⟨i0, hi, hz0, hz1, hz2⟩ := info_parts Tryd.infoTwin13
  obtain ⟨j0, ji, jz0, jz1, jz2⟩ := info_parts Tryd.infoBool13
  obtain ⟨cb, HCB⟩ : ∃ cb : Bool, Hid (cb = decide (x3 = 1)) := ⟨_, rfl⟩
  have gx : (x3 == 1) = cb := by rw [HCB.out]; by_cases h : x3 = 1 <;> simp [h]
  have HW0 : Hid (L13 w ((w.alloc (.cells (mcells ⟨st, ev, starts, ars, ends⟩ ⟨a1, c1, a2, c2, a3, c3⟩) 25)).alloc (.cells #[.int .i64 x1, .int .i64 x2, .int .i64 x3] 160)) ⟨st, ev, starts, ars, ends⟩ ⟨a1, c1, a2, c2, a3, c3⟩ (x1, x2, x3) (.slice none 0 0) (.slice none 0 0) (.slice none 0 0) (.slice none 0 0) [] [] [] []) := by
    refine ⟨((Below.refl _ _).alloc (Nat.le_refl _) _).alloc (by simp) _, (Blk.new w _ _).alloc _, ?_, ownT_nil _ _, ownL_nil _ _, own_nil _ _, own_nil _ _, by simp⟩
    have := Blk.new (w.alloc (.cells (mcells ⟨st, ev, starts, ars, ends⟩ ⟨a1, c1, a2, c2, a3, c3⟩) 25)) 160 #[.int .i64 x1, .int .i64 x2, .int .i64 x3]
    rwa [World.size_alloc] at this
  go_enter Tryd.func151, Tryd.ntmps151
  go_wp2_with fail
  revert HW0
  generalize ((w.alloc (.cells (mcells ⟨st, ev, starts, ars, ends⟩ ⟨a1, c1, a2, c2, a3, c3⟩) 25)).alloc (.cells #[.int .i64 x1, .int .i64 x2, .int .i64 x3] 160)) = V
  intro HW0
  go_loopw [10, 11, 12] (fun v u i wr => ∃ k : Nat, i = .int .i64 k ∧ (k : Int) ≤ ev ∧ Hid (L13 w wr ⟨st, ev, starts, ars, ends⟩ ⟨a1, c1, a2, c2, a3, c3⟩ (x1, x2, x3) v u (.slice none 0 0) (.slice none 0 0) (ldT ⟨st, ev, starts, ars, ends⟩ seen faults (x1, x2, x3) k) (ldT ⟨st, ev, starts, ars, ends⟩ seen faults (x1, x2, x3) k) [] [])) (fun _ _ i _ => ev.toNat - (intOf i).toNat)
  case atStart => exact ⟨0, rfl, hev0, HW0⟩
  case round =>
    clear HW0
    obtain ⟨k, rfl, hk, HW⟩ := hrel
    obtain ⟨P, HP⟩ : ∃ P, Hid (P = ldT ⟨st, ev, starts, ars, ends⟩ seen faults (x1, x2, x3) k) := ⟨_, rfl⟩
    rw [← HP.out] at HW
    have hPl : P.length ≤ 134283264 := by
      rw [HP.out]
      have h1 := ldT_len (m := ⟨st, ev, starts, ars, ends⟩) hlen seen faults (x1, x2, x3) k
      have h2 : k ≤ 8 := by omega
      omega
    obtain ⟨va, vc, hv, -⟩ := own_form2 HW.out.ov
    obtain ⟨ua, uc, hu, -⟩ := own_form2 HW.out.ou
    subst hv hu
    obtain ⟨y0, y1, y2, y3, y4⟩ := mcell_at HW.out.km
    dsimp only at y0 y1 y2 y3 y4
    by_cases hlt : (k : Int) < ev
    · clear y0 y1 y2 y3 y4
      have hkD : decide ((k : Int) < ev) = true := by simp; omega
      obtain ⟨y0, y1, y2, y3, y4⟩ := mcell_at HW.out.km
      dsimp only at y0 y1 y2 y3 y4
      have z0 := HW.out.kx.cell 0 rfl
      have AO := Hid.of (at_one13 wr x1)
      replace HW := Hid.of (HW.out.below ((Below.refl _ _).alloc (Nat.le_refl _) (.cells #[.int .i64 x1] 3)))
      go_wp2_with fail
      clear y0 y1 y2 y3 y4 z0
      revert AO HW
      generalize wr.alloc (.cells #[.int .i64 x1] 3) = V0
      generalize wr.heap.size = p0
      intro AO HW
      refine (refStep_own ⟨st, ev, starts, ars, ends⟩ ⟨a1, c1, a2, c2, a3, c3⟩ (some ⟨p0, 0, none⟩) 1 [x1] k V0 (hma.out.below HW.out.bel (Nat.le_refl _)) (show ars.length ≤ 17592186044416 by omega) AO.out (show 1 ≤ maxLen by decide)).mono ?_
      rintro e W0 ⟨z, rfl, oz, hb⟩
      obtain ⟨ns, HN⟩ : ∃ t, Hid (t = stepL ars [x1] k) := ⟨_, rfl⟩
      replace oz : Own W0 V0.heap.size z ns := by rw [HN.out]; exact oz
      have hnl : Hid (ns.length ≤ 4096) := by show _ ≤ _; rw [HN.out]; have := stepL_len ars [x1] (k : Int); omega
      have hV := HW.out.hB
      replace oz := own_low13 oz hV
      replace HW := Hid.of ((HW.out.below hb).setA oz)
      obtain ⟨aa, ac, hz, -⟩ := own_form2 oz
      subst hz
      clear oz hb hV AO
      obtain ⟨y0, y1, y2, y3, y4⟩ := mcell_at HW.out.km
      dsimp only at y0 y1 y2 y3 y4
      have z0 := HW.out.kx.cell 1 rfl
      have AO := Hid.of (at_one13 W0 x2)
      replace HW := Hid.of (HW.out.below ((Below.refl _ _).alloc (Nat.le_refl _) (.cells #[.int .i64 x2] 3)))
      go_wp2_with fail
      clear y0 y1 y2 y3 y4 z0
      revert AO HW
      generalize W0.alloc (.cells #[.int .i64 x2] 3) = V1
      generalize W0.heap.size = p1
      intro AO HW
      refine (refStep_own ⟨st, ev, starts, ars, ends⟩ ⟨a1, c1, a2, c2, a3, c3⟩ (some ⟨p1, 0, none⟩) 1 [x2] k V1 (hma.out.below HW.out.bel (Nat.le_refl _)) (show ars.length ≤ 17592186044416 by omega) AO.out (show 1 ≤ maxLen by decide)).mono ?_
      rintro e W1 ⟨z, rfl, oz, hb⟩
      obtain ⟨bs, HBS⟩ : ∃ t, Hid (t = stepL ars [x2] k) := ⟨_, rfl⟩
      replace oz : Own W1 V1.heap.size z bs := by rw [HBS.out]; exact oz
      have hbl : Hid (bs.length ≤ 4096) := by show _ ≤ _; rw [HBS.out]; have := stepL_len ars [x2] (k : Int); omega
      have hV := HW.out.hB
      replace oz := own_low13 oz hV
      replace HW := Hid.of ((HW.out.below hb).setB oz)
      obtain ⟨ba, bc, hz, -⟩ := own_form2 oz
      subst hz
      clear oz hb hV AO
      have hn4 : ns.length ≤ 4096 := hnl.out
      have hb4 : bs.length ≤ 4096 := hbl.out
      have z0 := HW.out.kx.cell 2 rfl
      go_wp2_with fail
      refine (refHas_any fa fc faults k W1 (hfa.out.below HW.out.bel (Nat.le_refl _)) hfl.out).mono ?_
      rintro e W2 ⟨rfl, rfl⟩
      cases ef : hasB faults (k : Int) with
      | true =>
        have EF := Hid.of ef
        clear ef
        go_wp2_with fail
        clear z0
        replace HW := Hid.of (HW.out.setB (own_nil _ _))
        refine (refHas_any sa sc seen k W2 (hse.out.below HW.out.bel (Nat.le_refl _)) hsl.out).mono ?_
        rintro e W3 ⟨rfl, rfl⟩
        cases es : hasB seen (k : Int) with
        | true =>
          have ES := Hid.of es
          clear es
          go_wp2_with fail
          go_loopw [10, 11, 17] (fun v u i wr' => ∃ j : Nat, i = .int .i64 j ∧ j ≤ ns.length ∧ Hid (L13 w wr' ⟨st, ev, starts, ars, ends⟩ ⟨a1, c1, a2, c2, a3, c3⟩ (x1, x2, x3) v u (.slice aa ns.length ac) (.slice none 0 0) P P ns [])) (fun _ _ i _ => ns.length - (intOf i).toNat)
          case atStart => exact ⟨0, rfl, Nat.zero_le _, HW⟩
          case round =>
            clear HW
            obtain ⟨j, rfl, hj, HW⟩ := hrel
            by_cases hjl : j < ns.length
            · have hjD : decide ((j : Int) < (ns.length : Int)) = true := by simp; omega
              go_wp2_with fail
              refine wp_loop_rounds 1 ?_
              rw [rounds_succ]
              go_wp2_with fail
              go_roundw
              case rel => exact ⟨j + 1, by go_num, by omega, HW⟩
              case measure => simp [intOf]; omega
            · have hjD : decide ((j : Int) < (ns.length : Int)) = false := by simp; omega
              have HNX : Hid (ldT ⟨st, ev, starts, ars, ends⟩ seen faults (x1, x2, x3) (k + 1) = P) := by show _ = _; rw [ldT_succ, ← HP.out, leadE_seen ES.out, fltL_yes EF.out, crs_nil, List.append_nil]
              go_wp2_with fail
              go_roundw
              case rel => exact ⟨k + 1, by go_num, by omega, by rw [HNX.out]; exact (HW.out.setA (own_nil _ _)).setB (own_nil _ _)⟩
              case measure => simp [intOf]; omega
        | false =>
          have ES := Hid.of es
          clear es
          go_wp2_with fail
          go_loopw [10, 11, 19] (fun v u i wr' => ∃ j : Nat, i = .int .i64 j ∧ j ≤ ns.length ∧ Hid (L13 w wr' ⟨st, ev, starts, ars, ends⟩ ⟨a1, c1, a2, c2, a3, c3⟩ (x1, x2, x3) v u (.slice aa ns.length ac) (.slice none 0 0) (P ++ mvA (x1, x2, x3) 1 (ns.take j)) (P ++ mvA (x1, x2, x3) 1 (ns.take j)) ns [])) (fun _ _ i _ => ns.length - (intOf i).toNat)
          case atStart => exact ⟨0, rfl, Nat.zero_le _, by rw [List.take_zero, show mvA (x1, x2, x3) 1 [] = [] from rfl, List.append_nil]; exact HW⟩
          case round =>
            clear HW
            obtain ⟨j, rfl, hj, HW⟩ := hrel
            by_cases hjl : j < ns.length
            · obtain ⟨a, HA⟩ : ∃ a, Hid (ns[j]? = some a) := ⟨_, List.getElem?_eq_getElem hjl⟩
              obtain ⟨ab, ao, haa, -, -⟩ := (own_at13 HW.out.oa).cells_of13 (k := j) hjl
              subst haa
              obtain ⟨R, HR⟩ : ∃ R, Hid (R = (P ++ mvA (x1, x2, x3) 1 (ns.take j))) := ⟨_, rfl⟩
              rw [← HR.out] at HW
              have hRl : R.length ≤ 134283264 + 16785408 := by rw [HR.out]; have h1 := hPl; unfold mvA; rw [List.length_append, List.length_map, List.length_take]; omega
              obtain ⟨va, vc, hv, -⟩ := own_form2 HW.out.ov
              obtain ⟨ua, uc, hu, -⟩ := own_form2 HW.out.ou
              subst hv hu
              have HNX : Hid ((P ++ mvA (x1, x2, x3) 1 (ns.take (j + 1))) = R ++ [((a, x2, 1), cb)]) := by show _ = _; rw [HR.out, step_at HA.out, mvA_snoc, HCB.out, List.append_assoc]
              have hjD : decide ((j : Int) < (ns.length : Int)) = true := by simp; omega
              go_wp2_with fail
              have SA : Hid (∀ W v' u' P' Q', L13 w W ⟨st, ev, starts, ars, ends⟩ ⟨a1, c1, a2, c2, a3, c3⟩ (x1, x2, x3) v' u' (.slice (some ⟨ab, ao, none⟩) ns.length ac) (.slice none 0 0) P' Q' ns [] → W.cell? ⟨ab, ao + j, none⟩ = some (.int .i64 a) ∧ W.cell? ⟨w.heap.size + 1, 1, none⟩ = some (.int .i64 x2)) := fun W v' u' P' Q' h => ⟨own_cell13 h.oa HA.out, h.kx.cell 1 rfl⟩
              have bd : Below wr.heap.size wr wr.drew := (Below.refl _ _).drew
              replace HW := Hid.of (HW.out.below bd)
              refine wp_region_held_drew (S := fun w' => w'.cell? ⟨ab, ao + j, none⟩ = some (.int .i64 a) ∧ w'.cell? ⟨w.heap.size + 1, 1, none⟩ = some (.int .i64 x2)) (by kernel_rfl) (SA.out _ _ _ _ _ HW.out) (fun hS => ?_)
              clear bd
              revert HW hS
              generalize wr.drew = Y
              intro HW hS
              refine wpAnyH_take (i := 0) (v := .slice va R.length vc) rfl (by kernel_rfl) (by kernel_rfl) (by kernel_rfl) (fun _ _ _ h => h) (Or.inl ⟨by kernel_rfl, fun w' hw' => by obtain ⟨q0, q1⟩ := hw'; go_simp⟩) hS ?_
              refine wpAnyH_take (i := 1) (v := .slice (some ⟨ab, ao, none⟩) ns.length ac) rfl (by kernel_rfl) (by kernel_rfl) (by kernel_rfl) (fun _ _ _ h => h) (Or.inl ⟨by kernel_rfl, fun w' hw' => by obtain ⟨q0, q1⟩ := hw'; go_simp⟩) hS ?_
              refine wpAnyH_take (i := 2) (v := .int .i64 j) rfl (by kernel_rfl) (by kernel_rfl) (by kernel_rfl) (fun _ _ _ h => h) (Or.inl ⟨by kernel_rfl, fun w' hw' => by obtain ⟨q0, q1⟩ := hw'; go_simp⟩) hS ?_
              refine wpAnyH_take (i := 3) (v := .pointer (some ⟨ab, ao + j, none⟩)) rfl (by kernel_rfl) (by kernel_rfl) (by kernel_rfl) (fun _ _ _ h => h) (Or.inl ⟨by kernel_rfl, fun w' hw' => by obtain ⟨q0, q1⟩ := hw'; go_simp⟩) hS ?_
              refine wpAnyH_take (i := 4) (v := .int .i64 a) rfl (by kernel_rfl) (by kernel_rfl) (by kernel_rfl) (fun _ _ _ h => h) (Or.inl ⟨by kernel_rfl, fun w' hw' => by obtain ⟨q0, q1⟩ := hw'; go_simp⟩) hS ?_
              refine wpAnyH_take (i := 5) (v := .pointer (some ⟨w.heap.size + 1, 1, none⟩)) rfl (by kernel_rfl) (by kernel_rfl) (by kernel_rfl) (fun _ _ _ h => h) (Or.inl ⟨by kernel_rfl, fun w' hw' => by obtain ⟨q0, q1⟩ := hw'; go_simp⟩) hS ?_
              refine wpAnyH_take (i := 6) (v := .int .i64 x2) rfl (by kernel_rfl) (by kernel_rfl) (by kernel_rfl) (fun _ _ _ h => h) (Or.inl ⟨by kernel_rfl, fun w' hw' => by obtain ⟨q0, q1⟩ := hw'; go_simp⟩) hS ?_
              refine wpAnyH_take (i := 7) (v := .int .i64 1) rfl (by kernel_rfl) (by kernel_rfl) (by kernel_rfl) (fun _ _ _ h => h) (Or.inl ⟨by kernel_rfl, fun w' hw' => by obtain ⟨q0, q1⟩ := hw'; go_simp⟩) hS ?_
              refine wpAnyH_take (i := 8) (v := .agg #[.int .i64 a, .int .i64 x2, .int .i64 1]) rfl (by kernel_rfl) (by kernel_rfl) (by kernel_rfl) (fun _ _ _ h => h) (Or.inl ⟨by kernel_rfl, fun w' hw' => by obtain ⟨q0, q1⟩ := hw'; go_simp⟩) hS ?_
              simp only [Act.put, List.setIfInBounds_toArray]
              refine wpAnyH_ready (rs := [9]) (by kernel_rfl) (by simp) ?_
              refine AllReadyH.cons rfl (fun K' hK' => ?_) AllReadyH.nil
              clear hS
              go_simp
              have hb : Below Y.heap.size Y (Y.alloc (.cells #[.int .i64 a, .int .i64 x2, .int .i64 1] 160)) := (Below.refl _ _).alloc (Nat.le_refl _) _
              replace HW := Hid.of (HW.out.below hb)
              have KB : Hid (∀ i u, ([.int .i64 a, .int .i64 x2, .int .i64 1] : List Value)[i]? = some u → (Y.alloc (.cells #[.int .i64 a, .int .i64 x2, .int .i64 1] 160)).cell? ((⟨Y.heap.size, 0, none⟩ : Addr).add i) = some u) := cells_three Y Y rfl _ _ _ _
              refine hK'.out _ _ (SA.out _ _ _ _ _ HW.out) (fun hS => ?_)
              clear hK' K' hb
              revert HW KB hS
              generalize Y.alloc (.cells #[.int .i64 a, .int .i64 x2, .int .i64 1] 160) = Y1
              generalize Y.heap.size = pb
              intro HW KB hS
              refine wpAnyH_ready (rs := [10]) (by kernel_rfl) (by simp) ?_
              refine AllReadyH.cons rfl (fun K' hK' => ?_) AllReadyH.nil
              clear hS
              have ho := HW.out.ov
              have hB0 := HW.out.hB
              refine step_append_block rfl (.tmp 86) (.tmp 95) 153 rfl (w.heap.size + 2) 160 i0 _ 3 24 Tryd.underlying153 hi hz0 hz1 hz2 rfl (by decide) _ _ _ rfl ho ⟨pb, 0, none⟩ 1 1 [.int .i64 a, .int .i64 x2, .int .i64 1] rfl rfl KB.out (by intro u hu; simp at hu; rcases hu with rfl | rfl | rfl <;> rfl) (by decide) (by unfold maxLen; omega) (by omega) hB0 ?_
              intro v9 Y2 o9 g9 n9
              replace HW := Hid.of (L13.pushT (y := ((a, x2, 1), cb)) HW.out o9 g9)
              obtain ⟨va9, vc9, hv9, -⟩ := own_form2 HW.out.ov
              rw [List.length_append, List.length_cons, List.length_nil] at hv9
              subst hv9
              refine hK'.out _ _ (SA.out _ _ _ _ _ HW.out) (fun hS => ?_)
              clear hK' K' o9 g9 n9 ho hB0 KB SA
              refine wpAnyH_take (i := 11) (v := .slice va9 (R.length + (0 + 1)) vc9) rfl (by kernel_rfl) (by kernel_rfl) (by kernel_rfl) (fun _ _ _ h => h) (Or.inl ⟨by kernel_rfl, fun w' hw' => by obtain ⟨q0, q1⟩ := hw'; go_simp⟩) hS ?_
              refine wpAnyH_done (by kernel_rfl) ?_ _
              clear hS
              have f2 := HW.out.kx.cell 2 rfl
              have H2 := Hid.of (HW.out.below ((Below.refl _ _).alloc (Nat.le_refl _) (.cells #[.bool cb] 4)))
              clear HW
              obtain ⟨ua9, uc9, hu9, -⟩ := own_form2 H2.out.ou
              cases hu9
              go_wp2_with (at_builtin; refine wpList_append_block _ rfl (.tmp 97) (.tmp 101) 169 rfl (w.heap.size + 2) 4 j0 _ 1 1 Tryd.underlying169 ji jz0 jz1 jz2 rfl (by decide) _ _ _ rfl H2.out.ou ⟨Y2.heap.size, 0, none⟩ 1 1 [.bool cb] rfl rfl (cells_one13 Y2 Y2 rfl _ _) (by intro u hu; simp at hu; subst hu; rfl) (by decide) (by unfold maxLen; omega) (by omega) H2.out.hB ?_)
              intro u9 W9 p9 g9 n9
              have Q1 := Hid.of (L13.pushB (y := ((a, x2, 1), cb)) H2.out p9 g9)
              clear p9 g9 n9 H2 f2
              go_wp2_with fail
              go_roundw
              case rel => exact ⟨j + 1, by go_num, by omega, by rw [HNX.out]; exact Q1⟩
              case measure => simp [intOf]; omega
            · have hjD : decide ((j : Int) < (ns.length : Int)) = false := by simp; omega
              rw [List.take_of_length_le (show ns.length ≤ j by omega)] at HW
              have HNX : Hid (ldT ⟨st, ev, starts, ars, ends⟩ seen faults (x1, x2, x3) (k + 1) = (P ++ mvA (x1, x2, x3) 1 ns)) := by show _ = _; rw [ldT_succ, ← HP.out, leadE_un ES.out, fltL_yes EF.out, if_pos EF.out, HN.out]; simp [mvB]
              go_wp2_with fail
              refine wp_loop_rounds 1 ?_
              rw [rounds_succ]
              go_wp2_with fail
              go_roundw
              case rel => exact ⟨k + 1, by go_num, by omega, by rw [HNX.out]; exact (HW.out.setA (own_nil _ _)).setB (own_nil _ _)⟩
              case measure => simp [intOf]; omega
      | false =>
        have EF := Hid.of ef
        clear ef
        go_wp2_with fail
        clear z0
        refine (refHas_any sa sc seen k W2 (hse.out.below HW.out.bel (Nat.le_refl _)) hsl.out).mono ?_
        rintro e W3 ⟨rfl, rfl⟩
        cases es : hasB seen (k : Int) with
        | true =>
          have ES := Hid.of es
          clear es
          go_wp2_with fail
          go_loopw [10, 11, 17] (fun v u i wr' => ∃ j : Nat, i = .int .i64 j ∧ j ≤ ns.length ∧ Hid (L13 w wr' ⟨st, ev, starts, ars, ends⟩ ⟨a1, c1, a2, c2, a3, c3⟩ (x1, x2, x3) v u (.slice aa ns.length ac) (.slice ba bs.length bc) (P ++ crsT (x1, x2, x3) (ns.take j) bs) (P ++ crsT (x1, x2, x3) (ns.take j) bs) ns bs)) (fun _ _ i _ => ns.length - (intOf i).toNat)
          case atStart => exact ⟨0, rfl, Nat.zero_le _, by rw [List.take_zero, show crsT (x1, x2, x3) [] bs = [] from rfl, List.append_nil]; exact HW⟩
          case round =>
            clear HW
            obtain ⟨j, rfl, hj, HW⟩ := hrel
            by_cases hjl : j < ns.length
            · obtain ⟨a, HA⟩ : ∃ a, Hid (ns[j]? = some a) := ⟨_, List.getElem?_eq_getElem hjl⟩
              obtain ⟨ab, ao, haa, -, -⟩ := (own_at13 HW.out.oa).cells_of13 (k := j) hjl
              subst haa
              go_wp2_with fail
              go_loopw [10, 11, 18] (fun v u i wr' => ∃ q : Nat, i = .int .i64 q ∧ q ≤ bs.length ∧ Hid (L13 w wr' ⟨st, ev, starts, ars, ends⟩ ⟨a1, c1, a2, c2, a3, c3⟩ (x1, x2, x3) v u (.slice (some ⟨ab, ao, none⟩) ns.length ac) (.slice ba bs.length bc) (P ++ crsT (x1, x2, x3) (ns.take j) bs ++ (bs.take q).map fun b => ((a, b, x3), decide (x3 = 1))) (P ++ crsT (x1, x2, x3) (ns.take j) bs ++ (bs.take q).map fun b => ((a, b, x3), decide (x3 = 1))) ns bs)) (fun _ _ i _ => bs.length - (intOf i).toNat)
              case atStart => exact ⟨0, rfl, Nat.zero_le _, by rw [List.take_zero, List.map_nil, List.append_nil]; exact HW⟩
              case round =>
                clear HW
                obtain ⟨q, rfl, hq, HW⟩ := hrel
                by_cases hql : q < bs.length
                · obtain ⟨b, HB⟩ : ∃ b, Hid (bs[q]? = some b) := ⟨_, List.getElem?_eq_getElem hql⟩
                  obtain ⟨bb, bo, hba, -, -⟩ := (own_at13 HW.out.ob).cells_of13 (k := q) hql
                  subst hba
                  obtain ⟨R, HR⟩ : ∃ R, Hid (R = (P ++ crsT (x1, x2, x3) (ns.take j) bs ++ (bs.take q).map fun b => ((a, b, x3), decide (x3 = 1)))) := ⟨_, rfl⟩
                  rw [← HR.out] at HW
                  have hRl : R.length ≤ 134283264 + 16785408 := by rw [HR.out]; have h1 := hPl; have h2 : (crsT (x1, x2, x3) (ns.take j) bs).length ≤ 4096 * 4096 := (by rw [crs_len]; exact Nat.mul_le_mul (by rw [List.length_take]; omega) hb4); rw [List.length_append, List.length_append, List.length_map, List.length_take]; omega
                  obtain ⟨va, vc, hv, -⟩ := own_form2 HW.out.ov
                  obtain ⟨ua, uc, hu, -⟩ := own_form2 HW.out.ou
                  subst hv hu
                  have HNX : Hid ((P ++ crsT (x1, x2, x3) (ns.take j) bs ++ (bs.take (q + 1)).map fun b => ((a, b, x3), decide (x3 = 1))) = R ++ [((a, b, x3), cb)]) := by show _ = _; rw [HR.out, step_at HB.out, List.map_append, HCB.out]; simp [List.append_assoc]
                  have hjD : decide ((j : Int) < (ns.length : Int)) = true := by simp; omega
                  have hqD : decide ((q : Int) < (bs.length : Int)) = true := by simp; omega
                  go_wp2_with fail
                  have SA : Hid (∀ W v' u' P' Q', L13 w W ⟨st, ev, starts, ars, ends⟩ ⟨a1, c1, a2, c2, a3, c3⟩ (x1, x2, x3) v' u' (.slice (some ⟨ab, ao, none⟩) ns.length ac) (.slice (some ⟨bb, bo, none⟩) bs.length bc) P' Q' ns bs → W.cell? ⟨ab, ao + j, none⟩ = some (.int .i64 a) ∧ W.cell? ⟨bb, bo + q, none⟩ = some (.int .i64 b) ∧ W.cell? ⟨w.heap.size + 1, 2, none⟩ = some (.int .i64 x3)) := fun W v' u' P' Q' h => ⟨own_cell13 h.oa HA.out, own_cell13 h.ob HB.out, h.kx.cell 2 rfl⟩
                  have bd : Below wr.heap.size wr wr.drew := (Below.refl _ _).drew
                  replace HW := Hid.of (HW.out.below bd)
                  refine wp_region_held_drew (S := fun w' => w'.cell? ⟨ab, ao + j, none⟩ = some (.int .i64 a) ∧ w'.cell? ⟨bb, bo + q, none⟩ = some (.int .i64 b) ∧ w'.cell? ⟨w.heap.size + 1, 2, none⟩ = some (.int .i64 x3)) (by kernel_rfl) (SA.out _ _ _ _ _ HW.out) (fun hS => ?_)
                  clear bd
                  revert HW hS
                  generalize wr.drew = Y
                  intro HW hS
                  refine wpAnyH_take (i := 0) (v := .slice va R.length vc) rfl (by kernel_rfl) (by kernel_rfl) (by kernel_rfl) (fun _ _ _ h => h) (Or.inl ⟨by kernel_rfl, fun w' hw' => by obtain ⟨q0, q1, q2⟩ := hw'; go_simp⟩) hS ?_
                  refine wpAnyH_take (i := 1) (v := .slice (some ⟨ab, ao, none⟩) ns.length ac) rfl (by kernel_rfl) (by kernel_rfl) (by kernel_rfl) (fun _ _ _ h => h) (Or.inl ⟨by kernel_rfl, fun w' hw' => by obtain ⟨q0, q1, q2⟩ := hw'; go_simp⟩) hS ?_
                  refine wpAnyH_take (i := 2) (v := .int .i64 j) rfl (by kernel_rfl) (by kernel_rfl) (by kernel_rfl) (fun _ _ _ h => h) (Or.inl ⟨by kernel_rfl, fun w' hw' => by obtain ⟨q0, q1, q2⟩ := hw'; go_simp⟩) hS ?_
                  refine wpAnyH_take (i := 3) (v := .pointer (some ⟨ab, ao + j, none⟩)) rfl (by kernel_rfl) (by kernel_rfl) (by kernel_rfl) (fun _ _ _ h => h) (Or.inl ⟨by kernel_rfl, fun w' hw' => by obtain ⟨q0, q1, q2⟩ := hw'; go_simp⟩) hS ?_
                  refine wpAnyH_take (i := 4) (v := .int .i64 a) rfl (by kernel_rfl) (by kernel_rfl) (by kernel_rfl) (fun _ _ _ h => h) (Or.inl ⟨by kernel_rfl, fun w' hw' => by obtain ⟨q0, q1, q2⟩ := hw'; go_simp⟩) hS ?_
                  refine wpAnyH_take (i := 5) (v := .slice (some ⟨bb, bo, none⟩) bs.length bc) rfl (by kernel_rfl) (by kernel_rfl) (by kernel_rfl) (fun _ _ _ h => h) (Or.inl ⟨by kernel_rfl, fun w' hw' => by obtain ⟨q0, q1, q2⟩ := hw'; go_simp⟩) hS ?_
                  refine wpAnyH_take (i := 6) (v := .int .i64 q) rfl (by kernel_rfl) (by kernel_rfl) (by kernel_rfl) (fun _ _ _ h => h) (Or.inl ⟨by kernel_rfl, fun w' hw' => by obtain ⟨q0, q1, q2⟩ := hw'; go_simp⟩) hS ?_
                  refine wpAnyH_take (i := 7) (v := .pointer (some ⟨bb, bo + q, none⟩)) rfl (by kernel_rfl) (by kernel_rfl) (by kernel_rfl) (fun _ _ _ h => h) (Or.inl ⟨by kernel_rfl, fun w' hw' => by obtain ⟨q0, q1, q2⟩ := hw'; go_simp⟩) hS ?_
                  refine wpAnyH_take (i := 8) (v := .int .i64 b) rfl (by kernel_rfl) (by kernel_rfl) (by kernel_rfl) (fun _ _ _ h => h) (Or.inl ⟨by kernel_rfl, fun w' hw' => by obtain ⟨q0, q1, q2⟩ := hw'; go_simp⟩) hS ?_
                  refine wpAnyH_take (i := 9) (v := .pointer (some ⟨w.heap.size + 1, 2, none⟩)) rfl (by kernel_rfl) (by kernel_rfl) (by kernel_rfl) (fun _ _ _ h => h) (Or.inl ⟨by kernel_rfl, fun w' hw' => by obtain ⟨q0, q1, q2⟩ := hw'; go_simp⟩) hS ?_
                  refine wpAnyH_take (i := 10) (v := .int .i64 x3) rfl (by kernel_rfl) (by kernel_rfl) (by kernel_rfl) (fun _ _ _ h => h) (Or.inl ⟨by kernel_rfl, fun w' hw' => by obtain ⟨q0, q1, q2⟩ := hw'; go_simp⟩) hS ?_
                  refine wpAnyH_take (i := 11) (v := .agg #[.int .i64 a, .int .i64 b, .int .i64 x3]) rfl (by kernel_rfl) (by kernel_rfl) (by kernel_rfl) (fun _ _ _ h => h) (Or.inl ⟨by kernel_rfl, fun w' hw' => by obtain ⟨q0, q1, q2⟩ := hw'; go_simp⟩) hS ?_
                  simp only [Act.put, List.setIfInBounds_toArray]
                  refine wpAnyH_ready (rs := [12]) (by kernel_rfl) (by simp) ?_
                  refine AllReadyH.cons rfl (fun K' hK' => ?_) AllReadyH.nil
                  clear hS
                  go_simp
                  have hb : Below Y.heap.size Y (Y.alloc (.cells #[.int .i64 a, .int .i64 b, .int .i64 x3] 160)) := (Below.refl _ _).alloc (Nat.le_refl _) _
                  replace HW := Hid.of (HW.out.below hb)
                  have KB : Hid (∀ i u, ([.int .i64 a, .int .i64 b, .int .i64 x3] : List Value)[i]? = some u → (Y.alloc (.cells #[.int .i64 a, .int .i64 b, .int .i64 x3] 160)).cell? ((⟨Y.heap.size, 0, none⟩ : Addr).add i) = some u) := cells_three Y Y rfl _ _ _ _
                  refine hK'.out _ _ (SA.out _ _ _ _ _ HW.out) (fun hS => ?_)
                  clear hK' K' hb
                  revert HW KB hS
                  generalize Y.alloc (.cells #[.int .i64 a, .int .i64 b, .int .i64 x3] 160) = Y1
                  generalize Y.heap.size = pb
                  intro HW KB hS
                  refine wpAnyH_ready (rs := [13]) (by kernel_rfl) (by simp) ?_
                  refine AllReadyH.cons rfl (fun K' hK' => ?_) AllReadyH.nil
                  clear hS
                  have ho := HW.out.ov
                  have hB0 := HW.out.hB
                  refine step_append_block rfl (.tmp 60) (.tmp 72) 153 rfl (w.heap.size + 2) 160 i0 _ 3 24 Tryd.underlying153 hi hz0 hz1 hz2 rfl (by decide) _ _ _ rfl ho ⟨pb, 0, none⟩ 1 1 [.int .i64 a, .int .i64 b, .int .i64 x3] rfl rfl KB.out (by intro u hu; simp at hu; rcases hu with rfl | rfl | rfl <;> rfl) (by decide) (by unfold maxLen; omega) (by omega) hB0 ?_
                  intro v9 Y2 o9 g9 n9
                  replace HW := Hid.of (L13.pushT (y := ((a, b, x3), cb)) HW.out o9 g9)
                  obtain ⟨va9, vc9, hv9, -⟩ := own_form2 HW.out.ov
                  rw [List.length_append, List.length_cons, List.length_nil] at hv9
                  subst hv9
                  refine hK'.out _ _ (SA.out _ _ _ _ _ HW.out) (fun hS => ?_)
                  clear hK' K' o9 g9 n9 ho hB0 KB SA
                  refine wpAnyH_take (i := 14) (v := .slice va9 (R.length + (0 + 1)) vc9) rfl (by kernel_rfl) (by kernel_rfl) (by kernel_rfl) (fun _ _ _ h => h) (Or.inl ⟨by kernel_rfl, fun w' hw' => by obtain ⟨q0, q1, q2⟩ := hw'; go_simp⟩) hS ?_
                  refine wpAnyH_done (by kernel_rfl) ?_ _
                  clear hS
                  have f2 := HW.out.kx.cell 2 rfl
                  have H2 := Hid.of (HW.out.below ((Below.refl _ _).alloc (Nat.le_refl _) (.cells #[.bool cb] 4)))
                  clear HW
                  obtain ⟨ua9, uc9, hu9, -⟩ := own_form2 H2.out.ou
                  cases hu9
                  go_wp2_with (at_builtin; refine wpList_append_block _ rfl (.tmp 74) (.tmp 78) 169 rfl (w.heap.size + 2) 4 j0 _ 1 1 Tryd.underlying169 ji jz0 jz1 jz2 rfl (by decide) _ _ _ rfl H2.out.ou ⟨Y2.heap.size, 0, none⟩ 1 1 [.bool cb] rfl rfl (cells_one13 Y2 Y2 rfl _ _) (by intro u hu; simp at hu; subst hu; rfl) (by decide) (by unfold maxLen; omega) (by omega) H2.out.hB ?_)
                  intro u9 W9 p9 g9 n9
                  have Q1 := Hid.of (L13.pushB (y := ((a, b, x3), cb)) H2.out p9 g9)
                  clear p9 g9 n9 H2 f2
                  go_wp2_with fail
                  go_roundw
                  case rel => exact ⟨q + 1, by go_num, by omega, by rw [HNX.out]; exact Q1⟩
                  case measure => simp [intOf]; omega
                · have hqD : decide ((q : Int) < (bs.length : Int)) = false := by simp; omega
                  have HNX : Hid ((P ++ crsT (x1, x2, x3) (ns.take (j + 1)) bs) = (P ++ crsT (x1, x2, x3) (ns.take j) bs ++ (bs.take q).map fun b => ((a, b, x3), decide (x3 = 1)))) := by show _ = _; rw [step_at HA.out, crsT_snoc, List.take_of_length_le (show bs.length ≤ q by omega), List.append_assoc]
                  go_wp2_with fail
                  go_roundw
                  case rel => exact ⟨j + 1, by go_num, by omega, by rw [HNX.out]; exact HW⟩
                  case measure => simp [intOf]; omega
            · have hjD : decide ((j : Int) < (ns.length : Int)) = false := by simp; omega
              have HNX : Hid (ldT ⟨st, ev, starts, ars, ends⟩ seen faults (x1, x2, x3) (k + 1) = (P ++ crsT (x1, x2, x3) (ns.take j) bs)) := by show _ = _; rw [ldT_succ, ← HP.out, leadE_seen ES.out, fltL_no EF.out, List.take_of_length_le (show ns.length ≤ j by omega), HN.out, HBS.out]
              go_wp2_with fail
              go_roundw
              case rel => exact ⟨k + 1, by go_num, by omega, by rw [HNX.out]; exact (HW.out.setA (own_nil _ _)).setB (own_nil _ _)⟩
              case measure => simp [intOf]; omega
        | false =>
          have ES := Hid.of es
          clear es
          go_wp2_with fail
          go_loopw [10, 11, 19] (fun v u i wr' => ∃ j : Nat, i = .int .i64 j ∧ j ≤ ns.length ∧ Hid (L13 w wr' ⟨st, ev, starts, ars, ends⟩ ⟨a1, c1, a2, c2, a3, c3⟩ (x1, x2, x3) v u (.slice aa ns.length ac) (.slice ba bs.length bc) (P ++ mvA (x1, x2, x3) x3 (ns.take j)) (P ++ mvA (x1, x2, x3) x3 (ns.take j)) ns bs)) (fun _ _ i _ => ns.length - (intOf i).toNat)
          case atStart => exact ⟨0, rfl, Nat.zero_le _, by rw [List.take_zero, show mvA (x1, x2, x3) x3 [] = [] from rfl, List.append_nil]; exact HW⟩
          case round =>
            clear HW
            obtain ⟨j, rfl, hj, HW⟩ := hrel
            by_cases hjl : j < ns.length
            · obtain ⟨a, HA⟩ : ∃ a, Hid (ns[j]? = some a) := ⟨_, List.getElem?_eq_getElem hjl⟩
              obtain ⟨ab, ao, haa, -, -⟩ := (own_at13 HW.out.oa).cells_of13 (k := j) hjl
              subst haa
              obtain ⟨R, HR⟩ : ∃ R, Hid (R = (P ++ mvA (x1, x2, x3) x3 (ns.take j))) := ⟨_, rfl⟩
              rw [← HR.out] at HW
              have hRl : R.length ≤ 134283264 + 16785408 := by rw [HR.out]; have h1 := hPl; unfold mvA; rw [List.length_append, List.length_map, List.length_take]; omega
              obtain ⟨va, vc, hv, -⟩ := own_form2 HW.out.ov
              obtain ⟨ua, uc, hu, -⟩ := own_form2 HW.out.ou
              subst hv hu
              have HNX : Hid ((P ++ mvA (x1, x2, x3) x3 (ns.take (j + 1))) = R ++ [((a, x2, x3), cb)]) := by show _ = _; rw [HR.out, step_at HA.out, mvA_snoc, HCB.out, List.append_assoc]
              have hjD : decide ((j : Int) < (ns.length : Int)) = true := by simp; omega
              go_wp2_with fail
              have SA : Hid (∀ W v' u' P' Q', L13 w W ⟨st, ev, starts, ars, ends⟩ ⟨a1, c1, a2, c2, a3, c3⟩ (x1, x2, x3) v' u' (.slice (some ⟨ab, ao, none⟩) ns.length ac) (.slice ba bs.length bc) P' Q' ns bs → W.cell? ⟨ab, ao + j, none⟩ = some (.int .i64 a) ∧ W.cell? ⟨w.heap.size + 1, 1, none⟩ = some (.int .i64 x2)) := fun W v' u' P' Q' h => ⟨own_cell13 h.oa HA.out, h.kx.cell 1 rfl⟩
              have bd : Below wr.heap.size wr wr.drew := (Below.refl _ _).drew
              replace HW := Hid.of (HW.out.below bd)
              refine wp_region_held_drew (S := fun w' => w'.cell? ⟨ab, ao + j, none⟩ = some (.int .i64 a) ∧ w'.cell? ⟨w.heap.size + 1, 1, none⟩ = some (.int .i64 x2)) (by kernel_rfl) (SA.out _ _ _ _ _ HW.out) (fun hS => ?_)
              clear bd
              revert HW hS
              generalize wr.drew = Y
              intro HW hS
              refine wpAnyH_take (i := 0) (v := .slice va R.length vc) rfl (by kernel_rfl) (by kernel_rfl) (by kernel_rfl) (fun _ _ _ h => h) (Or.inl ⟨by kernel_rfl, fun w' hw' => by obtain ⟨q0, q1⟩ := hw'; go_simp⟩) hS ?_
              refine wpAnyH_take (i := 1) (v := .slice (some ⟨ab, ao, none⟩) ns.length ac) rfl (by kernel_rfl) (by kernel_rfl) (by kernel_rfl) (fun _ _ _ h => h) (Or.inl ⟨by kernel_rfl, fun w' hw' => by obtain ⟨q0, q1⟩ := hw'; go_simp⟩) hS ?_
              refine wpAnyH_take (i := 2) (v := .int .i64 j) rfl (by kernel_rfl) (by kernel_rfl) (by kernel_rfl) (fun _ _ _ h => h) (Or.inl ⟨by kernel_rfl, fun w' hw' => by obtain ⟨q0, q1⟩ := hw'; go_simp⟩) hS ?_
              refine wpAnyH_take (i := 3) (v := .pointer (some ⟨ab, ao + j, none⟩)) rfl (by kernel_rfl) (by kernel_rfl) (by kernel_rfl) (fun _ _ _ h => h) (Or.inl ⟨by kernel_rfl, fun w' hw' => by obtain ⟨q0, q1⟩ := hw'; go_simp⟩) hS ?_
              refine wpAnyH_take (i := 4) (v := .int .i64 a) rfl (by kernel_rfl) (by kernel_rfl) (by kernel_rfl) (fun _ _ _ h => h) (Or.inl ⟨by kernel_rfl, fun w' hw' => by obtain ⟨q0, q1⟩ := hw'; go_simp⟩) hS ?_
              refine wpAnyH_take (i := 5) (v := .pointer (some ⟨w.heap.size + 1, 1, none⟩)) rfl (by kernel_rfl) (by kernel_rfl) (by kernel_rfl) (fun _ _ _ h => h) (Or.inl ⟨by kernel_rfl, fun w' hw' => by obtain ⟨q0, q1⟩ := hw'; go_simp⟩) hS ?_
              refine wpAnyH_take (i := 6) (v := .int .i64 x2) rfl (by kernel_rfl) (by kernel_rfl) (by kernel_rfl) (fun _ _ _ h => h) (Or.inl ⟨by kernel_rfl, fun w' hw' => by obtain ⟨q0, q1⟩ := hw'; go_simp⟩) hS ?_
              refine wpAnyH_take (i := 7) (v := .int .i64 x3) rfl (by kernel_rfl) (by kernel_rfl) (by kernel_rfl) (fun _ _ _ h => h) (Or.inl ⟨by kernel_rfl, fun w' hw' => by obtain ⟨q0, q1⟩ := hw'; go_simp⟩) hS ?_
              refine wpAnyH_take (i := 8) (v := .agg #[.int .i64 a, .int .i64 x2, .int .i64 x3]) rfl (by kernel_rfl) (by kernel_rfl) (by kernel_rfl) (fun _ _ _ h => h) (Or.inl ⟨by kernel_rfl, fun w' hw' => by obtain ⟨q0, q1⟩ := hw'; go_simp⟩) hS ?_
              simp only [Act.put, List.setIfInBounds_toArray]
              refine wpAnyH_ready (rs := [9]) (by kernel_rfl) (by simp) ?_
              refine AllReadyH.cons rfl (fun K' hK' => ?_) AllReadyH.nil
              clear hS
              go_simp
              have hb : Below Y.heap.size Y (Y.alloc (.cells #[.int .i64 a, .int .i64 x2, .int .i64 x3] 160)) := (Below.refl _ _).alloc (Nat.le_refl _) _
              replace HW := Hid.of (HW.out.below hb)
              have KB : Hid (∀ i u, ([.int .i64 a, .int .i64 x2, .int .i64 x3] : List Value)[i]? = some u → (Y.alloc (.cells #[.int .i64 a, .int .i64 x2, .int .i64 x3] 160)).cell? ((⟨Y.heap.size, 0, none⟩ : Addr).add i) = some u) := cells_three Y Y rfl _ _ _ _
              refine hK'.out _ _ (SA.out _ _ _ _ _ HW.out) (fun hS => ?_)
              clear hK' K' hb
              revert HW KB hS
              generalize Y.alloc (.cells #[.int .i64 a, .int .i64 x2, .int .i64 x3] 160) = Y1
              generalize Y.heap.size = pb
              intro HW KB hS
              refine wpAnyH_ready (rs := [10]) (by kernel_rfl) (by simp) ?_
              refine AllReadyH.cons rfl (fun K' hK' => ?_) AllReadyH.nil
              clear hS
              have ho := HW.out.ov
              have hB0 := HW.out.hB
              refine step_append_block rfl (.tmp 86) (.tmp 95) 153 rfl (w.heap.size + 2) 160 i0 _ 3 24 Tryd.underlying153 hi hz0 hz1 hz2 rfl (by decide) _ _ _ rfl ho ⟨pb, 0, none⟩ 1 1 [.int .i64 a, .int .i64 x2, .int .i64 x3] rfl rfl KB.out (by intro u hu; simp at hu; rcases hu with rfl | rfl | rfl <;> rfl) (by decide) (by unfold maxLen; omega) (by omega) hB0 ?_
              intro v9 Y2 o9 g9 n9
              replace HW := Hid.of (L13.pushT (y := ((a, x2, x3), cb)) HW.out o9 g9)
              obtain ⟨va9, vc9, hv9, -⟩ := own_form2 HW.out.ov
              rw [List.length_append, List.length_cons, List.length_nil] at hv9
              subst hv9
              refine hK'.out _ _ (SA.out _ _ _ _ _ HW.out) (fun hS => ?_)
              clear hK' K' o9 g9 n9 ho hB0 KB SA
              refine wpAnyH_take (i := 11) (v := .slice va9 (R.length + (0 + 1)) vc9) rfl (by kernel_rfl) (by kernel_rfl) (by kernel_rfl) (fun _ _ _ h => h) (Or.inl ⟨by kernel_rfl, fun w' hw' => by obtain ⟨q0, q1⟩ := hw'; go_simp⟩) hS ?_
              refine wpAnyH_done (by kernel_rfl) ?_ _
              clear hS
              have f2 := HW.out.kx.cell 2 rfl
              have H2 := Hid.of (HW.out.below ((Below.refl _ _).alloc (Nat.le_refl _) (.cells #[.bool cb] 4)))
              clear HW
              obtain ⟨ua9, uc9, hu9, -⟩ := own_form2 H2.out.ou
              cases hu9
              go_wp2_with (at_builtin; refine wpList_append_block _ rfl (.tmp 97) (.tmp 101) 169 rfl (w.heap.size + 2) 4 j0 _ 1 1 Tryd.underlying169 ji jz0 jz1 jz2 rfl (by decide) _ _ _ rfl H2.out.ou ⟨Y2.heap.size, 0, none⟩ 1 1 [.bool cb] rfl rfl (cells_one13 Y2 Y2 rfl _ _) (by intro u hu; simp at hu; subst hu; rfl) (by decide) (by unfold maxLen; omega) (by omega) H2.out.hB ?_)
              intro u9 W9 p9 g9 n9
              have Q1 := Hid.of (L13.pushB (y := ((a, x2, x3), cb)) H2.out p9 g9)
              clear p9 g9 n9 H2 f2
              go_wp2_with fail
              go_roundw
              case rel => exact ⟨j + 1, by go_num, by omega, by rw [HNX.out]; exact Q1⟩
              case measure => simp [intOf]; omega
            · have hjD : decide ((j : Int) < (ns.length : Int)) = false := by simp; omega
              rw [List.take_of_length_le (show ns.length ≤ j by omega)] at HW
              go_wp2_with fail
              go_loopw [10, 11, 20] (fun v u i wr' => ∃ q : Nat, i = .int .i64 q ∧ q ≤ bs.length ∧ Hid (L13 w wr' ⟨st, ev, starts, ars, ends⟩ ⟨a1, c1, a2, c2, a3, c3⟩ (x1, x2, x3) v u (.slice aa ns.length ac) (.slice ba bs.length bc) (P ++ mvA (x1, x2, x3) x3 ns ++ mvB (x1, x2, x3) (bs.take q)) (P ++ mvA (x1, x2, x3) x3 ns ++ mvB (x1, x2, x3) (bs.take q)) ns bs)) (fun _ _ i _ => bs.length - (intOf i).toNat)
              case atStart => exact ⟨0, rfl, Nat.zero_le _, by rw [List.take_zero, show mvB (x1, x2, x3) [] = [] from rfl, List.append_nil]; exact HW⟩
              case round =>
                clear HW
                obtain ⟨q, rfl, hq, HW⟩ := hrel
                by_cases hql : q < bs.length
                · obtain ⟨b, HB⟩ : ∃ b, Hid (bs[q]? = some b) := ⟨_, List.getElem?_eq_getElem hql⟩
                  obtain ⟨bb, bo, hba, -, -⟩ := (own_at13 HW.out.ob).cells_of13 (k := q) hql
                  subst hba
                  obtain ⟨R, HR⟩ : ∃ R, Hid (R = (P ++ mvA (x1, x2, x3) x3 ns ++ mvB (x1, x2, x3) (bs.take q))) := ⟨_, rfl⟩
                  rw [← HR.out] at HW
                  have hRl : R.length ≤ 134283264 + 16785408 := by rw [HR.out]; have h1 := hPl; unfold mvA mvB; rw [List.length_append, List.length_append, List.length_map, List.length_map, List.length_take]; omega
                  obtain ⟨va, vc, hv, -⟩ := own_form2 HW.out.ov
                  obtain ⟨ua, uc, hu, -⟩ := own_form2 HW.out.ou
                  subst hv hu
                  have HNX : Hid ((P ++ mvA (x1, x2, x3) x3 ns ++ mvB (x1, x2, x3) (bs.take (q + 1))) = R ++ [((x1, b, x3), false)]) := by show _ = _; rw [HR.out, step_at HB.out, mvB_snoc, ← List.append_assoc]
                  have hqD : decide ((q : Int) < (bs.length : Int)) = true := by simp; omega
                  go_wp2_with fail
                  have SA : Hid (∀ W v' u' P' Q', L13 w W ⟨st, ev, starts, ars, ends⟩ ⟨a1, c1, a2, c2, a3, c3⟩ (x1, x2, x3) v' u' (.slice aa ns.length ac) (.slice (some ⟨bb, bo, none⟩) bs.length bc) P' Q' ns bs → W.cell? ⟨w.heap.size + 1, 0, none⟩ = some (.int .i64 x1) ∧ W.cell? ⟨bb, bo + q, none⟩ = some (.int .i64 b) ∧ W.cell? ⟨w.heap.size + 1, 2, none⟩ = some (.int .i64 x3)) := fun W v' u' P' Q' h => ⟨h.kx.cell 0 rfl, own_cell13 h.ob HB.out, h.kx.cell 2 rfl⟩
                  have bd : Below wr.heap.size wr wr.drew := (Below.refl _ _).drew
                  replace HW := Hid.of (HW.out.below bd)
                  refine wp_region_held_drew (S := fun w' => w'.cell? ⟨w.heap.size + 1, 0, none⟩ = some (.int .i64 x1) ∧ w'.cell? ⟨bb, bo + q, none⟩ = some (.int .i64 b) ∧ w'.cell? ⟨w.heap.size + 1, 2, none⟩ = some (.int .i64 x3)) (by kernel_rfl) (SA.out _ _ _ _ _ HW.out) (fun hS => ?_)
                  clear bd
                  revert HW hS
                  generalize wr.drew = Y
                  intro HW hS
                  refine wpAnyH_take (i := 0) (v := .slice va R.length vc) rfl (by kernel_rfl) (by kernel_rfl) (by kernel_rfl) (fun _ _ _ h => h) (Or.inl ⟨by kernel_rfl, fun w' hw' => by obtain ⟨q0, q1, q2⟩ := hw'; go_simp⟩) hS ?_
                  refine wpAnyH_take (i := 1) (v := .pointer (some ⟨w.heap.size + 1, 0, none⟩)) rfl (by kernel_rfl) (by kernel_rfl) (by kernel_rfl) (fun _ _ _ h => h) (Or.inl ⟨by kernel_rfl, fun w' hw' => by obtain ⟨q0, q1, q2⟩ := hw'; go_simp⟩) hS ?_
                  refine wpAnyH_take (i := 2) (v := .int .i64 x1) rfl (by kernel_rfl) (by kernel_rfl) (by kernel_rfl) (fun _ _ _ h => h) (Or.inl ⟨by kernel_rfl, fun w' hw' => by obtain ⟨q0, q1, q2⟩ := hw'; go_simp⟩) hS ?_
                  refine wpAnyH_take (i := 3) (v := .slice (some ⟨bb, bo, none⟩) bs.length bc) rfl (by kernel_rfl) (by kernel_rfl) (by kernel_rfl) (fun _ _ _ h => h) (Or.inl ⟨by kernel_rfl, fun w' hw' => by obtain ⟨q0, q1, q2⟩ := hw'; go_simp⟩) hS ?_
                  refine wpAnyH_take (i := 4) (v := .int .i64 q) rfl (by kernel_rfl) (by kernel_rfl) (by kernel_rfl) (fun _ _ _ h => h) (Or.inl ⟨by kernel_rfl, fun w' hw' => by obtain ⟨q0, q1, q2⟩ := hw'; go_simp⟩) hS ?_
                  refine wpAnyH_take (i := 5) (v := .pointer (some ⟨bb, bo + q, none⟩)) rfl (by kernel_rfl) (by kernel_rfl) (by kernel_rfl) (fun _ _ _ h => h) (Or.inl ⟨by kernel_rfl, fun w' hw' => by obtain ⟨q0, q1, q2⟩ := hw'; go_simp⟩) hS ?_
                  refine wpAnyH_take (i := 6) (v := .int .i64 b) rfl (by kernel_rfl) (by kernel_rfl) (by kernel_rfl) (fun _ _ _ h => h) (Or.inl ⟨by kernel_rfl, fun w' hw' => by obtain ⟨q0, q1, q2⟩ := hw'; go_simp⟩) hS ?_
                  refine wpAnyH_take (i := 7) (v := .pointer (some ⟨w.heap.size + 1, 2, none⟩)) rfl (by kernel_rfl) (by kernel_rfl) (by kernel_rfl) (fun _ _ _ h => h) (Or.inl ⟨by kernel_rfl, fun w' hw' => by obtain ⟨q0, q1, q2⟩ := hw'; go_simp⟩) hS ?_
                  refine wpAnyH_take (i := 8) (v := .int .i64 x3) rfl (by kernel_rfl) (by kernel_rfl) (by kernel_rfl) (fun _ _ _ h => h) (Or.inl ⟨by kernel_rfl, fun w' hw' => by obtain ⟨q0, q1, q2⟩ := hw'; go_simp⟩) hS ?_
                  refine wpAnyH_take (i := 9) (v := .agg #[.int .i64 x1, .int .i64 b, .int .i64 x3]) rfl (by kernel_rfl) (by kernel_rfl) (by kernel_rfl) (fun _ _ _ h => h) (Or.inl ⟨by kernel_rfl, fun w' hw' => by obtain ⟨q0, q1, q2⟩ := hw'; go_simp⟩) hS ?_
                  simp only [Act.put, List.setIfInBounds_toArray]
                  refine wpAnyH_ready (rs := [10]) (by kernel_rfl) (by simp) ?_
                  refine AllReadyH.cons rfl (fun K' hK' => ?_) AllReadyH.nil
                  clear hS
                  go_simp
                  have hb : Below Y.heap.size Y (Y.alloc (.cells #[.int .i64 x1, .int .i64 b, .int .i64 x3] 160)) := (Below.refl _ _).alloc (Nat.le_refl _) _
                  replace HW := Hid.of (HW.out.below hb)
                  have KB : Hid (∀ i u, ([.int .i64 x1, .int .i64 b, .int .i64 x3] : List Value)[i]? = some u → (Y.alloc (.cells #[.int .i64 x1, .int .i64 b, .int .i64 x3] 160)).cell? ((⟨Y.heap.size, 0, none⟩ : Addr).add i) = some u) := cells_three Y Y rfl _ _ _ _
                  refine hK'.out _ _ (SA.out _ _ _ _ _ HW.out) (fun hS => ?_)
                  clear hK' K' hb
                  revert HW KB hS
                  generalize Y.alloc (.cells #[.int .i64 x1, .int .i64 b, .int .i64 x3] 160) = Y1
                  generalize Y.heap.size = pb
                  intro HW KB hS
                  refine wpAnyH_ready (rs := [11]) (by kernel_rfl) (by simp) ?_
                  refine AllReadyH.cons rfl (fun K' hK' => ?_) AllReadyH.nil
                  clear hS
                  have ho := HW.out.ov
                  have hB0 := HW.out.hB
                  refine step_append_block rfl (.tmp 109) (.tmp 119) 153 rfl (w.heap.size + 2) 160 i0 _ 3 24 Tryd.underlying153 hi hz0 hz1 hz2 rfl (by decide) _ _ _ rfl ho ⟨pb, 0, none⟩ 1 1 [.int .i64 x1, .int .i64 b, .int .i64 x3] rfl rfl KB.out (by intro u hu; simp at hu; rcases hu with rfl | rfl | rfl <;> rfl) (by decide) (by unfold maxLen; omega) (by omega) hB0 ?_
                  intro v9 Y2 o9 g9 n9
                  replace HW := Hid.of (L13.pushT (y := ((x1, b, x3), false)) HW.out o9 g9)
                  obtain ⟨va9, vc9, hv9, -⟩ := own_form2 HW.out.ov
                  rw [List.length_append, List.length_cons, List.length_nil] at hv9
                  subst hv9
                  refine hK'.out _ _ (SA.out _ _ _ _ _ HW.out) (fun hS => ?_)
                  clear hK' K' o9 g9 n9 ho hB0 KB SA
                  refine wpAnyH_take (i := 12) (v := .slice va9 (R.length + (0 + 1)) vc9) rfl (by kernel_rfl) (by kernel_rfl) (by kernel_rfl) (fun _ _ _ h => h) (Or.inl ⟨by kernel_rfl, fun w' hw' => by obtain ⟨q0, q1, q2⟩ := hw'; go_simp⟩) hS ?_
                  refine wpAnyH_done (by kernel_rfl) ?_ _
                  clear hS
                  have f2 := HW.out.kx.cell 2 rfl
                  have H2 := Hid.of (HW.out.below ((Below.refl _ _).alloc (Nat.le_refl _) (.cells #[.bool false] 4)))
                  clear HW
                  obtain ⟨ua9, uc9, hu9, -⟩ := own_form2 H2.out.ou
                  cases hu9
                  go_wp2_with (at_builtin; refine wpList_append_block _ rfl (.tmp 121) (.tmp 122) 169 rfl (w.heap.size + 2) 4 j0 _ 1 1 Tryd.underlying169 ji jz0 jz1 jz2 rfl (by decide) _ _ _ rfl H2.out.ou ⟨Y2.heap.size, 0, none⟩ 1 1 [.bool false] rfl rfl (cells_one13 Y2 Y2 rfl _ _) (by intro u hu; simp at hu; subst hu; rfl) (by decide) (by unfold maxLen; omega) (by omega) H2.out.hB ?_)
                  intro u9 W9 p9 g9 n9
                  have Q1 := Hid.of (L13.pushB (y := ((x1, b, x3), false)) H2.out p9 g9)
                  clear p9 g9 n9 H2 f2
                  go_wp2_with fail
                  go_roundw
                  case rel => exact ⟨q + 1, by go_num, by omega, by rw [HNX.out]; exact Q1⟩
                  case measure => simp [intOf]; omega
                · have hqD : decide ((q : Int) < (bs.length : Int)) = false := by simp; omega
                  have HNX : Hid (ldT ⟨st, ev, starts, ars, ends⟩ seen faults (x1, x2, x3) (k + 1) = (P ++ mvA (x1, x2, x3) x3 ns ++ mvB (x1, x2, x3) (bs.take q))) := by show _ = _; rw [ldT_succ, ← HP.out, leadE_un ES.out, fltL_no EF.out, if_neg (by rw [EF.out]; simp), List.take_of_length_le (show bs.length ≤ q by omega), HN.out, HBS.out, List.append_assoc]
                  go_wp2_with fail
                  go_roundw
                  case rel => exact ⟨k + 1, by go_num, by omega, by rw [HNX.out]; exact (HW.out.setA (own_nil _ _)).setB (own_nil _ _)⟩
                  case measure => simp [intOf]; omega
    · have hkD : decide ((k : Int) < ev) = false := by simp; omega
      have HE : Hid (P = leadsT ⟨st, ev, starts, ars, ends⟩ seen faults (x1, x2, x3)) := by
        show _ = _
        rw [HP.out]
        unfold ldT leadsT
        rw [show ev.toNat = k by omega]
      go_wp2_with fail
      go_ret2
      refine ⟨_, _, rfl, ?_, ?_, HW.out.bel⟩
      · rw [← HE.out]; exact own_low13 HW.out.ov (by omega)
      · rw [← HE.out]; exact own_low13 HW.out.ou (by omega)
end Go.Proofs.YtmlkpdeidpcidaaDoor
