/-
  The walk of jalousieref13.Twins.
  What the walk of jalousieref13.Delay knows of the memory; bounds.
  The walk of jalousieref13.Delay.
  The walk of the law DelayTells.
-/
import Derived.Test.YtmlkpdeidpcidaaDoorG68
import Derived.Test.YtmlkpdeidpcidaaDoorCR13L
import Derived.Test.YtmlkpdeidpcidaaDoorCRowCB
import Derived.Test.YtmlkpdeidpcidaaDoorCRefMay
import Derived.Test.YtmlkpdeidpcidaaDoorG04
namespace Go.Proofs.YtmlkpdeidpcidaaDoor
open Go.RowKit
set_option linter.unusedVariables false

theorem at_cell13 {w : World} {ab ao : Nat} {xs : List Int} (h : At w (some ⟨ab, ao, none⟩) xs) {i : Nat} {a : Int} (hi : xs[i]? = some a) : ab < w.heap.size ∧ w.cell? ⟨ab, ao + i, none⟩ = some (.int .i64 a) := by
  rcases h with h0 | ⟨b, off, e2, hb, hc⟩
  · subst h0; simp at hi
  · cases e2
    obtain ⟨x, hx, hcx⟩ := hc.at (List.getElem?_eq_some_iff.1 hi).1
    refine ⟨hb, ?_⟩
    rw [hcx, hx.out, hi]; rfl
theorem ownW_cell13 {W : World} {B g o n c : Nat} {L : List Tw} (h : OwnW W B (.slice (some ⟨g, o, none⟩) n c) L) {k : Nat} {x : Tw} (hk : L[k]? = some x) : W.cell? ⟨g, o + k * 3, none⟩ = some (.int .i64 x.1) ∧ W.cell? ⟨g, o + k * 3 + 1, none⟩ = some (.int .i64 x.2.1) ∧ W.cell? ⟨g, o + k * 3 + 2, none⟩ = some (.int .i64 x.2.2) := by
  obtain ⟨g', o', e, -, h1, h2, h3⟩ := (ownW_at h).get hk
  cases e
  exact ⟨h1, h2, h3⟩
theorem leadsT_len {m : Mach} (hm : m.arrows.length ≤ 4096) (hev : m.ev ≤ 8) (seen faults : List Int) (x : Tw) : (leadsT m seen faults x).length ≤ 134283264 := by
  have h1 := ldT_len hm seen faults x m.ev.toNat
  have h2 : m.ev.toNat ≤ 8 := by omega
  exact Nat.le_trans h1 (Nat.le_trans (Nat.mul_le_mul_right _ h2) (by omega))
theorem nodup_sub_T {m : Mach} {seen faults : List Int} {k : Nat} {s : List Tw × List Edg} (h : NI (leadsT m seen faults) (allT2 m) (twS m) k s) (h72 : (allT2 m).length ≤ 72) : s.1.length ≤ 72 := Nat.le_trans (nodup_sub h.nd h.inU) h72
set_option maxRecDepth 100000 in
set_option maxHeartbeats 16000000 in
theorem rttwins_go (st ev : Int) (starts : List Int) (ars : List Arr) (ends : List Int) (a1 : Option Addr) (c1 : Nat) (a2 : Option Addr) (c2 : Nat) (a3 : Option Addr) (c3 : Nat) (sa : Option Addr) (sc : Nat) (seen : List Int) (fa : Option Addr) (fc : Nat) (faults : List Int) (w : World) (hma : Hid (MAt w ⟨st, ev, starts, ars, ends⟩ ⟨a1, c1, a2, c2, a3, c3⟩)) (hmm : Hid (mayB ⟨st, ev, starts, ars, ends⟩ = true)) (hz6 : st ≤ 6) (hse : Hid (At w sa seen)) (hsl : Hid (seen.length ≤ maxLen)) (hfa : Hid (At w fa faults)) (hfl : Hid (faults.length ≤ maxLen)) :
    Calls Tryd.prog 103 #[mval ⟨st, ev, starts, ars, ends⟩ ⟨a1, c1, a2, c2, a3, c3⟩, .slice sa seen.length sc, .slice fa faults.length fc] w fun e w' => TwinsPost w (twins ⟨st, ev, starts, ars, ends⟩ seen faults) e w' := by
  obtain ⟨i0, hi, hz0, hz1, hz2⟩ := info_parts Tryd.infoTwin13
  obtain ⟨j0, ji, jz0, jz1, jz2⟩ := info_parts Tryd.infoEdge13
  have hz := mayB_size hmm.out
  unfold sizeOk at hz
  dsimp only at hz
  have hlen : ars.length ≤ 4096 := by omega
  have hev0 : 0 ≤ ev := by omega
  have hev : ev ≤ 8 := by omega
  have hs6 : starts.length ≤ 6 := by
    have h1 := nodup_len st.toNat starts (inc_nodup (may_starts hmm.out).1) (fun x hx => by have := (may_starts hmm.out).2 x hx; dsimp only at this; omega)
    omega
  have h72 : Hid ((allT2 ⟨st, ev, starts, ars, ends⟩).length ≤ 72) := allT2_len hz6
  have hst : Hid (At w a1 starts) := hma.out.s
  have HN0 : Hid (NI (leadsT ⟨st, ev, starts, ars, ends⟩ seen faults) (allT2 ⟨st, ev, starts, ars, ends⟩) (twS ⟨st, ev, starts, ars, ends⟩) 0 (twT starts starts, [])) := ni_start (twS_nodup hmm.out) fun x hx => by
    obtain ⟨h1, h2, h3⟩ := mem_twS.1 hx
    exact mem_allT2 ((may_starts hmm.out).2 _ h1) ((may_starts hmm.out).2 _ h2) (.inl h3)
  clear hz
  have HW0 : Hid (T13 w (w.alloc (.cells (mcells ⟨st, ev, starts, ars, ends⟩ ⟨a1, c1, a2, c2, a3, c3⟩) 25)) ⟨st, ev, starts, ars, ends⟩ ⟨a1, c1, a2, c2, a3, c3⟩ (.slice none 0 0) (.slice none 0 0) (.slice none 0 0) (.slice none 0 0) [] [] []) :=
    ⟨(Below.refl _ _).alloc (Nat.le_refl _) _, Blk.new w _ _, ownW_nil _ _, ownE_nil _ _, ownT_nil _ _, ownL_nil _ _, .inl rfl, by simp⟩
  go_enter Tryd.func103, Tryd.ntmps103
  go_wp2_with fail
  revert HW0
  generalize w.alloc (.cells (mcells ⟨st, ev, starts, ars, ends⟩ ⟨a1, c1, a2, c2, a3, c3⟩) 25) = V
  intro HW0
  go_loopw [8, 10] (fun v i wr' => ∃ j : Nat, i = .int .i64 j ∧ j ≤ starts.length ∧ Hid (T13 w wr' ⟨st, ev, starts, ars, ends⟩ ⟨a1, c1, a2, c2, a3, c3⟩ v (.slice none 0 0) (.slice none 0 0) (.slice none 0 0) (twT (starts.take j) starts) [] [])) (fun _ i _ => starts.length - (intOf i).toNat)
  case atStart => exact ⟨0, rfl, Nat.zero_le _, HW0⟩
  case round =>
    clear HW0
    obtain ⟨j, rfl, hj, HW⟩ := hrel
    obtain ⟨y0, y1, y2, y3, y4⟩ := mcell_at HW.out.km
    dsimp only at y0 y1 y2 y3 y4
    by_cases hjl : j < starts.length
    · obtain ⟨a, HA⟩ : ∃ a, Hid (starts[j]? = some a) := ⟨_, List.getElem?_eq_getElem hjl⟩
      obtain ⟨ab, ao, haa, -, -⟩ := (hst.out).cells_of13 (k := j) hjl
      subst haa
      go_wp2_with fail
      clear y0 y1 y2 y3 y4
      go_loopw [8, 11] (fun v i wr' => ∃ q : Nat, i = .int .i64 q ∧ q ≤ starts.length ∧ Hid (T13 w wr' ⟨st, ev, starts, ars, ends⟩ ⟨some ⟨ab, ao, none⟩, c1, a2, c2, a3, c3⟩ v (.slice none 0 0) (.slice none 0 0) (.slice none 0 0) (twT (starts.take j) starts ++ (starts.take q).map fun b => ((a, b, 0) : Tw)) [] [])) (fun _ i _ => starts.length - (intOf i).toNat)
      case atStart => exact ⟨0, rfl, Nat.zero_le _, by rw [List.take_zero, List.map_nil, List.append_nil]; exact HW⟩
      case round =>
        clear HW
        obtain ⟨q, rfl, hq, HW⟩ := hrel
        obtain ⟨y0, y1, y2, y3, y4⟩ := mcell_at HW.out.km
        dsimp only at y0 y1 y2 y3 y4
        by_cases hql : q < starts.length
        · obtain ⟨b, HB⟩ : ∃ b, Hid (starts[q]? = some b) := ⟨_, List.getElem?_eq_getElem hql⟩
          obtain ⟨R, HR⟩ : ∃ R : List Tw, Hid (R = (twT (starts.take j) starts ++ (starts.take q).map fun b => ((a, b, 0) : Tw))) := ⟨_, rfl⟩
          rw [← HR.out] at HW
          have hRl : R.length ≤ 100 := by rw [HR.out, List.length_append, List.length_map, List.length_take, twT_len, List.length_take]; have h1 : min j starts.length * starts.length ≤ 6 * 6 := Nat.mul_le_mul (by omega) hs6; omega
          obtain ⟨va, vc, hv, -⟩ := own_form2 HW.out.ov
          subst hv
          have HNX : Hid ((twT (starts.take j) starts ++ (starts.take (q + 1)).map fun b => ((a, b, 0) : Tw)) = R ++ [(a, b, 0)]) := by show _ = _; rw [HR.out, step_at HB.out, List.map_append, ← List.append_assoc]; rfl
          have hjD : decide ((j : Int) < (starts.length : Int)) = true := by simp; omega
          have hqD : decide ((q : Int) < (starts.length : Int)) = true := by simp; omega
          go_wp2_with fail
          clear y0 y1 y2 y3 y4
          have SA : Hid (∀ W v' R', T13 w W ⟨st, ev, starts, ars, ends⟩ ⟨some ⟨ab, ao, none⟩, c1, a2, c2, a3, c3⟩ v' (.slice none 0 0) (.slice none 0 0) (.slice none 0 0) R' [] [] → W.cell? ⟨w.heap.size, 2, none⟩ = some (.slice (some ⟨ab, ao, none⟩) starts.length c1) ∧ W.cell? ⟨ab, ao + j, none⟩ = some (.int .i64 a) ∧ W.cell? ⟨ab, ao + q, none⟩ = some (.int .i64 b)) := fun W v' R' h => ⟨h.km.cell 2 rfl, (h.bel.cell (p := ⟨ab, ao + j, none⟩) (at_cell13 hst.out HA.out).1).trans (at_cell13 hst.out HA.out).2, (h.bel.cell (p := ⟨ab, ao + q, none⟩) (at_cell13 hst.out HB.out).1).trans (at_cell13 hst.out HB.out).2⟩
          have bd : Below wr.heap.size wr wr.drew := (Below.refl _ _).drew
          replace HW := Hid.of (HW.out.below bd)
          refine wp_region_held_drew (S := fun w' => w'.cell? ⟨w.heap.size, 2, none⟩ = some (.slice (some ⟨ab, ao, none⟩) starts.length c1) ∧ w'.cell? ⟨ab, ao + j, none⟩ = some (.int .i64 a) ∧ w'.cell? ⟨ab, ao + q, none⟩ = some (.int .i64 b)) (by kernel_rfl) (SA.out _ _ _ HW.out) (fun hS => ?_)
          clear bd
          revert HW hS
          generalize wr.drew = Y
          intro HW hS
          refine wpAnyH_take (i := 0) (v := .slice va R.length vc) rfl (by kernel_rfl) (by kernel_rfl) (by kernel_rfl) (fun _ _ _ h => h) (Or.inl ⟨by kernel_rfl, fun w' hw' => by obtain ⟨q0, q1, q2⟩ := hw'; go_simp⟩) hS ?_
          refine wpAnyH_take (i := 1) (v := .pointer (some ⟨w.heap.size, 2, none⟩)) rfl (by kernel_rfl) (by kernel_rfl) (by kernel_rfl) (fun _ _ _ h => h) (Or.inl ⟨by kernel_rfl, fun w' hw' => by obtain ⟨q0, q1, q2⟩ := hw'; go_simp⟩) hS ?_
          refine wpAnyH_take (i := 2) (v := .slice (some ⟨ab, ao, none⟩) starts.length c1) rfl (by kernel_rfl) (by kernel_rfl) (by kernel_rfl) (fun _ _ _ h => h) (Or.inl ⟨by kernel_rfl, fun w' hw' => by obtain ⟨q0, q1, q2⟩ := hw'; go_simp⟩) hS ?_
          refine wpAnyH_take (i := 3) (v := .int .i64 j) rfl (by kernel_rfl) (by kernel_rfl) (by kernel_rfl) (fun _ _ _ h => h) (Or.inl ⟨by kernel_rfl, fun w' hw' => by obtain ⟨q0, q1, q2⟩ := hw'; go_simp⟩) hS ?_
          refine wpAnyH_take (i := 4) (v := .pointer (some ⟨ab, ao + j, none⟩)) rfl (by kernel_rfl) (by kernel_rfl) (by kernel_rfl) (fun _ _ _ h => h) (Or.inl ⟨by kernel_rfl, fun w' hw' => by obtain ⟨q0, q1, q2⟩ := hw'; go_simp⟩) hS ?_
          refine wpAnyH_take (i := 5) (v := .int .i64 a) rfl (by kernel_rfl) (by kernel_rfl) (by kernel_rfl) (fun _ _ _ h => h) (Or.inl ⟨by kernel_rfl, fun w' hw' => by obtain ⟨q0, q1, q2⟩ := hw'; go_simp⟩) hS ?_
          refine wpAnyH_take (i := 6) (v := .pointer (some ⟨w.heap.size, 2, none⟩)) rfl (by kernel_rfl) (by kernel_rfl) (by kernel_rfl) (fun _ _ _ h => h) (Or.inl ⟨by kernel_rfl, fun w' hw' => by obtain ⟨q0, q1, q2⟩ := hw'; go_simp⟩) hS ?_
          refine wpAnyH_take (i := 7) (v := .slice (some ⟨ab, ao, none⟩) starts.length c1) rfl (by kernel_rfl) (by kernel_rfl) (by kernel_rfl) (fun _ _ _ h => h) (Or.inl ⟨by kernel_rfl, fun w' hw' => by obtain ⟨q0, q1, q2⟩ := hw'; go_simp⟩) hS ?_
          refine wpAnyH_take (i := 8) (v := .int .i64 q) rfl (by kernel_rfl) (by kernel_rfl) (by kernel_rfl) (fun _ _ _ h => h) (Or.inl ⟨by kernel_rfl, fun w' hw' => by obtain ⟨q0, q1, q2⟩ := hw'; go_simp⟩) hS ?_
          refine wpAnyH_take (i := 9) (v := .pointer (some ⟨ab, ao + q, none⟩)) rfl (by kernel_rfl) (by kernel_rfl) (by kernel_rfl) (fun _ _ _ h => h) (Or.inl ⟨by kernel_rfl, fun w' hw' => by obtain ⟨q0, q1, q2⟩ := hw'; go_simp⟩) hS ?_
          refine wpAnyH_take (i := 10) (v := .int .i64 b) rfl (by kernel_rfl) (by kernel_rfl) (by kernel_rfl) (fun _ _ _ h => h) (Or.inl ⟨by kernel_rfl, fun w' hw' => by obtain ⟨q0, q1, q2⟩ := hw'; go_simp⟩) hS ?_
          refine wpAnyH_take (i := 11) (v := .agg #[.int .i64 a, .int .i64 b, .int .i64 0]) rfl (by kernel_rfl) (by kernel_rfl) (by kernel_rfl) (fun _ _ _ h => h) (Or.inl ⟨by kernel_rfl, fun w' hw' => by obtain ⟨q0, q1, q2⟩ := hw'; go_simp⟩) hS ?_
          simp only [Act.put, List.setIfInBounds_toArray]
          refine wpAnyH_ready (rs := [12]) (by kernel_rfl) (by simp) ?_
          refine AllReadyH.cons rfl (fun K' hK' => ?_) AllReadyH.nil
          clear hS
          go_simp
          have hb : Below Y.heap.size Y (Y.alloc (.cells #[.int .i64 a, .int .i64 b, .int .i64 0] 160)) := (Below.refl _ _).alloc (Nat.le_refl _) _
          replace HW := Hid.of (HW.out.below hb)
          have KB : Hid (∀ i u, ([.int .i64 a, .int .i64 b, .int .i64 0] : List Value)[i]? = some u → (Y.alloc (.cells #[.int .i64 a, .int .i64 b, .int .i64 0] 160)).cell? ((⟨Y.heap.size, 0, none⟩ : Addr).add i) = some u) := cells_three Y Y rfl _ _ _ _
          refine hK'.out _ _ (SA.out _ _ _ HW.out) (fun hS => ?_)
          clear hK' K' hb
          revert HW KB hS
          generalize Y.alloc (.cells #[.int .i64 a, .int .i64 b, .int .i64 0] 160) = Y1
          generalize Y.heap.size = pb
          intro HW KB hS
          refine wpAnyH_ready (rs := [13]) (by kernel_rfl) (by simp) ?_
          refine AllReadyH.cons rfl (fun K' hK' => ?_) AllReadyH.nil
          clear hS
          have ho := HW.out.ov
          have hB0 := HW.out.hB
          refine step_append_block rfl (.tmp 31) (.tmp 43) 153 rfl (w.heap.size + 1) 160 i0 _ 3 24 Tryd.underlying153 hi hz0 hz1 hz2 rfl (by decide) _ _ _ rfl ho ⟨pb, 0, none⟩ 1 1 [.int .i64 a, .int .i64 b, .int .i64 0] rfl rfl KB.out (by intro u hu; simp at hu; rcases hu with rfl | rfl | rfl <;> rfl) (by decide) (by unfold maxLen; omega) (by omega) hB0 ?_
          intro v9 Y2 o9 g9 n9
          replace HW := Hid.of (T13.pushW (y := (a, b, 0)) HW.out o9 g9 n9)
          obtain ⟨va9, vc9, hv9, -⟩ := own_form2 HW.out.ov
          rw [List.length_append, List.length_cons, List.length_nil] at hv9
          subst hv9
          refine hK'.out _ _ (SA.out _ _ _ HW.out) (fun hS => ?_)
          clear hK' K' o9 g9 n9 ho hB0 KB SA
          refine wpAnyH_take (i := 14) (v := .slice va9 (R.length + (0 + 1)) vc9) rfl (by kernel_rfl) (by kernel_rfl) (by kernel_rfl) (fun _ _ _ h => h) (Or.inl ⟨by kernel_rfl, fun w' hw' => by obtain ⟨q0, q1, q2⟩ := hw'; go_simp⟩) hS ?_
          refine wpAnyH_done (by kernel_rfl) ?_ _
          clear hS
          go_wp2_with fail
          go_roundw
          case rel => exact ⟨q + 1, by go_num, by omega, by rw [HNX.out]; exact HW⟩
          case measure => simp [intOf]; omega
        · have hqD : decide ((q : Int) < (starts.length : Int)) = false := by simp; omega
          have HNX : Hid ((twT (starts.take (j + 1)) starts) = (twT (starts.take j) starts ++ (starts.take q).map fun b => ((a, b, 0) : Tw))) := by show _ = _; rw [step_at HA.out, twT_snoc, List.take_of_length_le (show starts.length ≤ q by omega)]
          go_wp2_with fail
          go_roundw
          case rel => exact ⟨j + 1, by go_num, by omega, by rw [HNX.out]; exact HW⟩
          case measure => simp [intOf]; omega
    · have hjD : decide ((j : Int) < (starts.length : Int)) = false := by simp; omega
      rw [List.take_of_length_le (show starts.length ≤ j by omega)] at HW
      go_wp2_with fail
      clear y0 y1 y2 y3 y4
      go_loopw [8, 9, 12] (fun v u i wr' => ∃ (k : Nat) (L : List Tw) (E : List Edg), i = .int .i64 k ∧ k ≤ L.length ∧ L.length ≤ 72 ∧ E.length ≤ k * 134283264 ∧ Hid (T13 w wr' ⟨st, ev, starts, ars, ends⟩ ⟨a1, c1, a2, c2, a3, c3⟩ v u (.slice none 0 0) (.slice none 0 0) L E []) ∧ Hid (NI (leadsT ⟨st, ev, starts, ars, ends⟩ seen faults) (allT2 ⟨st, ev, starts, ars, ends⟩) (twS ⟨st, ev, starts, ars, ends⟩) k (L, E)) ∧ Hid (twins ⟨st, ev, starts, ars, ends⟩ seen faults = nGo (leadsT ⟨st, ev, starts, ars, ends⟩ seen faults) (0, 0, 0) (100 - k) k (L, E))) (fun _ _ i _ => 73 - (intOf i).toNat)
      case atStart => exact ⟨0, twT starts starts, [], rfl, Nat.zero_le _, nodup_sub_T HN0.out h72.out, by simp, HW, HN0, rfl⟩
      case round =>
        clear HW
        obtain ⟨k, L, E, rfl, hk, hL, hE, HW, HNI, HGO⟩ := hrel
        obtain ⟨va, vc, hv, -⟩ := own_form2 HW.out.ov
        obtain ⟨ua, uc, hu, -⟩ := own_form2 HW.out.ou
        subst hv hu
        by_cases hlt : k < L.length
        · obtain ⟨⟨x1, x2, x3⟩, HX⟩ : ∃ x, Hid (L[k]? = some x) := ⟨_, List.getElem?_eq_getElem hlt⟩
          obtain ⟨g, o, hga, -, -⟩ := (ownW_at HW.out.ov).get HX.out
          subst hga
          have hkD : decide ((k : Int) < (L.length : Int)) = true := by simp; omega
          go_wp2_with fail
          have SA : Hid (∀ W A C ys', T13 w W ⟨st, ev, starts, ars, ends⟩ ⟨a1, c1, a2, c2, a3, c3⟩ (.slice (some ⟨g, o, none⟩) L.length vc) (.slice ua E.length uc) A C L E ys' → W.cell? ⟨w.heap.size, 0, none⟩ = some (.int .i64 st) ∧ W.cell? ⟨w.heap.size, 1, none⟩ = some (.int .i64 ev) ∧ W.cell? ⟨w.heap.size, 2, none⟩ = some (.slice a1 starts.length c1) ∧ W.cell? ⟨w.heap.size, 3, none⟩ = some (.slice a2 ars.length c2) ∧ W.cell? ⟨w.heap.size, 4, none⟩ = some (.slice a3 ends.length c3) ∧ W.cell? ⟨g, o + k * 3, none⟩ = some (.int .i64 x1) ∧ W.cell? ⟨g, o + k * 3 + 1, none⟩ = some (.int .i64 x2) ∧ W.cell? ⟨g, o + k * 3 + 2, none⟩ = some (.int .i64 x3)) := fun W A C ys' h => by
            obtain ⟨y0, y1, y2, y3, y4⟩ := mcell_at h.km
            obtain ⟨t1, t2, t3⟩ := ownW_cell13 h.ov HX.out
            exact ⟨y0, y1, y2, y3, y4, t1, t2, t3⟩
          have bd : Below wr.heap.size wr wr.drew := (Below.refl _ _).drew
          replace HW := Hid.of (HW.out.below bd)
          refine wp_region_held_drew (S := fun w' => w'.cell? ⟨w.heap.size, 0, none⟩ = some (.int .i64 st) ∧ w'.cell? ⟨w.heap.size, 1, none⟩ = some (.int .i64 ev) ∧ w'.cell? ⟨w.heap.size, 2, none⟩ = some (.slice a1 starts.length c1) ∧ w'.cell? ⟨w.heap.size, 3, none⟩ = some (.slice a2 ars.length c2) ∧ w'.cell? ⟨w.heap.size, 4, none⟩ = some (.slice a3 ends.length c3) ∧ w'.cell? ⟨g, o + k * 3, none⟩ = some (.int .i64 x1) ∧ w'.cell? ⟨g, o + k * 3 + 1, none⟩ = some (.int .i64 x2) ∧ w'.cell? ⟨g, o + k * 3 + 2, none⟩ = some (.int .i64 x3)) (by kernel_rfl) (SA.out _ _ _ _ HW.out) (fun hS => ?_)
          clear bd
          revert HW hS
          generalize wr.drew = Y
          intro HW hS
          refine wpAnyH_take (i := 0) (v := .agg #[.int .i64 st, .int .i64 ev, .slice a1 starts.length c1, .slice a2 ars.length c2, .slice a3 ends.length c3]) rfl (by kernel_rfl) (by kernel_rfl) (by kernel_rfl) (fun _ _ _ h => h) (Or.inl ⟨by kernel_rfl, fun w' hw' => by obtain ⟨q0, q1, q2, q3, q4, q5, q6, q7⟩ := hw'; go_simp⟩) hS ?_
          refine wpAnyH_take (i := 1) (v := .slice sa seen.length sc) rfl (by kernel_rfl) (by kernel_rfl) (by kernel_rfl) (fun _ _ _ h => h) (Or.inl ⟨by kernel_rfl, fun w' hw' => by obtain ⟨q0, q1, q2, q3, q4, q5, q6, q7⟩ := hw'; go_simp⟩) hS ?_
          refine wpAnyH_take (i := 2) (v := .slice fa faults.length fc) rfl (by kernel_rfl) (by kernel_rfl) (by kernel_rfl) (fun _ _ _ h => h) (Or.inl ⟨by kernel_rfl, fun w' hw' => by obtain ⟨q0, q1, q2, q3, q4, q5, q6, q7⟩ := hw'; go_simp⟩) hS ?_
          refine wpAnyH_take (i := 3) (v := .slice (some ⟨g, o, none⟩) L.length vc) rfl (by kernel_rfl) (by kernel_rfl) (by kernel_rfl) (fun _ _ _ h => h) (Or.inl ⟨by kernel_rfl, fun w' hw' => by obtain ⟨q0, q1, q2, q3, q4, q5, q6, q7⟩ := hw'; go_simp⟩) hS ?_
          refine wpAnyH_take (i := 4) (v := .int .i64 k) rfl (by kernel_rfl) (by kernel_rfl) (by kernel_rfl) (fun _ _ _ h => h) (Or.inl ⟨by kernel_rfl, fun w' hw' => by obtain ⟨q0, q1, q2, q3, q4, q5, q6, q7⟩ := hw'; go_simp⟩) hS ?_
          refine wpAnyH_take (i := 5) (v := .pointer (some ⟨g, o + k * 3, none⟩)) rfl (by kernel_rfl) (by kernel_rfl) (by kernel_rfl) (fun _ _ _ h => h) (Or.inl ⟨by kernel_rfl, fun w' hw' => by obtain ⟨q0, q1, q2, q3, q4, q5, q6, q7⟩ := hw'; go_simp⟩) hS ?_
          refine wpAnyH_take (i := 6) (v := .agg #[.int .i64 x1, .int .i64 x2, .int .i64 x3]) rfl (by kernel_rfl) (by kernel_rfl) (by kernel_rfl) (fun _ _ _ h => h) (Or.inl ⟨by kernel_rfl, fun w' hw' => by obtain ⟨q0, q1, q2, q3, q4, q5, q6, q7⟩ := hw'; go_simp⟩) hS ?_
          simp only [Act.put, List.setIfInBounds_toArray]
          refine wpAnyH_ready (rs := [7]) (by kernel_rfl) (by simp) ?_
          refine AllReadyH.cons rfl (fun K' hK' => ?_) AllReadyH.nil
          clear hS
          go_simp
          refine (rtleads_go st ev starts ars ends a1 c1 a2 c2 a3 c3 sa sc seen fa fc faults x1 x2 x3 Y (Hid.of (hma.out.a.below HW.out.bel (Nat.le_refl _))) hlen hev0 hev (Hid.of (hse.out.below HW.out.bel (Nat.le_refl _))) hsl (Hid.of (hfa.out.below HW.out.bel (Nat.le_refl _))) hfl).mono ?_
          rintro e Y1 ⟨tv, tu, rfl, ot, ol, hb⟩
          obtain ⟨ys, HY⟩ : ∃ ys, Hid (ys = leadsT ⟨st, ev, starts, ars, ends⟩ seen faults (x1, x2, x3)) := ⟨_, rfl⟩
          rw [← HY.out] at ot ol
          replace HW := Hid.of (HW.out.led hb ot ol)
          obtain ⟨ta, tc, htv, -⟩ := own_form2 ot
          obtain ⟨ca, cc, htu, -⟩ := own_form2 ol
          subst htv htu
          refine hK'.out _ _ (SA.out _ _ _ _ HW.out) (fun hS => ?_)
          clear hK' K' hb ot ol SA
          refine wpAnyH_take (i := 8) (v := .tuple #[.slice ta ys.length tc, .slice ca ys.length cc]) rfl (by kernel_rfl) (by kernel_rfl) (by kernel_rfl) (fun _ _ _ h => h) (Or.inl ⟨by kernel_rfl, fun w' hw' => by obtain ⟨q0, q1, q2, q3, q4, q5, q6, q7⟩ := hw'; go_simp⟩) hS ?_
          refine wpAnyH_take (i := 9) (v := .slice ta ys.length tc) rfl (by kernel_rfl) (by kernel_rfl) (by kernel_rfl) (fun _ _ _ h => h) (Or.inl ⟨by kernel_rfl, fun w' hw' => by obtain ⟨q0, q1, q2, q3, q4, q5, q6, q7⟩ := hw'; go_simp⟩) hS ?_
          refine wpAnyH_take (i := 10) (v := .slice ca ys.length cc) rfl (by kernel_rfl) (by kernel_rfl) (by kernel_rfl) (fun _ _ _ h => h) (Or.inl ⟨by kernel_rfl, fun w' hw' => by obtain ⟨q0, q1, q2, q3, q4, q5, q6, q7⟩ := hw'; go_simp⟩) hS ?_
          refine wpAnyH_take (i := 11) (v := .slice ta ys.length tc) rfl (by kernel_rfl) (by kernel_rfl) (by kernel_rfl) (fun _ _ _ h => h) (Or.inl ⟨by kernel_rfl, fun w' hw' => by obtain ⟨q0, q1, q2, q3, q4, q5, q6, q7⟩ := hw'; go_simp⟩) hS ?_
          refine wpAnyH_take (i := 12) (v := .slice ca ys.length cc) rfl (by kernel_rfl) (by kernel_rfl) (by kernel_rfl) (fun _ _ _ h => h) (Or.inl ⟨by kernel_rfl, fun w' hw' => by obtain ⟨q0, q1, q2, q3, q4, q5, q6, q7⟩ := hw'; go_simp⟩) hS ?_
          refine wpAnyH_done (by kernel_rfl) ?_ _
          clear hS
          have hyl : ys.length ≤ 134283264 := by rw [HY.out]; exact leadsT_len hlen hev seen faults _
          go_wp2_with fail
          go_loopw [8, 9, 15] (fun v u i wr' => ∃ j : Nat, i = .int .i64 j ∧ j ≤ ys.length ∧ Hid (T13 w wr' ⟨st, ev, starts, ars, ends⟩ ⟨a1, c1, a2, c2, a3, c3⟩ v u (.slice ta ys.length tc) (.slice ca ys.length cc) (nRow k (L, E) (ys.take j)).1 (nRow k (L, E) (ys.take j)).2 ys)) (fun _ _ i _ => ys.length - (intOf i).toNat)
          case atStart => exact ⟨0, rfl, Nat.zero_le _, HW⟩
          case round =>
            clear HW
            obtain ⟨j, rfl, hj, HW⟩ := hrel
            by_cases hjl : j < ys.length
            · obtain ⟨⟨⟨y1, y2, y3⟩, yb⟩, HYJ⟩ : ∃ y, Hid (ys[j]? = some y) := ⟨_, List.getElem?_eq_getElem hjl⟩
              obtain ⟨Lc, HL⟩ : ∃ Lc, Hid (Lc = (nRow k (L, E) (ys.take j)).1) := ⟨_, rfl⟩
              obtain ⟨Ec, HE⟩ : ∃ Ec, Hid (Ec = (nRow k (L, E) (ys.take j)).2) := ⟨_, rfl⟩
              rw [← HL.out, ← HE.out] at HW
              have HLE : Hid ((nRow k (L, E) (ys.take j)) = (Lc, Ec)) := by show _ = _; rw [HL.out, HE.out]
              have hLc : Lc.length ≤ 72 := by
                rw [HL.out, nRow_fst]
                refine Nat.le_trans (nodup_sub (nodup_cRow _ HNI.out.nd) fun z hz => ?_) h72.out
                rcases (mem_cRow _ _ _).1 hz with q | q
                · exact HNI.out.inU z q
                · obtain ⟨y, hy, rfl⟩ := List.mem_map.1 q
                  exact leads_in hmm.out seen faults (x1, x2, x3) (HNI.out.inU _ (List.mem_of_getElem? HX.out)) y (by rw [← HY.out]; exact List.mem_of_mem_take hy)
              have hEc : Ec.length ≤ 10000000000 := by rw [HE.out, nRow_len2, List.length_take]; dsimp only; omega
              obtain ⟨va, vc, hv, -⟩ := own_form2 HW.out.ov
              obtain ⟨ua, uc, hu, -⟩ := own_form2 HW.out.ou
              subst hv hu
              have HY1 : Hid ((ys.map (·.1))[j]? = some (y1, y2, y3)) := by show _ = _; rw [List.getElem?_map, HYJ.out]; rfl
              obtain ⟨g2, o2, hta, -, t1, t2, t3⟩ := (ownW_at (n := ys.length) (c := tc) HW.out.oa.toW).get HY1.out
              dsimp only at t1 t2 t3
              obtain ⟨g3, hca, -⟩ := HW.out.oc.get HYJ.out
              subst hta hca
              have hjD : decide ((j : Int) < (ys.length : Int)) = true := by simp; omega
              go_wp2_with fail
              clear t1 t2 t3
              refine (rtfind_any va vc Lc (y1, y2, y3) wr (Hid.of (ownW_at HW.out.ov)) (by omega)).mono ?_
              rintro e W1 ⟨rfl, hb⟩
              replace HW := Hid.of (HW.out.below hb)
              clear hb
              obtain ⟨n, HNn⟩ : ∃ n, Hid (n = idxG Lc (y1, y2, y3)) := ⟨_, rfl⟩
              rw [← HNn.out]
              obtain ⟨t1, t2, t3⟩ := ownW_cell13 HW.out.oa.toW HY1.out
              dsimp only at t1 t2 t3
              by_cases hin : ((y1, y2, y3) : Tw) ∈ Lc
              · have hi1 := nAdd_old (k := k) (E := Ec) (y := ((y1, y2, y3), yb)) hin
                have HNX : Hid (nRow k (L, E) (ys.take (j + 1)) = (Lc, Ec ++ [(k, n, yb)])) := by show _ = _; rw [step_at HYJ.out, nRow_snoc, HLE.out, HNn.out]; exact hi1.1
                have g1 : ((n : Int) == (Lc.length : Int)) = false := by have h8 : idxG Lc (y1, y2, y3) < Lc.length := hi1.2; have h9 := HNn.out; simp; omega
                clear hi1 hin
                clear t1 t2 t3
                obtain ⟨g3x, hcax, c1x⟩ := HW.out.oc.get HYJ.out
                cases hcax
                dsimp only at c1x
                rw [Nat.zero_add] at c1x
                have H2 := Hid.of (HW.out.below ((Below.refl _ _).alloc (Nat.le_refl _) (.cells #[.int .i64 k, .int .i64 n, .bool yb] 158)))
                clear HW
                go_wp2_with (at_builtin; refine wpList_append_block _ rfl (.tmp 85) (.tmp 93) 154 rfl (w.heap.size + 1) 158 j0 _ 3 24 Tryd.underlying154 ji jz0 jz1 jz2 rfl (by decide) _ _ _ rfl H2.out.ou ⟨W1.heap.size, 0, none⟩ 1 1 [.int .i64 k, .int .i64 n, .bool yb] rfl rfl (cells_three W1 W1 rfl _ _ _ _) (by intro u hu; simp at hu; rcases hu with rfl | rfl | rfl <;> rfl) (by decide) (by unfold maxLen; omega) (by omega) H2.out.hB ?_)
                intro u9 W9 p9 g9 n9
                have Q1 := Hid.of (T13.pushE (e := (k, n, yb)) H2.out p9 g9)
                clear p9 g9 n9 H2 c1x
                go_wp2_with fail
                go_roundw
                case rel => exact ⟨j + 1, by go_num, by omega, by rw [HNX.out]; exact Q1⟩
                case measure => simp [intOf]; omega
              · have hi1 := nAdd_new (k := k) (E := Ec) (y := ((y1, y2, y3), yb)) hin
                have HNX : Hid (nRow k (L, E) (ys.take (j + 1)) = (Lc ++ [(y1, y2, y3)], Ec ++ [(k, n, yb)])) := by show _ = _; rw [step_at HYJ.out, nRow_snoc, HLE.out, HNn.out]; exact hi1.1
                have g1 : ((n : Int) == (Lc.length : Int)) = true := by have h8 : idxG Lc (y1, y2, y3) = Lc.length := hi1.2; have h9 := HNn.out; simp; omega
                clear hi1 hin
                have H2 := Hid.of (HW.out.below ((Below.refl _ _).alloc (Nat.le_refl _) (.cells #[.int .i64 y1, .int .i64 y2, .int .i64 y3] 160)))
                clear HW
                go_wp2_with (at_builtin; refine wpList_append_block _ rfl (.tmp 78) (.tmp 83) 153 rfl (w.heap.size + 1) 160 i0 _ 3 24 Tryd.underlying153 hi hz0 hz1 hz2 rfl (by decide) _ _ _ rfl H2.out.ov ⟨W1.heap.size, 0, none⟩ 1 1 [.int .i64 y1, .int .i64 y2, .int .i64 y3] rfl rfl (cells_three W1 W1 rfl _ _ _ _) (by intro u hu; simp at hu; rcases hu with rfl | rfl | rfl <;> rfl) (by decide) (by unfold maxLen; omega) (by omega) H2.out.hB ?_)
                intro v9 W2 o9 g9 n9
                have HW := Hid.of (T13.pushW (y := (y1, y2, y3)) H2.out o9 g9 (by rw [World.size_alloc]; exact n9))
                clear o9 g9 n9 H2 t1 t2 t3
                obtain ⟨g3x, hcax, c1x⟩ := HW.out.oc.get HYJ.out
                cases hcax
                dsimp only at c1x
                rw [Nat.zero_add] at c1x
                have H2 := Hid.of (HW.out.below ((Below.refl _ _).alloc (Nat.le_refl _) (.cells #[.int .i64 k, .int .i64 n, .bool yb] 158)))
                clear HW
                go_wp2_with (at_builtin; refine wpList_append_block _ rfl (.tmp 85) (.tmp 93) 154 rfl (w.heap.size + 1) 158 j0 _ 3 24 Tryd.underlying154 ji jz0 jz1 jz2 rfl (by decide) _ _ _ rfl H2.out.ou ⟨W2.heap.size, 0, none⟩ 1 1 [.int .i64 k, .int .i64 n, .bool yb] rfl rfl (cells_three W2 W2 rfl _ _ _ _) (by intro u hu; simp at hu; rcases hu with rfl | rfl | rfl <;> rfl) (by decide) (by unfold maxLen; omega) (by omega) H2.out.hB ?_)
                intro u9 W9 p9 g9 n9
                have Q1 := Hid.of (T13.pushE (e := (k, n, yb)) H2.out p9 g9)
                clear p9 g9 n9 H2 c1x
                go_wp2_with fail
                go_roundw
                case rel => exact ⟨j + 1, by go_num, by omega, by rw [HNX.out]; exact Q1⟩
                case measure => simp [intOf]; omega
            · have hjD : decide ((j : Int) < (ys.length : Int)) = false := by simp; omega
              rw [List.take_of_length_le (show ys.length ≤ j by omega)] at HW
              have HST := Hid.of (ni_step (leads_in hmm.out seen faults) HNI.out HX.out)
              rw [← HY.out] at HST
              have HGN : Hid (twins ⟨st, ev, starts, ars, ends⟩ seen faults = nGo (leadsT ⟨st, ev, starts, ars, ends⟩ seen faults) (0, 0, 0) (100 - (k + 1)) (k + 1) (nRow k (L, E) ys)) := by
                show _ = _
                rw [HGO.out, show 100 - k = (100 - (k + 1)) + 1 by omega, nGo, if_pos (show k < (L, E).1.length from hlt)]
                rw [show ((L, E) : List Tw × List Edg).1[k]? = some (x1, x2, x3) from HX.out, Option.getD_some, ← HY.out]
              have hL2 := nodup_sub_T HST.out h72.out
              have hE2 : (nRow k (L, E) ys).2.length ≤ (k + 1) * 134283264 := by rw [nRow_len2, Nat.succ_mul]; dsimp only; omega
              have hk2 := HST.out.kl
              go_wp2_with fail
              go_roundw
              case rel => exact ⟨k + 1, (nRow k (L, E) ys).1, (nRow k (L, E) ys).2, by go_num, hk2, hL2, hE2, Hid.of (T13.drop (m' := ⟨st, ev, starts, ars, ends⟩) HW.out), HST, HGN⟩
              case measure => simp [intOf]; omega
        · have hkD : decide ((k : Int) < (L.length : Int)) = false := by simp; omega
          have HFN : Hid (twins ⟨st, ev, starts, ars, ends⟩ seen faults = (L, E)) := by
            show _ = _
            rw [HGO.out, show 100 - k = (100 - (k + 1)) + 1 by omega, nGo, if_neg (show ¬ k < (L, E).1.length from hlt)]
          go_wp2_with fail
          go_ret2
          rw [HFN.out]
          exact ⟨_, _, rfl, own_low13 HW.out.ov (by omega), own_low13 HW.out.ou (by omega), HW.out.bel⟩
end Go.Proofs.YtmlkpdeidpcidaaDoor
namespace Go.Proofs.YtmlkpdeidpcidaaDoor
open Go.RowKit
set_option linter.unusedVariables false
set_option maxRecDepth 100000

theorem nGo_len {m : Mach} (hm : m.arrows.length ≤ 4096) (hev : m.ev ≤ 8) (seen faults : List Int) (d : Tw) : ∀ (f k : Nat) (s : List Tw × List Edg), (nGo (leadsT m seen faults) d f k s).2.length ≤ s.2.length + f * 134283264
  | 0, k, s => by rw [nGo]; omega
  | f + 1, k, s => by
    rw [nGo]
    split
    · have h1 := nGo_len hm hev seen faults d f (k + 1) (nRow k s (leadsT m seen faults (s.1[k]?.getD d)))
      have h2 := leadsT_len hm hev seen faults (s.1[k]?.getD d)
      rw [nRow_len2] at h1
      rw [Nat.succ_mul]
      omega
    · omega
theorem twins_len {m : Mach} (hm : m.arrows.length ≤ 4096) (hev : m.ev ≤ 8) (seen faults : List Int) : (twins m seen faults).2.length ≤ 13428326400 := by
  have := nGo_len hm hev seen faults (0, 0, 0) 100 0 (twS m, [])
  unfold twins
  simpa using this
theorem rlx_bd {s : List Nat × Bool} {e : Edg} {B : Nat} (h : ∀ k, at0 s.1 k ≤ B) : ∀ k, at0 (rlx s e).1 k ≤ B + 1 := fun k => by
  unfold rlx
  split
  · dsimp only
    rw [at0_set]
    split
    · have := h e.1
      have : e.2.2.toNat ≤ 1 := by cases e.2.2 <;> decide
      omega
    · have := h k; omega
  · have := h k; omega
theorem rnd_bd : ∀ (R : List Edg) {s : List Nat × Bool} {B : Nat}, (∀ k, at0 s.1 k ≤ B) → ∀ k, at0 (rnd R s).1 k ≤ B + R.length
  | [], s, B, h, k => by have := h k; simpa [rnd] using this
  | e :: r, s, B, h, k => by
    have := rnd_bd r (rlx_bd (e := e) h) k
    show at0 (rnd r (rlx s e)).1 k ≤ _
    rw [List.length_cons]
    omega
theorem rnds_bd (E : List Edg) (N : Nat) : ∀ (r k : Nat), at0 (rnds E r (List.replicate N 0, false)).1 k ≤ r * E.length
  | 0, k => by
    show at0 (List.replicate N 0) k ≤ _
    rw [at0_zero]; omega
  | r + 1, k => by
    have := rnd_bd E (s := ((rnds E r (List.replicate N 0, false)).1, false)) (fun k => rnds_bd E N r k) k
    rw [Nat.succ_mul]
    exact this
theorem rnd_take {E : List Edg} {j : Nat} {e : Edg} {s : List Nat × Bool} (h : E[j]? = some e) : rnd (E.take (j + 1)) s = rlx (rnd (E.take j) s) e := by
  unfold rnd
  rw [step_at h, List.foldl_append]; rfl
/-- What Delay knows of the memory. -/
structure D13 (w W : World) (v u : Value) (g : Nat) (L : List Tw) (E : List Edg) (Z : List Nat) : Prop where
  bel : Below w.heap.size w W
  ov : OwnW W (w.heap.size + 1) v L
  ou : OwnE W (w.heap.size + 1) u E
  kz : RowC W g 3 L.length (fun j => .int .i64 ((at0 Z j : Nat) : Int))
  hg : w.heap.size + 1 ≤ g
theorem D13.set {w W : World} {v u : Value} {g : Nat} {L : List Tw} {E : List Edg} {Z : List Nat} (h : D13 w W v u g L E Z) {n x : Nat} (hn : n < L.length) (hZ : Z.length = L.length) : D13 w (W.setCell ⟨g, n, none⟩ (.int .i64 (x : Int))) v u g L E (Z.set n x) := by
  have hty : ∀ {z : Value} {t : TypeId} {s m B : Nat} {xs : List Value}, t ≠ 3 → W.ownsRow B t s z m xs → (W.setCell ⟨g, n, none⟩ (.int .i64 (x : Int))).ownsRow B t s z m xs := fun ht ho => own_same ho (fun k hk => by
    obtain ⟨c1, h1⟩ := own_type ho hk
    refine Below.heap_setCell W ⟨g, n, none⟩ _ k (fun e => ?_)
    have e : k = g := e
    subst e
    obtain ⟨cs, h2, -⟩ := h.kz
    have h2 : W.heap[k]? = some (.cells cs 3 (0, 0)) := h2
    rw [h1] at h2; cases h2; exact ht rfl)
  have hg := h.hg
  refine ⟨h.bel.setCell (p := ⟨g, n, none⟩) (by show _ ≤ g; omega) _, hty (by decide) h.ov, hty (by decide) h.ou, (h.kz.set hn _).congr (fun j hj => ?_), h.hg⟩
  rw [at0_set]
  by_cases e : j = n
  · subst e
    rw [if_pos rfl, if_pos ⟨rfl, by omega⟩]
  · rw [if_neg e, if_neg (fun q => e q.1.symm)]
theorem most_bd {F : Tw → Bool} {d : Tw} {l : List Tw} {Z : List Nat} {B : Nat} (h : ∀ k, at0 Z k ≤ B) (k : Nat) : mostG F d l Z k ≤ (B : Int) := by
  rcases most_at (F := F) (d := d) (l := l) (L := Z) k with q | ⟨j, -, -, q⟩
  · rw [q]; omega
  · rw [q]; have := h j; omega
theorem most_yes {F : Tw → Bool} {d : Tw} {l : List Tw} {Z : List Nat} {k : Nat} {x : Tw} (hk : l[k]? = some x) (hf : F x = true) (h : mostG F d l Z k < ((at0 Z k : Nat) : Int)) : mostG F d l Z (k + 1) = ((at0 Z k : Nat) : Int) := by
  rw [mostG, if_pos ⟨by rw [hk]; exact hf, h⟩]
theorem most_no1 {F : Tw → Bool} {d : Tw} {l : List Tw} {Z : List Nat} {k : Nat} {x : Tw} (hk : l[k]? = some x) (hf : F x = false) : mostG F d l Z (k + 1) = mostG F d l Z k := by
  rw [mostG, if_neg (fun q => by have := q.1; rw [hk, Option.getD_some, hf] at this; cases this)]
theorem most_no2 {F : Tw → Bool} {d : Tw} {l : List Tw} {Z : List Nat} {k : Nat} (h : ¬ mostG F d l Z k < ((at0 Z k : Nat) : Int)) : mostG F d l Z (k + 1) = mostG F d l Z k := by
  rw [mostG, if_neg (fun q => h q.2)]
end Go.Proofs.YtmlkpdeidpcidaaDoor
namespace Go.Proofs.YtmlkpdeidpcidaaDoor
open Go.RowKit
set_option linter.unusedVariables false

set_option maxRecDepth 100000 in
set_option maxHeartbeats 16000000 in
theorem rtdelay_go (st ev : Int) (starts : List Int) (ars : List Arr) (ends : List Int) (a1 : Option Addr) (c1 : Nat) (a2 : Option Addr) (c2 : Nat) (a3 : Option Addr) (c3 : Nat) (sa : Option Addr) (sc : Nat) (seen : List Int) (fa : Option Addr) (fc : Nat) (faults : List Int) (w : World) (hma : Hid (MAt w ⟨st, ev, starts, ars, ends⟩ ⟨a1, c1, a2, c2, a3, c3⟩)) (hmm : Hid (mayB ⟨st, ev, starts, ars, ends⟩ = true)) (hz6 : st ≤ 6) (hse : Hid (At w sa seen)) (hsl : Hid (seen.length ≤ maxLen)) (hfa : Hid (At w fa faults)) (hfl : Hid (faults.length ≤ maxLen)) :
    Calls Tryd.prog 48 #[mval ⟨st, ev, starts, ars, ends⟩ ⟨a1, c1, a2, c2, a3, c3⟩, .slice sa seen.length sc, .slice fa faults.length fc] w fun e w' => e = .returned (.int .i64 (delD ⟨st, ev, starts, ars, ends⟩ seen faults)) ∧ Below w.heap.size w w' := by
  obtain ⟨i0, hi, hz0, hz1, hz2⟩ := info_parts Tryd.infoInt
  have hz := mayB_size hmm.out
  unfold sizeOk at hz
  dsimp only at hz
  have hTL : Hid ((twins ⟨st, ev, starts, ars, ends⟩ seen faults).2.length ≤ 13428326400) := twins_len (m := ⟨st, ev, starts, ars, ends⟩) (by dsimp only; omega) (by dsimp only; omega) seen faults
  have hNI := Hid.of (twins_all hmm.out hz6 seen faults)
  have hL72 : Hid ((twins ⟨st, ev, starts, ars, ends⟩ seen faults).1.length ≤ 72) := nodup_sub_T hNI.out (allT2_len hz6)
  have HED0 : Hid (∀ e ∈ (twins ⟨st, ev, starts, ars, ends⟩ seen faults).2, e.1 < (twins ⟨st, ev, starts, ars, ends⟩ seen faults).1.length ∧ e.2.1 < (twins ⟨st, ev, starts, ars, ends⟩ seen faults).1.length) := ni_edge hNI.out
  clear hz
  have B0 : Hid (Below w.heap.size w (w.alloc (.cells (mcells ⟨st, ev, starts, ars, ends⟩ ⟨a1, c1, a2, c2, a3, c3⟩) 25))) := (Below.refl _ _).alloc (Nat.le_refl _) _
  have K0 : Hid (Blk (w.alloc (.cells (mcells ⟨st, ev, starts, ars, ends⟩ ⟨a1, c1, a2, c2, a3, c3⟩) 25)) w.heap.size 25 (mcells ⟨st, ev, starts, ars, ends⟩ ⟨a1, c1, a2, c2, a3, c3⟩)) := Blk.new w _ _
  obtain ⟨y0, y1, y2, y3, y4⟩ := mcell_at K0.out
  dsimp only at y0 y1 y2 y3 y4
  go_enter Tryd.func48, Tryd.ntmps48
  go_wp2_with fail
  clear y0 y1 y2 y3 y4
  have HS0 : Hid ((w.alloc (.cells (mcells ⟨st, ev, starts, ars, ends⟩ ⟨a1, c1, a2, c2, a3, c3⟩) 25)).heap.size = w.heap.size + 1) := World.size_alloc _ _
  revert B0 K0 HS0
  generalize w.alloc (.cells (mcells ⟨st, ev, starts, ars, ends⟩ ⟨a1, c1, a2, c2, a3, c3⟩) 25) = V
  intro B0 K0 HS0
  refine (rttwins_go st ev starts ars ends a1 c1 a2 c2 a3 c3 sa sc seen fa fc faults V (Hid.of (hma.out.below B0.out (Nat.le_refl _))) hmm hz6 (Hid.of (hse.out.below B0.out (Nat.le_refl _))) hsl (Hid.of (hfa.out.below B0.out (Nat.le_refl _))) hfl).mono ?_
  rintro e W1 ⟨v, u, rfl, ov, ou, hb⟩
  obtain ⟨L, HL⟩ : ∃ L, Hid (L = (twins ⟨st, ev, starts, ars, ends⟩ seen faults).1) := ⟨_, rfl⟩
  obtain ⟨E, HE⟩ : ∃ E, Hid (E = (twins ⟨st, ev, starts, ars, ends⟩ seen faults).2) := ⟨_, rfl⟩
  have HTW : Hid (twins ⟨st, ev, starts, ars, ends⟩ seen faults = (L, E)) := by show _ = _; rw [HL.out, HE.out]
  rw [← HL.out] at ov hL72 HED0
  rw [← HE.out] at ou hTL HED0
  rw [HS0.out] at ov ou
  have HED := HED0
  clear HED0
  have hLl : L.length ≤ 72 := hL72.out
  have hEl : E.length ≤ 13428326400 := hTL.out
  obtain ⟨la, lc, hv, -⟩ := own_form2 ov
  obtain ⟨ea, ec, hu, -⟩ := own_form2 ou
  subst hv hu
  have hmk : ∀ w : World, (Instr.makeSlice 22 (.int .i64 (L.length : Nat)) (.int .i64 (L.length : Nat))).run Tryd.prog w = .ok (.slice (some ⟨w.heap.size, 0, none⟩) L.length L.length) (w.alloc (.cells (madeCells #[.int .i64 0] L.length) 3)) := fun w => by
    have := run_make (P := Tryd.prog) w 22 3 i0 (.int .i64 0) Tryd.underlying22 hi hz0 .i64 .i64 L.length L.length (by omega) (by omega) (by rw [hz2]; omega) (by omega)
    rw [hz1, Int.toNat_natCast, Nat.mul_one] at this
    exact this
  have HW : Hid (D13 w (W1.alloc (.cells (madeCells #[.int .i64 0] L.length) 3)) (.slice la L.length lc) (.slice ea E.length ec) W1.heap.size L E (rnds E 0 (List.replicate L.length 0, false)).1) := by
    have b1 : Below W1.heap.size W1 (W1.alloc (.cells (madeCells #[.int .i64 0] L.length) 3)) := (Below.refl _ _).alloc (Nat.le_refl _) _
    refine ⟨(B0.out.trans (hb.mono B0.out.size)).trans (b1.mono (Nat.le_trans B0.out.size hb.size)), own_below13 ov b1, own_below13 ou b1, (RowC.made (Blk.new W1 _ _)).congr (fun j hj => ?_), ?_⟩
    · show _ = Value.int .i64 ((at0 (List.replicate L.length 0) j : Nat) : Int)
      rw [at0_zero]; rfl
    · have := hb.size
      have := HS0.out
      omega
  clear ov ou hb B0 K0 HS0 hi hz0 hz1 hz2
  go_wp2_with fail
  clear hmk
  revert HW
  generalize W1.alloc (.cells (madeCells #[.int .i64 0] L.length) 3) = V2
  generalize W1.heap.size = gz
  intro HW
  go_loopw [10] (fun i wr' => ∃ r : Nat, i = .int .i64 r ∧ r ≤ L.length + 2 ∧ Hid (D13 w wr' (.slice la L.length lc) (.slice ea E.length ec) gz L E (rnds E r (List.replicate L.length 0, false)).1) ∧ Hid (r = L.length + 2 → (rnds E r (List.replicate L.length 0, false)).2 = false)) (fun i _ => L.length + 2 - (intOf i).toNat)
  case atStart => exact ⟨0, rfl, by omega, HW, fun h => by omega⟩
  case round =>
    clear HW
    obtain ⟨r, rfl, hr, HW, HF⟩ := hrel
    obtain ⟨Z, HZ⟩ : ∃ Z, Hid (Z = (rnds E r (List.replicate L.length 0, false)).1) := ⟨_, rfl⟩
    rw [← HZ.out] at HW
    have hZl : Hid (Z.length = L.length) := by show _ = _; rw [HZ.out, rnds_len, List.length_replicate]
    have hZb : Hid (∀ k, at0 Z k ≤ 993696153600) := fun k => by
      rw [HZ.out]
      have h1 := rnds_bd E L.length r k
      have h2 : r * E.length ≤ 74 * 13428326400 := Nat.mul_le_mul (by omega) hEl
      omega
    by_cases hrl : r < L.length + 2
    · have hrD : decide ((r : Int) ≤ (L.length : Int) + 1) = true := by simp; omega
      have hrN : (r : Int) ≤ (L.length : Int) + 1 := by omega
      go_wp2_with fail
      go_loopw [11, 12] (fun gr i wr' => ∃ j : Nat, i = .int .i64 j ∧ j ≤ E.length ∧ gr = .bool (rnd (E.take j) (Z, false)).2 ∧ Hid (D13 w wr' (.slice la L.length lc) (.slice ea E.length ec) gz L E (rnd (E.take j) (Z, false)).1)) (fun _ i _ => E.length - (intOf i).toNat)
      case atStart => exact ⟨0, rfl, Nat.zero_le _, rfl, HW⟩
      case round =>
        clear HW
        obtain ⟨j, rfl, hj, rfl, HW⟩ := hrel
        obtain ⟨X, HX⟩ : ∃ X, Hid (X = (rnd (E.take j) (Z, false))) := ⟨_, rfl⟩
        rw [← HX.out] at HW ⊢
        have hXl : Hid (X.1.length = L.length) := by show _ = _; rw [HX.out, rnd_len]; exact hZl.out
        have hXb : Hid (∀ k, at0 X.1 k ≤ 1007124480000) := fun k => by
          rw [HX.out]
          have h1 := rnd_bd (E.take j) (s := (Z, false)) hZb.out k
          rw [List.length_take] at h1
          omega
        by_cases hjl : j < E.length
        · obtain ⟨⟨p, q, c⟩, HE⟩ : ∃ e, Hid (E[j]? = some e) := ⟨_, List.getElem?_eq_getElem hjl⟩
          obtain ⟨hp, hq⟩ := HED.out (p, q, c) (List.mem_of_getElem? HE.out)
          dsimp only at hp hq
          obtain ⟨ge, hea, -, e1, e2, e3⟩ := HW.out.ou.get HE.out
          subst hea
          dsimp only at e1 e2 e3
          rw [Nat.zero_add] at e1 e2 e3
          have z1 := HW.out.kz.cell hp
          have z2 := HW.out.kz.cell hq
          obtain ⟨zp, HZP⟩ : ∃ zp, Hid (zp = at0 X.1 p) := ⟨_, rfl⟩
          obtain ⟨zq, HZQ⟩ : ∃ zq, Hid (zq = at0 X.1 q) := ⟨_, rfl⟩
          rw [← HZP.out] at z1
          rw [← HZQ.out] at z2
          have hzp : zp ≤ 1007124480000 := by rw [HZP.out]; exact hXb.out p
          have zf : wr.frozen? ⟨gz, q, none⟩ = false := by
            obtain ⟨cs, hk, -⟩ := HW.out.kz
            exact hk.frozen q
          have hjD : decide ((j : Int) < (E.length : Int)) = true := by simp; omega
          have RX : Hid (rnd (E.take (j + 1)) (Z, false) = rlx X (p, q, c)) := by show _ = _; rw [rnd_take HE.out, ← HX.out]
          cases c with
          | true =>
            by_cases hgt : zq < (zp + 1)
            · have hgD : decide ((zq : Int) < (zp : Int) + 1) = true := by simp; omega
              have RX2 : Hid (rlx X (p, q, true) = (X.1.set q (zp + 1), true)) := by
                show _ = _
                unfold rlx
                dsimp only
                rw [← HZP.out, ← HZQ.out, if_pos (by simpa using hgt)]; rfl
              have HN := Hid.of (HW.out.set (n := q) (x := (zp + 1)) hq hXl.out)
              clear HW
              go_wp2_with fail
              clear z1 z2 zf e1 e2 e3
              go_roundw
              case rel => exact ⟨j + 1, by go_num, by omega, by rw [RX.out, RX2.out], by rw [RX.out, RX2.out]; exact HN⟩
              case measure => simp [intOf]; omega
            · have hgD : decide ((zq : Int) < (zp : Int) + 1) = false := by simp; omega
              have RX2 : Hid (rlx X (p, q, true) = X) := by
                show _ = _
                unfold rlx
                dsimp only
                rw [← HZP.out, ← HZQ.out, if_neg (by simpa using hgt)]
              go_wp2_with fail
              clear z1 z2 zf e1 e2 e3
              go_roundw
              case rel => exact ⟨j + 1, by go_num, by omega, by rw [RX.out, RX2.out], by rw [RX.out, RX2.out]; exact HW⟩
              case measure => simp [intOf]; omega
          | false =>
            by_cases hgt : zq < zp
            · have hgD : decide ((zq : Int) < (zp : Int)) = true := by simp; omega
              have RX2 : Hid (rlx X (p, q, false) = (X.1.set q zp, true)) := by
                show _ = _
                unfold rlx
                dsimp only
                rw [← HZP.out, ← HZQ.out, if_pos (by simpa using hgt)]; rfl
              have HN := Hid.of (HW.out.set (n := q) (x := zp) hq hXl.out)
              clear HW
              go_wp2_with fail
              clear z1 z2 zf e1 e2 e3
              go_roundw
              case rel => exact ⟨j + 1, by go_num, by omega, by rw [RX.out, RX2.out], by rw [RX.out, RX2.out]; exact HN⟩
              case measure => simp [intOf]; omega
            · have hgD : decide ((zq : Int) < (zp : Int)) = false := by simp; omega
              have RX2 : Hid (rlx X (p, q, false) = X) := by
                show _ = _
                unfold rlx
                dsimp only
                rw [← HZP.out, ← HZQ.out, if_neg (by simpa using hgt)]
              go_wp2_with fail
              clear z1 z2 zf e1 e2 e3
              go_roundw
              case rel => exact ⟨j + 1, by go_num, by omega, by rw [RX.out, RX2.out], by rw [RX.out, RX2.out]; exact HW⟩
              case measure => simp [intOf]; omega
        · have hjD : decide ((j : Int) < (E.length : Int)) = false := by simp; omega
          have RX : Hid ((rnds E (r + 1) (List.replicate L.length 0, false)) = X) := by
            show rnd E (_, false) = X
            rw [← HZ.out, HX.out, List.take_of_length_le (by omega)]
          obtain ⟨X1, X2⟩ := X
          dsimp only at HW
          cases X2 with
          | true =>
            by_cases hre : r = L.length + 1
            · have g1 : ((r : Int) == (L.length : Int) + 1) = true := by simp; omega
              have HFN : Hid (delD ⟨st, ev, starts, ars, ends⟩ seen faults = -1) := by
                show dlyG faulT (0, 0, 0) _ = -1
                rw [HTW.out]
                unfold dlyG
                rw [if_pos (show (rnds E (L.length + 2) (List.replicate L.length 0, false)).2 = true by rw [show L.length + 2 = r + 1 by omega, RX.out])]
              go_wp2_with fail
              go_ret
              exact ⟨ret_i13 HFN.out.symm, HW.out.bel⟩
            · have g1 : ((r : Int) == (L.length : Int) + 1) = false := by simp; omega
              go_wp2_with fail
              go_roundw
              case rel => exact ⟨r + 1, by go_num, by omega, by rw [RX.out]; exact HW, fun h => by omega⟩
              case measure => simp [intOf]; omega
          | false =>
            go_wp2_with fail
            go_roundw
            case rel => exact ⟨r + 1, by go_num, by omega, by rw [RX.out]; exact HW, fun h => by rw [RX.out]⟩
            case measure => simp [intOf]; omega
    · have hrD : decide ((r : Int) ≤ (L.length : Int) + 1) = false := by simp; omega
      have hr2 : r = L.length + 2 := by omega
      have HF2 := Hid.of (HF.out hr2)
      clear HF
      have HFN : Hid (delD ⟨st, ev, starts, ars, ends⟩ seen faults = mostG faulT (0, 0, 0) L Z L.length + 1) := by
        show dlyG faulT (0, 0, 0) _ = _
        rw [HTW.out]
        unfold dlyG
        dsimp only
        rw [if_neg (by rw [← hr2, HF2.out]; simp), ← hr2, ← HZ.out]
      go_wp2_with fail
      go_loopw [14, 15] (fun mo i wr' => ∃ k : Nat, i = .int .i64 k ∧ k ≤ L.length ∧ mo = .int .i64 (mostG faulT (0, 0, 0) L Z k) ∧ Hid (D13 w wr' (.slice la L.length lc) (.slice ea E.length ec) gz L E Z)) (fun _ i _ => L.length - (intOf i).toNat)
      case atStart => exact ⟨0, rfl, Nat.zero_le _, rfl, HW⟩
      case round =>
        clear HW
        obtain ⟨k, rfl, hk, rfl, HW⟩ := hrel
        obtain ⟨mo, HM⟩ : ∃ mo, Hid (mo = mostG faulT (0, 0, 0) L Z k) := ⟨_, rfl⟩
        rw [← HM.out]
        have hm1 : -1 ≤ mo := by rw [HM.out]; exact (most_ge k).1
        have hm2 : mo ≤ 993696153600 := by rw [HM.out]; exact most_bd hZb.out k
        by_cases hkl : k < L.length
        · obtain ⟨⟨x1, x2, x3⟩, HX⟩ : ∃ x, Hid (L[k]? = some x) := ⟨_, List.getElem?_eq_getElem hkl⟩
          obtain ⟨gl, ol, hla, -, -, -, t3⟩ := (ownW_at HW.out.ov).get HX.out
          subst hla
          dsimp only at t3
          have z1 := HW.out.kz.cell hkl
          obtain ⟨zk, HZK⟩ : ∃ zk, Hid (zk = at0 Z k) := ⟨_, rfl⟩
          rw [← HZK.out] at z1
          have hkD : decide ((k : Int) < (L.length : Int)) = true := by simp; omega
          by_cases h3 : x3 = 1
          · have g1 : (x3 == 1) = true := by simp [h3]
            have HF3 : Hid (faulT (x1, x2, x3) = true) := decide_eq_true h3
            clear h3
            by_cases hgt : mo < (zk : Int)
            · have hgD : decide (mo < (zk : Int)) = true := by simp [hgt]
              have HN : Hid (mostG faulT (0, 0, 0) L Z (k + 1) = (zk : Int)) := by show _ = _; rw [most_yes HX.out HF3.out (by rw [← HM.out, ← HZK.out]; exact hgt), ← HZK.out]
              clear hgt
              go_wp2_with fail
              go_roundw
              case rel => exact ⟨k + 1, by go_num, by omega, by rw [HN.out], HW⟩
              case measure => simp [intOf]; omega
            · have hgD : decide (mo < (zk : Int)) = false := by simp; omega
              have HN : Hid (mostG faulT (0, 0, 0) L Z (k + 1) = mo) := by show _ = _; rw [most_no2 (by rw [← HM.out, ← HZK.out]; exact hgt), HM.out]
              clear hgt
              go_wp2_with fail
              go_roundw
              case rel => exact ⟨k + 1, by go_num, by omega, by rw [HN.out], HW⟩
              case measure => simp [intOf]; omega
          · have g1 : (x3 == 1) = false := by simp [h3]
            have HF3 : Hid (faulT (x1, x2, x3) = false) := decide_eq_false h3
            clear h3
            have HN : Hid (mostG faulT (0, 0, 0) L Z (k + 1) = mo) := by show _ = _; rw [most_no1 HX.out HF3.out, HM.out]
            go_wp2_with fail
            go_roundw
            case rel => exact ⟨k + 1, by go_num, by omega, by rw [HN.out], HW⟩
            case measure => simp [intOf]; omega
        · have hkD : decide ((k : Int) < (L.length : Int)) = false := by simp; omega
          have HFR : Hid (mo + 1 = delD ⟨st, ev, starts, ars, ends⟩ seen faults) := by show _ = _; rw [HFN.out, HM.out, show k = L.length by omega]
          go_wp2_with fail
          go_ret
          exact ⟨ret_i13 HFR.out, HW.out.bel⟩

theorem rtdelay_any (m : Mach) (l : ML) (sa : Option Addr) (sc : Nat) (seen : List Int) (fa : Option Addr) (fc : Nat) (faults : List Int) (w : World) (hma : MAt w m l) (hmm : mayB m = true) (hz6 : m.st ≤ 6) (hse : At w sa seen) (hsl : seen.length ≤ maxLen) (hfa : At w fa faults) (hfl : faults.length ≤ maxLen) :
    Calls Tryd.prog 48 #[mval m l, .slice sa seen.length sc, .slice fa faults.length fc] w fun e w' => e = .returned (.int .i64 (delD m seen faults)) ∧ Below w.heap.size w w' := by
  obtain ⟨st, ev, starts, ars, ends⟩ := m
  obtain ⟨a1, c1, a2, c2, a3, c3⟩ := l
  exact rtdelay_go st ev starts ars ends a1 c1 a2 c2 a3 c3 sa sc seen fa fc faults w hma hmm hz6 hse hsl hfa hfl
end Go.Proofs.YtmlkpdeidpcidaaDoor
namespace Go.Proofs.YtmlkpdeidpcidaaDoor
open Go.RowKit
set_option linter.unusedVariables false

set_option maxRecDepth 100000 in
set_option maxHeartbeats 8000000 in
theorem delt_any (m : Mach) (l : ML) (sa : Option Addr) (sc : Nat) (seen : List Int) (fa : Option Addr) (fc : Nat) (faults : List Int) (w : World) (hT : Hid (Tab w)) (h : Hid (MAt w m l)) (hse : Hid (At w sa seen)) (hsl : Hid (seen.length ≤ maxLen)) (hfa : Hid (At w fa faults)) (hfl : Hid (faults.length ≤ maxLen)) :
    Calls Tryd.prog 10 #[mval m l, .slice sa seen.length sc, .slice fa faults.length fc] w fun e w' => e = .returned (.bool true) ∧ Below w.heap.size w w' := by
  have B : Hid (Below w.heap.size w (w.alloc (.cells (mcells m l) 25))) := (Below.refl _ _).alloc (Nat.le_refl _) _
  have KA : Hid (Blk (w.alloc (.cells (mcells m l) 25)) w.heap.size 25 (mcells m l)) := Blk.new w _ _
  go_enter Tryd.func10, Tryd.ntmps10
  obtain ⟨x0, x1, x2, x3, x4⟩ := mcell_at KA.out
  go_wp2_with fail
  clear x0 x1 x2 x3 x4
  revert B KA
  generalize (w.alloc (.cells (mcells m l) 25)) = V0
  intro B KA
  obtain ⟨ld, le, lH⟩ : ∃ d e, Hid (delOut m seen faults = (d, e)) := ⟨_, _, rfl⟩
  refine (pDel_any m l sa sc seen fa fc faults _ (h.out.below B.out (Nat.le_refl _)) (hse.out.below B.out (Nat.le_refl _)) hsl.out (hfa.out.below B.out (Nat.le_refl _)) hfl.out (hT.out.below B.out hT.out.lt)).mono ?_
  intro e W1 hp
  unfold DelPost at hp
  rw [lH.out] at hp
  dsimp only at hp
  obtain ⟨rfl, hb⟩ := hp
  replace B := Hid.of (B.out.trans (hb.mono B.out.size))
  replace KA := Hid.of (KA.out.below hb KA.out.lt)
  clear hb
  obtain ⟨x0, x1, x2, x3, x4⟩ := mcell_at KA.out
  go_wp2_with fail
  clear x0 x1 x2 x3 x4
  refine (refMay_any m l _ (h.out.below B.out (Nat.le_refl _))).mono ?_
  rintro e W2 ⟨rfl, hb⟩
  replace B := Hid.of (B.out.trans (hb.mono B.out.size))
  replace KA := Hid.of (KA.out.below hb KA.out.lt)
  clear hb
  cases hm : mayB m with
  | false =>
    have q1 := lH.out
    rw [delOut_m hm] at q1
    cases q1
    go_wp2_with fail
    go_ret
    exact ⟨rfl, B.out⟩
  | true =>
    have HM := Hid.of hm
    clear hm
    obtain ⟨x0, x1, x2, x3, x4⟩ := mcell_at KA.out
    go_wp2_with fail
    clear x0 x1 x2 x3 x4
    refine (refIs_any sa sc seen m.ev _ (hse.out.below B.out (Nat.le_refl _)) hsl.out).mono ?_
    rintro e W3 ⟨rfl, qd, hqd⟩
    have hb : Below W2.heap.size W2 W3 := by rw [hqd]; exact below_drewN (Below.refl _ _) qd
    clear hqd
    replace B := Hid.of (B.out.trans (hb.mono B.out.size))
    replace KA := Hid.of (KA.out.below hb KA.out.lt)
    clear hb
    cases hr : rowB m.ev seen with
    | false =>
      have q1 := lH.out
      rw [delOut_s hr] at q1
      cases q1
      go_wp2_with fail
      go_ret
      exact ⟨rfl, B.out⟩
    | true =>
      have HR := Hid.of hr
      clear hr
      obtain ⟨x0, x1, x2, x3, x4⟩ := mcell_at KA.out
      go_wp2_with fail
      clear x0 x1 x2 x3 x4
      refine (refIs_any fa fc faults m.ev _ (hfa.out.below B.out (Nat.le_refl _)) hfl.out).mono ?_
      rintro e W4 ⟨rfl, qd, hqd⟩
      have hb : Below W3.heap.size W3 W4 := by rw [hqd]; exact below_drewN (Below.refl _ _) qd
      clear hqd
      replace B := Hid.of (B.out.trans (hb.mono B.out.size))
      replace KA := Hid.of (KA.out.below hb KA.out.lt)
      clear hb
      cases hf : rowB m.ev faults with
      | false =>
        have q1 := lH.out
        rw [delOut_f hf] at q1
        cases q1
        go_wp2_with fail
        go_ret
        exact ⟨rfl, B.out⟩
      | true =>
        have HF := Hid.of hf
        clear hf
        by_cases z1 : m.st ≤ 6
        · have d2 : decide ((6 : Int) < m.st) = false := by simp; omega
          have q1 := lH.out
          rw [delOut_ok HM.out HR.out HF.out z1] at q1
          have Z1 := Hid.of z1
          clear z1
          obtain ⟨D, HD⟩ : ∃ D, Hid (D = delD m seen faults) := ⟨_, rfl⟩
          rw [← HD.out] at q1
          obtain ⟨rfl, rfl⟩ : ld = D ∧ le = 0 := by cases q1; exact ⟨rfl, rfl⟩
          clear q1 lH
          obtain ⟨x0, x1, x2, x3, x4⟩ := mcell_at KA.out
          go_wp2_with fail
          clear x0 x1 x2 x3 x4
          refine (rtdelay_any m l sa sc seen fa fc faults _ (h.out.below B.out (Nat.le_refl _)) HM.out Z1.out (hse.out.below B.out (Nat.le_refl _)) hsl.out (hfa.out.below B.out (Nat.le_refl _)) hfl.out).mono ?_
          rintro e W5 ⟨rfl, hb⟩
          replace B := Hid.of (B.out.trans (hb.mono B.out.size))
          replace KA := Hid.of (KA.out.below hb KA.out.lt)
          clear hb
          rw [← HD.out]
          have d4 : (ld == ld) = true := by simp
          go_wp2_with fail
          go_ret
          exact ⟨rfl, B.out⟩
        · have q1 := lH.out
          rw [delOut_z HM.out HR.out HF.out z1] at q1
          cases q1
          have d2 : decide ((6 : Int) < m.st) = true := by simp; omega
          clear z1
          obtain ⟨x0, x1, x2, x3, x4⟩ := mcell_at KA.out
          go_wp2_with fail
          clear x0 x1 x2 x3 x4
          go_ret
          exact ⟨rfl, B.out⟩

end Go.Proofs.YtmlkpdeidpcidaaDoor
