/-
  The walk of jalousieref13.Twins.
-/
import Derived.Test.YtmkmfcdlaojkfaaDoorCR13C
import Derived.Test.YtmkmfcdlaojkfaaDoorCR13L
namespace Go.Proofs.YtmkmfcdlaojkfaaDoor
open Go.RowKit
set_option linter.unusedVariables false

theorem at_cell13 {w : World} {ab ao : Nat} {xs : List Int} (h : At w (some ⟨ab, ao, none⟩) xs) {i : Nat} {a : Int} (hi : xs[i]? = some a) : ab < w.heap.size ∧ w.cell? ⟨ab, ao + i, none⟩ = some (.int .i64 a) := by
  rcases h with h0 | ⟨b, off, e2, hb, hc⟩
  · subst h0; simp at hi
  · cases e2
    obtain ⟨x, hx, hcx⟩ := hc.at (List.getElem?_eq_some_iff.1 hi).1
    refine ⟨hb, ?_⟩
    rw [hcx, hx.out, hi]; rfl
theorem ownW_cell13 {W : World} {B g o n c : Nat} {L : List Tw} (h : OwnW W B (.slice (some ⟨g, o, none⟩) n c) L) {k : Nat} {x : Tw} (hk : L[k]? = some x) : W.cell? ⟨g, o + k * 3, none⟩ = some (.int .i64 x.1) ∧ W.cell? ⟨g, o + k * 3 + 1, none⟩ = some (.int .i64 x.2.1) ∧ W.cell? ⟨g, o + k * 3 + 2, none⟩ = some (.int .i64 x.2.2) := by
  obtain ⟨g', o', e, -, h1, h2, h3⟩ := (ownW_at h).get hk
  cases e
  exact ⟨h1, h2, h3⟩
theorem leadsT_len {m : Mach} (hm : m.arrows.length ≤ 4096) (hev : m.ev ≤ 8) (seen faults : List Int) (x : Tw) : (leadsT m seen faults x).length ≤ 134283264 := by
  have h1 := ldT_len hm seen faults x m.ev.toNat
  have h2 : m.ev.toNat ≤ 8 := by omega
  exact Nat.le_trans h1 (Nat.le_trans (Nat.mul_le_mul_right _ h2) (by omega))
theorem nodup_sub_T {m : Mach} {seen faults : List Int} {k : Nat} {s : List Tw × List Edg} (h : NI (leadsT m seen faults) (allT2 m) (twS m) k s) (h72 : (allT2 m).length ≤ 72) : s.1.length ≤ 72 := Nat.le_trans (nodup_sub h.nd h.inU) h72
set_option maxRecDepth 100000 in
set_option maxHeartbeats 16000000 in
theorem rttwins_go (st ev : Int) (starts : List Int) (ars : List Arr) (ends : List Int) (a1 : Option Addr) (c1 : Nat) (a2 : Option Addr) (c2 : Nat) (a3 : Option Addr) (c3 : Nat) (sa : Option Addr) (sc : Nat) (seen : List Int) (fa : Option Addr) (fc : Nat) (faults : List Int) (w : World) (hma : Hid (MAt w ⟨st, ev, starts, ars, ends⟩ ⟨a1, c1, a2, c2, a3, c3⟩)) (hmm : Hid (mayB ⟨st, ev, starts, ars, ends⟩ = true)) (hz6 : st ≤ 6) (hse : Hid (At w sa seen)) (hsl : Hid (seen.length ≤ maxLen)) (hfa : Hid (At w fa faults)) (hfl : Hid (faults.length ≤ maxLen)) :
    Calls Tryd.prog 83 #[mval ⟨st, ev, starts, ars, ends⟩ ⟨a1, c1, a2, c2, a3, c3⟩, .slice sa seen.length sc, .slice fa faults.length fc] w fun e w' => TwinsPost w (twins ⟨st, ev, starts, ars, ends⟩ seen faults) e w' := by
  obtain ⟨i0, hi, hz0, hz1, hz2⟩ := info_parts Tryd.infoTwin13
  obtain ⟨j0, ji, jz0, jz1, jz2⟩ := info_parts Tryd.infoEdge13
  have hz := mayB_size hmm.out
  unfold sizeOk at hz
  dsimp only at hz
  have hlen : ars.length ≤ 4096 := by omega
  have hev0 : 0 ≤ ev := by omega
  have hev : ev ≤ 8 := by omega
  have hs6 : starts.length ≤ 6 := by
    have h1 := nodup_len st.toNat starts (inc_nodup (may_starts hmm.out).1) (fun x hx => by have := (may_starts hmm.out).2 x hx; dsimp only at this; omega)
    omega
  have h72 : Hid ((allT2 ⟨st, ev, starts, ars, ends⟩).length ≤ 72) := allT2_len hz6
  have hst : Hid (At w a1 starts) := hma.out.s
  have HN0 : Hid (NI (leadsT ⟨st, ev, starts, ars, ends⟩ seen faults) (allT2 ⟨st, ev, starts, ars, ends⟩) (twS ⟨st, ev, starts, ars, ends⟩) 0 (twT starts starts, [])) := ni_start (twS_nodup hmm.out) fun x hx => by
    obtain ⟨h1, h2, h3⟩ := mem_twS.1 hx
    exact mem_allT2 ((may_starts hmm.out).2 _ h1) ((may_starts hmm.out).2 _ h2) (.inl h3)
  clear hz
  have HW0 : Hid (T13 w (w.alloc (.cells (mcells ⟨st, ev, starts, ars, ends⟩ ⟨a1, c1, a2, c2, a3, c3⟩) 25)) ⟨st, ev, starts, ars, ends⟩ ⟨a1, c1, a2, c2, a3, c3⟩ (.slice none 0 0) (.slice none 0 0) (.slice none 0 0) (.slice none 0 0) [] [] []) :=
    ⟨(Below.refl _ _).alloc (Nat.le_refl _) _, Blk.new w _ _, ownW_nil _ _, ownE_nil _ _, ownT_nil _ _, ownL_nil _ _, .inl rfl, by simp⟩
  go_enter Tryd.func83, Tryd.ntmps83
  go_wp2_with fail
  revert HW0
  generalize w.alloc (.cells (mcells ⟨st, ev, starts, ars, ends⟩ ⟨a1, c1, a2, c2, a3, c3⟩) 25) = V
  intro HW0
  go_loopw [8, 10] (fun v i wr' => ∃ j : Nat, i = .int .i64 j ∧ j ≤ starts.length ∧ Hid (T13 w wr' ⟨st, ev, starts, ars, ends⟩ ⟨a1, c1, a2, c2, a3, c3⟩ v (.slice none 0 0) (.slice none 0 0) (.slice none 0 0) (twT (starts.take j) starts) [] [])) (fun _ i _ => starts.length - (intOf i).toNat)
  case atStart => exact ⟨0, rfl, Nat.zero_le _, HW0⟩
  case round =>
    clear HW0
    obtain ⟨j, rfl, hj, HW⟩ := hrel
    obtain ⟨y0, y1, y2, y3, y4⟩ := mcell_at HW.out.km
    dsimp only at y0 y1 y2 y3 y4
    by_cases hjl : j < starts.length
    · obtain ⟨a, HA⟩ : ∃ a, Hid (starts[j]? = some a) := ⟨_, List.getElem?_eq_getElem hjl⟩
      obtain ⟨ab, ao, haa, -, -⟩ := (hst.out).cells_of13 (k := j) hjl
      subst haa
      go_wp2_with fail
      clear y0 y1 y2 y3 y4
      go_loopw [8, 11] (fun v i wr' => ∃ q : Nat, i = .int .i64 q ∧ q ≤ starts.length ∧ Hid (T13 w wr' ⟨st, ev, starts, ars, ends⟩ ⟨some ⟨ab, ao, none⟩, c1, a2, c2, a3, c3⟩ v (.slice none 0 0) (.slice none 0 0) (.slice none 0 0) (twT (starts.take j) starts ++ (starts.take q).map fun b => ((a, b, 0) : Tw)) [] [])) (fun _ i _ => starts.length - (intOf i).toNat)
      case atStart => exact ⟨0, rfl, Nat.zero_le _, by rw [List.take_zero, List.map_nil, List.append_nil]; exact HW⟩
      case round =>
        clear HW
        obtain ⟨q, rfl, hq, HW⟩ := hrel
        obtain ⟨y0, y1, y2, y3, y4⟩ := mcell_at HW.out.km
        dsimp only at y0 y1 y2 y3 y4
        by_cases hql : q < starts.length
        · obtain ⟨b, HB⟩ : ∃ b, Hid (starts[q]? = some b) := ⟨_, List.getElem?_eq_getElem hql⟩
          obtain ⟨R, HR⟩ : ∃ R : List Tw, Hid (R = (twT (starts.take j) starts ++ (starts.take q).map fun b => ((a, b, 0) : Tw))) := ⟨_, rfl⟩
          rw [← HR.out] at HW
          have hRl : R.length ≤ 100 := by rw [HR.out, List.length_append, List.length_map, List.length_take, twT_len, List.length_take]; have h1 : min j starts.length * starts.length ≤ 6 * 6 := Nat.mul_le_mul (by omega) hs6; omega
          obtain ⟨va, vc, hv, -⟩ := own_form2 HW.out.ov
          subst hv
          have HNX : Hid ((twT (starts.take j) starts ++ (starts.take (q + 1)).map fun b => ((a, b, 0) : Tw)) = R ++ [(a, b, 0)]) := by show _ = _; rw [HR.out, step_at HB.out, List.map_append, ← List.append_assoc]; rfl
          have hjD : decide ((j : Int) < (starts.length : Int)) = true := by simp; omega
          have hqD : decide ((q : Int) < (starts.length : Int)) = true := by simp; omega
          go_wp2_with fail
          clear y0 y1 y2 y3 y4
          have SA : Hid (∀ W v' R', T13 w W ⟨st, ev, starts, ars, ends⟩ ⟨some ⟨ab, ao, none⟩, c1, a2, c2, a3, c3⟩ v' (.slice none 0 0) (.slice none 0 0) (.slice none 0 0) R' [] [] → W.cell? ⟨w.heap.size, 2, none⟩ = some (.slice (some ⟨ab, ao, none⟩) starts.length c1) ∧ W.cell? ⟨ab, ao + j, none⟩ = some (.int .i64 a) ∧ W.cell? ⟨ab, ao + q, none⟩ = some (.int .i64 b)) := fun W v' R' h => ⟨h.km.cell 2 rfl, (h.bel.cell (p := ⟨ab, ao + j, none⟩) (at_cell13 hst.out HA.out).1).trans (at_cell13 hst.out HA.out).2, (h.bel.cell (p := ⟨ab, ao + q, none⟩) (at_cell13 hst.out HB.out).1).trans (at_cell13 hst.out HB.out).2⟩
          have bd : Below wr.heap.size wr wr.drew := (Below.refl _ _).drew
          replace HW := Hid.of (HW.out.below bd)
          refine wp_region_held_drew (S := fun w' => w'.cell? ⟨w.heap.size, 2, none⟩ = some (.slice (some ⟨ab, ao, none⟩) starts.length c1) ∧ w'.cell? ⟨ab, ao + j, none⟩ = some (.int .i64 a) ∧ w'.cell? ⟨ab, ao + q, none⟩ = some (.int .i64 b)) (by kernel_rfl) (SA.out _ _ _ HW.out) (fun hS => ?_)
          clear bd
          revert HW hS
          generalize wr.drew = Y
          intro HW hS
          refine wpAnyH_take (i := 0) (v := .slice va R.length vc) rfl (by kernel_rfl) (by kernel_rfl) (by kernel_rfl) (fun _ _ _ h => h) (Or.inl ⟨by kernel_rfl, fun w' hw' => by obtain ⟨q0, q1, q2⟩ := hw'; go_simp⟩) hS ?_
          refine wpAnyH_take (i := 1) (v := .pointer (some ⟨w.heap.size, 2, none⟩)) rfl (by kernel_rfl) (by kernel_rfl) (by kernel_rfl) (fun _ _ _ h => h) (Or.inl ⟨by kernel_rfl, fun w' hw' => by obtain ⟨q0, q1, q2⟩ := hw'; go_simp⟩) hS ?_
          refine wpAnyH_take (i := 2) (v := .slice (some ⟨ab, ao, none⟩) starts.length c1) rfl (by kernel_rfl) (by kernel_rfl) (by kernel_rfl) (fun _ _ _ h => h) (Or.inl ⟨by kernel_rfl, fun w' hw' => by obtain ⟨q0, q1, q2⟩ := hw'; go_simp⟩) hS ?_
          refine wpAnyH_take (i := 3) (v := .int .i64 j) rfl (by kernel_rfl) (by kernel_rfl) (by kernel_rfl) (fun _ _ _ h => h) (Or.inl ⟨by kernel_rfl, fun w' hw' => by obtain ⟨q0, q1, q2⟩ := hw'; go_simp⟩) hS ?_
          refine wpAnyH_take (i := 4) (v := .pointer (some ⟨ab, ao + j, none⟩)) rfl (by kernel_rfl) (by kernel_rfl) (by kernel_rfl) (fun _ _ _ h => h) (Or.inl ⟨by kernel_rfl, fun w' hw' => by obtain ⟨q0, q1, q2⟩ := hw'; go_simp⟩) hS ?_
          refine wpAnyH_take (i := 5) (v := .int .i64 a) rfl (by kernel_rfl) (by kernel_rfl) (by kernel_rfl) (fun _ _ _ h => h) (Or.inl ⟨by kernel_rfl, fun w' hw' => by obtain ⟨q0, q1, q2⟩ := hw'; go_simp⟩) hS ?_
          refine wpAnyH_take (i := 6) (v := .pointer (some ⟨w.heap.size, 2, none⟩)) rfl (by kernel_rfl) (by kernel_rfl) (by kernel_rfl) (fun _ _ _ h => h) (Or.inl ⟨by kernel_rfl, fun w' hw' => by obtain ⟨q0, q1, q2⟩ := hw'; go_simp⟩) hS ?_
          refine wpAnyH_take (i := 7) (v := .slice (some ⟨ab, ao, none⟩) starts.length c1) rfl (by kernel_rfl) (by kernel_rfl) (by kernel_rfl) (fun _ _ _ h => h) (Or.inl ⟨by kernel_rfl, fun w' hw' => by obtain ⟨q0, q1, q2⟩ := hw'; go_simp⟩) hS ?_
          refine wpAnyH_take (i := 8) (v := .int .i64 q) rfl (by kernel_rfl) (by kernel_rfl) (by kernel_rfl) (fun _ _ _ h => h) (Or.inl ⟨by kernel_rfl, fun w' hw' => by obtain ⟨q0, q1, q2⟩ := hw'; go_simp⟩) hS ?_
          refine wpAnyH_take (i := 9) (v := .pointer (some ⟨ab, ao + q, none⟩)) rfl (by kernel_rfl) (by kernel_rfl) (by kernel_rfl) (fun _ _ _ h => h) (Or.inl ⟨by kernel_rfl, fun w' hw' => by obtain ⟨q0, q1, q2⟩ := hw'; go_simp⟩) hS ?_
          refine wpAnyH_take (i := 10) (v := .int .i64 b) rfl (by kernel_rfl) (by kernel_rfl) (by kernel_rfl) (fun _ _ _ h => h) (Or.inl ⟨by kernel_rfl, fun w' hw' => by obtain ⟨q0, q1, q2⟩ := hw'; go_simp⟩) hS ?_
          refine wpAnyH_take (i := 11) (v := .agg #[.int .i64 a, .int .i64 b, .int .i64 0]) rfl (by kernel_rfl) (by kernel_rfl) (by kernel_rfl) (fun _ _ _ h => h) (Or.inl ⟨by kernel_rfl, fun w' hw' => by obtain ⟨q0, q1, q2⟩ := hw'; go_simp⟩) hS ?_
          simp only [Act.put, List.setIfInBounds_toArray]
          refine wpAnyH_ready (rs := [12]) (by kernel_rfl) (by simp) ?_
          refine AllReadyH.cons rfl (fun K' hK' => ?_) AllReadyH.nil
          clear hS
          go_simp
          have hb : Below Y.heap.size Y (Y.alloc (.cells #[.int .i64 a, .int .i64 b, .int .i64 0] 133)) := (Below.refl _ _).alloc (Nat.le_refl _) _
          replace HW := Hid.of (HW.out.below hb)
          have KB : Hid (∀ i u, ([.int .i64 a, .int .i64 b, .int .i64 0] : List Value)[i]? = some u → (Y.alloc (.cells #[.int .i64 a, .int .i64 b, .int .i64 0] 133)).cell? ((⟨Y.heap.size, 0, none⟩ : Addr).add i) = some u) := cells_three Y Y rfl _ _ _ _
          refine hK'.out _ _ (SA.out _ _ _ HW.out) (fun hS => ?_)
          clear hK' K' hb
          revert HW KB hS
          generalize Y.alloc (.cells #[.int .i64 a, .int .i64 b, .int .i64 0] 133) = Y1
          generalize Y.heap.size = pb
          intro HW KB hS
          refine wpAnyH_ready (rs := [13]) (by kernel_rfl) (by simp) ?_
          refine AllReadyH.cons rfl (fun K' hK' => ?_) AllReadyH.nil
          clear hS
          have ho := HW.out.ov
          have hB0 := HW.out.hB
          refine step_append_block rfl (.tmp 31) (.tmp 43) 126 rfl (w.heap.size + 1) 133 i0 _ 3 24 Tryd.underlying126 hi hz0 hz1 hz2 rfl (by decide) _ _ _ rfl ho ⟨pb, 0, none⟩ 1 1 [.int .i64 a, .int .i64 b, .int .i64 0] rfl rfl KB.out (by intro u hu; simp at hu; rcases hu with rfl | rfl | rfl <;> rfl) (by decide) (by unfold maxLen; omega) (by omega) hB0 ?_
          intro v9 Y2 o9 g9 n9
          replace HW := Hid.of (T13.pushW (y := (a, b, 0)) HW.out o9 g9 n9)
          obtain ⟨va9, vc9, hv9, -⟩ := own_form2 HW.out.ov
          rw [List.length_append, List.length_cons, List.length_nil] at hv9
          subst hv9
          refine hK'.out _ _ (SA.out _ _ _ HW.out) (fun hS => ?_)
          clear hK' K' o9 g9 n9 ho hB0 KB SA
          refine wpAnyH_take (i := 14) (v := .slice va9 (R.length + (0 + 1)) vc9) rfl (by kernel_rfl) (by kernel_rfl) (by kernel_rfl) (fun _ _ _ h => h) (Or.inl ⟨by kernel_rfl, fun w' hw' => by obtain ⟨q0, q1, q2⟩ := hw'; go_simp⟩) hS ?_
          refine wpAnyH_done (by kernel_rfl) ?_ _
          clear hS
          go_wp2_with fail
          go_roundw
          case rel => exact ⟨q + 1, by go_num, by omega, by rw [HNX.out]; exact HW⟩
          case measure => simp [intOf]; omega
        · have hqD : decide ((q : Int) < (starts.length : Int)) = false := by simp; omega
          have HNX : Hid ((twT (starts.take (j + 1)) starts) = (twT (starts.take j) starts ++ (starts.take q).map fun b => ((a, b, 0) : Tw))) := by show _ = _; rw [step_at HA.out, twT_snoc, List.take_of_length_le (show starts.length ≤ q by omega)]
          go_wp2_with fail
          go_roundw
          case rel => exact ⟨j + 1, by go_num, by omega, by rw [HNX.out]; exact HW⟩
          case measure => simp [intOf]; omega
    · have hjD : decide ((j : Int) < (starts.length : Int)) = false := by simp; omega
      rw [List.take_of_length_le (show starts.length ≤ j by omega)] at HW
      go_wp2_with fail
      clear y0 y1 y2 y3 y4
      go_loopw [8, 9, 12] (fun v u i wr' => ∃ (k : Nat) (L : List Tw) (E : List Edg), i = .int .i64 k ∧ k ≤ L.length ∧ L.length ≤ 72 ∧ E.length ≤ k * 134283264 ∧ Hid (T13 w wr' ⟨st, ev, starts, ars, ends⟩ ⟨a1, c1, a2, c2, a3, c3⟩ v u (.slice none 0 0) (.slice none 0 0) L E []) ∧ Hid (NI (leadsT ⟨st, ev, starts, ars, ends⟩ seen faults) (allT2 ⟨st, ev, starts, ars, ends⟩) (twS ⟨st, ev, starts, ars, ends⟩) k (L, E)) ∧ Hid (twins ⟨st, ev, starts, ars, ends⟩ seen faults = nGo (leadsT ⟨st, ev, starts, ars, ends⟩ seen faults) (0, 0, 0) (100 - k) k (L, E))) (fun _ _ i _ => 73 - (intOf i).toNat)
      case atStart => exact ⟨0, twT starts starts, [], rfl, Nat.zero_le _, nodup_sub_T HN0.out h72.out, by simp, HW, HN0, rfl⟩
      case round =>
        clear HW
        obtain ⟨k, L, E, rfl, hk, hL, hE, HW, HNI, HGO⟩ := hrel
        obtain ⟨va, vc, hv, -⟩ := own_form2 HW.out.ov
        obtain ⟨ua, uc, hu, -⟩ := own_form2 HW.out.ou
        subst hv hu
        by_cases hlt : k < L.length
        · obtain ⟨⟨x1, x2, x3⟩, HX⟩ : ∃ x, Hid (L[k]? = some x) := ⟨_, List.getElem?_eq_getElem hlt⟩
          obtain ⟨g, o, hga, -, -⟩ := (ownW_at HW.out.ov).get HX.out
          subst hga
          have hkD : decide ((k : Int) < (L.length : Int)) = true := by simp; omega
          go_wp2_with fail
          have SA : Hid (∀ W A C ys', T13 w W ⟨st, ev, starts, ars, ends⟩ ⟨a1, c1, a2, c2, a3, c3⟩ (.slice (some ⟨g, o, none⟩) L.length vc) (.slice ua E.length uc) A C L E ys' → W.cell? ⟨w.heap.size, 0, none⟩ = some (.int .i64 st) ∧ W.cell? ⟨w.heap.size, 1, none⟩ = some (.int .i64 ev) ∧ W.cell? ⟨w.heap.size, 2, none⟩ = some (.slice a1 starts.length c1) ∧ W.cell? ⟨w.heap.size, 3, none⟩ = some (.slice a2 ars.length c2) ∧ W.cell? ⟨w.heap.size, 4, none⟩ = some (.slice a3 ends.length c3) ∧ W.cell? ⟨g, o + k * 3, none⟩ = some (.int .i64 x1) ∧ W.cell? ⟨g, o + k * 3 + 1, none⟩ = some (.int .i64 x2) ∧ W.cell? ⟨g, o + k * 3 + 2, none⟩ = some (.int .i64 x3)) := fun W A C ys' h => by
            obtain ⟨y0, y1, y2, y3, y4⟩ := mcell_at h.km
            obtain ⟨t1, t2, t3⟩ := ownW_cell13 h.ov HX.out
            exact ⟨y0, y1, y2, y3, y4, t1, t2, t3⟩
          have bd : Below wr.heap.size wr wr.drew := (Below.refl _ _).drew
          replace HW := Hid.of (HW.out.below bd)
          refine wp_region_held_drew (S := fun w' => w'.cell? ⟨w.heap.size, 0, none⟩ = some (.int .i64 st) ∧ w'.cell? ⟨w.heap.size, 1, none⟩ = some (.int .i64 ev) ∧ w'.cell? ⟨w.heap.size, 2, none⟩ = some (.slice a1 starts.length c1) ∧ w'.cell? ⟨w.heap.size, 3, none⟩ = some (.slice a2 ars.length c2) ∧ w'.cell? ⟨w.heap.size, 4, none⟩ = some (.slice a3 ends.length c3) ∧ w'.cell? ⟨g, o + k * 3, none⟩ = some (.int .i64 x1) ∧ w'.cell? ⟨g, o + k * 3 + 1, none⟩ = some (.int .i64 x2) ∧ w'.cell? ⟨g, o + k * 3 + 2, none⟩ = some (.int .i64 x3)) (by kernel_rfl) (SA.out _ _ _ _ HW.out) (fun hS => ?_)
          clear bd
          revert HW hS
          generalize wr.drew = Y
          intro HW hS
          refine wpAnyH_take (i := 0) (v := .agg #[.int .i64 st, .int .i64 ev, .slice a1 starts.length c1, .slice a2 ars.length c2, .slice a3 ends.length c3]) rfl (by kernel_rfl) (by kernel_rfl) (by kernel_rfl) (fun _ _ _ h => h) (Or.inl ⟨by kernel_rfl, fun w' hw' => by obtain ⟨q0, q1, q2, q3, q4, q5, q6, q7⟩ := hw'; go_simp⟩) hS ?_
          refine wpAnyH_take (i := 1) (v := .slice sa seen.length sc) rfl (by kernel_rfl) (by kernel_rfl) (by kernel_rfl) (fun _ _ _ h => h) (Or.inl ⟨by kernel_rfl, fun w' hw' => by obtain ⟨q0, q1, q2, q3, q4, q5, q6, q7⟩ := hw'; go_simp⟩) hS ?_
          refine wpAnyH_take (i := 2) (v := .slice fa faults.length fc) rfl (by kernel_rfl) (by kernel_rfl) (by kernel_rfl) (fun _ _ _ h => h) (Or.inl ⟨by kernel_rfl, fun w' hw' => by obtain ⟨q0, q1, q2, q3, q4, q5, q6, q7⟩ := hw'; go_simp⟩) hS ?_
          refine wpAnyH_take (i := 3) (v := .slice (some ⟨g, o, none⟩) L.length vc) rfl (by kernel_rfl) (by kernel_rfl) (by kernel_rfl) (fun _ _ _ h => h) (Or.inl ⟨by kernel_rfl, fun w' hw' => by obtain ⟨q0, q1, q2, q3, q4, q5, q6, q7⟩ := hw'; go_simp⟩) hS ?_
          refine wpAnyH_take (i := 4) (v := .int .i64 k) rfl (by kernel_rfl) (by kernel_rfl) (by kernel_rfl) (fun _ _ _ h => h) (Or.inl ⟨by kernel_rfl, fun w' hw' => by obtain ⟨q0, q1, q2, q3, q4, q5, q6, q7⟩ := hw'; go_simp⟩) hS ?_
          refine wpAnyH_take (i := 5) (v := .pointer (some ⟨g, o + k * 3, none⟩)) rfl (by kernel_rfl) (by kernel_rfl) (by kernel_rfl) (fun _ _ _ h => h) (Or.inl ⟨by kernel_rfl, fun w' hw' => by obtain ⟨q0, q1, q2, q3, q4, q5, q6, q7⟩ := hw'; go_simp⟩) hS ?_
          refine wpAnyH_take (i := 6) (v := .agg #[.int .i64 x1, .int .i64 x2, .int .i64 x3]) rfl (by kernel_rfl) (by kernel_rfl) (by kernel_rfl) (fun _ _ _ h => h) (Or.inl ⟨by kernel_rfl, fun w' hw' => by obtain ⟨q0, q1, q2, q3, q4, q5, q6, q7⟩ := hw'; go_simp⟩) hS ?_
          simp only [Act.put, List.setIfInBounds_toArray]
          refine wpAnyH_ready (rs := [7]) (by kernel_rfl) (by simp) ?_
          refine AllReadyH.cons rfl (fun K' hK' => ?_) AllReadyH.nil
          clear hS
          go_simp
          refine (rtleads_go st ev starts ars ends a1 c1 a2 c2 a3 c3 sa sc seen fa fc faults x1 x2 x3 Y (Hid.of (hma.out.a.below HW.out.bel (Nat.le_refl _))) hlen hev0 hev (Hid.of (hse.out.below HW.out.bel (Nat.le_refl _))) hsl (Hid.of (hfa.out.below HW.out.bel (Nat.le_refl _))) hfl).mono ?_
          rintro e Y1 ⟨tv, tu, rfl, ot, ol, hb⟩
          obtain ⟨ys, HY⟩ : ∃ ys, Hid (ys = leadsT ⟨st, ev, starts, ars, ends⟩ seen faults (x1, x2, x3)) := ⟨_, rfl⟩
          rw [← HY.out] at ot ol
          replace HW := Hid.of (HW.out.led hb ot ol)
          obtain ⟨ta, tc, htv, -⟩ := own_form2 ot
          obtain ⟨ca, cc, htu, -⟩ := own_form2 ol
          subst htv htu
          refine hK'.out _ _ (SA.out _ _ _ _ HW.out) (fun hS => ?_)
          clear hK' K' hb ot ol SA
          refine wpAnyH_take (i := 8) (v := .tuple #[.slice ta ys.length tc, .slice ca ys.length cc]) rfl (by kernel_rfl) (by kernel_rfl) (by kernel_rfl) (fun _ _ _ h => h) (Or.inl ⟨by kernel_rfl, fun w' hw' => by obtain ⟨q0, q1, q2, q3, q4, q5, q6, q7⟩ := hw'; go_simp⟩) hS ?_
          refine wpAnyH_take (i := 9) (v := .slice ta ys.length tc) rfl (by kernel_rfl) (by kernel_rfl) (by kernel_rfl) (fun _ _ _ h => h) (Or.inl ⟨by kernel_rfl, fun w' hw' => by obtain ⟨q0, q1, q2, q3, q4, q5, q6, q7⟩ := hw'; go_simp⟩) hS ?_
          refine wpAnyH_take (i := 10) (v := .slice ca ys.length cc) rfl (by kernel_rfl) (by kernel_rfl) (by kernel_rfl) (fun _ _ _ h => h) (Or.inl ⟨by kernel_rfl, fun w' hw' => by obtain ⟨q0, q1, q2, q3, q4, q5, q6, q7⟩ := hw'; go_simp⟩) hS ?_
          refine wpAnyH_take (i := 11) (v := .slice ta ys.length tc) rfl (by kernel_rfl) (by kernel_rfl) (by kernel_rfl) (fun _ _ _ h => h) (Or.inl ⟨by kernel_rfl, fun w' hw' => by obtain ⟨q0, q1, q2, q3, q4, q5, q6, q7⟩ := hw'; go_simp⟩) hS ?_
          refine wpAnyH_take (i := 12) (v := .slice ca ys.length cc) rfl (by kernel_rfl) (by kernel_rfl) (by kernel_rfl) (fun _ _ _ h => h) (Or.inl ⟨by kernel_rfl, fun w' hw' => by obtain ⟨q0, q1, q2, q3, q4, q5, q6, q7⟩ := hw'; go_simp⟩) hS ?_
          refine wpAnyH_done (by kernel_rfl) ?_ _
          clear hS
          have hyl : ys.length ≤ 134283264 := by rw [HY.out]; exact leadsT_len hlen hev seen faults _
          go_wp2_with fail
          go_loopw [8, 9, 15] (fun v u i wr' => ∃ j : Nat, i = .int .i64 j ∧ j ≤ ys.length ∧ Hid (T13 w wr' ⟨st, ev, starts, ars, ends⟩ ⟨a1, c1, a2, c2, a3, c3⟩ v u (.slice ta ys.length tc) (.slice ca ys.length cc) (nRow k (L, E) (ys.take j)).1 (nRow k (L, E) (ys.take j)).2 ys)) (fun _ _ i _ => ys.length - (intOf i).toNat)
          case atStart => exact ⟨0, rfl, Nat.zero_le _, HW⟩
          case round =>
            clear HW
            obtain ⟨j, rfl, hj, HW⟩ := hrel
            by_cases hjl : j < ys.length
            · obtain ⟨⟨⟨y1, y2, y3⟩, yb⟩, HYJ⟩ : ∃ y, Hid (ys[j]? = some y) := ⟨_, List.getElem?_eq_getElem hjl⟩
              obtain ⟨Lc, HL⟩ : ∃ Lc, Hid (Lc = (nRow k (L, E) (ys.take j)).1) := ⟨_, rfl⟩
              obtain ⟨Ec, HE⟩ : ∃ Ec, Hid (Ec = (nRow k (L, E) (ys.take j)).2) := ⟨_, rfl⟩
              rw [← HL.out, ← HE.out] at HW
              have HLE : Hid ((nRow k (L, E) (ys.take j)) = (Lc, Ec)) := by show _ = _; rw [HL.out, HE.out]
              have hLc : Lc.length ≤ 72 := by
                rw [HL.out, nRow_fst]
                refine Nat.le_trans (nodup_sub (nodup_cRow _ HNI.out.nd) fun z hz => ?_) h72.out
                rcases (mem_cRow _ _ _).1 hz with q | q
                · exact HNI.out.inU z q
                · obtain ⟨y, hy, rfl⟩ := List.mem_map.1 q
                  exact leads_in hmm.out seen faults (x1, x2, x3) (HNI.out.inU _ (List.mem_of_getElem? HX.out)) y (by rw [← HY.out]; exact List.mem_of_mem_take hy)
              have hEc : Ec.length ≤ 10000000000 := by rw [HE.out, nRow_len2, List.length_take]; dsimp only; omega
              obtain ⟨va, vc, hv, -⟩ := own_form2 HW.out.ov
              obtain ⟨ua, uc, hu, -⟩ := own_form2 HW.out.ou
              subst hv hu
              have HY1 : Hid ((ys.map (·.1))[j]? = some (y1, y2, y3)) := by show _ = _; rw [List.getElem?_map, HYJ.out]; rfl
              obtain ⟨g2, o2, hta, -, t1, t2, t3⟩ := (ownW_at (n := ys.length) (c := tc) HW.out.oa.toW).get HY1.out
              dsimp only at t1 t2 t3
              obtain ⟨g3, hca, -⟩ := HW.out.oc.get HYJ.out
              subst hta hca
              have hjD : decide ((j : Int) < (ys.length : Int)) = true := by simp; omega
              go_wp2_with fail
              clear t1 t2 t3
              refine (rtfind_any va vc Lc (y1, y2, y3) wr (Hid.of (ownW_at HW.out.ov)) (by omega)).mono ?_
              rintro e W1 ⟨rfl, hb⟩
              replace HW := Hid.of (HW.out.below hb)
              clear hb
              obtain ⟨n, HNn⟩ : ∃ n, Hid (n = idxG Lc (y1, y2, y3)) := ⟨_, rfl⟩
              rw [← HNn.out]
              obtain ⟨t1, t2, t3⟩ := ownW_cell13 HW.out.oa.toW HY1.out
              dsimp only at t1 t2 t3
              by_cases hin : ((y1, y2, y3) : Tw) ∈ Lc
              · have hi1 := nAdd_old (k := k) (E := Ec) (y := ((y1, y2, y3), yb)) hin
                have HNX : Hid (nRow k (L, E) (ys.take (j + 1)) = (Lc, Ec ++ [(k, n, yb)])) := by show _ = _; rw [step_at HYJ.out, nRow_snoc, HLE.out, HNn.out]; exact hi1.1
                have g1 : ((n : Int) == (Lc.length : Int)) = false := by have h8 : idxG Lc (y1, y2, y3) < Lc.length := hi1.2; have h9 := HNn.out; simp; omega
                clear hi1 hin
                clear t1 t2 t3
                obtain ⟨g3x, hcax, c1x⟩ := HW.out.oc.get HYJ.out
                cases hcax
                dsimp only at c1x
                rw [Nat.zero_add] at c1x
                have H2 := Hid.of (HW.out.below ((Below.refl _ _).alloc (Nat.le_refl _) (.cells #[.int .i64 k, .int .i64 n, .bool yb] 131)))
                clear HW
                go_wp2_with (at_builtin; refine wpList_append_block _ rfl (.tmp 85) (.tmp 93) 127 rfl (w.heap.size + 1) 131 j0 _ 3 24 Tryd.underlying127 ji jz0 jz1 jz2 rfl (by decide) _ _ _ rfl H2.out.ou ⟨W1.heap.size, 0, none⟩ 1 1 [.int .i64 k, .int .i64 n, .bool yb] rfl rfl (cells_three W1 W1 rfl _ _ _ _) (by intro u hu; simp at hu; rcases hu with rfl | rfl | rfl <;> rfl) (by decide) (by unfold maxLen; omega) (by omega) H2.out.hB ?_)
                intro u9 W9 p9 g9 n9
                have Q1 := Hid.of (T13.pushE (e := (k, n, yb)) H2.out p9 g9)
                clear p9 g9 n9 H2 c1x
                go_wp2_with fail
                go_roundw
                case rel => exact ⟨j + 1, by go_num, by omega, by rw [HNX.out]; exact Q1⟩
                case measure => simp [intOf]; omega
              · have hi1 := nAdd_new (k := k) (E := Ec) (y := ((y1, y2, y3), yb)) hin
                have HNX : Hid (nRow k (L, E) (ys.take (j + 1)) = (Lc ++ [(y1, y2, y3)], Ec ++ [(k, n, yb)])) := by show _ = _; rw [step_at HYJ.out, nRow_snoc, HLE.out, HNn.out]; exact hi1.1
                have g1 : ((n : Int) == (Lc.length : Int)) = true := by have h8 : idxG Lc (y1, y2, y3) = Lc.length := hi1.2; have h9 := HNn.out; simp; omega
                clear hi1 hin
                have H2 := Hid.of (HW.out.below ((Below.refl _ _).alloc (Nat.le_refl _) (.cells #[.int .i64 y1, .int .i64 y2, .int .i64 y3] 133)))
                clear HW
                go_wp2_with (at_builtin; refine wpList_append_block _ rfl (.tmp 78) (.tmp 83) 126 rfl (w.heap.size + 1) 133 i0 _ 3 24 Tryd.underlying126 hi hz0 hz1 hz2 rfl (by decide) _ _ _ rfl H2.out.ov ⟨W1.heap.size, 0, none⟩ 1 1 [.int .i64 y1, .int .i64 y2, .int .i64 y3] rfl rfl (cells_three W1 W1 rfl _ _ _ _) (by intro u hu; simp at hu; rcases hu with rfl | rfl | rfl <;> rfl) (by decide) (by unfold maxLen; omega) (by omega) H2.out.hB ?_)
                intro v9 W2 o9 g9 n9
                have HW := Hid.of (T13.pushW (y := (y1, y2, y3)) H2.out o9 g9 (by rw [World.size_alloc]; exact n9))
                clear o9 g9 n9 H2 t1 t2 t3
                obtain ⟨g3x, hcax, c1x⟩ := HW.out.oc.get HYJ.out
                cases hcax
                dsimp only at c1x
                rw [Nat.zero_add] at c1x
                have H2 := Hid.of (HW.out.below ((Below.refl _ _).alloc (Nat.le_refl _) (.cells #[.int .i64 k, .int .i64 n, .bool yb] 131)))
                clear HW
                go_wp2_with (at_builtin; refine wpList_append_block _ rfl (.tmp 85) (.tmp 93) 127 rfl (w.heap.size + 1) 131 j0 _ 3 24 Tryd.underlying127 ji jz0 jz1 jz2 rfl (by decide) _ _ _ rfl H2.out.ou ⟨W2.heap.size, 0, none⟩ 1 1 [.int .i64 k, .int .i64 n, .bool yb] rfl rfl (cells_three W2 W2 rfl _ _ _ _) (by intro u hu; simp at hu; rcases hu with rfl | rfl | rfl <;> rfl) (by decide) (by unfold maxLen; omega) (by omega) H2.out.hB ?_)
                intro u9 W9 p9 g9 n9
                have Q1 := Hid.of (T13.pushE (e := (k, n, yb)) H2.out p9 g9)
                clear p9 g9 n9 H2 c1x
                go_wp2_with fail
                go_roundw
                case rel => exact ⟨j + 1, by go_num, by omega, by rw [HNX.out]; exact Q1⟩
                case measure => simp [intOf]; omega
            · have hjD : decide ((j : Int) < (ys.length : Int)) = false := by simp; omega
              rw [List.take_of_length_le (show ys.length ≤ j by omega)] at HW
              have HST := Hid.of (ni_step (leads_in hmm.out seen faults) HNI.out HX.out)
              rw [← HY.out] at HST
              have HGN : Hid (twins ⟨st, ev, starts, ars, ends⟩ seen faults = nGo (leadsT ⟨st, ev, starts, ars, ends⟩ seen faults) (0, 0, 0) (100 - (k + 1)) (k + 1) (nRow k (L, E) ys)) := by
                show _ = _
                rw [HGO.out, show 100 - k = (100 - (k + 1)) + 1 by omega, nGo, if_pos (show k < (L, E).1.length from hlt)]
                rw [show ((L, E) : List Tw × List Edg).1[k]? = some (x1, x2, x3) from HX.out, Option.getD_some, ← HY.out]
              have hL2 := nodup_sub_T HST.out h72.out
              have hE2 : (nRow k (L, E) ys).2.length ≤ (k + 1) * 134283264 := by rw [nRow_len2, Nat.succ_mul]; dsimp only; omega
              have hk2 := HST.out.kl
              go_wp2_with fail
              go_roundw
              case rel => exact ⟨k + 1, (nRow k (L, E) ys).1, (nRow k (L, E) ys).2, by go_num, hk2, hL2, hE2, Hid.of (T13.drop (m' := ⟨st, ev, starts, ars, ends⟩) HW.out), HST, HGN⟩
              case measure => simp [intOf]; omega
        · have hkD : decide ((k : Int) < (L.length : Int)) = false := by simp; omega
          have HFN : Hid (twins ⟨st, ev, starts, ars, ends⟩ seen faults = (L, E)) := by
            show _ = _
            rw [HGO.out, show 100 - k = (100 - (k + 1)) + 1 by omega, nGo, if_neg (show ¬ k < (L, E).1.length from hlt)]
          go_wp2_with fail
          go_ret2
          rw [HFN.out]
          exact ⟨_, _, rfl, own_low13 HW.out.ov (by omega), own_low13 HW.out.ou (by omega), HW.out.bel⟩
end Go.Proofs.YtmkmfcdlaojkfaaDoor
