/-
  The walk of veil.Make.
-/
import Derived.Test.YtmlkpdeidpcidaaDoorJ36
import Derived.Test.YtmlkpdeidpcidaaDoorFVNew
import Derived.Test.YtmlkpdeidpcidaaDoorFVVei
import Derived.Test.YtmlkpdeidpcidaaDoorJ30
import Derived.Test.YtmlkpdeidpcidaaDoorJ08
import Derived.Test.YtmlkpdeidpcidaaDoorJ12
namespace Go.Proofs.YtmlkpdeidpcidaaDoor
open Go.RowKit
set_option linter.unusedVariables false

theorem results_ve2 {fn : Func} {p u v : Tmp} (h : fn.results = #[.cell p 72, .tmp u, .tmp v]) (tmps : Array Value) (w : World) (g : Nat) (a b : Value) (x y : Value) (hp : tmps.getD p undef = .pointer (some ⟨g, 0, none⟩)) (hu : tmps.getD u undef = x) (hv : tmps.getD v undef = y) (hB : Blk w g 72 #[a, b]) (ha : ∃ q n c, a = .slice q n c) (hb : ∃ q n c, b = .slice q n c) :
    (results fn tmps).run Tryd.prog w = .ok (.tuple #[.agg #[a, b], x, y]) w := by
  obtain ⟨q, n, c, rfl⟩ := ha
  obtain ⟨q', n', c', rfl⟩ := hb
  have x0 := hB.cell 0 rfl
  have x1 := hB.cell 1 rfl
  have e : (results fn tmps).run Tryd.prog w = ((asAddr (tmps.getD p undef)).run Tryd.prog w).andThen fun a w₁ => ((loadVar 72 a).run Tryd.prog w₁).andThen fun r w₂ => .ok (.tuple #[r, tmps.getD u undef, tmps.getD v undef]) w₂ := by
    simp only [results, h]
    simp [Sem.run_bind, Result.andThen]
  rw [e, hp, hu, hv]
  go_simp
theorem vat_nil (W : World) : VAt W ([], []) ⟨none, 0, none, 0⟩ := ⟨.inl rfl, .inl rfl, by simp, by simp⟩
theorem veiledP_all {p : Plant} {free : List Int} : veiledB p free = (mayP p && (rowB p.m.ev free && (plainB p && allIn p.seen free))) := by
  unfold veiledB
  congr 3
  rw [Bool.eq_iff_iff, decide_eq_true_eq, List.length_eq_zero_iff, List.filter_eq_nil_iff, allIn_iff]
  refine forall_congr' fun e => imp_congr_right fun _ => ?_
  rw [← hasB_iff]
  cases hasB p.seen e <;> simp
section
variable {w w' : World} {p : Plant} {free : List Int}
theorem vp_form (h : (mayP p && rowB p.m.ev free) = false) (hB : Below w.heap.size w w') : VeilPost w p free (.returned (.tuple #[.agg #[.slice none 0 0, .slice none 0 0], .bool false, .int .i64 2])) w' :=
  ⟨none, 2, ([], []), ⟨none, 0, none, 0⟩, rfl, rfl, vat_nil _, hB, fun _ => ⟨rfl, rfl⟩, fun h2 => (by rw [h] at h2; cases h2), fun h2 => (by
    rw [veiledP_all, ← Bool.and_assoc, h] at h2; cases h2)⟩
theorem vp_kind (h : (mayP p && rowB p.m.ev free) = true) (h3 : (plainB p && allIn p.seen free) = false) (hB : Below w.heap.size w w') : VeilPost w p free (.returned (.tuple #[.agg #[.slice none 0 0, .slice none 0 0], .bool false, .int .i64 3])) w' :=
  ⟨none, 3, ([], []), ⟨none, 0, none, 0⟩, rfl, rfl, vat_nil _, hB, fun h2 => (by rw [h] at h2; cases h2), fun _ _ => ⟨rfl, rfl⟩, fun h2 => (by
    rw [veiledP_all, ← Bool.and_assoc, h3] at h2; simp at h2)⟩
theorem vp_none (h : (mayP p && rowB p.m.ev free) = true) (hv : veiledB p free = true) {g : List Int → Bool} (hg : TellsG p free g) (hm : makeV p g free = none) (hB : Below w.heap.size w w') : VeilPost w p free (.returned (.tuple #[.agg #[.slice none 0 0, .slice none 0 0], .bool false, .int .i64 0])) w' :=
  ⟨none, 0, ([], []), ⟨none, 0, none, 0⟩, rfl, rfl, vat_nil _, hB, fun h2 => (by rw [h] at h2; cases h2), fun _ h2 => (by rw [hv] at h2; cases h2), fun _ => ⟨rfl, g, hg, hm.symm⟩⟩
theorem vp_some (h : (mayP p && rowB p.m.ev free) = true) (hv : veiledB p free = true) {g : List Int → Bool} (hg : TellsG p free g) {v : VS} (hm : makeV p g free = some v) {L : VL} (hL : VAt w' v L) (hB : Below w.heap.size w w') : VeilPost w p free (.returned (.tuple #[vval v L, .bool true, .int .i64 0])) w' :=
  ⟨some v, 0, v, L, rfl, rfl, hL, hB, fun h2 => (by rw [h] at h2; cases h2), fun _ h2 => (by rw [hv] at h2; cases h2), fun _ => ⟨rfl, g, hg, hm.symm⟩⟩
end
theorem est_nilV (p : Plant) : estL p [] = wideL p.m.arrows p.seen p.m.starts := rfl
theorem wide_nilV {p : Plant} (hm : mayB p.m = true) : wideL p.m.arrows p.seen [] = [] := List.eq_nil_iff_forall_not_mem.2 fun x hx => by
  obtain ⟨t, ht, -⟩ := (vWide_one hm [] x).1 hx
  simp at ht

set_option maxRecDepth 100000 in
set_option maxHeartbeats 8000000 in
theorem pVeil_go (st ev : Int) (starts : List Int) (ars : List Arr) (ends seen secret : List Int) (a1 : Option Addr) (c1 : Nat) (a2 : Option Addr) (c2 : Nat) (a3 : Option Addr) (c3 : Nat) (sa : Option Addr) (sc : Nat) (ta : Option Addr) (tc : Nat) (fa : Option Addr) (fc : Nat) (free : List Int) (w : World) (hP : Hid (PAt w ⟨⟨st, ev, starts, ars, ends⟩, seen, secret⟩ ⟨⟨a1, c1, a2, c2, a3, c3⟩, sa, sc, ta, tc⟩)) (hF : Hid (At w fa free)) (hFl : Hid (free.length ≤ maxLen)) (hT : Hid (Tab w)) :
    Calls Tryd.prog 49 #[ptval ⟨⟨st, ev, starts, ars, ends⟩, seen, secret⟩ ⟨⟨a1, c1, a2, c2, a3, c3⟩, sa, sc, ta, tc⟩, .slice fa free.length fc] w fun e w' => VeilPost w ⟨⟨st, ev, starts, ars, ends⟩, seen, secret⟩ free e w' := by
  have B : Hid (Below w.heap.size w ((w.alloc (.cells (ptcells ⟨⟨st, ev, starts, ars, ends⟩, seen, secret⟩ ⟨⟨a1, c1, a2, c2, a3, c3⟩, sa, sc, ta, tc⟩) 44)).alloc (.cells #[.slice none 0 0, .slice none 0 0] 72))) := ((Below.refl _ _).alloc (Nat.le_refl _) _).alloc (by simp) _
  have KP : Hid (Blk ((w.alloc (.cells (ptcells ⟨⟨st, ev, starts, ars, ends⟩, seen, secret⟩ ⟨⟨a1, c1, a2, c2, a3, c3⟩, sa, sc, ta, tc⟩) 44)).alloc (.cells #[.slice none 0 0, .slice none 0 0] 72)) w.heap.size 44 (ptcells ⟨⟨st, ev, starts, ars, ends⟩, seen, secret⟩ ⟨⟨a1, c1, a2, c2, a3, c3⟩, sa, sc, ta, tc⟩)) := (Blk.new w _ _).alloc _
  have K4 : Hid (Blk ((w.alloc (.cells (ptcells ⟨⟨st, ev, starts, ars, ends⟩, seen, secret⟩ ⟨⟨a1, c1, a2, c2, a3, c3⟩, sa, sc, ta, tc⟩) 44)).alloc (.cells #[.slice none 0 0, .slice none 0 0] 72)) (w.heap.size + 1) 72 #[.slice none 0 0, .slice none 0 0]) := by
    have := Blk.new (w.alloc (.cells (ptcells ⟨⟨st, ev, starts, ars, ends⟩, seen, secret⟩ ⟨⟨a1, c1, a2, c2, a3, c3⟩, sa, sc, ta, tc⟩) 44)) 72 #[.slice none 0 0, .slice none 0 0]
    rwa [World.size_alloc] at this
  go_enter Tryd.func49, Tryd.ntmps49
  obtain ⟨x0, x1, x2, x3, x4, x5, x6⟩ := ptcell_at KP.out
  dsimp only at x0 x1 x2 x3 x4 x5 x6
  go_wp2_with fail
  clear x0 x1 x2 x3 x4 x5 x6
  revert B KP K4
  generalize ((w.alloc (.cells (ptcells ⟨⟨st, ev, starts, ars, ends⟩, seen, secret⟩ ⟨⟨a1, c1, a2, c2, a3, c3⟩, sa, sc, ta, tc⟩) 44)).alloc (.cells #[.slice none 0 0, .slice none 0 0] 72)) = V0
  intro B KP K4
  refine (pCurMay_any ⟨⟨st, ev, starts, ars, ends⟩, seen, secret⟩ ⟨⟨a1, c1, a2, c2, a3, c3⟩, sa, sc, ta, tc⟩ V0 (hP.out.below B.out (Nat.le_refl _))).mono ?_
  rintro e0 V1 ⟨rfl, hb⟩
  replace B := Hid.of (B.out.trans (hb.mono B.out.size))
  replace KP := Hid.of (KP.out.below hb KP.out.lt)
  replace K4 := Hid.of (K4.out.below hb K4.out.lt)
  clear hb
  obtain ⟨PB, HPB⟩ : ∃ PB, Hid (PB = mayP ⟨⟨st, ev, starts, ars, ends⟩, seen, secret⟩) := ⟨_, rfl⟩
  rw [← HPB.out]
  cases hM : PB with
  | false =>
    have HF0 : Hid ((mayP ⟨⟨st, ev, starts, ars, ends⟩, seen, secret⟩ && rowB ev free) = false) := by show _ = _; rw [← HPB.out, hM]; rfl
    clear hM
    obtain ⟨x0, x1, x2, x3, x4, x5, x6⟩ := ptcell_at KP.out
    dsimp only at x0 x1 x2 x3 x4 x5 x6
    have fz := K4.out.frozen
    have r0 := K4.out.cell 0 rfl
    have r1 := K4.out.cell 1 rfl
    have BB := Hid.of (below_setv B.out (b' := w.heap.size + 1) (by omega) (.slice none 0 0) (.slice none 0 0))
    have KK := Hid.of (blk_ve K4.out (.slice none 0 0) (.slice none 0 0))
    go_wp2_with fail
    exact bodyPost_ret (v := .tuple #[.agg #[.slice none 0 0, .slice none 0 0], .bool false, .int .i64 2]) (results_ve2 (p := 4) (u := 5) (v := 6) rfl _ _ (w.heap.size + 1) _ _ _ _ rfl rfl rfl KK.out ⟨_, _, _, rfl⟩ ⟨_, _, _, rfl⟩) rfl (vp_form HF0.out BB.out)
  | true =>
    have HM : Hid (mayP ⟨⟨st, ev, starts, ars, ends⟩, seen, secret⟩ = true) := by show _ = _; rw [← HPB.out, hM]
    clear hM
    obtain ⟨x0, x1, x2, x3, x4, x5, x6⟩ := ptcell_at KP.out
    dsimp only at x0 x1 x2 x3 x4 x5 x6
    go_wp2_with fail
    clear x0 x1 x2 x3 x4 x5 x6
    refine (rowIs_any fa fc free ev V1 (hF.out.below B.out (Nat.le_refl _)) hFl.out).mono ?_
    rintro e0 V2 ⟨rfl, rfl⟩
    obtain ⟨RB, HRB⟩ : ∃ RB, Hid (RB = rowB ev free) := ⟨_, rfl⟩
    rw [← HRB.out]
    cases hR : RB with
    | false =>
      have HF0 : Hid ((mayP ⟨⟨st, ev, starts, ars, ends⟩, seen, secret⟩ && rowB ev free) = false) := by show _ = _; rw [← HRB.out, hR, Bool.and_false]
      clear hR
      have fz := K4.out.frozen
      have r0 := K4.out.cell 0 rfl
      have r1 := K4.out.cell 1 rfl
      have BB := Hid.of (below_setv B.out (b' := w.heap.size + 1) (by omega) (.slice none 0 0) (.slice none 0 0))
      have KK := Hid.of (blk_ve K4.out (.slice none 0 0) (.slice none 0 0))
      go_wp2_with fail
      exact bodyPost_ret (v := .tuple #[.agg #[.slice none 0 0, .slice none 0 0], .bool false, .int .i64 2]) (results_ve2 (p := 4) (u := 5) (v := 6) rfl _ _ (w.heap.size + 1) _ _ _ _ rfl rfl rfl KK.out ⟨_, _, _, rfl⟩ ⟨_, _, _, rfl⟩) rfl (vp_form HF0.out BB.out)
    | true =>
      have HRT : Hid (rowB ev free = true) := by show _ = _; rw [← HRB.out, hR]
      have HF1 : Hid ((mayP ⟨⟨st, ev, starts, ars, ends⟩, seen, secret⟩ && rowB ev free) = true) := by show _ = _; rw [HM.out, HRT.out]; rfl
      clear hR
      obtain ⟨x0, x1, x2, x3, x4, x5, x6⟩ := ptcell_at KP.out
      dsimp only at x0 x1 x2 x3 x4 x5 x6
      go_wp2_with fail
      clear x0 x1 x2 x3 x4 x5 x6
      refine (cisSeen_any ⟨⟨st, ev, starts, ars, ends⟩, seen, secret⟩ ⟨⟨a1, c1, a2, c2, a3, c3⟩, sa, sc, ta, tc⟩ fa fc free V2 (Hid.of (hP.out.below B.out (Nat.le_refl _))) (Hid.of (hF.out.below B.out (Nat.le_refl _))) hFl).mono ?_
      rintro e0 V3 ⟨rfl, hb⟩
      replace B := Hid.of (B.out.trans (hb.mono B.out.size))
      replace KP := Hid.of (KP.out.below hb KP.out.lt)
      replace K4 := Hid.of (K4.out.below hb K4.out.lt)
      clear hb
      obtain ⟨AB, HAB⟩ : ∃ AB, Hid (AB = allIn seen free) := ⟨_, rfl⟩
      rw [← HAB.out]
      cases hA : AB with
      | false =>
        have HK0 : Hid ((plainB ⟨⟨st, ev, starts, ars, ends⟩, seen, secret⟩ && allIn seen free) = false) := by show _ = _; rw [← HAB.out, hA, Bool.and_false]
        clear hA
        obtain ⟨x0, x1, x2, x3, x4, x5, x6⟩ := ptcell_at KP.out
        dsimp only at x0 x1 x2 x3 x4 x5 x6
        have fz := K4.out.frozen
        have r0 := K4.out.cell 0 rfl
        have r1 := K4.out.cell 1 rfl
        have BB := Hid.of (below_setv B.out (b' := w.heap.size + 1) (by omega) (.slice none 0 0) (.slice none 0 0))
        have KK := Hid.of (blk_ve K4.out (.slice none 0 0) (.slice none 0 0))
        go_wp2_with fail
        exact bodyPost_ret (v := .tuple #[.agg #[.slice none 0 0, .slice none 0 0], .bool false, .int .i64 3]) (results_ve2 (p := 4) (u := 5) (v := 6) rfl _ _ (w.heap.size + 1) _ _ _ _ rfl rfl rfl KK.out ⟨_, _, _, rfl⟩ ⟨_, _, _, rfl⟩) rfl (vp_kind HF1.out HK0.out BB.out)
      | true =>
        have HAT : Hid (allIn seen free = true) := by show _ = _; rw [← HAB.out, hA]
        clear hA
        obtain ⟨x0, x1, x2, x3, x4, x5, x6⟩ := ptcell_at KP.out
        dsimp only at x0 x1 x2 x3 x4 x5 x6
        go_wp2_with fail
        clear x0 x1 x2 x3 x4 x5 x6
        refine (isPlain_any st ev starts ars ends seen secret a1 c1 a2 c2 a3 c3 V3 HM (Hid.of (hP.out.m.a.below B.out (Nat.le_refl _)))).mono ?_
        rintro e0 V4 ⟨rfl, hb⟩
        replace B := Hid.of (B.out.trans (hb.mono B.out.size))
        replace KP := Hid.of (KP.out.below hb KP.out.lt)
        replace K4 := Hid.of (K4.out.below hb K4.out.lt)
        clear hb
        obtain ⟨QB, HQB⟩ : ∃ QB, Hid (QB = plainB ⟨⟨st, ev, starts, ars, ends⟩, seen, secret⟩) := ⟨_, rfl⟩
        rw [← HQB.out]
        cases hQ : QB with
        | false =>
          have HK0 : Hid ((plainB ⟨⟨st, ev, starts, ars, ends⟩, seen, secret⟩ && allIn seen free) = false) := by show _ = _; rw [← HQB.out, hQ]; rfl
          clear hQ
          have fz := K4.out.frozen
          have r0 := K4.out.cell 0 rfl
          have r1 := K4.out.cell 1 rfl
          have BB := Hid.of (below_setv B.out (b' := w.heap.size + 1) (by omega) (.slice none 0 0) (.slice none 0 0))
          have KK := Hid.of (blk_ve K4.out (.slice none 0 0) (.slice none 0 0))
          go_wp2_with fail
          exact bodyPost_ret (v := .tuple #[.agg #[.slice none 0 0, .slice none 0 0], .bool false, .int .i64 3]) (results_ve2 (p := 4) (u := 5) (v := 6) rfl _ _ (w.heap.size + 1) _ _ _ _ rfl rfl rfl KK.out ⟨_, _, _, rfl⟩ ⟨_, _, _, rfl⟩) rfl (vp_kind HF1.out HK0.out BB.out)
        | true =>
          have HPL : Hid (plainB ⟨⟨st, ev, starts, ars, ends⟩, seen, secret⟩ = true) := by show _ = _; rw [← HQB.out, hQ]
          have HPN := Hid.of (plain_pln HM.out HPL.out)
          have HVB : Hid (veiledB ⟨⟨st, ev, starts, ars, ends⟩, seen, secret⟩ free = true) := by
            show _ = _
            rw [veiledP_all, HM.out, HPL.out]
            dsimp only
            rw [HRT.out, HAT.out]; rfl
          clear hQ
          obtain ⟨g, hg⟩ := tells_there ⟨⟨st, ev, starts, ars, ends⟩, seen, secret⟩ free
          have HG := Hid.of hg
          clear hg
          have hsb := states_bd HM.out
          dsimp only at hsb
          obtain ⟨N, HN⟩ : ∃ N : Nat, Hid (st = (N : Int)) := ⟨st.toNat, by show _ = _; omega⟩
          clear hsb
          obtain ⟨x0, x1, x2, x3, x4, x5, x6⟩ := ptcell_at KP.out
          dsimp only at x0 x1 x2 x3 x4 x5 x6
          go_wp2_with fail
          clear x0 x1 x2 x3 x4 x5 x6
          refine (knew_go st ev starts ars ends seen secret a1 c1 a2 c2 a3 c3 sa sc ta tc fa fc free N g HM HPN HG HRT HN V4 (Hid.of (hP.out.below B.out (Nat.le_refl _))) (Hid.of (hF.out.below B.out (Nat.le_refl _))) hFl (Hid.of (hT.out.below B.out hT.out.lt))).mono ?_
          rintro e0 V5 ⟨kb, mb, R, T, LS, lS, c, rfl, hkv, hmm, hkp, hb⟩
          have HK := Hid.of hkv
          have HMP := Hid.of hmm
          have HKP := Hid.of hkp
          clear hkv hmm hkp
          replace B := Hid.of (B.out.trans (hb.mono B.out.size))
          replace KP := Hid.of (KP.out.below hb KP.out.lt)
          replace K4 := Hid.of (K4.out.below hb K4.out.lt)
          clear hb
          obtain ⟨x0, x1, x2, x3, x4, x5, x6⟩ := HK.out.plant
          dsimp only at x0 x1 x2 x3 x4 x5 x6
          go_wp2_with fail
          clear x0 x1 x2 x3 x4 x5 x6
          have HST : Hid (Inc starts ∧ ∀ x ∈ starts, 0 ≤ x ∧ x < st) := may_starts ((mayP_iff _).1 HM.out).1
          refine (kuns_any st ev starts ars ends seen secret a1 c1 a2 c2 a3 c3 sa sc ta tc fa fc free R T mb kb starts a1 c1 V5 HK HM (Hid.of (hP.out.below B.out (Nat.le_refl _))) (Hid.of ((⟨hP.out.m.s, hP.out.m.s1, hP.out.m.s2, hP.out.m.s3⟩ : Sl w a1 c1 starts).below B.out (Nat.le_refl _))) (Hid.of HST.out.1) (Hid.of HST.out.2) (Hid.of (hT.out.below B.out hT.out.lt))).mono ?_
          rintro e0 V6 ⟨rfl, hb⟩
          have HRF := Hid.of (rep_wideS HM.out HST.out.2)
          obtain ⟨F, HFF⟩ : ∃ F, Hid (F = wideS ⟨⟨st, ev, starts, ars, ends⟩, seen, secret⟩ starts) := ⟨_, rfl⟩
          obtain ⟨fl, HFL⟩ : ∃ fl, Hid (fl = wideL ars seen starts) := ⟨_, rfl⟩
          have HFE : Hid (fl = estL ⟨⟨st, ev, starts, ars, ends⟩, seen, secret⟩ []) := by show _ = _; rw [HFL.out]; rfl
          have HFI : Hid (Inc fl ∧ ∀ x ∈ fl, 0 ≤ x ∧ x < st) := by
            show _ ∧ _
            rw [HFL.out]
            exact wide_in (p := ⟨⟨st, ev, starts, ars, ends⟩, seen, secret⟩) ((mayP_iff _).1 HM.out).1 HST.out.2
          replace HRF : Hid (Rep F fl) := by show Rep _ _; rw [HFF.out, HFL.out]; exact HRF.out
          rw [← HFF.out]
          replace HK := Hid.of (HK.out.below hb HK.out.lt)
          replace HMP := Hid.of ((hb.block mb (Array.getElem?_eq_some_iff.1 HMP.out).1).trans HMP.out)
          replace B := Hid.of (B.out.trans (hb.mono B.out.size))
          replace KP := Hid.of (KP.out.below hb KP.out.lt)
          replace K4 := Hid.of (K4.out.below hb K4.out.lt)
          clear hb
          have hb : Below V6.heap.size V6 (V6.alloc (.cells (scells F) 85)) := (Below.refl _ _).alloc (Nat.le_refl _) _
          have K8 : Hid (SB (V6.alloc (.cells (scells F) 85)) V6.heap.size F) := Blk.new V6 _ _
          replace HK := Hid.of (HK.out.below hb HK.out.lt)
          replace HMP := Hid.of ((hb.block mb (Array.getElem?_eq_some_iff.1 HMP.out).1).trans HMP.out)
          replace B := Hid.of (B.out.trans (hb.mono B.out.size))
          replace KP := Hid.of (KP.out.below hb KP.out.lt)
          replace K4 := Hid.of (K4.out.below hb K4.out.lt)
          clear hb
          obtain ⟨x0, x1, x2, x3, x4, x5, x6⟩ := HK.out.plant
          dsimp only at x0 x1 x2 x3 x4 x5 x6
          by_cases hs0 : starts.length = 0
          · have HMK : Hid (makeV ⟨⟨st, ev, starts, ars, ends⟩, seen, secret⟩ g free = none) := by
              show _ = _
              unfold makeV
              have h0 : starts = [] := List.length_eq_zero_iff.1 hs0
              rw [est_nilV]
              dsimp only
              rw [h0, wide_nilV (p := ⟨⟨st, ev, starts, ars, ends⟩, seen, secret⟩) ((mayP_iff _).1 HM.out).1]
              rfl
            have e1 : ((starts.length : Int) == 0) = true := by rw [hs0]; rfl
            clear hs0
            have fz := K4.out.frozen
            have r0 := K4.out.cell 0 rfl
            have r1 := K4.out.cell 1 rfl
            have BB := Hid.of (below_setv B.out (b' := w.heap.size + 1) (by omega) (.slice none 0 0) (.slice none 0 0))
            have KK := Hid.of (blk_ve K4.out (.slice none 0 0) (.slice none 0 0))
            go_wp2_with fail
            exact bodyPost_ret (v := .tuple #[.agg #[.slice none 0 0, .slice none 0 0], .bool false, .int .i64 0]) (results_ve2 (p := 4) (u := 5) (v := 6) rfl _ _ (w.heap.size + 1) _ _ _ _ rfl rfl rfl KK.out ⟨_, _, _, rfl⟩ ⟨_, _, _, rfl⟩) rfl (vp_none HF1.out HVB.out HG.out HMK.out BB.out)
          · have HNE : Hid (∃ x, x ∈ fl) := by
              obtain ⟨x, hx⟩ : ∃ x, x ∈ starts := ⟨_, List.getElem_mem (show 0 < starts.length by omega)⟩
              exact ⟨x, by rw [HFL.out]; exact wide_sub (may_to (m := ⟨st, ev, starts, ars, ends⟩) ((mayP_iff _).1 HM.out).1) _ hx⟩
            have e1 : ((starts.length : Int) == 0) = false := beq_eq_false_iff_ne.2 (by omega)
            have HFN : Hid (decide (fl.length = 0) = false) := by
              show _ = _
              rw [decide_eq_false_iff_not]
              intro h
              obtain ⟨x, hx⟩ := HNE.out
              rw [List.length_eq_zero_iff.1 h] at hx; simp at hx
            obtain ⟨y0, y1, y2, y3⟩ := SB.cells K8.out
            clear hs0
            go_wp2_with fail
            clear y0 y1 y2 y3 x0 x1 x2 x3 x4 x5 x6
            revert B KP K4 K8 HK HMP
            generalize V6.alloc (.cells (scells F) 85) = V7
            generalize V6.heap.size = pf
            intro K8 HK HMP B KP K4
            refine (ksafe_one (g fl) F fl (Hid.of ⟨HRF.out, HFI.out.1⟩) LS lS (Hid.of HKP.out.r) ⟨⟨st, ev, starts, ars, ends⟩, seen, secret⟩ ⟨⟨a1, c1, a2, c2, a3, c3⟩, sa, sc, ta, tc⟩ fa fc free R T mb c kb V7 HK HMP (Hid.of (HKP.out.k fl HFI.out.1 HFI.out.2))).mono ?_
            rintro e0 V8 ⟨rfl, hb⟩
            replace K8 := Hid.of (K8.out.below hb K8.out.lt)
            replace HK := Hid.of (HK.out.below hb HK.out.lt)
            replace HMP := Hid.of ((hb.block mb (Array.getElem?_eq_some_iff.1 HMP.out).1).trans HMP.out)
            replace B := Hid.of (B.out.trans (hb.mono B.out.size))
            replace KP := Hid.of (KP.out.below hb KP.out.lt)
            replace K4 := Hid.of (K4.out.below hb K4.out.lt)
            clear hb
            obtain ⟨GB, HGB⟩ : ∃ GB, Hid (GB = g fl) := ⟨_, rfl⟩
            rw [← HGB.out]
            cases hG : GB with
            | false =>
              have HMK : Hid (makeV ⟨⟨st, ev, starts, ars, ends⟩, seen, secret⟩ g free = none) := by
                show _ = _
                unfold makeV
                rw [← HFE.out, HFN.out, ← HGB.out, hG]
                rfl
              clear hG
              have fz := K4.out.frozen
              have r0 := K4.out.cell 0 rfl
              have r1 := K4.out.cell 1 rfl
              have BB := Hid.of (below_setv B.out (b' := w.heap.size + 1) (by omega) (.slice none 0 0) (.slice none 0 0))
              have KK := Hid.of (blk_ve K4.out (.slice none 0 0) (.slice none 0 0))
              go_wp2_with fail
              exact bodyPost_ret (v := .tuple #[.agg #[.slice none 0 0, .slice none 0 0], .bool false, .int .i64 0]) (results_ve2 (p := 4) (u := 5) (v := 6) rfl _ _ (w.heap.size + 1) _ _ _ _ rfl rfl rfl KK.out ⟨_, _, _, rfl⟩ ⟨_, _, _, rfl⟩) rfl (vp_none HF1.out HVB.out HG.out HMK.out BB.out)
            | true =>
              have HGT : Hid (g fl = true) := by show _ = _; rw [← HGB.out, hG]
              have HMK : Hid (makeV ⟨⟨st, ev, starts, ars, ends⟩, seen, secret⟩ g free = some (veGo ⟨⟨st, ev, starts, ars, ends⟩, seen, secret⟩ g free 65 0 ([fl], []))) := by
                show _ = _
                unfold makeV
                rw [← HFE.out, HFN.out, HGT.out]
                rfl
              clear hG
              obtain ⟨y0, y1, y2, y3⟩ := SB.cells K8.out
              go_wp2_with fail
              clear y0 y1 y2 y3
              refine (kveil_go ⟨⟨st, ev, starts, ars, ends⟩, seen, secret⟩ ⟨a1, c1, a2, c2, a3, c3⟩ sa sc ta tc fa fc free R T mb c kb g LS lS HKP F fl HRF (Hid.of HFI.out.1) HFE HNE HGT V8 HK HMP (Hid.of (hP.out.below B.out (Nat.le_refl _))) (Hid.of (hF.out.below B.out (Nat.le_refl _))) hFl (Hid.of (hT.out.below B.out hT.out.lt))).mono ?_
              rintro e0 V9 ⟨L, rfl, hva, hb⟩
              obtain ⟨v, HVV⟩ : ∃ v, Hid (v = veGo ⟨⟨st, ev, starts, ars, ends⟩, seen, secret⟩ g free 65 0 ([fl], [])) := ⟨_, rfl⟩
              rw [← HVV.out] at hva HMK ⊢
              have HVA := Hid.of hva
              clear hva
              have HLT : Hid (w.heap.size + 1 < V8.heap.size) := K4.out.lt
              replace B := Hid.of (B.out.trans (hb.mono B.out.size))
              replace KP := Hid.of (KP.out.below hb KP.out.lt)
              replace K4 := Hid.of (K4.out.below hb K4.out.lt)
              clear hb
              have fz := K4.out.frozen
              have r0 := K4.out.cell 0 rfl
              have r1 := K4.out.cell 1 rfl
              have BB := Hid.of (below_setv B.out (b' := w.heap.size + 1) (by omega) (.slice L.na v.1.length L.nc) (.slice L.ma v.2.length L.mc))
              have KK := Hid.of (blk_ve K4.out (.slice L.na v.1.length L.nc) (.slice L.ma v.2.length L.mc))
              have VV : Hid (VAt ((V9.setCell ⟨w.heap.size + 1, 0, none⟩ (.slice L.na v.1.length L.nc)).setCell ⟨w.heap.size + 1, 1, none⟩ (.slice L.ma v.2.length L.mc)) v L) := by
                have hk4 : V9.heap[w.heap.size + 1]? = some (.cells #[.slice none 0 0, .slice none 0 0] 72 (0, 0)) := K4.out
                have hne : ∀ q, q ≠ w.heap.size + 1 → ((V9.setCell ⟨w.heap.size + 1, 0, none⟩ (.slice L.na v.1.length L.nc)).setCell ⟨w.heap.size + 1, 1, none⟩ (.slice L.ma v.2.length L.mc)).heap[q]? = V9.heap[q]? := fun q hq => by
                  rw [Below.heap_setCell _ _ _ _ (show q ≠ w.heap.size + 1 from hq), Below.heap_setCell _ _ _ _ (show q ≠ w.heap.size + 1 from hq)]
                have hlt := HLT.out
                exact HVA.out _ (by simp [World.setCell]) (fun j hj _ => hne j (by omega)) (fun q cs hq => hne q (fun e => by rw [e, hk4] at hq; cases hq))
              go_wp2_with fail
              exact bodyPost_ret (v := .tuple #[vval v L, .bool true, .int .i64 0]) (results_ve2 (p := 4) (u := 5) (v := 6) rfl _ _ (w.heap.size + 1) _ _ _ _ rfl rfl rfl KK.out ⟨_, _, _, rfl⟩ ⟨_, _, _, rfl⟩) rfl (vp_some HF1.out HVB.out HG.out HMK.out VV.out BB.out)

theorem pVeil_any (p : Plant) (P : PTL) (fa : Option Addr) (fc : Nat) (free : List Int) (w : World) (hP : PAt w p P) (hF : At w fa free) (hFl : free.length ≤ maxLen) (hT : Tab w) :
    Calls Tryd.prog 49 #[ptval p P, .slice fa free.length fc] w fun e w' => VeilPost w p free e w' := by
  obtain ⟨⟨st, ev, starts, ars, ends⟩, seen, secret⟩ := p
  obtain ⟨⟨a1, c1, a2, c2, a3, c3⟩, sa, sc, ta, tc⟩ := P
  exact pVeil_go st ev starts ars ends seen secret a1 c1 a2 c2 a3 c3 sa sc ta tc fa fc free w (Hid.of hP) (Hid.of hF) (Hid.of hFl) (Hid.of hT)

end Go.Proofs.YtmlkpdeidpcidaaDoor
