/-
  Plain: what Covers asks holds of a veil that is made, where another way keeps.
  The walk of the law VeilMost, the program's contract as a hypothesis.
  Plain: what package veil does with sets of states, beside the lists that they stand for. No program, no model.
  The walk of veil.isPlain.
  The keeper of package veil in memory.
  The walks of keeper.all and keeper.unseen.
-/
import Derived.Test.YtkodmnooibpflaaDoorI39
import Derived.Test.YtkodmnooibpflaaDoorI33
import Derived.Test.YtkodmnooibpflaaDoorEROCov
import Derived.Test.YtkodmnooibpflaaDoorEROSet
import Derived.Test.YtkodmnooibpflaaDoorERefMay
import Derived.Test.YtkodmnooibpflaaDoorI12
import Derived.Test.YtkodmnooibpflaaDoorI31
import Derived.Test.YtkodmnooibpflaaDoorI21
import Derived.Test.YtkodmnooibpflaaDoorI30
import Derived.Test.YtkodmnooibpflaaDoorI15
import Derived.Deep.QuietTactic
import Derived.Test.YtkodmnooibpflaaDoorI10
namespace Go.Proofs.YtkodmnooibpflaaDoor
open Go.RowKit
set_option linter.unusedVariables false

theorem veiled_all {p : Plant} {free : List Int} (h : veiledB p free = true) : mayP p = true ∧ p.m.starts.length ≤ 1 ∧ PlainP p ∧ ∀ e ∈ free, e ∈ p.seen := by
  unfold veiledB plainB at h
  simp only [Bool.and_eq_true, decide_eq_true_eq, List.all_eq_true, List.mem_range] at h
  obtain ⟨h1, -, ⟨h3, h4⟩, h5⟩ := h
  refine ⟨h1, h3, fun s e hs0 hs1 he0 he1 => ?_, fun e he => ?_⟩
  · have := h4 s.toNat (by omega) e.toNat (by omega)
    rwa [Int.toNat_of_nonneg hs0, Int.toNat_of_nonneg he0] at this
  · rw [List.length_eq_zero_iff, List.filter_eq_nil_iff] at h5
    have := h5 e he
    unfold hasB at this
    simpa using this
theorem okP_first {p : Plant} {o : Mach} {s0 : Int} (hm : mayB p.m = true) (ho : mayB o = true) (h0 : p.m.starts = [s0]) : OkP p o (s0, o.starts) :=
  ⟨(may_starts hm).2 s0 (by rw [h0]; simp), (may_starts ho).1, (may_starts ho).2⟩
theorem cov_all {p : Plant} {o : Mach} {free : List Int} {g : List Int → Bool} {v : VS} {s0 : Int} (hm : mayB p.m = true) (ho : mayB o = true) (z6 : p.m.st ≤ 6) (hpl : PlainP p) (hfr : ∀ e ∈ free, e ∈ p.seen) (hse : ∀ e ∈ p.seen, 0 ≤ e ∧ e < p.m.ev) (hK : KeepA p free o (s0, o.starts)) (h0 : p.m.starts = [s0]) (hg : TellsG p free g) (hv : makeV p g free = some v) : ∃ J, CovJ p o v J ∧ J ((s0, o.starts), 0) := by
  have hvi := make_vi hm z6 hg hv
  refine ⟨fun x => OkP p o x.1 ∧ ∃ (u node : List Int), (∀ e ∈ u, e ∈ p.seen) ∧ atU p o (s0, o.starts) u x.1 ∧ v.1[x.2]? = some node ∧ ∀ y, atU p o (s0, o.starts) u y → y.1 ∈ node, ⟨?_, ?_, ?_⟩, ?_⟩
  · rintro x ⟨h1, u, node, -, -, h4, -⟩
    exact ⟨h1, (List.getElem?_eq_some_iff.1 h4).1⟩
  · rintro x e z ⟨h1, u, node, h2, h3, h4, h5⟩ he0 he1 hs hz
    exact ⟨onO_ok hm ho hz, u, node, h2, cov_unseen hm h3 he0 he1 (by unfold hasB at hs; simpa using hs) hz, h4, h5⟩
  · rintro x e z ⟨h1, u, node, h2, h3, h4, h5⟩ he0 he1 hs hz
    have hes : e ∈ p.seen := by unfold hasB at hs; simpa using hs
    obtain ⟨m, k1, k2, node', k3, k4⟩ := cov_seen hm hpl hfr hK hse hg hvi h2 h4 h5 h3 hes hz
    refine ⟨m, k1, by unfold hasB; simpa using k2, (List.getElem?_eq_some_iff.1 k3).1, onO_ok hm ho hz, e :: u, node', fun a ha => ?_, atU_seen h3 hz, k3, k4⟩
    rcases List.mem_cons.1 ha with rfl | ha
    · exact hes
    · exact h2 a ha
  · obtain ⟨node, k1, k2⟩ := cov_first hm hpl hfr hK h0 hvi
    exact ⟨okP_first hm ho h0, [], node, by simp, un_start rfl, k1, k2⟩

end Go.Proofs.YtkodmnooibpflaaDoor
namespace Go.Proofs.YtkodmnooibpflaaDoor
open Go.RowKit
set_option linter.unusedVariables false

set_option maxRecDepth 100000 in
set_option maxHeartbeats 16000000 in
theorem vmost_any (p : Plant) (Pl : ML) (sa : Option Addr) (sc : Nat) (ta : Option Addr) (tc : Nat) (fa : Option Addr) (fc : Nat) (free : List Int) (o : Mach) (lo : ML) (w : World) (hT : Hid (Tab w)) (h : Hid (PAt w p ⟨Pl, sa, sc, ta, tc⟩)) (hF : Hid (At w fa free)) (hFl : Hid (free.length ≤ maxLen)) (ho : Hid (MAt w o lo))
  (HC : Hid (∀ u : World, Tab u → PAt u p ⟨Pl, sa, sc, ta, tc⟩ → At u fa free → Calls Tryd.prog 41 #[ptval p ⟨Pl, sa, sc, ta, tc⟩, .slice fa free.length fc] u fun e w' => VeilPost u p free e w')) :
  Calls Tryd.prog 11 #[ptval p ⟨Pl, sa, sc, ta, tc⟩, .slice fa free.length fc, mval o lo] w fun e w' => e = .returned (.bool true) ∧ Below w.heap.size w w' := by
 have B : Hid (Below w.heap.size w ((w.alloc (.cells (ptcells p ⟨Pl, sa, sc, ta, tc⟩) 44)).alloc (.cells (mcells o lo) 25))) := ((Below.refl _ _).alloc (Nat.le_refl _) _).alloc (by simp) _
 have KP : Hid (Blk ((w.alloc (.cells (ptcells p ⟨Pl, sa, sc, ta, tc⟩) 44)).alloc (.cells (mcells o lo) 25)) w.heap.size 44 (ptcells p ⟨Pl, sa, sc, ta, tc⟩)) := (Blk.new w _ _).alloc _
 have KO : Hid (Blk ((w.alloc (.cells (ptcells p ⟨Pl, sa, sc, ta, tc⟩) 44)).alloc (.cells (mcells o lo) 25)) (w.heap.size + 1) 25 (mcells o lo)) := by
  have := Blk.new (w.alloc (.cells (ptcells p ⟨Pl, sa, sc, ta, tc⟩) 44)) 25 (mcells o lo)
  rwa [World.size_alloc] at this
 go_enter Tryd.func11, Tryd.ntmps11
 obtain ⟨x0, x1, x2, x3, x4, x5, x6⟩ := ptcell_at KP.out
 go_wp2_with fail
 clear x0 x1 x2 x3 x4 x5 x6
 revert B KP KO
 generalize ((w.alloc (.cells (ptcells p ⟨Pl, sa, sc, ta, tc⟩) 44)).alloc (.cells (mcells o lo) 25)) = V
 intro B KP KO
 refine (veiled_any p Pl sa sc ta tc fa fc free V (Hid.of (h.out.below B.out (Nat.le_refl _))) (Hid.of (hF.out.below B.out (Nat.le_refl _))) hFl).mono ?_
 rintro e0 W1 ⟨rfl, hb⟩
 replace B := Hid.of (B.out.trans (hb.mono B.out.size))
 replace KP := Hid.of (KP.out.below hb KP.out.lt)
 replace KO := Hid.of (KO.out.below hb KO.out.lt)
 clear hb
 cases hv : veiledB p free with
 | false =>
  clear hv
  go_wp2_with fail
  exact bodyPost_ret (v := .bool true) (by simp [results, go_sem]) rfl ⟨rfl, B.out⟩
 | true =>
  have HVE := Hid.of hv
  clear hv
  obtain ⟨y0, y1, y2, y3, y4⟩ := mcell_at KO.out
  go_wp2_with fail
  clear y0 y1 y2 y3 y4
  refine (refMay_any o lo W1 (ho.out.below B.out (Nat.le_refl _))).mono ?_
  rintro e1 W2 ⟨rfl, hb⟩
  replace B := Hid.of (B.out.trans (hb.mono B.out.size))
  replace KP := Hid.of (KP.out.below hb KP.out.lt)
  replace KO := Hid.of (KO.out.below hb KO.out.lt)
  clear hb
  cases hmo : mayB o with
  | false =>
   clear hmo
   go_wp2_with fail
   exact bodyPost_ret (v := .bool true) (by simp [results, go_sem]) rfl ⟨rfl, B.out⟩
  | true =>
   have HMO := Hid.of hmo
   clear hmo
   obtain ⟨x0, x1, x2, x3, x4, x5, x6⟩ := ptcell_at KP.out
   obtain ⟨y0, y1, y2, y3, y4⟩ := mcell_at KO.out
   by_cases k1 : o.ev = p.m.ev
   ·have g1 : (o.ev == p.m.ev) = true := by simp [k1]
    have K1 := Hid.of k1
    clear k1
    by_cases k2 : o.st ≤ 6
    ·have g2 : decide ((6 : Int) < o.st) = false := decide_eq_false (by omega)
     by_cases k3 : o.starts.length = 0
     ·have g3 : ((o.starts.length : Int) == 0) = true := by rw [k3]; rfl
      go_wp2_with fail
      exact bodyPost_ret (v := .bool true) (by simp [results, go_sem]) rfl ⟨rfl, B.out⟩
     ·have g3 : ((o.starts.length : Int) == 0) = false := by
       have : ¬ (o.starts.length : Int) = 0 := by omega
       simpa using this
      by_cases k4 : p.m.starts.length = 0
      ·have g4 : ((p.m.starts.length : Int) == 0) = true := by rw [k4]; rfl
       go_wp2_with fail
       exact bodyPost_ret (v := .bool true) (by simp [results, go_sem]) rfl ⟨rfl, B.out⟩
      ·have g4 : ((p.m.starts.length : Int) == 0) = false := by
        have : ¬ (p.m.starts.length : Int) = 0 := by omega
        simpa using this
       go_wp2_with fail
       clear x0 x1 x2 x3 x4 x5 x6 y0 y1 y2 y3 y4 g1 g2 g3 g4
       rename o.ev = p.m.ev => hEV
       clear hEV
       obtain ⟨hMP, hST, hPL, hFR⟩ := veiled_all HVE.out
       obtain ⟨hM, hz6, hsr, -⟩ := (mayP_iff p).1 hMP
       have HM := Hid.of hM
       have HZ6 := Hid.of hz6
       have HZO : Hid (o.st ≤ 6) := k2
       have HPL := Hid.of hPL
       have HFR := Hid.of hFR
       have hsz := mayB_size hM
       unfold sizeOk at hsz
       have HSE : Hid (∀ e ∈ p.seen, 0 ≤ e ∧ e < p.m.ev) := ((rowB_iff _ (by omega) _).1 hsr).2
       have hs8 : p.seen.length ≤ 8 := by
        have q := row_short (by omega) (by omega) hsr
        omega
       obtain ⟨s0, hs0⟩ : ∃ s0, p.m.starts = [s0] := by
        match hl : p.m.starts, hST, k4 with
        | [], _, k => exact absurd rfl k
        | [a], _, _ => exact ⟨a, rfl⟩
        | a :: b :: r, k, _ => simp at k
       have HS0 := Hid.of hs0
       have HST : Hid (p.m.starts[0]? = some s0) := by show _ = _; rw [hs0]; rfl
       have HX0 : Hid (OkP p o (s0, o.starts)) := okP_first hM HMO.out hs0
       clear hMP hST hPL hFR hM hz6 hsr hsz hs0 k3 k4
       have KEY := rokeeps_go p Pl sa sc ta tc o lo fa fc free (s0, o.starts) W2 (Hid.of (h.out.below B.out (Nat.le_refl _))) (Hid.of (ho.out.below B.out (Nat.le_refl _))) (Hid.of (hF.out.below B.out (Nat.le_refl _))) hFl HM HMO (Hid.of (fun u hpu hou => rosets_go p Pl sa sc ta tc o lo s0 u (Hid.of hpu) (Hid.of hou) HM HMO HZ6 HZO hs8 HST HX0))
       have em : mval o lo = .agg #[.int .i64 o.st, .int .i64 p.m.ev, .slice lo.a1 o.starts.length lo.c1, .slice lo.a2 o.arrows.length lo.c2, .slice lo.a3 o.ends.length lo.c3] := by
        show Value.agg _ = _
        rw [← K1.out]
       rw [em] at KEY
       refine KEY.mono ?_
       clear KEY em
       rintro e2 W3 ⟨rfl, hb⟩
       replace B := Hid.of (B.out.trans (hb.mono B.out.size))
       replace KP := Hid.of (KP.out.below hb KP.out.lt)
       replace KO := Hid.of (KO.out.below hb KO.out.lt)
       clear hb
       cases hk : keepsO p free o (s0, o.starts) with
       | false =>
        clear hk
        go_wp2_with fail
        exact bodyPost_ret (v := .bool true) (by simp [results, go_sem]) rfl ⟨rfl, B.out⟩
       | true =>
        have HKA : Hid (KeepA p free o (s0, o.starts)) := keeps_all HM.out HMO.out HZ6.out HZO.out HX0.out hk
        clear hk
        obtain ⟨x0, x1, x2, x3, x4, x5, x6⟩ := ptcell_at KP.out
        go_wp2_with fail
        clear x0 x1 x2 x3 x4 x5 x6
        refine (HC.out W3 (hT.out.below B.out hT.out.lt) (h.out.below B.out (Nat.le_refl _)) (hF.out.below B.out (Nat.le_refl _))).mono ?_
        rintro e0 W4 ⟨ov, er, v, L, rfl, hvv, hat, hb, -, -, c3⟩
        obtain ⟨rfl, g, tg, hoo⟩ := c3 HVE.out
        obtain ⟨v', hv'⟩ := cov_there HM.out HPL.out HFR.out HKA.out HSE.out tg HS0.out
        rw [hv'] at hoo
        subst hoo
        have hvq : v = v' := hvv
        clear hvv
        subst hvq
        obtain ⟨J, hJ, hJ0⟩ := cov_all HM.out HMO.out HZ6.out HPL.out HFR.out HSE.out HKA.out HS0.out tg hv'
        have HJ := Hid.of hJ
        have HJ0 := Hid.of hJ0
        have HAT := Hid.of hat
        replace B := Hid.of (B.out.trans (hb.mono B.out.size))
        replace KP := Hid.of (KP.out.below hb KP.out.lt)
        replace KO := Hid.of (KO.out.below hb KO.out.lt)
        clear hb
        clear c3 tg hv' hJ hJ0 hat HC
        have hb : Below W4.heap.size W4 (W4.alloc (.cells (vcells v L) 60)) := (Below.refl _ _).alloc (Nat.le_refl _) _
        have KV := Hid.of (Blk.new W4 60 (vcells v L))
        replace HAT := Hid.of (HAT.out.below hb)
        replace B := Hid.of (B.out.trans (hb.mono B.out.size))
        replace KP := Hid.of (KP.out.below hb KP.out.lt)
        replace KO := Hid.of (KO.out.below hb KO.out.lt)
        clear hb
        obtain ⟨x0, x1, x2, x3, x4, x5, x6⟩ := ptcell_at KP.out
        obtain ⟨y0, y1, y2, y3, y4⟩ := mcell_at KO.out
        obtain ⟨u0, u1⟩ := vcell_at KV.out
        go_wp2_with fail
        clear x0 x1 x2 x3 x4 x5 x6 y0 y1 y2 y3 y4 u0 u1
        revert KV HAT B KP KO
        generalize W4.alloc (.cells (vcells v L) 60) = V5
        intro KV HAT B KP KO
        refine (rocov_go p Pl sa sc ta tc o lo v L J s0 V5 (Hid.of (h.out.below B.out (Nat.le_refl _))) (Hid.of (ho.out.below B.out (Nat.le_refl _))) HAT HM HMO HZ6 HZO HJ HJ0 HST).mono ?_
        rintro e5 W6 ⟨rfl, hb⟩
        replace B := Hid.of (B.out.trans (hb.mono B.out.size))
        clear hb KP KO KV HAT
        go_wp2_with fail
        exact bodyPost_ret (v := .bool true) (by simp [results, go_sem]) rfl ⟨rfl, B.out⟩
    ·have g2 : decide ((6 : Int) < o.st) = true := decide_eq_true (by omega)
     go_wp2_with fail
     exact bodyPost_ret (v := .bool true) (by simp [results, go_sem]) rfl ⟨rfl, B.out⟩
   ·have g1 : (o.ev == p.m.ev) = false := by simpa using k1
    go_wp2_with fail
    exact bodyPost_ret (v := .bool true) (by simp [results, go_sem]) rfl ⟨rfl, B.out⟩

end Go.Proofs.YtkodmnooibpflaaDoor
namespace Go.Proofs.YtkodmnooibpflaaDoor
open Go.RowKit
set_option linter.unusedVariables false

/-! From each state at each event at most one arrow. -/
def PlnV (p : Plant) : Prop := ∀ s e : Int, 0 ≤ s → s < p.m.st → 0 ≤ e → e < p.m.ev → (stepL p.m.arrows [s] e).length ≤ 1
theorem pln_eq {p : Plant} (h : PlnV p) {s e t : Int} (hs : 0 ≤ s ∧ s < p.m.st) (he : 0 ≤ e ∧ e < p.m.ev) (ht : t ∈ stepL p.m.arrows [s] e) : stepL p.m.arrows [s] e = [t] := by
  have hl := h s e hs.1 hs.2 he.1 he.2
  match hq : stepL p.m.arrows [s] e, hl, ht with
  | [], _, ht => simp at ht
  | [x], _, ht => have : t = x := by simpa using ht
                  rw [this]
  | x :: y :: r, hl, _ => simp at hl
theorem pln_arr {p : Plant} (hm : mayB p.m = true) (h : PlnV p) {a : Arr} (ha : a ∈ p.m.arrows) : stepL p.m.arrows [a.f] a.e = [a.t] := by
  obtain ⟨h1, h2, h3, h4, h5, h6⟩ := may_arrs hm a ha
  exact pln_eq h ⟨h1, h2⟩ ⟨h5, h6⟩ ((mem_stepL _ _ _ _).2 ⟨a, ha, rfl, by simp, rfl⟩)
theorem seen_bd {p : Plant} (hp : mayP p = true) : Inc p.seen ∧ ∀ e ∈ p.seen, 0 ≤ e ∧ e < p.m.ev ∧ e < 8 := by
  obtain ⟨h1, h2, h3, h4⟩ := (mayP_iff p).1 hp
  have hz := mayB_size h1
  unfold sizeOk at hz
  have := (rowB_iff _ (by omega) _).1 h3
  exact ⟨this.1, fun e he => by have := this.2 e he; omega⟩
theorem states_bd {p : Plant} (hp : mayP p = true) : 0 ≤ p.m.st ∧ p.m.st ≤ 6 := by
  obtain ⟨h1, h2, h3, h4⟩ := (mayP_iff p).1 hp
  have hz := mayB_size h1
  unfold sizeOk at hz
  omega

/-! The table of where each state leads to at a seen event. -/
def wideS (p : Plant) (ss : List Int) : Nat → Nat := ofS (wideL p.m.arrows p.seen ss)
theorem rep_wideS {p : Plant} (hp : mayP p = true) {ss : List Int} (hs : ∀ x ∈ ss, 0 ≤ x ∧ x < p.m.st) : Rep (wideS p ss) (wideL p.m.arrows p.seen ss) := by
  have hm := ((mayP_iff p).1 hp).1
  have h6 := states_bd hp
  have := rep_of (l := wideL p.m.arrows p.seen ss) (fun x hx => by have := (wide_in hm hs).2 x hx; omega) (wideL p.m.arrows p.seen ss).length
  rwa [List.take_of_length_le (Nat.le_refl _)] at this
def ldStep (p : Plant) (T : Nat → Nat → Nat) (a : Arr) : Nat → Nat → Nat := if hasB p.seen a.e = true then (fun q => if q = a.f.toNat * 8 + a.e.toNat then wideS p [a.t] else T q) else T
def ldT (p : Plant) (k : Nat) : Nat → Nat → Nat := (p.m.arrows.take k).foldl (ldStep p) (fun _ => zeroS)
theorem ldT_succ {p : Plant} {k : Nat} {a : Arr} (h : p.m.arrows[k]? = some a) : ldT p (k + 1) = ldStep p (ldT p k) a := by
  unfold ldT
  rw [List.take_add_one, h, Option.toList_some, List.foldl_append]; rfl
theorem ldT_yes {p : Plant} {k : Nat} {a : Arr} (h : p.m.arrows[k]? = some a) (hs : hasB p.seen a.e = true) : ldT p (k + 1) = fun q => if q = a.f.toNat * 8 + a.e.toNat then wideS p [a.t] else ldT p k q := by
  rw [ldT_succ h]; unfold ldStep; rw [if_pos hs]
theorem ldT_no {p : Plant} {k : Nat} {a : Arr} (h : p.m.arrows[k]? = some a) (hs : hasB p.seen a.e = false) : ldT p (k + 1) = ldT p k := by
  rw [ldT_succ h]; unfold ldStep; rw [if_neg (by rw [hs]; simp)]
theorem ldT_is (p : Plant) : ∀ (k : Nat), k ≤ p.m.arrows.length → ∀ q, (∃ a ∈ p.m.arrows.take k, hasB p.seen a.e = true ∧ q = a.f.toNat * 8 + a.e.toNat ∧ ldT p k q = wideS p [a.t]) ∨ ((∀ a ∈ p.m.arrows.take k, hasB p.seen a.e = true → q ≠ a.f.toNat * 8 + a.e.toNat) ∧ ldT p k q = zeroS)
  | 0, _, q => .inr ⟨by simp, rfl⟩
  | k + 1, hk, q => by
    have hx := List.getElem?_eq_getElem (show k < p.m.arrows.length by omega)
    generalize p.m.arrows[k] = b at hx
    have ht : p.m.arrows.take (k + 1) = p.m.arrows.take k ++ [b] := by rw [List.take_add_one, hx]; rfl
    have ih := ldT_is p k (by omega) q
    rw [ht]
    cases hs : hasB p.seen b.e with
    | false =>
      rw [ldT_no hx hs]
      rcases ih with ⟨a, h1, h2⟩ | ⟨h1, h2⟩
      · exact .inl ⟨a, List.mem_append_left _ h1, h2⟩
      · refine .inr ⟨fun a ha hsa => ?_, h2⟩
        rcases List.mem_append.1 ha with ha | ha
        · exact h1 a ha hsa
        · have : a = b := by simpa using ha
          subst this; rw [hs] at hsa; cases hsa
    | true =>
      rw [ldT_yes hx hs]
      by_cases hq : q = b.f.toNat * 8 + b.e.toNat
      · exact .inl ⟨b, List.mem_append_right _ (by simp), hs, hq, if_pos hq⟩
      · show (∃ a ∈ _, _ ∧ _ ∧ (if q = _ then _ else _) = _) ∨ (_ ∧ (if q = _ then _ else _) = _)
        rw [if_neg hq]
        rcases ih with ⟨a, h1, h2⟩ | ⟨h1, h2⟩
        · exact .inl ⟨a, List.mem_append_left _ h1, h2⟩
        · refine .inr ⟨fun a ha hsa => ?_, h2⟩
          rcases List.mem_append.1 ha with ha | ha
          · exact h1 a ha hsa
          · have : a = b := by simpa using ha
            subst this; exact hq
/-- The table tells where each state leads to. -/
structure TabV (p : Plant) (T : Nat → Nat → Nat) : Prop where
  ok : ∀ q, okS (T q)
  rep : ∀ (n : Nat) (e : Int), (n : Int) < p.m.st → e ∈ p.seen → Rep (T (n * 8 + e.toNat)) (seeL p [(n : Int)] e)
theorem ok_wideS {p : Plant} (hp : mayP p = true) {ss : List Int} (hs : ∀ x ∈ ss, 0 ≤ x ∧ x < p.m.st) : okS (wideS p ss) := (rep_wideS hp hs).ok
theorem ok_ldT {p : Plant} (hp : mayP p = true) (k : Nat) (hk : k ≤ p.m.arrows.length) (q : Nat) : okS (ldT p k q) := by
  rcases ldT_is p k hk q with ⟨a, h1, h2, h3, h4⟩ | ⟨h1, h2⟩
  · have := may_arrs ((mayP_iff p).1 hp).1 a (List.mem_of_mem_take h1)
    rw [h4]; exact ok_wideS hp (fun x hx => by have : x = a.t := by simpa using hx
                                               subst this; exact ⟨by have := this; omega, by omega⟩)
  · rw [h2]; exact okS_zero
theorem ld_tab {p : Plant} (hp : mayP p = true) (hpl : PlnV p) : TabV p (ldT p p.m.arrows.length) := by
  have hm := ((mayP_iff p).1 hp).1
  have hsb := (seen_bd hp).2
  have h6 := states_bd hp
  refine ⟨ok_ldT hp _ (Nat.le_refl _), fun n e hn he => ?_⟩
  have hse := hsb e he
  rcases ldT_is p _ (Nat.le_refl _) (n * 8 + e.toNat) with ⟨a, h1, h2, h3, h4⟩ | ⟨h1, h2⟩
  · rw [List.take_of_length_le (Nat.le_refl _)] at h1
    obtain ⟨a1, a2, a3, a4, a5, a6⟩ := may_arrs hm a h1
    have a7 := (hsb a.e ((hasB_iff _ _).1 h2)).2.2
    have e1 : a.f = (n : Int) := by omega
    have e2 : a.e = e := by omega
    rw [h4]
    have := pln_arr hm hpl h1
    unfold seeL
    rw [← e1, ← e2, this]
    exact rep_wideS hp (fun x hx => by have : x = a.t := by simpa using hx
                                       subst this; exact ⟨by omega, by omega⟩)
  · rw [List.take_of_length_le (Nat.le_refl _)] at h1
    have : stepL p.m.arrows [(n : Int)] e = [] := by
      refine List.eq_nil_iff_forall_not_mem.2 fun x hx => ?_
      obtain ⟨a, b1, b2, b3, b4⟩ := (mem_stepL _ _ _ _).1 hx
      have b3 : a.f = (n : Int) := by simpa using b3
      exact h1 a b1 (by rw [b2]; exact (hasB_iff _ _).2 he) (by rw [b3, b2]; simp)
    rw [h2]
    unfold seeL
    rw [this]
    have hnil : wideL p.m.arrows p.seen [] = [] := List.eq_nil_iff_forall_not_mem.2 fun x hx => by
      obtain ⟨t, ht, -⟩ := (vWide_one hm [] x).1 hx
      simp at ht
    rw [hnil]; exact rep_nil
theorem mem_alls {S : Nat → Nat} {l : List Int} (hr : Rep S l) (n : Nat) : n ∈ allS S ↔ (n : Int) ∈ l := by
  rw [mem_allS]
  constructor
  · rintro ⟨h1, h2⟩; exact (hr.mem n h1).1 h2
  · intro h; have := hr.bd _ h; exact ⟨by omega, (hr.mem n (by omega)).2 h⟩
/-- Where a set leads to at a seen event. -/
theorem rep_nextV {p : Plant} (hp : mayP p = true) {T : Nat → Nat → Nat} (hT : TabV p T) {S : Nat → Nat} {l : List Int} (hr : Rep S l) (hb : ∀ x ∈ l, 0 ≤ x ∧ x < p.m.st) {e : Int} (he : e ∈ p.seen) : Rep (toF (fun n => T (n * 8 + e.toNat)) (allS S)) (seeL p l e) := by
  have hm := ((mayP_iff p).1 hp).1
  have h6 := states_bd hp
  refine ⟨ok_toF (fun _ => hT.ok _) _, fun x hx => by have := (see_in hm l e).2 x hx; omega, fun k hk => ?_⟩
  rw [has_toF, vSee_one hm]
  constructor
  · rintro ⟨n, h1, h2⟩
    have h3 := (mem_alls hr n).1 h1
    exact ⟨n, h3, ((hT.rep n e (hb _ h3).2 he).mem k hk).1 h2⟩
  · rintro ⟨t, ht, hk2⟩
    have h3 := hb t ht
    obtain ⟨n, rfl⟩ : ∃ n : Nat, t = (n : Int) := ⟨t.toNat, by omega⟩
    exact ⟨n, (mem_alls hr n).2 ht, ((hT.rep n e h3.2 he).mem k hk).2 hk2⟩
theorem empty_of {S : Nat → Nat} {l : List Int} (hr : Rep S l) : emptyB S = true ↔ l = [] := by
  constructor
  · exact empty_yes hr
  · rintro rfl
    have h := (eqS_iff hr rep_nil (by simp [Inc]) (by simp [Inc])).2 rfl
    unfold emptyB
    exact decide_eq_true h
/-- The states of a set that have an arrow at a seen event. -/
def ableF (T : Nat → Nat → Nat) (e : Nat) (ns : List Nat) : Nat → Nat := ns.foldl (fun o n => if emptyB (T (n * 8 + e)) = true then o else withS o n) zeroS
theorem ableF_snoc (T : Nat → Nat → Nat) (e : Nat) (ns : List Nat) (n : Nat) : ableF T e (ns ++ [n]) = if emptyB (T (n * 8 + e)) = true then ableF T e ns else withS (ableF T e ns) n := by
  unfold ableF; rw [List.foldl_append]; rfl
theorem ok_ableG (T : Nat → Nat → Nat) (e : Nat) : ∀ (ns : List Nat) (o : Nat → Nat), okS o → okS (ns.foldl (fun o n => if emptyB (T (n * 8 + e)) = true then o else withS o n) o)
  | [], o, h => h
  | n :: r, o, h => by
    rw [List.foldl_cons]
    refine ok_ableG T e r _ ?_
    split
    · exact h
    · exact okS_with h n
theorem ok_ableF (T : Nat → Nat → Nat) (e : Nat) (ns : List Nat) : okS (ableF T e ns) := ok_ableG T e ns _ okS_zero
theorem has_ableG (T : Nat → Nat → Nat) (e k : Nat) : ∀ (ns : List Nat) (o : Nat → Nat), hasS (ns.foldl (fun o n => if emptyB (T (n * 8 + e)) = true then o else withS o n) o) k = true ↔ hasS o k = true ∨ (k ∈ ns ∧ emptyB (T (k * 8 + e)) = false)
  | [], o => by simp
  | n :: r, o => by
    rw [List.foldl_cons, has_ableG T e k r]
    cases hx : emptyB (T (n * 8 + e)) with
    | true =>
      rw [if_pos rfl]
      constructor
      · rintro (h | ⟨h1, h2⟩)
        · exact .inl h
        · exact .inr ⟨List.mem_cons_of_mem _ h1, h2⟩
      · rintro (h | ⟨h1, h2⟩)
        · exact .inl h
        · rcases List.mem_cons.1 h1 with rfl | h1
          · rw [hx] at h2; cases h2
          · exact .inr ⟨h1, h2⟩
    | false =>
      rw [if_neg (by simp), hasS_with, Bool.or_eq_true, decide_eq_true_eq]
      constructor
      · rintro ((h | rfl) | ⟨h1, h2⟩)
        · exact .inl h
        · exact .inr ⟨by simp, hx⟩
        · exact .inr ⟨List.mem_cons_of_mem _ h1, h2⟩
      · rintro (h | ⟨h1, h2⟩)
        · exact .inl (.inl h)
        · rcases List.mem_cons.1 h1 with rfl | h1
          · exact .inl (.inr rfl)
          · exact .inr ⟨h1, h2⟩
theorem has_ableF (T : Nat → Nat → Nat) (e k : Nat) (ns : List Nat) : hasS (ableF T e ns) k = true ↔ k ∈ ns ∧ emptyB (T (k * 8 + e)) = false := by
  unfold ableF
  rw [has_ableG, hasS_zero]; simp
def ableL (p : Plant) (l : List Int) (e : Int) : List Int := l.filter fun s => decide ((stepL p.m.arrows [s] e).length = 1)
theorem mem_ableL {p : Plant} (l : List Int) (e s : Int) : s ∈ ableL p l e ↔ s ∈ l ∧ ∃ t, stepL p.m.arrows [s] e = [t] := by
  unfold ableL
  rw [List.mem_filter, decide_eq_true_eq, List.length_eq_one_iff]
theorem rep_able {p : Plant} (hp : mayP p = true) (hpl : PlnV p) {T : Nat → Nat → Nat} (hT : TabV p T) {S : Nat → Nat} {l : List Int} (hr : Rep S l) (hb : ∀ x ∈ l, 0 ≤ x ∧ x < p.m.st) {e : Int} (he : e ∈ p.seen) : Rep (ableF T e.toNat (allS S)) (ableL p l e) := by
  have hm := ((mayP_iff p).1 hp).1
  have hse := (seen_bd hp).2 e he
  refine ⟨ok_ableF T _ _, fun x hx => hr.bd x (List.mem_filter.1 hx).1, fun k hk => ?_⟩
  rw [has_ableF, mem_ableL, mem_alls hr]
  refine and_congr_right fun hkl => ?_
  have hkb := hb _ hkl
  have h1 := empty_of (hT.rep k e hkb.2 he)
  constructor
  · intro h
    have hne : seeL p [(k : Int)] e ≠ [] := fun hh => by rw [h1.2 hh] at h; cases h
    obtain ⟨x, hx⟩ := List.exists_mem_of_ne_nil _ hne
    obtain ⟨t, ht, -⟩ := (vWide_one hm _ x).1 hx
    exact ⟨t, pln_eq hpl hkb ⟨hse.1, hse.2.1⟩ ht⟩
  · rintro ⟨t, ht⟩
    cases hx : emptyB (T (k * 8 + e.toNat)) with
    | false => rfl
    | true =>
      have h2 := h1.1 hx
      have : t ∈ seeL p [(k : Int)] e := wide_sub (may_to hm) _ (by rw [ht]; simp)
      rw [h2] at this; simp at this

/-! All parts of a set. -/
theorem snoc_ind {P : List Nat → Prop} (h0 : P []) (h1 : ∀ l n, P l → P (l ++ [n])) (l : List Nat) : P l := by
  have : ∀ k, k ≤ l.length → P (l.take k) := by
    intro k
    induction k with
    | zero => intro _; exact h0
    | succ k ih =>
      intro hk
      rw [List.take_add_one, List.getElem?_eq_getElem (by omega)]
      exact h1 _ _ (ih (by omega))
  have := this l.length (Nat.le_refl _)
  rwa [List.take_of_length_le (Nat.le_refl _)] at this
def prtS (ns : List Nat) : List (Nat → Nat) := ns.foldl (fun out n => out ++ out.map fun S => withS S n) [zeroS]
theorem prtS_snoc (ns : List Nat) (n : Nat) : prtS (ns ++ [n]) = prtS ns ++ (prtS ns).map fun S => withS S n := by
  unfold prtS; rw [List.foldl_append]; rfl
theorem ok_prtS (ns : List Nat) : ∀ S ∈ prtS ns, okS S := by
  refine snoc_ind (P := fun ns => ∀ S ∈ prtS ns, okS S) (fun S hS => by have : S = zeroS := by simpa [prtS] using hS
                                                                        rw [this]; exact okS_zero) (fun l n ih S hS => ?_) ns
  rw [prtS_snoc] at hS
  rcases List.mem_append.1 hS with hS | hS
  · exact ih S hS
  · obtain ⟨Q, hQ, rfl⟩ := List.mem_map.1 hS
    exact okS_with (ih Q hQ) n
def prtL (ns : List Nat) : List (List Int) := ns.foldl (fun (out : List (List Int)) (n : Nat) => out ++ out.map fun l => l ++ [(n : Int)]) [[]]
theorem prtL_snoc (ns : List Nat) (n : Nat) : prtL (ns ++ [n]) = prtL ns ++ (prtL ns).map fun l => l ++ [(n : Int)] := by
  unfold prtL; rw [List.foldl_append]; rfl
theorem prt_len (ns : List Nat) : (prtS ns).length = 2 ^ ns.length := by
  refine snoc_ind (P := fun ns => (prtS ns).length = 2 ^ ns.length) rfl (fun l n ih => ?_) ns
  show (prtS (l ++ [n])).length = _
  rw [prtS_snoc]
  simp only [List.length_append, List.length_map, List.length_cons, List.length_nil, ih, Nat.pow_succ]
  omega
theorem mem_prtL (ns : List Nat) : ∀ l, l ∈ prtL ns ↔ l.Sublist (ns.map fun n : Nat => (n : Int)) := by
  refine snoc_ind (P := fun ns => ∀ l, l ∈ prtL ns ↔ l.Sublist (ns.map fun n : Nat => (n : Int))) (fun l => by simp [prtL]) (fun ns n ih l => ?_) ns
  rw [prtL_snoc, List.mem_append, ih, List.map_append, List.sublist_append_iff, List.mem_map]
  constructor
  · rintro (h | ⟨q, hq, rfl⟩)
    · exact ⟨l, [], by simp, h, by simp⟩
    · exact ⟨q, [(n : Int)], rfl, (ih q).1 hq, by simp⟩
  · rintro ⟨l1, l2, rfl, h1, h2⟩
    have : l2 = [] ∨ l2 = [(n : Int)] := by
      cases h2 with
      | cons _ h => exact .inl (by simpa using h)
      | cons_cons _ h => exact .inr (by simp at h; simp [h])
    rcases this with rfl | rfl
    · exact .inl (by simpa using h1)
    · exact .inr ⟨l1, (ih l1).2 h1, rfl⟩
theorem prt_rep (ns : List Nat) : ns.Pairwise (· < ·) → (∀ n ∈ ns, n < 256) → RepL (prtS ns) (prtL ns) := by
  refine snoc_ind (P := fun ns => ns.Pairwise (· < ·) → (∀ n ∈ ns, n < 256) → RepL (prtS ns) (prtL ns)) (fun _ _ => RepL.one rep_nil (by simp [Inc])) (fun ns n ih hp hb => ?_) ns
  have hp' := List.pairwise_append.1 hp
  have ih := ih hp'.1 (fun k hk => hb k (List.mem_append_left _ hk))
  rw [prtS_snoc, prtL_snoc]
  refine ⟨by simp [ih.len], fun k S hk => ?_⟩
  by_cases hlt : k < (prtS ns).length
  · rw [List.getElem?_append_left hlt] at hk
    obtain ⟨l, h1, h2⟩ := ih.rep k S hk
    exact ⟨l, by rw [List.getElem?_append_left (by rw [← ih.len]; exact hlt)]; exact h1, h2⟩
  · rw [List.getElem?_append_right (by omega), List.getElem?_map] at hk
    obtain ⟨S0, h0, rfl⟩ := Option.map_eq_some_iff.1 hk
    obtain ⟨l, h1, h2, h3⟩ := ih.rep _ S0 h0
    refine ⟨l ++ [(n : Int)], by rw [List.getElem?_append_right (by rw [← ih.len]; omega), ← ih.len, List.getElem?_map, h1]; rfl, ?_, ?_⟩
    · have := rep_snoc h2 (x := (n : Int)) (by omega) (by have := hb n (by simp); omega)
      rwa [Int.toNat_natCast] at this
    · refine List.pairwise_append.2 ⟨h3, by simp, fun a ha b hb' => ?_⟩
      have : b = (n : Int) := by simpa using hb'
      subst this
      have hs := ((mem_prtL ns l).1 (List.mem_of_getElem? h1)).subset ha
      obtain ⟨q, hq, rfl⟩ := List.mem_map.1 hs
      have := hp'.2.2 q hq n (by simp)
      omega
theorem prtL_nodup (ns : List Nat) : ns.Nodup → (prtL ns).Nodup := by
  refine snoc_ind (P := fun ns => ns.Nodup → (prtL ns).Nodup) (fun _ => by simp [prtL]) (fun ns n ih hp => ?_) ns
  have hp' := List.nodup_append.1 hp
  rw [prtL_snoc, List.nodup_append]
  refine ⟨ih hp'.1, ?_, fun a ha b hb e => ?_⟩
  · rw [List.nodup_iff_pairwise_ne, List.pairwise_map]
    exact (List.nodup_iff_pairwise_ne.1 (ih hp'.1)).imp (fun h e => h (by simpa using e))
  · obtain ⟨q, hq, rfl⟩ := List.mem_map.1 hb
    have hs := ((mem_prtL ns a).1 ha).subset (show (n : Int) ∈ a by rw [e]; simp)
    obtain ⟨k, hk, hkn⟩ := List.mem_map.1 hs
    have : k = n := by omega
    exact hp'.2.2 k hk n (by simp) this
theorem natL_sub : ∀ (l : List Int) (n : Nat), Inc l → (∀ x ∈ l, 0 ≤ x ∧ x < (n : Int)) → l.Sublist ((List.range n).map fun k : Nat => (k : Int))
  | l, n, hi, hb => by
    have h1 : l = ((List.range n).map fun k : Nat => (k : Int)).filter (fun x => hasB l x) := by
      refine inc_ext hi ?_ fun x => ?_
      · refine List.Pairwise.filter _ ?_
        rw [List.pairwise_map]
        exact List.Pairwise.imp (fun h => by omega) List.pairwise_lt_range
      · rw [List.mem_filter, hasB_iff, List.mem_map]
        constructor
        · intro hx
          have := hb x hx
          exact ⟨⟨x.toNat, List.mem_range.2 (by omega), by omega⟩, hx⟩
        · exact fun h => h.2
    rw [h1]; exact List.filter_sublist

end Go.Proofs.YtkodmnooibpflaaDoor
namespace Go.Proofs.YtkodmnooibpflaaDoor
open Go.RowKit
set_option linter.unusedVariables false

/-- No two neighbours of the first k arrows lead from one state at one event. -/
def NoAdj (ars : List Arr) (k : Nat) : Prop := ∀ (j : Nat) (a b : Arr), j + 1 < k → ars[j]? = some a → ars[j + 1]? = some b → ¬ (a.f = b.f ∧ a.e = b.e)
theorem noAdj_one (ars : List Arr) (k : Nat) (hk : k ≤ 1) : NoAdj ars k := fun j a b h => by omega
theorem noAdj_more {ars : List Arr} {k : Nat} {a b : Arr} (h : NoAdj ars (k + 1)) (ha : ars[k]? = some a) (hb : ars[k + 1]? = some b) (hn : ¬ (a.f = b.f ∧ a.e = b.e)) : NoAdj ars (k + 2) := fun j x y hj hx hy => by
 by_cases e : j = k
 ·subst e
  rw [ha] at hx; rw [hb] at hy
  cases hx; cases hy; exact hn
 ·exact h j x y (by omega) hx hy
theorem adj_no {p : Plant} (hp : mayP p = true) {k : Nat} {a b : Arr} (ha : p.m.arrows[k]? = some a) (hb : p.m.arrows[k + 1]? = some b) (hf : a.f = b.f) (he : a.e = b.e) : plainB p = false := by
 have hm := ((mayP_iff p).1 hp).1
 have hz := mayB_size hm
 unfold sizeOk at hz
 have h1 := may_arrs hm a (List.mem_of_getElem? ha)
 obtain ⟨a1, a2, a3, a4, a5, a6⟩ := h1
 obtain ⟨k1, e1⟩ := List.getElem?_eq_some_iff.1 ha
 obtain ⟨k2, e2⟩ := List.getElem?_eq_some_iff.1 hb
 have hlt := List.pairwise_iff_getElem.1 (may_inc hm) k (k + 1) k1 k2 (by omega)
 rw [e1, e2, aheadB_iff] at hlt
 have ht : a.t < b.t := by omega
 refine plain_no (S := p.m.st.toNat) (E := p.m.ev.toNat) (s := a.f.toNat) (e := a.e.toNat) (by omega) (by omega) (by omega) (by omega) ?_
 rw [Int.toNat_of_nonneg a1, Int.toNat_of_nonneg a5]
 have m1 : a.t ∈ stepL p.m.arrows [a.f] a.e := (mem_stepL _ _ _ _).2 ⟨a, List.mem_of_getElem? ha, rfl, by simp, rfl⟩
 have m2 : b.t ∈ stepL p.m.arrows [a.f] a.e := (mem_stepL _ _ _ _).2 ⟨b, List.mem_of_getElem? hb, he.symm, by simp [hf], rfl⟩
 match hq : stepL p.m.arrows [a.f] a.e, m1, m2 with
 | [], m1, _ => simp at m1
 | [x], m1, m2 =>
  have e1 : a.t = x := by simpa using m1
  have e2 : b.t = x := by simpa using m2
  omega
 | x :: y :: r, _, _ => simp
theorem adj_yes {p : Plant} (hp : mayP p = true) (h : NoAdj p.m.arrows p.m.arrows.length) (hs : p.m.starts.length ≤ 1) : plainB p = true := by
 have hm := ((mayP_iff p).1 hp).1
 have hz := mayB_size hm
 unfold sizeOk at hz
 refine plain_yes (S := p.m.st.toNat) (E := p.m.ev.toNat) (by omega) (by omega) (by omega) fun s _ e _ => ?_
 match hq : stepL p.m.arrows [(s : Int)] (e : Int) with
 | [] => simp
 | [x] => simp
 | x :: y :: r =>
  exfalso
  have hi : Inc (stepL p.m.arrows [(s : Int)] (e : Int)) := inc_srt _
  rw [hq] at hi
  have hxy : x < y := (List.pairwise_cons.1 hi).1 y (by simp)
  obtain ⟨a, b1, b2, b3, b4⟩ := (mem_stepL _ _ _ _).1 (show x ∈ stepL p.m.arrows [(s : Int)] (e : Int) by rw [hq]; simp)
  obtain ⟨b, c1, c2, c3, c4⟩ := (mem_stepL _ _ _ _).1 (show y ∈ stepL p.m.arrows [(s : Int)] (e : Int) by rw [hq]; simp)
  have b3 : a.f = (s : Int) := by simpa using b3
  have c3 : b.f = (s : Int) := by simpa using c3
  obtain ⟨i, hi1⟩ := List.mem_iff_getElem?.1 b1
  obtain ⟨j, hj1⟩ := List.mem_iff_getElem?.1 c1
  obtain ⟨i1, i2⟩ := List.getElem?_eq_some_iff.1 hi1
  obtain ⟨j1, j2⟩ := List.getElem?_eq_some_iff.1 hj1
  have hP := List.pairwise_iff_getElem.1 (may_inc hm)
  have hij : i < j := by
   rcases Nat.lt_trichotomy i j with h1 | h1 | h1
   ·exact h1
   ·subst h1; rw [i2] at j2; subst j2; omega
   ·have := hP j i j1 i1 h1
    rw [i2, j2, aheadB_iff] at this
    omega
  have hn : i + 1 < p.m.arrows.length := by omega
  have hx := List.getElem?_eq_getElem hn
  have o1 := hP i (i + 1) i1 hn (by omega)
  rw [i2, aheadB_iff] at o1
  by_cases e1 : i + 1 = j
  ·subst e1
   exact h i a b hn hi1 hj1 ⟨by omega, by omega⟩
  ·have o2 := hP (i + 1) j hn j1 (by omega)
   rw [j2, aheadB_iff] at o2
   exact h i a _ hn hi1 hx ⟨by omega, by omega⟩
theorem plain_pln {p : Plant} (hp : mayP p = true) (h : plainB p = true) : PlnV p := by
 have hm := ((mayP_iff p).1 hp).1
 unfold plainB at h
 rw [Bool.and_eq_true, List.all_eq_true] at h
 intro s e h0 h1 h2 h3
 have := List.all_eq_true.1 (h.2 s.toNat (List.mem_range.2 (by omega))) e.toNat (List.mem_range.2 (by omega))
 rw [decide_eq_true_eq, Int.toNat_of_nonneg h0, Int.toNat_of_nonneg h2] at this
 exact this

set_option maxRecDepth 100000 in
set_option maxHeartbeats 4000000 in
theorem isPlain_any (st ev : Int) (starts : List Int) (ars : List Arr) (ends seen secret : List Int) (a1 : Option Addr) (c1 : Nat) (a2 : Option Addr) (c2 : Nat) (a3 : Option Addr) (c3 : Nat) (w : World) (hp : Hid (mayP ⟨⟨st, ev, starts, ars, ends⟩, seen, secret⟩ = true)) (hA : Hid (AtA w a2 ars)) :
  Calls Tryd.prog 84 #[mval ⟨st, ev, starts, ars, ends⟩ ⟨a1, c1, a2, c2, a3, c3⟩] w fun e w' => e = .returned (.bool (plainB ⟨⟨st, ev, starts, ars, ends⟩, seen, secret⟩)) ∧ Below w.heap.size w w' := by
 obtain ⟨PB, HPB⟩ : ∃ PB, Hid (PB = plainB ⟨⟨st, ev, starts, ars, ends⟩, seen, secret⟩) := ⟨_, rfl⟩
 rw [← HPB.out]
 have B : Hid (Below w.heap.size w (w.alloc (.cells (mcells ⟨st, ev, starts, ars, ends⟩ ⟨a1, c1, a2, c2, a3, c3⟩) 25))) := (Below.refl _ _).alloc (Nat.le_refl _) _
 have KP : Hid (Blk (w.alloc (.cells (mcells ⟨st, ev, starts, ars, ends⟩ ⟨a1, c1, a2, c2, a3, c3⟩) 25)) w.heap.size 25 (mcells ⟨st, ev, starts, ars, ends⟩ ⟨a1, c1, a2, c2, a3, c3⟩)) := Blk.new w _ _
 have hal : ars.length ≤ 4096 := by
  have := mayB_size ((mayP_iff _).1 hp.out).1
  unfold sizeOk at this
  exact this.2.2.2.2
 go_enter Tryd.func84, Tryd.ntmps84
 obtain ⟨x0, x1, x2, x3, x4⟩ := mcell_at KP.out
 dsimp only at x0 x1 x2 x3 x4
 go_wp2_with fail
 clear x0 x1 x2 x3 x4
 revert B KP
 generalize w.alloc (.cells (mcells ⟨st, ev, starts, ars, ends⟩ ⟨a1, c1, a2, c2, a3, c3⟩) 25) = V
 intro B KP
 go_loopw [8] (fun i wr => ∃ k : Nat, i = .int .i64 k ∧ k ≤ ars.length ∧ Hid (NoAdj ars k) ∧ Hid (Below V.heap.size V wr)) (fun i _ => ars.length - (intOf i).toNat)
 case atStart => exact ⟨0, rfl, Nat.zero_le _, noAdj_one _ _ (by omega), Below.refl _ _⟩
 case round =>
  obtain ⟨k, rfl, hk, WN, WB⟩ := hrel
  have WP := Hid.of (KP.out.below WB.out KP.out.lt)
  have WW := Hid.of (B.out.trans (WB.out.mono B.out.size))
  by_cases hlt : k < ars.length
  ·rcases (hA.out.below WW.out (Nat.le_refl _)) with h0 | ⟨b, off, rfl, hb, hca⟩
   ·rw [h0] at hlt; simp at hlt
   obtain ⟨a, HA, y1, y2, y3⟩ := hca.at hlt
   have HCA := Hid.of hca
   have HAG : Hid (ars[k]? = some a) := by
    have h := HA.out
    show _ = _
    rw [List.getElem?_eq_getElem hlt, Option.getD_some] at h
    rw [List.getElem?_eq_getElem hlt, h]
   have hbz : Below wr.heap.size wr (wr.alloc (.cells #[.int .i64 a.f, .int .i64 a.e, .int .i64 a.t] 75)) := (Below.refl _ _).alloc (Nat.le_refl _) _
   have WA : Hid (Blk (wr.alloc (.cells #[.int .i64 a.f, .int .i64 a.e, .int .i64 a.t] 75)) wr.heap.size 75 #[.int .i64 a.f, .int .i64 a.e, .int .i64 a.t]) := Blk.new wr _ _
   have HBZ : Hid (CellsA (wr.alloc (.cells #[.int .i64 a.f, .int .i64 a.e, .int .i64 a.t] 75)) b off ars) := by
    intro j hj
    have := hca j hj
    refine ⟨(hbz.cell (p := ⟨b, off + j * 3, none⟩) hb).trans this.1, (hbz.cell (p := ⟨b, off + j * 3 + 1, none⟩) hb).trans this.2.1, (hbz.cell (p := ⟨b, off + j * 3 + 2, none⟩) hb).trans this.2.2⟩
   clear hca HCA
   go_wp2_with fail
   clear y1 y2 y3
   have ZB := Hid.of (WB.out.trans (hbz.mono WB.out.size))
   clear hbz hb
   revert WA HBZ ZB
   generalize wr.alloc (.cells #[.int .i64 a.f, .int .i64 a.e, .int .i64 a.t] 75) = Z
   generalize wr.heap.size = pb
   intro WA HBZ ZB
   clear WB WP WW
   obtain ⟨x0, x1, x2, x3, x4⟩ := mcell_at (KP.out.below ZB.out KP.out.lt)
   dsimp only at x0 x1 x2 x3 x4
   have f0 := WA.out.cell 0 rfl
   have f1 := WA.out.cell 1 rfl
   by_cases h0 : k = 0
   ·subst h0
    go_quiet (fail)
    go_wp2_with fail
    go_roundw
    case rel => exact ⟨1, by go_num, by omega, noAdj_one _ _ (by omega), below_drewN ZB.out _⟩
    case measure => simp [intOf]; omega
   ·obtain ⟨j, hj⟩ : ∃ j, Hid (k = j + 1) := ⟨k - 1, by show _ = _; omega⟩
    have hjl : j < ars.length := by have := hj.out; omega
    obtain ⟨b', HPA, z1, z2, z3⟩ := HBZ.out.at hjl
    have HPG : Hid (ars[j]? = some b') := by
     have h := HPA.out
     show _ = _
     rw [List.getElem?_eq_getElem hjl, Option.getD_some] at h
     rw [List.getElem?_eq_getElem hjl, h]
    have hwr : IntKind.i64.wrap ((k : Int) - 1) = (j : Int) := by
     have := hj.out
     rw [show ((k : Int) - 1) = (j : Int) by omega]
     rw [IntKind.wrap_i64]; omega
    have hpos : 0 < k := by omega
    have dpos : decide ((0 : Int) < (k : Int)) = true := by simp; omega
    rw [hj.out] at HAG WN
    by_cases hf : b'.f = a.f
    ·by_cases he : b'.e = a.e
     ·have HEND : Hid (false = PB) := by
       show _ = _
       rw [HPB.out]
       exact (adj_no hp.out HPG.out HAG.out hf he).symm
      have e1 : (b'.f == a.f) = true := by simp [hf]
      have e2 : (b'.e == a.e) = true := by simp [he]
      clear hf he
      go_quiet (fail)
      go_wp2_with fail
      go_ret
      exact ⟨by rw [← HEND.out]; rfl, B.out.trans ((below_drewN ZB.out _).mono B.out.size)⟩
     ·have HN2 := Hid.of (noAdj_more WN.out HPG.out HAG.out (fun h => he h.2))
      have e1 : (b'.f == a.f) = true := by simp [hf]
      have e2 : (b'.e == a.e) = false := by simp [he]
      clear hf he
      go_quiet (fail)
      go_wp2_with fail
      go_roundw
      case rel => exact ⟨k + 1, by go_num, by omega, by rw [show k + 1 = j + 2 by have := hj.out; omega]; exact HN2, below_drewN ZB.out _⟩
      case measure => simp [intOf]; omega
    ·have HN2 := Hid.of (noAdj_more WN.out HPG.out HAG.out (fun h => hf h.1))
     have e1 : (b'.f == a.f) = false := by simp [hf]
     clear hf
     go_quiet (fail)
     go_wp2_with fail
     go_roundw
     case rel => exact ⟨k + 1, by go_num, by omega, by rw [show k + 1 = j + 2 by have := hj.out; omega]; exact HN2, below_drewN ZB.out _⟩
     case measure => simp [intOf]; omega
  ·have hk2 : ars.length ≤ k := by omega
   have HKE : Hid (k = ars.length) := by show _ = _; omega
   clear hlt
   have HEND : Hid (decide ((starts.length : Int) ≤ 1) = PB) := by
    show _ = _
    rw [HPB.out]
    have h1 := WN.out
    rw [HKE.out] at h1
    by_cases h2 : starts.length ≤ 1
    ·rw [adj_yes hp.out h1 h2]; simp; omega
    ·rw [plain_many (p := ⟨⟨st, ev, starts, ars, ends⟩, seen, secret⟩) (by show 1 < starts.length; omega)]; simp; omega
   obtain ⟨x0, x1, x2, x3, x4⟩ := mcell_at WP.out
   dsimp only at x0 x1 x2 x3 x4
   go_wp2_with fail
   go_ret
   exact ⟨by rw [← HEND.out]; rfl, WW.out⟩

end Go.Proofs.YtkodmnooibpflaaDoor
namespace Go.Proofs.YtkodmnooibpflaaDoor
open Go.RowKit
set_option linter.unusedVariables false

/-- The keeper lies in block kb: the plant, what is free, the set of what is secret, the table, the map. -/
def KV (W : World) (kb : Nat) (p : Plant) (P : PTL) (fa : Option Addr) (fc : Nat) (free : List Int) (R : Nat → Nat) (T : Nat → Nat → Nat) (mb : Nat) : Prop := ∃ cs, Blk W kb 120 cs ∧ cs.size = 205 ∧
  (∀ (j : Nat) (v : Value), (ptcells p P)[j]? = some v → cs[j]? = some v) ∧ cs[7]? = some (.slice fa free.length fc) ∧ (∀ j, j < 4 → cs[8 + j]? = some (.int .u64 (R j))) ∧
  (∀ n e j, n < 6 → e < 8 → j < 4 → cs[12 + n * 32 + e * 4 + j]? = some (.int .u64 (T (n * 8 + e) j))) ∧ cs[204]? = some (.map (some mb))
section
variable {W W' : World} {kb mb B : Nat} {p : Plant} {P : PTL} {fa : Option Addr} {fc : Nat} {free : List Int} {R : Nat → Nat} {T : Nat → Nat → Nat}
theorem KV.lt (h : KV W kb p P fa fc free R T mb) : kb < W.heap.size := by obtain ⟨cs, h1, -⟩ := h; exact h1.lt
theorem KV.frozen (h : KV W kb p P fa fc free R T mb) (j : Nat) : W.frozen? ⟨kb, j, none⟩ = false := by obtain ⟨cs, h1, -⟩ := h; exact h1.frozen j
theorem KV.below (h : KV W kb p P fa fc free R T mb) (hb : Below B W W') (hB : kb < B) : KV W' kb p P fa fc free R T mb := by
  obtain ⟨cs, h1, h2⟩ := h; exact ⟨cs, h1.below hb hB, h2⟩
theorem KV.same (h : KV W kb p P fa fc free R T mb) (hs : W'.heap[kb]? = W.heap[kb]?) : KV W' kb p P fa fc free R T mb := by
  obtain ⟨cs, h1, h2⟩ := h; exact ⟨cs, hs.trans h1, h2⟩
theorem KV.plant (h : KV W kb p P fa fc free R T mb) : W.cell? ⟨kb, 0, none⟩ = some (.int .i64 p.m.st) ∧ W.cell? ⟨kb, 1, none⟩ = some (.int .i64 p.m.ev) ∧ W.cell? ⟨kb, 2, none⟩ = some (.slice P.l.a1 p.m.starts.length P.l.c1) ∧ W.cell? ⟨kb, 3, none⟩ = some (.slice P.l.a2 p.m.arrows.length P.l.c2) ∧ W.cell? ⟨kb, 4, none⟩ = some (.slice P.l.a3 p.m.ends.length P.l.c3) ∧ W.cell? ⟨kb, 5, none⟩ = some (.slice P.sa p.seen.length P.sc) ∧ W.cell? ⟨kb, 6, none⟩ = some (.slice P.ta p.secret.length P.tc) := by
  obtain ⟨cs, h1, -, h2, -⟩ := h
  exact ⟨h1.cell 0 (h2 0 _ rfl), h1.cell 1 (h2 1 _ rfl), h1.cell 2 (h2 2 _ rfl), h1.cell 3 (h2 3 _ rfl), h1.cell 4 (h2 4 _ rfl), h1.cell 5 (h2 5 _ rfl), h1.cell 6 (h2 6 _ rfl)⟩
theorem KV.fr (h : KV W kb p P fa fc free R T mb) : W.cell? ⟨kb, 7, none⟩ = some (.slice fa free.length fc) := by
  obtain ⟨cs, h1, -, -, h2, -⟩ := h; exact h1.cell 7 h2
theorem KV.sec (h : KV W kb p P fa fc free R T mb) : W.cell? ⟨kb, 8, none⟩ = some (.int .u64 (R 0)) ∧ W.cell? ⟨kb, 9, none⟩ = some (.int .u64 (R 1)) ∧ W.cell? ⟨kb, 10, none⟩ = some (.int .u64 (R 2)) ∧ W.cell? ⟨kb, 11, none⟩ = some (.int .u64 (R 3)) := by
  obtain ⟨cs, h1, -, -, -, h2, -⟩ := h
  exact ⟨h1.cell 8 (h2 0 (by omega)), h1.cell 9 (h2 1 (by omega)), h1.cell 10 (h2 2 (by omega)), h1.cell 11 (h2 3 (by omega))⟩
theorem KV.mp (h : KV W kb p P fa fc free R T mb) : W.cell? ⟨kb, 204, none⟩ = some (.map (some mb)) := by
  obtain ⟨cs, h1, -, -, -, -, -, h2⟩ := h; exact h1.cell 204 h2
theorem KV.lead (h : KV W kb p P fa fc free R T mb) {n e : Nat} (hn : n < 6) (he : e < 8) : W.cell? ⟨kb, 12 + n * 32 + e * 4, none⟩ = some (.int .u64 (T (n * 8 + e) 0)) ∧ W.cell? ⟨kb, 12 + n * 32 + e * 4 + 1, none⟩ = some (.int .u64 (T (n * 8 + e) 1)) ∧ W.cell? ⟨kb, 12 + n * 32 + e * 4 + 2, none⟩ = some (.int .u64 (T (n * 8 + e) 2)) ∧ W.cell? ⟨kb, 12 + n * 32 + e * 4 + 3, none⟩ = some (.int .u64 (T (n * 8 + e) 3)) := by
  obtain ⟨cs, h1, -, -, -, -, h2, -⟩ := h
  exact ⟨h1.cell _ (h2 n e 0 hn he (by omega)), h1.cell _ (h2 n e 1 hn he (by omega)), h1.cell _ (h2 n e 2 hn he (by omega)), h1.cell _ (h2 n e 3 hn he (by omega))⟩
/-- One set of the table stored anew. -/
theorem KV.store (h : KV W kb p P fa fc free R T mb) {n e : Nat} (hn : n < 6) (he : e < 8) (U : Nat → Nat) :
    KV ((((W.setCell ⟨kb, 12 + n * 32 + e * 4, none⟩ (.int .u64 (U 0))).setCell ⟨kb, 12 + n * 32 + e * 4 + 1, none⟩ (.int .u64 (U 1))).setCell ⟨kb, 12 + n * 32 + e * 4 + 2, none⟩ (.int .u64 (U 2))).setCell ⟨kb, 12 + n * 32 + e * 4 + 3, none⟩ (.int .u64 (U 3))) kb p P fa fc free R (fun q => if q = n * 8 + e then U else T q) mb := by
  obtain ⟨cs, h1, h2, h3, h4, h5, h6, h7⟩ := h
  have key : ∀ q, (q < 12 ∨ 204 ≤ q) → ((((cs.setIfInBounds (12 + n * 32 + e * 4) (.int .u64 (U 0))).setIfInBounds (12 + n * 32 + e * 4 + 1) (.int .u64 (U 1))).setIfInBounds (12 + n * 32 + e * 4 + 2) (.int .u64 (U 2))).setIfInBounds (12 + n * 32 + e * 4 + 3) (.int .u64 (U 3)))[q]? = cs[q]? := fun q hq => by
    simp only [Array.getElem?_setIfInBounds]
    rw [if_neg (by omega), if_neg (by omega), if_neg (by omega), if_neg (by omega)]
  refine ⟨_, (((h1.set (12 + n * 32 + e * 4) _).set (12 + n * 32 + e * 4 + 1) _).set (12 + n * 32 + e * 4 + 2) _).set (12 + n * 32 + e * 4 + 3) _, by simp [h2], fun j v hj => ?_, ?_, fun j hj => ?_, fun n' e' j hn' he' hj => ?_, ?_⟩
  · rw [key j (.inl (by have := (Array.getElem?_eq_some_iff.1 hj).1; have h7 : (ptcells p P).size = 7 := rfl; omega))]; exact h3 j v hj
  · rw [key 7 (.inl (by omega))]; exact h4
  · rw [key (8 + j) (.inl (by omega))]; exact h5 j hj
  · simp only [Array.getElem?_setIfInBounds, Array.size_setIfInBounds]
    by_cases q : n' * 8 + e' = n * 8 + e
    · have q1 : n' = n := by omega
      have q2 : e' = e := by omega
      subst q1; subst q2
      have hj' : j = 0 ∨ j = 1 ∨ j = 2 ∨ j = 3 := by omega
      rcases hj' with rfl | rfl | rfl | rfl
      · simp [show 12 + n' * 32 + e' * 4 < cs.size by omega]
      · simp [show 12 + n' * 32 + e' * 4 + 1 < cs.size by omega]
      · simp [show 12 + n' * 32 + e' * 4 + 2 < cs.size by omega]
      · simp [show 12 + n' * 32 + e' * 4 + 3 < cs.size by omega]
    · have a0 : ¬ 12 + n * 32 + e * 4 = 12 + n' * 32 + e' * 4 + j := by omega
      have a1 : ¬ 12 + n * 32 + e * 4 + 1 = 12 + n' * 32 + e' * 4 + j := by omega
      have a2 : ¬ 12 + n * 32 + e * 4 + 2 = 12 + n' * 32 + e' * 4 + j := by omega
      have a3 : ¬ 12 + n * 32 + e * 4 + 3 = 12 + n' * 32 + e' * 4 + j := by omega
      rw [if_neg a3, if_neg a2, if_neg a1, if_neg a0, h6 n' e' j hn' he' hj, if_neg q]
  · rw [key 204 (.inr (by omega))]; exact h7
end

end Go.Proofs.YtkodmnooibpflaaDoor
namespace Go.Proofs.YtkodmnooibpflaaDoor
open Go.RowKit
set_option linter.unusedVariables false

set_option maxRecDepth 100000 in
set_option maxHeartbeats 4000000 in
theorem kall_any (p : Plant) (P : PTL) (fa : Option Addr) (fc : Nat) (free : List Int) (R : Nat → Nat) (T : Nat → Nat → Nat) (mb kb : Nat) (N : Nat) (hN : Hid (p.m.st = (N : Int))) (h256 : N ≤ 256) (w : World) (hK : Hid (KV w kb p P fa fc free R T mb)) :
  Calls Tryd.prog 148 #[.pointer (some ⟨kb, 0, none⟩)] w fun e w' => e = .returned (sval (firF N)) ∧ Below w.heap.size w w' := by
 have B : Hid (Below w.heap.size w ((w.alloc (.cells zs4c 79)).alloc (.cells zs4c 79))) := ((Below.refl _ _).alloc (Nat.le_refl _) _).alloc (by simp) _
 have KR : Hid (SB ((w.alloc (.cells zs4c 79)).alloc (.cells zs4c 79)) w.heap.size zeroS) := (Blk.new w 79 zs4c).alloc _
 have KS : Hid (SB ((w.alloc (.cells zs4c 79)).alloc (.cells zs4c 79)) (w.heap.size + 1) (firF 0)) := by
  have := Blk.new (w.alloc (.cells zs4c 79)) 79 zs4c
  rwa [World.size_alloc] at this
 go_enter Tryd.func148, Tryd.ntmps148
 have x0 : ((w.alloc (.cells zs4c 79)).alloc (.cells zs4c 79)).cell? ⟨kb, 0, none⟩ = some (.int .i64 (N : Int)) := by rw [← hN.out]; exact (hK.out.below B.out hK.out.lt).plant.1
 go_wp2_with fail
 clear x0
 revert B KR KS
 generalize ((w.alloc (.cells zs4c 79)).alloc (.cells zs4c 79)) = V0
 intro B KR KS
 go_loopw [11] (fun i wr => ∃ k : Nat, k ≤ N ∧ i = .int .i64 k ∧ Hid (SB wr (w.heap.size + 1) (firF k)) ∧ Hid (Below (w.heap.size + 1) V0 wr)) (fun i _ => N - (intOf i).toNat)
 case atStart => exact ⟨0, Nat.zero_le _, rfl, KS, Below.refl _ _⟩
 case round =>
  clear KS
  obtain ⟨k, hk, rfl, LS, LB⟩ := hrel
  obtain ⟨Q, HQ⟩ : ∃ Q, Hid (Q = firF k) := ⟨_, rfl⟩
  have hok : Hid (okS Q) := by show okS Q; rw [HQ.out]; exact ok_firF k
  rw [← HQ.out] at LS
  by_cases hlt : k < N
  ·obtain ⟨s0, s1, s2, s3⟩ := SB.cells LS.out
   go_wp2_with fail
   refine (with_any Q (k : Int) _ hok.out (by omega) (by omega)).mono ?_
   rintro e w1 ⟨rfl, hb⟩
   rw [Int.toNat_natCast]
   have L1 := Hid.of (LS.out.below hb LS.out.lt)
   have B1 := Hid.of (LB.out.trans (hb.mono (Nat.le_trans (Nat.le_of_lt LS.out.lt) (Nat.le_refl _))))
   clear s0 s1 s2 s3 hb
   have fz := L1.out.frozen
   obtain ⟨s0, s1, s2, s3⟩ := SB.cells L1.out
   have L2 := Hid.of (SB.set4 L1.out (withS Q k))
   have B2 := Hid.of (below_set4 B1.out (b' := w.heap.size + 1) (Nat.le_refl _) (.int .u64 (withS Q k 0)) (.int .u64 (withS Q k 1)) (.int .u64 (withS Q k 2)) (.int .u64 (withS Q k 3)))
   go_wp2_with fail
   go_roundw
   case rel => exact ⟨k + 1, by omega, by go_num, by rw [firF, ← HQ.out]; exact L2, B2⟩
   case measure => simp [intOf]; omega
  ·have hk2 : N ≤ k := by omega
   have HK : Hid (k = N) := by show k = N; omega
   clear hlt
   have BW := Hid.of (B.out.trans (LB.out.mono (by omega)))
   have RW := Hid.of (KR.out.below LB.out (by omega))
   obtain ⟨s0, s1, s2, s3⟩ := SB.cells LS.out
   obtain ⟨r0, r1, r2, r3⟩ := SB.cells RW.out
   have rz := RW.out.frozen
   have RR := Hid.of (SB.set4 RW.out Q)
   have BB := Hid.of (below_set4 BW.out (b' := w.heap.size) (by omega) (.int .u64 (Q 0)) (.int .u64 (Q 1)) (.int .u64 (Q 2)) (.int .u64 (Q 3)))
   go_wp2_with fail
   clear r0 r1 r2 r3 s0 s1 s2 s3
   obtain ⟨r0, r1, r2, r3⟩ := SB.cells RR.out
   refine bodyPost_ret (v := sval Q) ?_ rfl ⟨by rw [HQ.out, HK.out], BB.out⟩
   simp [results, go_sem, r0, r1, r2, r3]

/-- The plant, begun elsewhere. -/
def fromP (p : Plant) (ss : List Int) : Plant := { p with m := { p.m with starts := ss } }
theorem may_fromP {p : Plant} (hp : mayP p = true) {ss : List Int} (hi : Inc ss) (hb : ∀ x ∈ ss, 0 ≤ x ∧ x < p.m.st) : mayP (fromP p ss) = true := by
 obtain ⟨h1, h2, h3, h4⟩ := (mayP_iff p).1 hp
 have hz := mayB_size h1
 refine (mayP_iff _).2 ⟨?_, h2, h3, h4⟩
 rw [mayB_go (m := (fromP p ss).m) hz ((rowB_iff _ (by unfold sizeOk at hz; show p.m.st ≤ _; omega) _).2 ⟨hi, hb⟩) (show rowB p.m.st p.m.ends = true from mayB_ends h1)]
 exact mayB_arrs (m := p.m) h1
theorem est_fromP {p : Plant} (hp : mayP p = true) {ss : List Int} (hi : Inc ss) (hb : ∀ x ∈ ss, 0 ≤ x ∧ x < p.m.st) : estOut (fromP p ss) [] = (wideL p.m.arrows p.seen ss, 0) := by
 unfold estOut
 rw [if_pos (may_fromP hp hi hb), if_pos (by rfl)]
 rfl

set_option maxRecDepth 100000 in
set_option maxHeartbeats 4000000 in
theorem kuns_any (st ev : Int) (starts : List Int) (ars : List Arr) (ends seen secret : List Int) (a1 : Option Addr) (c1 : Nat) (a2 : Option Addr) (c2 : Nat) (a3 : Option Addr) (c3 : Nat) (a4 : Option Addr) (c4 : Nat) (a5 : Option Addr) (c5 : Nat) (fa : Option Addr) (fc : Nat) (free : List Int) (R : Nat → Nat) (T : Nat → Nat → Nat) (mb kb : Nat) (ss : List Int) (sa : Option Addr) (sc : Nat) (w : World) (hK : Hid (KV w kb ⟨⟨st, ev, starts, ars, ends⟩, seen, secret⟩ ⟨⟨a1, c1, a2, c2, a3, c3⟩, a4, c4, a5, c5⟩ fa fc free R T mb)) (hp : Hid (mayP ⟨⟨st, ev, starts, ars, ends⟩, seen, secret⟩ = true)) (hP : Hid (PAt w ⟨⟨st, ev, starts, ars, ends⟩, seen, secret⟩ ⟨⟨a1, c1, a2, c2, a3, c3⟩, a4, c4, a5, c5⟩)) (hs : Hid (Sl w sa sc ss)) (hi : Hid (Inc ss)) (hb : Hid (∀ x ∈ ss, 0 ≤ x ∧ x < st)) (hT : Hid (Tab w)) :
  Calls Tryd.prog 86 #[.pointer (some ⟨kb, 0, none⟩), .slice sa ss.length sc] w fun e w' => e = .returned (sval (wideS ⟨⟨st, ev, starts, ars, ends⟩, seen, secret⟩ ss)) ∧ Below w.heap.size w w' := by
 have B : Hid (Below w.heap.size w ((w.alloc (.cells zs4c 79)).alloc (.cells (ptcells ⟨⟨st, ev, ss, ars, ends⟩, seen, secret⟩ ⟨⟨sa, sc, a2, c2, a3, c3⟩, a4, c4, a5, c5⟩) 44))) := ((Below.refl _ _).alloc (Nat.le_refl _) _).alloc (by simp) _
 have KR : Hid (SB ((w.alloc (.cells zs4c 79)).alloc (.cells (ptcells ⟨⟨st, ev, ss, ars, ends⟩, seen, secret⟩ ⟨⟨sa, sc, a2, c2, a3, c3⟩, a4, c4, a5, c5⟩) 44)) w.heap.size zeroS) := (Blk.new w 79 zs4c).alloc _
 have HE : Hid (estOut ⟨⟨st, ev, ss, ars, ends⟩, seen, secret⟩ [] = (wideL ars seen ss, 0)) := est_fromP hp.out hi.out hb.out
 have PT : Hid (PAt ((w.alloc (.cells zs4c 79)).alloc (.cells (ptcells ⟨⟨st, ev, ss, ars, ends⟩, seen, secret⟩ ⟨⟨sa, sc, a2, c2, a3, c3⟩, a4, c4, a5, c5⟩) 44)) ⟨⟨st, ev, ss, ars, ends⟩, seen, secret⟩ ⟨⟨sa, sc, a2, c2, a3, c3⟩, a4, c4, a5, c5⟩) := by
  have h1 := hP.out.below B.out (Nat.le_refl _)
  have h2 := hs.out.below B.out (Nat.le_refl _)
  exact ⟨{ h1.m with s := h2.at_, s1 := h2.le, s2 := h2.max, s3 := h2.nil }, h1.s, h1.t⟩
 go_enter Tryd.func86, Tryd.ntmps86
 obtain ⟨x0, x1, x2, x3, x4, x5, x6⟩ := (hK.out.below ((Below.refl _ w).alloc (Nat.le_refl _) (.cells zs4c 79)) hK.out.lt).plant
 go_wp2_with fail
 clear x0 x1 x2 x3 x4 x5 x6
 have HW : Hid (∀ x ∈ wideL ars seen ss, 0 ≤ x ∧ x < 256) := fun x hx => by
  have h1 := (wide_in (p := ⟨⟨st, ev, starts, ars, ends⟩, seen, secret⟩) ((mayP_iff _).1 hp.out).1 hb.out).2 x hx
  have h2 : st ≤ 6 := (states_bd hp.out).2
  have h3 : x < st := h1.2
  exact ⟨h1.1, by omega⟩
 revert B KR PT
 generalize (w.alloc (.cells zs4c 79)).alloc (.cells (ptcells ⟨⟨st, ev, ss, ars, ends⟩, seen, secret⟩ ⟨⟨sa, sc, a2, c2, a3, c3⟩, a4, c4, a5, c5⟩) 44) = V0
 intro B KR PT
 refine (pEst_any ⟨⟨st, ev, ss, ars, ends⟩, seen, secret⟩ ⟨⟨sa, sc, a2, c2, a3, c3⟩, a4, c4, a5, c5⟩ none 0 [] V0 PT.out (.inl rfl) (by simp [maxLen]) (hT.out.below B.out hT.out.lt)).mono ?_
 rw [HE.out]
 rintro e V1 ⟨va, vc, rfl, hv, hvl, hb1⟩
 have HV := Hid.of hv
 have HVL := Hid.of hvl
 replace B := Hid.of (B.out.trans (hb1.mono B.out.size))
 replace KR := Hid.of (KR.out.below hb1 KR.out.lt)
 clear hb1 hv hvl PT HE
 obtain ⟨L, HL⟩ : ∃ L, Hid (L = wideL ars seen ss) := ⟨_, rfl⟩
 have HQ : Hid (wideS ⟨⟨st, ev, starts, ars, ends⟩, seen, secret⟩ ss = ofS L) := by show _ = _; rw [HL.out]; rfl
 rw [← HL.out] at HV HVL HW ⊢
 go_wp2_with fail
 refine (of_any va vc L V1 HV.out HVL.out HW.out).mono ?_
 rintro e V2 ⟨rfl, hb2⟩
 replace B := Hid.of (B.out.trans (hb2.mono B.out.size))
 replace KR := Hid.of (KR.out.below hb2 KR.out.lt)
 clear hb2
 obtain ⟨Q, HQQ⟩ : ∃ Q, Hid (Q = ofS L) := ⟨_, rfl⟩
 rw [← HQQ.out] at HQ ⊢
 obtain ⟨r0, r1, r2, r3⟩ := SB.cells KR.out
 have rz := KR.out.frozen
 have RR := Hid.of (SB.set4 KR.out Q)
 have BB := Hid.of (below_set4 B.out (b' := w.heap.size) (Nat.le_refl _) (.int .u64 (Q 0)) (.int .u64 (Q 1)) (.int .u64 (Q 2)) (.int .u64 (Q 3)))
 go_wp2_with fail
 clear r0 r1 r2 r3
 obtain ⟨r0, r1, r2, r3⟩ := SB.cells RR.out
 refine bodyPost_ret (v := sval Q) ?_ rfl ⟨by rw [HQ.out], BB.out⟩
 simp [results, go_sem, r0, r1, r2, r3]

end Go.Proofs.YtkodmnooibpflaaDoor
