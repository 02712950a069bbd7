/-
  The closures of package steps, and slices.IndexFunc over places with each of them.
  Plain: where a plant was, and the least two lists that tell it. No program, no model.
  Plain: all estimates, and all rows gone back to, as the program makes them; what is first of two lists that tell where a plant was. No program, no model.
-/
import Derived.Deep.RegionHeld3
import Derived.Test.YtmlkpdeidpcidaaDoorH27
import Derived.Test.YtmlkpdeidpcidaaDoorH30
namespace Go.Proofs.YtmlkpdeidpcidaaDoor
open Go.RowKit
set_option linter.unusedVariables false

set_option maxRecDepth 100000 in
set_option maxHeartbeats 2000000 in
theorem upTo1_any (qs : Nat → Nat) (za : Option Addr) (zc : Nat) (qw : List Int) (most : Int) (pm : Nat) (w : World) (hm : w.cell? ⟨pm, 0, none⟩ = some (.int .i64 most)) :
    Calls Tryd.prog 141 #[pcval ⟨qs, .slice za qw.length zc, qw⟩, .pointer (some ⟨pm, 0, none⟩)] w fun e w' => e = .returned (.bool (decide (most < (qw.length : Int)))) ∧ Below w.heap.size w w' := by
  have B : Hid (Below w.heap.size w (w.alloc (.cells (pcarr ⟨qs, .slice za qw.length zc, qw⟩) 115))) := (Below.refl _ _).alloc (Nat.le_refl _) _
  have KQ : Hid (Blk (w.alloc (.cells (pcarr ⟨qs, .slice za qw.length zc, qw⟩) 115)) w.heap.size 115 (pcarr ⟨qs, .slice za qw.length zc, qw⟩)) := Blk.new w _ _
  have hm2 : (w.alloc (.cells (pcarr ⟨qs, .slice za qw.length zc, qw⟩) 115)).cell? ⟨pm, 0, none⟩ = some (.int .i64 most) := (World.cell?_alloc_some w _ _ (by rw [hm]; rfl)).trans hm
  obtain ⟨n0, n1, n2, n3, n4⟩ := PCk.cells KQ.out
  go_enter Tryd.func141, Tryd.ntmps141
  go_wp2_with fail
  go_ret
  exact ⟨rfl, B.out⟩

set_option maxRecDepth 100000 in
set_option maxHeartbeats 4000000 in
theorem first1_any (b : PlC) (qs : Nat → Nat) (za : Option Addr) (zc : Nat) (qw : List Int) (R : Nat → Nat) (ob : okS b.s) (oq : okS qs) (oR : okS R) (pb pr : Nat) (w : World) (hb : Hid (Blk w pb 115 (pcarr b))) (hr : Hid (SB w pr R)) :
    Calls Tryd.prog 139 #[pcval ⟨qs, .slice za qw.length zc, qw⟩, .pointer (some ⟨pb, 0, none⟩), .pointer (some ⟨pr, 0, none⟩)] w fun e w' => e = .returned (.bool (onlyS (meetS b.s qs) R)) ∧ Below w.heap.size w w' := by
  have B : Hid (Below w.heap.size w (w.alloc (.cells (pcarr ⟨qs, .slice za qw.length zc, qw⟩) 115))) := (Below.refl _ _).alloc (Nat.le_refl _) _
  have KQ : Hid (Blk (w.alloc (.cells (pcarr ⟨qs, .slice za qw.length zc, qw⟩) 115)) w.heap.size 115 (pcarr ⟨qs, .slice za qw.length zc, qw⟩)) := Blk.new w _ _
  have SA : Hid (∀ W, Below w.heap.size w W → Blk W w.heap.size 115 (pcarr ⟨qs, .slice za qw.length zc, qw⟩) → W.cell? ⟨pb, 0, none⟩ = some (.int .u64 (b.s 0)) ∧ W.cell? ⟨pb, 1, none⟩ = some (.int .u64 (b.s 1)) ∧ W.cell? ⟨pb, 2, none⟩ = some (.int .u64 (b.s 2)) ∧ W.cell? ⟨pb, 3, none⟩ = some (.int .u64 (b.s 3)) ∧ W.cell? ⟨w.heap.size, 0, none⟩ = some (.int .u64 (qs 0)) ∧ W.cell? ⟨w.heap.size, 1, none⟩ = some (.int .u64 (qs 1)) ∧ W.cell? ⟨w.heap.size, 2, none⟩ = some (.int .u64 (qs 2)) ∧ W.cell? ⟨w.heap.size, 3, none⟩ = some (.int .u64 (qs 3)) ∧ W.cell? ⟨pr, 0, none⟩ = some (.int .u64 (R 0)) ∧ W.cell? ⟨pr, 1, none⟩ = some (.int .u64 (R 1)) ∧ W.cell? ⟨pr, 2, none⟩ = some (.int .u64 (R 2)) ∧ W.cell? ⟨pr, 3, none⟩ = some (.int .u64 (R 3))) := fun W h1 h2 => by
    obtain ⟨x0, x1, x2, x3, -⟩ := PCk.cells (hb.out.below h1 hb.out.lt)
    obtain ⟨n0, n1, n2, n3, -⟩ := PCk.cells h2
    obtain ⟨y0, y1, y2, y3⟩ := SB.cells (hr.out.below h1 hr.out.lt)
    exact ⟨x0, x1, x2, x3, n0, n1, n2, n3, y0, y1, y2, y3⟩
  go_enter Tryd.func139, Tryd.ntmps139
  go_wp2_with fail
  revert B KQ
  generalize w.alloc (.cells (pcarr ⟨qs, .slice za qw.length zc, qw⟩) 115) = V0
  intro B KQ
  refine wp_region_held_drew (S := fun w' => w'.cell? ⟨pb, 0, none⟩ = some (.int .u64 (b.s 0)) ∧ w'.cell? ⟨pb, 1, none⟩ = some (.int .u64 (b.s 1)) ∧ w'.cell? ⟨pb, 2, none⟩ = some (.int .u64 (b.s 2)) ∧ w'.cell? ⟨pb, 3, none⟩ = some (.int .u64 (b.s 3)) ∧ w'.cell? ⟨w.heap.size, 0, none⟩ = some (.int .u64 (qs 0)) ∧ w'.cell? ⟨w.heap.size, 1, none⟩ = some (.int .u64 (qs 1)) ∧ w'.cell? ⟨w.heap.size, 2, none⟩ = some (.int .u64 (qs 2)) ∧ w'.cell? ⟨w.heap.size, 3, none⟩ = some (.int .u64 (qs 3)) ∧ w'.cell? ⟨pr, 0, none⟩ = some (.int .u64 (R 0)) ∧ w'.cell? ⟨pr, 1, none⟩ = some (.int .u64 (R 1)) ∧ w'.cell? ⟨pr, 2, none⟩ = some (.int .u64 (R 2)) ∧ w'.cell? ⟨pr, 3, none⟩ = some (.int .u64 (R 3))) (by kernel_rfl) (SA.out _ B.out.drew (Blk.drew KQ.out)) (fun hS => ?_)
  replace B : Hid (Below w.heap.size w V0.drew) := B.out.drew
  replace KQ : Hid (Blk V0.drew w.heap.size 115 (pcarr ⟨qs, .slice za qw.length zc, qw⟩)) := Blk.drew KQ.out
  revert hS B KQ
  generalize V0.drew = Y0
  intro hS B KQ
  refine wpAnyH_take (i := 0) (v := .pointer (some ⟨pb, 0, none⟩)) rfl (by kernel_rfl) (by kernel_rfl) (by kernel_rfl) (fun _ _ _ h => h) (Or.inl ⟨by kernel_rfl, fun w' hw' => by obtain ⟨q0, q1, q2, q3, q4, q5, q6, q7, q8, q9, q10, q11⟩ := hw'; go_simp⟩) hS ?_
  refine wpAnyH_take (i := 1) (v := sval b.s) rfl (by kernel_rfl) (by kernel_rfl) (by kernel_rfl) (fun _ _ _ h => h) (Or.inl ⟨by kernel_rfl, fun w' hw' => by obtain ⟨q0, q1, q2, q3, q4, q5, q6, q7, q8, q9, q10, q11⟩ := hw'; go_simp⟩) hS ?_
  refine wpAnyH_take (i := 2) (v := .pointer (some ⟨w.heap.size, 0, none⟩)) rfl (by kernel_rfl) (by kernel_rfl) (by kernel_rfl) (fun _ _ _ h => h) (Or.inl ⟨by kernel_rfl, fun w' hw' => by obtain ⟨q0, q1, q2, q3, q4, q5, q6, q7, q8, q9, q10, q11⟩ := hw'; go_simp⟩) hS ?_
  refine wpAnyH_take (i := 3) (v := sval qs) rfl (by kernel_rfl) (by kernel_rfl) (by kernel_rfl) (fun _ _ _ h => h) (Or.inl ⟨by kernel_rfl, fun w' hw' => by obtain ⟨q0, q1, q2, q3, q4, q5, q6, q7, q8, q9, q10, q11⟩ := hw'; go_simp⟩) hS ?_
  refine wpAnyH_take (i := 5) (v := sval R) rfl (by kernel_rfl) (by kernel_rfl) (by kernel_rfl) (fun _ _ _ h => h) (Or.inl ⟨by kernel_rfl, fun w' hw' => by obtain ⟨q0, q1, q2, q3, q4, q5, q6, q7, q8, q9, q10, q11⟩ := hw'; go_simp⟩) hS ?_
  simp only [Act.put, List.setIfInBounds_toArray]
  refine wpAnyH_ready (rs := [4]) (by kernel_rfl) (by simp) ?_
  refine AllReadyH.cons rfl (fun K' hK' => ?_) AllReadyH.nil
  clear hS
  go_simp
  refine (meet_any b.s qs _ ob oq).mono ?_
  rintro e Y1 ⟨rfl, hb⟩
  replace B := Hid.of (B.out.trans (hb.mono B.out.size))
  replace KQ := Hid.of (KQ.out.below hb KQ.out.lt)
  refine hK'.out _ _ (SA.out _ B.out KQ.out) (fun hS => ?_)
  clear hK' K' hb
  refine wpAnyH_ready (rs := [6]) (by kernel_rfl) (by simp) ?_
  refine AllReadyH.cons rfl (fun K' hK' => ?_) AllReadyH.nil
  clear hS
  go_simp
  refine (onlyIn_any (meetS b.s qs) R (okS_meet ob) oR _).mono ?_
  rintro e Y2 ⟨rfl, hb⟩
  replace B := Hid.of (B.out.trans (hb.mono B.out.size))
  replace KQ := Hid.of (KQ.out.below hb KQ.out.lt)
  refine hK'.out _ _ (SA.out _ B.out KQ.out) (fun hS => ?_)
  clear hK' K' hb
  refine wpAnyH_take (i := 7) (v := .bool (onlyS (meetS b.s qs) R)) rfl (by kernel_rfl) (by kernel_rfl) (by kernel_rfl) (fun _ _ _ h => h) (Or.inl ⟨by kernel_rfl, fun w' hw' => by obtain ⟨q0, q1, q2, q3, q4, q5, q6, q7, q8, q9, q10, q11⟩ := hw'; go_simp⟩) hS ?_
  refine wpAnyH_done (by kernel_rfl) ?_ _
  clear hS
  go_wp2_with fail
  exact bodyPost_ret (v := .bool (onlyS (meetS b.s qs) R)) (by simp [results, go_sem]) rfl ⟨rfl, B.out⟩

/-- Is a place's list too long? -/
def longP (most : Int) (q : PlC) : Bool := decide (most < (q.word.length : Int))
/-- Does a place tell, with another one? -/
def tellsP (s R : Nat → Nat) (q : PlC) : Bool := onlyS (meetS s q.s) R

set_option maxRecDepth 100000 in
set_option maxHeartbeats 4000000 in
theorem idxU_any (L : List PlC) (a : Option Addr) (cap : Nat) (most : Int) (pm : Nat) (w : World) (hll : L.length ≤ 64) (hrd : Hid (RdC w a L)) (hin : Hid (∀ q ∈ L, InnW 0 w q.v q.word)) (hm : Hid (w.cell? ⟨pm, 0, none⟩ = some (.int .i64 most))) (hpm : pm < w.heap.size) :
    Calls Tryd.prog 138 #[.slice a L.length cap, .func (.func 141) #[] #[.pointer (some ⟨pm, 0, none⟩)]] w fun e w' => ∃ r : Int, e = .returned (.int .i64 r) ∧ IdxR (longP most) L r ∧ Below w.heap.size w w' := by
  go_enter Tryd.func138, Tryd.ntmps138
  go_wp2_with fail
  go_loopw [8] (fun i wr => ∃ k : Nat, i = .int .i64 k ∧ k ≤ L.length ∧ Hid (Below w.heap.size w wr) ∧ Hid (noneP (longP most) L k)) (fun i _ => L.length - (intOf i).toNat)
  case atStart => exact ⟨0, rfl, Nat.zero_le _, Below.refl _ _, noneP_zero _ _⟩
  case round =>
    obtain ⟨k, rfl, hk, HB, HN⟩ := hrel
    by_cases hlt : k < L.length
    · obtain ⟨q, HQ⟩ : ∃ q, Hid (L[k]? = some q) := ⟨_, List.getElem?_eq_getElem hlt⟩
      obtain ⟨za, zc, hzv, -, -, -⟩ := (hin.out q (List.mem_of_getElem? HQ.out)).at
      rcases hrd.out with h0 | ⟨g, o, hra, hg, hc⟩
      · rw [h0] at hlt; simp at hlt
      subst hra
      obtain ⟨qs, qv, qw⟩ := q
      dsimp only at hzv
      subst hzv
      obtain ⟨d0, d1, d2, d3, d4⟩ := rdc_cells (hc k _ HQ.out)
      have c0 := (HB.out.cell (p := ⟨g, o + k * 5, none⟩) hg).trans d0
      have c1 := (HB.out.cell (p := ⟨g, o + k * 5 + 1, none⟩) hg).trans d1
      have c2 := (HB.out.cell (p := ⟨g, o + k * 5 + 2, none⟩) hg).trans d2
      have c3 := (HB.out.cell (p := ⟨g, o + k * 5 + 3, none⟩) hg).trans d3
      have c4 := (HB.out.cell (p := ⟨g, o + k * 5 + 4, none⟩) hg).trans d4
      dsimp only at c0 c1 c2 c3 c4
      have hltI : (k : Int) < (L.length : Int) := by omega
      clear hc d0 d1 d2 d3 d4
      obtain ⟨bv, HBV⟩ : ∃ bv, Hid (bv = (longP most) ⟨qs, .slice za qw.length zc, qw⟩) := ⟨_, rfl⟩
      have CALL : Hid (Calls Tryd.prog 141 #[pcval ⟨qs, .slice za qw.length zc, qw⟩, .pointer (some ⟨pm, 0, none⟩)] wr fun e w' => e = .returned (.bool bv) ∧ Below wr.heap.size wr w') := by
        rw [HBV.out]; exact upTo1_any qs za zc qw most pm wr ((HB.out.cell (p := ⟨pm, 0, none⟩) hpm).trans hm.out)
      go_wp2_with fail
      clear c0 c1 c2 c3 c4 hltI
      refine CALL.out.mono ?_
      rintro e W1 ⟨rfl, hb⟩
      have B1 := Hid.of (HB.out.trans (hb.mono HB.out.size))
      clear hb CALL
      cases bv with
      | true =>
        go_wp2_with fail
        refine bodyPost_ret (v := .int .i64 k) (by simp [results, go_sem]) rfl ?_
        exact ⟨_, rfl, .inr ⟨k, _, rfl, HQ.out, HBV.out.symm, HN.out⟩, B1.out⟩
      | false =>
        have HN2 : Hid (noneP (longP most) L (k + 1)) := noneP_succ HN.out HQ.out HBV.out.symm
        go_wp2_with fail
        go_roundw
        case rel => exact ⟨k + 1, by go_num, by omega, B1, HN2⟩
        case measure => simp [intOf]; omega
    · have hkl : k = L.length := by omega
      subst hkl
      clear hlt
      go_wp2_with fail
      refine bodyPost_ret (v := .int .i64 (-1)) (by simp [results, go_sem]) rfl ?_
      exact ⟨_, rfl, .inl ⟨rfl, noneP_all HN.out (Nat.le_refl _)⟩, HB.out⟩

set_option maxRecDepth 100000 in
set_option maxHeartbeats 4000000 in
theorem idxF_any (L : List PlC) (a : Option Addr) (cap : Nat) (b : PlC) (R : Nat → Nat) (ob : okS b.s) (oR : okS R) (pb pr : Nat) (w : World) (hll : L.length ≤ 64) (hrd : Hid (RdC w a L)) (hin : Hid (∀ q ∈ L, InnW 0 w q.v q.word)) (hok : Hid (∀ q ∈ L, okS q.s)) (hpb : Hid (Blk w pb 115 (pcarr b))) (hpr : Hid (SB w pr R)) :
    Calls Tryd.prog 138 #[.slice a L.length cap, .func (.func 139) #[] #[.pointer (some ⟨pb, 0, none⟩), .pointer (some ⟨pr, 0, none⟩)]] w fun e w' => ∃ r : Int, e = .returned (.int .i64 r) ∧ IdxR (tellsP b.s R) L r ∧ Below w.heap.size w w' := by
  go_enter Tryd.func138, Tryd.ntmps138
  go_wp2_with fail
  go_loopw [8] (fun i wr => ∃ k : Nat, i = .int .i64 k ∧ k ≤ L.length ∧ Hid (Below w.heap.size w wr) ∧ Hid (noneP (tellsP b.s R) L k)) (fun i _ => L.length - (intOf i).toNat)
  case atStart => exact ⟨0, rfl, Nat.zero_le _, Below.refl _ _, noneP_zero _ _⟩
  case round =>
    obtain ⟨k, rfl, hk, HB, HN⟩ := hrel
    by_cases hlt : k < L.length
    · obtain ⟨q, HQ⟩ : ∃ q, Hid (L[k]? = some q) := ⟨_, List.getElem?_eq_getElem hlt⟩
      obtain ⟨za, zc, hzv, -, -, -⟩ := (hin.out q (List.mem_of_getElem? HQ.out)).at
      have OQ := Hid.of (hok.out q (List.mem_of_getElem? HQ.out))
      rcases hrd.out with h0 | ⟨g, o, hra, hg, hc⟩
      · rw [h0] at hlt; simp at hlt
      subst hra
      obtain ⟨qs, qv, qw⟩ := q
      dsimp only at hzv
      subst hzv
      obtain ⟨d0, d1, d2, d3, d4⟩ := rdc_cells (hc k _ HQ.out)
      have c0 := (HB.out.cell (p := ⟨g, o + k * 5, none⟩) hg).trans d0
      have c1 := (HB.out.cell (p := ⟨g, o + k * 5 + 1, none⟩) hg).trans d1
      have c2 := (HB.out.cell (p := ⟨g, o + k * 5 + 2, none⟩) hg).trans d2
      have c3 := (HB.out.cell (p := ⟨g, o + k * 5 + 3, none⟩) hg).trans d3
      have c4 := (HB.out.cell (p := ⟨g, o + k * 5 + 4, none⟩) hg).trans d4
      dsimp only at c0 c1 c2 c3 c4
      have hltI : (k : Int) < (L.length : Int) := by omega
      clear hc d0 d1 d2 d3 d4
      obtain ⟨bv, HBV⟩ : ∃ bv, Hid (bv = (tellsP b.s R) ⟨qs, .slice za qw.length zc, qw⟩) := ⟨_, rfl⟩
      have CALL : Hid (Calls Tryd.prog 139 #[pcval ⟨qs, .slice za qw.length zc, qw⟩, .pointer (some ⟨pb, 0, none⟩), .pointer (some ⟨pr, 0, none⟩)] wr fun e w' => e = .returned (.bool bv) ∧ Below wr.heap.size wr w') := by
        rw [HBV.out]; exact first1_any b qs za zc qw R ob OQ.out oR pb pr wr (Hid.of (hpb.out.below HB.out hpb.out.lt)) (Hid.of (hpr.out.below HB.out hpr.out.lt))
      go_wp2_with fail
      clear c0 c1 c2 c3 c4 hltI
      refine CALL.out.mono ?_
      rintro e W1 ⟨rfl, hb⟩
      have B1 := Hid.of (HB.out.trans (hb.mono HB.out.size))
      clear hb CALL
      cases bv with
      | true =>
        go_wp2_with fail
        refine bodyPost_ret (v := .int .i64 k) (by simp [results, go_sem]) rfl ?_
        exact ⟨_, rfl, .inr ⟨k, _, rfl, HQ.out, HBV.out.symm, HN.out⟩, B1.out⟩
      | false =>
        have HN2 : Hid (noneP (tellsP b.s R) L (k + 1)) := noneP_succ HN.out HQ.out HBV.out.symm
        go_wp2_with fail
        go_roundw
        case rel => exact ⟨k + 1, by go_num, by omega, B1, HN2⟩
        case measure => simp [intOf]; omega
    · have hkl : k = L.length := by omega
      subst hkl
      clear hlt
      go_wp2_with fail
      refine bodyPost_ret (v := .int .i64 (-1)) (by simp [results, go_sem]) rfl ?_
      exact ⟨_, rfl, .inl ⟨rfl, noneP_all HN.out (Nat.le_refl _)⟩, HB.out⟩

end Go.Proofs.YtmlkpdeidpcidaaDoor
namespace Go.Proofs.YtmlkpdeidpcidaaDoor
open Go.RowKit
set_option linter.unusedVariables false

/-! Two lists, by how many numbers they have together, how many the second one has, the first one, the second one. -/
def pairB (w v w' v' : List Int) : Bool := decide (w.length + v.length < w'.length + v'.length) || (decide (w.length + v.length = w'.length + v'.length) && (decide (v.length < v'.length) || (decide (v.length = v'.length) && (lessB w w' || (!lessB w' w && lessB v v')))))
theorem pairB_iff (w v w' v' : List Int) : pairB w v w' v' = true ↔ w.length + v.length < w'.length + v'.length ∨ (w.length + v.length = w'.length + v'.length ∧ (v.length < v'.length ∨ (v.length = v'.length ∧ (lessB w w' = true ∨ (w = w' ∧ lessB v v' = true))))) := by
  unfold pairB
  simp only [Bool.or_eq_true, Bool.and_eq_true, decide_eq_true_eq, Bool.not_eq_true']
  refine or_congr Iff.rfl (and_congr Iff.rfl (or_congr Iff.rfl (and_congr Iff.rfl ?_)))
  constructor
  · rintro (h | ⟨h1, h2⟩)
    · exact .inl h
    · by_cases e : w = w'
      · exact .inr ⟨e, h2⟩
      · rcases lessB_total e with h | h
        · exact .inl h
        · rw [h1] at h; cases h
  · rintro (h | ⟨h1, h2⟩)
    · exact .inl h
    · subst h1
      exact .inr ⟨lessB_irrefl w, h2⟩
theorem pairB_irrefl (w v : List Int) : pairB w v w v = false := by
  rw [Bool.eq_false_iff]
  intro h
  rw [pairB_iff] at h
  rcases h with h | ⟨-, h | ⟨-, h | ⟨-, h⟩⟩⟩
  · omega
  · omega
  · rw [lessB_irrefl] at h; cases h
  · rw [lessB_irrefl] at h; cases h
theorem pairB_trans {a b c d e f : List Int} (h : pairB a b c d = true) (k : pairB c d e f = true) : pairB a b e f = true := by
  rw [pairB_iff] at h k ⊢
  rcases h with h | ⟨h0, h⟩
  · rcases k with k | ⟨k0, -⟩
    · exact .inl (by omega)
    · exact .inl (by omega)
  · rcases k with k | ⟨k0, k⟩
    · exact .inl (by omega)
    · refine .inr ⟨by omega, ?_⟩
      rcases h with h | ⟨h1, h⟩
      · rcases k with k | ⟨k1, -⟩
        · exact .inl (by omega)
        · exact .inl (by omega)
      · rcases k with k | ⟨k1, k⟩
        · exact .inl (by omega)
        · refine .inr ⟨by omega, ?_⟩
          rcases h with h | ⟨rfl, h⟩
          · rcases k with k | ⟨rfl, -⟩
            · exact .inl (lessB_trans h k)
            · exact .inl h
          · rcases k with k | ⟨rfl, k⟩
            · exact .inl k
            · exact .inr ⟨rfl, lessB_trans h k⟩
theorem pairB_total {a b c d : List Int} (h : ¬ (a = c ∧ b = d)) : pairB a b c d = true ∨ pairB c d a b = true := by
  rw [pairB_iff, pairB_iff]
  rcases Nat.lt_trichotomy (a.length + b.length) (c.length + d.length) with q | q | q
  · exact .inl (.inl q)
  · rcases Nat.lt_trichotomy b.length d.length with r | r | r
    · exact .inl (.inr ⟨q, .inl r⟩)
    · by_cases e : a = c
      · have hb : b ≠ d := fun hb => h ⟨e, hb⟩
        rcases lessB_total hb with s | s
        · exact .inl (.inr ⟨q, .inr ⟨r, .inr ⟨e, s⟩⟩⟩)
        · exact .inr (.inr ⟨q.symm, .inr ⟨r.symm, .inr ⟨e.symm, s⟩⟩⟩)
      · rcases lessB_total e with s | s
        · exact .inl (.inr ⟨q, .inr ⟨r, .inl s⟩⟩)
        · exact .inr (.inr ⟨q.symm, .inr ⟨r.symm, .inl s⟩⟩)
    · exact .inr (.inr ⟨q.symm, .inl r⟩)
  · exact .inr (.inl q)
theorem pair_mono {a b a' b' : List Int} (h : leW a a') (k : leW b b') : (a = a' ∧ b = b') ∨ pairB a b a' b' = true := by
  rw [pairB_iff]
  have h1 : a.length ≤ a'.length := by rcases h with h | h; (rw [h]; exact Nat.le_refl _); (exact lessB_len h)
  have k1 : b.length ≤ b'.length := by rcases k with k | k; (rw [k]; exact Nat.le_refl _); (exact lessB_len k)
  by_cases q : a.length + b.length < a'.length + b'.length
  · exact .inr (.inl q)
  · rcases h with rfl | h
    · rcases k with rfl | k
      · exact .inl ⟨rfl, rfl⟩
      · exact .inr (.inr ⟨by omega, .inr ⟨by omega, .inr ⟨rfl, k⟩⟩⟩)
    · exact .inr (.inr ⟨by omega, .inr ⟨by omega, .inl h⟩⟩)
theorem pair_le {a b a' b' w v : List Int} (h : leW a a') (k : leW b b') (hn : pairB a b w v = false) : pairB a' b' w v = false := by
  cases hh : pairB a' b' w v with
  | false => rfl
  | true =>
    rcases pair_mono h k with ⟨rfl, rfl⟩ | q
    · rw [hn] at hh; cases hh
    · rw [pairB_trans q hh] at hn; cases hn

/-! What both rows have. -/
def meetR (a b : List Int) : List Int := a.flatMap fun x => b.filter fun y => y == x
theorem filt_one (x : Int) : ∀ {b : List Int}, b.Nodup → (b.filter fun y => y == x) = if hasB b x = true then [x] else []
  | [], _ => by simp [hasB]
  | c :: r, h => by
    rw [List.nodup_cons] at h
    have ih := filt_one x h.2
    by_cases e : c = x
    · subst e
      have hn : hasB r c = false := by
        cases hh : hasB r c with
        | false => rfl
        | true => exact absurd ((hasB_iff r c).1 hh) h.1
      rw [hn] at ih
      have hc : hasB (c :: r) c = true := (hasB_iff _ _).2 (by simp)
      rw [List.filter_cons_of_pos (by simp), ih, hc]; simp
    · have hc : hasB (c :: r) x = hasB r x := by
        rw [Bool.eq_iff_iff, hasB_iff, hasB_iff, List.mem_cons]
        exact ⟨fun h => h.resolve_left (fun q => e q.symm), .inr⟩
      rw [List.filter_cons_of_neg (by simpa using e), ih, hc]
theorem meetR_eq {b : List Int} (hb : b.Nodup) : ∀ a : List Int, meetR a b = a.filter fun x => hasB b x
  | [] => rfl
  | x :: r => by
    have ih := meetR_eq hb r
    unfold meetR at ih ⊢
    rw [List.flatMap_cons, ih, filt_one x hb]
    cases hx : hasB b x with
    | true => rw [if_pos rfl, List.filter_cons_of_pos (by simpa using hx)]; rfl
    | false => rw [if_neg (by simp), List.filter_cons_of_neg (by rw [hx]; simp)]; rfl
/-- Where it was (K1). -/
def wasL (p : Plant) (before behind : List Int) : List Int := (estL p before).filter fun s => decide (0 < (fromL p [s] behind).length)
theorem was_meet {p : Plant} (hm : mayB p.m = true) (before behind : List Int) : meetR (estL p before) (onL p behind) = wasL p before behind := by
  have hz := mayB_size hm
  unfold sizeOk at hz
  have hn : (onL p behind).Nodup := inc_nodup (inc_flt (inc_rng9 _) _)
  rw [meetR_eq hn]
  unfold wasL
  refine List.filter_congr (fun s hs => ?_)
  have hb := (est_in hm before).2 s hs
  rw [Bool.eq_iff_iff, hasB_iff, mem_on, decide_eq_true_eq, pos_mem]
  exact ⟨fun h => h.2, fun h => ⟨⟨hb.1, by omega⟩, h⟩⟩
/-! What is best of all twos. -/
def okP (secret : List Int) (most : Int) (x y : Kno) : Bool := !(decide (0 ≤ most) && decide (most < (y.2.length : Int))) && leakB secret (meetR x.1 y.1)
def putP (secret : List Int) (most : Int) (o : Option (List Int × List Int)) (x y : Kno) : Option (List Int × List Int) := if (okP secret most x y && (o.isNone || pairB x.2 y.2 (o.getD ([], [])).1 (o.getD ([], [])).2)) = true then some (x.2, y.2) else o
def rowP (secret : List Int) (most : Int) (o : Option (List Int × List Int)) (x : Kno) (B : List Kno) : Option (List Int × List Int) := B.foldl (fun o y => putP secret most o x y) o
def allP (secret : List Int) (most : Int) (A B : List Kno) : Option (List Int × List Int) := A.foldl (fun o x => rowP secret most o x B) none
theorem rowP_take (secret : List Int) (most : Int) (o : Option (List Int × List Int)) (x : Kno) {B : List Kno} {k : Nat} {y : Kno} (h : B[k]? = some y) : rowP secret most o x (B.take (k + 1)) = putP secret most (rowP secret most o x (B.take k)) x y := by
  unfold rowP
  rw [List.take_add_one, h, List.foldl_append]; rfl
theorem allP_take (secret : List Int) (most : Int) {A : List Kno} (B : List Kno) {i : Nat} {x : Kno} (h : A[i]? = some x) : allP secret most (A.take (i + 1)) B = rowP secret most (allP secret most (A.take i) B) x B := by
  unfold allP
  rw [List.take_add_one, h, List.foldl_append]; rfl
def PIn (secret : List Int) (most : Int) (C : List (Kno × Kno)) (o : Option (List Int × List Int)) : Prop :=
  (o = none → ∀ c ∈ C, okP secret most c.1 c.2 = false) ∧ (∀ q, o = some q → (∃ c ∈ C, okP secret most c.1 c.2 = true ∧ q = (c.1.2, c.2.2)) ∧ ∀ c ∈ C, okP secret most c.1 c.2 = true → pairB c.1.2 c.2.2 q.1 q.2 = false)
theorem pin_step {secret : List Int} {most : Int} {C : List (Kno × Kno)} {o : Option (List Int × List Int)} (h : PIn secret most C o) (x y : Kno) : PIn secret most (C ++ [(x, y)]) (putP secret most o x y) := by
  unfold putP
  cases hk : okP secret most x y with
  | false =>
    rw [Bool.false_and, if_neg (by simp)]
    refine ⟨fun ho c hc => ?_, fun q hq => ?_⟩
    · rcases List.mem_append.1 hc with hc | hc
      · exact h.1 ho c hc
      · have : c = (x, y) := by simpa using hc
        rw [this]; exact hk
    · obtain ⟨⟨c, c1, c2, c3⟩, h2⟩ := h.2 q hq
      refine ⟨⟨c, List.mem_append_left _ c1, c2, c3⟩, fun d hd hdk => ?_⟩
      rcases List.mem_append.1 hd with hd | hd
      · exact h2 d hd hdk
      · have : d = (x, y) := by simpa using hd
        rw [this] at hdk
        rw [hk] at hdk; cases hdk
  | true =>
    rw [Bool.true_and]
    cases o with
    | none =>
      rw [if_pos (by simp)]
      refine ⟨fun ho => (by cases ho), fun q hq => ?_⟩
      have hq := Option.some.inj hq
      subst hq
      refine ⟨⟨(x, y), by simp, hk, rfl⟩, fun d hd hdk => ?_⟩
      rcases List.mem_append.1 hd with hd | hd
      · have := h.1 rfl d hd
        rw [this] at hdk; cases hdk
      · have : d = (x, y) := by simpa using hd
        rw [this]; exact pairB_irrefl _ _
    | some q0 =>
      obtain ⟨⟨c, c1, c2, c3⟩, h2⟩ := h.2 q0 rfl
      rw [Option.isNone_some, Bool.false_or, Option.getD_some]
      cases hp : pairB x.2 y.2 q0.1 q0.2 with
      | true =>
        rw [if_pos rfl]
        refine ⟨fun ho => (by cases ho), fun q hq => ?_⟩
        have hq := Option.some.inj hq
        subst hq
        refine ⟨⟨(x, y), by simp, hk, rfl⟩, fun d hd hdk => ?_⟩
        rcases List.mem_append.1 hd with hd | hd
        · have h3 := h2 d hd hdk
          cases hh : pairB d.1.2 d.2.2 x.2 y.2 with
          | false => rfl
          | true => rw [pairB_trans hh hp] at h3; cases h3
        · have : d = (x, y) := by simpa using hd
          rw [this]; exact pairB_irrefl _ _
      | false =>
        rw [if_neg (by simp)]
        refine ⟨fun ho => (by cases ho), fun q hq => ?_⟩
        have hq := Option.some.inj hq
        subst hq
        refine ⟨⟨c, List.mem_append_left _ c1, c2, c3⟩, fun d hd hdk => ?_⟩
        rcases List.mem_append.1 hd with hd | hd
        · exact h2 d hd hdk
        · have : d = (x, y) := by simpa using hd
          rw [this]; exact hp
theorem pin_row {secret : List Int} {most : Int} (x : Kno) : ∀ (B : List Kno) {C : List (Kno × Kno)} {o : Option (List Int × List Int)}, PIn secret most C o → PIn secret most (C ++ B.map fun y => (x, y)) (rowP secret most o x B)
  | [], C, o, h => by simpa [rowP] using h
  | y :: r, C, o, h => by
    have := pin_row x r (pin_step h x y)
    rw [List.append_assoc] at this
    exact this
theorem pin_all {secret : List Int} {most : Int} (B : List Kno) : ∀ (A : List Kno) {C : List (Kno × Kno)} {o : Option (List Int × List Int)}, PIn secret most C o → PIn secret most (C ++ A.flatMap fun x => B.map fun y => (x, y)) (A.foldl (fun o x => rowP secret most o x B) o)
  | [], C, o, h => by simpa using h
  | x :: r, C, o, h => by
    have := pin_all B r (pin_row x B h)
    rw [List.append_assoc] at this
    exact this
theorem allP_inv (secret : List Int) (most : Int) (A B : List Kno) : PIn secret most (A.flatMap fun x => B.map fun y => (x, y)) (allP secret most A B) := by
  have := pin_all (secret := secret) (most := most) B A (C := []) (o := none) ⟨fun _ c hc => by simp at hc, fun q hq => by cases hq⟩
  exact this
theorem mem_twos {A B : List Kno} {c : Kno × Kno} : (c ∈ A.flatMap fun x => B.map fun y => (x, y)) ↔ c.1 ∈ A ∧ c.2 ∈ B := by
  rw [List.mem_flatMap]
  constructor
  · rintro ⟨x, hx, hc⟩
    obtain ⟨y, hy, rfl⟩ := List.mem_map.1 hc
    exact ⟨hx, hy⟩
  · rintro ⟨h1, h2⟩
    exact ⟨c.1, h1, List.mem_map.2 ⟨c.2, h2, rfl⟩⟩

/-! The least two lists that tell where it was (K2). -/
def outS (p : Plant) (most : Int) : Option (List Int × List Int) := allP p.secret most (knL p.seen (fwdL p)) (knL p.seen (bwdL p))
theorem leW_word {seen : List Int} (hi : Inc seen) {u v : List Int} (h : ∀ k ∈ u, 0 ≤ k ∧ k < (seen.length : Int)) (h' : ∀ k ∈ v, 0 ≤ k ∧ k < (seen.length : Int)) (hl : leW u v) : leW (wordS seen u) (wordS seen v) := by
  rcases hl with rfl | hl
  · exact .inl rfl
  · exact .inr (by rw [lessB_word hi h h']; exact hl)
section
variable {p : Plant}
theorem seen_inc (hp : mayP p = true) : Inc p.seen := by
  obtain ⟨hm, z, hs, -⟩ := (mayP_iff p).1 hp
  have hz := mayB_size hm
  unfold sizeOk at hz
  exact ((rowB_iff _ (by omega) _).1 hs).1
theorem fwd_cov (hp : mayP p = true) {w : List Int} (hw : ∀ e ∈ w, e ∈ p.seen) : ∃ x ∈ knL p.seen (fwdL p), x.1 = estL p w ∧ leW x.2 w := by
  obtain ⟨hm, z, hs, -⟩ := (mayP_iff p).1 hp
  have hI := fwd_all hm z
  obtain ⟨x, hx, e1, e2⟩ := bi_all _ hI (idxS p.seen w) (idx_in hw)
  refine ⟨(x.1, wordS p.seen x.2), List.mem_map.2 ⟨x, hx, rfl⟩, ?_, ?_⟩
  · show x.1 = _
    rw [e1, see_run, word_idx hw]; rfl
  · have := leW_word (seen_inc hp) (hI.run x hx).2 (idx_in hw) e2
    rwa [word_idx hw] at this
theorem bwd_cov (hp : mayP p = true) {v : List Int} (hv : ∀ e ∈ v, e ∈ p.seen) : ∃ y ∈ knL p.seen (bwdL p), y.1 = onL p v ∧ leW y.2 v := by
  obtain ⟨hm, z, hs, -⟩ := (mayP_iff p).1 hp
  obtain ⟨n, hI⟩ := bwd_all hm z
  obtain ⟨y, hy, e1, e2⟩ := lbk_all hI (idxS p.seen v) (idx_in hv)
  refine ⟨(y.1, wordS p.seen y.2), List.mem_map.2 ⟨y, hy, rfl⟩, ?_, ?_⟩
  · show y.1 = _
    rw [e1, on_val hm, word_idx hv]
  · have := leW_word (seen_inc hp) (hI.run y hy).2.1 (idx_in hv) e2
    rwa [word_idx hv] at this
theorem fwd_mem (hp : mayP p = true) {x : Kno} (hx : x ∈ knL p.seen (fwdL p)) : x.1 = estL p x.2 ∧ (∀ e ∈ x.2, e ∈ p.seen) ∧ x.2.length ≤ 64 := by
  obtain ⟨hm, z, hs, -⟩ := (mayP_iff p).1 hp
  have hI := fwd_all hm z
  obtain ⟨q, hq, rfl⟩ := List.mem_map.1 hx
  refine ⟨fwd_est hI hq, word_in (hI.run q hq).2, ?_⟩
  obtain ⟨i, hi⟩ := List.mem_iff_getElem?.1 hq
  have h1 := bi_wlen hI i q hi
  have h2 := (List.getElem?_eq_some_iff.1 hi).1
  have h3 := fwd_bound hm z hI
  show (wordS p.seen q.2).length ≤ 64
  rw [wordS_len]; omega
theorem bwd_mem (hp : mayP p = true) {y : Kno} (hy : y ∈ knL p.seen (bwdL p)) : y.1 = onL p y.2 ∧ (∀ e ∈ y.2, e ∈ p.seen) ∧ y.2.length ≤ 64 := by
  obtain ⟨hm, z, hs, -⟩ := (mayP_iff p).1 hp
  obtain ⟨n, hI⟩ := bwd_all hm z
  obtain ⟨q, hq, rfl⟩ := List.mem_map.1 hy
  have h := hI.run q hq
  exact ⟨by show q.1 = _; rw [h.1, on_val hm], word_in h.2.1, by show (wordS p.seen q.2).length ≤ 64; rw [wordS_len]; exact bwd_wlen hm z hI hq⟩
theorem okP_iff (hp : mayP p = true) {most : Int} {x y : Kno} {w v : List Int} (hx : x.1 = estL p w) (hy : y.1 = onL p v) : okP p.secret most x y = true ↔ (0 ≤ most → (y.2.length : Int) ≤ most) ∧ leakB p.secret (wasL p w v) = true := by
  obtain ⟨hm, -⟩ := (mayP_iff p).1 hp
  unfold okP
  rw [hx, hy, was_meet hm, Bool.and_eq_true]
  refine and_congr ?_ Iff.rfl
  by_cases h0 : 0 ≤ most
  · by_cases h1 : most < (y.2.length : Int)
    · simp [h0, h1]
    · simp [h0, h1]; omega
  · simp [h0]
theorem outS_none (hp : mayP p = true) {most : Int} (h : outS p most = none) {w v : List Int} (hw : ∀ e ∈ w, e ∈ p.seen) (hv : ∀ e ∈ v, e ∈ p.seen) (hs : 0 ≤ most → (v.length : Int) ≤ most) : leakB p.secret (wasL p w v) = false := by
  obtain ⟨x, hx, x1, x2⟩ := fwd_cov hp hw
  obtain ⟨y, hy, y1, y2⟩ := bwd_cov hp hv
  have hI := (allP_inv p.secret most (knL p.seen (fwdL p)) (knL p.seen (bwdL p))).1 h (x, y) (mem_twos.2 ⟨hx, hy⟩)
  cases hl : leakB p.secret (wasL p w v) with
  | false => rfl
  | true =>
    have hlen : y.2.length ≤ v.length := by rcases y2 with q | q; (rw [q]; exact Nat.le_refl _); (exact lessB_len q)
    have := (okP_iff hp (most := most) x1 y1).2 ⟨fun h0 => by have := hs h0; omega, hl⟩
    rw [this] at hI; cases hI
theorem outS_some (hp : mayP p = true) {most : Int} {w v : List Int} (h : outS p most = some (w, v)) : leakB p.secret (wasL p w v) = true ∧ (∀ e ∈ w, e ∈ p.seen) ∧ (∀ e ∈ v, e ∈ p.seen) ∧ (0 ≤ most → (v.length : Int) ≤ most) ∧ ∀ w' v' : List Int, (∀ e ∈ w', e ∈ p.seen) → (∀ e ∈ v', e ∈ p.seen) → (0 ≤ most → (v'.length : Int) ≤ most) → leakB p.secret (wasL p w' v') = true → pairB w' v' w v = false := by
  obtain ⟨⟨⟨x, y⟩, c1, c2, c3⟩, h2⟩ := (allP_inv p.secret most (knL p.seen (fwdL p)) (knL p.seen (bwdL p))).2 _ h
  obtain ⟨hx, hy⟩ := mem_twos.1 c1
  injection c3 with e1 e2
  dsimp only at c2 hx hy e1 e2
  obtain ⟨x1, x2, -⟩ := fwd_mem hp hx
  obtain ⟨y1, y2, -⟩ := bwd_mem hp hy
  rw [← e1] at x1 x2
  rw [← e2] at y1 y2
  obtain ⟨q1, q2⟩ := (okP_iff hp x1 y1).1 c2
  rw [← e2] at q1
  refine ⟨q2, x2, y2, q1, fun w' v' hw hv hs hl => ?_⟩
  obtain ⟨x', hx', x1', x2'⟩ := fwd_cov hp hw
  obtain ⟨y', hy', y1', y2'⟩ := bwd_cov hp hv
  have hlen : y'.2.length ≤ v'.length := by rcases y2' with q | q; (rw [q]; exact Nat.le_refl _); (exact lessB_len q)
  exact pair_le x2' y2' (h2 (x', y') (mem_twos.2 ⟨hx', hy'⟩) ((okP_iff hp x1' y1').2 ⟨fun h0 => by have := hs h0; omega, hl⟩))
theorem outS_is (hp : mayP p = true) {most : Int} {w v : List Int} (hw : ∀ e ∈ w, e ∈ p.seen) (hv : ∀ e ∈ v, e ∈ p.seen) (hs : 0 ≤ most → (v.length : Int) ≤ most) (hl : leakB p.secret (wasL p w v) = true) (hmin : ∀ w' v' : List Int, (∀ e ∈ w', e ∈ p.seen) → (∀ e ∈ v', e ∈ p.seen) → (0 ≤ most → (v'.length : Int) ≤ most) → leakB p.secret (wasL p w' v') = true → pairB w' v' w v = false) : outS p most = some (w, v) := by
  cases h : outS p most with
  | none => rw [outS_none hp h hw hv hs] at hl; cases hl
  | some q =>
    obtain ⟨w', v'⟩ := q
    obtain ⟨k1, k2, k3, k4, k5⟩ := outS_some hp h
    have r1 := hmin w' v' k2 k3 k4 k1
    have r2 := k5 w v hw hv hs hl
    by_cases e : w' = w ∧ v' = v
    · rw [e.1, e.2]
    · rcases pairB_total e with r | r
      · rw [r1] at r; cases r
      · rw [r2] at r; cases r
theorem outS_no (hp : mayP p = true) {most : Int} (hn : ∀ w v : List Int, (∀ e ∈ w, e ∈ p.seen) → (∀ e ∈ v, e ∈ p.seen) → (0 ≤ most → (v.length : Int) ≤ most) → leakB p.secret (wasL p w v) = false) : outS p most = none := by
  cases h : outS p most with
  | none => rfl
  | some q =>
    obtain ⟨w', v'⟩ := q
    obtain ⟨k1, k2, k3, k4, -⟩ := outS_some hp h
    rw [hn w' v' k2 k3 k4] at k1; cases k1
end

end Go.Proofs.YtmlkpdeidpcidaaDoor
namespace Go.Proofs.YtmlkpdeidpcidaaDoor
open Go.RowKit
set_option linter.unusedVariables false

/-! All estimates. -/
structure LE (p : Plant) (k : Nat) (l : List (List Int × List Int)) : Prop where
  bi : BI (seeD p) (wideL p.m.arrows p.seen p.m.starts) p.seen.length k 0 l
  go : fwdL p = bfGo (seeD p) p.seen.length (65 - k) k l
theorem LE.start (p : Plant) : LE p 0 [(wideL p.m.arrows p.seen p.m.starts, [])] := ⟨bi_start _ _ _, rfl⟩
theorem LE.next {p : Plant} {k : Nat} {l : List (List Int × List Int)} (h : LE p k l) {x : List Int × List Int} (hx : l[k]? = some x) (hk : k < 65) : LE p (k + 1) (bfRow (seeD p) x l p.seen.length) :=
  ⟨bi_next _ h.bi hx, by rw [h.go, show 65 - k = (65 - (k + 1)) + 1 by omega, bfGo, hx]⟩
theorem LE.all {p : Plant} {k : Nat} {l : List (List Int × List Int)} (h : LE p k l) (hk : k = l.length) : fwdL p = l := by
  rw [h.go]
  have hx : l[k]? = none := List.getElem?_eq_none (by omega)
  cases 65 - k with
  | zero => rfl
  | succ f => unfold bfGo; rw [hx]
/-! All rows gone back to. -/
structure Orig (p : Plant) (l : List (List Int × List Int)) : Prop where
  inc : l.Pairwise fun a b => lessB a.2 b.2 = true
  run : ∀ x ∈ l, x.1 = valB (opB p) (rngI p.m.st.toNat) x.2 ∧ ∀ c ∈ x.2, 0 ≤ c ∧ c < (p.seen.length : Int)
  cov : ∀ u : List Int, (∀ c ∈ u, 0 ≤ c ∧ c < (p.seen.length : Int)) → ∃ x ∈ l, x.1 = valB (opB p) (rngI p.m.st.toNat) u ∧ leW x.2 u
  len : l.length ≤ 64
  wl : ∀ x ∈ l, x.2.length ≤ 64
theorem ig_bound {p : Plant} (hp : mayP p = true) {n frm to e r : Nat} {l : List (List Int × List Int)} (h : IG (opB p) (rngI p.m.st.toNat) p.seen.length n frm to e r l) : l.length ≤ 64 :=
  LIn.bound (k := 0) hp ⟨h, fun j x hj => absurd hj (Nat.not_lt_zero _)⟩
theorem orig_of {p : Plant} (hp : mayP p = true) {n frm to e r : Nat} {l : List (List Int × List Int)} (h : IG (opB p) (rngI p.m.st.toNat) p.seen.length n frm to e r l) (hf : l.length ≤ frm) (hn : n ≤ frm) : Orig p l := by
  have hb := ig_bound hp h
  refine ⟨h.inc, h.run, ig_all h hf, hb, fun x hx => ?_⟩
  obtain ⟨j, hj⟩ := List.mem_iff_getElem?.1 hx
  have h1 := (List.getElem?_eq_some_iff.1 hj).1
  have h2 := h.low j x hj (by omega)
  have h3 := h.ft
  have h4 := h.tl
  omega
/-- What both sets have, asked so, is what two lists tell. -/
theorem only_meet {S T R : Nat → Nat} {a b k : List Int} (hS : Rep S a) (hT : Rep T b) (hR : Rep R k) (hb : b.Nodup) : onlyS (meetS S T) R = leakB k (meetR a b) := by
  rw [only_set (rep_meet hS hT) hR, meetR_eq hb]
  congr 1
  refine List.filter_congr (fun x _ => ?_)
  cases hasB b x <;> rfl

/-! Which of two lists come first. -/
/-- What is known when the befores from k on were gone through. -/
def SF (secret : List Int) (A B : List Kno) (k : Nat) (o : Option (List Int × List Int)) : Prop := PIn secret (-1) ((A.drop k).flatMap fun x => B.map fun y => (x, y)) o
theorem SF.start (secret : List Int) (A B : List Kno) : SF secret A B A.length none := by
  unfold SF
  rw [List.drop_length]
  exact ⟨fun _ c hc => by simp at hc, fun q hq => by cases hq⟩
theorem drop_mem {A B : List Kno} {k : Nat} {x : Kno} (hx : A[k]? = some x) (c : Kno × Kno) : (c ∈ (A.drop k).flatMap fun x => B.map fun y => (x, y)) ↔ (c.1 = x ∧ c.2 ∈ B) ∨ c ∈ (A.drop (k + 1)).flatMap fun x => B.map fun y => (x, y) := by
  obtain ⟨hk, e⟩ := List.getElem?_eq_some_iff.1 hx
  rw [mem_twos, mem_twos, List.drop_eq_getElem_cons hk, e, List.mem_cons]
  constructor
  · rintro ⟨h1 | h1, h2⟩
    · exact .inl ⟨h1, h2⟩
    · exact .inr ⟨h1, h2⟩
  · rintro (⟨h1, h2⟩ | ⟨h1, h2⟩)
    · exact ⟨.inl h1, h2⟩
    · exact ⟨.inr h1, h2⟩
section
variable {secret : List Int} {A B : List Kno} {k : Nat} {x : Kno} {o : Option (List Int × List Int)}
/-- None tells with it. -/
theorem SF.none (h : SF secret A B (k + 1) o) (hx : A[k]? = some x) (hn : ∀ y ∈ B, okP secret (-1) x y = false) : SF secret A B k o := by
  have key : ∀ c : Kno × Kno, (c ∈ (A.drop k).flatMap fun x => B.map fun y => (x, y)) → okP secret (-1) c.1 c.2 = true → c ∈ (A.drop (k + 1)).flatMap fun x => B.map fun y => (x, y) := fun c hc ho => by
    rcases (drop_mem hx c).1 hc with ⟨h1, h2⟩ | h1
    · rw [h1, hn _ h2] at ho; cases ho
    · exact h1
  refine ⟨fun ho c hc => ?_, fun q hq => ?_⟩
  · cases hk : okP secret (-1) c.1 c.2 with
    | false => rfl
    | true => rw [← hk]; exact h.1 ho c (key c hc hk)
  · obtain ⟨⟨c, c1, c2, c3⟩, h2⟩ := h.2 q hq
    exact ⟨⟨c, (drop_mem hx c).2 (.inr c1), c2, c3⟩, fun d hd hdk => h2 d (key d hd hdk) hdk⟩
theorem first_least (hB : B.Pairwise fun a b => lessB a.2 b.2 = true) {j : Nat} {y : Kno} (hy : B[j]? = some y) (hl : ∀ (i : Nat) (z : Kno), i < j → B[i]? = some z → okP secret (-1) x z = false) : ∀ z ∈ B, okP secret (-1) x z = true → pairB x.2 z.2 x.2 y.2 = false := fun z hz ho => by
  obtain ⟨i, hi⟩ := List.mem_iff_getElem?.1 hz
  rcases Nat.lt_trichotomy i j with h1 | h1 | h1
  · rw [hl i z h1 hi] at ho; cases ho
  · subst h1
    rw [hi] at hy
    have := Option.some.inj hy
    subst this; exact pairB_irrefl _ _
  · have l1 := List.getElem?_eq_some_iff.1 hi
    have l2 := List.getElem?_eq_some_iff.1 hy
    have hlt := List.pairwise_iff_getElem.1 hB j i l2.1 l1.1 h1
    rw [l1.2, l2.2] at hlt
    rcases pair_mono (leW_refl x.2) (.inr hlt : leW y.2 z.2) with ⟨-, e⟩ | h2
    · rw [e]; exact pairB_irrefl _ _
    · cases hh : pairB x.2 z.2 x.2 y.2 with
      | false => rfl
      | true =>
        have := pairB_trans h2 hh
        rw [pairB_irrefl] at this; cases this
/-- The first one that tells with it takes the place. -/
theorem SF.put (h : SF secret A B (k + 1) o) (hx : A[k]? = some x) (hB : B.Pairwise fun a b => lessB a.2 b.2 = true) (hA : A.Pairwise fun a b => lessB a.2 b.2 = true) {j : Nat} {y : Kno} (hy : B[j]? = some y) (ho : okP secret (-1) x y = true) (hl : ∀ (i : Nat) (z : Kno), i < j → B[i]? = some z → okP secret (-1) x z = false) (hc : ∀ q, o = some q → x.2.length + y.2.length < q.1.length + q.2.length ∨ (x.2.length + y.2.length = q.1.length + q.2.length ∧ y.2.length ≤ q.2.length)) : SF secret A B k (some (x.2, y.2)) := by
  have hf := first_least (x := x) hB hy hl
  refine ⟨fun h => (by cases h), fun q hq => ?_⟩
  have hq := Option.some.inj hq
  subst hq
  refine ⟨⟨(x, y), (drop_mem hx _).2 (.inl ⟨rfl, List.mem_of_getElem? hy⟩), ho, rfl⟩, fun d hd hdk => ?_⟩
  rcases (drop_mem hx d).1 hd with ⟨h1, h2⟩ | h1
  · rw [h1] at hdk ⊢
    exact hf _ h2 hdk
  · cases o with
    | none =>
      have := h.1 rfl d h1
      rw [this] at hdk; cases hdk
    | some q =>
      obtain ⟨⟨c, c1, c2, c3⟩, h2⟩ := h.2 q rfl
      have h3 := h2 d h1 hdk
      have hcc := (mem_twos.1 c1).1
      obtain ⟨i, hi⟩ := List.mem_iff_getElem?.1 hcc
      rw [List.getElem?_drop] at hi
      have l1 := List.getElem?_eq_some_iff.1 hx
      have l2 := List.getElem?_eq_some_iff.1 hi
      have hlt := List.pairwise_iff_getElem.1 hA k (k + 1 + i) l1.1 l2.1 (by omega)
      rw [l1.2, l2.2] at hlt
      have hp : pairB x.2 y.2 q.1 q.2 = true := by
        rw [pairB_iff]
        rcases hc q rfl with h4 | ⟨h4, h5⟩
        · exact .inl h4
        · rcases Nat.lt_or_ge y.2.length q.2.length with h6 | h6
          · exact .inr ⟨h4, .inl h6⟩
          · refine .inr ⟨h4, .inr ⟨by omega, .inl ?_⟩⟩
            rw [c3]; exact hlt
      cases hh : pairB d.1.2 d.2.2 x.2 y.2 with
      | false => rfl
      | true => rw [pairB_trans hh hp] at h3; cases h3
/-- Or it does not, where what is there comes first. -/
theorem SF.keep {q : List Int × List Int} (h : SF secret A B (k + 1) (some q)) (hx : A[k]? = some x) (hB : B.Pairwise fun a b => lessB a.2 b.2 = true) {j : Nat} {y : Kno} (hy : B[j]? = some y) (hl : ∀ (i : Nat) (z : Kno), i < j → B[i]? = some z → okP secret (-1) x z = false) (hc : ¬ (x.2.length + y.2.length < q.1.length + q.2.length ∨ (x.2.length + y.2.length = q.1.length + q.2.length ∧ y.2.length ≤ q.2.length))) : SF secret A B k (some q) := by
  have hf := first_least (x := x) hB hy hl
  refine ⟨fun h => (by cases h), fun q' hq => ?_⟩
  have hq := Option.some.inj hq
  subst hq
  obtain ⟨⟨c, c1, c2, c3⟩, h2⟩ := h.2 q rfl
  refine ⟨⟨c, (drop_mem hx c).2 (.inr c1), c2, c3⟩, fun d hd hdk => ?_⟩
  rcases (drop_mem hx d).1 hd with ⟨h1, h3⟩ | h1
  · rw [h1] at hdk ⊢
    have h4 := hf _ h3 hdk
    have hp : pairB q.1 q.2 x.2 y.2 = true := by
      rw [pairB_iff]
      rcases Nat.lt_trichotomy (q.1.length + q.2.length) (x.2.length + y.2.length) with h5 | h5 | h5
      · exact .inl h5
      · exact .inr ⟨h5, .inl (by omega)⟩
      · omega
    cases hh : pairB x.2 d.2.2 q.1 q.2 with
    | false => rfl
    | true => rw [pairB_trans hh hp] at h4; cases h4
  · exact h2 d h1 hdk
end
/-- Those whose lists are short enough. -/
structure UpTo (most : Int) (l l' : List (List Int × List Int)) : Prop where
  sub : l' <+: l
  short : 0 ≤ most → ∀ x ∈ l', (x.2.length : Int) ≤ most
  all : ∀ x ∈ l, (0 ≤ most → (x.2.length : Int) ≤ most) → x ∈ l'
theorem upTo_any {most : Int} (h : most < 0) (l : List (List Int × List Int)) : UpTo most l l := ⟨List.prefix_refl _, fun h0 => by omega, fun x hx _ => hx⟩
theorem upTo_none {most : Int} {l : List (List Int × List Int)} (h : ∀ x ∈ l, ¬ most < (x.2.length : Int)) : UpTo most l l := ⟨List.prefix_refl _, fun _ x hx => by have := h x hx; omega, fun x hx _ => hx⟩
theorem upTo_at {most : Int} (h0 : 0 ≤ most) {l : List (List Int × List Int)} (hi : l.Pairwise fun a b => lessB a.2 b.2 = true) {k : Nat} {x : List Int × List Int} (hx : l[k]? = some x) (hl : most < (x.2.length : Int)) (hn : ∀ (j : Nat) (y : List Int × List Int), j < k → l[j]? = some y → ¬ most < (y.2.length : Int)) : UpTo most l (l.take k) := by
  refine ⟨List.take_prefix _ _, fun _ y hy => ?_, fun y hy hs => ?_⟩
  · obtain ⟨j, hj⟩ := List.mem_iff_getElem?.1 hy
    have hjl := (List.getElem?_eq_some_iff.1 hj).1
    have hjk : j < k := by rw [List.length_take] at hjl; omega
    rw [List.getElem?_take_of_lt hjk] at hj
    have := hn j y hjk hj
    omega
  · obtain ⟨j, hj⟩ := List.mem_iff_getElem?.1 hy
    have hjk : j < k := by
      rcases Nat.lt_trichotomy j k with h1 | h1 | h1
      · exact h1
      · subst h1
        rw [hx] at hj
        have := Option.some.inj hj
        subst this
        have := hs h0; omega
      · have l1 := List.getElem?_eq_some_iff.1 hj
        have l2 := List.getElem?_eq_some_iff.1 hx
        have hlt := List.pairwise_iff_getElem.1 hi k j l2.1 l1.1 h1
        rw [l1.2, l2.2] at hlt
        have := lessB_len hlt
        have := hs h0; omega
    exact List.mem_of_getElem? (i := j) (by rw [List.getElem?_take_of_lt hjk]; exact hj)
theorem kn_inc {seen : List Int} (hi : Inc seen) {l : List (List Int × List Int)} (h : l.Pairwise fun a b => lessB a.2 b.2 = true) (hr : ∀ x ∈ l, ∀ c ∈ x.2, 0 ≤ c ∧ c < (seen.length : Int)) : (knL seen l).Pairwise fun a b => lessB a.2 b.2 = true := by
  unfold knL
  rw [List.pairwise_map]
  refine List.Pairwise.imp_of_mem ?_ h
  intro a b ha hb hab
  show lessB (wordS seen a.2) (wordS seen b.2) = true
  rw [lessB_word hi (hr a ha) (hr b hb)]; exact hab
theorem fwd_inc {p : Plant} (hp : mayP p = true) : (knL p.seen (fwdL p)).Pairwise fun a b => lessB a.2 b.2 = true := by
  obtain ⟨hm, z, -, -⟩ := (mayP_iff p).1 hp
  have hI := fwd_all hm z
  exact kn_inc (seen_inc hp) hI.inc (fun x hx => (hI.run x hx).2)
theorem orig_inc {p : Plant} (hp : mayP p = true) {most : Int} {l l' : List (List Int × List Int)} (h : Orig p l) (hu : UpTo most l l') : (knL p.seen l').Pairwise fun a b => lessB a.2 b.2 = true :=
  kn_inc (seen_inc hp) (h.inc.sublist hu.sub.sublist) (fun x hx => (h.run x (hu.sub.subset hx)).2)
/-- What first answers is what is asked for (K2). -/
theorem sf_out {p : Plant} (hp : mayP p = true) {most : Int} {l l' : List (List Int × List Int)} (h : Orig p l) (hu : UpTo most l l') {o : Option (List Int × List Int)} (hs : SF p.secret (knL p.seen (fwdL p)) (knL p.seen l') 0 o) : outS p most = o := by
  obtain ⟨hm, z, -, -⟩ := (mayP_iff p).1 hp
  have hi := seen_inc hp
  unfold SF at hs
  rw [List.drop_zero] at hs
  have bmem : ∀ y ∈ knL p.seen l', y.1 = onL p y.2 ∧ (∀ e ∈ y.2, e ∈ p.seen) ∧ (0 ≤ most → (y.2.length : Int) ≤ most) := fun y hy => by
    obtain ⟨q, hq, rfl⟩ := List.mem_map.1 hy
    have hr := h.run q (hu.sub.subset hq)
    exact ⟨by show q.1 = _; rw [hr.1, on_val hm], word_in hr.2, fun h0 => by show ((wordS p.seen q.2).length : Int) ≤ most; rw [wordS_len]; exact hu.short h0 q hq⟩
  have bcov : ∀ v : List Int, (∀ e ∈ v, e ∈ p.seen) → (0 ≤ most → (v.length : Int) ≤ most) → ∃ y ∈ knL p.seen l', y.1 = onL p v ∧ leW y.2 v := fun v hv hsh => by
    obtain ⟨q, hq, e1, e2⟩ := h.cov (idxS p.seen v) (idx_in hv)
    have hr := h.run q hq
    have e3 := leW_word hi hr.2 (idx_in hv) e2
    rw [word_idx hv] at e3
    have hql : q ∈ l' := hu.all q hq (fun h0 => by
      have := leW_len e3
      rw [wordS_len] at this
      have := hsh h0; omega)
    exact ⟨(q.1, wordS p.seen q.2), List.mem_map.2 ⟨q, hql, rfl⟩, by show q.1 = _; rw [e1, on_val hm, word_idx hv], e3⟩
  have any1 : (0 : Int) ≤ -1 → False := by omega
  cases o with
  | none =>
    refine outS_no hp (fun w v hw hv hsh => ?_)
    obtain ⟨x, hx, x1, x2⟩ := fwd_cov hp hw
    obtain ⟨y, hy, y1, y2⟩ := bcov v hv hsh
    have h1 := hs.1 rfl (x, y) (mem_twos.2 ⟨hx, hy⟩)
    cases hl : leakB p.secret (wasL p w v) with
    | false => rfl
    | true =>
      rw [(okP_iff hp (most := -1) x1 y1).2 ⟨fun h0 => absurd h0 (fun h => any1 h), hl⟩] at h1
      cases h1
  | some q =>
    obtain ⟨⟨⟨x, y⟩, c1, c2, c3⟩, h2⟩ := hs.2 q rfl
    obtain ⟨hx, hy⟩ := mem_twos.1 c1
    dsimp only at hx hy c2 c3
    obtain ⟨x1, x2, -⟩ := fwd_mem hp hx
    obtain ⟨y1, y2, y3⟩ := bmem y hy
    subst c3
    refine outS_is hp x2 y2 y3 ((okP_iff hp (most := -1) x1 y1).1 c2).2 (fun w' v' hw hv hsh hl => ?_)
    obtain ⟨x', hx', x1', x2'⟩ := fwd_cov hp hw
    obtain ⟨y', hy', y1', y2'⟩ := bcov v' hv hsh
    exact pair_le x2' y2' (h2 (x', y') (mem_twos.2 ⟨hx', hy'⟩) ((okP_iff hp (most := -1) x1' y1').2 ⟨fun h0 => absurd h0 (fun h => any1 h), hl⟩))

/-! Where it was, by where it began. -/
/-- The plant that begins where a list leads. -/
def atP (p : Plant) (before : List Int) : Plant := { p with m := { p.m with starts := estL p before } }
theorem may_at {p : Plant} (hp : mayP p = true) (before : List Int) : mayP (atP p before) = true := by
  obtain ⟨hm, z, h1, h2⟩ := (mayP_iff p).1 hp
  have hz := mayB_size hm
  unfold sizeOk at hz
  have he := est_in hm before
  have hr : rowB p.m.st (estL p before) = true := (rowB_iff _ (by omega) _).2 ⟨he.1, he.2⟩
  refine (mayP_iff _).2 ⟨?_, z, h1, h2⟩
  unfold mayB at hm ⊢
  simp only [Bool.and_eq_true] at hm ⊢
  exact ⟨hm.1, hr, hm.2.2⟩
theorem was_at {p : Plant} (hp : mayP p = true) (before behind : List Int) : beganL (atP p before) behind = wasL p before behind := rfl

end Go.Proofs.YtmlkpdeidpcidaaDoor
