/-
  The walk of initial.Began.
  The walks of what the laws on plants lean on: jalousielaw.seen, all, best; jalousiekeep.tells.
  The walk of jalousieref9.into.
  What the walk of jalousieref9.Backward knows of the memory.
  Plain: one event more ahead, case by case.
-/
import Derived.Test.YtmlkpdeidpcidaaDoorH27
import Derived.Test.YtmlkpdeidpcidaaDoorH30
import Derived.Test.YtmlkpdeidpcidaaDoorDIWat
import Derived.Test.YtmlkpdeidpcidaaDoorH28
import Derived.Test.YtmlkpdeidpcidaaDoorH15
import Derived.Test.YtmlkpdeidpcidaaDoorH07
namespace Go.Proofs.YtmlkpdeidpcidaaDoor
open Go.RowKit Go.Shelf
set_option linter.unusedVariables false
attribute [local go_sem] Oper.semAt_some

/-- Going back from a set, number by number. -/
def bkS (p : Plant) (S0 : Nat → Nat) (vs : List Int) : Nat → Nat := vs.foldl (fun S v => backS p S v.toNat) S0
theorem bkS_snoc (p : Plant) (S0 : Nat → Nat) (vs : List Int) (v : Int) : bkS p S0 (vs ++ [v]) = backS p (bkS p S0 vs) v.toNat := by simp [bkS, List.foldl_append]
theorem on_bd {p : Plant} (hm : mayB p.m = true) (u : List Int) : ∀ x ∈ onL p u, 0 ≤ x ∧ x < p.m.st := fun x hx => by
  have hz := mayB_size hm
  unfold sizeOk at hz
  have := ((mem_on _ _ _).1 hx).1; omega
theorem rep_bk {p : Plant} (hp : mayP p = true) {S0 : Nat → Nat} (h0 : RepI S0 (rngI p.m.st.toNat)) : ∀ (us : List Int), (∀ v ∈ us, v ∈ p.seen) → RepI (bkS p S0 us.reverse) (onL p us)
  | [], _ => by
    rw [on_nil ((mayP_iff p).1 hp).1]; exact h0
  | v :: r, h => by
    have hm := ((mayP_iff p).1 hp).1
    have ih := rep_bk hp h0 r (fun x hx => h x (by simp [hx]))
    rw [List.reverse_cons, bkS_snoc, on_cons hm]
    obtain ⟨k, hk, e1⟩ := List.getElem_of_mem (h v (by simp))
    have := rep_back hp ih.1 (on_bd hm r) hk
    unfold opB at this
    rw [List.getElem?_eq_getElem hk, Option.getD_some, e1] at this
    exact this
theorem on_empty {p : Plant} (hm : mayB p.m = true) {u : List Int} (h : onL p u = []) : ∀ t : List Int, onL p (t ++ u) = []
  | [] => h
  | v :: r => by
    rw [List.cons_append, on_cons hm, on_empty hm h r, List.eq_nil_iff_forall_not_mem]
    intro x hx
    obtain ⟨-, t, -, ht⟩ := (mem_into _ _ _ _).1 hx
    cases ht
def seVals {seen : List Int} (pre : List (SE seen)) : List Int := pre.map fun x => x.1.2
theorem seVals_snoc {seen : List Int} (pre : List (SE seen)) (x : SE seen) : seVals (pre ++ [x]) = seVals pre ++ [x.1.2] := by simp [seVals]
theorem seVals_in {seen : List Int} (pre : List (SE seen)) : ∀ v ∈ (seVals pre).reverse, v ∈ seen := fun v hv => by
  rw [List.mem_reverse] at hv
  obtain ⟨x, -, rfl⟩ := List.mem_map.1 hv
  exact x.2
theorem rep_pre {p : Plant} (hp : mayP p = true) {S0 : Nat → Nat} (h0 : RepI S0 (rngI p.m.st.toNat)) (pre : List (SE p.seen)) : RepI (bkS p S0 (seVals pre)) (onL p (seVals pre).reverse) := by
  have := rep_bk hp h0 (seVals pre).reverse (seVals_in pre)
  rwa [List.reverse_reverse] at this
theorem rep_empty {S : Nat → Nat} {l : List Int} (h : Rep S l) (he : emptyB S = true) : l = [] := by
  rw [List.eq_nil_iff_forall_not_mem]
  intro x hx
  obtain ⟨b0, b1⟩ := h.bd x hx
  have h1 := empty_has he x.toNat (by omega)
  rw [(h.mem x.toNat (by omega)).2 (by rwa [Int.toNat_of_nonneg b0])] at h1
  cases h1

set_option maxRecDepth 100000 in
set_option maxHeartbeats 400000 in
theorem ibackward_any (a : Option Addr) (n c : Nat) (w : World) :
    Calls Tryd.prog 85 #[.slice a n c] w fun e w' => e = .returned (.func (.func 136) #[] #[.pointer (some ⟨w.heap.size, 0, none⟩)]) ∧ w' = w.alloc (.cells #[.slice a n c] 22) := by
  have hmf : ∀ (fn : Fn) (first cap : Array Value) (w : World), (Instr.makeFunc fn first cap).run Tryd.prog w = .ok (.func fn first cap) w := fun _ _ _ _ => rfl
  go_enter Tryd.func85, Tryd.ntmps85
  go_wp2_with fail
  go_ret
  exact ⟨rfl, rfl⟩

set_option maxRecDepth 100000 in
set_option maxHeartbeats 4000000 in
theorem began_bad (p : Plant) (P : PTL) (wa : Option Addr) (wc : Nat) (word : List Int) (w : World) (h : Hid (PAt w p P)) (hp : Hid (mayP p = false)) :
    Calls Tryd.prog 37 #[ptval p P, .slice wa word.length wc] w fun e w' => ListPost w (begOut p word) e w' := by
  have B : Hid (Below w.heap.size w (w.alloc (.cells (ptcells p P) 44))) := (Below.refl _ _).alloc (Nat.le_refl _) _
  have KP : Hid (Blk (w.alloc (.cells (ptcells p P) 44)) w.heap.size 44 (ptcells p P)) := Blk.new w _ _
  go_enter Tryd.func37, Tryd.ntmps37
  obtain ⟨x0, x1, x2, x3, x4, x5, x6⟩ := ptcell_at KP.out
  go_wp2_with fail
  clear x0 x1 x2 x3 x4 x5 x6
  revert B KP
  generalize (w.alloc (.cells (ptcells p P) 44)) = V0
  intro B KP
  refine (iwatch_bad p P V0 (Hid.of (h.out.below B.out (Nat.le_refl _))) hp).mono ?_
  rintro e V1 ⟨rfl, hb⟩
  replace B := Hid.of (B.out.trans (hb.mono B.out.size))
  clear hb KP
  have B2 : Hid (Below w.heap.size w (V1.alloc (.cells #[.nilFunc] 108))) := B.out.alloc B.out.size _
  clear B
  go_wp2_with fail
  refine bodyPost_ret (v := .tuple #[.slice none 0 0, .int .i64 2]) (by simp [results, go_sem]) rfl ?_
  rw [begOut_bad hp.out]
  exact ⟨none, 0, rfl, .inl rfl, Nat.zero_le _, B2.out⟩

set_option maxRecDepth 100000 in
set_option maxHeartbeats 16000000 in
theorem began_in (p : Plant) (Pl : ML) (sa : Option Addr) (sc : Nat) (ta : Option Addr) (tc : Nat) (wa : Option Addr) (wc : Nat) (word : List Int) (w : World) (h : Hid (PAt w p ⟨Pl, sa, sc, ta, tc⟩)) (hw : Hid (At w wa word)) (hwl : Hid (word.length ≤ maxLen)) (hT : Hid (Tab w)) (hp : Hid (mayP p = true)) :
    CallsIn Fence.wide 5 Tryd.prog 37 #[ptval p ⟨Pl, sa, sc, ta, tc⟩, .slice wa word.length wc] w fun e w' => ListPost w (begOut p word) e w' := by
  have hmP := (mayP_iff p).1 hp.out
  have hz := mayB_size hmP.1
  unfold sizeOk at hz
  have hMM := Hid.of hmP.1
  have hz6 := Hid.of hmP.2.1
  obtain ⟨N, hN⟩ : ∃ N : Nat, Hid (p.m.st = (N : Int)) := ⟨p.m.st.toNat, by show _ = _; omega⟩
  have hN6 : N ≤ 6 := by have h1 := hN.out; have h2 := hmP.2.1; omega
  have HNT : Hid (p.m.st.toNat = N) := by show _ = _; rw [hN.out]; simp
  have HSB : Hid (∀ v ∈ p.seen, 0 ≤ v ∧ v < 8) := fun v hv => by
    have := ((rowB_iff _ (by omega) _).1 hmP.2.2.1).2 v hv
    omega
  obtain ⟨T0, HT0⟩ : ∃ T, Hid (T = ofS p.m.starts) := ⟨_, rfl⟩
  have oT : Hid (okS T0) := by
    have r1 := rep_of (l := p.m.starts) (fun x hx => by have := (may_starts hmP.1).2 x hx; omega) p.m.starts.length
    rw [List.take_of_length_le (Nat.le_refl _)] at r1
    show okS T0
    rw [HT0.out]; exact r1.ok
  have OF1 : Hid (∀ Y, Below w.heap.size w Y → Calls Tryd.prog 59 #[.slice Pl.a1 p.m.starts.length Pl.c1] Y fun e Y' => e = .returned (sval T0) ∧ Below Y.heap.size Y Y') := fun Y hb => by
    rw [HT0.out]
    exact of_any Pl.a1 Pl.c1 p.m.starts Y (h.out.m.s.below hb (Nat.le_refl _)) (Nat.le_trans h.out.m.s1 h.out.m.s2) (fun x hx => by have := (may_starts hmP.1).2 x hx; omega)
  clear hmP hz
  refine callsIn_of_wp_marks Tryd.func37 rfl trivial ?_ rfl
  simp only [Tryd.ntmps37, List.size_toArray, List.length_cons, List.length_nil, Nat.reduceAdd, Nat.reduceSub, Array.replicate_succ, Array.replicate_zero, List.push_toArray, List.append_toArray, List.nil_append, List.cons_append]
  refine wpIn_wide.2 ?_
  have B : Hid (Below w.heap.size w (w.alloc (.cells (ptcells p ⟨Pl, sa, sc, ta, tc⟩) 44))) := (Below.refl _ _).alloc (Nat.le_refl _) _
  have KP : Hid (Blk (w.alloc (.cells (ptcells p ⟨Pl, sa, sc, ta, tc⟩) 44)) w.heap.size 44 (ptcells p ⟨Pl, sa, sc, ta, tc⟩)) := Blk.new w _ _
  obtain ⟨x0, x1, x2, x3, x4, x5, x6⟩ := ptcell_at KP.out
  go_wp2_with fail
  clear x0 x1 x2 x3 x4 x5 x6
  revert B KP
  generalize (w.alloc (.cells (ptcells p ⟨Pl, sa, sc, ta, tc⟩) 44)) = V0
  intro B KP
  refine (iwatch_ok p Pl sa sc ta tc V0 (Hid.of (h.out.below B.out (Nat.le_refl _))) (Hid.of (hT.out.below B.out hT.out.lt)) hp).mono ?_
  rintro e V1 ⟨pa, rfl, ti, hb⟩
  replace B := Hid.of (B.out.trans (hb.mono B.out.size))
  replace KP := Hid.of (KP.out.below hb KP.out.lt)
  clear hb
  have hb : Below V1.heap.size V1 (V1.alloc (.cells #[backV pa] 108)) := (Below.refl _ _).alloc (Nat.le_refl _) _
  replace B := Hid.of (B.out.trans (hb.mono B.out.size))
  replace KP := Hid.of (KP.out.below hb KP.out.lt)
  have TIa := Hid.of (ti.below hb ti.lt)
  have KF := Hid.of (Blk.new V1 108 #[backV pa])
  clear hb ti
  obtain ⟨x0, x1, x2, x3, x4, x5, x6⟩ := ptcell_at KP.out
  go_wp2_with fail
  clear x0 x1 x2 x3 x4 x5 x6
  revert B KP TIa KF
  generalize V1.alloc (.cells #[backV pa] 108) = V2
  generalize V1.heap.size = pf
  intro B KP TIa KF
  refine (cisSeen_any p ⟨Pl, sa, sc, ta, tc⟩ wa wc word V2 (Hid.of (h.out.below B.out (Nat.le_refl _))) (Hid.of (hw.out.below B.out (Nat.le_refl _))) hwl).mono ?_
  rintro e V3 ⟨rfl, hb⟩
  rw [allIn_eq]
  replace B := Hid.of (B.out.trans (hb.mono B.out.size))
  replace KP := Hid.of (KP.out.below hb KP.out.lt)
  replace TIa := Hid.of (TIa.out.below hb TIa.out.lt)
  replace KF := Hid.of (KF.out.below hb KF.out.lt)
  clear hb
  cases hin : inSeen p.seen word with
  | false =>
    have HO : Hid (begOut p word = ([], 6)) := begOut_out hp.out hin
    clear hin
    go_wp2_with fail
    refine ⟨.tuple #[.slice none 0 0, .int .i64 6], by simp [results, go_sem], ?_⟩
    rw [HO.out]
    exact ⟨none, 0, rfl, .inl rfl, Nat.zero_le _, B.out⟩
  | true =>
    have HIN : Hid (∀ e ∈ word, e ∈ p.seen) := (inSeen_iff _ _).1 hin
    replace hin := Hid.of hin
    obtain ⟨x0, x1, x2, x3, x4, x5, x6⟩ := ptcell_at KP.out
    go_wp2_with fail
    clear x0 x1 x2 x3 x4 x5 x6
    refine (iall_any p ⟨Pl, sa, sc, ta, tc⟩ N hN (by omega) V3).mono ?_
    rintro e V4 ⟨rfl, hb⟩
    replace B := Hid.of (B.out.trans (hb.mono B.out.size))
    replace KP := Hid.of (KP.out.below hb KP.out.lt)
    replace TIa := Hid.of (TIa.out.below hb TIa.out.lt)
    replace KF := Hid.of (KF.out.below hb KF.out.lt)
    clear hb
    obtain ⟨S0, HS0⟩ : ∃ S0, Hid (S0 = allF N) := ⟨_, rfl⟩
    have HR0 : Hid (RepI S0 (rngI p.m.st.toNat)) := by show RepI _ _; rw [HS0.out, HNT.out]; exact rep_all (by omega)
    rw [← HS0.out]
    have A1 : Hid (V4.heap.size ≤ V4.heap.size) := Nat.le_refl _
    have hb : Below V4.heap.size V4 (V4.alloc (.cells (scells S0) 85)) := (Below.refl _ _).alloc (Nat.le_refl _) _
    have hpP : Hid (w.heap.size < V4.heap.size) := KP.out.lt
    have hpF : Hid (pf < V4.heap.size) := KF.out.lt
    have hpT : Hid (pa < V4.heap.size) := TIa.out.lt
    have B5 := Hid.of B.out
    replace B := Hid.of (B.out.trans (hb.mono B.out.size))
    replace KP := Hid.of (KP.out.below hb KP.out.lt)
    replace TIa := Hid.of (TIa.out.below hb TIa.out.lt)
    replace KF := Hid.of (KF.out.below hb KF.out.lt)
    have KS : Hid (SB (V4.alloc (.cells (scells S0) 85)) V4.heap.size S0) := Blk.new V4 _ _
    clear hb
    go_wp2_with fail
    have hpsZ : Hid (V4.heap.size < (V4.alloc (.cells (scells S0) 85)).heap.size) := KS.out.lt
    have hwA : Hid (word = [] ∨ ∃ b off, wa = some ⟨b, off, none⟩ ∧ b < V4.heap.size ∧ Cells (V4.alloc (.cells (scells S0) 85)) b off word) := by
      rcases hw.out with h0 | ⟨b, off, h1, h2, h3⟩
      · exact .inl h0
      · exact .inr ⟨b, off, h1, Nat.lt_trans h2 hpP.out, fun j hj => (B.out.cell (p := ⟨b, off + j, none⟩) h2).trans (h3 j hj)⟩
    clear B5 A1
    revert hpP hpF hpT B KP TIa KF KS hpsZ hwA
    generalize V4.alloc (.cells (scells S0) 85) = V5
    generalize V4.heap.size = ps
    intro hpP hpF hpT B KP TIa KF KS hpsZ hwA
    refine (ibackward_any wa word.length wc V5).mono ?_
    rintro e V6 ⟨rfl, rfl⟩
    have hb : Below V5.heap.size V5 (V5.alloc (.cells #[.slice wa word.length wc] 22)) := (Below.refl _ _).alloc (Nat.le_refl _) _
    have BX : Hid (Boxed (V5.alloc (.cells #[.slice wa word.length wc] 22)) V5.heap.size 22 (.slice wa word.length wc)) := Boxed.new V5 _ _
    have hz0 : Hid (V5.heap.size < (V5.alloc (.cells #[.slice wa word.length wc] 22)).heap.size) := BX.out.lt
    have BW0 := Hid.of (B.out.trans (hb.mono B.out.size))
    replace KP := Hid.of (KP.out.below hb KP.out.lt)
    replace TIa := Hid.of (TIa.out.below hb TIa.out.lt)
    replace KF := Hid.of (KF.out.below hb KF.out.lt)
    replace KS := Hid.of (KS.out.below hb KS.out.lt)
    replace hwA : Hid (word = [] ∨ ∃ b off, wa = some ⟨b, off, none⟩ ∧ b < ps ∧ Cells (V5.alloc (.cells #[.slice wa word.length wc] 22)) b off word) := by
      rcases hwA.out with h0 | ⟨b, off, h1, h2, h3⟩
      · exact .inl h0
      · exact .inr ⟨b, off, h1, h2, fun j hj => (hb.cell (p := ⟨b, off + j, none⟩) (Nat.lt_trans h2 hpsZ.out)).trans (h3 j hj)⟩
    clear hb B
    go_wp2_with fail
    revert hpsZ BX hz0 BW0 KP TIa KF KS hwA
    generalize V5.alloc (.cells #[.slice wa word.length wc] 22) = W0
    generalize V5.heap.size = Bn
    intro hpsZ BX hz0 BW0 KP TIa KF KS hwA
    have hpsP : Hid (w.heap.size ≤ ps) := Nat.le_of_lt hpP.out
    obtain ⟨xs, hxs⟩ := se_of (seen := p.seen) (rvK word word.length) (rvK_in HIN.out _ (Nat.le_refl _))
    have hps0 := hpsZ.out
    have hbn0 := hz0.out
    have heq : ∀ (S : Nat → Nat) (w : World), (Op.equalIn 10000 85 (.agg #[.int .u64 (S 0), .int .u64 (S 1), .int .u64 (S 2), .int .u64 (S 3)]) (.agg #[.int .u64 0, .int .u64 0, .int .u64 0, .int .u64 0])).run Tryd.prog w = .ok (emptyB S) w := run_equalIn_set
    have hgd := run_guard_set
    refine (wpIn_wide (n := 5)).1 ?_
    refine wpIn_rangeFunc_ownG rfl (by omega) (gf := 136) (lb := #[.pointer (some ⟨Bn, 0, none⟩)]) rfl trivial (enters_of Tryd.func136 (by kernel_rfl) rfl)
      (bkw_stops 4 (by omega) Bn ps wa wc word hwl.out xs hxs W0 BX.out (by omega) hwA.out) KpB.trans (KpB.put (by omega) hbn0) (Below.refl _ _) (fun _ => rfl)
      (fun pre W' => SB W' ps (bkS p S0 (seVals pre)) ∧ Boxed W' Bn 22 (.slice wa word.length wc) ∧ Below ps W0 W')
      (fun c pre W' => (c = .exit 0 ∧ emptyB (bkS p S0 (seVals pre.dropLast)) = true) ∧ SB W' ps (bkS p S0 (seVals pre.dropLast)) ∧ Boxed W' Bn 22 (.slice wa word.length wc) ∧ Below ps W0 W')
      (OwnFrom.and (Go.Own.from (own_SB ps (fun pre : List (SE p.seen) => bkS p S0 (seVals pre))) _) (OwnFrom.and (Go.Own.from (boxed_own Bn 22 (fun _ => .slice wa word.length wc)) _) (ownFrom_below (by omega) (by omega))))
      (fun c => OwnFrom.and (ownFrom_pure _ (fun pre : List (SE p.seen) => c = .exit 0 ∧ emptyB (bkS p S0 (seVals pre.dropLast)) = true)) (OwnFrom.and (Go.Own.from (own_SB ps (fun pre : List (SE p.seen) => bkS p S0 (seVals pre.dropLast))) _) (OwnFrom.and (Go.Own.from (boxed_own Bn 22 (fun _ => .slice wa word.length wc)) _) (ownFrom_below (by omega) (by omega)))))
      ⟨KS.out, BX.out, Below.refl _ _⟩
      (fun x => { tmps := #[ptval p ⟨Pl, sa, sc, ta, tc⟩, .slice wa word.length wc, .pointer (some ⟨w.heap.size, 0, none⟩), undef, .slice none 0 0, .int .i64 0, .pointer (some ⟨pf, 0, none⟩), .int .i64 0, .pointer (some ⟨ps, 0, none⟩), undef, .int .i64 x.1.2, .tuple #[backV pa, .int .i64 0], .agg #[.int .i64 p.m.st, .int .i64 p.m.ev, .slice Pl.a1 p.m.starts.length Pl.c1, .slice Pl.a2 p.m.arrows.length Pl.c2, .slice Pl.a3 p.m.ends.length Pl.c3, .slice sa p.seen.length sc, .slice ta p.secret.length tc], .tuple #[backV pa, .int .i64 0], backV pa, .int .i64 0, .int .i64 0, .bool false, undef, .agg #[.int .i64 p.m.st, .int .i64 p.m.ev, .slice Pl.a1 p.m.starts.length Pl.c1, .slice Pl.a2 p.m.arrows.length Pl.c2, .slice Pl.a3 p.m.ends.length Pl.c3, .slice sa p.seen.length sc, .slice ta p.secret.length tc], .slice wa word.length wc, .bool true, .bool false, .agg #[.int .i64 p.m.st, .int .i64 p.m.ev, .slice Pl.a1 p.m.starts.length Pl.c1, .slice Pl.a2 p.m.arrows.length Pl.c2, .slice Pl.a3 p.m.ends.length Pl.c3, .slice sa p.seen.length sc, .slice ta p.secret.length tc], sval S0, .slice wa word.length wc, .func (.func 136) #[] #[.pointer (some ⟨Bn, 0, none⟩)], .int .i64 x.1.1, .int .i64 x.1.2, undef, undef, undef, undef, undef, undef, undef, undef, undef, undef, undef, undef, undef, undef], defers := [] }) ?assign ?body ?done ?stop
    case assign =>
      intro l x W K hK
      gi_wp2
      exact hK
    case body =>
      rintro l' pre x W' ⟨hO, hBx, hB'⟩ hlt
      have hRep := Hid.of (rep_pre hp.out HR0.out pre)
      have hx := HSB.out x.1.2 x.2
      obtain ⟨se, HSE⟩ : ∃ se : Nat, Hid (x.1.2 = (se : Int)) := ⟨x.1.2.toNat, by show _ = _; omega⟩
      have hse8 : se < 8 := by have := HSE.out; omega
      have HX : Hid (bkS p S0 (seVals (pre ++ [x])) = toF (fun n => baT p (se * 6 + n)) (allS (bkS p S0 (seVals pre)))) := by
        show _ = _
        rw [seVals_snoc, bkS_snoc, HSE.out, Int.toNat_natCast]; rfl
      have HD : Hid ((pre ++ [x]).dropLast = pre) := by show _ = _; simp
      have hFW := KF.out.below hB' hpF.out
      have c1 : W'.cell? ⟨pf, 0, none⟩ = some (backV pa) := hFW.cell 0 rfl
      have hTW := Hid.of (TIa.out.below hB' hpT.out)
      have HALL : Hid (∀ k ∈ allS (bkS p S0 (seVals pre)), k < 6) := fun k hk => by
        obtain ⟨h1, h2⟩ := (mem_allS _ k).1 hk
        have := on_bd hMM.out _ _ ((hRep.out.1.mem k h1).1 h2)
        have h6 := hz6.out
        omega
      have oQ := Hid.of hRep.out.1.ok
      have HTW := Hid.of (hT.out.below (BW0.out.trans (hB'.mono hpsP.out)) hT.out.lt)
      rw [HSE.out]
      clear hx
      have HB := Hid.of hB'
      have HO := Hid.of hO
      have HBX := Hid.of hBx
      clear hB' hO hBx hFW hRep
      obtain ⟨O, HOE⟩ : ∃ O, Hid (O = bkS p S0 (seVals pre)) := ⟨_, rfl⟩
      rw [← HOE.out] at HO HX HALL oQ
      obtain ⟨o0, o1, o2, o3⟩ := HO.out.cells
      have fO := HO.out.frozen
      cases hE : emptyB O with
      | true =>
        have he2 := heq O W'
        rw [hE] at he2
        clear heq
        gi_wp2
        exact ⟨(KeepsOthers.refl _).from _, ⟨rfl, by rw [HD.out, ← HOE.out]; exact hE⟩, by rw [HD.out, ← HOE.out]; exact HO.out, HBX.out, HB.out⟩
      | false =>
        have he2 := heq O W'
        rw [hE] at he2
        clear heq hE
        have hcall := Hid.of (iwatch1_any O oQ.out se hse8 (baT p) (fun _ => okS_tabK _ _ _ _) HALL.out pa W' HTW.out hTW.out)
        obtain ⟨U, HU⟩ : ∃ U, Hid (U = toF (fun n => baT p (se * 6 + n)) (allS O)) := ⟨_, rfl⟩
        rw [← HU.out] at hcall HX
        gi_wp2_with (refine ⟨trivial, ?_⟩; refine CallsIn.mono (CallsIn.inRound l' (callsIn_wide.2 hcall.out)) ?_; rintro e' w1 ⟨rfl, hb1⟩; have hO1 := Blk.below HO.out hb1 HO.out.lt; obtain ⟨y0, y1, y2, y3⟩ := SB.cells hO1; have fO1 := Blk.frozen hO1)
        have k1 : KeepsOthers W' w1 := ⟨hb1.size, fun k o hk _ => (hb1.block k (Array.getElem?_eq_some_iff.1 hk).1).trans hk⟩
        have k2 : Below ps W' w1 := hb1.mono (Nat.le_of_lt HO.out.lt)
        have k3 := below_set4 k2 (b' := ps) (Nat.le_refl _) (.int .u64 (U 0)) (.int .u64 (U 1)) (.int .u64 (U 2)) (.int .u64 (U 3))
        have k4 := Blk.other4 (Blk.below HBX.out hb1 HBX.out.lt) (b' := ps) (by omega) (.int .u64 (U 0)) (.int .u64 (U 1)) (.int .u64 (U 2)) (.int .u64 (U 3))
        exact ⟨((((k1.trans (KeepsOthers.setCell _ _ _)).trans (KeepsOthers.setCell _ _ _)).trans (KeepsOthers.setCell _ _ _)).trans (KeepsOthers.setCell _ _ _)).from _, ⟨k3, k4.trans HBX.out.symm⟩, by rw [HX.out]; exact SB.set4 hO1 _, k4, HB.out.trans k3⟩
    case done =>
      rintro D ys W' hD rfl ⟨hO, hBx, hB'⟩ hK
      have HRQ : Hid (RepI (bkS p S0 (seVals ys)) (onL p word)) := by
        have := rep_pre hp.out HR0.out ys
        have e1 : (seVals ys).reverse = word := by
          have h1 := rvK_take word word.length (Nat.le_refl _)
          rw [← hxs, List.map_map, List.take_of_length_le (Nat.le_refl _)] at h1
          exact h1
        rw [e1] at this
        exact this
      obtain ⟨Q, HQ⟩ : ∃ Q, Hid (Q = bkS p S0 (seVals ys)) := ⟨_, rfl⟩
      rw [← HQ.out] at HRQ hO
      have oQ := Hid.of HRQ.out.1.ok
      clear hxs
      have hMk : Hid (Marks w.heap.size [D] W') := by
        refine ⟨fun D' hD' => ?_, by simp⟩
        have e : D' = D := by simpa using hD'
        rw [e]
        exact ⟨Nat.le_trans BW0.out.size hD, hK⟩
      have BL := Hid.of (BW0.out.trans (hB'.mono hpsP.out))
      have KP1 := Hid.of (KP.out.below hB' (Nat.lt_of_lt_of_le hpP.out (Nat.le_refl _)))
      have KS1 := Hid.of hO
      have SA : Hid (∀ W, SB W ps Q → Blk W w.heap.size 44 (ptcells p ⟨Pl, sa, sc, ta, tc⟩) → W.cell? ⟨ps, 0, none⟩ = some (.int .u64 (Q 0)) ∧ W.cell? ⟨ps, 1, none⟩ = some (.int .u64 (Q 1)) ∧ W.cell? ⟨ps, 2, none⟩ = some (.int .u64 (Q 2)) ∧ W.cell? ⟨ps, 3, none⟩ = some (.int .u64 (Q 3)) ∧ W.cell? ⟨w.heap.size, 2, none⟩ = some (.slice Pl.a1 p.m.starts.length Pl.c1)) := fun W h1 h2 => by
        obtain ⟨x0, x1, x2, x3⟩ := SB.cells h1
        exact ⟨x0, x1, x2, x3, h2.cell 2 rfl⟩
      clear hO hB' hK hBx
      go_wp2_with fail
      refine Code.wp_mono (Q := regQ fun a' X => ∃ (va : Option Addr) (vc : Nat) (r36 r37 r38 r39 r40 r41 r42 : Value), a' = { tmps := #[ptval p ⟨Pl, sa, sc, ta, tc⟩, .slice wa word.length wc, .pointer (some ⟨w.heap.size, 0, none⟩), undef, .slice va (rowS (meetS Q T0)).length vc, .int .i64 0, .pointer (some ⟨pf, 0, none⟩), .int .i64 0, .pointer (some ⟨ps, 0, none⟩), undef, undef, .tuple #[backV pa, .int .i64 0], .agg #[.int .i64 p.m.st, .int .i64 p.m.ev, .slice Pl.a1 p.m.starts.length Pl.c1, .slice Pl.a2 p.m.arrows.length Pl.c2, .slice Pl.a3 p.m.ends.length Pl.c3, .slice sa p.seen.length sc, .slice ta p.secret.length tc], .tuple #[backV pa, .int .i64 0], backV pa, .int .i64 0, .int .i64 0, .bool false, undef, .agg #[.int .i64 p.m.st, .int .i64 p.m.ev, .slice Pl.a1 p.m.starts.length Pl.c1, .slice Pl.a2 p.m.arrows.length Pl.c2, .slice Pl.a3 p.m.ends.length Pl.c3, .slice sa p.seen.length sc, .slice ta p.secret.length tc], .slice wa word.length wc, .bool true, .bool false, .agg #[.int .i64 p.m.st, .int .i64 p.m.ev, .slice Pl.a1 p.m.starts.length Pl.c1, .slice Pl.a2 p.m.arrows.length Pl.c2, .slice Pl.a3 p.m.ends.length Pl.c3, .slice sa p.seen.length sc, .slice ta p.secret.length tc], sval S0, .slice wa word.length wc, .func (.func 136) #[] #[.pointer (some ⟨Bn, 0, none⟩)], undef, undef, undef, undef, undef, undef, undef, undef, undef, r36, r37, r38, r39, r40, r41, r42], defers := [mark D] } ∧ Own X w.heap.size (.slice va (rowS (meetS Q T0)).length vc) (rowS (meetS Q T0)) ∧ Marks w.heap.size [D] X ∧ Below w.heap.size w X) ?_ ?_
      rotate_left
      refine wp_region_held_drew (S := fun w' => w'.cell? ⟨ps, 0, none⟩ = some (.int .u64 (Q 0)) ∧ w'.cell? ⟨ps, 1, none⟩ = some (.int .u64 (Q 1)) ∧ w'.cell? ⟨ps, 2, none⟩ = some (.int .u64 (Q 2)) ∧ w'.cell? ⟨ps, 3, none⟩ = some (.int .u64 (Q 3)) ∧ w'.cell? ⟨w.heap.size, 2, none⟩ = some (.slice Pl.a1 p.m.starts.length Pl.c1)) (by kernel_rfl) (SA.out _ (Blk.drew KS1.out) (Blk.drew KP1.out)) (fun hS => ?_)
      refine wpAnyH_take (i := 0) (v := sval Q) rfl (by kernel_rfl) (by kernel_rfl) (by kernel_rfl) (fun _ _ _ h => h) (Or.inl ⟨by kernel_rfl, fun w' hw' => by obtain ⟨q0, q1, q2, q3, q4⟩ := hw'; go_simp⟩) hS ?_
      refine wpAnyH_take (i := 1) (v := .pointer (some ⟨w.heap.size, 0, none⟩)) rfl (by kernel_rfl) (by kernel_rfl) (by kernel_rfl) (fun _ _ _ h => h) (Or.inl ⟨by kernel_rfl, fun w' hw' => by obtain ⟨q0, q1, q2, q3, q4⟩ := hw'; go_simp⟩) hS ?_
      refine wpAnyH_take (i := 2) (v := .pointer (some ⟨w.heap.size, 2, none⟩)) rfl (by kernel_rfl) (by kernel_rfl) (by kernel_rfl) (fun _ _ _ h => h) (Or.inl ⟨by kernel_rfl, fun w' hw' => by obtain ⟨q0, q1, q2, q3, q4⟩ := hw'; go_simp⟩) hS ?_
      refine wpAnyH_take (i := 3) (v := .slice Pl.a1 p.m.starts.length Pl.c1) rfl (by kernel_rfl) (by kernel_rfl) (by kernel_rfl) (fun _ _ _ h => h) (Or.inl ⟨by kernel_rfl, fun w' hw' => by obtain ⟨q0, q1, q2, q3, q4⟩ := hw'; go_simp⟩) hS ?_
      replace BL : Hid (Below w.heap.size w W'.drew) := BL.out.drew
      replace KP1 : Hid (Blk W'.drew w.heap.size 44 (ptcells p ⟨Pl, sa, sc, ta, tc⟩)) := Blk.drew KP1.out
      replace KS1 : Hid (SB W'.drew ps Q) := Blk.drew KS1.out
      replace hMk : Hid (Marks w.heap.size [D] W'.drew) := ⟨fun D' hD' => hMk.out.at' D' hD', hMk.out.nd⟩
      revert hS BL KP1 KS1 hMk
      generalize W'.drew = Y0
      intro hS BL KP1 KS1 hMk
      simp only [Act.put, List.setIfInBounds_toArray]
      refine wpAnyH_ready (rs := [4]) (by kernel_rfl) (by simp) ?_
      refine AllReadyH.cons rfl (fun K' hK' => ?_) AllReadyH.nil
      clear hS
      go_simp
      refine (OF1.out _ BL.out).mono ?_
      rintro e Y1 ⟨rfl, hb⟩
      replace BL := Hid.of (BL.out.trans (hb.mono BL.out.size))
      replace KP1 := Hid.of (KP1.out.below hb KP1.out.lt)
      replace KS1 := Hid.of (KS1.out.below hb KS1.out.lt)
      replace hMk := Hid.of (hMk.out.below hb hMk.out.lt)
      refine hK'.out _ _ (SA.out _ KS1.out KP1.out) (fun hS => ?_)
      clear hK' K' hb
      refine wpAnyH_ready (rs := [5]) (by kernel_rfl) (by simp) ?_
      refine AllReadyH.cons rfl (fun K' hK' => ?_) AllReadyH.nil
      clear hS
      go_simp
      refine (meet_any Q T0 _ oQ.out oT.out).mono ?_
      rintro e Y2 ⟨rfl, hb⟩
      replace BL := Hid.of (BL.out.trans (hb.mono BL.out.size))
      replace KP1 := Hid.of (KP1.out.below hb KP1.out.lt)
      replace KS1 := Hid.of (KS1.out.below hb KS1.out.lt)
      replace hMk := Hid.of (hMk.out.below hb hMk.out.lt)
      refine hK'.out _ _ (SA.out _ KS1.out KP1.out) (fun hS => ?_)
      clear hK' K' hb
      obtain ⟨Z, HZ⟩ : ∃ Z, Hid (Z = meetS Q T0) := ⟨_, rfl⟩
      rw [← HZ.out]
      have oZ : Hid (okS Z) := by show okS Z; rw [HZ.out]; exact okS_meet oQ.out
      refine wpAnyH_ready (rs := [6]) (by kernel_rfl) (by simp) ?_
      refine AllReadyH.cons rfl (fun K' hK' => ?_) AllReadyH.nil
      clear hS
      go_simp
      refine (rowO_any Z _ oZ.out (hT.out.below BL.out hT.out.lt)).mono ?_
      rintro e Y3 ⟨v, rfl, ov, hb⟩
      have BL0 := BL.out.size
      replace BL := Hid.of (BL.out.trans (hb.mono BL.out.size))
      replace KP1 := Hid.of (KP1.out.below hb KP1.out.lt)
      replace KS1 := Hid.of (KS1.out.below hb KS1.out.lt)
      replace hMk := Hid.of (hMk.out.below hb hMk.out.lt)
      have OV := Hid.of (Own.low ov BL0)
      refine hK'.out _ _ (SA.out _ KS1.out KP1.out) (fun hS => ?_)
      clear hK' K' hb ov
      obtain ⟨va, vc, hv, -, -, -⟩ := own_form2 OV.out
      subst hv
      refine wpAnyH_take (i := 7) (v := .slice va (rowS Z).length vc) rfl (by kernel_rfl) (by kernel_rfl) (by kernel_rfl) (fun _ _ _ h => h) (Or.inl ⟨by kernel_rfl, fun w' hw' => by obtain ⟨q0, q1, q2, q3, q4⟩ := hw'; go_simp⟩) hS ?_
      refine wpAnyH_take (i := 8) (v := .int .i64 0) rfl (by kernel_rfl) (by kernel_rfl) (by kernel_rfl) (fun _ _ _ h => h) (Or.inl ⟨by kernel_rfl, fun w' hw' => by obtain ⟨q0, q1, q2, q3, q4⟩ := hw'; go_simp⟩) hS ?_
      refine wpAnyH_done (by kernel_rfl) ?_ _
      exact ⟨va, vc, _, _, _, _, _, _, _, rfl, OV.out, hMk.out, BL.out⟩
      refine regQ_imp ?_
      rintro a' X ⟨va, vc, r36, r37, r38, r39, r40, r41, r42, rfl, ov, hmk, bl⟩
      have OV := Hid.of ov
      have HMK := Hid.of hmk
      have BLX := Hid.of bl
      clear ov hmk bl hMk KP1 KS1 BL
      obtain ⟨Z, HZ⟩ : ∃ Z, Hid (Z = meetS Q T0) := ⟨_, rfl⟩
      rw [← HZ.out] at OV
      rw [← HZ.out]
      go_wp2_with fail
      refine leaves_marks (B := w.heap.size) (fun W => Own W w.heap.size (.slice va (rowS Z).length vc) (rowS Z) ∧ Below w.heap.size w W) ?_ ?_ [D] _ HMK.out ⟨OV.out, BLX.out⟩
      · rintro W D ⟨h1, h2⟩ hD hk
        exact ⟨ownsRow_putObj h1 _ hk rfl, h2.trans (belowK_b (w := w) (Nat.le_refl _) W D _ _ hD hk rfl rfl)⟩
      · rintro W ⟨h1, h2⟩
        have hrow : rowS Z = beganL p word := by
          rw [HZ.out, HT0.out, ← began_row hMM.out]
          have r1 := rep_of (l := p.m.starts) (fun x hx => by have h3 := (may_starts hMM.out).2 x hx; have h4 := hz6.out; omega) p.m.starts.length
          rw [List.take_of_length_le (Nat.le_refl _)] at r1
          exact rep_row (rep_meet HRQ.out.1 r1) (inc_flt HRQ.out.2 _)
        obtain ⟨va', vc', hv, h3, h4⟩ := h1.at
        cases hv
        refine ⟨.tuple #[.slice va (rowS Z).length vc, .int .i64 0], by simp [results, go_sem], ?_⟩
        rw [hrow] at h3 h4
        rw [begOut_ok hp.out hin.out, hrow]
        exact ⟨va, vc, rfl, h3, h4, h2⟩
    case stop =>
      rintro D c pre W' hD hpre ⟨⟨rfl, hE⟩, hO, hBx, hB'⟩ hK
      have HRQ : Hid (RepI (bkS p S0 (seVals pre.dropLast)) (onL p word)) := by
        have h1 := rep_pre hp.out HR0.out pre.dropLast
        have h2 := rep_empty h1.1 hE
        have h3 : ∃ t, word = t ++ (seVals pre.dropLast).reverse := by
          obtain ⟨t, ht⟩ := hpre
          have h4 : pre = pre.dropLast ++ pre.drop (pre.length - 1) := by rw [List.dropLast_eq_take]; exact (List.take_append_drop _ _).symm
          have h5 := rvK_take word word.length (Nat.le_refl _)
          rw [← hxs, List.map_map, List.take_of_length_le (Nat.le_refl _), ← ht] at h5
          refine ⟨(seVals (pre.drop (pre.length - 1) ++ t)).reverse, ?_⟩
          rw [← List.reverse_append]
          have e6 : seVals pre.dropLast ++ seVals (pre.drop (pre.length - 1) ++ t) = seVals (pre ++ t) := by
            unfold seVals
            rw [← List.map_append, ← List.append_assoc, ← h4]
          rw [e6]; exact h5.symm
        obtain ⟨t, ht⟩ := h3
        have h7 : onL p word = [] := by rw [ht]; exact on_empty hMM.out h2 t
        show RepI _ _
        rw [h7]
        rw [h2] at h1
        exact h1
      obtain ⟨Q, HQ⟩ : ∃ Q, Hid (Q = bkS p S0 (seVals pre.dropLast)) := ⟨_, rfl⟩
      rw [← HQ.out] at HRQ hO hE
      have oQ := Hid.of HRQ.out.1.ok
      clear hxs hE hpre
      refine wpIn_wide.2 ?_
      have hMk : Hid (Marks w.heap.size [D] W') := by
        refine ⟨fun D' hD' => ?_, by simp⟩
        have e : D' = D := by simpa using hD'
        rw [e]
        exact ⟨Nat.le_trans BW0.out.size hD, hK⟩
      have BL := Hid.of (BW0.out.trans (hB'.mono hpsP.out))
      have KP1 := Hid.of (KP.out.below hB' (Nat.lt_of_lt_of_le hpP.out (Nat.le_refl _)))
      have KS1 := Hid.of hO
      have SA : Hid (∀ W, SB W ps Q → Blk W w.heap.size 44 (ptcells p ⟨Pl, sa, sc, ta, tc⟩) → W.cell? ⟨ps, 0, none⟩ = some (.int .u64 (Q 0)) ∧ W.cell? ⟨ps, 1, none⟩ = some (.int .u64 (Q 1)) ∧ W.cell? ⟨ps, 2, none⟩ = some (.int .u64 (Q 2)) ∧ W.cell? ⟨ps, 3, none⟩ = some (.int .u64 (Q 3)) ∧ W.cell? ⟨w.heap.size, 2, none⟩ = some (.slice Pl.a1 p.m.starts.length Pl.c1)) := fun W h1 h2 => by
        obtain ⟨x0, x1, x2, x3⟩ := SB.cells h1
        exact ⟨x0, x1, x2, x3, h2.cell 2 rfl⟩
      clear hO hB' hK hBx
      go_wp2_with fail
      refine Code.wp_mono (Q := regQ fun a' X => ∃ (va : Option Addr) (vc : Nat) (r36 r37 r38 r39 r40 r41 r42 : Value), a' = { tmps := #[ptval p ⟨Pl, sa, sc, ta, tc⟩, .slice wa word.length wc, .pointer (some ⟨w.heap.size, 0, none⟩), undef, .slice va (rowS (meetS Q T0)).length vc, .int .i64 0, .pointer (some ⟨pf, 0, none⟩), .int .i64 0, .pointer (some ⟨ps, 0, none⟩), undef, undef, .tuple #[backV pa, .int .i64 0], .agg #[.int .i64 p.m.st, .int .i64 p.m.ev, .slice Pl.a1 p.m.starts.length Pl.c1, .slice Pl.a2 p.m.arrows.length Pl.c2, .slice Pl.a3 p.m.ends.length Pl.c3, .slice sa p.seen.length sc, .slice ta p.secret.length tc], .tuple #[backV pa, .int .i64 0], backV pa, .int .i64 0, .int .i64 0, .bool false, undef, .agg #[.int .i64 p.m.st, .int .i64 p.m.ev, .slice Pl.a1 p.m.starts.length Pl.c1, .slice Pl.a2 p.m.arrows.length Pl.c2, .slice Pl.a3 p.m.ends.length Pl.c3, .slice sa p.seen.length sc, .slice ta p.secret.length tc], .slice wa word.length wc, .bool true, .bool false, .agg #[.int .i64 p.m.st, .int .i64 p.m.ev, .slice Pl.a1 p.m.starts.length Pl.c1, .slice Pl.a2 p.m.arrows.length Pl.c2, .slice Pl.a3 p.m.ends.length Pl.c3, .slice sa p.seen.length sc, .slice ta p.secret.length tc], sval S0, .slice wa word.length wc, .func (.func 136) #[] #[.pointer (some ⟨Bn, 0, none⟩)], undef, undef, undef, undef, undef, undef, undef, undef, undef, r36, r37, r38, r39, r40, r41, r42], defers := [mark D] } ∧ Own X w.heap.size (.slice va (rowS (meetS Q T0)).length vc) (rowS (meetS Q T0)) ∧ Marks w.heap.size [D] X ∧ Below w.heap.size w X) ?_ ?_
      rotate_left
      refine wp_region_held_drew (S := fun w' => w'.cell? ⟨ps, 0, none⟩ = some (.int .u64 (Q 0)) ∧ w'.cell? ⟨ps, 1, none⟩ = some (.int .u64 (Q 1)) ∧ w'.cell? ⟨ps, 2, none⟩ = some (.int .u64 (Q 2)) ∧ w'.cell? ⟨ps, 3, none⟩ = some (.int .u64 (Q 3)) ∧ w'.cell? ⟨w.heap.size, 2, none⟩ = some (.slice Pl.a1 p.m.starts.length Pl.c1)) (by kernel_rfl) (SA.out _ (Blk.drew KS1.out) (Blk.drew KP1.out)) (fun hS => ?_)
      refine wpAnyH_take (i := 0) (v := sval Q) rfl (by kernel_rfl) (by kernel_rfl) (by kernel_rfl) (fun _ _ _ h => h) (Or.inl ⟨by kernel_rfl, fun w' hw' => by obtain ⟨q0, q1, q2, q3, q4⟩ := hw'; go_simp⟩) hS ?_
      refine wpAnyH_take (i := 1) (v := .pointer (some ⟨w.heap.size, 0, none⟩)) rfl (by kernel_rfl) (by kernel_rfl) (by kernel_rfl) (fun _ _ _ h => h) (Or.inl ⟨by kernel_rfl, fun w' hw' => by obtain ⟨q0, q1, q2, q3, q4⟩ := hw'; go_simp⟩) hS ?_
      refine wpAnyH_take (i := 2) (v := .pointer (some ⟨w.heap.size, 2, none⟩)) rfl (by kernel_rfl) (by kernel_rfl) (by kernel_rfl) (fun _ _ _ h => h) (Or.inl ⟨by kernel_rfl, fun w' hw' => by obtain ⟨q0, q1, q2, q3, q4⟩ := hw'; go_simp⟩) hS ?_
      refine wpAnyH_take (i := 3) (v := .slice Pl.a1 p.m.starts.length Pl.c1) rfl (by kernel_rfl) (by kernel_rfl) (by kernel_rfl) (fun _ _ _ h => h) (Or.inl ⟨by kernel_rfl, fun w' hw' => by obtain ⟨q0, q1, q2, q3, q4⟩ := hw'; go_simp⟩) hS ?_
      replace BL : Hid (Below w.heap.size w W'.drew) := BL.out.drew
      replace KP1 : Hid (Blk W'.drew w.heap.size 44 (ptcells p ⟨Pl, sa, sc, ta, tc⟩)) := Blk.drew KP1.out
      replace KS1 : Hid (SB W'.drew ps Q) := Blk.drew KS1.out
      replace hMk : Hid (Marks w.heap.size [D] W'.drew) := ⟨fun D' hD' => hMk.out.at' D' hD', hMk.out.nd⟩
      revert hS BL KP1 KS1 hMk
      generalize W'.drew = Y0
      intro hS BL KP1 KS1 hMk
      simp only [Act.put, List.setIfInBounds_toArray]
      refine wpAnyH_ready (rs := [4]) (by kernel_rfl) (by simp) ?_
      refine AllReadyH.cons rfl (fun K' hK' => ?_) AllReadyH.nil
      clear hS
      go_simp
      refine (OF1.out _ BL.out).mono ?_
      rintro e Y1 ⟨rfl, hb⟩
      replace BL := Hid.of (BL.out.trans (hb.mono BL.out.size))
      replace KP1 := Hid.of (KP1.out.below hb KP1.out.lt)
      replace KS1 := Hid.of (KS1.out.below hb KS1.out.lt)
      replace hMk := Hid.of (hMk.out.below hb hMk.out.lt)
      refine hK'.out _ _ (SA.out _ KS1.out KP1.out) (fun hS => ?_)
      clear hK' K' hb
      refine wpAnyH_ready (rs := [5]) (by kernel_rfl) (by simp) ?_
      refine AllReadyH.cons rfl (fun K' hK' => ?_) AllReadyH.nil
      clear hS
      go_simp
      refine (meet_any Q T0 _ oQ.out oT.out).mono ?_
      rintro e Y2 ⟨rfl, hb⟩
      replace BL := Hid.of (BL.out.trans (hb.mono BL.out.size))
      replace KP1 := Hid.of (KP1.out.below hb KP1.out.lt)
      replace KS1 := Hid.of (KS1.out.below hb KS1.out.lt)
      replace hMk := Hid.of (hMk.out.below hb hMk.out.lt)
      refine hK'.out _ _ (SA.out _ KS1.out KP1.out) (fun hS => ?_)
      clear hK' K' hb
      obtain ⟨Z, HZ⟩ : ∃ Z, Hid (Z = meetS Q T0) := ⟨_, rfl⟩
      rw [← HZ.out]
      have oZ : Hid (okS Z) := by show okS Z; rw [HZ.out]; exact okS_meet oQ.out
      refine wpAnyH_ready (rs := [6]) (by kernel_rfl) (by simp) ?_
      refine AllReadyH.cons rfl (fun K' hK' => ?_) AllReadyH.nil
      clear hS
      go_simp
      refine (rowO_any Z _ oZ.out (hT.out.below BL.out hT.out.lt)).mono ?_
      rintro e Y3 ⟨v, rfl, ov, hb⟩
      have BL0 := BL.out.size
      replace BL := Hid.of (BL.out.trans (hb.mono BL.out.size))
      replace KP1 := Hid.of (KP1.out.below hb KP1.out.lt)
      replace KS1 := Hid.of (KS1.out.below hb KS1.out.lt)
      replace hMk := Hid.of (hMk.out.below hb hMk.out.lt)
      have OV := Hid.of (Own.low ov BL0)
      refine hK'.out _ _ (SA.out _ KS1.out KP1.out) (fun hS => ?_)
      clear hK' K' hb ov
      obtain ⟨va, vc, hv, -, -, -⟩ := own_form2 OV.out
      subst hv
      refine wpAnyH_take (i := 7) (v := .slice va (rowS Z).length vc) rfl (by kernel_rfl) (by kernel_rfl) (by kernel_rfl) (fun _ _ _ h => h) (Or.inl ⟨by kernel_rfl, fun w' hw' => by obtain ⟨q0, q1, q2, q3, q4⟩ := hw'; go_simp⟩) hS ?_
      refine wpAnyH_take (i := 8) (v := .int .i64 0) rfl (by kernel_rfl) (by kernel_rfl) (by kernel_rfl) (fun _ _ _ h => h) (Or.inl ⟨by kernel_rfl, fun w' hw' => by obtain ⟨q0, q1, q2, q3, q4⟩ := hw'; go_simp⟩) hS ?_
      refine wpAnyH_done (by kernel_rfl) ?_ _
      exact ⟨va, vc, _, _, _, _, _, _, _, rfl, OV.out, hMk.out, BL.out⟩
      refine regQ_imp ?_
      rintro a' X ⟨va, vc, r36, r37, r38, r39, r40, r41, r42, rfl, ov, hmk, bl⟩
      have OV := Hid.of ov
      have HMK := Hid.of hmk
      have BLX := Hid.of bl
      clear ov hmk bl hMk KP1 KS1 BL
      obtain ⟨Z, HZ⟩ : ∃ Z, Hid (Z = meetS Q T0) := ⟨_, rfl⟩
      rw [← HZ.out] at OV
      rw [← HZ.out]
      go_wp2_with fail
      refine leaves_marks (B := w.heap.size) (fun W => Own W w.heap.size (.slice va (rowS Z).length vc) (rowS Z) ∧ Below w.heap.size w W) ?_ ?_ [D] _ HMK.out ⟨OV.out, BLX.out⟩
      · rintro W D ⟨h1, h2⟩ hD hk
        exact ⟨ownsRow_putObj h1 _ hk rfl, h2.trans (belowK_b (w := w) (Nat.le_refl _) W D _ _ hD hk rfl rfl)⟩
      · rintro W ⟨h1, h2⟩
        have hrow : rowS Z = beganL p word := by
          rw [HZ.out, HT0.out, ← began_row hMM.out]
          have r1 := rep_of (l := p.m.starts) (fun x hx => by have h3 := (may_starts hMM.out).2 x hx; have h4 := hz6.out; omega) p.m.starts.length
          rw [List.take_of_length_le (Nat.le_refl _)] at r1
          exact rep_row (rep_meet HRQ.out.1 r1) (inc_flt HRQ.out.2 _)
        obtain ⟨va', vc', hv, h3, h4⟩ := h1.at
        cases hv
        refine ⟨.tuple #[.slice va (rowS Z).length vc, .int .i64 0], by simp [results, go_sem], ?_⟩
        rw [hrow] at h3 h4
        rw [begOut_ok hp.out hin.out, hrow]
        exact ⟨va, vc, rfl, h3, h4, h2⟩

end Go.Proofs.YtmlkpdeidpcidaaDoor
namespace Go.Proofs.YtmlkpdeidpcidaaDoor
open Go.RowKit
set_option linter.unusedVariables false

set_option maxRecDepth 100000 in
set_option maxHeartbeats 2000000 in
theorem lseen_any (p : Plant) (P : PTL) (wa : Option Addr) (wc : Nat) (word : List Int) (w : World) (h : PAt w p P) (hw : At w wa word) (hwl : word.length ≤ 17592186044416) :
    Calls Tryd.prog 32 #[ptval p P, .slice wa word.length wc] w fun e w' => e = .returned (.bool (inSeen p.seen word)) ∧ Below w.heap.size w w' := by
  have B : Hid (Below w.heap.size w (w.alloc (.cells (ptcells p P) 44))) := (Below.refl _ _).alloc (Nat.le_refl _) _
  have KEY := Hid.of (refSeen_any wa P.sa wc P.sc word p.seen (w.alloc (.cells (ptcells p P) 44)) (hw.below B.out (Nat.le_refl _)) hwl (h.s.at_.below B.out (Nat.le_refl _)) h.s.len)
  obtain ⟨l, HL⟩ : ∃ l, Hid (l = seenL p.seen word) := ⟨_, rfl⟩
  rw [← HL.out] at KEY
  have HIS : Hid (inSeen p.seen word = decide (l.length = word.length)) := by show _ = _; unfold inSeen; rw [HL.out]
  clear h hw HL
  go_enter Tryd.func32, Tryd.ntmps32
  go_wp2_with fail
  refine KEY.out.mono ?_
  rintro e W1 ⟨va, vc, rfl, -, -, hb⟩
  have B1 := Hid.of (B.out.trans (hb.mono B.out.size))
  clear hb KEY
  by_cases he : l.length = word.length
  · have d : ((l.length : Int) == (word.length : Int)) = true := by rw [he]; simp
    have HF : Hid (inSeen p.seen word = true) := by show _ = _; rw [HIS.out, decide_eq_true he]
    clear he
    go_wp2_with fail
    go_ret
    exact ⟨ret_bool HF.out.symm, B1.out⟩
  · have d : ((l.length : Int) == (word.length : Int)) = false := by rw [beq_eq_false_iff_ne]; omega
    have HF : Hid (inSeen p.seen word = false) := by show _ = _; rw [HIS.out, decide_eq_false he]
    go_wp2_with fail
    go_ret
    exact ⟨ret_bool HF.out.symm, B1.out⟩

end Go.Proofs.YtmlkpdeidpcidaaDoor
namespace Go.Proofs.YtmlkpdeidpcidaaDoor
open Go.RowKit
set_option linter.unusedVariables false

theorem filter_take (f : Int → Bool) {l : List Int} {k : Nat} {x : Int} (h : k < l.length) (hx : Hid (x = l[k]?.getD 0)) : (l.take (k + 1)).filter f = (l.take k).filter f ++ (if f x = true then [x] else []) := by
  rw [List.take_add_one, List.getElem?_eq_getElem h, Option.toList_some, List.filter_append]
  have : x = l[k] := by rw [hx.out, List.getElem?_eq_getElem h]; rfl
  rw [← this]
  congr 1
  by_cases e : f x = true
  · rw [if_pos e]; simp [e]
  · rw [if_neg e]; simp [e]
theorem at_new1 (W : World) (x : Int) : At (W.alloc (.cells #[.int .i64 x] 3)) (some ⟨W.heap.size, 0, none⟩) [x] := at_one_blk (Blk.new W _ _)

theorem rng_filter (f : Int → Bool) (k : Nat) : (rngI (k + 1)).filter f = (rngI k).filter f ++ (if f (k : Int) = true then [(k : Int)] else []) := by
  rw [rngI_succ, List.filter_append]
  congr 1
  by_cases e : f (k : Int) = true
  · rw [if_pos e]; simp [e]
  · rw [if_neg e]; simp [e]

set_option maxRecDepth 100000 in
set_option maxHeartbeats 8000000 in
theorem rinto_go (st : Nat) (ev : Int) (starts : List Int) (ars : List Arr) (ends seen secret : List Int) (a1 : Option Addr) (c1 : Nat) (a2 : Option Addr) (c2 : Nat) (a3 : Option Addr) (c3 : Nat) (sa : Option Addr) (sc : Nat) (ta : Option Addr) (tc : Nat) (ra : Option Addr) (rc : Nat) (row : List Int) (ee : Int) (w : World) (h : Hid (PAt w ⟨⟨(st : Int), ev, starts, ars, ends⟩, seen, secret⟩ ⟨⟨a1, c1, a2, c2, a3, c3⟩, sa, sc, ta, tc⟩)) (hm : Hid (mayB ⟨(st : Int), ev, starts, ars, ends⟩ = true)) (hr : Hid (At w ra row)) (hrl : Hid (row.length ≤ maxLen)) :
    Calls Tryd.prog 87 #[ptval ⟨⟨(st : Int), ev, starts, ars, ends⟩, seen, secret⟩ ⟨⟨a1, c1, a2, c2, a3, c3⟩, sa, sc, ta, tc⟩, .slice ra row.length rc, .int .i64 ee] w fun e w' => GivesO w (intoL ⟨⟨(st : Int), ev, starts, ars, ends⟩, seen, secret⟩ row ee) e w' := by
  obtain ⟨j0, ji, jz0, jz1, jz2⟩ := info_parts Tryd.infoInt
  have hz := mayB_size hm.out
  unfold sizeOk at hz
  dsimp only at hz
  have hst : st ≤ 256 := by omega
  have hlen : Hid (ars.length ≤ 4096) := show _ ≤ _ by omega
  clear hz
  have hto : Hid (∀ a ∈ ars, 0 ≤ a.t ∧ a.t < (256 : Nat)) := may_to hm.out
  have hsee : Hid (∀ S, (seeL ⟨⟨(st : Int), ev, starts, ars, ends⟩, seen, secret⟩ S ee).length ≤ 4096) := fun S => by
    have h2 := see_in (p := ⟨⟨(st : Int), ev, starts, ars, ends⟩, seen, secret⟩) hm.out S ee
    have h1 := mayB_size hm.out
    unfold sizeOk at h1
    dsimp only at h1
    exact Nat.le_trans (nodup_len 256 _ (inc_nodup h2.1) (fun x hx => by have := h2.2 x hx; dsimp only at this; omega)) (by decide)
  have B : Hid (Below w.heap.size w (w.alloc (.cells (ptcells ⟨⟨(st : Int), ev, starts, ars, ends⟩, seen, secret⟩ ⟨⟨a1, c1, a2, c2, a3, c3⟩, sa, sc, ta, tc⟩) 44))) := (Below.refl _ _).alloc (Nat.le_refl _) _
  have K : Hid (Blk (w.alloc (.cells (ptcells ⟨⟨(st : Int), ev, starts, ars, ends⟩, seen, secret⟩ ⟨⟨a1, c1, a2, c2, a3, c3⟩, sa, sc, ta, tc⟩) 44)) w.heap.size 44 (ptcells ⟨⟨(st : Int), ev, starts, ars, ends⟩, seen, secret⟩ ⟨⟨a1, c1, a2, c2, a3, c3⟩, sa, sc, ta, tc⟩)) := Blk.new w _ _
  go_enter Tryd.func87, Tryd.ntmps87
  go_wp2_with fail
  go_loopw [7, 8] (fun v i wr => ∃ k : Nat, i = .int .i64 k ∧ k ≤ st ∧ Hid (Own wr (w.heap.size + 1) v ((rngI k).filter (fun s => decide (0 < ((seeL ⟨⟨(st : Int), ev, starts, ars, ends⟩, seen, secret⟩ (wideL ars seen [s]) ee).filter fun t => hasB row t == true).length)))) ∧ Hid (Below w.heap.size w wr) ∧ Hid (Blk wr w.heap.size 44 (ptcells ⟨⟨(st : Int), ev, starts, ars, ends⟩, seen, secret⟩ ⟨⟨a1, c1, a2, c2, a3, c3⟩, sa, sc, ta, tc⟩))) (fun _ i _ => st - (intOf i).toNat)
  case atStart => exact ⟨0, rfl, Nat.zero_le _, own_nil _ _, B, K⟩
  case round =>
    clear B K
    obtain ⟨k, rfl, hk, HO, B, K⟩ := hrel
    have hlo : w.heap.size + 1 ≤ wr.heap.size := K.out.lt
    obtain ⟨x0, x1, x2, x3, x4, x5, x6⟩ := ptcell_at K.out
    dsimp only at x0 x1 x2 x3 x4 x5 x6
    by_cases hlt : k < st
    · have HTK := Hid.of (rng_filter (fun s => decide (0 < ((seeL ⟨⟨(st : Int), ev, starts, ars, ends⟩, seen, secret⟩ (wideL ars seen [s]) ee).filter fun t => hasB row t == true).length)) k)
      have hln : ((rngI k).filter (fun s => decide (0 < ((seeL ⟨⟨(st : Int), ev, starts, ars, ends⟩, seen, secret⟩ (wideL ars seen [s]) ee).filter fun t => hasB row t == true).length))).length ≤ 256 := Nat.le_trans (List.length_filter_le _ _) (by rw [rngI_len]; omega)
      have bA : Below wr.heap.size wr (wr.alloc (.cells #[.int .i64 (k : Int)] 3)) := (Below.refl _ _).alloc (Nat.le_refl _) _
      have B1 := Hid.of (B.out.trans (bA.mono B.out.size))
      have K1 := Hid.of (K.out.below bA K.out.lt)
      have HO1 : Hid (Own (wr.alloc (.cells #[.int .i64 (k : Int)] 3)) (w.heap.size + 1) u7 _) := own_same HO.out (fun j hj => bA.block j (World.ownsRow.lt HO.out j hj).2)
      obtain ⟨z0, z1, z2, z3, z4, z5, z6⟩ := ptcell_at K1.out
      dsimp only at z0 z1 z2 z3 z4 z5 z6
      have KEY := Hid.of (refWide_any ⟨(st : Int), ev, starts, ars, ends⟩ ⟨a1, c1, a2, c2, a3, c3⟩ (some ⟨wr.heap.size, 0, none⟩) sa 1 sc [(k : Int)] seen (wr.alloc (.cells #[.int .i64 (k : Int)] 3)) (h.out.m.a.below B1.out (Nat.le_refl _)) hlen.out hto.out (at_new1 wr (k : Int)) (by simp) (fun h => by cases h) (h.out.s.at_.below B1.out (Nat.le_refl _)) h.out.s.len)
      go_wp2_with fail
      refine KEY.out.mono ?_
      rintro e W1 ⟨v, rfl, ov, hb⟩
      replace HO : Hid (Own W1 (w.heap.size + 1) _ _) := own_same HO1.out (fun j hj => hb.block j (World.ownsRow.lt HO1.out j hj).2)
      replace K := Hid.of (K1.out.below hb K1.out.lt)
      replace B := Hid.of (B1.out.trans (hb.mono B1.out.size))
      clear KEY x0 x1 x2 x3 x4 x5 x6 z0 z1 z2 z3 z4 z5 z6 bA B1 K1 HO1 hlo hb
      obtain ⟨wi, HWI⟩ : ∃ wi, Hid (wi = wideL ars seen [(k : Int)]) := ⟨_, rfl⟩
      rw [← HWI.out] at ov HTK
      obtain ⟨va, vc, hva, vat, vl1, vl2, -⟩ := Own.at2 ov
      subst hva
      have VA := Hid.of vat
      have VL : Hid (wi.length ≤ maxLen) := Nat.le_trans vl1 vl2
      clear ov vat vl1 vl2
      obtain ⟨x0, x1, x2, x3, x4, x5, x6⟩ := ptcell_at K.out
      dsimp only at x0 x1 x2 x3 x4 x5 x6
      go_wp2_with fail
      refine (refSeeing_any ⟨(st : Int), ev, starts, ars, ends⟩ ⟨a1, c1, a2, c2, a3, c3⟩ va sa vc sc wi seen ee W1 (h.out.m.a.below B.out (Nat.le_refl _)) hlen.out hto.out VA.out VL.out (h.out.s.at_.below B.out (Nat.le_refl _)) h.out.s.len).mono ?_
      rintro e W2 ⟨v, rfl, ov, hb⟩
      replace ov : Own W2 W1.heap.size v (seeL ⟨⟨(st : Int), ev, starts, ars, ends⟩, seen, secret⟩ wi ee) := ov
      have HSL := Hid.of (hsee.out wi)
      replace HO : Hid (Own W2 (w.heap.size + 1) _ _) := own_same HO.out (fun j hj => hb.block j (World.ownsRow.lt HO.out j hj).2)
      replace K := Hid.of (K.out.below hb K.out.lt)
      replace B := Hid.of (B.out.trans (hb.mono B.out.size))
      clear x0 x1 x2 x3 x4 x5 x6 hb VA VL
      obtain ⟨to, HTO⟩ : ∃ to, Hid (to = seeL ⟨⟨(st : Int), ev, starts, ars, ends⟩, seen, secret⟩ wi ee) := ⟨_, rfl⟩
      rw [← HTO.out] at ov HTK HSL
      obtain ⟨va, vc, hva, vat, vl1, vl2, -⟩ := Own.at2 ov
      subst hva
      have VA := Hid.of vat
      clear ov vat vl1 vl2
      go_wp2_with fail
      refine (only_any va ra vc rc to row true W2 VA.out (Nat.le_trans HSL.out (by decide)) (hr.out.below B.out (Nat.le_refl _)) hrl.out).mono ?_
      rintro e W3 ⟨ba, bc, rfl, -, -, hb⟩
      replace HO : Hid (Own W3 (w.heap.size + 1) _ _) := own_same HO.out (fun j hj => hb.block j (World.ownsRow.lt HO.out j hj).2)
      replace K := Hid.of (K.out.below hb K.out.lt)
      replace B := Hid.of (B.out.trans (hb.mono B.out.size))
      have hlo1 : w.heap.size + 1 ≤ W3.heap.size := K.out.lt
      clear hb VA
      obtain ⟨fr, HFR⟩ : ∃ fr, Hid (fr = to.filter fun t => hasB row t == true) := ⟨_, rfl⟩
      rw [← HFR.out] at HTK ⊢
      obtain ⟨ga, gc, hga, -, -, -⟩ := own_form2 HO.out
      subst hga
      revert HO HTK hln
      generalize (rngI k).filter (fun s => decide (0 < ((seeL ⟨⟨(st : Int), ev, starts, ars, ends⟩, seen, secret⟩ (wideL ars seen [s]) ee).filter fun t => hasB row t == true).length)) = cur
      intro hln HTK HO
      by_cases hp : 0 < fr.length
      · have dp : decide ((0 : Int) < (fr.length : Int)) = true := decide_eq_true (by omega)
        have HT2 : Hid ((rngI (k + 1)).filter (fun s => decide (0 < ((seeL ⟨⟨(st : Int), ev, starts, ars, ends⟩, seen, secret⟩ (wideL ars seen [s]) ee).filter fun t => hasB row t == true).length)) = cur ++ [(k : Int)]) := by show _ = _; rw [HTK.out, if_pos (decide_eq_true hp)]
        clear HTK
        go_wp2_with (at_builtin; refine wpList_append_block _ rfl (.tmp 39) (.tmp 41) 22 rfl (w.heap.size + 1) 3 j0 (.int .i64 0) 1 8 Tryd.underlying22 ji jz0 jz1 jz2 rfl (by decide) _ _ _ rfl (World.ownsRow.alloc HO.out _) ⟨W3.heap.size, 0, none⟩ 1 1 [.int .i64 (k : Int)] rfl rfl (cell_one_new _ _ _) (by intro u hu; simp at hu; subst hu; rfl) (by decide) (by unfold maxLen; omega) (by omega) (by simp; omega) ?_)
        intro v9 w9 o9 g9 n9
        obtain ⟨q1, q2, q3⟩ := own_snoc HO.out (Below.refl _ W3) hlo1 o9 g9
        have Q1 := Hid.of q1
        have Q2 := Hid.of (B.out.trans (q2.mono (Nat.le_succ _)))
        have Q3 := Hid.of (K.out.below q2 (Nat.lt_succ_self _))
        clear q1 q2 q3 o9 g9 n9
        go_wp2_with fail
        go_roundw
        case rel => exact ⟨k + 1, by go_num, by omega, (by show Own _ _ _ _; rw [HT2.out]; exact Q1.out), Q2, Q3⟩
        case measure => simp [intOf]; omega
      · have dp : decide ((0 : Int) < (fr.length : Int)) = false := decide_eq_false (by omega)
        have HT2 : Hid ((rngI (k + 1)).filter (fun s => decide (0 < ((seeL ⟨⟨(st : Int), ev, starts, ars, ends⟩, seen, secret⟩ (wideL ars seen [s]) ee).filter fun t => hasB row t == true).length)) = cur) := by show _ = _; rw [HTK.out, if_neg (by simpa using hp), List.append_nil]
        clear HTK
        go_wp2_with fail
        all_goals
          go_roundw
          case rel => exact ⟨k + 1, by go_num, by omega, (by show Own _ _ _ _; rw [HT2.out]; exact HO.out), B, K⟩
          case measure => simp [intOf]; omega
    · have hk2 : k = st := by omega
      have HE : Hid ((rngI k).filter (fun s => decide (0 < ((seeL ⟨⟨(st : Int), ev, starts, ars, ends⟩, seen, secret⟩ (wideL ars seen [s]) ee).filter fun t => hasB row t == true).length)) = intoL ⟨⟨(st : Int), ev, starts, ars, ends⟩, seen, secret⟩ row ee) := by show _ = _; rw [hk2]; unfold intoL; simp only [Int.toNat_natCast]
      have hltD : decide ((k : Int) < (st : Int)) = false := by simp; omega
      rw [HE.out] at HO
      clear hk2
      go_wp2_with fail
      go_ret
      exact ⟨_, rfl, Own.low HO.out (Nat.le_succ _), B.out⟩

theorem rInto_any (p : Plant) (P : PTL) (ra : Option Addr) (rc : Nat) (row : List Int) (ee : Int) (w : World) (h : PAt w p P) (hm : mayB p.m = true) (hr : At w ra row) (hrl : row.length ≤ maxLen) :
    Calls Tryd.prog 87 #[ptval p P, .slice ra row.length rc, .int .i64 ee] w fun e w' => GivesO w (intoL p row ee) e w' := by
  have hz := mayB_size hm
  unfold sizeOk at hz
  obtain ⟨⟨st, ev, starts, ars, ends⟩, seen, secret⟩ := p
  obtain ⟨⟨a1, c1, a2, c2, a3, c3⟩, sa, sc, ta, tc⟩ := P
  dsimp only at hz
  obtain ⟨s, rfl⟩ : ∃ s : Nat, st = (s : Int) := ⟨st.toNat, by omega⟩
  exact rinto_go s ev starts ars ends seen secret a1 c1 a2 c2 a3 c3 sa sc ta tc ra rc row ee w (Hid.of h) (Hid.of hm) (Hid.of hr) (Hid.of hrl)

end Go.Proofs.YtmlkpdeidpcidaaDoor
namespace Go.Proofs.YtmlkpdeidpcidaaDoor
open Go.RowKit
set_option linter.unusedVariables false

/-- How long a slice is. -/
def lenV (v : Value) : Nat := match v with
  | .slice _ n _ => n
  | _ => 0
/-- The cells of a layer. -/
def LayK (n : Nat) (W : World) (g : Nat) (L : List Kno) : Prop := ∀ (k : Nat) (p : Kno), L[k]? = some p → ∃ x z, W.cell? ⟨g, k * 2, none⟩ = some x ∧ W.cell? ⟨g, k * 2 + 1, none⟩ = some z ∧ InnW n W x p.1 ∧ InnW n W z p.2
theorem LayK.below {n : Nat} {W W' : World} {g : Nat} {L : List Kno} (h : LayK n W g L) (hb : Below W.heap.size W W') (hg : g < W.heap.size) (hn : n ≤ W.heap.size) : LayK n W' g L := fun k p hk => by
  obtain ⟨x, z, c1, c2, i1, i2⟩ := h k p hk
  exact ⟨x, z, (hb.cell (p := ⟨g, k * 2, none⟩) hg).trans c1, (hb.cell (p := ⟨g, k * 2 + 1, none⟩) hg).trans c2, i1.below hb hn, i2.below hb hn⟩
theorem OwnKn.layK {n : Nat} {W : World} {B : Nat} {v : Value} {L : List Kno} (h : OwnKn n W B v L) (hL : 0 < L.length) : ∃ g cap, v = .slice (some ⟨g, 0, none⟩) L.length cap ∧ B ≤ g ∧ g < W.heap.size ∧ LayK n W g L := by
  obtain ⟨g, cap, e, h1, h2, h3, hc⟩ := h.cells hL
  refine ⟨g, cap, e, h1, h2, fun k p hp => ?_⟩
  obtain ⟨x, z, c1, c3, i1, i3⟩ := hc k p hp
  rw [Nat.zero_add] at c1 c3
  exact ⟨x, z, c1, c3, i1, i3⟩
theorem OwnKn.nil {n : Nat} (W : World) (B : Nat) : OwnKn n W B (.slice none 0 0) [] := ⟨[], World.ownsRow_nil _ _ _ _, fun j x xs h => by simp at h⟩
theorem OwnKn.form {n : Nat} {W : World} {B : Nat} {v : Value} {L : List Kno} (h : OwnKn n W B v L) : ∃ a c, v = .slice a L.length c := by
  obtain ⟨vs, ho, -⟩ := h
  obtain ⟨a, c, e, -, -, -⟩ := own_form2 ho
  exact ⟨a, c, e⟩
/-- What next is, from the world U on. -/
structure KX (n : Nat) (U W : World) (v : Value) (L : List Kno) : Prop where
  bel : Below U.heap.size U W
  ow : OwnKn n W U.heap.size v L
  nU : n ≤ U.heap.size
section
variable {n : Nat} {U W : World} {v : Value} {L : List Kno}
theorem KX.below {W' : World} (h : KX n U W v L) (hb : Below W.heap.size W W') : KX n U W' v L :=
  ⟨h.bel.trans (hb.mono h.bel.size), h.ow.below hb (Nat.le_trans h.nU h.bel.size), h.nU⟩
theorem KX.push {W2 W3 : World} {v' x z : Value} {r : Kno} {vs : List Value} (h : KX n U W v L) (hW3 : Below W.heap.size W W3) (ho : W3.ownsRow U.heap.size 117 2 v L.length vs) (hi : ∀ (j : Nat) (x : Value) (xs : List Int), vs[j]? = some x → (kns L)[j]? = some xs → InnW n W3 x xs) (hx : InnW n W3 x r.1) (hz : InnW n W3 z r.2) (o1 : W2.ownsRow U.heap.size 117 2 v' (L.length + 1) (vs ++ [x, z])) (g : W3.grownBy W2 v.ownBlock) : KX n U W2 v' (L ++ [r]) := by
  have h3 := h.below hW3
  have low : ∀ j, j < U.heap.size → W2.heap[j]? = W3.heap[j]? := fun j hj => g.block j (Nat.lt_of_lt_of_le hj h3.bel.size) (fun e => by have := (World.ownsRow.lt ho j e.symm).1; omega)
  have hty : ∀ (q : Nat) (cs : Array Value) (t : TypeId), t ≠ 117 → W3.heap[q]? = some (.cells cs t (0, 0)) → W2.heap[q]? = W3.heap[q]? := fun q cs t ht hq => g.block q (Array.getElem?_eq_some_iff.1 hq).1 (fun e => by
    obtain ⟨c2, h2⟩ := own_type ho e.symm
    rw [hq] at h2; cases h2; exact ht rfl)
  have hnU := h.nU
  have kp : ∀ {y : Value} {ys : List Int}, InnW n W3 y ys → InnW n W2 y ys := fun hy => hy.kept g.size (fun j hj => low j (by omega)) (fun q cs hq => hty q cs _ (by decide) hq)
  refine ⟨h3.bel.grown g h3.bel.size (fun j hj => (World.ownsRow.lt ho j hj).1), ?_, h.nU⟩
  have hl : vs.length = L.length * 2 := ho.1
  refine ⟨vs ++ [x, z], by rw [List.length_append]; exact o1, fun j u us e1 e2 => ?_⟩
  rw [kns_append] at e2
  have hl2 := kns_len L
  by_cases hj : j < L.length * 2
  · rw [List.getElem?_append_left (by omega)] at e1
    rw [List.getElem?_append_left (by omega)] at e2
    exact kp (hi j u us e1 e2)
  · rw [List.getElem?_append_right (by omega)] at e1 e2
    rw [hl] at e1
    rw [hl2] at e2
    generalize j - L.length * 2 = i at e1 e2
    have e2' : [r.1, r.2][i]? = some us := e2
    match i, e1, e2' with
    | 0, e1, e2 =>
      have q1 : x = u := by simpa using e1
      have q2 : r.1 = us := by simpa using e2
      rw [← q1, ← q2]; exact kp hx
    | 1, e1, e2 =>
      have q1 : z = u := by simpa using e1
      have q2 : r.2 = us := by simpa using e2
      rw [← q1, ← q2]; exact kp hz
    | i + 2, e1, e2 => simp at e1
theorem kns_set : ∀ (L : List Kno) (i : Nat) (r : List Int) (u : List Int), (∃ q, L[i]? = some (r, q)) → kns (L.set i (r, u)) = (kns L).set (i * 2 + 1) u
  | [], i, r, u, h => by obtain ⟨q, h⟩ := h; simp at h
  | a :: L, 0, r, u, h => by
    obtain ⟨q, h⟩ := h
    have : a = (r, q) := by simpa using h
    subst this; simp [kns]
  | a :: L, i + 1, r, u, h => by
    have ih := kns_set L i r u (by obtain ⟨q, h⟩ := h; exact ⟨q, by simpa using h⟩)
    rw [List.set_cons_succ, kns, ih, kns, show (i + 1) * 2 + 1 = (i * 2 + 1) + 1 + 1 by omega, List.set_cons_succ, List.set_cons_succ]
/-- Another word in one place. -/
theorem KX.setW {z : Value} {u : List Int} {g c i : Nat} {q : Kno} (h : KX n U W (.slice (some ⟨g, 0, none⟩) L.length c) L) (hq : L[i]? = some q) (hz : InnW n W z u) : KX n U (W.setCell ⟨g, i * 2 + 1, none⟩ z) (.slice (some ⟨g, 0, none⟩) L.length c) (L.set i (q.1, u)) := by
  obtain ⟨vs, ho, hi⟩ := h.ow
  have hgl := World.ownsRow.lt ho g rfl
  have hty : ∃ cs, W.heap[g]? = some (.cells cs 117 (0, 0)) := own_type ho rfl
  obtain ⟨cs0, hcs0⟩ := hty
  have kp : ∀ {y : Value} {ys : List Int}, InnW n W y ys → InnW n (W.setCell ⟨g, i * 2 + 1, none⟩ z) y ys := fun hy => hy.kept (by simp [World.setCell]) (fun j hj => Below.heap_setCell W ⟨g, i * 2 + 1, none⟩ z j (by have := h.nU; have := hgl.1; show j ≠ g; omega)) (fun q' cs hq' => Below.heap_setCell W ⟨g, i * 2 + 1, none⟩ z q' (fun e => by
    have e : q' = g := e
    rw [e, hcs0] at hq'; cases hq'))
  have hil := (List.getElem?_eq_some_iff.1 hq).1
  refine ⟨h.bel.setCell (p := ⟨g, i * 2 + 1, none⟩) (show U.heap.size ≤ g from hgl.1) z, ⟨vs.set (i * 2 + 1) z, ?_, fun j y ys e1 e2 => ?_⟩, h.nU⟩
  · rw [List.length_set]
    refine ⟨by rw [List.length_set]; exact ho.1, ?_⟩
    rcases ho.2 with ⟨h1, -⟩ | ⟨g', cap, cur, h1, hg, hh, hnc, hcm, hcs, ht⟩
    · cases h1
    · cases h1
      refine .inr ⟨g, c, cur.setIfInBounds (i * 2 + 1) z, rfl, hg, ?_, hnc, hcm, by simp [hcs], ?_⟩
      · have := Blk.set (show Blk W g 117 cur from hh) (i * 2 + 1) z
        exact this
      · rw [Array.toList_setIfInBounds, List.take_set, ht]
  · rw [kns_set L i q.1 u ⟨q.2, hq⟩] at e2
    by_cases hj : j = i * 2 + 1
    · subst hj
      have hl : i * 2 + 1 < vs.length := by have := ho.1; omega
      have hl2 : i * 2 + 1 < (kns L).length := by rw [kns_len]; omega
      rw [List.getElem?_set_self hl] at e1
      rw [List.getElem?_set_self hl2] at e2
      have q1 := Option.some.inj e1
      have q2 := Option.some.inj e2
      rw [← q1, ← q2]; exact kp hz
    · rw [List.getElem?_set_ne (Ne.symm hj)] at e1 e2
      exact kp (hi j y ys e1 e2)
end
/-- l and next together. -/
theorem KF.join {w W W2 : World} {p : Plant} {P : PTL} {v v' : Value} {L N : List Kno} {vs ns : List Value} (h : KF w W p P v L) (ho : W.ownsRow (w.heap.size + 1) 117 2 v L.length vs) (hi : ∀ (j : Nat) (x : Value) (xs : List Int), vs[j]? = some x → (kns L)[j]? = some xs → InnW w.heap.size W x xs) (hns : ns.length = N.length * 2) (hn : ∀ (j : Nat) (x : Value) (xs : List Int), ns[j]? = some x → (kns N)[j]? = some xs → InnW w.heap.size W x xs) (o1 : W2.ownsRow (w.heap.size + 1) 117 2 v' (L.length + N.length) (vs ++ ns)) (g : W.grownBy W2 v.ownBlock) :
    KF w W2 p P v' (L ++ N) := by
  have low : ∀ j, j < w.heap.size + 1 → W2.heap[j]? = W.heap[j]? := fun j hj => g.block j (Nat.lt_of_lt_of_le hj h.hB) (fun e => by have := (World.ownsRow.lt ho j e.symm).1; omega)
  have hty : ∀ (q : Nat) (cs : Array Value) (t : TypeId), t ≠ 117 → W.heap[q]? = some (.cells cs t (0, 0)) → W2.heap[q]? = W.heap[q]? := fun q cs t ht hq => g.block q (Array.getElem?_eq_some_iff.1 hq).1 (fun e => by
    obtain ⟨c2, h2⟩ := own_type ho e.symm
    rw [hq] at h2; cases h2; exact ht rfl)
  have kp : ∀ {y : Value} {ys : List Int}, InnW w.heap.size W y ys → InnW w.heap.size W2 y ys := fun hy => hy.kept g.size (fun j hj => low j (by omega)) (fun q cs hq => hty q cs _ (by decide) hq)
  refine ⟨h.bel.grown g h.bel.size (fun j hj => Nat.le_trans (by omega) (World.ownsRow.lt ho j hj).1), (low _ (by omega)).trans h.kp, ?_, Nat.le_trans h.hB g.size⟩
  have hl : vs.length = L.length * 2 := ho.1
  refine ⟨vs ++ ns, by rw [List.length_append]; exact o1, fun j u us e1 e2 => ?_⟩
  rw [kns_append] at e2
  have hl2 := kns_len L
  by_cases hj : j < L.length * 2
  · rw [List.getElem?_append_left (by omega)] at e1
    rw [List.getElem?_append_left (by omega)] at e2
    exact kp (hi j u us e1 e2)
  · rw [List.getElem?_append_right (by omega)] at e1 e2
    rw [hl] at e1
    rw [hl2] at e2
    exact kp (hn _ u us e1 e2)

end Go.Proofs.YtmlkpdeidpcidaaDoor
namespace Go.Proofs.YtmlkpdeidpcidaaDoor
open Go.RowKit
set_option linter.unusedVariables false
set_option linter.unusedSectionVars false

theorem wordS_cons (seen u : List Int) (e : Nat) : wordS seen ((e : Int) :: u) = seen[e]?.getD 0 :: wordS seen u := by simp [wordS]
theorem knL_set (seen : List Int) (l : List (List Int × List Int)) (i : Nat) (s : List Int) (u : List Int) (e : Nat) : knL seen (l.set i (s, (e : Int) :: u)) = (knL seen l).set i (s, seen[e]?.getD 0 :: wordS seen u) := by
  unfold knL; rw [List.map_set, wordS_cons]
theorem knL_push (seen : List Int) (l : List (List Int × List Int)) (s u : List Int) (e : Nat) : knL seen (l ++ [(s, (e : Int) :: u)]) = knL seen l ++ [(s, seen[e]?.getD 0 :: wordS seen u)] := by
  unfold knL; rw [List.map_append, ← wordS_cons]; rfl
theorem knL_append (seen : List Int) (l m : List (List Int × List Int)) : knL seen (l ++ m) = knL seen l ++ knL seen m := by unfold knL; rw [List.map_append]
section
variable {σ : Type} [DecidableEq σ] {op : Nat → σ → σ}
theorem posK_hit : ∀ {l : List (σ × List Int)} {s : σ} {c : Nat} {q : σ × List Int}, (∀ (j : Nat) (y : σ × List Int), j < c → l[j]? = some y → y.1 ≠ s) → l[c]? = some q → q.1 = s → posK l s = c
  | [], s, c, q, _, h, _ => by simp at h
  | a :: r, s, 0, q, _, h, e => by
    have : a = q := by simpa using h
    subst this
    unfold posK; rw [if_pos e]
  | a :: r, s, c + 1, q, hl, h, e => by
    unfold posK
    rw [if_neg (hl 0 a (by omega) rfl), posK_hit (l := r) (c := c) (q := q) (fun j y hj hy => hl (j + 1) y (by omega) (by simpa using hy)) (by simpa using h) e]
theorem posK_miss : ∀ {l : List (σ × List Int)} {s : σ}, (∀ (j : Nat) (y : σ × List Int), l[j]? = some y → y.1 ≠ s) → posK l s = l.length
  | [], s, _ => rfl
  | a :: r, s, hl => by
    unfold posK
    rw [if_neg (hl 0 a rfl), posK_miss (l := r) (fun j y hy => hl (j + 1) y (by simpa using hy)), List.length_cons]
variable {l next : List (σ × List Int)} {x : σ × List Int} {e : Nat}
theorem bwAdd_known (h : knownB l (op e x.1) = true) : bwAdd op l x next e = next := by unfold bwAdd; rw [if_pos h]
theorem bwAdd_new (h : knownB l (op e x.1) = false) (hp : posK next (op e x.1) = next.length) : bwAdd op l x next e = next ++ [(op e x.1, (e : Int) :: x.2)] := by unfold bwAdd; rw [if_neg (by rw [h]; simp), if_pos hp]
theorem bwAdd_less {c : Nat} {q : σ × List Int} (h : knownB l (op e x.1) = false) (hp : posK next (op e x.1) = c) (hq : next[c]? = some q) (hl : lessB ((e : Int) :: x.2) q.2 = true) : bwAdd op l x next e = next.set c (op e x.1, (e : Int) :: x.2) := by
  have hc := (List.getElem?_eq_some_iff.1 hq).1
  unfold bwAdd; rw [if_neg (by rw [h]; simp), hp, if_neg (by omega), hq, Option.map_some, Option.getD_some, if_pos hl]
theorem bwAdd_not {c : Nat} {q : σ × List Int} (h : knownB l (op e x.1) = false) (hp : posK next (op e x.1) = c) (hq : next[c]? = some q) (hl : lessB ((e : Int) :: x.2) q.2 = false) : bwAdd op l x next e = next := by
  have hc := (List.getElem?_eq_some_iff.1 hq).1
  unfold bwAdd; rw [if_neg (by rw [h]; simp), hp, if_neg (by omega), hq, Option.map_some, Option.getD_some, if_neg (by rw [hl]; simp)]
theorem bw_mid {ev : Nat} {layer : List (σ × List Int)} (k e : Nat) (x : σ × List Int) : NX op l (pairsOf (layer.take k) ev ++ evsOf x e) (bwRow op l x (bwLay op l ev (layer.take k)) e) := nx_row (nx_all l ev (layer.take k)) x e
theorem bw_in {s0 : σ} {ev n : Nat} {layer : List (σ × List Int)} (h : LBk op s0 ev n l layer) {k : Nat} (hx : layer[k]? = some x) {e : Nat} (he : e ≤ ev) : ∀ y ∈ bwRow op l x (bwLay op l ev (layer.take k)) e, (∃ a b, y.1 = op b a ∧ b < ev) ∧ ∀ c ∈ y.2, 0 ≤ c ∧ c < (ev : Int) := fun y hy => by
  obtain ⟨x', e', hm, e1, e2⟩ := (bw_mid (op := op) (l := l) (ev := ev) (layer := layer) k e x).run y hy
  have hin : x' ∈ layer ∧ e' < ev := by
    rcases List.mem_append.1 hm with hm | hm
    · obtain ⟨h1, h2⟩ := mem_pairs.1 hm
      exact ⟨List.mem_of_mem_take h1, h2⟩
    · obtain ⟨q, hq, e3⟩ := List.mem_map.1 hm
      cases e3
      exact ⟨List.mem_of_getElem? hx, Nat.lt_of_lt_of_le (List.mem_range.1 hq) he⟩
  refine ⟨⟨x'.1, e', e1, hin.2⟩, fun c hc => ?_⟩
  rw [e2] at hc
  rcases List.mem_cons.1 hc with rfl | hc
  · omega
  · exact (h.run x' ((h.lay x').1 hin.1).1).2.1 c hc
end
theorem bw_len {p : Plant} (z : p.m.st ≤ 6) {ev n : Nat} {l layer : List (List Int × List Int)} {x : List Int × List Int} (h : LBk (opB p) (rngI p.m.st.toNat) ev n l layer) {k : Nat} (hx : layer[k]? = some x) {e : Nat} (he : e ≤ ev) : (bwRow (opB p) l x (bwLay (opB p) l ev (layer.take k)) e).length ≤ 64 := by
  have h1 := nodup_sub (m := subs 6) (bw_mid (op := opB p) (l := l) (ev := ev) (layer := layer) k e x).nd (fun s hs => by
    obtain ⟨y, hy, rfl⟩ := List.mem_map.1 hs
    obtain ⟨⟨a, b, e1, -⟩, -⟩ := bw_in h hx he y hy
    rw [e1]
    exact mem_subs 6 _ (inc_flt (inc_rng9 _) _) (fun y hy => by have := ((mem_into _ _ _ _).1 hy).1; omega))
  rw [List.length_map, subs_len] at h1
  exact h1

end Go.Proofs.YtmlkpdeidpcidaaDoor
