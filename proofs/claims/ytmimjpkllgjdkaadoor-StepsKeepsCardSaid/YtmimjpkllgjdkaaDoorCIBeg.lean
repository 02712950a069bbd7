/-
  The walk of initial.Began.
-/
import Derived.Test.YtmimjpkllgjdkaaDoorG35
import Derived.Test.YtmimjpkllgjdkaaDoorCIWat
import Derived.Test.YtmimjpkllgjdkaaDoorG27
import Derived.Test.YtmimjpkllgjdkaaDoorG30
import Derived.Test.YtmimjpkllgjdkaaDoorG15
namespace Go.Proofs.YtmimjpkllgjdkaaDoor
open Go.RowKit Go.Shelf
set_option linter.unusedVariables false
attribute [local go_sem] Oper.semAt_some

/-- Going back from a set, number by number. -/
def bkS (p : Plant) (S0 : Nat → Nat) (vs : List Int) : Nat → Nat := vs.foldl (fun S v => backS p S v.toNat) S0
theorem bkS_snoc (p : Plant) (S0 : Nat → Nat) (vs : List Int) (v : Int) : bkS p S0 (vs ++ [v]) = backS p (bkS p S0 vs) v.toNat := by simp [bkS, List.foldl_append]
theorem on_bd {p : Plant} (hm : mayB p.m = true) (u : List Int) : ∀ x ∈ onL p u, 0 ≤ x ∧ x < p.m.st := fun x hx => by
  have hz := mayB_size hm
  unfold sizeOk at hz
  have := ((mem_on _ _ _).1 hx).1; omega
theorem rep_bk {p : Plant} (hp : mayP p = true) {S0 : Nat → Nat} (h0 : RepI S0 (rngI p.m.st.toNat)) : ∀ (us : List Int), (∀ v ∈ us, v ∈ p.seen) → RepI (bkS p S0 us.reverse) (onL p us)
  | [], _ => by
    rw [on_nil ((mayP_iff p).1 hp).1]; exact h0
  | v :: r, h => by
    have hm := ((mayP_iff p).1 hp).1
    have ih := rep_bk hp h0 r (fun x hx => h x (by simp [hx]))
    rw [List.reverse_cons, bkS_snoc, on_cons hm]
    obtain ⟨k, hk, e1⟩ := List.getElem_of_mem (h v (by simp))
    have := rep_back hp ih.1 (on_bd hm r) hk
    unfold opB at this
    rw [List.getElem?_eq_getElem hk, Option.getD_some, e1] at this
    exact this
theorem on_empty {p : Plant} (hm : mayB p.m = true) {u : List Int} (h : onL p u = []) : ∀ t : List Int, onL p (t ++ u) = []
  | [] => h
  | v :: r => by
    rw [List.cons_append, on_cons hm, on_empty hm h r, List.eq_nil_iff_forall_not_mem]
    intro x hx
    obtain ⟨-, t, -, ht⟩ := (mem_into _ _ _ _).1 hx
    cases ht
def seVals {seen : List Int} (pre : List (SE seen)) : List Int := pre.map fun x => x.1.2
theorem seVals_snoc {seen : List Int} (pre : List (SE seen)) (x : SE seen) : seVals (pre ++ [x]) = seVals pre ++ [x.1.2] := by simp [seVals]
theorem seVals_in {seen : List Int} (pre : List (SE seen)) : ∀ v ∈ (seVals pre).reverse, v ∈ seen := fun v hv => by
  rw [List.mem_reverse] at hv
  obtain ⟨x, -, rfl⟩ := List.mem_map.1 hv
  exact x.2
theorem rep_pre {p : Plant} (hp : mayP p = true) {S0 : Nat → Nat} (h0 : RepI S0 (rngI p.m.st.toNat)) (pre : List (SE p.seen)) : RepI (bkS p S0 (seVals pre)) (onL p (seVals pre).reverse) := by
  have := rep_bk hp h0 (seVals pre).reverse (seVals_in pre)
  rwa [List.reverse_reverse] at this
theorem rep_empty {S : Nat → Nat} {l : List Int} (h : Rep S l) (he : emptyB S = true) : l = [] := by
  rw [List.eq_nil_iff_forall_not_mem]
  intro x hx
  obtain ⟨b0, b1⟩ := h.bd x hx
  have h1 := empty_has he x.toNat (by omega)
  rw [(h.mem x.toNat (by omega)).2 (by rwa [Int.toNat_of_nonneg b0])] at h1
  cases h1

set_option maxRecDepth 100000 in
set_option maxHeartbeats 400000 in
theorem ibackward_any (a : Option Addr) (n c : Nat) (w : World) :
    Calls Tryd.prog 84 #[.slice a n c] w fun e w' => e = .returned (.func (.func 115) #[] #[.pointer (some ⟨w.heap.size, 0, none⟩)]) ∧ w' = w.alloc (.cells #[.slice a n c] 22) := by
  have hmf : ∀ (fn : Fn) (first cap : Array Value) (w : World), (Instr.makeFunc fn first cap).run Tryd.prog w = .ok (.func fn first cap) w := fun _ _ _ _ => rfl
  go_enter Tryd.func84, Tryd.ntmps84
  go_wp2_with fail
  go_ret
  exact ⟨rfl, rfl⟩

set_option maxRecDepth 100000 in
set_option maxHeartbeats 4000000 in
theorem began_bad (p : Plant) (P : PTL) (wa : Option Addr) (wc : Nat) (word : List Int) (w : World) (h : Hid (PAt w p P)) (hp : Hid (mayP p = false)) :
    Calls Tryd.prog 41 #[ptval p P, .slice wa word.length wc] w fun e w' => ListPost w (begOut p word) e w' := by
  have B : Hid (Below w.heap.size w (w.alloc (.cells (ptcells p P) 44))) := (Below.refl _ _).alloc (Nat.le_refl _) _
  have KP : Hid (Blk (w.alloc (.cells (ptcells p P) 44)) w.heap.size 44 (ptcells p P)) := Blk.new w _ _
  go_enter Tryd.func41, Tryd.ntmps41
  obtain ⟨x0, x1, x2, x3, x4, x5, x6⟩ := ptcell_at KP.out
  go_wp2_with fail
  clear x0 x1 x2 x3 x4 x5 x6
  revert B KP
  generalize (w.alloc (.cells (ptcells p P) 44)) = V0
  intro B KP
  refine (iwatch_bad p P V0 (Hid.of (h.out.below B.out (Nat.le_refl _))) hp).mono ?_
  rintro e V1 ⟨rfl, hb⟩
  replace B := Hid.of (B.out.trans (hb.mono B.out.size))
  clear hb KP
  have B2 : Hid (Below w.heap.size w (V1.alloc (.cells #[.nilFunc] 92))) := B.out.alloc B.out.size _
  clear B
  go_wp2_with fail
  refine bodyPost_ret (v := .tuple #[.slice none 0 0, .int .i64 2]) (by simp [results, go_sem]) rfl ?_
  rw [begOut_bad hp.out]
  exact ⟨none, 0, rfl, .inl rfl, Nat.zero_le _, B2.out⟩

set_option maxRecDepth 100000 in
set_option maxHeartbeats 16000000 in
theorem began_in (p : Plant) (Pl : ML) (sa : Option Addr) (sc : Nat) (ta : Option Addr) (tc : Nat) (wa : Option Addr) (wc : Nat) (word : List Int) (w : World) (h : Hid (PAt w p ⟨Pl, sa, sc, ta, tc⟩)) (hw : Hid (At w wa word)) (hwl : Hid (word.length ≤ maxLen)) (hT : Hid (Tab w)) (hp : Hid (mayP p = true)) :
    CallsIn Fence.wide 5 Tryd.prog 41 #[ptval p ⟨Pl, sa, sc, ta, tc⟩, .slice wa word.length wc] w fun e w' => ListPost w (begOut p word) e w' := by
  have hmP := (mayP_iff p).1 hp.out
  have hz := mayB_size hmP.1
  unfold sizeOk at hz
  have hMM := Hid.of hmP.1
  have hz6 := Hid.of hmP.2.1
  obtain ⟨N, hN⟩ : ∃ N : Nat, Hid (p.m.st = (N : Int)) := ⟨p.m.st.toNat, by show _ = _; omega⟩
  have hN6 : N ≤ 6 := by have h1 := hN.out; have h2 := hmP.2.1; omega
  have HNT : Hid (p.m.st.toNat = N) := by show _ = _; rw [hN.out]; simp
  have HSB : Hid (∀ v ∈ p.seen, 0 ≤ v ∧ v < 8) := fun v hv => by
    have := ((rowB_iff _ (by omega) _).1 hmP.2.2.1).2 v hv
    omega
  obtain ⟨T0, HT0⟩ : ∃ T, Hid (T = ofS p.m.starts) := ⟨_, rfl⟩
  have oT : Hid (okS T0) := by
    have r1 := rep_of (l := p.m.starts) (fun x hx => by have := (may_starts hmP.1).2 x hx; omega) p.m.starts.length
    rw [List.take_of_length_le (Nat.le_refl _)] at r1
    show okS T0
    rw [HT0.out]; exact r1.ok
  have OF1 : Hid (∀ Y, Below w.heap.size w Y → Calls Tryd.prog 57 #[.slice Pl.a1 p.m.starts.length Pl.c1] Y fun e Y' => e = .returned (sval T0) ∧ Below Y.heap.size Y Y') := fun Y hb => by
    rw [HT0.out]
    exact of_any Pl.a1 Pl.c1 p.m.starts Y (h.out.m.s.below hb (Nat.le_refl _)) (Nat.le_trans h.out.m.s1 h.out.m.s2) (fun x hx => by have := (may_starts hmP.1).2 x hx; omega)
  clear hmP hz
  refine callsIn_of_wp_marks Tryd.func41 rfl trivial ?_ rfl
  simp only [Tryd.ntmps41, List.size_toArray, List.length_cons, List.length_nil, Nat.reduceAdd, Nat.reduceSub, Array.replicate_succ, Array.replicate_zero, List.push_toArray, List.append_toArray, List.nil_append, List.cons_append]
  refine wpIn_wide.2 ?_
  have B : Hid (Below w.heap.size w (w.alloc (.cells (ptcells p ⟨Pl, sa, sc, ta, tc⟩) 44))) := (Below.refl _ _).alloc (Nat.le_refl _) _
  have KP : Hid (Blk (w.alloc (.cells (ptcells p ⟨Pl, sa, sc, ta, tc⟩) 44)) w.heap.size 44 (ptcells p ⟨Pl, sa, sc, ta, tc⟩)) := Blk.new w _ _
  obtain ⟨x0, x1, x2, x3, x4, x5, x6⟩ := ptcell_at KP.out
  go_wp2_with fail
  clear x0 x1 x2 x3 x4 x5 x6
  revert B KP
  generalize (w.alloc (.cells (ptcells p ⟨Pl, sa, sc, ta, tc⟩) 44)) = V0
  intro B KP
  refine (iwatch_ok p Pl sa sc ta tc V0 (Hid.of (h.out.below B.out (Nat.le_refl _))) (Hid.of (hT.out.below B.out hT.out.lt)) hp).mono ?_
  rintro e V1 ⟨pa, rfl, ti, hb⟩
  replace B := Hid.of (B.out.trans (hb.mono B.out.size))
  replace KP := Hid.of (KP.out.below hb KP.out.lt)
  clear hb
  have hb : Below V1.heap.size V1 (V1.alloc (.cells #[backV pa] 92)) := (Below.refl _ _).alloc (Nat.le_refl _) _
  replace B := Hid.of (B.out.trans (hb.mono B.out.size))
  replace KP := Hid.of (KP.out.below hb KP.out.lt)
  have TIa := Hid.of (ti.below hb ti.lt)
  have KF := Hid.of (Blk.new V1 92 #[backV pa])
  clear hb ti
  obtain ⟨x0, x1, x2, x3, x4, x5, x6⟩ := ptcell_at KP.out
  go_wp2_with fail
  clear x0 x1 x2 x3 x4 x5 x6
  revert B KP TIa KF
  generalize V1.alloc (.cells #[backV pa] 92) = V2
  generalize V1.heap.size = pf
  intro B KP TIa KF
  refine (cisSeen_any p ⟨Pl, sa, sc, ta, tc⟩ wa wc word V2 (Hid.of (h.out.below B.out (Nat.le_refl _))) (Hid.of (hw.out.below B.out (Nat.le_refl _))) hwl).mono ?_
  rintro e V3 ⟨rfl, hb⟩
  rw [allIn_eq]
  replace B := Hid.of (B.out.trans (hb.mono B.out.size))
  replace KP := Hid.of (KP.out.below hb KP.out.lt)
  replace TIa := Hid.of (TIa.out.below hb TIa.out.lt)
  replace KF := Hid.of (KF.out.below hb KF.out.lt)
  clear hb
  cases hin : inSeen p.seen word with
  | false =>
    have HO : Hid (begOut p word = ([], 6)) := begOut_out hp.out hin
    clear hin
    go_wp2_with fail
    refine ⟨.tuple #[.slice none 0 0, .int .i64 6], by simp [results, go_sem], ?_⟩
    rw [HO.out]
    exact ⟨none, 0, rfl, .inl rfl, Nat.zero_le _, B.out⟩
  | true =>
    have HIN : Hid (∀ e ∈ word, e ∈ p.seen) := (inSeen_iff _ _).1 hin
    replace hin := Hid.of hin
    obtain ⟨x0, x1, x2, x3, x4, x5, x6⟩ := ptcell_at KP.out
    go_wp2_with fail
    clear x0 x1 x2 x3 x4 x5 x6
    refine (iall_any p ⟨Pl, sa, sc, ta, tc⟩ N hN (by omega) V3).mono ?_
    rintro e V4 ⟨rfl, hb⟩
    replace B := Hid.of (B.out.trans (hb.mono B.out.size))
    replace KP := Hid.of (KP.out.below hb KP.out.lt)
    replace TIa := Hid.of (TIa.out.below hb TIa.out.lt)
    replace KF := Hid.of (KF.out.below hb KF.out.lt)
    clear hb
    obtain ⟨S0, HS0⟩ : ∃ S0, Hid (S0 = allF N) := ⟨_, rfl⟩
    have HR0 : Hid (RepI S0 (rngI p.m.st.toNat)) := by show RepI _ _; rw [HS0.out, HNT.out]; exact rep_all (by omega)
    rw [← HS0.out]
    have A1 : Hid (V4.heap.size ≤ V4.heap.size) := Nat.le_refl _
    have hb : Below V4.heap.size V4 (V4.alloc (.cells (scells S0) 69)) := (Below.refl _ _).alloc (Nat.le_refl _) _
    have hpP : Hid (w.heap.size < V4.heap.size) := KP.out.lt
    have hpF : Hid (pf < V4.heap.size) := KF.out.lt
    have hpT : Hid (pa < V4.heap.size) := TIa.out.lt
    have B5 := Hid.of B.out
    replace B := Hid.of (B.out.trans (hb.mono B.out.size))
    replace KP := Hid.of (KP.out.below hb KP.out.lt)
    replace TIa := Hid.of (TIa.out.below hb TIa.out.lt)
    replace KF := Hid.of (KF.out.below hb KF.out.lt)
    have KS : Hid (SB (V4.alloc (.cells (scells S0) 69)) V4.heap.size S0) := Blk.new V4 _ _
    clear hb
    go_wp2_with fail
    have hpsZ : Hid (V4.heap.size < (V4.alloc (.cells (scells S0) 69)).heap.size) := KS.out.lt
    have hwA : Hid (word = [] ∨ ∃ b off, wa = some ⟨b, off, none⟩ ∧ b < V4.heap.size ∧ Cells (V4.alloc (.cells (scells S0) 69)) b off word) := by
      rcases hw.out with h0 | ⟨b, off, h1, h2, h3⟩
      · exact .inl h0
      · exact .inr ⟨b, off, h1, Nat.lt_trans h2 hpP.out, fun j hj => (B.out.cell (p := ⟨b, off + j, none⟩) h2).trans (h3 j hj)⟩
    clear B5 A1
    revert hpP hpF hpT B KP TIa KF KS hpsZ hwA
    generalize V4.alloc (.cells (scells S0) 69) = V5
    generalize V4.heap.size = ps
    intro hpP hpF hpT B KP TIa KF KS hpsZ hwA
    refine (ibackward_any wa word.length wc V5).mono ?_
    rintro e V6 ⟨rfl, rfl⟩
    have hb : Below V5.heap.size V5 (V5.alloc (.cells #[.slice wa word.length wc] 22)) := (Below.refl _ _).alloc (Nat.le_refl _) _
    have BX : Hid (Boxed (V5.alloc (.cells #[.slice wa word.length wc] 22)) V5.heap.size 22 (.slice wa word.length wc)) := Boxed.new V5 _ _
    have hz0 : Hid (V5.heap.size < (V5.alloc (.cells #[.slice wa word.length wc] 22)).heap.size) := BX.out.lt
    have BW0 := Hid.of (B.out.trans (hb.mono B.out.size))
    replace KP := Hid.of (KP.out.below hb KP.out.lt)
    replace TIa := Hid.of (TIa.out.below hb TIa.out.lt)
    replace KF := Hid.of (KF.out.below hb KF.out.lt)
    replace KS := Hid.of (KS.out.below hb KS.out.lt)
    replace hwA : Hid (word = [] ∨ ∃ b off, wa = some ⟨b, off, none⟩ ∧ b < ps ∧ Cells (V5.alloc (.cells #[.slice wa word.length wc] 22)) b off word) := by
      rcases hwA.out with h0 | ⟨b, off, h1, h2, h3⟩
      · exact .inl h0
      · exact .inr ⟨b, off, h1, h2, fun j hj => (hb.cell (p := ⟨b, off + j, none⟩) (Nat.lt_trans h2 hpsZ.out)).trans (h3 j hj)⟩
    clear hb B
    go_wp2_with fail
    revert hpsZ BX hz0 BW0 KP TIa KF KS hwA
    generalize V5.alloc (.cells #[.slice wa word.length wc] 22) = W0
    generalize V5.heap.size = Bn
    intro hpsZ BX hz0 BW0 KP TIa KF KS hwA
    have hpsP : Hid (w.heap.size ≤ ps) := Nat.le_of_lt hpP.out
    obtain ⟨xs, hxs⟩ := se_of (seen := p.seen) (rvK word word.length) (rvK_in HIN.out _ (Nat.le_refl _))
    have hps0 := hpsZ.out
    have hbn0 := hz0.out
    have heq : ∀ (S : Nat → Nat) (w : World), (Op.equalIn 10000 69 (.agg #[.int .u64 (S 0), .int .u64 (S 1), .int .u64 (S 2), .int .u64 (S 3)]) (.agg #[.int .u64 0, .int .u64 0, .int .u64 0, .int .u64 0])).run Tryd.prog w = .ok (emptyB S) w := run_equalIn_set
    have hgd := run_guard_set
    refine (wpIn_wide (n := 5)).1 ?_
    refine wpIn_rangeFunc_ownG rfl (by omega) (gf := 115) (lb := #[.pointer (some ⟨Bn, 0, none⟩)]) rfl trivial (enters_of Tryd.func115 (by kernel_rfl) rfl)
      (bkw_stops 4 (by omega) Bn ps wa wc word hwl.out xs hxs W0 BX.out (by omega) hwA.out) KpB.trans (KpB.put (by omega) hbn0) (Below.refl _ _) (fun _ => rfl)
      (fun pre W' => SB W' ps (bkS p S0 (seVals pre)) ∧ Boxed W' Bn 22 (.slice wa word.length wc) ∧ Below ps W0 W')
      (fun c pre W' => (c = .exit 0 ∧ emptyB (bkS p S0 (seVals pre.dropLast)) = true) ∧ SB W' ps (bkS p S0 (seVals pre.dropLast)) ∧ Boxed W' Bn 22 (.slice wa word.length wc) ∧ Below ps W0 W')
      (OwnFrom.and (Go.Own.from (own_SB ps (fun pre : List (SE p.seen) => bkS p S0 (seVals pre))) _) (OwnFrom.and (Go.Own.from (boxed_own Bn 22 (fun _ => .slice wa word.length wc)) _) (ownFrom_below (by omega) (by omega))))
      (fun c => OwnFrom.and (ownFrom_pure _ (fun pre : List (SE p.seen) => c = .exit 0 ∧ emptyB (bkS p S0 (seVals pre.dropLast)) = true)) (OwnFrom.and (Go.Own.from (own_SB ps (fun pre : List (SE p.seen) => bkS p S0 (seVals pre.dropLast))) _) (OwnFrom.and (Go.Own.from (boxed_own Bn 22 (fun _ => .slice wa word.length wc)) _) (ownFrom_below (by omega) (by omega)))))
      ⟨KS.out, BX.out, Below.refl _ _⟩
      (fun x => { tmps := #[ptval p ⟨Pl, sa, sc, ta, tc⟩, .slice wa word.length wc, .pointer (some ⟨w.heap.size, 0, none⟩), undef, .slice none 0 0, .int .i64 0, .pointer (some ⟨pf, 0, none⟩), .int .i64 0, .pointer (some ⟨ps, 0, none⟩), undef, .int .i64 x.1.2, .tuple #[backV pa, .int .i64 0], .agg #[.int .i64 p.m.st, .int .i64 p.m.ev, .slice Pl.a1 p.m.starts.length Pl.c1, .slice Pl.a2 p.m.arrows.length Pl.c2, .slice Pl.a3 p.m.ends.length Pl.c3, .slice sa p.seen.length sc, .slice ta p.secret.length tc], .tuple #[backV pa, .int .i64 0], backV pa, .int .i64 0, .int .i64 0, .bool false, undef, .agg #[.int .i64 p.m.st, .int .i64 p.m.ev, .slice Pl.a1 p.m.starts.length Pl.c1, .slice Pl.a2 p.m.arrows.length Pl.c2, .slice Pl.a3 p.m.ends.length Pl.c3, .slice sa p.seen.length sc, .slice ta p.secret.length tc], .slice wa word.length wc, .bool true, .bool false, .agg #[.int .i64 p.m.st, .int .i64 p.m.ev, .slice Pl.a1 p.m.starts.length Pl.c1, .slice Pl.a2 p.m.arrows.length Pl.c2, .slice Pl.a3 p.m.ends.length Pl.c3, .slice sa p.seen.length sc, .slice ta p.secret.length tc], sval S0, .slice wa word.length wc, .func (.func 115) #[] #[.pointer (some ⟨Bn, 0, none⟩)], .int .i64 x.1.1, .int .i64 x.1.2, undef, undef, undef, undef, undef, undef, undef, undef, undef, undef, undef, undef, undef, undef], defers := [] }) ?assign ?body ?done ?stop
    case assign =>
      intro l x W K hK
      gi_wp2
      exact hK
    case body =>
      rintro l' pre x W' ⟨hO, hBx, hB'⟩ hlt
      have hRep := Hid.of (rep_pre hp.out HR0.out pre)
      have hx := HSB.out x.1.2 x.2
      obtain ⟨se, HSE⟩ : ∃ se : Nat, Hid (x.1.2 = (se : Int)) := ⟨x.1.2.toNat, by show _ = _; omega⟩
      have hse8 : se < 8 := by have := HSE.out; omega
      have HX : Hid (bkS p S0 (seVals (pre ++ [x])) = toF (fun n => baT p (se * 6 + n)) (allS (bkS p S0 (seVals pre)))) := by
        show _ = _
        rw [seVals_snoc, bkS_snoc, HSE.out, Int.toNat_natCast]; rfl
      have HD : Hid ((pre ++ [x]).dropLast = pre) := by show _ = _; simp
      have hFW := KF.out.below hB' hpF.out
      have c1 : W'.cell? ⟨pf, 0, none⟩ = some (backV pa) := hFW.cell 0 rfl
      have hTW := Hid.of (TIa.out.below hB' hpT.out)
      have HALL : Hid (∀ k ∈ allS (bkS p S0 (seVals pre)), k < 6) := fun k hk => by
        obtain ⟨h1, h2⟩ := (mem_allS _ k).1 hk
        have := on_bd hMM.out _ _ ((hRep.out.1.mem k h1).1 h2)
        have h6 := hz6.out
        omega
      have oQ := Hid.of hRep.out.1.ok
      have HTW := Hid.of (hT.out.below (BW0.out.trans (hB'.mono hpsP.out)) hT.out.lt)
      rw [HSE.out]
      clear hx
      have HB := Hid.of hB'
      have HO := Hid.of hO
      have HBX := Hid.of hBx
      clear hB' hO hBx hFW hRep
      obtain ⟨O, HOE⟩ : ∃ O, Hid (O = bkS p S0 (seVals pre)) := ⟨_, rfl⟩
      rw [← HOE.out] at HO HX HALL oQ
      obtain ⟨o0, o1, o2, o3⟩ := HO.out.cells
      have fO := HO.out.frozen
      cases hE : emptyB O with
      | true =>
        have he2 := heq O W'
        rw [hE] at he2
        clear heq
        gi_wp2
        exact ⟨(KeepsOthers.refl _).from _, ⟨rfl, by rw [HD.out, ← HOE.out]; exact hE⟩, by rw [HD.out, ← HOE.out]; exact HO.out, HBX.out, HB.out⟩
      | false =>
        have he2 := heq O W'
        rw [hE] at he2
        clear heq hE
        have hcall := Hid.of (iwatch1_any O oQ.out se hse8 (baT p) (fun _ => okS_tabK _ _ _ _) HALL.out pa W' HTW.out hTW.out)
        obtain ⟨U, HU⟩ : ∃ U, Hid (U = toF (fun n => baT p (se * 6 + n)) (allS O)) := ⟨_, rfl⟩
        rw [← HU.out] at hcall HX
        gi_wp2_with (refine ⟨trivial, ?_⟩; refine CallsIn.mono (CallsIn.inRound l' (callsIn_wide.2 hcall.out)) ?_; rintro e' w1 ⟨rfl, hb1⟩; have hO1 := Blk.below HO.out hb1 HO.out.lt; obtain ⟨y0, y1, y2, y3⟩ := SB.cells hO1; have fO1 := Blk.frozen hO1)
        have k1 : KeepsOthers W' w1 := ⟨hb1.size, fun k o hk _ => (hb1.block k (Array.getElem?_eq_some_iff.1 hk).1).trans hk⟩
        have k2 : Below ps W' w1 := hb1.mono (Nat.le_of_lt HO.out.lt)
        have k3 := below_set4 k2 (b' := ps) (Nat.le_refl _) (.int .u64 (U 0)) (.int .u64 (U 1)) (.int .u64 (U 2)) (.int .u64 (U 3))
        have k4 := Blk.other4 (Blk.below HBX.out hb1 HBX.out.lt) (b' := ps) (by omega) (.int .u64 (U 0)) (.int .u64 (U 1)) (.int .u64 (U 2)) (.int .u64 (U 3))
        exact ⟨((((k1.trans (KeepsOthers.setCell _ _ _)).trans (KeepsOthers.setCell _ _ _)).trans (KeepsOthers.setCell _ _ _)).trans (KeepsOthers.setCell _ _ _)).from _, ⟨k3, k4.trans HBX.out.symm⟩, by rw [HX.out]; exact SB.set4 hO1 _, k4, HB.out.trans k3⟩
    case done =>
      rintro D ys W' hD rfl ⟨hO, hBx, hB'⟩ hK
      have HRQ : Hid (RepI (bkS p S0 (seVals ys)) (onL p word)) := by
        have := rep_pre hp.out HR0.out ys
        have e1 : (seVals ys).reverse = word := by
          have h1 := rvK_take word word.length (Nat.le_refl _)
          rw [← hxs, List.map_map, List.take_of_length_le (Nat.le_refl _)] at h1
          exact h1
        rw [e1] at this
        exact this
      obtain ⟨Q, HQ⟩ : ∃ Q, Hid (Q = bkS p S0 (seVals ys)) := ⟨_, rfl⟩
      rw [← HQ.out] at HRQ hO
      have oQ := Hid.of HRQ.out.1.ok
      clear hxs
      have hMk : Hid (Marks w.heap.size [D] W') := by
        refine ⟨fun D' hD' => ?_, by simp⟩
        have e : D' = D := by simpa using hD'
        rw [e]
        exact ⟨Nat.le_trans BW0.out.size hD, hK⟩
      have BL := Hid.of (BW0.out.trans (hB'.mono hpsP.out))
      have KP1 := Hid.of (KP.out.below hB' (Nat.lt_of_lt_of_le hpP.out (Nat.le_refl _)))
      have KS1 := Hid.of hO
      have SA : Hid (∀ W, SB W ps Q → Blk W w.heap.size 44 (ptcells p ⟨Pl, sa, sc, ta, tc⟩) → W.cell? ⟨ps, 0, none⟩ = some (.int .u64 (Q 0)) ∧ W.cell? ⟨ps, 1, none⟩ = some (.int .u64 (Q 1)) ∧ W.cell? ⟨ps, 2, none⟩ = some (.int .u64 (Q 2)) ∧ W.cell? ⟨ps, 3, none⟩ = some (.int .u64 (Q 3)) ∧ W.cell? ⟨w.heap.size, 2, none⟩ = some (.slice Pl.a1 p.m.starts.length Pl.c1)) := fun W h1 h2 => by
        obtain ⟨x0, x1, x2, x3⟩ := SB.cells h1
        exact ⟨x0, x1, x2, x3, h2.cell 2 rfl⟩
      clear hO hB' hK hBx
      go_wp2_with fail
      refine Code.wp_mono (Q := regQ fun a' X => ∃ (va : Option Addr) (vc : Nat) (r36 r37 r38 r39 r40 r41 r42 : Value), a' = { tmps := #[ptval p ⟨Pl, sa, sc, ta, tc⟩, .slice wa word.length wc, .pointer (some ⟨w.heap.size, 0, none⟩), undef, .slice va (rowS (meetS Q T0)).length vc, .int .i64 0, .pointer (some ⟨pf, 0, none⟩), .int .i64 0, .pointer (some ⟨ps, 0, none⟩), undef, undef, .tuple #[backV pa, .int .i64 0], .agg #[.int .i64 p.m.st, .int .i64 p.m.ev, .slice Pl.a1 p.m.starts.length Pl.c1, .slice Pl.a2 p.m.arrows.length Pl.c2, .slice Pl.a3 p.m.ends.length Pl.c3, .slice sa p.seen.length sc, .slice ta p.secret.length tc], .tuple #[backV pa, .int .i64 0], backV pa, .int .i64 0, .int .i64 0, .bool false, undef, .agg #[.int .i64 p.m.st, .int .i64 p.m.ev, .slice Pl.a1 p.m.starts.length Pl.c1, .slice Pl.a2 p.m.arrows.length Pl.c2, .slice Pl.a3 p.m.ends.length Pl.c3, .slice sa p.seen.length sc, .slice ta p.secret.length tc], .slice wa word.length wc, .bool true, .bool false, .agg #[.int .i64 p.m.st, .int .i64 p.m.ev, .slice Pl.a1 p.m.starts.length Pl.c1, .slice Pl.a2 p.m.arrows.length Pl.c2, .slice Pl.a3 p.m.ends.length Pl.c3, .slice sa p.seen.length sc, .slice ta p.secret.length tc], sval S0, .slice wa word.length wc, .func (.func 115) #[] #[.pointer (some ⟨Bn, 0, none⟩)], undef, undef, undef, undef, undef, undef, undef, undef, undef, r36, r37, r38, r39, r40, r41, r42], defers := [mark D] } ∧ Own X w.heap.size (.slice va (rowS (meetS Q T0)).length vc) (rowS (meetS Q T0)) ∧ Marks w.heap.size [D] X ∧ Below w.heap.size w X) ?_ ?_
      rotate_left
      refine wp_region_held_drew (S := fun w' => w'.cell? ⟨ps, 0, none⟩ = some (.int .u64 (Q 0)) ∧ w'.cell? ⟨ps, 1, none⟩ = some (.int .u64 (Q 1)) ∧ w'.cell? ⟨ps, 2, none⟩ = some (.int .u64 (Q 2)) ∧ w'.cell? ⟨ps, 3, none⟩ = some (.int .u64 (Q 3)) ∧ w'.cell? ⟨w.heap.size, 2, none⟩ = some (.slice Pl.a1 p.m.starts.length Pl.c1)) (by kernel_rfl) (SA.out _ (Blk.drew KS1.out) (Blk.drew KP1.out)) (fun hS => ?_)
      refine wpAnyH_take (i := 0) (v := sval Q) rfl (by kernel_rfl) (by kernel_rfl) (by kernel_rfl) (fun _ _ _ h => h) (Or.inl ⟨by kernel_rfl, fun w' hw' => by obtain ⟨q0, q1, q2, q3, q4⟩ := hw'; go_simp⟩) hS ?_
      refine wpAnyH_take (i := 1) (v := .pointer (some ⟨w.heap.size, 0, none⟩)) rfl (by kernel_rfl) (by kernel_rfl) (by kernel_rfl) (fun _ _ _ h => h) (Or.inl ⟨by kernel_rfl, fun w' hw' => by obtain ⟨q0, q1, q2, q3, q4⟩ := hw'; go_simp⟩) hS ?_
      refine wpAnyH_take (i := 2) (v := .pointer (some ⟨w.heap.size, 2, none⟩)) rfl (by kernel_rfl) (by kernel_rfl) (by kernel_rfl) (fun _ _ _ h => h) (Or.inl ⟨by kernel_rfl, fun w' hw' => by obtain ⟨q0, q1, q2, q3, q4⟩ := hw'; go_simp⟩) hS ?_
      refine wpAnyH_take (i := 3) (v := .slice Pl.a1 p.m.starts.length Pl.c1) rfl (by kernel_rfl) (by kernel_rfl) (by kernel_rfl) (fun _ _ _ h => h) (Or.inl ⟨by kernel_rfl, fun w' hw' => by obtain ⟨q0, q1, q2, q3, q4⟩ := hw'; go_simp⟩) hS ?_
      replace BL : Hid (Below w.heap.size w W'.drew) := BL.out.drew
      replace KP1 : Hid (Blk W'.drew w.heap.size 44 (ptcells p ⟨Pl, sa, sc, ta, tc⟩)) := Blk.drew KP1.out
      replace KS1 : Hid (SB W'.drew ps Q) := Blk.drew KS1.out
      replace hMk : Hid (Marks w.heap.size [D] W'.drew) := ⟨fun D' hD' => hMk.out.at' D' hD', hMk.out.nd⟩
      revert hS BL KP1 KS1 hMk
      generalize W'.drew = Y0
      intro hS BL KP1 KS1 hMk
      simp only [Act.put, List.setIfInBounds_toArray]
      refine wpAnyH_ready (rs := [4]) (by kernel_rfl) (by simp) ?_
      refine AllReadyH.cons rfl (fun K' hK' => ?_) AllReadyH.nil
      clear hS
      go_simp
      refine (OF1.out _ BL.out).mono ?_
      rintro e Y1 ⟨rfl, hb⟩
      replace BL := Hid.of (BL.out.trans (hb.mono BL.out.size))
      replace KP1 := Hid.of (KP1.out.below hb KP1.out.lt)
      replace KS1 := Hid.of (KS1.out.below hb KS1.out.lt)
      replace hMk := Hid.of (hMk.out.below hb hMk.out.lt)
      refine hK'.out _ _ (SA.out _ KS1.out KP1.out) (fun hS => ?_)
      clear hK' K' hb
      refine wpAnyH_ready (rs := [5]) (by kernel_rfl) (by simp) ?_
      refine AllReadyH.cons rfl (fun K' hK' => ?_) AllReadyH.nil
      clear hS
      go_simp
      refine (meet_any Q T0 _ oQ.out oT.out).mono ?_
      rintro e Y2 ⟨rfl, hb⟩
      replace BL := Hid.of (BL.out.trans (hb.mono BL.out.size))
      replace KP1 := Hid.of (KP1.out.below hb KP1.out.lt)
      replace KS1 := Hid.of (KS1.out.below hb KS1.out.lt)
      replace hMk := Hid.of (hMk.out.below hb hMk.out.lt)
      refine hK'.out _ _ (SA.out _ KS1.out KP1.out) (fun hS => ?_)
      clear hK' K' hb
      obtain ⟨Z, HZ⟩ : ∃ Z, Hid (Z = meetS Q T0) := ⟨_, rfl⟩
      rw [← HZ.out]
      have oZ : Hid (okS Z) := by show okS Z; rw [HZ.out]; exact okS_meet oQ.out
      refine wpAnyH_ready (rs := [6]) (by kernel_rfl) (by simp) ?_
      refine AllReadyH.cons rfl (fun K' hK' => ?_) AllReadyH.nil
      clear hS
      go_simp
      refine (rowO_any Z _ oZ.out (hT.out.below BL.out hT.out.lt)).mono ?_
      rintro e Y3 ⟨v, rfl, ov, hb⟩
      have BL0 := BL.out.size
      replace BL := Hid.of (BL.out.trans (hb.mono BL.out.size))
      replace KP1 := Hid.of (KP1.out.below hb KP1.out.lt)
      replace KS1 := Hid.of (KS1.out.below hb KS1.out.lt)
      replace hMk := Hid.of (hMk.out.below hb hMk.out.lt)
      have OV := Hid.of (Own.low ov BL0)
      refine hK'.out _ _ (SA.out _ KS1.out KP1.out) (fun hS => ?_)
      clear hK' K' hb ov
      obtain ⟨va, vc, hv, -, -, -⟩ := own_form2 OV.out
      subst hv
      refine wpAnyH_take (i := 7) (v := .slice va (rowS Z).length vc) rfl (by kernel_rfl) (by kernel_rfl) (by kernel_rfl) (fun _ _ _ h => h) (Or.inl ⟨by kernel_rfl, fun w' hw' => by obtain ⟨q0, q1, q2, q3, q4⟩ := hw'; go_simp⟩) hS ?_
      refine wpAnyH_take (i := 8) (v := .int .i64 0) rfl (by kernel_rfl) (by kernel_rfl) (by kernel_rfl) (fun _ _ _ h => h) (Or.inl ⟨by kernel_rfl, fun w' hw' => by obtain ⟨q0, q1, q2, q3, q4⟩ := hw'; go_simp⟩) hS ?_
      refine wpAnyH_done (by kernel_rfl) ?_ _
      exact ⟨va, vc, _, _, _, _, _, _, _, rfl, OV.out, hMk.out, BL.out⟩
      refine regQ_imp ?_
      rintro a' X ⟨va, vc, r36, r37, r38, r39, r40, r41, r42, rfl, ov, hmk, bl⟩
      have OV := Hid.of ov
      have HMK := Hid.of hmk
      have BLX := Hid.of bl
      clear ov hmk bl hMk KP1 KS1 BL
      obtain ⟨Z, HZ⟩ : ∃ Z, Hid (Z = meetS Q T0) := ⟨_, rfl⟩
      rw [← HZ.out] at OV
      rw [← HZ.out]
      go_wp2_with fail
      refine leaves_marks (B := w.heap.size) (fun W => Own W w.heap.size (.slice va (rowS Z).length vc) (rowS Z) ∧ Below w.heap.size w W) ?_ ?_ [D] _ HMK.out ⟨OV.out, BLX.out⟩
      · rintro W D ⟨h1, h2⟩ hD hk
        exact ⟨ownsRow_putObj h1 _ hk rfl, h2.trans (belowK_b (w := w) (Nat.le_refl _) W D _ _ hD hk rfl rfl)⟩
      · rintro W ⟨h1, h2⟩
        have hrow : rowS Z = beganL p word := by
          rw [HZ.out, HT0.out, ← began_row hMM.out]
          have r1 := rep_of (l := p.m.starts) (fun x hx => by have h3 := (may_starts hMM.out).2 x hx; have h4 := hz6.out; omega) p.m.starts.length
          rw [List.take_of_length_le (Nat.le_refl _)] at r1
          exact rep_row (rep_meet HRQ.out.1 r1) (inc_flt HRQ.out.2 _)
        obtain ⟨va', vc', hv, h3, h4⟩ := h1.at
        cases hv
        refine ⟨.tuple #[.slice va (rowS Z).length vc, .int .i64 0], by simp [results, go_sem], ?_⟩
        rw [hrow] at h3 h4
        rw [begOut_ok hp.out hin.out, hrow]
        exact ⟨va, vc, rfl, h3, h4, h2⟩
    case stop =>
      rintro D c pre W' hD hpre ⟨⟨rfl, hE⟩, hO, hBx, hB'⟩ hK
      have HRQ : Hid (RepI (bkS p S0 (seVals pre.dropLast)) (onL p word)) := by
        have h1 := rep_pre hp.out HR0.out pre.dropLast
        have h2 := rep_empty h1.1 hE
        have h3 : ∃ t, word = t ++ (seVals pre.dropLast).reverse := by
          obtain ⟨t, ht⟩ := hpre
          have h4 : pre = pre.dropLast ++ pre.drop (pre.length - 1) := by rw [List.dropLast_eq_take]; exact (List.take_append_drop _ _).symm
          have h5 := rvK_take word word.length (Nat.le_refl _)
          rw [← hxs, List.map_map, List.take_of_length_le (Nat.le_refl _), ← ht] at h5
          refine ⟨(seVals (pre.drop (pre.length - 1) ++ t)).reverse, ?_⟩
          rw [← List.reverse_append]
          have e6 : seVals pre.dropLast ++ seVals (pre.drop (pre.length - 1) ++ t) = seVals (pre ++ t) := by
            unfold seVals
            rw [← List.map_append, ← List.append_assoc, ← h4]
          rw [e6]; exact h5.symm
        obtain ⟨t, ht⟩ := h3
        have h7 : onL p word = [] := by rw [ht]; exact on_empty hMM.out h2 t
        show RepI _ _
        rw [h7]
        rw [h2] at h1
        exact h1
      obtain ⟨Q, HQ⟩ : ∃ Q, Hid (Q = bkS p S0 (seVals pre.dropLast)) := ⟨_, rfl⟩
      rw [← HQ.out] at HRQ hO hE
      have oQ := Hid.of HRQ.out.1.ok
      clear hxs hE hpre
      refine wpIn_wide.2 ?_
      have hMk : Hid (Marks w.heap.size [D] W') := by
        refine ⟨fun D' hD' => ?_, by simp⟩
        have e : D' = D := by simpa using hD'
        rw [e]
        exact ⟨Nat.le_trans BW0.out.size hD, hK⟩
      have BL := Hid.of (BW0.out.trans (hB'.mono hpsP.out))
      have KP1 := Hid.of (KP.out.below hB' (Nat.lt_of_lt_of_le hpP.out (Nat.le_refl _)))
      have KS1 := Hid.of hO
      have SA : Hid (∀ W, SB W ps Q → Blk W w.heap.size 44 (ptcells p ⟨Pl, sa, sc, ta, tc⟩) → W.cell? ⟨ps, 0, none⟩ = some (.int .u64 (Q 0)) ∧ W.cell? ⟨ps, 1, none⟩ = some (.int .u64 (Q 1)) ∧ W.cell? ⟨ps, 2, none⟩ = some (.int .u64 (Q 2)) ∧ W.cell? ⟨ps, 3, none⟩ = some (.int .u64 (Q 3)) ∧ W.cell? ⟨w.heap.size, 2, none⟩ = some (.slice Pl.a1 p.m.starts.length Pl.c1)) := fun W h1 h2 => by
        obtain ⟨x0, x1, x2, x3⟩ := SB.cells h1
        exact ⟨x0, x1, x2, x3, h2.cell 2 rfl⟩
      clear hO hB' hK hBx
      go_wp2_with fail
      refine Code.wp_mono (Q := regQ fun a' X => ∃ (va : Option Addr) (vc : Nat) (r36 r37 r38 r39 r40 r41 r42 : Value), a' = { tmps := #[ptval p ⟨Pl, sa, sc, ta, tc⟩, .slice wa word.length wc, .pointer (some ⟨w.heap.size, 0, none⟩), undef, .slice va (rowS (meetS Q T0)).length vc, .int .i64 0, .pointer (some ⟨pf, 0, none⟩), .int .i64 0, .pointer (some ⟨ps, 0, none⟩), undef, undef, .tuple #[backV pa, .int .i64 0], .agg #[.int .i64 p.m.st, .int .i64 p.m.ev, .slice Pl.a1 p.m.starts.length Pl.c1, .slice Pl.a2 p.m.arrows.length Pl.c2, .slice Pl.a3 p.m.ends.length Pl.c3, .slice sa p.seen.length sc, .slice ta p.secret.length tc], .tuple #[backV pa, .int .i64 0], backV pa, .int .i64 0, .int .i64 0, .bool false, undef, .agg #[.int .i64 p.m.st, .int .i64 p.m.ev, .slice Pl.a1 p.m.starts.length Pl.c1, .slice Pl.a2 p.m.arrows.length Pl.c2, .slice Pl.a3 p.m.ends.length Pl.c3, .slice sa p.seen.length sc, .slice ta p.secret.length tc], .slice wa word.length wc, .bool true, .bool false, .agg #[.int .i64 p.m.st, .int .i64 p.m.ev, .slice Pl.a1 p.m.starts.length Pl.c1, .slice Pl.a2 p.m.arrows.length Pl.c2, .slice Pl.a3 p.m.ends.length Pl.c3, .slice sa p.seen.length sc, .slice ta p.secret.length tc], sval S0, .slice wa word.length wc, .func (.func 115) #[] #[.pointer (some ⟨Bn, 0, none⟩)], undef, undef, undef, undef, undef, undef, undef, undef, undef, r36, r37, r38, r39, r40, r41, r42], defers := [mark D] } ∧ Own X w.heap.size (.slice va (rowS (meetS Q T0)).length vc) (rowS (meetS Q T0)) ∧ Marks w.heap.size [D] X ∧ Below w.heap.size w X) ?_ ?_
      rotate_left
      refine wp_region_held_drew (S := fun w' => w'.cell? ⟨ps, 0, none⟩ = some (.int .u64 (Q 0)) ∧ w'.cell? ⟨ps, 1, none⟩ = some (.int .u64 (Q 1)) ∧ w'.cell? ⟨ps, 2, none⟩ = some (.int .u64 (Q 2)) ∧ w'.cell? ⟨ps, 3, none⟩ = some (.int .u64 (Q 3)) ∧ w'.cell? ⟨w.heap.size, 2, none⟩ = some (.slice Pl.a1 p.m.starts.length Pl.c1)) (by kernel_rfl) (SA.out _ (Blk.drew KS1.out) (Blk.drew KP1.out)) (fun hS => ?_)
      refine wpAnyH_take (i := 0) (v := sval Q) rfl (by kernel_rfl) (by kernel_rfl) (by kernel_rfl) (fun _ _ _ h => h) (Or.inl ⟨by kernel_rfl, fun w' hw' => by obtain ⟨q0, q1, q2, q3, q4⟩ := hw'; go_simp⟩) hS ?_
      refine wpAnyH_take (i := 1) (v := .pointer (some ⟨w.heap.size, 0, none⟩)) rfl (by kernel_rfl) (by kernel_rfl) (by kernel_rfl) (fun _ _ _ h => h) (Or.inl ⟨by kernel_rfl, fun w' hw' => by obtain ⟨q0, q1, q2, q3, q4⟩ := hw'; go_simp⟩) hS ?_
      refine wpAnyH_take (i := 2) (v := .pointer (some ⟨w.heap.size, 2, none⟩)) rfl (by kernel_rfl) (by kernel_rfl) (by kernel_rfl) (fun _ _ _ h => h) (Or.inl ⟨by kernel_rfl, fun w' hw' => by obtain ⟨q0, q1, q2, q3, q4⟩ := hw'; go_simp⟩) hS ?_
      refine wpAnyH_take (i := 3) (v := .slice Pl.a1 p.m.starts.length Pl.c1) rfl (by kernel_rfl) (by kernel_rfl) (by kernel_rfl) (fun _ _ _ h => h) (Or.inl ⟨by kernel_rfl, fun w' hw' => by obtain ⟨q0, q1, q2, q3, q4⟩ := hw'; go_simp⟩) hS ?_
      replace BL : Hid (Below w.heap.size w W'.drew) := BL.out.drew
      replace KP1 : Hid (Blk W'.drew w.heap.size 44 (ptcells p ⟨Pl, sa, sc, ta, tc⟩)) := Blk.drew KP1.out
      replace KS1 : Hid (SB W'.drew ps Q) := Blk.drew KS1.out
      replace hMk : Hid (Marks w.heap.size [D] W'.drew) := ⟨fun D' hD' => hMk.out.at' D' hD', hMk.out.nd⟩
      revert hS BL KP1 KS1 hMk
      generalize W'.drew = Y0
      intro hS BL KP1 KS1 hMk
      simp only [Act.put, List.setIfInBounds_toArray]
      refine wpAnyH_ready (rs := [4]) (by kernel_rfl) (by simp) ?_
      refine AllReadyH.cons rfl (fun K' hK' => ?_) AllReadyH.nil
      clear hS
      go_simp
      refine (OF1.out _ BL.out).mono ?_
      rintro e Y1 ⟨rfl, hb⟩
      replace BL := Hid.of (BL.out.trans (hb.mono BL.out.size))
      replace KP1 := Hid.of (KP1.out.below hb KP1.out.lt)
      replace KS1 := Hid.of (KS1.out.below hb KS1.out.lt)
      replace hMk := Hid.of (hMk.out.below hb hMk.out.lt)
      refine hK'.out _ _ (SA.out _ KS1.out KP1.out) (fun hS => ?_)
      clear hK' K' hb
      refine wpAnyH_ready (rs := [5]) (by kernel_rfl) (by simp) ?_
      refine AllReadyH.cons rfl (fun K' hK' => ?_) AllReadyH.nil
      clear hS
      go_simp
      refine (meet_any Q T0 _ oQ.out oT.out).mono ?_
      rintro e Y2 ⟨rfl, hb⟩
      replace BL := Hid.of (BL.out.trans (hb.mono BL.out.size))
      replace KP1 := Hid.of (KP1.out.below hb KP1.out.lt)
      replace KS1 := Hid.of (KS1.out.below hb KS1.out.lt)
      replace hMk := Hid.of (hMk.out.below hb hMk.out.lt)
      refine hK'.out _ _ (SA.out _ KS1.out KP1.out) (fun hS => ?_)
      clear hK' K' hb
      obtain ⟨Z, HZ⟩ : ∃ Z, Hid (Z = meetS Q T0) := ⟨_, rfl⟩
      rw [← HZ.out]
      have oZ : Hid (okS Z) := by show okS Z; rw [HZ.out]; exact okS_meet oQ.out
      refine wpAnyH_ready (rs := [6]) (by kernel_rfl) (by simp) ?_
      refine AllReadyH.cons rfl (fun K' hK' => ?_) AllReadyH.nil
      clear hS
      go_simp
      refine (rowO_any Z _ oZ.out (hT.out.below BL.out hT.out.lt)).mono ?_
      rintro e Y3 ⟨v, rfl, ov, hb⟩
      have BL0 := BL.out.size
      replace BL := Hid.of (BL.out.trans (hb.mono BL.out.size))
      replace KP1 := Hid.of (KP1.out.below hb KP1.out.lt)
      replace KS1 := Hid.of (KS1.out.below hb KS1.out.lt)
      replace hMk := Hid.of (hMk.out.below hb hMk.out.lt)
      have OV := Hid.of (Own.low ov BL0)
      refine hK'.out _ _ (SA.out _ KS1.out KP1.out) (fun hS => ?_)
      clear hK' K' hb ov
      obtain ⟨va, vc, hv, -, -, -⟩ := own_form2 OV.out
      subst hv
      refine wpAnyH_take (i := 7) (v := .slice va (rowS Z).length vc) rfl (by kernel_rfl) (by kernel_rfl) (by kernel_rfl) (fun _ _ _ h => h) (Or.inl ⟨by kernel_rfl, fun w' hw' => by obtain ⟨q0, q1, q2, q3, q4⟩ := hw'; go_simp⟩) hS ?_
      refine wpAnyH_take (i := 8) (v := .int .i64 0) rfl (by kernel_rfl) (by kernel_rfl) (by kernel_rfl) (fun _ _ _ h => h) (Or.inl ⟨by kernel_rfl, fun w' hw' => by obtain ⟨q0, q1, q2, q3, q4⟩ := hw'; go_simp⟩) hS ?_
      refine wpAnyH_done (by kernel_rfl) ?_ _
      exact ⟨va, vc, _, _, _, _, _, _, _, rfl, OV.out, hMk.out, BL.out⟩
      refine regQ_imp ?_
      rintro a' X ⟨va, vc, r36, r37, r38, r39, r40, r41, r42, rfl, ov, hmk, bl⟩
      have OV := Hid.of ov
      have HMK := Hid.of hmk
      have BLX := Hid.of bl
      clear ov hmk bl hMk KP1 KS1 BL
      obtain ⟨Z, HZ⟩ : ∃ Z, Hid (Z = meetS Q T0) := ⟨_, rfl⟩
      rw [← HZ.out] at OV
      rw [← HZ.out]
      go_wp2_with fail
      refine leaves_marks (B := w.heap.size) (fun W => Own W w.heap.size (.slice va (rowS Z).length vc) (rowS Z) ∧ Below w.heap.size w W) ?_ ?_ [D] _ HMK.out ⟨OV.out, BLX.out⟩
      · rintro W D ⟨h1, h2⟩ hD hk
        exact ⟨ownsRow_putObj h1 _ hk rfl, h2.trans (belowK_b (w := w) (Nat.le_refl _) W D _ _ hD hk rfl rfl)⟩
      · rintro W ⟨h1, h2⟩
        have hrow : rowS Z = beganL p word := by
          rw [HZ.out, HT0.out, ← began_row hMM.out]
          have r1 := rep_of (l := p.m.starts) (fun x hx => by have h3 := (may_starts hMM.out).2 x hx; have h4 := hz6.out; omega) p.m.starts.length
          rw [List.take_of_length_le (Nat.le_refl _)] at r1
          exact rep_row (rep_meet HRQ.out.1 r1) (inc_flt HRQ.out.2 _)
        obtain ⟨va', vc', hv, h3, h4⟩ := h1.at
        cases hv
        refine ⟨.tuple #[.slice va (rowS Z).length vc, .int .i64 0], by simp [results, go_sem], ?_⟩
        rw [hrow] at h3 h4
        rw [begOut_ok hp.out hin.out, hrow]
        exact ⟨va, vc, rfl, h3, h4, h2⟩

end Go.Proofs.YtmimjpkllgjdkaaDoor
