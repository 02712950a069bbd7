/-
  The walk of initial.Began.
  Rows of places of package initial, and its map, as the model runs them.
  The walk of initial.wordOf: the list by which a place was found.
  The walk of the closure of initial.teller.
-/
import Derived.Test.YtdhgabpoaicjoaaDoorG16
import Derived.Test.YtdhgabpoaicjoaaDoorCITel
import Derived.Test.YtdhgabpoaicjoaaDoorG35
import Derived.Test.YtdhgabpoaicjoaaDoorG36
import Derived.Test.YtdhgabpoaicjoaaDoorG25
import Derived.Test.YtdhgabpoaicjoaaDoorG15
import Derived.Test.YtdhgabpoaicjoaaDoorG14
import Derived.Test.YtdhgabpoaicjoaaDoorG19
import Derived.Test.YtdhgabpoaicjoaaDoorG30
import Derived.Test.YtdhgabpoaicjoaaDoorG10
import Derived.Test.YtdhgabpoaicjoaaDoorG12
namespace Go.Proofs.YtdhgabpoaicjoaaDoor
open Go.RowKit Go.Shelf
set_option linter.unusedVariables false
attribute [local go_sem] Oper.semAt_some

/-- Going back from a set, number by number. -/
def bkS (p : Plant) (S0 : Nat → Nat) (vs : List Int) : Nat → Nat := vs.foldl (fun S v => backS p S v.toNat) S0
theorem bkS_snoc (p : Plant) (S0 : Nat → Nat) (vs : List Int) (v : Int) : bkS p S0 (vs ++ [v]) = backS p (bkS p S0 vs) v.toNat := by simp [bkS, List.foldl_append]
theorem on_bd {p : Plant} (hm : mayB p.m = true) (u : List Int) : ∀ x ∈ onL p u, 0 ≤ x ∧ x < p.m.st := fun x hx => by
  have hz := mayB_size hm
  unfold sizeOk at hz
  have := ((mem_on _ _ _).1 hx).1; omega
theorem rep_bk {p : Plant} (hp : mayP p = true) {S0 : Nat → Nat} (h0 : RepI S0 (rngI p.m.st.toNat)) : ∀ (us : List Int), (∀ v ∈ us, v ∈ p.seen) → RepI (bkS p S0 us.reverse) (onL p us)
  | [], _ => by
    rw [on_nil ((mayP_iff p).1 hp).1]; exact h0
  | v :: r, h => by
    have hm := ((mayP_iff p).1 hp).1
    have ih := rep_bk hp h0 r (fun x hx => h x (by simp [hx]))
    rw [List.reverse_cons, bkS_snoc, on_cons hm]
    obtain ⟨k, hk, e1⟩ := List.getElem_of_mem (h v (by simp))
    have := rep_back hp ih.1 (on_bd hm r) hk
    unfold opB at this
    rw [List.getElem?_eq_getElem hk, Option.getD_some, e1] at this
    exact this
theorem on_empty {p : Plant} (hm : mayB p.m = true) {u : List Int} (h : onL p u = []) : ∀ t : List Int, onL p (t ++ u) = []
  | [] => h
  | v :: r => by
    rw [List.cons_append, on_cons hm, on_empty hm h r, List.eq_nil_iff_forall_not_mem]
    intro x hx
    obtain ⟨-, t, -, ht⟩ := (mem_into _ _ _ _).1 hx
    cases ht
def seVals {seen : List Int} (pre : List (SE seen)) : List Int := pre.map fun x => x.1.2
theorem seVals_snoc {seen : List Int} (pre : List (SE seen)) (x : SE seen) : seVals (pre ++ [x]) = seVals pre ++ [x.1.2] := by simp [seVals]
theorem seVals_in {seen : List Int} (pre : List (SE seen)) : ∀ v ∈ (seVals pre).reverse, v ∈ seen := fun v hv => by
  rw [List.mem_reverse] at hv
  obtain ⟨x, -, rfl⟩ := List.mem_map.1 hv
  exact x.2
theorem rep_pre {p : Plant} (hp : mayP p = true) {S0 : Nat → Nat} (h0 : RepI S0 (rngI p.m.st.toNat)) (pre : List (SE p.seen)) : RepI (bkS p S0 (seVals pre)) (onL p (seVals pre).reverse) := by
  have := rep_bk hp h0 (seVals pre).reverse (seVals_in pre)
  rwa [List.reverse_reverse] at this
theorem rep_empty {S : Nat → Nat} {l : List Int} (h : Rep S l) (he : emptyB S = true) : l = [] := by
  rw [List.eq_nil_iff_forall_not_mem]
  intro x hx
  obtain ⟨b0, b1⟩ := h.bd x hx
  have h1 := empty_has he x.toNat (by omega)
  rw [(h.mem x.toNat (by omega)).2 (by rwa [Int.toNat_of_nonneg b0])] at h1
  cases h1

set_option maxRecDepth 100000 in
set_option maxHeartbeats 400000 in
theorem ibackward_any (a : Option Addr) (n c : Nat) (w : World) :
    Calls Tryd.prog 92 #[.slice a n c] w fun e w' => e = .returned (.func (.func 127) #[] #[.pointer (some ⟨w.heap.size, 0, none⟩)]) ∧ w' = w.alloc (.cells #[.slice a n c] 22) := by
  have hmf : ∀ (fn : Fn) (first cap : Array Value) (w : World), (Instr.makeFunc fn first cap).run Tryd.prog w = .ok (.func fn first cap) w := fun _ _ _ _ => rfl
  go_enter Tryd.func92, Tryd.ntmps92
  go_wp2_with fail
  go_ret
  exact ⟨rfl, rfl⟩

set_option maxRecDepth 100000 in
set_option maxHeartbeats 4000000 in
theorem began_bad (p : Plant) (P : PTL) (wa : Option Addr) (wc : Nat) (word : List Int) (w : World) (h : Hid (PAt w p P)) (hp : Hid (mayP p = false)) :
    Calls Tryd.prog 46 #[ptval p P, .slice wa word.length wc] w fun e w' => ListPost w (begOut p word) e w' := by
  have B : Hid (Below w.heap.size w (w.alloc (.cells (ptcells p P) 50))) := (Below.refl _ _).alloc (Nat.le_refl _) _
  have KP : Hid (Blk (w.alloc (.cells (ptcells p P) 50)) w.heap.size 50 (ptcells p P)) := Blk.new w _ _
  go_enter Tryd.func46, Tryd.ntmps46
  obtain ⟨x0, x1, x2, x3, x4, x5, x6⟩ := ptcell_at KP.out
  go_wp2_with fail
  clear x0 x1 x2 x3 x4 x5 x6
  revert B KP
  generalize (w.alloc (.cells (ptcells p P) 50)) = V0
  intro B KP
  refine (iwatch_bad p P V0 (Hid.of (h.out.below B.out (Nat.le_refl _))) hp).mono ?_
  rintro e V1 ⟨rfl, hb⟩
  replace B := Hid.of (B.out.trans (hb.mono B.out.size))
  clear hb KP
  have B2 : Hid (Below w.heap.size w (V1.alloc (.cells #[.nilFunc] 90))) := B.out.alloc B.out.size _
  clear B
  go_wp2_with fail
  refine bodyPost_ret (v := .tuple #[.slice none 0 0, .int .i64 2]) (by simp [results, go_sem]) rfl ?_
  rw [begOut_bad hp.out]
  exact ⟨none, 0, rfl, .inl rfl, Nat.zero_le _, B2.out⟩

set_option maxRecDepth 100000 in
set_option maxHeartbeats 16000000 in
theorem began_in (p : Plant) (Pl : ML) (sa : Option Addr) (sc : Nat) (ta : Option Addr) (tc : Nat) (wa : Option Addr) (wc : Nat) (word : List Int) (w : World) (h : Hid (PAt w p ⟨Pl, sa, sc, ta, tc⟩)) (hw : Hid (At w wa word)) (hwl : Hid (word.length ≤ maxLen)) (hT : Hid (Tab w)) (hp : Hid (mayP p = true)) :
    CallsIn Fence.wide 5 Tryd.prog 46 #[ptval p ⟨Pl, sa, sc, ta, tc⟩, .slice wa word.length wc] w fun e w' => ListPost w (begOut p word) e w' := by
  have hmP := (mayP_iff p).1 hp.out
  have hz := mayB_size hmP.1
  unfold sizeOk at hz
  have hMM := Hid.of hmP.1
  have hz6 := Hid.of hmP.2.1
  obtain ⟨N, hN⟩ : ∃ N : Nat, Hid (p.m.st = (N : Int)) := ⟨p.m.st.toNat, by show _ = _; omega⟩
  have hN6 : N ≤ 6 := by have h1 := hN.out; have h2 := hmP.2.1; omega
  have HNT : Hid (p.m.st.toNat = N) := by show _ = _; rw [hN.out]; simp
  have HSB : Hid (∀ v ∈ p.seen, 0 ≤ v ∧ v < 8) := fun v hv => by
    have := ((rowB_iff _ (by omega) _).1 hmP.2.2.1).2 v hv
    omega
  obtain ⟨T0, HT0⟩ : ∃ T, Hid (T = ofS p.m.starts) := ⟨_, rfl⟩
  have oT : Hid (okS T0) := by
    have r1 := rep_of (l := p.m.starts) (fun x hx => by have := (may_starts hmP.1).2 x hx; omega) p.m.starts.length
    rw [List.take_of_length_le (Nat.le_refl _)] at r1
    show okS T0
    rw [HT0.out]; exact r1.ok
  have OF1 : Hid (∀ Y, Below w.heap.size w Y → Calls Tryd.prog 56 #[.slice Pl.a1 p.m.starts.length Pl.c1] Y fun e Y' => e = .returned (sval T0) ∧ Below Y.heap.size Y Y') := fun Y hb => by
    rw [HT0.out]
    exact of_any Pl.a1 Pl.c1 p.m.starts Y (h.out.m.s.below hb (Nat.le_refl _)) (Nat.le_trans h.out.m.s1 h.out.m.s2) (fun x hx => by have := (may_starts hmP.1).2 x hx; omega)
  clear hmP hz
  refine callsIn_of_wp_marks Tryd.func46 rfl trivial ?_ rfl
  simp only [Tryd.ntmps46, List.size_toArray, List.length_cons, List.length_nil, Nat.reduceAdd, Nat.reduceSub, Array.replicate_succ, Array.replicate_zero, List.push_toArray, List.append_toArray, List.nil_append, List.cons_append]
  refine wpIn_wide.2 ?_
  have B : Hid (Below w.heap.size w (w.alloc (.cells (ptcells p ⟨Pl, sa, sc, ta, tc⟩) 50))) := (Below.refl _ _).alloc (Nat.le_refl _) _
  have KP : Hid (Blk (w.alloc (.cells (ptcells p ⟨Pl, sa, sc, ta, tc⟩) 50)) w.heap.size 50 (ptcells p ⟨Pl, sa, sc, ta, tc⟩)) := Blk.new w _ _
  obtain ⟨x0, x1, x2, x3, x4, x5, x6⟩ := ptcell_at KP.out
  go_wp2_with fail
  clear x0 x1 x2 x3 x4 x5 x6
  revert B KP
  generalize (w.alloc (.cells (ptcells p ⟨Pl, sa, sc, ta, tc⟩) 50)) = V0
  intro B KP
  refine (iwatch_ok p Pl sa sc ta tc V0 (Hid.of (h.out.below B.out (Nat.le_refl _))) (Hid.of (hT.out.below B.out hT.out.lt)) hp).mono ?_
  rintro e V1 ⟨pa, rfl, ti, hb⟩
  replace B := Hid.of (B.out.trans (hb.mono B.out.size))
  replace KP := Hid.of (KP.out.below hb KP.out.lt)
  clear hb
  have hb : Below V1.heap.size V1 (V1.alloc (.cells #[backV pa] 90)) := (Below.refl _ _).alloc (Nat.le_refl _) _
  replace B := Hid.of (B.out.trans (hb.mono B.out.size))
  replace KP := Hid.of (KP.out.below hb KP.out.lt)
  have TIa := Hid.of (ti.below hb ti.lt)
  have KF := Hid.of (Blk.new V1 90 #[backV pa])
  clear hb ti
  obtain ⟨x0, x1, x2, x3, x4, x5, x6⟩ := ptcell_at KP.out
  go_wp2_with fail
  clear x0 x1 x2 x3 x4 x5 x6
  revert B KP TIa KF
  generalize V1.alloc (.cells #[backV pa] 90) = V2
  generalize V1.heap.size = pf
  intro B KP TIa KF
  refine (cisSeen_any p ⟨Pl, sa, sc, ta, tc⟩ wa wc word V2 (Hid.of (h.out.below B.out (Nat.le_refl _))) (Hid.of (hw.out.below B.out (Nat.le_refl _))) hwl).mono ?_
  rintro e V3 ⟨rfl, hb⟩
  rw [allIn_eq]
  replace B := Hid.of (B.out.trans (hb.mono B.out.size))
  replace KP := Hid.of (KP.out.below hb KP.out.lt)
  replace TIa := Hid.of (TIa.out.below hb TIa.out.lt)
  replace KF := Hid.of (KF.out.below hb KF.out.lt)
  clear hb
  cases hin : inSeen p.seen word with
  | false =>
    have HO : Hid (begOut p word = ([], 6)) := begOut_out hp.out hin
    clear hin
    go_wp2_with fail
    refine ⟨.tuple #[.slice none 0 0, .int .i64 6], by simp [results, go_sem], ?_⟩
    rw [HO.out]
    exact ⟨none, 0, rfl, .inl rfl, Nat.zero_le _, B.out⟩
  | true =>
    have HIN : Hid (∀ e ∈ word, e ∈ p.seen) := (inSeen_iff _ _).1 hin
    replace hin := Hid.of hin
    obtain ⟨x0, x1, x2, x3, x4, x5, x6⟩ := ptcell_at KP.out
    go_wp2_with fail
    clear x0 x1 x2 x3 x4 x5 x6
    refine (iall_any p ⟨Pl, sa, sc, ta, tc⟩ N hN (by omega) V3).mono ?_
    rintro e V4 ⟨rfl, hb⟩
    replace B := Hid.of (B.out.trans (hb.mono B.out.size))
    replace KP := Hid.of (KP.out.below hb KP.out.lt)
    replace TIa := Hid.of (TIa.out.below hb TIa.out.lt)
    replace KF := Hid.of (KF.out.below hb KF.out.lt)
    clear hb
    obtain ⟨S0, HS0⟩ : ∃ S0, Hid (S0 = allF N) := ⟨_, rfl⟩
    have HR0 : Hid (RepI S0 (rngI p.m.st.toNat)) := by show RepI _ _; rw [HS0.out, HNT.out]; exact rep_all (by omega)
    rw [← HS0.out]
    have A1 : Hid (V4.heap.size ≤ V4.heap.size) := Nat.le_refl _
    have hb : Below V4.heap.size V4 (V4.alloc (.cells (scells S0) 65)) := (Below.refl _ _).alloc (Nat.le_refl _) _
    have hpP : Hid (w.heap.size < V4.heap.size) := KP.out.lt
    have hpF : Hid (pf < V4.heap.size) := KF.out.lt
    have hpT : Hid (pa < V4.heap.size) := TIa.out.lt
    have B5 := Hid.of B.out
    replace B := Hid.of (B.out.trans (hb.mono B.out.size))
    replace KP := Hid.of (KP.out.below hb KP.out.lt)
    replace TIa := Hid.of (TIa.out.below hb TIa.out.lt)
    replace KF := Hid.of (KF.out.below hb KF.out.lt)
    have KS : Hid (SB (V4.alloc (.cells (scells S0) 65)) V4.heap.size S0) := Blk.new V4 _ _
    clear hb
    go_wp2_with fail
    have hpsZ : Hid (V4.heap.size < (V4.alloc (.cells (scells S0) 65)).heap.size) := KS.out.lt
    have hwA : Hid (word = [] ∨ ∃ b off, wa = some ⟨b, off, none⟩ ∧ b < V4.heap.size ∧ Cells (V4.alloc (.cells (scells S0) 65)) b off word) := by
      rcases hw.out with h0 | ⟨b, off, h1, h2, h3⟩
      · exact .inl h0
      · exact .inr ⟨b, off, h1, Nat.lt_trans h2 hpP.out, fun j hj => (B.out.cell (p := ⟨b, off + j, none⟩) h2).trans (h3 j hj)⟩
    clear B5 A1
    revert hpP hpF hpT B KP TIa KF KS hpsZ hwA
    generalize V4.alloc (.cells (scells S0) 65) = V5
    generalize V4.heap.size = ps
    intro hpP hpF hpT B KP TIa KF KS hpsZ hwA
    refine (ibackward_any wa word.length wc V5).mono ?_
    rintro e V6 ⟨rfl, rfl⟩
    have hb : Below V5.heap.size V5 (V5.alloc (.cells #[.slice wa word.length wc] 22)) := (Below.refl _ _).alloc (Nat.le_refl _) _
    have BX : Hid (Boxed (V5.alloc (.cells #[.slice wa word.length wc] 22)) V5.heap.size 22 (.slice wa word.length wc)) := Boxed.new V5 _ _
    have hz0 : Hid (V5.heap.size < (V5.alloc (.cells #[.slice wa word.length wc] 22)).heap.size) := BX.out.lt
    have BW0 := Hid.of (B.out.trans (hb.mono B.out.size))
    replace KP := Hid.of (KP.out.below hb KP.out.lt)
    replace TIa := Hid.of (TIa.out.below hb TIa.out.lt)
    replace KF := Hid.of (KF.out.below hb KF.out.lt)
    replace KS := Hid.of (KS.out.below hb KS.out.lt)
    replace hwA : Hid (word = [] ∨ ∃ b off, wa = some ⟨b, off, none⟩ ∧ b < ps ∧ Cells (V5.alloc (.cells #[.slice wa word.length wc] 22)) b off word) := by
      rcases hwA.out with h0 | ⟨b, off, h1, h2, h3⟩
      · exact .inl h0
      · exact .inr ⟨b, off, h1, h2, fun j hj => (hb.cell (p := ⟨b, off + j, none⟩) (Nat.lt_trans h2 hpsZ.out)).trans (h3 j hj)⟩
    clear hb B
    go_wp2_with fail
    revert hpsZ BX hz0 BW0 KP TIa KF KS hwA
    generalize V5.alloc (.cells #[.slice wa word.length wc] 22) = W0
    generalize V5.heap.size = Bn
    intro hpsZ BX hz0 BW0 KP TIa KF KS hwA
    have hpsP : Hid (w.heap.size ≤ ps) := Nat.le_of_lt hpP.out
    obtain ⟨xs, hxs⟩ := se_of (seen := p.seen) (rvK word word.length) (rvK_in HIN.out _ (Nat.le_refl _))
    have hps0 := hpsZ.out
    have hbn0 := hz0.out
    have heq : ∀ (S : Nat → Nat) (w : World), (Op.equalIn 10000 65 (.agg #[.int .u64 (S 0), .int .u64 (S 1), .int .u64 (S 2), .int .u64 (S 3)]) (.agg #[.int .u64 0, .int .u64 0, .int .u64 0, .int .u64 0])).run Tryd.prog w = .ok (emptyB S) w := run_equalIn_set
    have hgd := run_guard_set
    refine (wpIn_wide (n := 5)).1 ?_
    refine wpIn_rangeFunc_ownG rfl (by omega) (gf := 127) (lb := #[.pointer (some ⟨Bn, 0, none⟩)]) rfl trivial (enters_of Tryd.func127 (by kernel_rfl) rfl)
      (bkw_stops 4 (by omega) Bn ps wa wc word hwl.out xs hxs W0 BX.out (by omega) hwA.out) KpB.trans (KpB.put (by omega) hbn0) (Below.refl _ _) (fun _ => rfl)
      (fun pre W' => SB W' ps (bkS p S0 (seVals pre)) ∧ Boxed W' Bn 22 (.slice wa word.length wc) ∧ Below ps W0 W')
      (fun c pre W' => (c = .exit 0 ∧ emptyB (bkS p S0 (seVals pre.dropLast)) = true) ∧ SB W' ps (bkS p S0 (seVals pre.dropLast)) ∧ Boxed W' Bn 22 (.slice wa word.length wc) ∧ Below ps W0 W')
      (OwnFrom.and (Go.Own.from (own_SB ps (fun pre : List (SE p.seen) => bkS p S0 (seVals pre))) _) (OwnFrom.and (Go.Own.from (boxed_own Bn 22 (fun _ => .slice wa word.length wc)) _) (ownFrom_below (by omega) (by omega))))
      (fun c => OwnFrom.and (ownFrom_pure _ (fun pre : List (SE p.seen) => c = .exit 0 ∧ emptyB (bkS p S0 (seVals pre.dropLast)) = true)) (OwnFrom.and (Go.Own.from (own_SB ps (fun pre : List (SE p.seen) => bkS p S0 (seVals pre.dropLast))) _) (OwnFrom.and (Go.Own.from (boxed_own Bn 22 (fun _ => .slice wa word.length wc)) _) (ownFrom_below (by omega) (by omega)))))
      ⟨KS.out, BX.out, Below.refl _ _⟩
      (fun x => { tmps := #[ptval p ⟨Pl, sa, sc, ta, tc⟩, .slice wa word.length wc, .pointer (some ⟨w.heap.size, 0, none⟩), undef, .slice none 0 0, .int .i64 0, .pointer (some ⟨pf, 0, none⟩), .int .i64 0, .pointer (some ⟨ps, 0, none⟩), undef, .int .i64 x.1.2, .tuple #[backV pa, .int .i64 0], .agg #[.int .i64 p.m.st, .int .i64 p.m.ev, .slice Pl.a1 p.m.starts.length Pl.c1, .slice Pl.a2 p.m.arrows.length Pl.c2, .slice Pl.a3 p.m.ends.length Pl.c3, .slice sa p.seen.length sc, .slice ta p.secret.length tc], .tuple #[backV pa, .int .i64 0], backV pa, .int .i64 0, .int .i64 0, .bool false, undef, .agg #[.int .i64 p.m.st, .int .i64 p.m.ev, .slice Pl.a1 p.m.starts.length Pl.c1, .slice Pl.a2 p.m.arrows.length Pl.c2, .slice Pl.a3 p.m.ends.length Pl.c3, .slice sa p.seen.length sc, .slice ta p.secret.length tc], .slice wa word.length wc, .bool true, .bool false, .agg #[.int .i64 p.m.st, .int .i64 p.m.ev, .slice Pl.a1 p.m.starts.length Pl.c1, .slice Pl.a2 p.m.arrows.length Pl.c2, .slice Pl.a3 p.m.ends.length Pl.c3, .slice sa p.seen.length sc, .slice ta p.secret.length tc], sval S0, .slice wa word.length wc, .func (.func 127) #[] #[.pointer (some ⟨Bn, 0, none⟩)], .int .i64 x.1.1, .int .i64 x.1.2, undef, undef, undef, undef, undef, undef, undef, undef, undef, undef, undef, undef, undef, undef], defers := [] }) ?assign ?body ?done ?stop
    case assign =>
      intro l x W K hK
      gi_wp2
      exact hK
    case body =>
      rintro l' pre x W' ⟨hO, hBx, hB'⟩ hlt
      have hRep := Hid.of (rep_pre hp.out HR0.out pre)
      have hx := HSB.out x.1.2 x.2
      obtain ⟨se, HSE⟩ : ∃ se : Nat, Hid (x.1.2 = (se : Int)) := ⟨x.1.2.toNat, by show _ = _; omega⟩
      have hse8 : se < 8 := by have := HSE.out; omega
      have HX : Hid (bkS p S0 (seVals (pre ++ [x])) = toF (fun n => baT p (se * 6 + n)) (allS (bkS p S0 (seVals pre)))) := by
        show _ = _
        rw [seVals_snoc, bkS_snoc, HSE.out, Int.toNat_natCast]; rfl
      have HD : Hid ((pre ++ [x]).dropLast = pre) := by show _ = _; simp
      have hFW := KF.out.below hB' hpF.out
      have c1 : W'.cell? ⟨pf, 0, none⟩ = some (backV pa) := hFW.cell 0 rfl
      have hTW := Hid.of (TIa.out.below hB' hpT.out)
      have HALL : Hid (∀ k ∈ allS (bkS p S0 (seVals pre)), k < 6) := fun k hk => by
        obtain ⟨h1, h2⟩ := (mem_allS _ k).1 hk
        have := on_bd hMM.out _ _ ((hRep.out.1.mem k h1).1 h2)
        have h6 := hz6.out
        omega
      have oQ := Hid.of hRep.out.1.ok
      have HTW := Hid.of (hT.out.below (BW0.out.trans (hB'.mono hpsP.out)) hT.out.lt)
      rw [HSE.out]
      clear hx
      have HB := Hid.of hB'
      have HO := Hid.of hO
      have HBX := Hid.of hBx
      clear hB' hO hBx hFW hRep
      obtain ⟨O, HOE⟩ : ∃ O, Hid (O = bkS p S0 (seVals pre)) := ⟨_, rfl⟩
      rw [← HOE.out] at HO HX HALL oQ
      obtain ⟨o0, o1, o2, o3⟩ := HO.out.cells
      have fO := HO.out.frozen
      cases hE : emptyB O with
      | true =>
        have he2 := heq O W'
        rw [hE] at he2
        clear heq
        gi_wp2
        exact ⟨(KeepsOthers.refl _).from _, ⟨rfl, by rw [HD.out, ← HOE.out]; exact hE⟩, by rw [HD.out, ← HOE.out]; exact HO.out, HBX.out, HB.out⟩
      | false =>
        have he2 := heq O W'
        rw [hE] at he2
        clear heq hE
        have hcall := Hid.of (iwatch1_any O oQ.out se hse8 (baT p) (fun _ => okS_tabK _ _ _ _) HALL.out pa W' HTW.out hTW.out)
        obtain ⟨U, HU⟩ : ∃ U, Hid (U = toF (fun n => baT p (se * 6 + n)) (allS O)) := ⟨_, rfl⟩
        rw [← HU.out] at hcall HX
        gi_wp2_with (refine ⟨trivial, ?_⟩; refine CallsIn.mono (CallsIn.inRound l' (callsIn_wide.2 hcall.out)) ?_; rintro e' w1 ⟨rfl, hb1⟩; have hO1 := Blk.below HO.out hb1 HO.out.lt; obtain ⟨y0, y1, y2, y3⟩ := SB.cells hO1; have fO1 := Blk.frozen hO1)
        have k1 : KeepsOthers W' w1 := ⟨hb1.size, fun k o hk _ => (hb1.block k (Array.getElem?_eq_some_iff.1 hk).1).trans hk⟩
        have k2 : Below ps W' w1 := hb1.mono (Nat.le_of_lt HO.out.lt)
        have k3 := below_set4 k2 (b' := ps) (Nat.le_refl _) (.int .u64 (U 0)) (.int .u64 (U 1)) (.int .u64 (U 2)) (.int .u64 (U 3))
        have k4 := Blk.other4 (Blk.below HBX.out hb1 HBX.out.lt) (b' := ps) (by omega) (.int .u64 (U 0)) (.int .u64 (U 1)) (.int .u64 (U 2)) (.int .u64 (U 3))
        exact ⟨((((k1.trans (KeepsOthers.setCell _ _ _)).trans (KeepsOthers.setCell _ _ _)).trans (KeepsOthers.setCell _ _ _)).trans (KeepsOthers.setCell _ _ _)).from _, ⟨k3, k4.trans HBX.out.symm⟩, by rw [HX.out]; exact SB.set4 hO1 _, k4, HB.out.trans k3⟩
    case done =>
      rintro D ys W' hD rfl ⟨hO, hBx, hB'⟩ hK
      have HRQ : Hid (RepI (bkS p S0 (seVals ys)) (onL p word)) := by
        have := rep_pre hp.out HR0.out ys
        have e1 : (seVals ys).reverse = word := by
          have h1 := rvK_take word word.length (Nat.le_refl _)
          rw [← hxs, List.map_map, List.take_of_length_le (Nat.le_refl _)] at h1
          exact h1
        rw [e1] at this
        exact this
      obtain ⟨Q, HQ⟩ : ∃ Q, Hid (Q = bkS p S0 (seVals ys)) := ⟨_, rfl⟩
      rw [← HQ.out] at HRQ hO
      have oQ := Hid.of HRQ.out.1.ok
      clear hxs
      have hMk : Hid (Marks w.heap.size [D] W') := by
        refine ⟨fun D' hD' => ?_, by simp⟩
        have e : D' = D := by simpa using hD'
        rw [e]
        exact ⟨Nat.le_trans BW0.out.size hD, hK⟩
      have BL := Hid.of (BW0.out.trans (hB'.mono hpsP.out))
      have KP1 := Hid.of (KP.out.below hB' (Nat.lt_of_lt_of_le hpP.out (Nat.le_refl _)))
      have KS1 := Hid.of hO
      have SA : Hid (∀ W, SB W ps Q → Blk W w.heap.size 50 (ptcells p ⟨Pl, sa, sc, ta, tc⟩) → W.cell? ⟨ps, 0, none⟩ = some (.int .u64 (Q 0)) ∧ W.cell? ⟨ps, 1, none⟩ = some (.int .u64 (Q 1)) ∧ W.cell? ⟨ps, 2, none⟩ = some (.int .u64 (Q 2)) ∧ W.cell? ⟨ps, 3, none⟩ = some (.int .u64 (Q 3)) ∧ W.cell? ⟨w.heap.size, 2, none⟩ = some (.slice Pl.a1 p.m.starts.length Pl.c1)) := fun W h1 h2 => by
        obtain ⟨x0, x1, x2, x3⟩ := SB.cells h1
        exact ⟨x0, x1, x2, x3, h2.cell 2 rfl⟩
      clear hO hB' hK hBx
      go_wp2_with fail
      refine Code.wp_mono (Q := regQ fun a' X => ∃ (va : Option Addr) (vc : Nat) (r36 r37 r38 r39 r40 r41 r42 : Value), a' = { tmps := #[ptval p ⟨Pl, sa, sc, ta, tc⟩, .slice wa word.length wc, .pointer (some ⟨w.heap.size, 0, none⟩), undef, .slice va (rowS (meetS Q T0)).length vc, .int .i64 0, .pointer (some ⟨pf, 0, none⟩), .int .i64 0, .pointer (some ⟨ps, 0, none⟩), undef, undef, .tuple #[backV pa, .int .i64 0], .agg #[.int .i64 p.m.st, .int .i64 p.m.ev, .slice Pl.a1 p.m.starts.length Pl.c1, .slice Pl.a2 p.m.arrows.length Pl.c2, .slice Pl.a3 p.m.ends.length Pl.c3, .slice sa p.seen.length sc, .slice ta p.secret.length tc], .tuple #[backV pa, .int .i64 0], backV pa, .int .i64 0, .int .i64 0, .bool false, undef, .agg #[.int .i64 p.m.st, .int .i64 p.m.ev, .slice Pl.a1 p.m.starts.length Pl.c1, .slice Pl.a2 p.m.arrows.length Pl.c2, .slice Pl.a3 p.m.ends.length Pl.c3, .slice sa p.seen.length sc, .slice ta p.secret.length tc], .slice wa word.length wc, .bool true, .bool false, .agg #[.int .i64 p.m.st, .int .i64 p.m.ev, .slice Pl.a1 p.m.starts.length Pl.c1, .slice Pl.a2 p.m.arrows.length Pl.c2, .slice Pl.a3 p.m.ends.length Pl.c3, .slice sa p.seen.length sc, .slice ta p.secret.length tc], sval S0, .slice wa word.length wc, .func (.func 127) #[] #[.pointer (some ⟨Bn, 0, none⟩)], undef, undef, undef, undef, undef, undef, undef, undef, undef, r36, r37, r38, r39, r40, r41, r42], defers := [mark D] } ∧ Own X w.heap.size (.slice va (rowS (meetS Q T0)).length vc) (rowS (meetS Q T0)) ∧ Marks w.heap.size [D] X ∧ Below w.heap.size w X) ?_ ?_
      rotate_left
      refine wp_region_held_drew (S := fun w' => w'.cell? ⟨ps, 0, none⟩ = some (.int .u64 (Q 0)) ∧ w'.cell? ⟨ps, 1, none⟩ = some (.int .u64 (Q 1)) ∧ w'.cell? ⟨ps, 2, none⟩ = some (.int .u64 (Q 2)) ∧ w'.cell? ⟨ps, 3, none⟩ = some (.int .u64 (Q 3)) ∧ w'.cell? ⟨w.heap.size, 2, none⟩ = some (.slice Pl.a1 p.m.starts.length Pl.c1)) (by kernel_rfl) (SA.out _ (Blk.drew KS1.out) (Blk.drew KP1.out)) (fun hS => ?_)
      refine wpAnyH_take (i := 0) (v := sval Q) rfl (by kernel_rfl) (by kernel_rfl) (by kernel_rfl) (fun _ _ _ h => h) (Or.inl ⟨by kernel_rfl, fun w' hw' => by obtain ⟨q0, q1, q2, q3, q4⟩ := hw'; go_simp⟩) hS ?_
      refine wpAnyH_take (i := 1) (v := .pointer (some ⟨w.heap.size, 0, none⟩)) rfl (by kernel_rfl) (by kernel_rfl) (by kernel_rfl) (fun _ _ _ h => h) (Or.inl ⟨by kernel_rfl, fun w' hw' => by obtain ⟨q0, q1, q2, q3, q4⟩ := hw'; go_simp⟩) hS ?_
      refine wpAnyH_take (i := 2) (v := .pointer (some ⟨w.heap.size, 2, none⟩)) rfl (by kernel_rfl) (by kernel_rfl) (by kernel_rfl) (fun _ _ _ h => h) (Or.inl ⟨by kernel_rfl, fun w' hw' => by obtain ⟨q0, q1, q2, q3, q4⟩ := hw'; go_simp⟩) hS ?_
      refine wpAnyH_take (i := 3) (v := .slice Pl.a1 p.m.starts.length Pl.c1) rfl (by kernel_rfl) (by kernel_rfl) (by kernel_rfl) (fun _ _ _ h => h) (Or.inl ⟨by kernel_rfl, fun w' hw' => by obtain ⟨q0, q1, q2, q3, q4⟩ := hw'; go_simp⟩) hS ?_
      replace BL : Hid (Below w.heap.size w W'.drew) := BL.out.drew
      replace KP1 : Hid (Blk W'.drew w.heap.size 50 (ptcells p ⟨Pl, sa, sc, ta, tc⟩)) := Blk.drew KP1.out
      replace KS1 : Hid (SB W'.drew ps Q) := Blk.drew KS1.out
      replace hMk : Hid (Marks w.heap.size [D] W'.drew) := ⟨fun D' hD' => hMk.out.at' D' hD', hMk.out.nd⟩
      revert hS BL KP1 KS1 hMk
      generalize W'.drew = Y0
      intro hS BL KP1 KS1 hMk
      simp only [Act.put, List.setIfInBounds_toArray]
      refine wpAnyH_ready (rs := [4]) (by kernel_rfl) (by simp) ?_
      refine AllReadyH.cons rfl (fun K' hK' => ?_) AllReadyH.nil
      clear hS
      go_simp
      refine (OF1.out _ BL.out).mono ?_
      rintro e Y1 ⟨rfl, hb⟩
      replace BL := Hid.of (BL.out.trans (hb.mono BL.out.size))
      replace KP1 := Hid.of (KP1.out.below hb KP1.out.lt)
      replace KS1 := Hid.of (KS1.out.below hb KS1.out.lt)
      replace hMk := Hid.of (hMk.out.below hb hMk.out.lt)
      refine hK'.out _ _ (SA.out _ KS1.out KP1.out) (fun hS => ?_)
      clear hK' K' hb
      refine wpAnyH_ready (rs := [5]) (by kernel_rfl) (by simp) ?_
      refine AllReadyH.cons rfl (fun K' hK' => ?_) AllReadyH.nil
      clear hS
      go_simp
      refine (meet_any Q T0 _ oQ.out oT.out).mono ?_
      rintro e Y2 ⟨rfl, hb⟩
      replace BL := Hid.of (BL.out.trans (hb.mono BL.out.size))
      replace KP1 := Hid.of (KP1.out.below hb KP1.out.lt)
      replace KS1 := Hid.of (KS1.out.below hb KS1.out.lt)
      replace hMk := Hid.of (hMk.out.below hb hMk.out.lt)
      refine hK'.out _ _ (SA.out _ KS1.out KP1.out) (fun hS => ?_)
      clear hK' K' hb
      obtain ⟨Z, HZ⟩ : ∃ Z, Hid (Z = meetS Q T0) := ⟨_, rfl⟩
      rw [← HZ.out]
      have oZ : Hid (okS Z) := by show okS Z; rw [HZ.out]; exact okS_meet oQ.out
      refine wpAnyH_ready (rs := [6]) (by kernel_rfl) (by simp) ?_
      refine AllReadyH.cons rfl (fun K' hK' => ?_) AllReadyH.nil
      clear hS
      go_simp
      refine (rowO_any Z _ oZ.out (hT.out.below BL.out hT.out.lt)).mono ?_
      rintro e Y3 ⟨v, rfl, ov, hb⟩
      have BL0 := BL.out.size
      replace BL := Hid.of (BL.out.trans (hb.mono BL.out.size))
      replace KP1 := Hid.of (KP1.out.below hb KP1.out.lt)
      replace KS1 := Hid.of (KS1.out.below hb KS1.out.lt)
      replace hMk := Hid.of (hMk.out.below hb hMk.out.lt)
      have OV := Hid.of (Own.low ov BL0)
      refine hK'.out _ _ (SA.out _ KS1.out KP1.out) (fun hS => ?_)
      clear hK' K' hb ov
      obtain ⟨va, vc, hv, -, -, -⟩ := own_form2 OV.out
      subst hv
      refine wpAnyH_take (i := 7) (v := .slice va (rowS Z).length vc) rfl (by kernel_rfl) (by kernel_rfl) (by kernel_rfl) (fun _ _ _ h => h) (Or.inl ⟨by kernel_rfl, fun w' hw' => by obtain ⟨q0, q1, q2, q3, q4⟩ := hw'; go_simp⟩) hS ?_
      refine wpAnyH_take (i := 8) (v := .int .i64 0) rfl (by kernel_rfl) (by kernel_rfl) (by kernel_rfl) (fun _ _ _ h => h) (Or.inl ⟨by kernel_rfl, fun w' hw' => by obtain ⟨q0, q1, q2, q3, q4⟩ := hw'; go_simp⟩) hS ?_
      refine wpAnyH_done (by kernel_rfl) ?_ _
      exact ⟨va, vc, _, _, _, _, _, _, _, rfl, OV.out, hMk.out, BL.out⟩
      refine regQ_imp ?_
      rintro a' X ⟨va, vc, r36, r37, r38, r39, r40, r41, r42, rfl, ov, hmk, bl⟩
      have OV := Hid.of ov
      have HMK := Hid.of hmk
      have BLX := Hid.of bl
      clear ov hmk bl hMk KP1 KS1 BL
      obtain ⟨Z, HZ⟩ : ∃ Z, Hid (Z = meetS Q T0) := ⟨_, rfl⟩
      rw [← HZ.out] at OV
      rw [← HZ.out]
      go_wp2_with fail
      refine leaves_marks (B := w.heap.size) (fun W => Own W w.heap.size (.slice va (rowS Z).length vc) (rowS Z) ∧ Below w.heap.size w W) ?_ ?_ [D] _ HMK.out ⟨OV.out, BLX.out⟩
      · rintro W D ⟨h1, h2⟩ hD hk
        exact ⟨ownsRow_putObj h1 _ hk rfl, h2.trans (belowK_b (w := w) (Nat.le_refl _) W D _ _ hD hk rfl rfl)⟩
      · rintro W ⟨h1, h2⟩
        have hrow : rowS Z = beganL p word := by
          rw [HZ.out, HT0.out, ← began_row hMM.out]
          have r1 := rep_of (l := p.m.starts) (fun x hx => by have h3 := (may_starts hMM.out).2 x hx; have h4 := hz6.out; omega) p.m.starts.length
          rw [List.take_of_length_le (Nat.le_refl _)] at r1
          exact rep_row (rep_meet HRQ.out.1 r1) (inc_flt HRQ.out.2 _)
        obtain ⟨va', vc', hv, h3, h4⟩ := h1.at
        cases hv
        refine ⟨.tuple #[.slice va (rowS Z).length vc, .int .i64 0], by simp [results, go_sem], ?_⟩
        rw [hrow] at h3 h4
        rw [begOut_ok hp.out hin.out, hrow]
        exact ⟨va, vc, rfl, h3, h4, h2⟩
    case stop =>
      rintro D c pre W' hD hpre ⟨⟨rfl, hE⟩, hO, hBx, hB'⟩ hK
      have HRQ : Hid (RepI (bkS p S0 (seVals pre.dropLast)) (onL p word)) := by
        have h1 := rep_pre hp.out HR0.out pre.dropLast
        have h2 := rep_empty h1.1 hE
        have h3 : ∃ t, word = t ++ (seVals pre.dropLast).reverse := by
          obtain ⟨t, ht⟩ := hpre
          have h4 : pre = pre.dropLast ++ pre.drop (pre.length - 1) := by rw [List.dropLast_eq_take]; exact (List.take_append_drop _ _).symm
          have h5 := rvK_take word word.length (Nat.le_refl _)
          rw [← hxs, List.map_map, List.take_of_length_le (Nat.le_refl _), ← ht] at h5
          refine ⟨(seVals (pre.drop (pre.length - 1) ++ t)).reverse, ?_⟩
          rw [← List.reverse_append]
          have e6 : seVals pre.dropLast ++ seVals (pre.drop (pre.length - 1) ++ t) = seVals (pre ++ t) := by
            unfold seVals
            rw [← List.map_append, ← List.append_assoc, ← h4]
          rw [e6]; exact h5.symm
        obtain ⟨t, ht⟩ := h3
        have h7 : onL p word = [] := by rw [ht]; exact on_empty hMM.out h2 t
        show RepI _ _
        rw [h7]
        rw [h2] at h1
        exact h1
      obtain ⟨Q, HQ⟩ : ∃ Q, Hid (Q = bkS p S0 (seVals pre.dropLast)) := ⟨_, rfl⟩
      rw [← HQ.out] at HRQ hO hE
      have oQ := Hid.of HRQ.out.1.ok
      clear hxs hE hpre
      refine wpIn_wide.2 ?_
      have hMk : Hid (Marks w.heap.size [D] W') := by
        refine ⟨fun D' hD' => ?_, by simp⟩
        have e : D' = D := by simpa using hD'
        rw [e]
        exact ⟨Nat.le_trans BW0.out.size hD, hK⟩
      have BL := Hid.of (BW0.out.trans (hB'.mono hpsP.out))
      have KP1 := Hid.of (KP.out.below hB' (Nat.lt_of_lt_of_le hpP.out (Nat.le_refl _)))
      have KS1 := Hid.of hO
      have SA : Hid (∀ W, SB W ps Q → Blk W w.heap.size 50 (ptcells p ⟨Pl, sa, sc, ta, tc⟩) → W.cell? ⟨ps, 0, none⟩ = some (.int .u64 (Q 0)) ∧ W.cell? ⟨ps, 1, none⟩ = some (.int .u64 (Q 1)) ∧ W.cell? ⟨ps, 2, none⟩ = some (.int .u64 (Q 2)) ∧ W.cell? ⟨ps, 3, none⟩ = some (.int .u64 (Q 3)) ∧ W.cell? ⟨w.heap.size, 2, none⟩ = some (.slice Pl.a1 p.m.starts.length Pl.c1)) := fun W h1 h2 => by
        obtain ⟨x0, x1, x2, x3⟩ := SB.cells h1
        exact ⟨x0, x1, x2, x3, h2.cell 2 rfl⟩
      clear hO hB' hK hBx
      go_wp2_with fail
      refine Code.wp_mono (Q := regQ fun a' X => ∃ (va : Option Addr) (vc : Nat) (r36 r37 r38 r39 r40 r41 r42 : Value), a' = { tmps := #[ptval p ⟨Pl, sa, sc, ta, tc⟩, .slice wa word.length wc, .pointer (some ⟨w.heap.size, 0, none⟩), undef, .slice va (rowS (meetS Q T0)).length vc, .int .i64 0, .pointer (some ⟨pf, 0, none⟩), .int .i64 0, .pointer (some ⟨ps, 0, none⟩), undef, undef, .tuple #[backV pa, .int .i64 0], .agg #[.int .i64 p.m.st, .int .i64 p.m.ev, .slice Pl.a1 p.m.starts.length Pl.c1, .slice Pl.a2 p.m.arrows.length Pl.c2, .slice Pl.a3 p.m.ends.length Pl.c3, .slice sa p.seen.length sc, .slice ta p.secret.length tc], .tuple #[backV pa, .int .i64 0], backV pa, .int .i64 0, .int .i64 0, .bool false, undef, .agg #[.int .i64 p.m.st, .int .i64 p.m.ev, .slice Pl.a1 p.m.starts.length Pl.c1, .slice Pl.a2 p.m.arrows.length Pl.c2, .slice Pl.a3 p.m.ends.length Pl.c3, .slice sa p.seen.length sc, .slice ta p.secret.length tc], .slice wa word.length wc, .bool true, .bool false, .agg #[.int .i64 p.m.st, .int .i64 p.m.ev, .slice Pl.a1 p.m.starts.length Pl.c1, .slice Pl.a2 p.m.arrows.length Pl.c2, .slice Pl.a3 p.m.ends.length Pl.c3, .slice sa p.seen.length sc, .slice ta p.secret.length tc], sval S0, .slice wa word.length wc, .func (.func 127) #[] #[.pointer (some ⟨Bn, 0, none⟩)], undef, undef, undef, undef, undef, undef, undef, undef, undef, r36, r37, r38, r39, r40, r41, r42], defers := [mark D] } ∧ Own X w.heap.size (.slice va (rowS (meetS Q T0)).length vc) (rowS (meetS Q T0)) ∧ Marks w.heap.size [D] X ∧ Below w.heap.size w X) ?_ ?_
      rotate_left
      refine wp_region_held_drew (S := fun w' => w'.cell? ⟨ps, 0, none⟩ = some (.int .u64 (Q 0)) ∧ w'.cell? ⟨ps, 1, none⟩ = some (.int .u64 (Q 1)) ∧ w'.cell? ⟨ps, 2, none⟩ = some (.int .u64 (Q 2)) ∧ w'.cell? ⟨ps, 3, none⟩ = some (.int .u64 (Q 3)) ∧ w'.cell? ⟨w.heap.size, 2, none⟩ = some (.slice Pl.a1 p.m.starts.length Pl.c1)) (by kernel_rfl) (SA.out _ (Blk.drew KS1.out) (Blk.drew KP1.out)) (fun hS => ?_)
      refine wpAnyH_take (i := 0) (v := sval Q) rfl (by kernel_rfl) (by kernel_rfl) (by kernel_rfl) (fun _ _ _ h => h) (Or.inl ⟨by kernel_rfl, fun w' hw' => by obtain ⟨q0, q1, q2, q3, q4⟩ := hw'; go_simp⟩) hS ?_
      refine wpAnyH_take (i := 1) (v := .pointer (some ⟨w.heap.size, 0, none⟩)) rfl (by kernel_rfl) (by kernel_rfl) (by kernel_rfl) (fun _ _ _ h => h) (Or.inl ⟨by kernel_rfl, fun w' hw' => by obtain ⟨q0, q1, q2, q3, q4⟩ := hw'; go_simp⟩) hS ?_
      refine wpAnyH_take (i := 2) (v := .pointer (some ⟨w.heap.size, 2, none⟩)) rfl (by kernel_rfl) (by kernel_rfl) (by kernel_rfl) (fun _ _ _ h => h) (Or.inl ⟨by kernel_rfl, fun w' hw' => by obtain ⟨q0, q1, q2, q3, q4⟩ := hw'; go_simp⟩) hS ?_
      refine wpAnyH_take (i := 3) (v := .slice Pl.a1 p.m.starts.length Pl.c1) rfl (by kernel_rfl) (by kernel_rfl) (by kernel_rfl) (fun _ _ _ h => h) (Or.inl ⟨by kernel_rfl, fun w' hw' => by obtain ⟨q0, q1, q2, q3, q4⟩ := hw'; go_simp⟩) hS ?_
      replace BL : Hid (Below w.heap.size w W'.drew) := BL.out.drew
      replace KP1 : Hid (Blk W'.drew w.heap.size 50 (ptcells p ⟨Pl, sa, sc, ta, tc⟩)) := Blk.drew KP1.out
      replace KS1 : Hid (SB W'.drew ps Q) := Blk.drew KS1.out
      replace hMk : Hid (Marks w.heap.size [D] W'.drew) := ⟨fun D' hD' => hMk.out.at' D' hD', hMk.out.nd⟩
      revert hS BL KP1 KS1 hMk
      generalize W'.drew = Y0
      intro hS BL KP1 KS1 hMk
      simp only [Act.put, List.setIfInBounds_toArray]
      refine wpAnyH_ready (rs := [4]) (by kernel_rfl) (by simp) ?_
      refine AllReadyH.cons rfl (fun K' hK' => ?_) AllReadyH.nil
      clear hS
      go_simp
      refine (OF1.out _ BL.out).mono ?_
      rintro e Y1 ⟨rfl, hb⟩
      replace BL := Hid.of (BL.out.trans (hb.mono BL.out.size))
      replace KP1 := Hid.of (KP1.out.below hb KP1.out.lt)
      replace KS1 := Hid.of (KS1.out.below hb KS1.out.lt)
      replace hMk := Hid.of (hMk.out.below hb hMk.out.lt)
      refine hK'.out _ _ (SA.out _ KS1.out KP1.out) (fun hS => ?_)
      clear hK' K' hb
      refine wpAnyH_ready (rs := [5]) (by kernel_rfl) (by simp) ?_
      refine AllReadyH.cons rfl (fun K' hK' => ?_) AllReadyH.nil
      clear hS
      go_simp
      refine (meet_any Q T0 _ oQ.out oT.out).mono ?_
      rintro e Y2 ⟨rfl, hb⟩
      replace BL := Hid.of (BL.out.trans (hb.mono BL.out.size))
      replace KP1 := Hid.of (KP1.out.below hb KP1.out.lt)
      replace KS1 := Hid.of (KS1.out.below hb KS1.out.lt)
      replace hMk := Hid.of (hMk.out.below hb hMk.out.lt)
      refine hK'.out _ _ (SA.out _ KS1.out KP1.out) (fun hS => ?_)
      clear hK' K' hb
      obtain ⟨Z, HZ⟩ : ∃ Z, Hid (Z = meetS Q T0) := ⟨_, rfl⟩
      rw [← HZ.out]
      have oZ : Hid (okS Z) := by show okS Z; rw [HZ.out]; exact okS_meet oQ.out
      refine wpAnyH_ready (rs := [6]) (by kernel_rfl) (by simp) ?_
      refine AllReadyH.cons rfl (fun K' hK' => ?_) AllReadyH.nil
      clear hS
      go_simp
      refine (rowO_any Z _ oZ.out (hT.out.below BL.out hT.out.lt)).mono ?_
      rintro e Y3 ⟨v, rfl, ov, hb⟩
      have BL0 := BL.out.size
      replace BL := Hid.of (BL.out.trans (hb.mono BL.out.size))
      replace KP1 := Hid.of (KP1.out.below hb KP1.out.lt)
      replace KS1 := Hid.of (KS1.out.below hb KS1.out.lt)
      replace hMk := Hid.of (hMk.out.below hb hMk.out.lt)
      have OV := Hid.of (Own.low ov BL0)
      refine hK'.out _ _ (SA.out _ KS1.out KP1.out) (fun hS => ?_)
      clear hK' K' hb ov
      obtain ⟨va, vc, hv, -, -, -⟩ := own_form2 OV.out
      subst hv
      refine wpAnyH_take (i := 7) (v := .slice va (rowS Z).length vc) rfl (by kernel_rfl) (by kernel_rfl) (by kernel_rfl) (fun _ _ _ h => h) (Or.inl ⟨by kernel_rfl, fun w' hw' => by obtain ⟨q0, q1, q2, q3, q4⟩ := hw'; go_simp⟩) hS ?_
      refine wpAnyH_take (i := 8) (v := .int .i64 0) rfl (by kernel_rfl) (by kernel_rfl) (by kernel_rfl) (fun _ _ _ h => h) (Or.inl ⟨by kernel_rfl, fun w' hw' => by obtain ⟨q0, q1, q2, q3, q4⟩ := hw'; go_simp⟩) hS ?_
      refine wpAnyH_done (by kernel_rfl) ?_ _
      exact ⟨va, vc, _, _, _, _, _, _, _, rfl, OV.out, hMk.out, BL.out⟩
      refine regQ_imp ?_
      rintro a' X ⟨va, vc, r36, r37, r38, r39, r40, r41, r42, rfl, ov, hmk, bl⟩
      have OV := Hid.of ov
      have HMK := Hid.of hmk
      have BLX := Hid.of bl
      clear ov hmk bl hMk KP1 KS1 BL
      obtain ⟨Z, HZ⟩ : ∃ Z, Hid (Z = meetS Q T0) := ⟨_, rfl⟩
      rw [← HZ.out] at OV
      rw [← HZ.out]
      go_wp2_with fail
      refine leaves_marks (B := w.heap.size) (fun W => Own W w.heap.size (.slice va (rowS Z).length vc) (rowS Z) ∧ Below w.heap.size w W) ?_ ?_ [D] _ HMK.out ⟨OV.out, BLX.out⟩
      · rintro W D ⟨h1, h2⟩ hD hk
        exact ⟨ownsRow_putObj h1 _ hk rfl, h2.trans (belowK_b (w := w) (Nat.le_refl _) W D _ _ hD hk rfl rfl)⟩
      · rintro W ⟨h1, h2⟩
        have hrow : rowS Z = beganL p word := by
          rw [HZ.out, HT0.out, ← began_row hMM.out]
          have r1 := rep_of (l := p.m.starts) (fun x hx => by have h3 := (may_starts hMM.out).2 x hx; have h4 := hz6.out; omega) p.m.starts.length
          rw [List.take_of_length_le (Nat.le_refl _)] at r1
          exact rep_row (rep_meet HRQ.out.1 r1) (inc_flt HRQ.out.2 _)
        obtain ⟨va', vc', hv, h3, h4⟩ := h1.at
        cases hv
        refine ⟨.tuple #[.slice va (rowS Z).length vc, .int .i64 0], by simp [results, go_sem], ?_⟩
        rw [hrow] at h3 h4
        rw [begOut_ok hp.out hin.out, hrow]
        exact ⟨va, vc, rfl, h3, h4, h2⟩

end Go.Proofs.YtdhgabpoaicjoaaDoor
namespace Go.Proofs.YtdhgabpoaicjoaaDoor
open Go.RowKit
set_option linter.unusedVariables false

/-! Rows of places. -/
def pjcells (p : PlC) : List Value := [.int .u64 (p.s 0), .int .u64 (p.s 1), .int .u64 (p.s 2), .int .u64 (p.s 3), .int .i64 p.ev, .int .i64 (p.fr : Nat)]
def pjflat : List PlC → List Value
  | [] => []
  | p :: r => pjcells p ++ pjflat r
theorem pjflat_len : ∀ L : List PlC, (pjflat L).length = L.length * 6
  | [] => rfl
  | p :: r => by simp only [pjflat, pjcells, List.length_append, List.length_cons, List.length_nil, pjflat_len r]; omega
theorem pjflat_append : ∀ L M : List PlC, pjflat (L ++ M) = pjflat L ++ pjflat M
  | [], M => rfl
  | a :: r, M => by simp only [List.cons_append, pjflat, pjflat_append r M, List.append_assoc]
theorem pjflat_at : ∀ {L : List PlC} {k : Nat} {p : PlC}, L[k]? = some p → ∀ j, j < 6 → (pjflat L)[k * 6 + j]? = (pjcells p)[j]?
  | [], k, p, h => by simp at h
  | a :: r, 0, p, h => by
    have e : a = p := by simpa using h
    subst e
    intro j hj
    rw [pjflat, Nat.zero_mul, Nat.zero_add, List.getElem?_append_left (by simp [pjcells]; omega)]
  | a :: r, k + 1, p, h => by
    intro j hj
    have := pjflat_at (L := r) (k := k) (p := p) (by simpa using h) j hj
    rw [pjflat, List.getElem?_append_right (by simp [pjcells]; omega)]
    have e : (k + 1) * 6 + j - (pjcells a).length = k * 6 + j := by simp [pjcells]; omega
    rw [e]; exact this
abbrev OwnJ (W : World) (B : Nat) (v : Value) (L : List PlC) : Prop := W.ownsRow B 158 6 v L.length (pjflat L)
theorem OwnJ.cell {W : World} {B : Nat} {v : Value} {L : List PlC} (h : OwnJ W B v L) {k : Nat} {p : PlC} (hk : L[k]? = some p) : ∃ g cap, v = .slice (some ⟨g, 0, none⟩) L.length cap ∧ B ≤ g ∧ g < W.heap.size ∧ ∀ j u, (pjcells p)[j]? = some u → W.cell? ⟨g, k * 6 + j, none⟩ = some u := by
  rcases h.2 with ⟨rfl, hn⟩ | ⟨g, cap, cur, rfl, hg, hh, hnc, hcm, hcs, ht⟩
  · have := (List.getElem?_eq_some_iff.1 hk).1; omega
  · refine ⟨g, cap, rfl, hg, (Array.getElem?_eq_some_iff.1 hh).1, fun j u hu => ?_⟩
    have hj : j < 6 := by have := (List.getElem?_eq_some_iff.1 hu).1; simpa [pjcells] using this
    have c1 := h.cells (g := g) rfl _ _ ((pjflat_at hk j hj).trans hu)
    rwa [addr0_add, Nat.zero_add] at c1
theorem cells_listJ (W W' : World) (hW : W'.heap = W.heap) (t : TypeId) (xs : Array Value) : ∀ j v, xs.toList[j]? = some v → (W'.alloc (.cells xs t)).cell? ((⟨W.heap.size, 0, none⟩ : Addr).add j) = some v := by
  intro j v hv
  rw [addr0_add, Nat.zero_add, ← hW]
  exact (Blk.new W' t xs).cell j (by rw [← Array.getElem?_toList]; exact hv)
theorem own_plcJ {W : World} {B : Nat} {v : Value} {L : List PlC} {p : PlC} (h : W.ownsRow B 158 6 v (L.length + 1) (pjflat L ++ pjcells p)) : OwnJ W B v (L ++ [p]) := by
  show W.ownsRow B 158 6 v (L ++ [p]).length (pjflat (L ++ [p]))
  rw [List.length_append, pjflat_append]
  have e : pjflat [p] = pjcells p := by simp [pjflat]
  rw [e]; exact h
theorem ownJ_one (W : World) (p : PlC) (B : Nat) (hB : B ≤ W.heap.size) : OwnJ (W.alloc (.cells (pjcells p).toArray 158)) B (.slice (some ⟨W.heap.size, 0, none⟩) 1 1) [p] := by
  have : World.ownsRow (W.alloc (.cells (pjcells p).toArray 158)) B 158 6 (.slice (some ⟨W.heap.size, 0, none⟩) 1 1) 1 (pjcells p) := World.ownsRow_lit W (pjcells p).toArray 1 hB (by decide) rfl
  have e : pjflat [p] = pjcells p := by simp [pjflat]
  show World.ownsRow _ B 158 6 _ 1 (pjflat [p])
  rw [e]; exact this

/-- What least knows: its row of places, made from block B on, and its map. -/
structure LJI (B : Nat) (W : World) (br : Nat) (vs : Value) (L : List PlC) : Prop where
  ss : OwnJ W B vs L
  mp : W.heap[br]? = some (.map (entsC L) L.length)
  lr : B ≤ br
section
variable {B : Nat} {W : World} {br : Nat} {vs : Value} {L : List PlC}
theorem LJI.below {W' : World} (h : LJI B W br vs L) (hb : Below W.heap.size W W') : LJI B W' br vs L :=
  ⟨own_same h.ss (fun k hk => hb.block k (World.ownsRow.lt h.ss k hk).2), (hb.block br (Array.getElem?_eq_some_iff.1 h.mp).1).trans h.mp, h.lr⟩
theorem LJI.apart (h : LJI B W br vs L) : vs.ownBlock ≠ some br := by
  have hm := h.mp
  exact fun e => (by obtain ⟨cs, hc⟩ := own_type h.ss e; rw [hm] at hc; cases hc)
theorem LJI.push {w0 : World} {W2 W3 : World} {vs' : Value} {p : PlC} (h : LJI B W br vs L) (h0 : Below B w0 W) (hW3 : Below (setMap W br (.map (entsC (L ++ [p])) (L.length + 1))).heap.size (setMap W br (.map (entsC (L ++ [p])) (L.length + 1))) W3) (o1 : OwnJ W2 B vs' (L ++ [p])) (g : W3.grownBy W2 vs.ownBlock) (hBW : B ≤ W.heap.size) :
    LJI B W2 br vs' (L ++ [p]) ∧ Below B w0 W2 := by
  have a1 := h.apart
  have hbr := (Array.getElem?_eq_some_iff.1 h.mp).1
  have hz : W.heap.size ≤ W3.heap.size := by have := hW3.size; rwa [size_setMap] at this
  have k3 : ∀ j, j < W.heap.size → W3.heap[j]? = (setMap W br (.map (entsC (L ++ [p])) (L.length + 1))).heap[j]? := fun j hj => hW3.block j (by rw [size_setMap]; exact hj)
  have k2 : ∀ j, j < W.heap.size → vs.ownBlock ≠ some j → W2.heap[j]? = (setMap W br (.map (entsC (L ++ [p])) (L.length + 1))).heap[j]? := fun j hj hne => (g.block j (Nat.lt_of_lt_of_le hj hz) (fun e => hne e.symm)).trans (k3 j hj)
  refine ⟨⟨o1, ?_, h.lr⟩, ?_⟩
  · rw [k2 br hbr a1, heap_setMap _ _ hbr, List.length_append]; rfl
  · have b1 : Below B w0 (setMap W br (.map (entsC (L ++ [p])) (L.length + 1))) :=
      h0.trans ⟨rfl, rfl, rfl, by rw [size_setMap]; exact Nat.le_refl _, fun j hj => heap_setMap_ne _ _ _ (by have := h.lr; omega)⟩
    exact (b1.trans (hW3.mono (by rw [size_setMap]; exact hBW))).grown g (Nat.le_trans hBW hz) (fun j hj => (World.ownsRow.lt h.ss j hj).1)
end
theorem lji_first {B : Nat} {W : World} {br : Nat} {v : Value} {p : PlC} (ho : OwnJ W B v [p]) (hm : W.heap[br]? = some (.map #[] 0)) (hb : B ≤ br) : LJI B (setMap W br (.map (entsC [p]) 1)) br v [p] := by
  have hbr := (Array.getElem?_eq_some_iff.1 hm).1
  refine ⟨own_same ho (fun k hk => heap_setMap_ne _ _ _ (fun e => ?_)), heap_setMap _ _ hbr, hb⟩
  obtain ⟨cs, hc⟩ := own_type ho hk
  rw [e, hm] at hc; cases hc
theorem lji_first2 {B : Nat} {W : World} {br : Nat} {p : PlC} (hm : W.heap[br]? = some (.map (entsC [p]) 1)) (hb : B ≤ br) (hB : B ≤ W.heap.size) : LJI B (W.alloc (.cells (pjcells p).toArray 158)) br (.slice (some ⟨W.heap.size, 0, none⟩) 1 1) [p] :=
  ⟨ownJ_one W p B hB, (Below.heap_alloc W _ br (Array.getElem?_eq_some_iff.1 hm).1).trans hm, hb⟩
theorem LJI.keep {B : Nat} {W W2 W3 : World} {br hp : Nat} {vs : Value} {L L' : List PlC} {c : Nat} {t : TypeId} {cs : Array Value} (hne : vs.ownBlock ≠ some hp) (h : LJI B W br vs L) (hW3 : Below (setMap W br (.map (entsC L') c)).heap.size (setMap W br (.map (entsC L') c)) W3) (g : W3.grownBy W2 vs.ownBlock) (hh : Blk W hp t cs) : Blk W2 hp t cs := by
  have hbr := (Array.getElem?_eq_some_iff.1 h.mp).1
  have hz : W.heap.size ≤ W3.heap.size := by have := hW3.size; rwa [size_setMap] at this
  have n1 : hp ≠ br := fun e => by have hm := h.mp; rw [← e, show W.heap[hp]? = _ from hh] at hm; cases hm
  have hl := hh.lt
  exact (g.block hp (Nat.lt_of_lt_of_le hl hz) (fun e => hne e.symm)).trans ((hW3.block hp (by rw [size_setMap]; exact hl)).trans ((heap_setMap_ne _ _ _ n1).trans hh))
/-- From where, and at which event, each place but the first was found. -/
def TrJ (seen : List Int) (L : List PlC) (l : List (List Int × List Int)) : Prop := ∀ (j : Nat) (p : PlC), 0 < j → L[j]? = some p → p.fr < j ∧ ∃ x y, l[p.fr]? = some x ∧ l[j]? = some y ∧ wordS seen y.2 = p.ev :: wordS seen x.2
theorem TrJ.one (seen : List Int) (p : PlC) (x : List Int × List Int) : TrJ seen [p] [x] := fun j q hj h => by
  have := (List.getElem?_eq_some_iff.1 h).1
  simp at this; omega
theorem TrJ.snoc {seen : List Int} {L : List PlC} {l : List (List Int × List Int)} (h : TrJ seen L l) (hl : L.length = l.length) {S : Nat → Nat} {k e : Nat} {v : Int} (hv : v = seen[e]?.getD 0) {x : List Int × List Int} (hx : l[k]? = some x) (s : List Int) : TrJ seen (L ++ [⟨S, k, v⟩]) (l ++ [(s, (e : Int) :: x.2)]) := by
  intro j p hj hp
  have hk := (List.getElem?_eq_some_iff.1 hx).1
  have up : ∀ {i : Nat} {y : List Int × List Int}, l[i]? = some y → (l ++ [(s, (e : Int) :: x.2)])[i]? = some y := fun {i y} hy => by
    rw [List.getElem?_append_left (List.getElem?_eq_some_iff.1 hy).1]; exact hy
  by_cases hlt : j < L.length
  · rw [List.getElem?_append_left hlt] at hp
    obtain ⟨h1, a, b, h2, h3, h4⟩ := h j p hj hp
    exact ⟨h1, a, b, up h2, up h3, h4⟩
  · have hk' := (List.getElem?_eq_some_iff.1 hp).1
    simp at hk'
    have e1 : j = L.length := by omega
    subst e1
    rw [List.getElem?_append_right (Nat.le_refl _)] at hp
    have : (⟨S, k, v⟩ : PlC) = p := by simpa using hp
    subst this
    exact ⟨by show k < L.length; omega, x, (s, (e : Int) :: x.2), up hx, by rw [hl, List.getElem?_append_right (Nat.le_refl _)]; simp, by simp [wordS, hv]⟩

end Go.Proofs.YtdhgabpoaicjoaaDoor
namespace Go.Proofs.YtdhgabpoaicjoaaDoor
open Go.RowKit
set_option linter.unusedVariables false

set_option maxRecDepth 100000 in
set_option maxHeartbeats 4000000 in
theorem iwordOf_any (seen : List Int) (B : Nat) (v : Value) (L : List PlC) (l : List (List Int × List Int)) (s0 : List Int) (k : Nat) (x : List Int × List Int) (w : World) (hO : Hid (OwnJ w B v L)) (hT : Hid (TrJ seen L l)) (hd : Hid (l[0]? = some (s0, []))) (hll : Hid (L.length = l.length)) (hx : Hid (l[k]? = some x)) (hL : L.length ≤ 65536) :
    Calls Tryd.prog 128 #[v, .int .i64 k] w fun e w' => GivesO w (wordS seen x.2) e w' := by
  obtain ⟨j0, ji, jz0, jz1, jz2⟩ := info_parts Tryd.infoInt
  obtain ⟨va, vc, hv, -, -, -⟩ := own_form2 hO.out
  subst hv
  have hk : k < L.length := by have := (List.getElem?_eq_some_iff.1 hx.out).1; rw [hll.out]; exact this
  go_enter Tryd.func128, Tryd.ntmps128
  go_wp2
  go_loopw [1, 5] (fun i v5 wr => ∃ (j : Nat) (u : List Int), i = .int .i64 j ∧ u.length + j ≤ k ∧ Hid (Own wr w.heap.size v5 u) ∧ Hid (Below w.heap.size w wr) ∧ Hid (∃ y, l[j]? = some y ∧ wordS seen x.2 = u ++ wordS seen y.2)) (fun i _ _ => (intOf i).toNat)
  case atStart => exact ⟨k, [], rfl, by simp, own_nil _ _, Below.refl _ _, ⟨x, hx.out, by simp⟩⟩
  case round =>
    obtain ⟨j, u, rfl, hju, HO, HB, HY⟩ := hrel
    obtain ⟨fa, fc, hfa, -, -, -⟩ := own_form2 HO.out
    subst hfa
    have hwz := HB.out.size
    by_cases hj : 0 < j
    · have hjl : j < L.length := by omega
      obtain ⟨p, HP⟩ : ∃ p, Hid (L[j]? = some p) := ⟨_, List.getElem?_eq_getElem hjl⟩
      obtain ⟨g, cap, hvg, hg1, hg2, hc⟩ := hO.out.cell HP.out
      cases hvg
      have d8 := (HB.out.cell (p := ⟨g, j * 6 + 5, none⟩) hg2).trans (hc 5 _ rfl)
      have d9 := (HB.out.cell (p := ⟨g, j * 6 + 4, none⟩) hg2).trans (hc 4 _ rfl)
      have HC8 := Hid.of (hc 5 _ rfl)
      clear hc
      have HN : Hid (p.fr < j ∧ ∃ y, l[p.fr]? = some y ∧ wordS seen x.2 = (u ++ [p.ev]) ++ wordS seen y.2) := by
        obtain ⟨h1, a, b, h2, h3, h4⟩ := hT.out j p hj HP.out
        obtain ⟨y, h5, h6⟩ := HY.out
        rw [h3] at h5
        have := Option.some.inj h5
        subst this
        exact ⟨h1, a, h2, by rw [h6, h4]; simp⟩
      have hf := HN.out.1
      obtain ⟨f, Hf⟩ : ∃ f, Hid (f = p.fr) := ⟨_, rfl⟩
      obtain ⟨ev, He⟩ : ∃ ev, Hid (ev = p.ev) := ⟨_, rfl⟩
      rw [← Hf.out, ← He.out] at HN
      rw [← Hf.out] at hf d8 HC8
      rw [← He.out] at d9
      go_wp2_with (at_builtin; refine wpList_append_block _ rfl (.tmp 13) (.tmp 19) 22 rfl w.heap.size 3 j0 (.int .i64 0) 1 8 Tryd.underlying22 ji jz0 jz1 jz2 rfl (by decide) _ _ _ rfl (World.ownsRow.alloc HO.out _) ⟨wr.heap.size, 0, none⟩ 1 1 [.int .i64 ev] rfl rfl (cell_one_new _ _ _) (by intro u hu; simp at hu; subst hu; rfl) (by decide) (by unfold maxLen; omega) (by omega) (by simp; omega) ?_)
      intro v9 w9 o9 g9 n9
      obtain ⟨q1, q2, q3⟩ := own_snoc HO.out HB.out hwz o9 g9
      have Q1 := Hid.of q1
      have Q2 := Hid.of q2
      have c8 := (Q2.out.cell (p := ⟨g, j * 6 + 5, none⟩) hg2).trans HC8.out
      clear q1 q2 q3 o9 g9 n9
      go_wp2_with fail
      go_roundw
      case rel => exact ⟨f, u ++ [ev], rfl, by simp; omega, Q1, Q2, Hid.of HN.out.2⟩
      case measure => simp [intOf]; omega
    · have hj0 : j = 0 := by omega
      subst hj0
      have HX : Hid (wordS seen x.2 = u) := by
        obtain ⟨y, h1, h2⟩ := HY.out
        rw [hd.out] at h1
        have := Option.some.inj h1
        subst this
        show wordS seen x.2 = u
        simpa [wordS] using h2
      go_wp2_with fail
      exact bodyPost_ret (v := .slice fa u.length fc) (by simp [results, go_sem]) rfl ⟨_, rfl, by rw [HX.out]; exact HO.out, HB.out⟩

end Go.Proofs.YtdhgabpoaicjoaaDoor
namespace Go.Proofs.YtdhgabpoaicjoaaDoor
open Go.RowKit
set_option linter.unusedVariables false

set_option maxRecDepth 100000 in
set_option maxHeartbeats 4000000 in
theorem iteller1_any (S T R : Nat → Nat) (oS : okS S) (oT : okS T) (oR : okS R) (p3 p4 : Nat) (w : World) (h3 : Hid (SB w p3 T)) (h4 : Hid (SB w p4 R)) :
    Calls Tryd.prog 129 #[sval S, .pointer (some ⟨p3, 0, none⟩), .pointer (some ⟨p4, 0, none⟩)] w fun e w' => e = .returned (.bool (tellS S T R)) ∧ Below w.heap.size w w' := by
  have B : Hid (Below w.heap.size w (w.alloc (.cells (scells S) 65))) := (Below.refl _ _).alloc (Nat.le_refl _) _
  have KS : Hid (SB (w.alloc (.cells (scells S) 65)) w.heap.size S) := Blk.new w _ _
  have H3 := Hid.of (h3.out.alloc (.cells (scells S) 65))
  obtain ⟨x0, x1, x2, x3⟩ := SB.cells KS.out
  obtain ⟨y0, y1, y2, y3⟩ := SB.cells H3.out
  go_enter Tryd.func129, Tryd.ntmps129
  go_wp2_with fail
  clear x0 x1 x2 x3 y0 y1 y2 y3 H3 KS
  revert B
  generalize w.alloc (.cells (scells S) 65) = V0
  intro B
  refine (meet_any S T _ oS oT).mono ?_
  rintro e V1 ⟨rfl, hb⟩
  replace B := Hid.of (B.out.trans (hb.mono B.out.size))
  clear hb
  obtain ⟨Q, HQ⟩ : ∃ Q, Hid (Q = meetS S T) := ⟨_, rfl⟩
  have oQ : okS Q := by rw [HQ.out]; exact okS_meet oS
  rw [← HQ.out]
  have KQ : Hid (SB (V1.alloc (.cells (scells Q) 65)) V1.heap.size Q) := Blk.new V1 _ _
  have B1 : Hid (Below w.heap.size w (V1.alloc (.cells (scells Q) 65))) := B.out.alloc B.out.size _
  have K4 := Hid.of (h4.out.below B1.out h4.out.lt)
  clear B
  obtain ⟨x0, x1, x2, x3⟩ := SB.cells KQ.out
  obtain ⟨y0, y1, y2, y3⟩ := SB.cells K4.out
  have heq : ∀ V, (Op.equalIn 10000 65 (.agg #[.int .u64 (Q 0), .int .u64 (Q 1), .int .u64 (Q 2), .int .u64 (Q 3)]) (.agg #[.int .u64 0, .int .u64 0, .int .u64 0, .int .u64 0])).run Tryd.prog V = .ok (emptyB Q) V := fun V => run_equalIn_set Q V
  have hgd := run_guard_set
  cases hm : emptyB Q with
  | true =>
    have HO : Hid (false = tellS S T R) := by show _ = _; unfold tellS; rw [← HQ.out, hm]; rfl
    rw [hm] at heq
    clear hm
    go_wp2_with fail
    exact bodyPost_ret (v := .bool false) (by simp [results, go_sem]) rfl ⟨ret_bool HO.out, B1.out⟩
  | false =>
    have HO : Hid (emptyB (lessS Q R) = tellS S T R) := by show _ = _; unfold tellS; rw [← HQ.out, hm]; rfl
    rw [hm] at heq
    clear hm
    go_wp2_with fail
    refine (less_any Q R _ oQ oR).mono ?_
    rintro e V2 ⟨rfl, hb⟩
    have B2 := Hid.of (B1.out.trans (hb.mono B1.out.size))
    clear hb B1 x0 x1 x2 x3 y0 y1 y2 y3 KQ K4 heq
    obtain ⟨Z, HZ⟩ : ∃ Z, Hid (Z = lessS Q R) := ⟨_, rfl⟩
    rw [← HZ.out] at HO
    rw [← HZ.out]
    have heq : (Op.equalIn 10000 65 (.agg #[.int .u64 (Z 0), .int .u64 (Z 1), .int .u64 (Z 2), .int .u64 (Z 3)]) (.agg #[.int .u64 0, .int .u64 0, .int .u64 0, .int .u64 0])).run Tryd.prog V2 = .ok (emptyB Z) V2 := run_equalIn_set Z V2
    go_wp2_with fail
    exact bodyPost_ret (v := .bool (emptyB Z)) (by simp [results, go_sem]) rfl ⟨ret_bool HO.out, B2.out⟩

end Go.Proofs.YtdhgabpoaicjoaaDoor
