/-
  The walk of current.May.
  The walk of Set.OnlyIn.
  The walks of current.watch and of its closure.
  What the searches of package current stand on.
-/
import Derived.Test.YtgebfkmfhpcdhaaDoorG30
import Derived.Test.YtgebfkmfhpcdhaaDoorG10
import Derived.Test.YtgebfkmfhpcdhaaDoorG08
import Derived.Test.YtgebfkmfhpcdhaaDoorG15
import Derived.Deep.RegionHeld3
import Derived.Test.YtgebfkmfhpcdhaaDoorG25
import Derived.Test.YtgebfkmfhpcdhaaDoorG17
import Derived.Test.YtgebfkmfhpcdhaaDoorG19
import Derived.Test.YtgebfkmfhpcdhaaDoorG14
import Derived.Test.YtgebfkmfhpcdhaaDoorG23
import Derived.Test.YtgebfkmfhpcdhaaDoorG12
namespace Go.Proofs.YtgebfkmfhpcdhaaDoor
open Go.RowKit
set_option linter.unusedVariables false

set_option maxRecDepth 100000 in
set_option maxHeartbeats 4000000 in
theorem pCurMay_any (p : Plant) (P : PTL) (w : World) (h : PAt w p P) :
    Calls Tryd.prog 33 #[ptval p P] w fun e w' => e = .returned (.bool (mayP p)) ∧ Below w.heap.size w w' := by
  have B : Hid (Below w.heap.size w (w.alloc (.cells (ptcells p P) 46))) := (Below.refl _ _).alloc (Nat.le_refl _) _
  have KP : Hid (Blk (w.alloc (.cells (ptcells p P) 46)) w.heap.size 46 (ptcells p P)) := Blk.new w _ _
  have H := Hid.of h
  clear h
  go_enter Tryd.func33, Tryd.ntmps33
  obtain ⟨x0, x1, x2, x3, x4, x5, x6⟩ := ptcell_at KP.out
  go_wp2_with fail
  clear x0 x1 x2 x3 x4 x5 x6
  revert B KP
  generalize (w.alloc (.cells (ptcells p P) 46)) = V0
  intro B KP
  refine (pMay_any p.m P.l V0 (H.out.m.below B.out (Nat.le_refl _))).mono ?_
  rintro e W1 ⟨rfl, hb⟩
  replace B := Hid.of (B.out.trans (hb.mono B.out.size))
  replace KP := Hid.of (KP.out.below hb KP.out.lt)
  clear hb
  cases hm : mayB p.m with
  | false =>
    have HO : Hid (false = mayP p) := by show _ = _; unfold mayP; rw [hm]; rfl
    clear hm
    go_wp2_with fail
    go_ret
    exact ⟨ret_bool HO.out, B.out⟩
  | true =>
    have HM := Hid.of hm
    clear hm
    obtain ⟨x0, x1, x2, x3, x4, x5, x6⟩ := ptcell_at KP.out
    by_cases hs6 : p.m.st ≤ 6
    · have d1 : decide (p.m.st ≤ (6 : Int)) = true := by simpa using hs6
      have H6 := Hid.of hs6
      clear hs6
      go_wp2_with fail
      refine (rowIs_any P.sa P.sc p.seen p.m.ev W1 (H.out.s.at_.below B.out (Nat.le_refl _)) H.out.s.len).mono ?_
      rintro e W2 ⟨rfl, rfl⟩
      cases hr : rowB p.m.ev p.seen with
      | false =>
        have HO : Hid (false = mayP p) := by show _ = _; unfold mayP; rw [hr]; simp
        clear hr
        go_wp2_with fail
        go_ret
        exact ⟨ret_bool HO.out, B.out⟩
      | true =>
        have HO : Hid (rowB p.m.st p.secret = mayP p) := by show _ = _; unfold mayP; rw [HM.out, hr, decide_eq_true H6.out]; rfl
        clear hr
        go_wp2_with fail
        refine (rowIs_any P.ta P.tc p.secret p.m.st W2 (H.out.t.at_.below B.out (Nat.le_refl _)) H.out.t.len).mono ?_
        rintro e W3 ⟨rfl, rfl⟩
        go_wp2_with fail
        go_ret
        exact ⟨ret_bool HO.out, B.out⟩
    · have d1 : decide (p.m.st ≤ (6 : Int)) = false := by simpa using hs6
      have HO : Hid (false = mayP p) := by show _ = _; unfold mayP; rw [d1]; simp
      clear hs6
      go_wp2_with fail
      go_ret
      exact ⟨ret_bool HO.out, B.out⟩

end Go.Proofs.YtgebfkmfhpcdhaaDoor
namespace Go.Proofs.YtgebfkmfhpcdhaaDoor
open Go.RowKit
set_option linter.unusedVariables false

set_option maxRecDepth 100000 in
set_option maxHeartbeats 4000000 in
theorem onlyIn_any (S T : Nat → Nat) (oS : okS S) (oT : okS T) (w : World) :
    Calls Tryd.prog 87 #[sval S, sval T] w fun e w' => e = .returned (.bool (onlyS S T)) ∧ Below w.heap.size w w' := by
  have B : Hid (Below w.heap.size w ((w.alloc (.cells (scells S) 79)).alloc (.cells (scells T) 79))) := ((Below.refl _ _).alloc (Nat.le_refl _) _).alloc (by simp) _
  have KS : Hid (SB ((w.alloc (.cells (scells S) 79)).alloc (.cells (scells T) 79)) w.heap.size S) := (Blk.new w _ _).alloc _
  have KT : Hid (SB ((w.alloc (.cells (scells S) 79)).alloc (.cells (scells T) 79)) (w.heap.size + 1) T) := by
    have := Blk.new (w.alloc (.cells (scells S) 79)) 79 (scells T)
    rwa [World.size_alloc] at this
  obtain ⟨x0, x1, x2, x3⟩ := SB.cells KS.out
  obtain ⟨y0, y1, y2, y3⟩ := SB.cells KT.out
  go_enter Tryd.func87, Tryd.ntmps87
  have heq : ∀ V, (Op.equalIn 10000 79 (.agg #[.int .u64 (S 0), .int .u64 (S 1), .int .u64 (S 2), .int .u64 (S 3)]) (.agg #[.int .u64 0, .int .u64 0, .int .u64 0, .int .u64 0])).run Tryd.prog V = .ok (emptyB S) V := fun V => run_equalIn_set S V
  have hgd := run_guard_set
  cases hm : emptyB S with
  | true =>
    have HO : Hid (false = onlyS S T) := by show _ = _; unfold onlyS; rw [hm]; rfl
    rw [hm] at heq
    clear hm
    go_wp2_with fail
    exact bodyPost_ret (v := .bool false) (by simp [results, go_sem]) rfl ⟨ret_bool HO.out, B.out⟩
  | false =>
    have HO : Hid (emptyB (lessS S T) = onlyS S T) := by show _ = _; unfold onlyS; rw [hm]; rfl
    rw [hm] at heq
    clear hm
    go_wp2_with fail
    refine (less_any S T _ oS oT).mono ?_
    rintro e V2 ⟨rfl, hb⟩
    have B2 := Hid.of (B.out.trans (hb.mono B.out.size))
    clear hb B x0 x1 x2 x3 y0 y1 y2 y3 KS KT heq
    obtain ⟨Z, HZ⟩ : ∃ Z, Hid (Z = lessS S T) := ⟨_, rfl⟩
    rw [← HZ.out] at HO
    rw [← HZ.out]
    have heq : (Op.equalIn 10000 79 (.agg #[.int .u64 (Z 0), .int .u64 (Z 1), .int .u64 (Z 2), .int .u64 (Z 3)]) (.agg #[.int .u64 0, .int .u64 0, .int .u64 0, .int .u64 0])).run Tryd.prog V2 = .ok (emptyB Z) V2 := run_equalIn_set Z V2
    go_wp2_with fail
    exact bodyPost_ret (v := .bool (emptyB Z)) (by simp [results, go_sem]) rfl ⟨ret_bool HO.out, B2.out⟩

end Go.Proofs.YtgebfkmfhpcdhaaDoor
namespace Go.Proofs.YtgebfkmfhpcdhaaDoor
open Go.RowKit
set_option linter.unusedVariables false

theorem idx_place (n : Int) : ∀ (xs : List Int) (k : Nat), (∃ j : Nat, placeN xs n = some j ∧ idxFrom n k xs = ((k + j : Nat) : Int)) ∨ (placeN xs n = none ∧ idxFrom n k xs = -1)
  | [], k => .inr ⟨rfl, rfl⟩
  | x :: r, k => by
    unfold placeN idxFrom
    by_cases h : n = x
    · subst h
      exact .inl ⟨0, by simp, by simp⟩
    · have h' : ¬ x = n := fun e => h e.symm
      rw [if_neg h]
      rcases idx_place n r (k + 1) with ⟨j, h1, h2⟩ | ⟨h1, h2⟩
      · exact .inl ⟨j + 1, by simp [h', h1], by rw [h2]; simp; omega⟩
      · exact .inr ⟨by simp [h', h1], h2⟩
theorem idx_of {n : Int} {xs : List Int} {j : Nat} (h : placeN xs n = some j) : idxFrom n 0 xs = (j : Int) := by
  rcases idx_place n xs 0 with ⟨i, h1, h2⟩ | ⟨h1, -⟩
  · rw [h] at h1
    have := Option.some.inj h1
    subst this
    rw [h2]; simp
  · rw [h] at h1; cases h1

abbrev zs4 : Array Value := #[.int .u64 0, .int .u64 0, .int .u64 0, .int .u64 0]
/-- The closure that tells where an estimate leads to, and what it knows. -/
abbrev cleadV (pl pp : Nat) : Value := .func (.func 123) #[] #[.pointer (some ⟨pl, 0, none⟩), .pointer (some ⟨pp, 0, none⟩)]
structure CL (W : World) (pl pp : Nat) (L : LB) (p : Plant) (P : PTL) : Prop where
  ca : Blk W pl 111 #[leadV L]
  cp : Blk W pp 46 (ptcells p P)
  pt : PAt W p P
  la : LD W L p.seen.length (p.m.st.toNat * p.seen.length) (tabS p.seen.length (hideM p.m p.seen).arrows)
theorem CL.kept {W W' : World} {pl pp : Nat} {L : LB} {p : Plant} {P : PTL} (h : CL W pl pp L p P) (hb : Below W.heap.size W W') : CL W' pl pp L p P :=
  ⟨h.ca.below hb h.ca.lt, h.cp.below hb h.cp.lt, h.pt.below hb (Nat.le_refl _), h.la.kept hb⟩

set_option maxRecDepth 100000 in
set_option maxHeartbeats 8000000 in
theorem cwatch1_any (p : Plant) (P : PTL) (S : Nat → Nat) (e : Int) (k : Nat) (hk : Hid (placeN p.seen e = some k)) (hk2 : k < p.seen.length) (h8 : p.seen.length ≤ 8) (h256 : p.m.st.toNat ≤ 256) (hS : Hid (okS S)) (hall : Hid (∀ n ∈ allS S, n < p.m.st.toNat)) (pl pp : Nat) (L : LB) (w : World) (hT : Hid (Tab w)) (hL : Hid (CL w pl pp L p P)) :
    Calls Tryd.prog 123 #[sval S, .int .i64 e, .pointer (some ⟨pl, 0, none⟩), .pointer (some ⟨pp, 0, none⟩)] w fun e' w' => e' = .returned (sval (leadS p.seen.length (hideM p.m p.seen).arrows S k)) ∧ Below w.heap.size w w' := by
  have B0 : Hid (Below w.heap.size w ((w.alloc (.cells (scells S) 79)).alloc (.cells zs4 79))) := ((Below.refl _ _).alloc (Nat.le_refl _) _).alloc (by simp) _
  have K0 : Hid (SB ((w.alloc (.cells (scells S) 79)).alloc (.cells zs4 79)) w.heap.size S) := (Blk.new w _ _).alloc _
  have R0 : Hid (SB ((w.alloc (.cells (scells S) 79)).alloc (.cells zs4 79)) (w.heap.size + 1) zeroS) := by
    have := Blk.new (w.alloc (.cells (scells S) 79)) 79 zs4
    rwa [World.size_alloc] at this
  go_enter Tryd.func123, Tryd.ntmps123
  go_wp2_with fail
  revert B0 K0 R0
  generalize (w.alloc (.cells (scells S) 79)).alloc (.cells zs4 79) = V0
  intro B0 K0 R0
  have cellsAt : Hid (∀ W, Below w.heap.size w W → SB W w.heap.size S → W.cell? ⟨w.heap.size, 0, none⟩ = some (.int .u64 (S 0)) ∧ W.cell? ⟨w.heap.size, 1, none⟩ = some (.int .u64 (S 1)) ∧ W.cell? ⟨w.heap.size, 2, none⟩ = some (.int .u64 (S 2)) ∧ W.cell? ⟨w.heap.size, 3, none⟩ = some (.int .u64 (S 3)) ∧ W.cell? ⟨pl, 0, none⟩ = some (leadV L) ∧ W.cell? ⟨pp, 5, none⟩ = some (.slice P.sa p.seen.length P.sc)) := fun W hb hp => by
    obtain ⟨x0, x1, x2, x3⟩ := SB.cells hp
    exact ⟨x0, x1, x2, x3, (hL.out.ca.below hb hL.out.ca.lt).cell 0 rfl, (hL.out.cp.below hb hL.out.cp.lt).cell 5 rfl⟩
  refine wp_region_held_drew (S := fun w' => w'.cell? ⟨w.heap.size, 0, none⟩ = some (.int .u64 (S 0)) ∧ w'.cell? ⟨w.heap.size, 1, none⟩ = some (.int .u64 (S 1)) ∧ w'.cell? ⟨w.heap.size, 2, none⟩ = some (.int .u64 (S 2)) ∧ w'.cell? ⟨w.heap.size, 3, none⟩ = some (.int .u64 (S 3)) ∧ w'.cell? ⟨pl, 0, none⟩ = some (leadV L) ∧ w'.cell? ⟨pp, 5, none⟩ = some (.slice P.sa p.seen.length P.sc)) (by kernel_rfl) (cellsAt.out _ B0.out.drew (Blk.drew K0.out)) (fun hS0 => ?_)
  have B1 : Hid (Below w.heap.size w V0.drew) := B0.out.drew
  have K1 : Hid (SB V0.drew w.heap.size S) := Blk.drew K0.out
  have R1 : Hid (SB V0.drew (w.heap.size + 1) zeroS) := Blk.drew R0.out
  clear B0 K0 R0
  revert B1 K1 R1 hS0
  generalize V0.drew = Y0
  intro hS0 B1 K1 R1
  refine wpAnyH_take (i := 0) (v := leadV L) rfl (by kernel_rfl) (by kernel_rfl) (by kernel_rfl) (fun _ _ _ h => h) (Or.inl ⟨by kernel_rfl, fun w' hw' => by obtain ⟨q0, q1, q2, q3, q4, q5⟩ := hw'; go_simp⟩) hS0 ?_
  refine wpAnyH_take (i := 1) (v := sval S) rfl (by kernel_rfl) (by kernel_rfl) (by kernel_rfl) (fun _ _ _ h => h) (Or.inl ⟨by kernel_rfl, fun w' hw' => by obtain ⟨q0, q1, q2, q3, q4, q5⟩ := hw'; go_simp⟩) hS0 ?_
  refine wpAnyH_take (i := 2) (v := .pointer (some ⟨pp, 5, none⟩)) rfl (by kernel_rfl) (by kernel_rfl) (by kernel_rfl) (fun _ _ _ h => h) (Or.inl ⟨by kernel_rfl, fun w' hw' => by obtain ⟨q0, q1, q2, q3, q4, q5⟩ := hw'; go_simp⟩) hS0 ?_
  refine wpAnyH_take (i := 3) (v := .slice P.sa p.seen.length P.sc) rfl (by kernel_rfl) (by kernel_rfl) (by kernel_rfl) (fun _ _ _ h => h) (Or.inl ⟨by kernel_rfl, fun w' hw' => by obtain ⟨q0, q1, q2, q3, q4, q5⟩ := hw'; go_simp⟩) hS0 ?_
  refine wpAnyH_take (i := 4) (v := .int .i64 e) rfl (by kernel_rfl) (by kernel_rfl) (by kernel_rfl) (fun _ _ _ h => h) (Or.inl ⟨by kernel_rfl, fun w' hw' => by obtain ⟨q0, q1, q2, q3, q4, q5⟩ := hw'; go_simp⟩) hS0 ?_
  simp only [Act.put, List.setIfInBounds_toArray]
  refine wpAnyH_ready (rs := [5]) (by kernel_rfl) (by simp) ?_
  refine AllReadyH.cons rfl (fun K' hK' => ?_) AllReadyH.nil
  go_simp
  refine (index_any P.sa P.sc p.seen e Y0 (hL.out.pt.s.at_.below B1.out (Nat.le_refl _)) hL.out.pt.s.len).mono ?_
  rintro e1 Y1 ⟨rfl, rfl⟩
  rw [idx_of hk.out]
  refine hK'.out _ _ (cellsAt.out _ B1.out K1.out) (fun hS1 => ?_)
  clear hK' K' hS0
  refine wpAnyH_ready (rs := [6]) (by kernel_rfl) (by simp) ?_
  refine AllReadyH.cons rfl (fun K' hK' => ?_) AllReadyH.nil
  go_simp
  refine (lead1_any p.m.st.toNat p.seen.length k L _ (okS_tab _ _) S hS.out hall.out hk2 h8 h256 _ (hT.out.below B1.out hT.out.lt) (hL.out.la.below B1.out hL.out.la.lt)).mono ?_
  rintro e1 Y2 ⟨rfl, hb1⟩
  have B3 := Hid.of (B1.out.trans (hb1.mono B1.out.size))
  have K3 := Hid.of (K1.out.below hb1 K1.out.lt)
  have R3 := Hid.of (R1.out.below hb1 R1.out.lt)
  refine hK'.out _ _ (cellsAt.out _ B3.out K3.out) (fun hS2 => ?_)
  clear hK' K' hb1 B1 K1 R1 hS1
  obtain ⟨Q, HQ⟩ : ∃ Q, Hid (Q = leadF (tabS p.seen.length (hideM p.m p.seen).arrows) p.seen.length k (allS S)) := ⟨_, rfl⟩
  rw [← HQ.out]
  have HR : Hid (leadS p.seen.length (hideM p.m p.seen).arrows S k = Q) := by show _ = _; unfold leadS; rw [HQ.out]
  refine wpAnyH_ready (rs := [7]) (by kernel_rfl) (by simp) ?_
  refine AllReadyH.cons rfl (fun K' hK' => ?_) AllReadyH.nil
  have rz := R3.out.frozen
  obtain ⟨r0, r1, r2, r3⟩ := SB.cells R3.out
  have RR := Hid.of (SB.set4 R3.out Q)
  have BB := Hid.of (below_set4 B3.out (b' := w.heap.size + 1) (by omega) (.int .u64 (Q 0)) (.int .u64 (Q 1)) (.int .u64 (Q 2)) (.int .u64 (Q 3)))
  have KK : Hid (SB _ w.heap.size S) := Blk.other4 K3.out (Nat.ne_of_lt (Nat.lt_succ_self w.heap.size)) (.int .u64 (Q 0)) (.int .u64 (Q 1)) (.int .u64 (Q 2)) (.int .u64 (Q 3))
  go_simp
  refine hK'.out _ _ (cellsAt.out _ BB.out KK.out) (fun hS3 => ?_)
  clear hK' K' r0 r1 r2 r3 rz hS2 hS3
  refine wpAnyH_done (by kernel_rfl) ?_ _
  obtain ⟨r0, r1, r2, r3⟩ := SB.cells RR.out
  go_wp2
  refine bodyPost_ret (v := sval Q) ?_ rfl ⟨by rw [HR.out], BB.out⟩
  simp [results, go_sem, r0, r1, r2, r3]

/-- What watch leaves, where the plant may be. -/
def WatchPost (w : World) (p : Plant) (P : PTL) (e : Ending) (w' : World) : Prop := ∃ pl pp L, e = .returned (.tuple #[sval (ofS (wideL p.m.arrows p.seen p.m.starts)), cleadV pl pp, .int .i64 0]) ∧ CL w' pl pp L p P ∧ Below w.heap.size w w'

theorem results_setTwo {fn : Func} {p u v : Tmp} (h : fn.results = #[.cell p 79, .tmp u, .tmp v]) (tmps : Array Value) (w : World) (g : Nat) (S : Nat → Nat) (x y : Value) (hp : tmps.getD p undef = .pointer (some ⟨g, 0, none⟩)) (hu : tmps.getD u undef = x) (hv : tmps.getD v undef = y) (hB : SB w g S) :
    (results fn tmps).run Tryd.prog w = .ok (.tuple #[sval S, x, y]) w := by
  obtain ⟨x0, x1, x2, x3⟩ := SB.cells hB
  have e : (results fn tmps).run Tryd.prog w = ((asAddr (tmps.getD p undef)).run Tryd.prog w).andThen fun a w₁ => ((loadVar 79 a).run Tryd.prog w₁).andThen fun r w₂ => .ok (.tuple #[r, tmps.getD u undef, tmps.getD v undef]) w₂ := by
    simp only [results, h]
    simp [Sem.run_bind, Result.andThen]
  rw [e, hp, hu, hv]
  go_simp

set_option maxRecDepth 100000 in
set_option maxHeartbeats 8000000 in
theorem cwatch_bad (p : Plant) (P : PTL) (w : World) (h : Hid (PAt w p P)) (hp : Hid (mayP p = false)) :
    Calls Tryd.prog 84 #[ptval p P] w fun e w' => e = .returned (.tuple #[sval zeroS, .nilFunc, .int .i64 2]) ∧ Below w.heap.size w w' := by
  have B : Hid (Below w.heap.size w ((w.alloc (.cells (ptcells p P) 46)).alloc (.cells zs4 79))) := ((Below.refl _ _).alloc (Nat.le_refl _) _).alloc (by simp) _
  have KP : Hid (Blk ((w.alloc (.cells (ptcells p P) 46)).alloc (.cells zs4 79)) w.heap.size 46 (ptcells p P)) := (Blk.new w _ _).alloc _
  have KR : Hid (SB ((w.alloc (.cells (ptcells p P) 46)).alloc (.cells zs4 79)) (w.heap.size + 1) zeroS) := by
    have := Blk.new (w.alloc (.cells (ptcells p P) 46)) 79 zs4
    rwa [World.size_alloc] at this
  go_enter Tryd.func84, Tryd.ntmps84
  obtain ⟨x0, x1, x2, x3, x4, x5, x6⟩ := ptcell_at KP.out
  go_wp2_with fail
  clear x0 x1 x2 x3 x4 x5 x6
  revert B KP KR
  generalize ((w.alloc (.cells (ptcells p P) 46)).alloc (.cells zs4 79)) = V0
  intro B KP KR
  refine (pCurMay_any p P V0 (h.out.below B.out (Nat.le_refl _))).mono ?_
  rintro e W1 ⟨rfl, hb⟩
  replace B := Hid.of (B.out.trans (hb.mono B.out.size))
  replace KP := Hid.of (KP.out.below hb KP.out.lt)
  replace KR := Hid.of (KR.out.below hb KR.out.lt)
  clear hb
  rw [hp.out]
  have rz := KR.out.frozen
  obtain ⟨r0, r1, r2, r3⟩ := SB.cells KR.out
  have RR := Hid.of (SB.set4 KR.out zeroS)
  have BB := Hid.of (below_set4 B.out (b' := w.heap.size + 1) (by omega) (.int .u64 (zeroS 0)) (.int .u64 (zeroS 1)) (.int .u64 (zeroS 2)) (.int .u64 (zeroS 3)))
  go_wp2_with fail
  exact bodyPost_ret (v := .tuple #[sval zeroS, .nilFunc, .int .i64 2]) (results_setTwo (p := 2) (u := 3) (v := 4) rfl _ _ (w.heap.size + 1) zeroS _ _ rfl rfl rfl RR.out) rfl ⟨rfl, BB.out⟩

set_option maxRecDepth 100000 in
set_option maxHeartbeats 8000000 in
theorem cwatch_ok (p : Plant) (P : PTL) (w : World) (h : Hid (PAt w p P)) (hT : Hid (Tab w)) (hp : Hid (mayP p = true)) :
    Calls Tryd.prog 84 #[ptval p P] w fun e w' => WatchPost w p P e w' := by
  have hmf : ∀ (fn : Fn) (first cap : Array Value) (w : World), (Instr.makeFunc fn first cap).run Tryd.prog w = .ok (.func fn first cap) w := fun _ _ _ _ => rfl
  obtain ⟨hm, z6, hr, -⟩ := (mayP_iff p).1 hp.out
  have hft := hide_small hm z6 hr
  have HMH := Hid.of (may_hide hm hr hft)
  have HMM := Hid.of hm
  have HRR := Hid.of hr
  have HFT := Hid.of hft
  have sbd : Hid (∀ x ∈ (hideM p.m p.seen).starts, 0 ≤ x ∧ x < 256) := fun x hx => by
    have := (may_starts HMH.out).2 x hx
    have e : (hideM p.m p.seen).st = p.m.st := rfl
    omega
  clear hm hr hft z6
  have B : Hid (Below w.heap.size w ((w.alloc (.cells (ptcells p P) 46)).alloc (.cells zs4 79))) := ((Below.refl _ _).alloc (Nat.le_refl _) _).alloc (by simp) _
  have KP : Hid (Blk ((w.alloc (.cells (ptcells p P) 46)).alloc (.cells zs4 79)) w.heap.size 46 (ptcells p P)) := (Blk.new w _ _).alloc _
  have KR : Hid (SB ((w.alloc (.cells (ptcells p P) 46)).alloc (.cells zs4 79)) (w.heap.size + 1) zeroS) := by
    have := Blk.new (w.alloc (.cells (ptcells p P) 46)) 79 zs4
    rwa [World.size_alloc] at this
  go_enter Tryd.func84, Tryd.ntmps84
  obtain ⟨x0, x1, x2, x3, x4, x5, x6⟩ := ptcell_at KP.out
  go_wp2_with fail
  clear x0 x1 x2 x3 x4 x5 x6
  revert B KP KR
  generalize ((w.alloc (.cells (ptcells p P) 46)).alloc (.cells zs4 79)) = V0
  intro B KP KR
  refine (pCurMay_any p P V0 (h.out.below B.out (Nat.le_refl _))).mono ?_
  rintro e W1 ⟨rfl, hb⟩
  replace B := Hid.of (B.out.trans (hb.mono B.out.size))
  replace KP := Hid.of (KP.out.below hb KP.out.lt)
  replace KR := Hid.of (KR.out.below hb KR.out.lt)
  clear hb
  rw [hp.out]
  obtain ⟨x0, x1, x2, x3, x4, x5, x6⟩ := ptcell_at KP.out
  go_wp2_with fail
  clear x0 x1 x2 x3 x4 x5 x6
  refine (hide_okp p.m P.l P.sa P.sc p.seen W1 (h.out.m.below B.out (Nat.le_refl _)) (h.out.s.at_.below B.out (Nat.le_refl _)) h.out.s.len (hT.out.below B.out hT.out.lt) HMM.out HRR.out HFT.out).mono ?_
  rintro e W2 ⟨Lh, rfl, mt, hb⟩
  replace B := Hid.of (B.out.trans (hb.mono B.out.size))
  replace KP := Hid.of (KP.out.below hb KP.out.lt)
  replace KR := Hid.of (KR.out.below hb KR.out.lt)
  clear hb
  obtain ⟨M, HM⟩ : ∃ M, Hid (M = hideM p.m p.seen) := ⟨_, rfl⟩
  rw [← HM.out] at mt HMH sbd
  rw [← HM.out]
  have hb : Below W2.heap.size W2 (W2.alloc (.cells (mcells M Lh) 25)) := (Below.refl _ _).alloc (Nat.le_refl _) _
  replace B := Hid.of (B.out.trans (hb.mono B.out.size))
  replace KP := Hid.of (KP.out.below hb KP.out.lt)
  replace KR := Hid.of (KR.out.below hb KR.out.lt)
  have MT := Hid.of (mt.below hb (Nat.le_refl _))
  have KM := Hid.of (Blk.new W2 25 (mcells M Lh))
  clear hb mt
  obtain ⟨x0, x1, x2, x3, x4⟩ := mcell_at KM.out
  go_wp2_with fail
  clear x0 x1 x2 x3 x4
  revert B KP KR MT KM
  show Hid (Below w.heap.size w (W2.alloc (.cells #[.int .i64 M.st, .int .i64 M.ev, .slice Lh.a1 M.starts.length Lh.c1, .slice Lh.a2 M.arrows.length Lh.c2, .slice Lh.a3 M.ends.length Lh.c3] 25))) → _
  generalize W2.alloc (.cells #[.int .i64 M.st, .int .i64 M.ev, .slice Lh.a1 M.starts.length Lh.c1, .slice Lh.a2 M.arrows.length Lh.c2, .slice Lh.a3 M.ends.length Lh.c3] 25) = W3
  generalize W2.heap.size = pm
  intro B KP KR MT KM
  refine (leader_any M Lh W3 HMH.out MT.out).mono ?_
  rintro e W4 ⟨L, rfl, ld, ll, hb⟩
  have LL : Hid (L.all (· ≠ w.heap.size + 1)) := ll.imp (fun n hn => by have := KR.out.lt; omega)
  replace B := Hid.of (B.out.trans (hb.mono B.out.size))
  replace KP := Hid.of (KP.out.below hb KP.out.lt)
  replace KR := Hid.of (KR.out.below hb KR.out.lt)
  replace KM := Hid.of (KM.out.below hb KM.out.lt)
  replace MT := Hid.of (MT.out.below hb (Nat.le_refl _))
  clear hb ll
  have hb : Below W4.heap.size W4 (W4.alloc (.cells #[leadV L] 111)) := (Below.refl _ _).alloc (Nat.le_refl _) _
  have P7 := Hid.of (show w.heap.size + 1 < W4.heap.size from KR.out.lt)
  replace B := Hid.of (B.out.trans (hb.mono B.out.size))
  replace KP := Hid.of (KP.out.below hb KP.out.lt)
  replace KR := Hid.of (KR.out.below hb KR.out.lt)
  replace KM := Hid.of (KM.out.below hb KM.out.lt)
  replace MT := Hid.of (MT.out.below hb (Nat.le_refl _))
  have LD1 := Hid.of (ld.kept hb)
  have KF := Hid.of (Blk.new W4 111 #[leadV L])
  clear hb ld
  obtain ⟨x0, x1, x2, x3, x4⟩ := mcell_at KM.out
  go_wp2_with fail
  clear x0 x1 x2 x3 x4
  revert P7 B KP KR KM MT LD1 KF
  generalize W4.alloc (.cells #[leadV L] 111) = W5
  generalize W4.heap.size = pf
  intro P7 B KP KR KM MT LD1 KF
  refine (of_any Lh.a1 Lh.c1 M.starts W5 MT.out.s (Nat.le_trans MT.out.s1 MT.out.s2) sbd.out).mono ?_
  rintro e W6 ⟨rfl, hb⟩
  replace B := Hid.of (B.out.trans (hb.mono B.out.size))
  replace KP := Hid.of (KP.out.below hb KP.out.lt)
  replace KR := Hid.of (KR.out.below hb KR.out.lt)
  replace LD1 := Hid.of (LD1.out.kept hb)
  replace KF := Hid.of (KF.out.below hb KF.out.lt)
  clear hb KM MT
  obtain ⟨Q, HQ⟩ : ∃ Q, Hid (Q = ofS M.starts) := ⟨_, rfl⟩
  rw [← HQ.out]
  have rz := KR.out.frozen
  obtain ⟨r0, r1, r2, r3⟩ := SB.cells KR.out
  have RR := Hid.of (SB.set4 KR.out Q)
  have BB := Hid.of (below_set4 B.out (b' := w.heap.size + 1) (by omega) (.int .u64 (Q 0)) (.int .u64 (Q 1)) (.int .u64 (Q 2)) (.int .u64 (Q 3)))
  have PP := Hid.of (Blk.other4 KP.out (Nat.ne_of_lt (Nat.lt_succ_self w.heap.size)) (.int .u64 (Q 0)) (.int .u64 (Q 1)) (.int .u64 (Q 2)) (.int .u64 (Q 3)))
  have FF := Hid.of (Blk.other4 KF.out (b' := w.heap.size + 1) (by have := P7.out; omega) (.int .u64 (Q 0)) (.int .u64 (Q 1)) (.int .u64 (Q 2)) (.int .u64 (Q 3)))
  have DD := Hid.of (LD.other4 LD1.out LL.out (.int .u64 (Q 0)) (.int .u64 (Q 1)) (.int .u64 (Q 2)) (.int .u64 (Q 3)))
  clear B KP KR LD1 KF
  go_wp2_with fail
  refine bodyPost_ret (v := .tuple #[sval Q, cleadV pf w.heap.size, .int .i64 0]) (results_setTwo (p := 2) (u := 3) (v := 4) rfl _ _ (w.heap.size + 1) Q _ _ rfl rfl rfl RR.out) rfl ⟨pf, w.heap.size, L, ?_, ⟨FF.out, PP.out, h.out.below BB.out (Nat.le_refl _), ?_⟩, BB.out⟩
  · rw [HQ.out, HM.out]; rfl
  · have := DD.out
    rw [HM.out] at this
    exact this

end Go.Proofs.YtgebfkmfhpcdhaaDoor
namespace Go.Proofs.YtgebfkmfhpcdhaaDoor
open Go.RowKit
set_option linter.unusedVariables false

theorem Tryd.infoPlaceC : (Tryd.prog.info? 118).map (fun i => (i.zero, i.size, i.bytes)) = some (some (.agg (pccells ⟨zeroS, .slice none 0 0, []⟩).toArray), 5, 56) := by kernel_rfl
theorem below_mapC {B : Nat} {w W : World} (h : Below B w W) {br : Nat} (hb : B ≤ br) (o : Obj) : Below B w (setMap W br o) :=
  h.trans ⟨rfl, rfl, rfl, by rw [size_setMap]; exact Nat.le_refl _, fun j hj => heap_setMap_ne _ _ _ (by omega)⟩
theorem blk_mapC {W : World} {b br : Nat} {t : TypeId} {cs : Array Value} (h : Blk W b t cs) (hn : b ≠ br) (o : Obj) : Blk (setMap W br o) b t cs := (heap_setMap_ne W br o hn).trans h
/-- An event that is seen stands at its own place. -/
theorem place_nth {seen : List Int} (hi : Inc seen) {e : Nat} (he : e < seen.length) : placeN seen (seen[e]?.getD 0) = some e := by
  rw [List.getElem?_eq_getElem he, Option.getD_some]
  obtain ⟨j, hj⟩ := placeN_mem (List.getElem_mem he)
  have h1 := placeN_some hj
  obtain ⟨hl, h2⟩ := List.getElem?_eq_some_iff.1 h1
  have : j = e := by
    rcases Nat.lt_trichotomy j e with h | h | h
    · have := List.pairwise_iff_getElem.1 hi j e hl he h; omega
    · exact h
    · have := List.pairwise_iff_getElem.1 hi e j he hl h; omega
  rw [hj, this]
/-- Where a set leads to is what is known next. -/
theorem rep_see {p : Plant} (hp : mayP p = true) {S : Nat → Nat} {s : List Int} (hr : RepI S s) (hc : ClU p s) {e : Nat} (he : e < p.seen.length) : RepI (leadS p.seen.length (hideM p.m p.seen).arrows S e) (seeD p s e) := by
  obtain ⟨hm, z6, hrr, -⟩ := (mayP_iff p).1 hp
  have hmh := may_hide hm hrr (hide_small hm z6 hrr)
  have e1 : (hideM p.m p.seen).st = p.m.st := rfl
  have r1 := rep_lead (st := (hideM p.m p.seen).st) (ev := (p.seen.length : Int)) (e := (e : Int)) hr.1 (may_arrs hmh) (by omega) (by omega) (by omega)
  have r2 : Rep (leadS p.seen.length (hideM p.m p.seen).arrows S e) (stepL (hideM p.m p.seen).arrows s (e : Int)) := by simpa only [Int.toNat_natCast] using r1
  rw [hide_see hm hc he] at r2
  exact ⟨r2, (see_in hm s _).1⟩
theorem all_lt {p : Plant} {S : Nat → Nat} {s : List Int} (hr : RepI S s) (hc : ClU p s) : ∀ n ∈ allS S, n < p.m.st.toNat := fun n hn => by
  obtain ⟨m1, m2⟩ := (mem_allS S n).1 hn
  have := hc.1 (n : Int) ((hr.1.mem n m1).1 m2)
  omega

theorem rep_start {p : Plant} (hp : mayP p = true) : RepI (ofS (wideL p.m.arrows p.seen p.m.starts)) (wideL p.m.arrows p.seen p.m.starts) := by
  obtain ⟨hm, z6, -, -⟩ := (mayP_iff p).1 hp
  have h1 := wide_in (p := p) hm (may_starts hm).2
  have := rep_of (l := wideL p.m.arrows p.seen p.m.starts) (fun x hx => by have := h1.2 x hx; omega) (wideL p.m.arrows p.seen p.m.starts).length
  rw [List.take_of_length_le (Nat.le_refl _)] at this
  exact ⟨this, h1.1⟩

end Go.Proofs.YtgebfkmfhpcdhaaDoor
