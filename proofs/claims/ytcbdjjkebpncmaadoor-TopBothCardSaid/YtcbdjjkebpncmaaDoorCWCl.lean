/-
  The walks of the closures of package within.
-/
import Derived.Test.YtcbdjjkebpncmaaDoorG16
import Derived.Test.YtcbdjjkebpncmaaDoorCLead1
import Derived.Test.YtcbdjjkebpncmaaDoorCSetOps
import Derived.Deep.RegionHeld3
namespace Go.Proofs.YtcbdjjkebpncmaaDoor
open Go.RowKit
set_option linter.unusedVariables false

/-- A pair's block. -/
abbrev PBk (W : World) (b : Nat) (P : SP) : Prop := Blk W b 90 (spcells P)
theorem PBk.cells {W : World} {b : Nat} {P : SP} (h : PBk W b P) : W.cell? ⟨b, 0, none⟩ = some (.int .u64 (P.a 0)) ∧ W.cell? ⟨b, 1, none⟩ = some (.int .u64 (P.a 1)) ∧ W.cell? ⟨b, 2, none⟩ = some (.int .u64 (P.a 2)) ∧ W.cell? ⟨b, 3, none⟩ = some (.int .u64 (P.a 3)) ∧ W.cell? ⟨b, 4, none⟩ = some (.int .u64 (P.b 0)) ∧ W.cell? ⟨b, 5, none⟩ = some (.int .u64 (P.b 1)) ∧ W.cell? ⟨b, 6, none⟩ = some (.int .u64 (P.b 2)) ∧ W.cell? ⟨b, 7, none⟩ = some (.int .u64 (P.b 3)) :=
  ⟨h.cell 0 rfl, h.cell 1 rfl, h.cell 2 rfl, h.cell 3 rfl, h.cell 4 rfl, h.cell 5 rfl, h.cell 6 rfl, h.cell 7 rfl⟩

/-- Is a the set of a pair at an end of the one, and b the other one's at none? -/
def outS (P : SP) (EA EB : Nat → Nat) : Bool := meetB P.a EA && !meetB P.b EB

set_option maxRecDepth 100000 in
set_option maxHeartbeats 4000000 in
theorem apart1_any (P : SP) (EA EB : Nat → Nat) (pA pB : Nat) (w : World) (hA : Hid (SB w pA EA)) (hB : Hid (SB w pB EB)) (o1 : okS P.a) (o2 : okS P.b) (o3 : okS EA) (o4 : okS EB) :
    Calls Tryd.prog 88 #[spval P, .pointer (some ⟨pA, 0, none⟩), .pointer (some ⟨pB, 0, none⟩)] w fun e w' => e = .returned (.bool (outS P EA EB)) ∧ Below w.heap.size w w' := by
  have B0 : Hid (Below w.heap.size w (w.alloc (.cells (spcells P) 90))) := (Below.refl _ _).alloc (Nat.le_refl _) _
  have K0 : Hid (PBk (w.alloc (.cells (spcells P) 90)) w.heap.size P) := Blk.new w _ _
  have A0 := Hid.of (Blk.alloc hA.out (.cells (spcells P) 90))
  have E0 := Hid.of (Blk.alloc hB.out (.cells (spcells P) 90))
  obtain ⟨x0, x1, x2, x3, x4, x5, x6, x7⟩ := PBk.cells K0.out
  obtain ⟨y0, y1, y2, y3⟩ := SB.cells A0.out
  go_enter Tryd.func88, Tryd.ntmps88
  go_wp2_with fail
  clear x0 x1 x2 x3 x4 x5 x6 x7 y0 y1 y2 y3
  revert B0 K0 A0 E0
  generalize w.alloc (.cells (spcells P) 90) = V0
  intro B0 K0 A0 E0
  refine (meets_any P.a EA _ o1 o3).mono ?_
  rintro e V ⟨rfl, hb1⟩
  have B1 := Hid.of (B0.out.trans (hb1.mono B0.out.size))
  have K1 := Hid.of (K0.out.below hb1 K0.out.lt)
  have E1 := Hid.of (E0.out.below hb1 E0.out.lt)
  clear hb1 B0 K0 E0 A0
  cases hm : meetB P.a EA with
  | false =>
    have HO : Hid (outS P EA EB = false) := by show _ = _; unfold outS; rw [hm]; rfl
    go_wp2_with fail
    exact bodyPost_ret (v := .bool false) (by simp [results, go_sem]) rfl ⟨by rw [HO.out], B1.out⟩
  | true =>
    obtain ⟨x0, x1, x2, x3, x4, x5, x6, x7⟩ := PBk.cells K1.out
    obtain ⟨y0, y1, y2, y3⟩ := SB.cells E1.out
    go_wp2_with fail
    refine (meets_any P.b EB _ o2 o4).mono ?_
    rintro e V2 ⟨rfl, hb1⟩
    have B2 := Hid.of (B1.out.trans (hb1.mono B1.out.size))
    have HO : Hid (outS P EA EB = !meetB P.b EB) := by show _ = _; unfold outS; rw [hm]; rfl
    clear hb1 hm
    go_wp2_with fail
    exact bodyPost_ret (v := .bool (!meetB P.b EB)) (by simp [results, go_sem]) rfl ⟨by rw [HO.out], B2.out⟩

/-- The closure that tells where a pair leads to, and what it knows. -/
abbrev wleadV (pA pB : Nat) : Value := .func (.func 87) #[] #[.pointer (some ⟨pA, 0, none⟩), .pointer (some ⟨pB, 0, none⟩)]
structure WL (W : World) (pA pB : Nat) (LA LC : LB) (ev sa sb : Nat) (TA TC : Nat → Nat → Nat) : Prop where
  ca : Blk W pA 84 #[leadV LA]
  cb : Blk W pB 84 #[leadV LC]
  la : LD W LA ev (sa * ev) TA
  lb : LD W LC ev (sb * ev) TC
theorem WL.kept {W W' : World} {pA pB : Nat} {LA LC : LB} {ev sa sb : Nat} {TA TC : Nat → Nat → Nat} (h : WL W pA pB LA LC ev sa sb TA TC) (hb : Below W.heap.size W W') : WL W' pA pB LA LC ev sa sb TA TC :=
  ⟨h.ca.below hb h.ca.lt, h.cb.below hb h.cb.lt, h.la.kept hb, h.lb.kept hb⟩
def leadSP (P : SP) (TA TC : Nat → Nat → Nat) (ev e : Nat) : SP := ⟨leadF TA ev e (allS P.a), leadF TC ev e (allS P.b)⟩
abbrev spzero : Array Value := #[.int .u64 0, .int .u64 0, .int .u64 0, .int .u64 0, .int .u64 0, .int .u64 0, .int .u64 0, .int .u64 0]
theorem PBk.set8 {W : World} {b : Nat} (h : Blk W b 90 spzero) (P : SP) : PBk ((((((((W.setCell ⟨b, 0, none⟩ (.int .u64 (P.a 0))).setCell ⟨b, 1, none⟩ (.int .u64 (P.a 1))).setCell ⟨b, 2, none⟩ (.int .u64 (P.a 2))).setCell ⟨b, 3, none⟩ (.int .u64 (P.a 3))).setCell ⟨b, 4, none⟩ (.int .u64 (P.b 0))).setCell ⟨b, 5, none⟩ (.int .u64 (P.b 1))).setCell ⟨b, 6, none⟩ (.int .u64 (P.b 2))).setCell ⟨b, 7, none⟩ (.int .u64 (P.b 3))) b P := by
  have := (((((((h.set 0 (.int .u64 (P.a 0))).set 1 (.int .u64 (P.a 1))).set 2 (.int .u64 (P.a 2))).set 3 (.int .u64 (P.a 3))).set 4 (.int .u64 (P.b 0))).set 5 (.int .u64 (P.b 1))).set 6 (.int .u64 (P.b 2))).set 7 (.int .u64 (P.b 3))
  simp only [spzero, List.setIfInBounds_toArray, List.set_cons_succ, List.set_cons_zero] at this
  exact this
theorem below_set8 {W V : World} {B b' : Nat} (h : Below B V W) (hb : B ≤ b') (v0 v1 v2 v3 v4 v5 v6 v7 : Value) : Below B V ((((((((W.setCell ⟨b', 0, none⟩ v0).setCell ⟨b', 1, none⟩ v1).setCell ⟨b', 2, none⟩ v2).setCell ⟨b', 3, none⟩ v3).setCell ⟨b', 4, none⟩ v4).setCell ⟨b', 5, none⟩ v5).setCell ⟨b', 6, none⟩ v6).setCell ⟨b', 7, none⟩ v7) := by
  have := below_set4' (below_set4' h 0 hb v0 v1 v2 v3) 4 hb v4 v5 v6 v7
  exact this

set_option maxRecDepth 100000 in
set_option maxHeartbeats 8000000 in
theorem leadW1_any (P : SP) (e : Nat) (pA pB : Nat) (LA LC : LB) (ev sa sb : Nat) (TA TC : Nat → Nat → Nat) (hTA : Hid (∀ p, okS (TA p))) (hTC : Hid (∀ p, okS (TC p))) (o1 : Hid (okS P.a)) (o2 : Hid (okS P.b)) (ha : Hid (∀ k ∈ allS P.a, k < sa)) (hb : Hid (∀ k ∈ allS P.b, k < sb)) (he : e < ev) (hev8 : ev ≤ 8) (hsa : sa ≤ 256) (hsb : sb ≤ 256) (w : World) (hT : Hid (Tab w)) (hW : Hid (WL w pA pB LA LC ev sa sb TA TC)) :
    Calls Tryd.prog 87 #[spval P, .int .i64 e, .pointer (some ⟨pA, 0, none⟩), .pointer (some ⟨pB, 0, none⟩)] w fun e' w' => e' = .returned (spval (leadSP P TA TC ev e)) ∧ Below w.heap.size w w' := by
  have B0 : Hid (Below w.heap.size w ((w.alloc (.cells (spcells P) 90)).alloc (.cells spzero 90))) := ((Below.refl _ _).alloc (Nat.le_refl _) _).alloc (by simp) _
  have K0 : Hid (PBk ((w.alloc (.cells (spcells P) 90)).alloc (.cells spzero 90)) w.heap.size P) := (Blk.new w _ _).alloc _
  have R0 : Hid (Blk ((w.alloc (.cells (spcells P) 90)).alloc (.cells spzero 90)) (w.heap.size + 1) 90 spzero) := by
    have := Blk.new (w.alloc (.cells (spcells P) 90)) 90 spzero
    rwa [World.size_alloc] at this
  go_enter Tryd.func87, Tryd.ntmps87
  go_wp2_with fail
  revert B0 K0 R0
  generalize (w.alloc (.cells (spcells P) 90)).alloc (.cells spzero 90) = V0
  intro B0 K0 R0
  have cellsAt : Hid (∀ W, Below w.heap.size w W → PBk W w.heap.size P → W.cell? ⟨w.heap.size, 0, none⟩ = some (.int .u64 (P.a 0)) ∧ W.cell? ⟨w.heap.size, 1, none⟩ = some (.int .u64 (P.a 1)) ∧ W.cell? ⟨w.heap.size, 2, none⟩ = some (.int .u64 (P.a 2)) ∧ W.cell? ⟨w.heap.size, 3, none⟩ = some (.int .u64 (P.a 3)) ∧ W.cell? ⟨w.heap.size, 4, none⟩ = some (.int .u64 (P.b 0)) ∧ W.cell? ⟨w.heap.size, 5, none⟩ = some (.int .u64 (P.b 1)) ∧ W.cell? ⟨w.heap.size, 6, none⟩ = some (.int .u64 (P.b 2)) ∧ W.cell? ⟨w.heap.size, 7, none⟩ = some (.int .u64 (P.b 3)) ∧ W.cell? ⟨pA, 0, none⟩ = some (leadV LA) ∧ W.cell? ⟨pB, 0, none⟩ = some (leadV LC)) := fun W hb hp => by
    obtain ⟨x0, x1, x2, x3, x4, x5, x6, x7⟩ := PBk.cells hp
    exact ⟨x0, x1, x2, x3, x4, x5, x6, x7, (hW.out.ca.below hb hW.out.ca.lt).cell 0 rfl, (hW.out.cb.below hb hW.out.cb.lt).cell 0 rfl⟩
  refine wp_region_held_drew (S := fun w' => w'.cell? ⟨w.heap.size, 0, none⟩ = some (.int .u64 (P.a 0)) ∧ w'.cell? ⟨w.heap.size, 1, none⟩ = some (.int .u64 (P.a 1)) ∧ w'.cell? ⟨w.heap.size, 2, none⟩ = some (.int .u64 (P.a 2)) ∧ w'.cell? ⟨w.heap.size, 3, none⟩ = some (.int .u64 (P.a 3)) ∧ w'.cell? ⟨w.heap.size, 4, none⟩ = some (.int .u64 (P.b 0)) ∧ w'.cell? ⟨w.heap.size, 5, none⟩ = some (.int .u64 (P.b 1)) ∧ w'.cell? ⟨w.heap.size, 6, none⟩ = some (.int .u64 (P.b 2)) ∧ w'.cell? ⟨w.heap.size, 7, none⟩ = some (.int .u64 (P.b 3)) ∧ w'.cell? ⟨pA, 0, none⟩ = some (leadV LA) ∧ w'.cell? ⟨pB, 0, none⟩ = some (leadV LC)) (by kernel_rfl) (cellsAt.out _ B0.out.drew (Blk.drew K0.out)) (fun hS0 => ?_)
  have B1 : Hid (Below w.heap.size w V0.drew) := B0.out.drew
  have K1 : Hid (PBk V0.drew w.heap.size P) := Blk.drew K0.out
  have R1 : Hid (Blk V0.drew (w.heap.size + 1) 90 spzero) := Blk.drew R0.out
  clear B0 K0 R0
  revert B1 K1 R1 hS0
  generalize V0.drew = Y0
  intro hS0 B1 K1 R1
  refine wpAnyH_take (i := 0) (v := leadV LA) rfl (by kernel_rfl) (by kernel_rfl) (by kernel_rfl) (fun _ _ _ h => h) (Or.inl ⟨by kernel_rfl, fun w' hw' => by obtain ⟨q0, q1, q2, q3, q4, q5, q6, q7, q8, q9⟩ := hw'; go_simp⟩) hS0 ?_
  refine wpAnyH_take (i := 1) (v := .pointer (some ⟨w.heap.size, 0, none⟩)) rfl (by kernel_rfl) (by kernel_rfl) (by kernel_rfl) (fun _ _ _ h => h) (Or.inl ⟨by kernel_rfl, fun w' hw' => by obtain ⟨q0, q1, q2, q3, q4, q5, q6, q7, q8, q9⟩ := hw'; go_simp⟩) hS0 ?_
  refine wpAnyH_take (i := 2) (v := sval P.a) rfl (by kernel_rfl) (by kernel_rfl) (by kernel_rfl) (fun _ _ _ h => h) (Or.inl ⟨by kernel_rfl, fun w' hw' => by obtain ⟨q0, q1, q2, q3, q4, q5, q6, q7, q8, q9⟩ := hw'; go_simp⟩) hS0 ?_
  refine wpAnyH_take (i := 3) (v := .int .i64 e) rfl (by kernel_rfl) (by kernel_rfl) (by kernel_rfl) (fun _ _ _ h => h) (Or.inl ⟨by kernel_rfl, fun w' hw' => by obtain ⟨q0, q1, q2, q3, q4, q5, q6, q7, q8, q9⟩ := hw'; go_simp⟩) hS0 ?_
  refine wpAnyH_take (i := 5) (v := leadV LC) rfl (by kernel_rfl) (by kernel_rfl) (by kernel_rfl) (fun _ _ _ h => h) (Or.inl ⟨by kernel_rfl, fun w' hw' => by obtain ⟨q0, q1, q2, q3, q4, q5, q6, q7, q8, q9⟩ := hw'; go_simp⟩) hS0 ?_
  refine wpAnyH_take (i := 6) (v := .pointer (some ⟨w.heap.size, 4, none⟩)) rfl (by kernel_rfl) (by kernel_rfl) (by kernel_rfl) (fun _ _ _ h => h) (Or.inl ⟨by kernel_rfl, fun w' hw' => by obtain ⟨q0, q1, q2, q3, q4, q5, q6, q7, q8, q9⟩ := hw'; go_simp⟩) hS0 ?_
  refine wpAnyH_take (i := 7) (v := sval P.b) rfl (by kernel_rfl) (by kernel_rfl) (by kernel_rfl) (fun _ _ _ h => h) (Or.inl ⟨by kernel_rfl, fun w' hw' => by obtain ⟨q0, q1, q2, q3, q4, q5, q6, q7, q8, q9⟩ := hw'; go_simp⟩) hS0 ?_
  refine wpAnyH_take (i := 8) (v := .int .i64 e) rfl (by kernel_rfl) (by kernel_rfl) (by kernel_rfl) (fun _ _ _ h => h) (Or.inl ⟨by kernel_rfl, fun w' hw' => by obtain ⟨q0, q1, q2, q3, q4, q5, q6, q7, q8, q9⟩ := hw'; go_simp⟩) hS0 ?_
  simp only [Act.put, List.setIfInBounds_toArray]
  refine wpAnyH_ready (rs := [4]) (by kernel_rfl) (by simp) ?_
  refine AllReadyH.cons rfl (fun K' hK' => ?_) AllReadyH.nil
  go_simp
  refine (lead1_any sa ev e LA TA hTA.out P.a o1.out ha.out he hev8 hsa _ (hT.out.below B1.out hT.out.lt) (hW.out.la.below B1.out hW.out.la.lt)).mono ?_
  rintro e1 Y1 ⟨rfl, hb1⟩
  have B2 := Hid.of (B1.out.trans (hb1.mono B1.out.size))
  have K2 := Hid.of (K1.out.below hb1 K1.out.lt)
  have R2 := Hid.of (R1.out.below hb1 R1.out.lt)
  refine hK'.out _ _ (cellsAt.out _ B2.out K2.out) (fun hS1 => ?_)
  clear hK' K' hb1 B1 K1 R1 hS0
  refine wpAnyH_ready (rs := [9]) (by kernel_rfl) (by simp) ?_
  refine AllReadyH.cons rfl (fun K' hK' => ?_) AllReadyH.nil
  go_simp
  refine (lead1_any sb ev e LC TC hTC.out P.b o2.out hb.out he hev8 hsb _ (hT.out.below B2.out hT.out.lt) (hW.out.lb.below B2.out hW.out.lb.lt)).mono ?_
  rintro e1 Y2 ⟨rfl, hb1⟩
  have B3 := Hid.of (B2.out.trans (hb1.mono B2.out.size))
  have K3 := Hid.of (K2.out.below hb1 K2.out.lt)
  have R3 := Hid.of (R2.out.below hb1 R2.out.lt)
  refine hK'.out _ _ (cellsAt.out _ B3.out K3.out) (fun hS2 => ?_)
  clear hK' K' hb1 B2 K2 R2 hS1
  obtain ⟨QA, HQA⟩ : ∃ Q, Hid (Q = leadF TA ev e (allS P.a)) := ⟨_, rfl⟩
  obtain ⟨QB, HQB⟩ : ∃ Q, Hid (Q = leadF TC ev e (allS P.b)) := ⟨_, rfl⟩
  rw [← HQA.out, ← HQB.out]
  have HR : Hid (leadSP P TA TC ev e = ⟨QA, QB⟩) := by show _ = _; unfold leadSP; rw [HQA.out, HQB.out]
  refine wpAnyH_take (i := 10) (v := spval ⟨QA, QB⟩) rfl (by kernel_rfl) (by kernel_rfl) (by kernel_rfl) (fun _ _ _ h => h) (Or.inl ⟨by kernel_rfl, fun w' hw' => by obtain ⟨q0, q1, q2, q3, q4, q5, q6, q7, q8, q9⟩ := hw'; go_simp⟩) hS2 ?_
  refine wpAnyH_ready (rs := [11]) (by kernel_rfl) (by simp) ?_
  refine AllReadyH.cons rfl (fun K' hK' => ?_) AllReadyH.nil
  have rz := R3.out.frozen
  have r0 := R3.out.cell 0 rfl
  have r1 := R3.out.cell 1 rfl
  have r2 := R3.out.cell 2 rfl
  have r3 := R3.out.cell 3 rfl
  have r4 := R3.out.cell 4 rfl
  have r5 := R3.out.cell 5 rfl
  have r6 := R3.out.cell 6 rfl
  have r7 := R3.out.cell 7 rfl
  have RR := Hid.of (PBk.set8 R3.out ⟨QA, QB⟩)
  have BB := Hid.of (below_set8 B3.out (b' := w.heap.size + 1) (by omega) (.int .u64 (QA 0)) (.int .u64 (QA 1)) (.int .u64 (QA 2)) (.int .u64 (QA 3)) (.int .u64 (QB 0)) (.int .u64 (QB 1)) (.int .u64 (QB 2)) (.int .u64 (QB 3)))
  have KK : Hid (PBk _ w.heap.size P) := Blk.other4' (Blk.other4' K3.out 0 (Nat.ne_of_lt (Nat.lt_succ_self _)) (.int .u64 (QA 0)) (.int .u64 (QA 1)) (.int .u64 (QA 2)) (.int .u64 (QA 3))) 4 (Nat.ne_of_lt (Nat.lt_succ_self _)) (.int .u64 (QB 0)) (.int .u64 (QB 1)) (.int .u64 (QB 2)) (.int .u64 (QB 3))
  go_simp
  refine hK'.out _ _ (cellsAt.out _ BB.out KK.out) (fun hS3 => ?_)
  clear hK' K' r0 r1 r2 r3 r4 r5 r6 r7 rz hS2 hS3
  refine wpAnyH_done (by kernel_rfl) ?_ _
  obtain ⟨r0, r1, r2, r3, r4, r5, r6, r7⟩ := PBk.cells RR.out
  go_wp2
  refine bodyPost_ret (v := spval ⟨QA, QB⟩) ?_ rfl ⟨by rw [HR.out], BB.out⟩
  simp [results, go_sem, r0, r1, r2, r3, r4, r5, r6, r7]

end Go.Proofs.YtcbdjjkebpncmaaDoor
