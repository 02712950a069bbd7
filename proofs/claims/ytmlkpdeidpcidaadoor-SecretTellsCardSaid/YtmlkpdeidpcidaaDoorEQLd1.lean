/-
  The walk of the closure that secret.leader answers: where pairs lead to at an event.
-/
import Derived.Test.YtmlkpdeidpcidaaDoorEQLdr
import Derived.Test.YtmlkpdeidpcidaaDoorI27
import Derived.Test.YtmlkpdeidpcidaaDoorESecX
import Derived.Test.YtmlkpdeidpcidaaDoorI17
namespace Go.Proofs.YtmlkpdeidpcidaaDoor
open Go.RowKit Go.Shelf
set_option linter.unusedVariables false
attribute [local go_sem] Oper.semAt_some

theorem regQ_inQ {φ : Act → World → Prop} : ¬ LetsOut (regQ φ) := fun ⟨_, _, h⟩ => h
theorem WL.lt {W : World} {pA pB : Nat} {LA LC : LB} {ev sa sb : Nat} {TA TC : Nat → Nat → Nat} (h : WL W pA pB LA LC ev sa sb TA TC) : pA < W.heap.size ∧ pB < W.heap.size ∧ LA.all (· < W.heap.size) ∧ LC.all (· < W.heap.size) := ⟨h.ca.lt, h.cb.lt, h.la.lt, h.lb.lt⟩
theorem WL.below {W W' : World} {B : Nat} {pA pB : Nat} {LA LC : LB} {ev sa sb : Nat} {TA TC : Nat → Nat → Nat} (h : WL W pA pB LA LC ev sa sb TA TC) (hb : Below B W W') (hB : pA < B ∧ pB < B ∧ LA.all (· < B) ∧ LC.all (· < B)) : WL W' pA pB LA LC ev sa sb TA TC :=
  ⟨h.ca.below hb hB.1, h.cb.below hb hB.2.1, h.la.below hb hB.2.2.1, h.lb.below hb hB.2.2.2⟩
theorem leadS_lt {st ev e : Nat} {ars : List Arr} {S : Nat → Nat} (hin : ∀ a ∈ ars, 0 ≤ a.t ∧ a.t < (st : Int)) : ∀ n ∈ allS (leadS ev ars S e), n < st := fun n hn => by
  obtain ⟨-, n2⟩ := (mem_allS _ _).1 hn
  unfold leadS at n2
  obtain ⟨k, -, h2⟩ := (has_leadF _ _ _ _ _).1 n2
  obtain ⟨a, ha, -, h3⟩ := (has_tab _ _ _ _).1 h2
  have := hin a ha
  omega
theorem leadS_one {st ev e : Nat} {ars : List Arr} {S : Nat → Nat} (hin : ∀ a ∈ ars, 0 ≤ a.t ∧ a.t < (st : Int)) (hst : st ≤ 4) : leadS ev ars S e 0 < 16 := by
  have hok : okS (leadS ev ars S e) := ok_leadF (okS_tab _ _) _
  refine first_lt (rep_rowS hok) (fun x hx => ?_)
  have h1 := (mem_rowS _ _).1 hx
  have := leadS_lt hin x.toNat ((mem_allS _ _).2 ⟨by omega, h1.2.2⟩)
  omega

set_option maxRecDepth 100000 in
set_option maxHeartbeats 8000000 in
theorem qlead_in (A B : List Arr) (S : Nat → Nat) (e ev st sb : Nat) (hS : okS S) (hR : RdyQ st sb S) (he : e < ev) (hev : ev ≤ 8) (hst : st ≤ 6) (hsb : sb ≤ 4) (hA : ∀ a ∈ A, 0 ≤ a.t ∧ a.t < (st : Int)) (hBB : ∀ a ∈ B, 0 ≤ a.t ∧ a.t < (sb : Int)) (pA pB : Nat) (LA LC : LB) (w : World) (hT : Tab w) (hL : WL w pA pB LA LC ev st sb (tabS ev A) (tabS ev B)) :
    CallsIn Fence.wide 5 Tryd.prog 181 #[sval S, .int .i64 e, .pointer (some ⟨pA, 0, none⟩), .pointer (some ⟨pB, 0, none⟩)] w fun e' W' => e' = .returned (sval (lqS ev A B S e)) ∧ Below w.heap.size w W' := by
  obtain ⟨xs, hxs⟩ := nbp_of (P := fun n => n < 96 ∧ n / 16 < st ∧ ∀ k ∈ allS (oneW (n % 16)), k < sb) (allS S) hR
  have HAA := Hid.of hA
  have HBA := Hid.of hBB
  clear hR hA hBB
  refine callsIn_of_wp_marks Tryd.func181 rfl trivial ?_ rfl
  simp only [Tryd.ntmps181, List.size_toArray, List.length_cons, List.length_nil, Nat.reduceAdd, Nat.reduceSub, Array.replicate_succ, Array.replicate_zero, List.push_toArray, List.append_toArray, List.nil_append, List.cons_append]
  gi_wp2_with (refine ⟨trivial, ?_⟩; refine CallsIn.mono (callsIn_wide.2 (all_any S _)) ?_; rintro e w1 ⟨rfl, rfl⟩)
  have hB0 : Below w.heap.size w (((((w.alloc (.cells (scells S) 85)).alloc (.cells #[.int .i64 e] 3)).alloc (.cells #[.int .u64 0, .int .u64 0, .int .u64 0, .int .u64 0] 85)).alloc (.cells #[.int .u64 0, .int .u64 0, .int .u64 0, .int .u64 0] 85)).alloc (.cells (scells S) 85)) := (((((Below.refl _ _).alloc (Nat.le_refl _) _).alloc (by simp) _).alloc (by simp; omega) _).alloc (by simp; omega) _).alloc (by simp; omega) _
  have bX : Blk (((((w.alloc (.cells (scells S) 85)).alloc (.cells #[.int .i64 e] 3)).alloc (.cells #[.int .u64 0, .int .u64 0, .int .u64 0, .int .u64 0] 85)).alloc (.cells #[.int .u64 0, .int .u64 0, .int .u64 0, .int .u64 0] 85)).alloc (.cells (scells S) 85)) (w.heap.size + 1) 3 #[.int .i64 e] := by
    have := ((((Blk.new (w.alloc (.cells (scells S) 85)) 3 #[.int .i64 e]).alloc (.cells #[.int .u64 0, .int .u64 0, .int .u64 0, .int .u64 0] 85)).alloc (.cells #[.int .u64 0, .int .u64 0, .int .u64 0, .int .u64 0] 85)).alloc (.cells (scells S) 85))
    rwa [World.size_alloc] at this
  have bR : SB (((((w.alloc (.cells (scells S) 85)).alloc (.cells #[.int .i64 e] 3)).alloc (.cells #[.int .u64 0, .int .u64 0, .int .u64 0, .int .u64 0] 85)).alloc (.cells #[.int .u64 0, .int .u64 0, .int .u64 0, .int .u64 0] 85)).alloc (.cells (scells S) 85)) (w.heap.size + 1 + 1) zeroS := by
    have := (((Blk.new ((w.alloc (.cells (scells S) 85)).alloc (.cells #[.int .i64 e] 3)) 85 #[.int .u64 0, .int .u64 0, .int .u64 0, .int .u64 0]).alloc (.cells #[.int .u64 0, .int .u64 0, .int .u64 0, .int .u64 0] 85)).alloc (.cells (scells S) 85))
    rwa [World.size_alloc, World.size_alloc] at this
  have bO : SB (((((w.alloc (.cells (scells S) 85)).alloc (.cells #[.int .i64 e] 3)).alloc (.cells #[.int .u64 0, .int .u64 0, .int .u64 0, .int .u64 0] 85)).alloc (.cells #[.int .u64 0, .int .u64 0, .int .u64 0, .int .u64 0] 85)).alloc (.cells (scells S) 85)) (w.heap.size + 1 + 1 + 1) zeroS := by
    have := ((Blk.new (((w.alloc (.cells (scells S) 85)).alloc (.cells #[.int .i64 e] 3)).alloc (.cells #[.int .u64 0, .int .u64 0, .int .u64 0, .int .u64 0] 85)) 85 #[.int .u64 0, .int .u64 0, .int .u64 0, .int .u64 0]).alloc (.cells (scells S) 85))
    rwa [World.size_alloc, World.size_alloc, World.size_alloc] at this
  have bN : SB (((((w.alloc (.cells (scells S) 85)).alloc (.cells #[.int .i64 e] 3)).alloc (.cells #[.int .u64 0, .int .u64 0, .int .u64 0, .int .u64 0] 85)).alloc (.cells #[.int .u64 0, .int .u64 0, .int .u64 0, .int .u64 0] 85)).alloc (.cells (scells S) 85)) (w.heap.size + 1 + 1 + 1 + 1) S := by
    have := (Blk.new ((((w.alloc (.cells (scells S) 85)).alloc (.cells #[.int .i64 e] 3)).alloc (.cells #[.int .u64 0, .int .u64 0, .int .u64 0, .int .u64 0] 85)).alloc (.cells #[.int .u64 0, .int .u64 0, .int .u64 0, .int .u64 0] 85)) 85 (scells S))
    rwa [World.size_alloc, World.size_alloc, World.size_alloc, World.size_alloc] at this
  have hsz0 : (((((w.alloc (.cells (scells S) 85)).alloc (.cells #[.int .i64 e] 3)).alloc (.cells #[.int .u64 0, .int .u64 0, .int .u64 0, .int .u64 0] 85)).alloc (.cells #[.int .u64 0, .int .u64 0, .int .u64 0, .int .u64 0] 85)).alloc (.cells (scells S) 85)).heap.size = w.heap.size + 5 := by simp
  revert hB0 bX bR bO bN hsz0
  generalize (((((w.alloc (.cells (scells S) 85)).alloc (.cells #[.int .i64 e] 3)).alloc (.cells #[.int .u64 0, .int .u64 0, .int .u64 0, .int .u64 0] 85)).alloc (.cells #[.int .u64 0, .int .u64 0, .int .u64 0, .int .u64 0] 85)).alloc (.cells (scells S) 85)) = W0
  intro hB0 bX bR bO bN hsz0
  have hT0 := hT.below hB0 hT.lt
  have hw0 := hT.lt
  have hL0 := hL.kept hB0
  have hLl : pA < w.heap.size + 3 ∧ pB < w.heap.size + 3 ∧ LA.all (· < w.heap.size + 3) ∧ LC.all (· < w.heap.size + 3) := by
    obtain ⟨l1, l2, l3, l4⟩ := hL.lt
    exact ⟨by omega, by omega, l3.imp (fun n h => by omega), l4.imp (fun n h => by omega)⟩
  have HLl := Hid.of hLl
  clear hLl
  refine wpIn_rangeFunc_ownG rfl (by omega) (gf := 164) (lb := #[.pointer (some ⟨w.heap.size + 1 + 1 + 1 + 1, 0, none⟩)]) rfl trivial (enters_of Tryd.func164 (by kernel_rfl) rfl)
    (all_stopsP 4 (by omega) (w.heap.size + 1 + 1 + 1 + 1) (w.heap.size + 3) S hS xs hxs (by omega) W0 (by omega) bN hT0) belowK_t (belowK_b (by omega)) (Below.refl _ _) (fun _ => rfl)
    (fun pre W' => SB W' (w.heap.size + 1 + 1 + 1) (toF (lqP ev A B e) (nbpNats pre)) ∧ Below (w.heap.size + 3) W0 W')
    (fun _ _ _ => False)
    (OwnFrom.and (Go.Own.from (own_SB (w.heap.size + 1 + 1 + 1) (fun pre : List (NBP fun n => n < 96 ∧ n / 16 < st ∧ ∀ k ∈ allS (oneW (n % 16)), k < sb) => toF (lqP ev A B e) (nbpNats pre))) _) (ownFrom_below (by omega) (by omega)))
    (fun _ _ _ _ _ hs _ _ => hs)
    ⟨bO, Below.refl _ _⟩
    (fun x => { tmps := #[sval S, .int .i64 e, .pointer (some ⟨pA, 0, none⟩), .pointer (some ⟨pB, 0, none⟩), .pointer (some ⟨w.heap.size, 0, none⟩), .pointer (some ⟨w.heap.size + 1, 0, none⟩), .pointer (some ⟨w.heap.size + 1 + 1, 0, none⟩), .pointer (some ⟨w.heap.size + 1 + 1 + 1, 0, none⟩), .int .i64 (x.1 : Int), undef, undef, sval S, .func (.func 164) #[] #[.pointer (some ⟨w.heap.size + 1 + 1 + 1 + 1, 0, none⟩)], .int .i64 (x.1 : Int), undef, undef, undef, undef, undef, undef, undef, undef, undef, undef, undef, undef, undef, undef, undef, undef, undef], defers := [] }) ?assign ?body ?done ?stop
  case assign =>
    intro l x W K hK
    gi_wp2
    exact hK
  case body =>
    rintro l' pre x W' ⟨hO, hB'⟩ hlt
    have hLW := hL0.below hB' HLl.out
    have hXW : Blk W' (w.heap.size + 1) 3 #[.int .i64 e] := bX.below hB' (by omega)
    have hBW : Below w.heap.size w W' := hB0.trans (hB'.mono (by omega))
    have hTW := hT.below hBW hT.lt
    obtain ⟨n, hn⟩ : ∃ n, Hid (n = x.1) := ⟨_, rfl⟩
    have HX0 : Hid (x.1 / 16 < st ∧ ∀ k ∈ allS (oneW (x.1 % 16)), k < sb) := x.2.2
    have hx : n < 96 := by rw [hn.out]; exact x.2.1
    rw [← hn.out]
    obtain ⟨Q1, HQ1⟩ : ∃ Q1, withS zeroS (n / 16) = Q1 := ⟨_, rfl⟩
    obtain ⟨Q2, HQ2⟩ : ∃ Q2, oneW (n % 16) = Q2 := ⟨_, rfl⟩
    have hq1 : Hid (okS Q1) := by show okS Q1; rw [← HQ1]; exact okS_with okS_zero _
    have hq2 : Hid (okS Q2) := by show okS Q2; rw [← HQ2]; intro k; unfold oneW; split <;> omega
    have ha1 : Hid (∀ k ∈ allS Q1, k < st) := fun k hk => by
      obtain ⟨k1, k2⟩ := (mem_allS _ _).1 hk
      rw [← HQ1, hasS_with, hasS_zero] at k2
      have k3 : k = n / 16 := by simpa using k2
      have := (HX0.out).1
      rw [hn.out] at k3
      omega
    have ha2 : Hid (∀ k ∈ allS Q2, k < sb) := fun k hk => by
      rw [← HQ2, hn.out] at hk
      exact (HX0.out).2 k hk
    obtain ⟨R1, HR1⟩ : ∃ R1, Hid (R1 = leadF (tabS ev A) ev e (allS Q1)) := ⟨_, rfl⟩
    obtain ⟨R2, HR2⟩ : ∃ R2, Hid (R2 = leadF (tabS ev B) ev e (allS Q2)) := ⟨_, rfl⟩
    have HP : Hid (lqP ev A B e n = pairsS R1 (R2 0)) := by show _ = _; unfold lqP leadS; rw [HQ1, HQ2, HR1.out, HR2.out]
    have hr1 : Hid (okS R1) := by show okS R1; rw [HR1.out]; exact ok_leadF (okS_tab _ _) _
    have hr3 : Hid (∀ k ∈ allS R1, k < 15) := fun k hk => by
      rw [HR1.out] at hk
      have := leadS_lt HAA.out k hk
      omega
    have hr2 : Hid (R2 0 < 16) := by show R2 0 < 16; rw [HR2.out]; exact leadS_one HBA.out hsb
    have hOk : Hid (okS (toF (lqP ev A B e) (nbpNats pre))) := ok_toF (ok_lqP ev A B e) _
    have HX : Hid (toF (lqP ev A B e) (nbpNats (pre ++ [x])) = joinS (toF (lqP ev A B e) (nbpNats pre)) (pairsS R1 (R2 0))) := by show _ = _; rw [nbpNats_snoc, toF_snoc, ← HP.out, hn.out]
    have HB := Hid.of hB'
    have HO := Hid.of hO
    have HLW := Hid.of hLW
    have HXW := Hid.of hXW
    have HTW := Hid.of hTW
    clear hLW hXW hBW hTW hB' hO HP HX0
    generalize toF (lqP ev A B e) (nbpNats pre) = O at *
    have hwn : (n : Int) < 256 := by omega
    have hn256 : n < 256 := by omega
    gi_wp2_with fail
    refine ⟨trivial, ?_⟩
    refine CallsIn.mono (CallsIn.inRound l' (callsIn_wide.2 (pairOf_any n hn256 _))) ?_
    rw [HQ1, HQ2]
    rintro e' w1 ⟨rfl, hb1⟩
    clear HQ1 HQ2
    have hs1 := hb1.size
    replace HLW := Hid.of (HLW.out.kept hb1)
    replace HXW := Hid.of (HXW.out.below hb1 HXW.out.lt)
    replace HTW := Hid.of (HTW.out.below hb1 HTW.out.lt)
    have HO1 := Hid.of (HO.out.below hb1 HO.out.lt)
    have hbA : Below w1.heap.size w1 ((w1.alloc (.cells (scells Q1) 85)).alloc (.cells (scells Q2) 85)) := ((Below.refl _ _).alloc (Nat.le_refl _) _).alloc (by simp) _
    have K9 : Hid (SB ((w1.alloc (.cells (scells Q1) 85)).alloc (.cells (scells Q2) 85)) w1.heap.size Q1) := (Blk.new w1 _ _).alloc _
    have K10 : Hid (SB ((w1.alloc (.cells (scells Q1) 85)).alloc (.cells (scells Q2) 85)) (w1.heap.size + 1) Q2) := by
      have := Blk.new (w1.alloc (.cells (scells Q1) 85)) 85 (scells Q2)
      rwa [World.size_alloc] at this
    replace HLW := Hid.of (HLW.out.kept hbA)
    replace HXW := Hid.of (HXW.out.below hbA HXW.out.lt)
    replace HTW := Hid.of (HTW.out.below hbA HTW.out.lt)
    replace HO1 := Hid.of (HO1.out.below hbA HO1.out.lt)
    have HB1 : Hid (Below W'.heap.size W' ((w1.alloc (.cells (scells Q1) 85)).alloc (.cells (scells Q2) 85))) := hb1.trans (hbA.mono hs1)
    gi_wp2_with fail
    have HP9 : Hid (w.heap.size + 3 < w1.heap.size) := by show _ < _; have := HO.out.lt; omega
    have HP10 : Hid (w.heap.size + 3 < w1.heap.size + 1) := by show _ < _; have := HO.out.lt; omega
    revert HP9 HP10 K9 K10 HLW HXW HTW HO1 HB1
    generalize (w1.alloc (.cells (scells Q1) 85)).alloc (.cells (scells Q2) 85) = X0
    generalize w1.heap.size + 1 = p10
    generalize w1.heap.size = p9
    intro K9 K10 HLW HXW HTW HO1 HB1 HP9 HP10
    have HN9 : Hid (p9 ≠ w.heap.size + 1 + 1 + 1) := by show _ ≠ _; have := HP9.out; omega
    have HN10 : Hid (p10 ≠ w.heap.size + 1 + 1 + 1) := by show _ ≠ _; have := HP10.out; omega
    have HNA : Hid (pA ≠ w.heap.size + 1 + 1 + 1) := by show _ ≠ _; have := HLl.out.1; omega
    have HNB : Hid (pB ≠ w.heap.size + 1 + 1 + 1) := by show _ ≠ _; have := HLl.out.2.1; omega
    obtain ⟨PP, HPP⟩ : ∃ PP, Hid (PP = pairsS R1 (R2 0)) := ⟨_, rfl⟩
    have hP : Hid (okS PP) := by show okS PP; rw [HPP.out]; exact ok_pairs _ _
    rw [← HPP.out] at HX
    have SA : Hid (∀ X, Below X0.heap.size X0 X → X.cell? ⟨p9, 0, none⟩ = some (.int .u64 (Q1 0)) ∧ X.cell? ⟨p9, 1, none⟩ = some (.int .u64 (Q1 1)) ∧ X.cell? ⟨p9, 2, none⟩ = some (.int .u64 (Q1 2)) ∧ X.cell? ⟨p9, 3, none⟩ = some (.int .u64 (Q1 3)) ∧ X.cell? ⟨p10, 0, none⟩ = some (.int .u64 (Q2 0)) ∧ X.cell? ⟨p10, 1, none⟩ = some (.int .u64 (Q2 1)) ∧ X.cell? ⟨p10, 2, none⟩ = some (.int .u64 (Q2 2)) ∧ X.cell? ⟨p10, 3, none⟩ = some (.int .u64 (Q2 3)) ∧ X.cell? ⟨pA, 0, none⟩ = some (leadV LA) ∧ X.cell? ⟨pB, 0, none⟩ = some (leadV LC) ∧ X.cell? ⟨w.heap.size + 1, 0, none⟩ = some (.int .i64 e)) := fun X hb => by
      obtain ⟨y0, y1, y2, y3⟩ := SB.cells (K9.out.below hb K9.out.lt)
      obtain ⟨z0, z1, z2, z3⟩ := SB.cells (K10.out.below hb K10.out.lt)
      exact ⟨y0, y1, y2, y3, z0, z1, z2, z3, (HLW.out.ca.below hb HLW.out.ca.lt).cell 0 rfl, (HLW.out.cb.below hb HLW.out.cb.lt).cell 0 rfl, (HXW.out.below hb HXW.out.lt).cell 0 rfl⟩
    refine Code.wpIn_mono (Q := regQ fun a' X => ∃ w2, Below X0.heap.size X0 w2 ∧ X = (((w2.setCell ⟨w.heap.size + 1 + 1 + 1, 0, none⟩ (.int .u64 (joinS O PP 0))).setCell ⟨w.heap.size + 1 + 1 + 1, 1, none⟩ (.int .u64 (joinS O PP 1))).setCell ⟨w.heap.size + 1 + 1 + 1, 2, none⟩ (.int .u64 (joinS O PP 2))).setCell ⟨w.heap.size + 1 + 1 + 1, 3, none⟩ (.int .u64 (joinS O PP 3))) ?aft ?reg
    case reg =>
      refine wpIn_region_round (S := fun w' => w'.cell? ⟨p9, 0, none⟩ = some (.int .u64 (Q1 0)) ∧ w'.cell? ⟨p9, 1, none⟩ = some (.int .u64 (Q1 1)) ∧ w'.cell? ⟨p9, 2, none⟩ = some (.int .u64 (Q1 2)) ∧ w'.cell? ⟨p9, 3, none⟩ = some (.int .u64 (Q1 3)) ∧ w'.cell? ⟨p10, 0, none⟩ = some (.int .u64 (Q2 0)) ∧ w'.cell? ⟨p10, 1, none⟩ = some (.int .u64 (Q2 1)) ∧ w'.cell? ⟨p10, 2, none⟩ = some (.int .u64 (Q2 2)) ∧ w'.cell? ⟨p10, 3, none⟩ = some (.int .u64 (Q2 3)) ∧ w'.cell? ⟨pA, 0, none⟩ = some (leadV LA) ∧ w'.cell? ⟨pB, 0, none⟩ = some (leadV LC) ∧ w'.cell? ⟨w.heap.size + 1, 0, none⟩ = some (.int .i64 e)) (by kernel_rfl) (noDefer_spec (by kernel_rfl)) regQ_inQ (SA.out _ (Below.refl _ _).drew) (fun hS => ?_)
      have BF : Hid (Below X0.heap.size X0 X0.drew) := (Below.refl _ _).drew
      revert hS BF
      generalize X0.drew = Y0
      intro hS BF
      refine wpAnyH_take (i := 1) (v := leadV LA) rfl (by kernel_rfl) (by kernel_rfl) (by kernel_rfl) (fun _ _ _ h => h) (Or.inl ⟨by kernel_rfl, fun w' hw' => by obtain ⟨q0, q1, q2, q3, q4, q5, q6, q7, q8, q9, q10⟩ := hw'; go_simp⟩) hS ?_
      refine wpAnyH_take (i := 2) (v := sval Q1) rfl (by kernel_rfl) (by kernel_rfl) (by kernel_rfl) (fun _ _ _ h => h) (Or.inl ⟨by kernel_rfl, fun w' hw' => by obtain ⟨q0, q1, q2, q3, q4, q5, q6, q7, q8, q9, q10⟩ := hw'; go_simp⟩) hS ?_
      refine wpAnyH_take (i := 3) (v := .int .i64 e) rfl (by kernel_rfl) (by kernel_rfl) (by kernel_rfl) (fun _ _ _ h => h) (Or.inl ⟨by kernel_rfl, fun w' hw' => by obtain ⟨q0, q1, q2, q3, q4, q5, q6, q7, q8, q9, q10⟩ := hw'; go_simp⟩) hS ?_
      refine wpAnyH_take (i := 5) (v := leadV LC) rfl (by kernel_rfl) (by kernel_rfl) (by kernel_rfl) (fun _ _ _ h => h) (Or.inl ⟨by kernel_rfl, fun w' hw' => by obtain ⟨q0, q1, q2, q3, q4, q5, q6, q7, q8, q9, q10⟩ := hw'; go_simp⟩) hS ?_
      refine wpAnyH_take (i := 6) (v := sval Q2) rfl (by kernel_rfl) (by kernel_rfl) (by kernel_rfl) (fun _ _ _ h => h) (Or.inl ⟨by kernel_rfl, fun w' hw' => by obtain ⟨q0, q1, q2, q3, q4, q5, q6, q7, q8, q9, q10⟩ := hw'; go_simp⟩) hS ?_
      refine wpAnyH_take (i := 7) (v := .int .i64 e) rfl (by kernel_rfl) (by kernel_rfl) (by kernel_rfl) (fun _ _ _ h => h) (Or.inl ⟨by kernel_rfl, fun w' hw' => by obtain ⟨q0, q1, q2, q3, q4, q5, q6, q7, q8, q9, q10⟩ := hw'; go_simp⟩) hS ?_
      simp only [Act.put, List.setIfInBounds_toArray]
      refine wpAnyH_ready (rs := [0, 4]) (by kernel_rfl) (by simp) ?_
      refine AllReadyH.cons rfl (fun K' hK' => ?_) (AllReadyH.cons rfl (fun K' hK' => ?_) AllReadyH.nil)
      · clear hS
        obtain ⟨o0, o1, o2, o3⟩ := SB.cells (HO1.out.below BF.out HO1.out.lt)
        go_simp
        refine hK'.out _ _ (SA.out _ BF.out) (fun hS => ?_)
        clear hK' K' o0 o1 o2 o3
        refine wpAnyH_ready (rs := [4]) (by kernel_rfl) (by simp) ?_
        refine AllReadyH.cons rfl (fun K' hK' => ?_) AllReadyH.nil
        clear hS
        go_simp
        refine (lead1_any st ev e LA _ (okS_tab _ _) Q1 hq1.out ha1.out he hev (by omega) Y0 (HTW.out.below BF.out HTW.out.lt) (HLW.out.la.kept BF.out)).mono ?_
        rintro e Y2 ⟨rfl, hb⟩
        rw [← HR1.out]
        replace BF := Hid.of (BF.out.trans (hb.mono BF.out.size))
        refine hK'.out _ _ (SA.out _ BF.out) (fun hS => ?_)
        clear hK' K' hb
        refine wpAnyH_ready (rs := [8]) (by kernel_rfl) (by simp) ?_
        refine AllReadyH.cons rfl (fun K' hK' => ?_) AllReadyH.nil
        clear hS
        go_simp
        refine (lead1_any sb ev e LC _ (okS_tab _ _) Q2 hq2.out ha2.out he hev (by omega) Y2 (HTW.out.below BF.out HTW.out.lt) (HLW.out.lb.kept BF.out)).mono ?_
        rintro e Y3 ⟨rfl, hb⟩
        rw [← HR2.out]
        replace BF := Hid.of (BF.out.trans (hb.mono BF.out.size))
        refine hK'.out _ _ (SA.out _ BF.out) (fun hS => ?_)
        clear hK' K' hb
        refine wpAnyH_ready (rs := [9]) (by kernel_rfl) (by simp) ?_
        refine AllReadyH.cons rfl (fun K' hK' => ?_) AllReadyH.nil
        clear hS
        go_simp
        refine (pairs_any R1 R2 hr1.out hr3.out hr2.out Y3 (HTW.out.below BF.out HTW.out.lt)).mono ?_
        rintro e Y4 ⟨rfl, hb⟩
        rw [← HPP.out]
        replace BF := Hid.of (BF.out.trans (hb.mono BF.out.size))
        refine hK'.out _ _ (SA.out _ BF.out) (fun hS => ?_)
        clear hK' K' hb
        refine wpAnyH_ready (rs := [10]) (by kernel_rfl) (by simp) ?_
        refine AllReadyH.cons rfl (fun K' hK' => ?_) AllReadyH.nil
        clear hS
        go_simp
        refine (join_any O PP Y4 hOk.out hP.out).mono ?_
        rintro e Y5 ⟨rfl, hb⟩
        replace BF := Hid.of (BF.out.trans (hb.mono BF.out.size))
        refine hK'.out _ _ (SA.out _ BF.out) (fun hS => ?_)
        clear hK' K' hb
        refine wpAnyH_ready (rs := [11]) (by kernel_rfl) (by simp) ?_
        refine AllReadyH.cons rfl (fun K' hK' => ?_) AllReadyH.nil
        clear hS
        have KO := HO1.out.below BF.out HO1.out.lt
        have fO := KO.frozen
        obtain ⟨o0, o1, o2, o3⟩ := SB.cells KO
        go_simp
        have ST : Hid (∀ (k : Nat) (t : TypeId) (cs : Array Value), k ≠ w.heap.size + 1 + 1 + 1 → Blk Y5 k t cs → Blk ((((Y5.setCell ⟨w.heap.size + 1 + 1 + 1, 0, none⟩ (.int .u64 (joinS O PP 0))).setCell ⟨w.heap.size + 1 + 1 + 1, 1, none⟩ (.int .u64 (joinS O PP 1))).setCell ⟨w.heap.size + 1 + 1 + 1, 2, none⟩ (.int .u64 (joinS O PP 2))).setCell ⟨w.heap.size + 1 + 1 + 1, 3, none⟩ (.int .u64 (joinS O PP 3))) k t cs) := fun k t cs hk h => Blk.other4 h hk (.int .u64 (joinS O PP 0)) (.int .u64 (joinS O PP 1)) (.int .u64 (joinS O PP 2)) (.int .u64 (joinS O PP 3))
        obtain ⟨y0, y1, y2, y3⟩ := SB.cells (ST.out _ _ _ HN9.out (K9.out.below BF.out K9.out.lt))
        obtain ⟨z0, z1, z2, z3⟩ := SB.cells (ST.out _ _ _ HN10.out (K10.out.below BF.out K10.out.lt))
        refine hK'.out _ _ ⟨y0, y1, y2, y3, z0, z1, z2, z3, (ST.out _ _ _ HNA.out (HLW.out.ca.below BF.out HLW.out.ca.lt)).cell 0 rfl, (ST.out _ _ _ HNB.out (HLW.out.cb.below BF.out HLW.out.cb.lt)).cell 0 rfl, (ST.out _ _ _ (by omega) (HXW.out.below BF.out HXW.out.lt)).cell 0 rfl⟩ (fun hS => ?_)
        clear hK' K'
        refine wpAnyH_done (by kernel_rfl) ?_ _
        exact ⟨Y5, BF.out, rfl⟩
      · clear hS
        go_simp
        refine (lead1_any st ev e LA _ (okS_tab _ _) Q1 hq1.out ha1.out he hev (by omega) Y0 (HTW.out.below BF.out HTW.out.lt) (HLW.out.la.kept BF.out)).mono ?_
        rintro e Y6 ⟨rfl, hb⟩
        rw [← HR1.out]
        replace BF := Hid.of (BF.out.trans (hb.mono BF.out.size))
        refine hK'.out _ _ (SA.out _ BF.out) (fun hS => ?_)
        clear hK' K' hb
        refine wpAnyH_ready (rs := [0, 8]) (by kernel_rfl) (by simp) ?_
        refine AllReadyH.cons rfl (fun K' hK' => ?_) (AllReadyH.cons rfl (fun K' hK' => ?_) AllReadyH.nil)
        · clear hS
          obtain ⟨o0, o1, o2, o3⟩ := SB.cells (HO1.out.below BF.out HO1.out.lt)
          go_simp
          refine hK'.out _ _ (SA.out _ BF.out) (fun hS => ?_)
          clear hK' K' o0 o1 o2 o3
          refine wpAnyH_ready (rs := [8]) (by kernel_rfl) (by simp) ?_
          refine AllReadyH.cons rfl (fun K' hK' => ?_) AllReadyH.nil
          clear hS
          go_simp
          refine (lead1_any sb ev e LC _ (okS_tab _ _) Q2 hq2.out ha2.out he hev (by omega) Y6 (HTW.out.below BF.out HTW.out.lt) (HLW.out.lb.kept BF.out)).mono ?_
          rintro e Y8 ⟨rfl, hb⟩
          rw [← HR2.out]
          replace BF := Hid.of (BF.out.trans (hb.mono BF.out.size))
          refine hK'.out _ _ (SA.out _ BF.out) (fun hS => ?_)
          clear hK' K' hb
          refine wpAnyH_ready (rs := [9]) (by kernel_rfl) (by simp) ?_
          refine AllReadyH.cons rfl (fun K' hK' => ?_) AllReadyH.nil
          clear hS
          go_simp
          refine (pairs_any R1 R2 hr1.out hr3.out hr2.out Y8 (HTW.out.below BF.out HTW.out.lt)).mono ?_
          rintro e Y9 ⟨rfl, hb⟩
          rw [← HPP.out]
          replace BF := Hid.of (BF.out.trans (hb.mono BF.out.size))
          refine hK'.out _ _ (SA.out _ BF.out) (fun hS => ?_)
          clear hK' K' hb
          refine wpAnyH_ready (rs := [10]) (by kernel_rfl) (by simp) ?_
          refine AllReadyH.cons rfl (fun K' hK' => ?_) AllReadyH.nil
          clear hS
          go_simp
          refine (join_any O PP Y9 hOk.out hP.out).mono ?_
          rintro e Y10 ⟨rfl, hb⟩
          replace BF := Hid.of (BF.out.trans (hb.mono BF.out.size))
          refine hK'.out _ _ (SA.out _ BF.out) (fun hS => ?_)
          clear hK' K' hb
          refine wpAnyH_ready (rs := [11]) (by kernel_rfl) (by simp) ?_
          refine AllReadyH.cons rfl (fun K' hK' => ?_) AllReadyH.nil
          clear hS
          have KO := HO1.out.below BF.out HO1.out.lt
          have fO := KO.frozen
          obtain ⟨o0, o1, o2, o3⟩ := SB.cells KO
          go_simp
          have ST : Hid (∀ (k : Nat) (t : TypeId) (cs : Array Value), k ≠ w.heap.size + 1 + 1 + 1 → Blk Y10 k t cs → Blk ((((Y10.setCell ⟨w.heap.size + 1 + 1 + 1, 0, none⟩ (.int .u64 (joinS O PP 0))).setCell ⟨w.heap.size + 1 + 1 + 1, 1, none⟩ (.int .u64 (joinS O PP 1))).setCell ⟨w.heap.size + 1 + 1 + 1, 2, none⟩ (.int .u64 (joinS O PP 2))).setCell ⟨w.heap.size + 1 + 1 + 1, 3, none⟩ (.int .u64 (joinS O PP 3))) k t cs) := fun k t cs hk h => Blk.other4 h hk (.int .u64 (joinS O PP 0)) (.int .u64 (joinS O PP 1)) (.int .u64 (joinS O PP 2)) (.int .u64 (joinS O PP 3))
          obtain ⟨y0, y1, y2, y3⟩ := SB.cells (ST.out _ _ _ HN9.out (K9.out.below BF.out K9.out.lt))
          obtain ⟨z0, z1, z2, z3⟩ := SB.cells (ST.out _ _ _ HN10.out (K10.out.below BF.out K10.out.lt))
          refine hK'.out _ _ ⟨y0, y1, y2, y3, z0, z1, z2, z3, (ST.out _ _ _ HNA.out (HLW.out.ca.below BF.out HLW.out.ca.lt)).cell 0 rfl, (ST.out _ _ _ HNB.out (HLW.out.cb.below BF.out HLW.out.cb.lt)).cell 0 rfl, (ST.out _ _ _ (by omega) (HXW.out.below BF.out HXW.out.lt)).cell 0 rfl⟩ (fun hS => ?_)
          clear hK' K'
          refine wpAnyH_done (by kernel_rfl) ?_ _
          exact ⟨Y10, BF.out, rfl⟩
        · clear hS
          go_simp
          refine (lead1_any sb ev e LC _ (okS_tab _ _) Q2 hq2.out ha2.out he hev (by omega) Y6 (HTW.out.below BF.out HTW.out.lt) (HLW.out.lb.kept BF.out)).mono ?_
          rintro e Y11 ⟨rfl, hb⟩
          rw [← HR2.out]
          replace BF := Hid.of (BF.out.trans (hb.mono BF.out.size))
          refine hK'.out _ _ (SA.out _ BF.out) (fun hS => ?_)
          clear hK' K' hb
          refine wpAnyH_ready (rs := [0, 9]) (by kernel_rfl) (by simp) ?_
          refine AllReadyH.cons rfl (fun K' hK' => ?_) (AllReadyH.cons rfl (fun K' hK' => ?_) AllReadyH.nil)
          · clear hS
            obtain ⟨o0, o1, o2, o3⟩ := SB.cells (HO1.out.below BF.out HO1.out.lt)
            go_simp
            refine hK'.out _ _ (SA.out _ BF.out) (fun hS => ?_)
            clear hK' K' o0 o1 o2 o3
            refine wpAnyH_ready (rs := [9]) (by kernel_rfl) (by simp) ?_
            refine AllReadyH.cons rfl (fun K' hK' => ?_) AllReadyH.nil
            clear hS
            go_simp
            refine (pairs_any R1 R2 hr1.out hr3.out hr2.out Y11 (HTW.out.below BF.out HTW.out.lt)).mono ?_
            rintro e Y13 ⟨rfl, hb⟩
            rw [← HPP.out]
            replace BF := Hid.of (BF.out.trans (hb.mono BF.out.size))
            refine hK'.out _ _ (SA.out _ BF.out) (fun hS => ?_)
            clear hK' K' hb
            refine wpAnyH_ready (rs := [10]) (by kernel_rfl) (by simp) ?_
            refine AllReadyH.cons rfl (fun K' hK' => ?_) AllReadyH.nil
            clear hS
            go_simp
            refine (join_any O PP Y13 hOk.out hP.out).mono ?_
            rintro e Y14 ⟨rfl, hb⟩
            replace BF := Hid.of (BF.out.trans (hb.mono BF.out.size))
            refine hK'.out _ _ (SA.out _ BF.out) (fun hS => ?_)
            clear hK' K' hb
            refine wpAnyH_ready (rs := [11]) (by kernel_rfl) (by simp) ?_
            refine AllReadyH.cons rfl (fun K' hK' => ?_) AllReadyH.nil
            clear hS
            have KO := HO1.out.below BF.out HO1.out.lt
            have fO := KO.frozen
            obtain ⟨o0, o1, o2, o3⟩ := SB.cells KO
            go_simp
            have ST : Hid (∀ (k : Nat) (t : TypeId) (cs : Array Value), k ≠ w.heap.size + 1 + 1 + 1 → Blk Y14 k t cs → Blk ((((Y14.setCell ⟨w.heap.size + 1 + 1 + 1, 0, none⟩ (.int .u64 (joinS O PP 0))).setCell ⟨w.heap.size + 1 + 1 + 1, 1, none⟩ (.int .u64 (joinS O PP 1))).setCell ⟨w.heap.size + 1 + 1 + 1, 2, none⟩ (.int .u64 (joinS O PP 2))).setCell ⟨w.heap.size + 1 + 1 + 1, 3, none⟩ (.int .u64 (joinS O PP 3))) k t cs) := fun k t cs hk h => Blk.other4 h hk (.int .u64 (joinS O PP 0)) (.int .u64 (joinS O PP 1)) (.int .u64 (joinS O PP 2)) (.int .u64 (joinS O PP 3))
            obtain ⟨y0, y1, y2, y3⟩ := SB.cells (ST.out _ _ _ HN9.out (K9.out.below BF.out K9.out.lt))
            obtain ⟨z0, z1, z2, z3⟩ := SB.cells (ST.out _ _ _ HN10.out (K10.out.below BF.out K10.out.lt))
            refine hK'.out _ _ ⟨y0, y1, y2, y3, z0, z1, z2, z3, (ST.out _ _ _ HNA.out (HLW.out.ca.below BF.out HLW.out.ca.lt)).cell 0 rfl, (ST.out _ _ _ HNB.out (HLW.out.cb.below BF.out HLW.out.cb.lt)).cell 0 rfl, (ST.out _ _ _ (by omega) (HXW.out.below BF.out HXW.out.lt)).cell 0 rfl⟩ (fun hS => ?_)
            clear hK' K'
            refine wpAnyH_done (by kernel_rfl) ?_ _
            exact ⟨Y14, BF.out, rfl⟩
          · clear hS
            go_simp
            refine (pairs_any R1 R2 hr1.out hr3.out hr2.out Y11 (HTW.out.below BF.out HTW.out.lt)).mono ?_
            rintro e Y15 ⟨rfl, hb⟩
            rw [← HPP.out]
            replace BF := Hid.of (BF.out.trans (hb.mono BF.out.size))
            refine hK'.out _ _ (SA.out _ BF.out) (fun hS => ?_)
            clear hK' K' hb
            refine wpAnyH_ready (rs := [0]) (by kernel_rfl) (by simp) ?_
            refine AllReadyH.cons rfl (fun K' hK' => ?_) AllReadyH.nil
            clear hS
            obtain ⟨o0, o1, o2, o3⟩ := SB.cells (HO1.out.below BF.out HO1.out.lt)
            go_simp
            refine hK'.out _ _ (SA.out _ BF.out) (fun hS => ?_)
            clear hK' K' o0 o1 o2 o3
            refine wpAnyH_ready (rs := [10]) (by kernel_rfl) (by simp) ?_
            refine AllReadyH.cons rfl (fun K' hK' => ?_) AllReadyH.nil
            clear hS
            go_simp
            refine (join_any O PP Y15 hOk.out hP.out).mono ?_
            rintro e Y17 ⟨rfl, hb⟩
            replace BF := Hid.of (BF.out.trans (hb.mono BF.out.size))
            refine hK'.out _ _ (SA.out _ BF.out) (fun hS => ?_)
            clear hK' K' hb
            refine wpAnyH_ready (rs := [11]) (by kernel_rfl) (by simp) ?_
            refine AllReadyH.cons rfl (fun K' hK' => ?_) AllReadyH.nil
            clear hS
            have KO := HO1.out.below BF.out HO1.out.lt
            have fO := KO.frozen
            obtain ⟨o0, o1, o2, o3⟩ := SB.cells KO
            go_simp
            have ST : Hid (∀ (k : Nat) (t : TypeId) (cs : Array Value), k ≠ w.heap.size + 1 + 1 + 1 → Blk Y17 k t cs → Blk ((((Y17.setCell ⟨w.heap.size + 1 + 1 + 1, 0, none⟩ (.int .u64 (joinS O PP 0))).setCell ⟨w.heap.size + 1 + 1 + 1, 1, none⟩ (.int .u64 (joinS O PP 1))).setCell ⟨w.heap.size + 1 + 1 + 1, 2, none⟩ (.int .u64 (joinS O PP 2))).setCell ⟨w.heap.size + 1 + 1 + 1, 3, none⟩ (.int .u64 (joinS O PP 3))) k t cs) := fun k t cs hk h => Blk.other4 h hk (.int .u64 (joinS O PP 0)) (.int .u64 (joinS O PP 1)) (.int .u64 (joinS O PP 2)) (.int .u64 (joinS O PP 3))
            obtain ⟨y0, y1, y2, y3⟩ := SB.cells (ST.out _ _ _ HN9.out (K9.out.below BF.out K9.out.lt))
            obtain ⟨z0, z1, z2, z3⟩ := SB.cells (ST.out _ _ _ HN10.out (K10.out.below BF.out K10.out.lt))
            refine hK'.out _ _ ⟨y0, y1, y2, y3, z0, z1, z2, z3, (ST.out _ _ _ HNA.out (HLW.out.ca.below BF.out HLW.out.ca.lt)).cell 0 rfl, (ST.out _ _ _ HNB.out (HLW.out.cb.below BF.out HLW.out.cb.lt)).cell 0 rfl, (ST.out _ _ _ (by omega) (HXW.out.below BF.out HXW.out.lt)).cell 0 rfl⟩ (fun hS => ?_)
            clear hK' K'
            refine wpAnyH_done (by kernel_rfl) ?_ _
            exact ⟨Y17, BF.out, rfl⟩
    case aft =>
      refine regQ_imp ?_
      rintro a' X ⟨w2, hb2, rfl⟩
      have HB2 : Below W'.heap.size W' w2 := HB1.out.trans (hb2.mono HB1.out.size)
      have hO2 := HO1.out.below hb2 HO1.out.lt
      have k1 : KeepsOthers W' w2 := ⟨HB2.size, fun k o hk _ => (HB2.block k (Array.getElem?_eq_some_iff.1 hk).1).trans hk⟩
      have k2 : Below (w.heap.size + 3) W' w2 := HB2.mono (Nat.le_of_lt HO.out.lt)
      have k3 := below_set4 k2 (b' := w.heap.size + 1 + 1 + 1) (Nat.le_refl _) (.int .u64 (joinS O PP 0)) (.int .u64 (joinS O PP 1)) (.int .u64 (joinS O PP 2)) (.int .u64 (joinS O PP 3))
      gi_wp2_with fail
      exact ⟨((((k1.trans (KeepsOthers.setCell _ _ _)).trans (KeepsOthers.setCell _ _ _)).trans (KeepsOthers.setCell _ _ _)).trans (KeepsOthers.setCell _ _ _)).from _, k3, by rw [HX.out]; exact SB.set4 hO2 _, HB.out.trans k3⟩
  case done =>
    rintro D ys W' hD rfl ⟨hO, hB'⟩ hK
    have hBW : Below w.heap.size w W' := hB0.trans (hB'.mono (by omega))
    obtain ⟨o0, o1, o2, o3⟩ := hO.cells
    have HQ : Hid (toF (lqP ev A B e) (nbpNats ys) = lqS ev A B S e) := by show _ = _; unfold lqS; rw [← hxs]; rfl
    have hres := bR.below hB' (by omega)
    obtain ⟨r0, r1, r2, r3⟩ := SB.cells hres
    have rz := hres.frozen
    have k2 := Hid.of (SB.set4 hres (toF (lqP ev A B e) (nbpNats ys)))
    have k3 := Hid.of (below_set4 hBW (b' := w.heap.size + 1 + 1) (by omega) (.int .u64 (toF (lqP ev A B e) (nbpNats ys) 0)) (.int .u64 (toF (lqP ev A B e) (nbpNats ys) 1)) (.int .u64 (toF (lqP ev A B e) (nbpNats ys) 2)) (.int .u64 (toF (lqP ev A B e) (nbpNats ys) 3)))
    have hMk : Marks w.heap.size [D] W' := by
      refine ⟨fun D' hD' => ?_, by simp⟩
      have e : D' = D := by simpa using hD'
      rw [e]
      exact ⟨by omega, hK⟩
    have k4 := Hid.of (hMk.other4 hres (toF (lqP ev A B e) (nbpNats ys)))
    clear hMk
    clear hO hBW hB' hres hK
    generalize toF (lqP ev A B e) (nbpNats ys) = O at *
    gi_wp2
    refine leaves_marks (B := w.heap.size) (fun W => SB W (w.heap.size + 1 + 1) O ∧ Below w.heap.size w W) ?hJ ?hfin [D] _ k4.out ⟨k2.out, k3.out⟩
    case hJ =>
      rintro W D ⟨h1, h2⟩ hD hk
      refine ⟨(World.putObj_heap_other (fun e => ?_)).trans h1, h2.trans (belowK_b (w := w) (Nat.le_refl _) W D _ _ hD hk rfl rfl)⟩
      have h3 : W.heap[w.heap.size + 1 + 1]? = _ := h1
      rw [e, hk] at h3
      cases h3
    case hfin =>
      rintro W ⟨h1, h2⟩
      exact ⟨_, results_cell_row (g := w.heap.size + 1 + 1) (p := 6) rfl _ _ _ _ _ _ rfl h1 Tryd.underlying85 rfl (by kernel_rfl), by rw [← HQ.out], h2⟩
  case stop =>
    rintro D c pre W _ _ h _
    exact h.elim

theorem qlead_any (A B : List Arr) (S : Nat → Nat) (e ev st sb : Nat) (hS : okS S) (hR : RdyQ st sb S) (he : e < ev) (hev : ev ≤ 8) (hst : st ≤ 6) (hsb : sb ≤ 4) (hA : ∀ a ∈ A, 0 ≤ a.t ∧ a.t < (st : Int)) (hBB : ∀ a ∈ B, 0 ≤ a.t ∧ a.t < (sb : Int)) (pA pB : Nat) (LA LC : LB) (w : World) (hT : Tab w) (hL : WL w pA pB LA LC ev st sb (tabS ev A) (tabS ev B)) :
    Calls Tryd.prog 181 #[sval S, .int .i64 e, .pointer (some ⟨pA, 0, none⟩), .pointer (some ⟨pB, 0, none⟩)] w fun e' W' => e' = .returned (sval (lqS ev A B S e)) ∧ Below w.heap.size w W' :=
  callsIn_wide.1 (qlead_in A B S e ev st sb hS hR he hev hst hsb hA hBB pA pB LA LC w hT hL)

end Go.Proofs.YtmlkpdeidpcidaaDoor
