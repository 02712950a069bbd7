/-
  The walk of slices.BinarySearchFunc at arrows, the order machine.Compare.
  Plain: projects as texts: tokens, their form, what they tell. No program, no model.
  The walks of jalousieref16.letter and inside.
  Rows of strings in memory; the walk of jalousieref16.place.
  jalousieref16.Parts and texts.
  Plain: how many tokens there are, which parts they are told to belong to; Parse's answer case by case. No program, no model.
  Plain: a text's tokens, read part by part; what is left where that fails. No program, no model.
-/
import Derived.Deep.RegionWith
import Derived.Deep.QuietTactic
import Derived.Test.YtbgiliophmofgaaH02
import Derived.Test.YtbgiliophmofgaaH04
import Derived.Test.YtbgiliophmofgaaH01
import Derived.BigQuiet
namespace Go.Proofs.Ytbgiliophmofgaa
open Go.RowKit
set_option linter.unusedVariables false

theorem cmpA_neg (a b : Arr) : decide (cmpA a b < 0) = aheadB a b := by
  have h := cmpA_ahead a b
  by_cases hc : 0 ≤ cmpA a b
  · rw [decide_eq_true hc] at h
    rw [decide_eq_false (by omega)]
    cases hb : aheadB a b with
    | true => rw [hb] at h; cases h
    | false => rfl
  · rw [decide_eq_false hc] at h
    rw [decide_eq_true (by omega)]
    cases hb : aheadB a b with
    | true => rfl
    | false => rw [hb] at h; cases h
theorem cmpA_zero (a b : Arr) : cmpA a b = 0 ↔ arrEq a b := by
  unfold cmpA orI cmpI arrEq
  constructor
  · intro h
    revert h
    repeat' split
    all_goals (intro h; first | omega | exact absurd h (by decide))
  · rintro ⟨h1, h2, h3⟩
    rw [h1, h2, h3]
    simp
/-- Where an arrow stands, or would stand. -/
structure BsIs (xs : List Arr) (x : Arr) (k : Nat) (b : Bool) : Prop where
  le : k ≤ xs.length
  lo : ∀ j, j < k → aheadB (xs[j]?.getD arr0) x = true
  hi : ∀ j, k ≤ j → j < xs.length → aheadB (xs[j]?.getD arr0) x = false
  eq : b = true ↔ k < xs.length ∧ arrEq (xs[k]?.getD arr0) x
theorem incA_at {xs : List Arr} (h : IncA xs) {p q : Nat} (hq : q < xs.length) (hpq : p < q) : aheadB (xs[p]?.getD arr0) (xs[q]?.getD arr0) = true := by
  have := List.pairwise_iff_getElem.1 h p q (by omega) hq hpq
  rw [List.getElem?_eq_getElem (by omega), List.getElem?_eq_getElem hq]
  exact this

set_option maxRecDepth 100000 in
set_option maxHeartbeats 4000000 in
theorem bsf_some (b off cap : Nat) (xs : List Arr) (x : Arr) (w : World) (hl : xs.length ≤ 5000) (hb : b < w.heap.size) (hc0 : Hid (CellsA w b off xs)) (hi : Hid (IncA xs)) :
    Calls Try.prog 75 #[.slice (some ⟨b, off, none⟩) xs.length cap, .agg (acells x), .func (.func 76) #[] #[]] w fun e w' => ∃ (k : Nat) (f : Bool), e = .returned (.tuple #[.int .i64 k, .bool f]) ∧ BsIs xs x k f ∧ Below w.heap.size w w' := by
  have HB0 : Hid (Below w.heap.size w (w.alloc (.cells (acells x) 60))) := (Below.refl _ _).alloc (Nat.le_refl _) _
  have HK : Hid (Blk (w.alloc (.cells (acells x) 60)) w.heap.size 60 (acells x)) := Blk.new w _ _
  go_enter Try.func75, Try.ntmps75
  go_wp2_with fail
  revert HB0 HK
  generalize w.alloc (.cells (acells x) 60) = V
  obtain ⟨bx, HBXE⟩ : ∃ bx, Hid (bx = w.heap.size) := ⟨_, rfl⟩
  rw [← HBXE.out]
  have hbx : b < bx := by rw [HBXE.out]; exact hb
  intro HB0 HK
  go_loopw [9, 10] (fun vi vj wr => ∃ i j : Nat, i ≤ j ∧ j ≤ xs.length ∧ vi = .int .i64 i ∧ vj = .int .i64 j ∧ Hid (∀ p, p < i → aheadB (xs[p]?.getD arr0) x = true) ∧ Hid (∀ p, j ≤ p → p < xs.length → aheadB (xs[p]?.getD arr0) x = false) ∧ Hid (Below bx w wr) ∧ Hid (Blk wr bx 60 (acells x))) (fun vi vj _ => (intOf vj).toNat - (intOf vi).toNat)
  case atStart => exact ⟨0, xs.length, Nat.zero_le _, Nat.le_refl _, rfl, rfl, fun p h => by omega, fun p h hx => by omega, HB0, HK⟩
  case round =>
    clear HB0 HK
    obtain ⟨i, j, hij, hj, rfl, rfl, HL, HU, HB, HK⟩ := hrel
    have kx0 : wr.cell? ⟨bx, 0, none⟩ = some (.int .i64 x.f) := HK.out.cell 0 rfl
    have kx1 : wr.cell? ⟨bx, 1, none⟩ = some (.int .i64 x.e) := HK.out.cell 1 rfl
    have kx2 : wr.cell? ⟨bx, 2, none⟩ = some (.int .i64 x.t) := HK.out.cell 2 rfl
    have HBd := Hid.of HB.out.drew
    have HKd : Hid (Blk wr.drew bx 60 (acells x)) := HK.out
    by_cases hlt : i < j
    · have hh : (i + j) / 2 < xs.length := by omega
      have hm1 : (0 : Int) ≤ ((i : Int) + (j : Int)) / 2 := by omega
      have hm2 : ((i : Int) + (j : Int)) / 2 < (xs.length : Int) := by omega
      have hm3 : (((i : Int) + (j : Int)) / 2).toNat = (i + j) / 2 := by omega
      obtain ⟨y, HY, c0, c1, c2⟩ := hc0.out.at hh
      have hbb := hbx
      replace c0 := (HB.out.cell (p := ⟨b, _, none⟩) hbb).trans c0
      replace c1 := (HB.out.cell (p := ⟨b, _, none⟩) hbb).trans c1
      replace c2 := (HB.out.cell (p := ⟨b, _, none⟩) hbb).trans c2
      obtain ⟨cv, HCV⟩ : ∃ cv, Hid (cmpA y x = cv) := ⟨_, rfl⟩
      have HCC : Hid (∀ V : World, Calls Try.prog 76 #[.agg (acells y), .agg (acells x)] V fun e w' => e = .returned (.int .i64 cv) ∧ Below V.heap.size V w') := fun V => by rw [← HCV.out]; exact compare_any y x V
      have hneg := cmpA_neg y x
      rw [HCV.out] at hneg
      cases hah : aheadB y x with
      | true =>
        have HAH := Hid.of hah
        have hn1 : decide (cv < 0) = true := hneg.trans hah
        have hn2 : cv < 0 := of_decide_eq_true hn1
        clear hah hneg
        go_wp2_with fail
        go_region_with (go_at_call 76; refine (HCC.out _).mono ?_; rintro e' w2 ⟨rfl, hb2⟩)
        all_goals
          have HB2 := Hid.of (HBd.out.trans (hb2.mono (Nat.le_of_lt HKd.out.lt)))
          have HK2 := Hid.of (HKd.out.below hb2 HKd.out.lt)
          clear kx0 kx1 kx2 c0 c1 c2 hb2 HB HK HBd HKd
          go_wp2_with fail
          go_roundw
          case rel =>
            refine ⟨(i + j) / 2 + 1, j, by omega, hj, by go_num, rfl, fun p hp => ?_, HU, HB2, HK2⟩
            by_cases hpq : p < (i + j) / 2
            · refine aheadB_trans (incA_at hi.out hh hpq) ?_
              rw [← HY.out]; exact HAH.out
            · have : p = (i + j) / 2 := by omega
              rw [this, ← HY.out]; exact HAH.out
          case measure => simp [intOf]; omega
      | false =>
        have HAH := Hid.of hah
        have hn1 : decide (cv < 0) = false := hneg.trans hah
        have hn2 : ¬ cv < 0 := of_decide_eq_false hn1
        have hn3 : 0 ≤ cv := by omega
        clear hah hneg
        go_wp2_with fail
        go_region_with (go_at_call 76; refine (HCC.out _).mono ?_; rintro e' w2 ⟨rfl, hb2⟩)
        all_goals
          have HB2 := Hid.of (HBd.out.trans (hb2.mono (Nat.le_of_lt HKd.out.lt)))
          have HK2 := Hid.of (HKd.out.below hb2 HKd.out.lt)
          clear kx0 kx1 kx2 c0 c1 c2 hb2 HB HK HBd HKd
          go_wp2_with fail
          go_roundw
          case rel =>
            refine ⟨i, (i + j) / 2, by omega, by omega, rfl, by go_num, HL, fun p hp hpl => ?_, HB2, HK2⟩
            by_cases hpq : (i + j) / 2 < p
            · have h1 := incA_at hi.out hpl hpq
              cases hz : aheadB (xs[p]?.getD arr0) x with
              | false => rfl
              | true =>
                have := aheadB_trans h1 hz
                rw [← HY.out, HAH.out] at this; cases this
            · have : p = (i + j) / 2 := by omega
              rw [this, ← HY.out]; exact HAH.out
          case measure => simp [intOf]; omega
    · have hE : i = j := by omega
      subst hE
      by_cases hil : i < xs.length
      · obtain ⟨y, HY, c0, c1, c2⟩ := hc0.out.at hil
        have hbb := hbx
        replace c0 := (HB.out.cell (p := ⟨b, _, none⟩) hbb).trans c0
        replace c1 := (HB.out.cell (p := ⟨b, _, none⟩) hbb).trans c1
        replace c2 := (HB.out.cell (p := ⟨b, _, none⟩) hbb).trans c2
        obtain ⟨cv, HCV⟩ : ∃ cv, Hid (cmpA y x = cv) := ⟨_, rfl⟩
        have HCC : Hid (∀ V : World, Calls Try.prog 76 #[.agg (acells y), .agg (acells x)] V fun e w' => e = .returned (.int .i64 cv) ∧ Below V.heap.size V w') := fun V => by rw [← HCV.out]; exact compare_any y x V
        obtain ⟨f, HF⟩ : ∃ f, Hid ((cv == 0) = f) := ⟨_, rfl⟩
        have hf := HF.out
        have HBS : Hid (BsIs xs x i f) := by
          refine ⟨by omega, HL.out, HU.out, ?_⟩
          rw [← HF.out, beq_iff_eq, ← HCV.out, cmpA_zero, HY.out]
          exact ⟨fun h => ⟨hil, h⟩, fun h => h.2⟩
        have hilI : (i : Int) < (xs.length : Int) := by omega
        go_wp2_with fail
        have SA : wr.drew.cell? ⟨bx, 0, none⟩ = some (.int .i64 x.f) ∧ wr.drew.cell? ⟨bx, 1, none⟩ = some (.int .i64 x.e) ∧ wr.drew.cell? ⟨bx, 2, none⟩ = some (.int .i64 x.t) ∧ wr.drew.cell? ⟨b, off + i * 3, none⟩ = some (.int .i64 y.f) ∧ wr.drew.cell? ⟨b, off + i * 3 + 1, none⟩ = some (.int .i64 y.e) ∧ wr.drew.cell? ⟨b, off + i * 3 + 2, none⟩ = some (.int .i64 y.t) := ⟨kx0, kx1, kx2, c0, c1, c2⟩
        have QB : Hid (Below bx w wr.drew) := HBd.out
        have QL : Hid (bx < wr.drew.heap.size) := HKd.out.lt
        refine wp_region_held_drew (S := fun w' => w'.cell? ⟨bx, 0, none⟩ = some (.int .i64 x.f) ∧ w'.cell? ⟨bx, 1, none⟩ = some (.int .i64 x.e) ∧ w'.cell? ⟨bx, 2, none⟩ = some (.int .i64 x.t) ∧ w'.cell? ⟨b, off + i * 3, none⟩ = some (.int .i64 y.f) ∧ w'.cell? ⟨b, off + i * 3 + 1, none⟩ = some (.int .i64 y.e) ∧ w'.cell? ⟨b, off + i * 3 + 2, none⟩ = some (.int .i64 y.t)) (by kernel_rfl) SA (fun hS => ?_)
        clear kx0 kx1 kx2 c0 c1 c2 HB HK HBd HKd
        have HSA := Hid.of SA
        clear SA
        revert HSA QB QL hS
        generalize wr.drew = Y0
        intro QB QL hS HSA
        refine wpAnyH_take (i := 0) (v := .int .i64 (i : Int)) rfl (by kernel_rfl) (by kernel_rfl) (by kernel_rfl) (fun _ _ _ h => h) (Or.inl ⟨by kernel_rfl, fun w' hw' => by obtain ⟨q0, q1, q2, q3, q4, q5⟩ := hw'; go_simp⟩) hS ?_
        refine wpAnyH_take (i := 1) (v := .int .i64 (i : Int)) rfl (by kernel_rfl) (by kernel_rfl) (by kernel_rfl) (fun _ _ _ h => h) (Or.inl ⟨by kernel_rfl, fun w' hw' => by obtain ⟨q0, q1, q2, q3, q4, q5⟩ := hw'; go_simp⟩) hS ?_
        refine wpAnyH_take (i := 2) (v := .int .i64 (xs.length : Int)) rfl (by kernel_rfl) (by kernel_rfl) (by kernel_rfl) (fun _ _ _ h => h) (Or.inl ⟨by kernel_rfl, fun w' hw' => by obtain ⟨q0, q1, q2, q3, q4, q5⟩ := hw'; go_simp⟩) hS ?_
        refine wpAnyH_take (i := 3) (v := .bool true) rfl (by kernel_rfl) (by kernel_rfl) (by kernel_rfl) (fun _ _ _ h => h) (Or.inl ⟨by kernel_rfl, fun w' hw' => by obtain ⟨q0, q1, q2, q3, q4, q5⟩ := hw'; go_simp⟩) hS ?_
        refine wpAnyH_take (i := 4) (v := .bool true) rfl (by kernel_rfl) (by kernel_rfl) (by kernel_rfl) (fun _ _ _ h => h) (Or.inl ⟨by kernel_rfl, fun w' hw' => by obtain ⟨q0, q1, q2, q3, q4, q5⟩ := hw'; go_simp⟩) hS ?_
        refine wpAnyH_take (i := 5) (v := .func (.func 76) #[] #[]) rfl (by kernel_rfl) (by kernel_rfl) (by kernel_rfl) (fun _ _ _ h => h) (Or.inl ⟨by kernel_rfl, fun w' hw' => by obtain ⟨q0, q1, q2, q3, q4, q5⟩ := hw'; go_simp⟩) hS ?_
        refine wpAnyH_take (i := 6) (v := .slice (some ⟨b, off, none⟩) xs.length cap) rfl (by kernel_rfl) (by kernel_rfl) (by kernel_rfl) (fun _ _ _ h => h) (Or.inl ⟨by kernel_rfl, fun w' hw' => by obtain ⟨q0, q1, q2, q3, q4, q5⟩ := hw'; go_simp⟩) hS ?_
        refine wpAnyH_take (i := 7) (v := .int .i64 (i : Int)) rfl (by kernel_rfl) (by kernel_rfl) (by kernel_rfl) (fun _ _ _ h => h) (Or.inl ⟨by kernel_rfl, fun w' hw' => by obtain ⟨q0, q1, q2, q3, q4, q5⟩ := hw'; go_simp⟩) hS ?_
        refine wpAnyH_take (i := 8) (v := .pointer (some ⟨b, off + i * 3, none⟩)) rfl (by kernel_rfl) (by kernel_rfl) (by kernel_rfl) (fun _ _ _ h => h) (Or.inl ⟨by kernel_rfl, fun w' hw' => by obtain ⟨q0, q1, q2, q3, q4, q5⟩ := hw'; go_simp⟩) hS ?_
        refine wpAnyH_take (i := 9) (v := .agg (acells y)) rfl (by kernel_rfl) (by kernel_rfl) (by kernel_rfl) (fun _ _ _ h => h) (Or.inl ⟨by kernel_rfl, fun w' hw' => by obtain ⟨q0, q1, q2, q3, q4, q5⟩ := hw'; go_simp⟩) hS ?_
        refine wpAnyH_take (i := 10) (v := .agg (acells x)) rfl (by kernel_rfl) (by kernel_rfl) (by kernel_rfl) (fun _ _ _ h => h) (Or.inl ⟨by kernel_rfl, fun w' hw' => by obtain ⟨q0, q1, q2, q3, q4, q5⟩ := hw'; go_simp⟩) hS ?_
        simp only [Act.put, List.setIfInBounds_toArray]
        refine wpAnyH_ready (rs := [11]) (by kernel_rfl) (by simp) ?_
        refine AllReadyH.cons rfl (fun K' hK' => ?_) AllReadyH.nil
        clear hS
        go_simp
        refine (HCC.out _).mono ?_
        rintro e Y1 ⟨rfl, hb⟩
        have SB1 : Y1.cell? ⟨bx, 0, none⟩ = some (.int .i64 x.f) ∧ Y1.cell? ⟨bx, 1, none⟩ = some (.int .i64 x.e) ∧ Y1.cell? ⟨bx, 2, none⟩ = some (.int .i64 x.t) ∧ Y1.cell? ⟨b, off + i * 3, none⟩ = some (.int .i64 y.f) ∧ Y1.cell? ⟨b, off + i * 3 + 1, none⟩ = some (.int .i64 y.e) ∧ Y1.cell? ⟨b, off + i * 3 + 2, none⟩ = some (.int .i64 y.t) := by
          obtain ⟨q0, q1, q2, q3, q4, q5⟩ := HSA.out
          have l1 := QL.out
          exact ⟨(hb.cell (p := ⟨bx, _, none⟩) l1).trans q0, (hb.cell (p := ⟨bx, _, none⟩) l1).trans q1, (hb.cell (p := ⟨bx, _, none⟩) l1).trans q2, (hb.cell (p := ⟨b, _, none⟩) (Nat.lt_trans hbx l1)).trans q3, (hb.cell (p := ⟨b, _, none⟩) (Nat.lt_trans hbx l1)).trans q4, (hb.cell (p := ⟨b, _, none⟩) (Nat.lt_trans hbx l1)).trans q5⟩
        replace QB := Hid.of (QB.out.trans (hb.mono (Nat.le_of_lt QL.out)))
        clear hb HSA
        refine hK'.out _ _ SB1 (fun hS => ?_)
        clear hK' K' SB1
        refine wpAnyH_take (i := 12) (v := .bool f) rfl (by kernel_rfl) (by kernel_rfl) (by kernel_rfl) (fun _ _ _ h => h) (Or.inl ⟨by kernel_rfl, fun w' hw' => by obtain ⟨q0, q1, q2, q3, q4, q5⟩ := hw'; go_simp⟩) hS ?_
        refine wpAnyH_take (i := 13) (v := .bool f) rfl (by kernel_rfl) (by kernel_rfl) (by kernel_rfl) (fun _ _ _ h => h) (Or.inl ⟨by kernel_rfl, fun w' hw' => by obtain ⟨q0, q1, q2, q3, q4, q5⟩ := hw'; go_simp⟩) hS ?_
        refine wpAnyH_take (i := 14) (v := .int .i64 (i : Int)) rfl (by kernel_rfl) (by kernel_rfl) (by kernel_rfl) (fun _ _ _ h => h) (Or.inl ⟨by kernel_rfl, fun w' hw' => by obtain ⟨q0, q1, q2, q3, q4, q5⟩ := hw'; go_simp⟩) hS ?_
        refine wpAnyH_take (i := 15) (v := .bool f) rfl (by kernel_rfl) (by kernel_rfl) (by kernel_rfl) (fun _ _ _ h => h) (Or.inl ⟨by kernel_rfl, fun w' hw' => by obtain ⟨q0, q1, q2, q3, q4, q5⟩ := hw'; go_simp⟩) hS ?_
        simp only [Act.put, List.setIfInBounds_toArray, List.getElem_toArray, List.getElem_cons_succ, List.getElem_cons_zero, List.set_cons_zero, List.set_cons_succ]
        clear hS
        refine wpAnyH_done (by kernel_rfl) ?_ _
        go_wp2_with fail
        exact bodyPost_ret (v := .tuple #[.int .i64 (i : Int), .bool f]) (by simp [results, go_sem, Try.results75]) rfl ⟨i, f, rfl, HBS.out, by rw [← HBXE.out]; exact QB.out⟩
      · have HBS : Hid (BsIs xs x i false) := ⟨by omega, HL.out, HU.out, ⟨fun h => (by cases h), fun h => absurd h.1 hil⟩⟩
        have hilI : ¬ (i : Int) < (xs.length : Int) := by omega
        have hd : decide ((i : Int) < (xs.length : Int)) = false := decide_eq_false hilI
        go_wp2_with fail
        go_quiet (fail)
        go_wp2_with fail
        go_ret2
        exact ⟨i, false, rfl, HBS.out, by rw [← HBXE.out]; exact below_drewN HB.out _⟩
set_option maxRecDepth 100000 in
set_option maxHeartbeats 1000000 in
theorem bsf_nil (a : Option Addr) (cap : Nat) (x : Arr) (w : World) :
    Calls Try.prog 75 #[.slice a 0 cap, .agg (acells x), .func (.func 76) #[] #[]] w fun e w' => ∃ (k : Nat) (f : Bool), e = .returned (.tuple #[.int .i64 k, .bool f]) ∧ BsIs [] x k f ∧ Below w.heap.size w w' := by
  have HB0 : Hid (Below w.heap.size w (w.alloc (.cells (acells x) 60))) := (Below.refl _ _).alloc (Nat.le_refl _) _
  go_enter Try.func75, Try.ntmps75
  go_wp2_with fail
  revert HB0
  generalize w.alloc (.cells (acells x) 60) = V
  intro HB0
  refine wp_loop_rounds 1 ?_
  rw [rounds_succ]
  go_wp2_with fail
  go_quiet (fail)
  go_wp2_with fail
  go_ret2
  exact ⟨0, false, rfl, ⟨Nat.le_refl _, fun j hj => by omega, fun j _ hj => by simp at hj, by simp⟩, below_drewN HB0.out _⟩
theorem bsf_any (a : Option Addr) (cap : Nat) (xs : List Arr) (x : Arr) (w : World) (h : AtA w a xs) (hl : xs.length ≤ 5000) (hi : IncA xs) :
    Calls Try.prog 75 #[.slice a xs.length cap, .agg (acells x), .func (.func 76) #[] #[]] w fun e w' => ∃ (k : Nat) (f : Bool), e = .returned (.tuple #[.int .i64 k, .bool f]) ∧ BsIs xs x k f ∧ Below w.heap.size w w' := by
  rcases h with rfl | ⟨b, off, rfl, hb, hc⟩
  · exact bsf_nil a cap x w
  · exact bsf_some b off cap xs x w hl hb hc hi

end Go.Proofs.Ytbgiliophmofgaa
namespace Go.Proofs.Ytbgiliophmofgaa
open Go.RowKit
set_option linter.unusedVariables false

abbrev Str := List UInt8
/-! Tokens (P1). -/
def letN (n : Nat) : Bool := (decide (97 ≤ n) && decide (n ≤ 122)) || (decide (65 ≤ n) && decide (n ≤ 90))
def insN (n : Nat) : Bool := letN n || (decide (48 ≤ n) && decide (n ≤ 57)) || decide (n = 95)
def letB (c : UInt8) : Bool := letN c.toNat
def insB (c : UInt8) : Bool := insN c.toNat
structure Tok where
  word : Bool
  text : Str
  pos : Nat
/-- Tokens; what is wrong (0: nothing), and where. -/
abbrev TokR := List Tok × Int × Nat
def consT (t : Tok) (r : TokR) : TokR := if r.2.1 = 0 then (t :: r.1, 0, 0) else ([], r.2.1, r.2.2)
def tokR : Nat → Nat → Str → TokR
  | 0, _, _ => ([], 0, 0)
  | _ + 1, _, [] => ([], 0, 0)
  | f + 1, p, c :: r =>
    if c = 32 ∨ c = 10 then tokR f (p + 1) r
    else if c = 59 ∨ c = 44 then consT ⟨false, [c], p⟩ (tokR f (p + 1) r)
    else if letB c = false then ([], 2, p)
    else if 16 < (r.takeWhile insB).length + 1 then ([], 1, p)
    else consT ⟨true, c :: r.takeWhile insB, p⟩ (tokR f (p + 1 + (r.takeWhile insB).length) (r.drop (r.takeWhile insB).length))
def wordOk (t : Str) : Prop := ∃ c w, t = c :: w ∧ letB c = true ∧ (∀ x ∈ w, insB x = true) ∧ w.length + 1 ≤ 16
def tokOk (x : Bool × Str) : Prop := (x.1 = true ∧ wordOk x.2) ∨ (x.1 = false ∧ (x.2 = [59] ∨ x.2 = [44]))
/-- Kinds and texts of tokens. -/
def kt (t : Tok) : Bool × Str := (t.word, t.text)
/-! Their form (P1, P3). -/
def partsW : List Str := [[115, 116, 97, 116, 101, 115], [101, 118, 101, 110, 116, 115], [115, 101, 101, 110], [102, 114, 101, 101], [102, 97, 117, 108, 116, 115], [115, 101, 99, 114, 101, 116], [115, 116, 97, 114, 116, 115], [101, 110, 100, 115], [97, 114, 114, 111, 119, 115]]
/-- The part, how many names stand in it so far, and what may come next (1 a part's word, 2 a name, 4 the sign ;, 8 the sign ,). -/
structure Fm where
  part : Nat
  names : Nat
  next : Nat
def fmNext (part names : Nat) : Nat := if part = 8 ∧ 0 < names % 3 then 2 else if part = 8 then 12 else 6
def fmStep (s : Fm) (t : Bool × Str) : Option (Fm × Int) :=
  if s.next = 1 ∧ s.part < 9 ∧ t.1 = true ∧ t.2 = partsW[s.part]?.getD [] then some (⟨s.part, 0, if s.part = 0 then 2 else 6⟩, -1)
  else if s.next ≠ 1 ∧ 0 < s.next &&& 2 ∧ t.1 = true then some (⟨s.part, s.names + 1, fmNext s.part (s.names + 1)⟩, s.part)
  else if s.next ≠ 1 ∧ 0 < s.next &&& 4 ∧ t.2 = [59] then some (⟨s.part + 1, s.names, 1⟩, -1)
  else if s.next ≠ 1 ∧ 0 < s.next &&& 8 ∧ t.2 = [44] then some (⟨s.part, s.names, 2⟩, -1)
  else none
/-- Of each token that is right the part that it is a name of (below 0: of none); where that ends. -/
def fmGo : Fm → List (Bool × Str) → List Int × Fm
  | s, [] => ([], s)
  | s, t :: r => match fmStep s t with
    | none => ([], s)
    | some (s', i) => (i :: (fmGo s' r).1, (fmGo s' r).2)
/-! What they tell (P2, P3). -/
structure Ps where
  states : List Str
  events : List Str
  rows : Nat → List Int
  three : List Int
  first : Nat
  arrows : List Arr
def plcS (l : List Str) (s : Str) : Option Nat := l.findIdx? (fun x => decide (x = s))
def psNames (most : Nat) (l : List Str) (t : Tok) : Except (Int × Nat) (List Str) := if t.text ∈ l then .error (5, t.pos) else if most ≤ l.length then .error (1, t.pos) else .ok (l ++ [t.text])
def psArr (q : Ps) (n : Int) (p : Nat) : Except (Int × Nat) Ps := match q.three ++ [n] with
  | [a, b, c] => if q.arrows.any (fun x => decide (x.f = a ∧ x.e = b ∧ x.t = c)) = true then .error (5, if q.three = [] then p else q.first) else .ok { q with three := [], first := if q.three = [] then p else q.first, arrows := q.arrows ++ [⟨a, b, c⟩] }
  | l => .ok { q with three := l, first := if q.three = [] then p else q.first }
def psStep (q : Ps) (k : Int) (t : Tok) : Except (Int × Nat) Ps :=
  if k < 0 then .ok q
  else if k = 0 then (psNames 6 q.states t).map fun l => { q with states := l }
  else if k = 1 then (psNames 8 q.events t).map fun l => { q with events := l }
  else match plcS (if k < 5 ∨ (k = 8 ∧ q.three.length = 1) then q.events else q.states) t.text with
    | none => .error (4, t.pos)
    | some n => if k < 8 then (if (n : Int) ∈ q.rows k.toNat then .error (5, t.pos) else .ok { q with rows := fun j => if j = k.toNat then q.rows k.toNat ++ [(n : Int)] else q.rows j })
      else psArr q (n : Int) t.pos
def psGo : Ps → List (Int × Tok) → Except (Int × Nat) Ps
  | q, [] => .ok q
  | q, x :: r => match psStep q x.1 x.2 with
    | .error e => .error e
    | .ok q' => psGo q' r
/-- A project. -/
structure Proj where
  states : List Str
  events : List Str
  m : Mach
  seen : List Int
  free : List Int
  faults : List Int
  secret : List Int
def proj0 : Proj := ⟨[], [], ⟨0, 0, [], [], []⟩, [], [], [], []⟩
def ps0 : Ps := ⟨[], [], fun _ => [], [], 0, []⟩
def psEnd (q : Ps) : Proj := ⟨q.states, q.events, ⟨q.states.length, q.events.length, srt (q.rows 6), srtA q.arrows, srt (q.rows 7)⟩, srt (q.rows 2), srt (q.rows 3), srt (q.rows 4), srt (q.rows 5)⟩
/-- What Parse answers: the project; what is wrong, and where. -/
def parseL (s : Str) : Proj × Int × Nat :=
  if 4000 < s.length then (proj0, 1, 0)
  else if (tokR (s.length + 1) 0 s).2.1 ≠ 0 then (proj0, (tokR (s.length + 1) 0 s).2)
  else
    let l := (tokR (s.length + 1) 0 s).1
    let o := fmGo ⟨0, 0, 1⟩ (l.map kt)
    if o.1.length < l.length then (proj0, 2, (l[o.1.length]?.map (·.pos)).getD 0)
    else if ¬ o.2.part = 9 then (proj0, 2, s.length)
    else match psGo ps0 (o.1.zip l) with
      | .error e => (proj0, e)
      | .ok q => (psEnd q, 0, 0)

end Go.Proofs.Ytbgiliophmofgaa
namespace Go.Proofs.Ytbgiliophmofgaa
open Go.RowKit
set_option linter.unusedVariables false

set_option maxHeartbeats 1000000 in
theorem letter_nat (n : Nat) (w : World) : Calls Try.prog 47 #[.int .u8 (n : Int)] w fun e w' => e = .returned (.bool (letN n)) ∧ w' = w := by
  obtain ⟨b, HB⟩ : ∃ b, Hid (((decide (97 ≤ n) && decide (n ≤ 122)) || (decide (65 ≤ n) && decide (n ≤ 90))) = b) := ⟨_, rfl⟩
  have HC : Hid (letN n = b) := HB.out
  rw [HC.out]
  clear HC
  by_cases h1 : 97 ≤ n
  · by_cases h2 : n ≤ 122
    · have hb : b = true := by rw [← HB.out, decide_eq_true h1, decide_eq_true h2]; rfl
      subst hb
      clear HB
      go_enter Try.func47, Try.ntmps47
      go_wp2
      go_ret
      exact ⟨rfl, rfl⟩
    · have h4 : ¬ n ≤ 90 := by omega
      have hb : b = false := by rw [← HB.out, decide_eq_true h1, decide_eq_false h2, decide_eq_false h4]; simp
      subst hb
      have h3 : 65 ≤ n := by omega
      have g2 : decide ((n : Int) ≤ 122) = false := by simp; omega
      have g4 : decide ((n : Int) ≤ 90) = false := by simp; omega
      clear h2 h4 HB
      go_enter Try.func47, Try.ntmps47
      go_wp2
      go_ret
      exact ⟨rfl, rfl⟩
  · have g1 : n < 97 := by omega
    by_cases h3 : 65 ≤ n
    · by_cases h4 : n ≤ 90
      · have hb : b = true := by rw [← HB.out, decide_eq_true h3, decide_eq_true h4]; simp
        subst hb
        have g4 : decide ((n : Int) ≤ 90) = true := by simp; omega
        clear HB h1
        go_enter Try.func47, Try.ntmps47
        go_wp2
        go_ret
        exact ⟨rfl, rfl⟩
      · have hb : b = false := by rw [← HB.out, decide_eq_false h1, decide_eq_false h4]; simp
        subst hb
        have g4 : decide ((n : Int) ≤ 90) = false := by simp; omega
        clear HB h1 h4
        go_enter Try.func47, Try.ntmps47
        go_wp2
        go_ret
        exact ⟨rfl, rfl⟩
    · have hb : b = false := by rw [← HB.out, decide_eq_false h1, decide_eq_false h3]; simp
      subst hb
      have g3 : n < 65 := by omega
      clear HB h1 h3
      go_enter Try.func47, Try.ntmps47
      go_wp2
      go_ret
      exact ⟨rfl, rfl⟩
set_option maxHeartbeats 1000000 in
theorem inside_nat (n : Nat) (w : World) : Calls Try.prog 48 #[.int .u8 (n : Int)] w fun e w' => e = .returned (.bool (insN n)) ∧ w' = w := by
  obtain ⟨l, HL⟩ : ∃ l, Hid (letN n = l) := ⟨_, rfl⟩
  obtain ⟨b, HB⟩ : ∃ b, Hid ((l || (decide (48 ≤ n) && decide (n ≤ 57)) || decide (n = 95)) = b) := ⟨_, rfl⟩
  have HC : Hid (insN n = b) := by show _ = _; unfold insN; rw [HL.out]; exact HB.out
  rw [HC.out]
  clear HC
  go_enter Try.func48, Try.ntmps48
  go_wp2_with fail
  refine (letter_nat n w).mono ?_
  rintro e w1 ⟨rfl, rfl⟩
  rw [HL.out]
  clear HL
  cases l with
  | true =>
    have hb : b = true := by rw [← HB.out]; rfl
    subst hb
    clear HB
    go_wp2
    go_ret
    exact ⟨rfl, rfl⟩
  | false =>
    by_cases h1 : 48 ≤ n
    · by_cases h2 : n ≤ 57
      · have hb : b = true := by rw [← HB.out, decide_eq_true h1, decide_eq_true h2]; rfl
        subst hb
        have g2 : decide ((n : Int) ≤ 57) = true := by simp; omega
        clear HB
        go_wp2
        go_ret
        exact ⟨rfl, rfl⟩
      · have g2 : decide ((n : Int) ≤ 57) = false := by simp; omega
        by_cases h3 : n = 95
        · have hb : b = true := by rw [← HB.out, decide_eq_true h3]; simp
          subst hb
          have e3 : ((n : Int) == 95) = true := beq_iff_eq.2 (by omega)
          clear HB h2 h3
          go_wp2
          go_ret
          exact ⟨rfl, rfl⟩
        · have hb : b = false := by rw [← HB.out, decide_eq_false h2, decide_eq_false h3]; simp
          subst hb
          have e3 : ((n : Int) == 95) = false := beq_eq_false_iff_ne.2 (by omega)
          clear HB h2 h3
          go_wp2
          go_ret
          exact ⟨rfl, rfl⟩
    · have g1 : n < 48 := by omega
      have hb : b = false := by rw [← HB.out, decide_eq_false h1, decide_eq_false (show ¬ n = 95 by omega)]; simp
      subst hb
      have e3 : ((n : Int) == 95) = false := beq_eq_false_iff_ne.2 (by omega)
      clear HB h1
      go_wp2
      go_ret
      exact ⟨rfl, rfl⟩

end Go.Proofs.Ytbgiliophmofgaa
namespace Go.Proofs.Ytbgiliophmofgaa
open Go.RowKit
set_option linter.unusedVariables false

abbrev strV (s : Str) : Value := .string ⟨s.toArray⟩
def CellsS (w : World) (b off : Nat) (xs : List Str) : Prop := ∀ j, j < xs.length → w.cell? ⟨b, off + j, none⟩ = some (strV (xs[j]?.getD []))
theorem CellsS.at {w : World} {b off k : Nat} {xs : List Str} (hc : CellsS w b off xs) (h : k < xs.length) : ∃ x, Hid (x = xs[k]?.getD []) ∧ w.cell? ⟨b, off + k, none⟩ = some (strV x) := ⟨_, rfl, hc k h⟩
def AtS (w : World) (a : Option Addr) (xs : List Str) : Prop := xs = [] ∨ ∃ b off, a = some ⟨b, off, none⟩ ∧ b < w.heap.size ∧ CellsS w b off xs
theorem AtS.below {w w' : World} {a : Option Addr} {xs : List Str} {B : Nat} (h : AtS w a xs) (hb : Below B w w') (hB : w.heap.size ≤ B) : AtS w' a xs := by
  rcases h with h | ⟨b, off, rfl, hlt, hc⟩
  · exact .inl h
  · exact .inr ⟨b, off, rfl, Nat.lt_of_lt_of_le hlt hb.size, fun j hj => (hb.cell (p := ⟨b, off + j, none⟩) (Nat.lt_of_lt_of_le hlt hB)).trans (hc j hj)⟩
/-- Where a text stands in a row; below 0: it is not there. -/
def plcI (l : List Str) (s : Str) : Int := match plcS l s with
  | some n => (n : Int)
  | none => -1

set_option maxRecDepth 100000 in
set_option maxHeartbeats 1000000 in
theorem place16_some (b off cap : Nat) (xs : List Str) (s : Str) (w : World) (hl : xs.length ≤ maxLen) (hb : b < w.heap.size) (hc : CellsS w b off xs) :
    Calls Try.prog 24 #[.slice (some ⟨b, off, none⟩) xs.length cap, strV s] w fun e w' => e = .returned (.int .i64 (plcI xs s)) ∧ w' = w := by
  unfold maxLen at hl
  go_enter Try.func24, Try.ntmps24
  go_wp2
  go_loopw [5] (fun i wr => ∃ k : Nat, k ≤ xs.length ∧ i = .int .i64 k ∧ Hid (∀ j, j < k → xs[j]?.getD [] ≠ s) ∧ wr = w) (fun i _ => xs.length - (intOf i).toNat)
  case atStart => exact ⟨0, Nat.zero_le _, rfl, fun j hj => absurd hj (Nat.not_lt_zero _), rfl⟩
  case round =>
    obtain ⟨k, hk, rfl, HN, rfl⟩ := hrel
    by_cases hlt : k < xs.length
    · obtain ⟨x, HX, hcx⟩ := hc.at hlt
      by_cases hx : x = s
      · have HP : Hid (plcI xs s = (k : Int)) := by
          show _ = _
          have : plcS xs s = some k := by
            unfold plcS
            rw [List.findIdx?_eq_some_iff_getElem]
            have e := HX.out
            rw [List.getElem?_eq_getElem hlt, Option.getD_some] at e
            refine ⟨hlt, by rw [← e, hx]; simp, fun j hj => ?_⟩
            have := HN.out j hj
            rw [List.getElem?_eq_getElem (by omega), Option.getD_some] at this
            simpa using this
          unfold plcI; rw [this]
        subst hx
        go_wp2
        exact bodyPost_ret (v := .int .i64 k) (by simp [results, go_sem]) rfl ⟨by rw [HP.out], rfl⟩
      · have hbe : (x == s) = false := beq_eq_false_iff_ne.2 hx
        have hbd : decide (x = s) = false := decide_eq_false hx
        have HN2 : Hid (∀ j, j < k + 1 → xs[j]?.getD [] ≠ s) := fun j hj => by
          by_cases e : j = k
          · rw [e, ← HX.out]; exact hx
          · exact HN.out j (by omega)
        clear hx
        go_wp2
        go_roundw
        case rel => exact ⟨k + 1, by omega, by go_num, HN2, (by first | trivial | rfl)⟩
        case measure => simp [intOf]; omega
    · have HP : Hid (plcI xs s = -1) := by
        show _ = _
        have : plcS xs s = none := by
          unfold plcS
          rw [List.findIdx?_eq_none_iff]
          intro x hx
          obtain ⟨j, hj⟩ := List.mem_iff_getElem?.1 hx
          have h1 := (List.getElem?_eq_some_iff.1 hj).1
          have := HN.out j (by omega)
          rw [hj, Option.getD_some] at this
          simpa using this
        unfold plcI; rw [this]
      go_wp2
      exact bodyPost_ret (v := .int .i64 (-1)) (by simp [results, go_sem]) rfl ⟨by rw [HP.out], rfl⟩
set_option maxHeartbeats 400000 in
theorem place16_nil (a : Option Addr) (cap : Nat) (s : Str) (w : World) : Calls Try.prog 24 #[.slice a 0 cap, strV s] w fun e w' => e = .returned (.int .i64 (plcI [] s)) ∧ w' = w := by
  go_enter Try.func24, Try.ntmps24
  go_wp2
  refine wp_loop_rounds 1 ?_
  rw [rounds_succ]
  go_wp2
  exact bodyPost_ret (v := .int .i64 (-1)) (by simp [results, go_sem]) rfl ⟨rfl, rfl⟩
theorem place16_any (a : Option Addr) (cap : Nat) (xs : List Str) (s : Str) (w : World) (hs : AtS w a xs) (hl : xs.length ≤ maxLen) :
    Calls Try.prog 24 #[.slice a xs.length cap, strV s] w fun e w' => e = .returned (.int .i64 (plcI xs s)) ∧ w' = w := by
  rcases hs with rfl | ⟨b, off, rfl, hb, hc⟩
  · exact place16_nil a cap s w
  · exact place16_some b off cap xs s w hl hb hc

end Go.Proofs.Ytbgiliophmofgaa
namespace Go.Proofs.Ytbgiliophmofgaa
open Go.RowKit
set_option linter.unusedVariables false

set_option maxRecDepth 100000 in
set_option maxHeartbeats 1000000 in
theorem parts_any (w : World) : Calls Try.prog 49 #[] w fun e w' => e = .returned (.slice (some ⟨w.heap.size, 0, none⟩) 9 9) ∧ w' = w.alloc (.cells (partsW.map strV).toArray 9) := by
  go_enter Try.func49, Try.ntmps49
  go_wp2
  go_ret
  exact ⟨rfl, rfl⟩
set_option maxRecDepth 100000 in
set_option maxHeartbeats 1000000 in
theorem texts_differ (a b : Option Addr) (n m c1 c2 : Nat) (h : n ≠ m) (w : World) : Calls Try.prog 27 #[.slice a n c1, .slice b m c2] w fun e w' => e = .returned (.bool false) ∧ ∃ q, w' = w.drewN q := by
  have hI : ((n : Int) == (m : Int)) = false := beq_eq_false_iff_ne.2 (by omega)
  go_enter Try.func27, Try.ntmps27
  go_wp2
  go_ret
  exact ⟨rfl, 0, rfl⟩
set_option maxRecDepth 100000 in
set_option maxHeartbeats 1000000 in
theorem texts_nil (a b : Option Addr) (c1 c2 : Nat) (w : World) : Calls Try.prog 27 #[.slice a 0 c1, .slice b 0 c2] w fun e w' => e = .returned (.bool true) ∧ ∃ q, w' = w.drewN q := by
  go_enter Try.func27, Try.ntmps27
  go_wp2
  refine wp_loop_rounds 1 ?_
  rw [rounds_succ]
  go_wp2
  exact bodyPost_ret (v := .bool true) (by simp [results, go_sem]) rfl ⟨rfl, 0, rfl⟩
set_option maxRecDepth 100000 in
set_option maxHeartbeats 1000000 in
theorem texts_some (b1 o1 c1 b2 o2 c2 : Nat) (xs ys : List Str) (w : World) (hl : xs.length ≤ maxLen) (he : Hid (xs.length = ys.length)) (hx : CellsS w b1 o1 xs) (hy : CellsS w b2 o2 ys) :
    Calls Try.prog 27 #[.slice (some ⟨b1, o1, none⟩) xs.length c1, .slice (some ⟨b2, o2, none⟩) ys.length c2] w fun e w' => e = .returned (.bool (decide (xs = ys))) ∧ ∃ q, w' = w.drewN q := by
  unfold maxLen at hl
  have hm : ys.length ≤ 9223372036854775807 := by have := he.out; omega
  have hb : ((xs.length : Int) == (ys.length : Int)) = true := by have := he.out; simp; omega
  have hb2 : ((xs.length : Int) != (ys.length : Int)) = false := by have := he.out; simp; omega
  obtain ⟨r, HR⟩ : ∃ r, Hid (decide (xs = ys) = r) := ⟨_, rfl⟩
  rw [HR.out]
  go_enter Try.func27, Try.ntmps27
  go_wp2
  go_loopw [5] (fun i wr => ∃ k q : Nat, k ≤ xs.length ∧ i = .int .i64 k ∧ wr = w.drewN q ∧ Hid (∀ j, j < k → xs[j]? = ys[j]?)) (fun i _ => xs.length - (intOf i).toNat)
  case atStart => exact ⟨0, 0, Nat.zero_le _, rfl, rfl, fun j hj => absurd hj (Nat.not_lt_zero _)⟩
  case round =>
    obtain ⟨k, q, hk, rfl, rfl, HE⟩ := hrel
    by_cases hlt : k < xs.length
    · have hlt2 : k < ys.length := by have := he.out; omega
      obtain ⟨x, HX, hcx⟩ := hx.at hlt
      obtain ⟨y, HY, hcy⟩ := hy.at hlt2
      by_cases hxy : x = y
      · have HE2 : Hid (∀ j, j < k + 1 → xs[j]? = ys[j]?) := fun j hj => by
          by_cases e : j = k
          · have h1 := HX.out
            have h2 := HY.out
            rw [List.getElem?_eq_getElem hlt, Option.getD_some] at h1
            rw [List.getElem?_eq_getElem hlt2, Option.getD_some] at h2
            rw [e, List.getElem?_eq_getElem hlt, List.getElem?_eq_getElem hlt2, ← h1, ← h2, hxy]
          · exact HE.out j (by omega)
        have d1 : (x == y) = true := beq_iff_eq.2 hxy
        have d2 : decide (x = y) = true := decide_eq_true hxy
        have d3 : (x != y) = false := by simp [hxy]
        clear hxy
        go_wp2
        go_quiet (fail)
        go_wp2
        go_roundw
        case rel => exact ⟨k + 1, _, by omega, by go_num, rfl, HE2⟩
        case measure => simp [intOf]; omega
      · have HF : Hid (r = false) := by
          show _ = _
          rw [← HR.out]
          refine decide_eq_false fun e => hxy ?_
          rw [HX.out, HY.out, e]
        have d1 : (x == y) = false := beq_eq_false_iff_ne.2 hxy
        have d2 : decide (x = y) = false := decide_eq_false hxy
        have d3 : (x != y) = true := by simp [hxy]
        clear hxy
        go_wp2
        go_quiet (fail)
        go_wp2
        go_ret
        exact ⟨by rw [HF.out]; rfl, _, by rw [World.drewN_drewN]⟩
    · have HF : Hid (r = true) := by
        show _ = _
        rw [← HR.out]
        refine decide_eq_true (List.ext_getElem? fun j => ?_)
        by_cases hj : j < k
        · exact HE.out j hj
        · have := he.out
          rw [List.getElem?_eq_none (by omega), List.getElem?_eq_none (by omega)]
      go_wp2
      go_ret
      exact ⟨by rw [HF.out]; rfl, q, rfl⟩
theorem texts_any (a b : Option Addr) (ca cb : Nat) (xs ys : List Str) (w : World) (hs : AtS w a xs) (ht : AtS w b ys) (hl : xs.length ≤ maxLen) :
    Calls Try.prog 27 #[.slice a xs.length ca, .slice b ys.length cb] w fun e w' => e = .returned (.bool (decide (xs = ys))) ∧ ∃ q, w' = w.drewN q := by
  by_cases hne : xs.length = ys.length
  · rcases hs with rfl | ⟨ba, oa, rfl, -, hca⟩
    · have : ys = [] := List.eq_nil_of_length_eq_zero (by simpa using hne.symm)
      subst this
      exact texts_nil a b ca cb w
    · rcases ht with rfl | ⟨bb, ob, rfl, -, hcb⟩
      · have : xs = [] := List.eq_nil_of_length_eq_zero (by simpa using hne)
        subst this
        exact texts_nil _ b ca cb w
      · exact texts_some ba oa ca bb ob cb xs ys w hl hne hca hcb
  · rw [decide_eq_false (fun e => hne (by rw [e]))]
    exact texts_differ a b _ _ ca cb hne w

end Go.Proofs.Ytbgiliophmofgaa
namespace Go.Proofs.Ytbgiliophmofgaa
open Go.RowKit
set_option linter.unusedVariables false

theorem consT_len (t : Tok) (r : TokR) : (consT t r).1.length ≤ r.1.length + 1 := by
  unfold consT
  split
  · simp
  · simp
theorem tok_len : ∀ (f p : Nat) (s : Str), (tokR f p s).1.length ≤ s.length
  | 0, _, _ => by simp [tokR]
  | _ + 1, _, [] => by simp [tokR]
  | f + 1, p, c :: r => by
    unfold tokR
    split
    · have := tok_len f (p + 1) r; simp; omega
    · split
      · have := tok_len f (p + 1) r
        have h2 := consT_len ⟨false, [c], p⟩ (tokR f (p + 1) r)
        simp; omega
      · split
        · simp
        · split
          · simp
          · have := tok_len f (p + 1 + (r.takeWhile insB).length) (r.drop (r.takeWhile insB).length)
            have h2 := consT_len ⟨true, c :: r.takeWhile insB, p⟩ (tokR f (p + 1 + (r.takeWhile insB).length) (r.drop (r.takeWhile insB).length))
            rw [List.length_drop] at this
            simp only [List.length_cons]; omega
theorem fm_le : ∀ (l : List (Bool × Str)) (s : Fm), (fmGo s l).1.length ≤ l.length
  | [], s => by simp [fmGo]
  | t :: r, s => by
    unfold fmGo
    cases hs : fmStep s t with
    | none => simp
    | some x =>
      have := fm_le r x.1
      simp only [List.length_cons]; omega
theorem fm_bd : ∀ (l : List (Bool × Str)) (s : Fm), (s.next ≠ 1 → s.part ≤ 8) → ∀ k ∈ (fmGo s l).1, -1 ≤ k ∧ k ≤ 8
  | [], s, _, k, hk => by simp [fmGo] at hk
  | t :: r, s, h, k, hk => by
    unfold fmGo at hk
    cases hs : fmStep s t with
    | none => rw [hs] at hk; simp at hk
    | some x =>
      rw [hs] at hk
      obtain ⟨s', i⟩ := x
      have key : (s'.next ≠ 1 → s'.part ≤ 8) ∧ -1 ≤ i ∧ i ≤ 8 := by
        unfold fmStep at hs
        split at hs
        · rename_i h1
          cases hs
          exact ⟨fun _ => by dsimp only; omega, by omega, by omega⟩
        · split at hs
          · rename_i h1 h2
            cases hs
            have := h h2.1
            exact ⟨fun _ => this, by omega, by omega⟩
          · split at hs
            · cases hs
              exact ⟨fun h => absurd rfl h, by omega, by omega⟩
            · split at hs
              · rename_i h1 h2 h3 h4
                cases hs
                exact ⟨fun _ => h h4.1, by omega, by omega⟩
              · cases hs
      rcases List.mem_cons.1 hk with rfl | hk
      · exact key.2
      · exact fm_bd r s' key.1 k hk
/-- Of the tokens from the i-th on. -/
theorem ps_next (q : Ps) {L : List (Int × Tok)} {i : Nat} {x : Int × Tok} (h : L[i]? = some x) : psGo q (L.drop i) = match psStep q x.1 x.2 with
    | .error e => .error e
    | .ok q' => psGo q' (L.drop (i + 1)) := by
  obtain ⟨h1, h2⟩ := List.getElem?_eq_some_iff.1 h
  rw [List.drop_eq_getElem_cons h1, h2]
  rfl
section
variable {s : Str} {T : TokR} {O : List Int × Fm}
theorem parse_long (h : 4000 < s.length) : parseL s = (proj0, 1, 0) := by unfold parseL; rw [if_pos h]
theorem parse_tok (h : ¬ 4000 < s.length) (hT : tokR (s.length + 1) 0 s = T) (he : T.2.1 ≠ 0) : parseL s = (proj0, T.2.1, T.2.2) := by
  unfold parseL; rw [if_neg h, hT, if_pos he]
theorem parse_form (h : ¬ 4000 < s.length) (hT : tokR (s.length + 1) 0 s = T) (he : T.2.1 = 0) (hO : fmGo ⟨0, 0, 1⟩ (T.1.map kt) = O) (hl : O.1.length < T.1.length) {t : Tok} (ht : T.1[O.1.length]? = some t) : parseL s = (proj0, 2, t.pos) := by
  unfold parseL
  rw [if_neg h, hT, if_neg (by rw [he]; simp)]
  show (if (fmGo ⟨0, 0, 1⟩ (T.1.map kt)).1.length < T.1.length then (proj0, (2 : Int), (T.1[(fmGo ⟨0, 0, 1⟩ (T.1.map kt)).1.length]?.map (·.pos)).getD 0) else _) = _
  rw [hO, if_pos hl, ht]
  rfl
theorem parse_end (h : ¬ 4000 < s.length) (hT : tokR (s.length + 1) 0 s = T) (he : T.2.1 = 0) (hO : fmGo ⟨0, 0, 1⟩ (T.1.map kt) = O) (hl : ¬ O.1.length < T.1.length) (hp : ¬ O.2.part = 9) : parseL s = (proj0, 2, s.length) := by
  unfold parseL
  rw [if_neg h, hT, if_neg (by rw [he]; simp)]
  show (if (fmGo ⟨0, 0, 1⟩ (T.1.map kt)).1.length < T.1.length then _ else if ¬ (fmGo ⟨0, 0, 1⟩ (T.1.map kt)).2.part = 9 then (proj0, (2 : Int), s.length) else _) = _
  rw [hO, if_neg hl, if_pos hp]
theorem parse_rest (h : ¬ 4000 < s.length) (hT : tokR (s.length + 1) 0 s = T) (he : T.2.1 = 0) (hO : fmGo ⟨0, 0, 1⟩ (T.1.map kt) = O) (hl : ¬ O.1.length < T.1.length) (hp : O.2.part = 9) : parseL s = match psGo ps0 (O.1.zip T.1) with
    | .error e => (proj0, e)
    | .ok q => (psEnd q, 0, 0) := by
  unfold parseL
  rw [if_neg h, hT, if_neg (by rw [he]; simp)]
  show (if (fmGo ⟨0, 0, 1⟩ (T.1.map kt)).1.length < T.1.length then _ else if ¬ (fmGo ⟨0, 0, 1⟩ (T.1.map kt)).2.part = 9 then _ else match psGo ps0 ((fmGo ⟨0, 0, 1⟩ (T.1.map kt)).1.zip T.1) with | .error e => (proj0, e) | .ok q => (psEnd q, 0, 0)) = _
  rw [hO, if_neg hl, if_neg (by rw [hp]; simp)]
end

end Go.Proofs.Ytbgiliophmofgaa
namespace Go.Proofs.Ytbgiliophmofgaa
open Go.RowKit
set_option linter.unusedVariables false

/-- A token that comes. -/
def TkOk (t : Tok) : Prop := tokOk (kt t)
theorem consT_ok_mem {t : Tok} {r : TokR} (ht : TkOk t) (hr : ∀ x ∈ r.1, TkOk x) : ∀ x ∈ (consT t r).1, TkOk x := by
  unfold consT
  split
  · intro x hx
    rcases List.mem_cons.1 hx with rfl | hx
    · exact ht
    · exact hr x hx
  · intro x hx; cases hx
theorem tokR_ok : ∀ (f p : Nat) (s : Str), ∀ t ∈ (tokR f p s).1, TkOk t
  | 0, _, _ => by simp [tokR]
  | _ + 1, _, [] => by simp [tokR]
  | f + 1, p, c :: r => by
    unfold tokR
    split
    · exact tokR_ok f _ _
    · split
      · rename_i h1 h2
        refine consT_ok_mem (.inr ⟨rfl, ?_⟩) (tokR_ok f _ _)
        rcases h2 with rfl | rfl
        · exact .inl rfl
        · exact .inr rfl
      · split
        · intro x hx; cases hx
        · split
          · intro x hx; cases hx
          · rename_i h1 h2 h3 h4
            refine consT_ok_mem (.inl ⟨rfl, c, r.takeWhile insB, rfl, by simpa using h3, fun x hx => ?_, by omega⟩) (tokR_ok f _ _)
            exact List.all_takeWhile (p := insB) |> fun h => (List.all_eq_true.1 h) x hx
theorem word_sign {t : Tok} (h : TkOk t) (hw : t.word = true) : t.text ≠ [59] ∧ t.text ≠ [44] := by
  rcases h with ⟨-, c, w, ht, hc, -⟩ | ⟨h, -⟩
  · have ht : t.text = c :: w := ht
    rw [ht]
    constructor
    · intro e
      cases e
      simp [letB, letN] at hc
    · intro e
      cases e
      simp [letB, letN] at hc
  · have h : t.word = false := h
    rw [hw] at h; cases h
theorem sign_word {t : Tok} (h : TkOk t) {w : Str} (he : t.text = w) (hw : w ≠ [59] ∧ w ≠ [44]) : t.word = true := by
  rcases h with ⟨h, -⟩ | ⟨-, h⟩
  · exact h
  · rcases h with h | h
    · exact absurd (he.symm.trans h) hw.1
    · exact absurd (he.symm.trans h) hw.2
theorem partW_sign : ∀ k, k < 9 → partsW[k]?.getD [] ≠ [59] ∧ partsW[k]?.getD [] ≠ [44] := by decide

/-! What may come. -/
theorem fmStep_def (k m n : Nat) (t : Tok) : fmStep ⟨k, m, n⟩ (kt t) =
    (if n = 1 ∧ k < 9 ∧ t.word = true ∧ t.text = partsW[k]?.getD [] then some (⟨k, 0, if k = 0 then 2 else 6⟩, -1)
    else if n ≠ 1 ∧ 0 < n &&& 2 ∧ t.word = true then some (⟨k, m + 1, fmNext k (m + 1)⟩, (k : Int))
    else if n ≠ 1 ∧ 0 < n &&& 4 ∧ t.text = [59] then some (⟨k + 1, m, 1⟩, -1)
    else if n ≠ 1 ∧ 0 < n &&& 8 ∧ t.text = [44] then some (⟨k, m, 2⟩, -1)
    else none) := rfl
section
variable {k m : Nat} {t : Tok}
theorem fm_head_yes (ht : TkOk t) (hk : k < 9) (h : t.text = partsW[k]?.getD []) : fmStep ⟨k, m, 1⟩ (kt t) = some (⟨k, 0, if k = 0 then 2 else 6⟩, -1) := by
  have hw := sign_word ht h (partW_sign k hk)
  rw [fmStep_def, if_pos ⟨rfl, hk, hw, h⟩]
theorem fm_head_no (h : ¬ (k < 9 ∧ t.text = partsW[k]?.getD [])) : fmStep ⟨k, m, 1⟩ (kt t) = none := by
  have h1 : ¬ ((1 : Nat) = 1 ∧ k < 9 ∧ t.word = true ∧ t.text = partsW[k]?.getD []) := fun e => h ⟨e.2.1, e.2.2.2⟩
  rw [fmStep_def, if_neg h1]
  simp
theorem fm_name_yes {n : Nat} (hn : n = 2 ∨ n = 6) (hw : t.word = true) : fmStep ⟨k, m, n⟩ (kt t) = some (⟨k, m + 1, fmNext k (m + 1)⟩, (k : Int)) := by
  rw [fmStep_def]
  rcases hn with rfl | rfl <;> simp [hw]
theorem end_word (ht : TkOk t) {c : UInt8} (hc : c = 59 ∨ c = 44) (hw : t.text = [c]) : t.word = false := by
  cases hb : t.word with
  | false => rfl
  | true =>
    rcases hc with rfl | rfl
    · exact absurd hw (word_sign ht hb).1
    · exact absurd hw (word_sign ht hb).2
theorem fm_end_yes (ht : TkOk t) {n : Nat} (hn : n = 6 ∨ n = 12) (hw : t.text = [59]) : fmStep ⟨k, m, n⟩ (kt t) = some (⟨k + 1, m, 1⟩, -1) := by
  have hb := end_word ht (.inl rfl) hw
  rw [fmStep_def]
  rcases hn with rfl | rfl <;> simp [hw, hb]
theorem fm_comma_yes (ht : TkOk t) (hw : t.text = [44]) : fmStep ⟨k, m, 12⟩ (kt t) = some (⟨k, m, 2⟩, -1) := by
  have hb := end_word ht (.inr rfl) hw
  rw [fmStep_def]
  simp [hw, hb]
theorem fm_two_no (hw : t.word = false) : fmStep ⟨k, m, 2⟩ (kt t) = none := by
  rw [fmStep_def]
  simp [hw]
theorem fm_six_no (hw : t.word = false) (h : t.text ≠ [59]) : fmStep ⟨k, m, 6⟩ (kt t) = none := by
  rw [fmStep_def]
  simp [hw, h]
theorem fm_twelve_no (h : t.text ≠ [59]) (h2 : t.text ≠ [44]) : fmStep ⟨k, m, 12⟩ (kt t) = none := by
  rw [fmStep_def]
  simp [h, h2]
end
theorem fmGo_some {s s' : Fm} {t : Tok} {r : List Tok} {i : Int} (h : fmStep s (kt t) = some (s', i)) : fmGo s ((t :: r).map kt) = (i :: (fmGo s' (r.map kt)).1, (fmGo s' (r.map kt)).2) := by
  rw [List.map_cons, fmGo, h]
theorem fmGo_none {s : Fm} {t : Tok} {r : List Tok} (h : fmStep s (kt t) = none) : fmGo s ((t :: r).map kt) = ([], s) := by
  rw [List.map_cons, fmGo, h]

/-! A part: its word, its names, the sign behind them. -/
def nameW (l : List Tok) : List Tok := l.takeWhile (·.word)
def restW (l : List Tok) : List Tok := l.dropWhile (·.word)
theorem nameW_rest (l : List Tok) : nameW l ++ restW l = l := List.takeWhile_append_dropWhile
theorem rest_head {l : List Tok} {s : Tok} {r : List Tok} (h : restW l = s :: r) : s.word = false := by
  have h1 : ∃ (hne : restW l ≠ []), ((restW l).head hne).word = false := ⟨by rw [h]; simp, by
    have := List.head_dropWhile_not (p := fun t : Tok => t.word) (l := l) (by
      show restW l ≠ []
      rw [h]; simp)
    exact this⟩
  obtain ⟨hne, h2⟩ := h1
  simpa [h] using h2
abbrev Rd (α : Type) := Except (List Tok) (α × List Tok)
/-- The sign behind. -/
def rdEnd {α : Type} (x : α) (l : List Tok) : Rd α := match l with
  | [] => .error []
  | s :: r => if s.text = [59] then .ok (x, r) else .error (s :: r)
def rdNames (least : Nat) (l : List Tok) : Rd (List Tok) := if (nameW l).length < least then .error (restW l) else rdEnd (nameW l) (restW l)
def rdPart (w : Str) (least : Nat) (l : List Tok) : Rd (List Tok) := match l with
  | [] => .error []
  | t :: r => if t.text = w then rdNames least r else .error (t :: r)
/-- Where it fails: so much of it is right, and the part is none behind the last one. -/
def FmErr (s : Fm) (l e : List Tok) : Prop := (fmGo s (l.map kt)).2.part < 9 ∧ l.drop (fmGo s (l.map kt)).1.length = e ∧ (fmGo s (l.map kt)).1.length ≤ l.length
theorem fmErr_stop {s : Fm} {l : List Tok} (hp : s.part < 9) (h : fmGo s (l.map kt) = ([], s)) : FmErr s l l := by
  unfold FmErr
  rw [h]
  exact ⟨hp, rfl, by simp⟩
theorem fmErr_cons {s s' : Fm} {t : Tok} {r e : List Tok} {i : Int} (h : fmStep s (kt t) = some (s', i)) (he : FmErr s' r e) : FmErr s (t :: r) e := by
  unfold FmErr at *
  rw [fmGo_some h]
  obtain ⟨h1, h2, h3⟩ := he
  exact ⟨h1, by simpa using h2, by simp; omega⟩
theorem fm_nil (s : Fm) : fmGo s (([] : List Tok).map kt) = ([], s) := rfl
/-- What is told of the tokens of l up to r, and what comes behind. -/
def FmTo (s : Fm) (l : List Tok) (o : List Int) (s' : Fm) (r : List Tok) : Prop := ∃ p, l = p ++ r ∧ o.length = p.length ∧ fmGo s (l.map kt) = (o ++ (fmGo s' (r.map kt)).1, (fmGo s' (r.map kt)).2)
theorem fmTo_cons {s s1 s' : Fm} {t : Tok} {l r : List Tok} {i : Int} {o : List Int} (h : fmStep s (kt t) = some (s1, i)) (he : FmTo s1 l o s' r) : FmTo s (t :: l) (i :: o) s' r := by
  obtain ⟨p, rfl, h2, h3⟩ := he
  exact ⟨t :: p, rfl, by simp [h2], by rw [fmGo_some h, h3]; rfl⟩
theorem fmTo_refl (s : Fm) (l : List Tok) : FmTo s l [] s l := ⟨[], rfl, rfl, by simp⟩
theorem fmTo_err {s s' : Fm} {l r e : List Tok} {o : List Int} (h : FmTo s l o s' r) (he : FmErr s' r e) : FmErr s l e := by
  obtain ⟨p, rfl, h2, h3⟩ := h
  obtain ⟨e1, e2, e3⟩ := he
  unfold FmErr
  rw [h3]
  refine ⟨e1, ?_, by simp; omega⟩
  show (p ++ r).drop (o ++ _).length = e
  rw [List.length_append, h2, List.drop_append]
  rw [List.drop_of_length_le (by omega), List.nil_append, Nat.add_sub_cancel_left]
  exact e2
theorem fmTo_trans {s s1 s2 : Fm} {l r r2 : List Tok} {o o2 : List Int} (h : FmTo s l o s1 r) (h2 : FmTo s1 r o2 s2 r2) : FmTo s l (o ++ o2) s2 r2 := by
  obtain ⟨p, rfl, a2, a3⟩ := h
  obtain ⟨p2, rfl, b2, b3⟩ := h2
  exact ⟨p ++ p2, by simp, by simp [a2, b2], by rw [a3, b3]; simp⟩
theorem fm_namesD {k : Nat} (hk : k < 8) : ∀ (l : List Tok) (m n : Nat), (∀ t ∈ l, TkOk t) → (n = 2 ∨ n = 6) → ∃ s', FmTo ⟨k, m, n⟩ l (List.replicate (nameW l).length (k : Int)) s' (restW l) ∧ s'.part = k ∧ s'.next = if nameW l = [] then n else 6
  | [], m, n, _, hn => ⟨_, fmTo_refl _ _, rfl, by simp [nameW]⟩
  | t :: r, m, n, h, hn => by
    have ht := h t (by simp)
    by_cases hw : t.word = true
    · have e1 : nameW (t :: r) = t :: nameW r := by unfold nameW; rw [List.takeWhile_cons_of_pos hw]
      have e2 : restW (t :: r) = restW r := by unfold restW; rw [List.dropWhile_cons_of_pos hw]
      have hx : fmNext k (m + 1) = 6 := by unfold fmNext; rw [if_neg (by omega), if_neg (by omega)]
      have hs := fm_name_yes (k := k) (m := m) hn hw
      rw [hx] at hs
      obtain ⟨s', h1, h2, h3⟩ := fm_namesD hk r (m + 1) 6 (fun x hx => h x (by simp [hx])) (.inr rfl)
      refine ⟨s', ?_, h2, ?_⟩
      · rw [e1, e2]
        exact fmTo_cons hs h1
      · rw [h3, e1]; simp
    · have e1 : nameW (t :: r) = [] := by unfold nameW; rw [List.takeWhile_cons_of_neg hw]
      have e2 : restW (t :: r) = t :: r := by unfold restW; rw [List.dropWhile_cons_of_neg hw]
      rw [e1, e2]
      exact ⟨_, fmTo_refl _ _, rfl, by simp⟩
theorem fm_endOf {α : Type} {k m n : Nat} (x : α) (hk : k < 9) (hn : n = 6 ∨ n = 12) {l : List Tok} (h : ∀ t ∈ l, TkOk t) (hl : ∀ s r, l = s :: r → s.word = false ∧ (n = 12 → s.text ≠ [44])) : match rdEnd x l with
    | .error e => FmErr ⟨k, m, n⟩ l e
    | .ok (y, r) => y = x ∧ FmTo ⟨k, m, n⟩ l [-1] ⟨k + 1, m, 1⟩ r := by
  unfold rdEnd
  cases l with
  | nil => exact fmErr_stop hk rfl
  | cons s r =>
    have hs := h s (by simp)
    obtain ⟨hw, hc⟩ := hl s r rfl
    by_cases he : s.text = [59]
    · dsimp only
      rw [if_pos he]
      exact ⟨rfl, fmTo_cons (fm_end_yes hs hn he) (fmTo_refl _ _)⟩
    · dsimp only
      rw [if_neg he]
      refine fmErr_stop hk (fmGo_none ?_)
      rcases hn with rfl | rfl
      · exact fm_six_no hw he
      · exact fm_twelve_no he (hc rfl)
/-- A PART. -/
theorem fm_partD {k m : Nat} (hk : k < 8) {l : List Tok} (h : ∀ t ∈ l, TkOk t) : match rdPart (partsW[k]?.getD []) (if k = 0 then 1 else 0) l with
    | .error e => FmErr ⟨k, m, 1⟩ l e
    | .ok (ns, r) => ∃ m' w s, FmTo ⟨k, m, 1⟩ l (-1 :: (List.replicate ns.length (k : Int) ++ [-1])) ⟨k + 1, m', 1⟩ r ∧ l = w :: (ns ++ s :: r) := by
  unfold rdPart
  cases l with
  | nil => exact fmErr_stop (by show k < 9; omega) rfl
  | cons t r =>
    have ht := h t (by simp)
    by_cases he : t.text = partsW[k]?.getD []
    · dsimp only
      rw [if_pos he]
      have hs := fm_head_yes (m := m) ht (by omega) he
      have hr : ∀ x ∈ r, TkOk x := fun x hx => h x (by simp [hx])
      obtain ⟨s', h1, h2, h3⟩ := fm_namesD hk r 0 (if k = 0 then 2 else 6) hr (by split <;> omega)
      unfold rdNames
      by_cases hc : (nameW r).length < (if k = 0 then 1 else 0)
      · rw [if_pos hc]
        have hk0 : k = 0 := by
          by_cases e : k = 0
          · exact e
          · rw [if_neg e] at hc; omega
        have hn : nameW r = [] := by
          rw [if_pos hk0] at hc
          exact List.eq_nil_of_length_eq_zero (by omega)
        refine fmErr_cons hs (fmTo_err h1 ?_)
        obtain ⟨p, n, x⟩ := s'
        dsimp only at h2 h3
        rw [if_pos hn, if_pos hk0] at h3
        subst h2; subst h3
        cases hq : restW r with
        | nil => exact fmErr_stop (by show p < 9; omega) rfl
        | cons s q =>
          exact fmErr_stop (by show p < 9; omega) (fmGo_none (fm_two_no (rest_head hq)))
      · rw [if_neg hc]
        have hx : s'.next = 6 := by
          rw [h3]
          split
          · rename_i e
            split
            · rename_i e0
              rw [if_pos e0, e] at hc
              simp at hc
            · rfl
          · rfl
        obtain ⟨p, n, x⟩ := s'
        dsimp only at h2 hx
        subst h2; subst hx
        have hq := fm_endOf (m := n) (n := 6) (nameW r) (show p < 9 by omega) (.inl rfl) (l := restW r) (fun x hx => hr x (by rw [← nameW_rest r]; simp [hx])) (fun s q e => ⟨rest_head e, fun e => by omega⟩)
        unfold rdEnd at hq ⊢
        cases hz : restW r with
        | nil =>
          rw [hz] at hq
          exact fmErr_cons hs (fmTo_err h1 (by rw [hz]; exact hq))
        | cons s q =>
          rw [hz] at hq
          by_cases h59 : s.text = [59]
          · dsimp only at hq ⊢
            rw [if_pos h59] at hq ⊢
            refine ⟨n, t, s, ?_, ?_⟩
            · exact fmTo_cons hs (fmTo_trans h1 (by rw [hz]; exact hq.2))
            · show t :: r = _
              rw [← hz, nameW_rest]
          · dsimp only at hq ⊢
            rw [if_neg h59] at hq ⊢
            exact fmErr_cons hs (fmTo_err h1 (by rw [hz]; exact hq))
    · dsimp only
      rw [if_neg he]
      exact fmErr_stop (by show k < 9; omega) (fmGo_none (fm_head_no (fun e => he e.2)))

end Go.Proofs.Ytbgiliophmofgaa
