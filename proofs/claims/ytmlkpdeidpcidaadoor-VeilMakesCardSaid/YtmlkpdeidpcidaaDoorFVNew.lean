/-
  The walk of veil.newKeeper.
-/
import Derived.Test.YtmlkpdeidpcidaaDoorFVNewB
import Derived.Test.YtmlkpdeidpcidaaDoorFVFnd
import Derived.Test.YtmlkpdeidpcidaaDoorJ12
namespace Go.Proofs.YtmlkpdeidpcidaaDoor
open Go.RowKit
set_option linter.unusedVariables false

set_option maxRecDepth 100000 in
set_option maxHeartbeats 8000000 in
theorem knew_go (st ev : Int) (starts : List Int) (ars : List Arr) (ends seen secret : List Int) (a1 : Option Addr) (c1 : Nat) (a2 : Option Addr) (c2 : Nat) (a3 : Option Addr) (c3 : Nat) (sa : Option Addr) (sc : Nat) (ta : Option Addr) (tc : Nat) (fa : Option Addr) (fc : Nat) (free : List Int) (N : Nat) (g : List Int → Bool) (hp : Hid (mayP ⟨⟨st, ev, starts, ars, ends⟩, seen, secret⟩ = true)) (hpl : Hid (PlnV ⟨⟨st, ev, starts, ars, ends⟩, seen, secret⟩)) (hg : Hid (TellsG ⟨⟨st, ev, starts, ars, ends⟩, seen, secret⟩ free g)) (hfr : Hid (rowB ev free = true)) (hN : Hid (st = (N : Int))) (w : World) (hP : Hid (PAt w ⟨⟨st, ev, starts, ars, ends⟩, seen, secret⟩ ⟨⟨a1, c1, a2, c2, a3, c3⟩, sa, sc, ta, tc⟩)) (hF : Hid (At w fa free)) (hFl : Hid (free.length ≤ maxLen)) (hT : Hid (Tab w)) :
    Calls Tryd.prog 105 #[ptval ⟨⟨st, ev, starts, ars, ends⟩, seen, secret⟩ ⟨⟨a1, c1, a2, c2, a3, c3⟩, sa, sc, ta, tc⟩, .slice fa free.length fc] w fun e w' => ∃ kb mb R T LS lS c, e = .returned (.pointer (some ⟨kb, 0, none⟩)) ∧ KV w' kb ⟨⟨st, ev, starts, ars, ends⟩, seen, secret⟩ ⟨⟨a1, c1, a2, c2, a3, c3⟩, sa, sc, ta, tc⟩ fa fc free R T mb ∧ w'.heap[mb]? = some (.map (entsC LS) c) ∧ KeepV ⟨⟨st, ev, starts, ars, ends⟩, seen, secret⟩ free g T LS lS ∧ Below w.heap.size w w' := by
  have h6 : N ≤ 6 := by
    have := states_bd hp.out
    dsimp only at this
    have := hN.out
    omega
  have HSE : Hid (∀ x ∈ seen, 0 ≤ x ∧ x < ev ∧ x < 8) := (seen_bd hp.out).2
  have HMM : Hid (mayB ⟨st, ev, starts, ars, ends⟩ = true) := ((mayP_iff _).1 hp.out).1
  have HAI : Hid (∀ a ∈ ars, 0 ≤ a.f ∧ a.f < st ∧ 0 ≤ a.t ∧ a.t < st ∧ 0 ≤ a.e ∧ a.e < ev) := may_arrs HMM.out
  have hal : ars.length ≤ 4096 := by
    have := mayB_size HMM.out
    unfold sizeOk at this
    exact this.2.2.2.2
  have hev : ev ≤ 8 := by
    have := mayB_size HMM.out
    unfold sizeOk at this
    dsimp only at this
    omega
  have HSB : Hid (∀ x ∈ secret, 0 ≤ x ∧ x < 256) := fun x hx => by
    have h1 := ((mayP_iff _).1 hp.out).2.2.2
    have h2 := states_bd hp.out
    dsimp only at h1 h2
    have h3 := ((rowB_iff _ (by omega) _).1 h1).2 x hx
    omega
  have HRep : Hid (Rep (ofS secret) secret) := by
    have := rep_of HSB.out secret.length
    rwa [List.take_of_length_le (Nat.le_refl _)] at this
  obtain ⟨R, HRR⟩ : ∃ R, Hid (R = ofS secret) := ⟨_, rfl⟩
  rw [← HRR.out] at HRep
  have B : Hid (Below w.heap.size w (w.alloc (.cells (ptcells ⟨⟨st, ev, starts, ars, ends⟩, seen, secret⟩ ⟨⟨a1, c1, a2, c2, a3, c3⟩, sa, sc, ta, tc⟩) 44))) := (Below.refl _ _).alloc (Nat.le_refl _) _
  have KP : Hid (Blk (w.alloc (.cells (ptcells ⟨⟨st, ev, starts, ars, ends⟩, seen, secret⟩ ⟨⟨a1, c1, a2, c2, a3, c3⟩, sa, sc, ta, tc⟩) 44)) w.heap.size 44 (ptcells ⟨⟨st, ev, starts, ars, ends⟩, seen, secret⟩ ⟨⟨a1, c1, a2, c2, a3, c3⟩, sa, sc, ta, tc⟩)) := Blk.new w _ _
  go_enter Tryd.func105, Tryd.ntmps105
  go_wp2_with fail
  revert B KP
  generalize (w.alloc (.cells (ptcells ⟨⟨st, ev, starts, ars, ends⟩, seen, secret⟩ ⟨⟨a1, c1, a2, c2, a3, c3⟩, sa, sc, ta, tc⟩) 44)) = V0
  intro B KP
  refine Code.wp_mono (Q := regQ fun a' W' => ∃ (kb mb : Nat) (r16 : Value), a' = { tmps := #[ptval ⟨⟨st, ev, starts, ars, ends⟩, seen, secret⟩ ⟨⟨a1, c1, a2, c2, a3, c3⟩, sa, sc, ta, tc⟩, .slice fa free.length fc, .pointer (some ⟨w.heap.size, 0, none⟩), undef, .pointer none, .pointer (some ⟨kb, 0, none⟩), undef, undef, undef, undef, ptval ⟨⟨st, ev, starts, ars, ends⟩, seen, secret⟩ ⟨⟨a1, c1, a2, c2, a3, c3⟩, sa, sc, ta, tc⟩, .slice fa free.length fc, .pointer (some ⟨w.heap.size, 6, none⟩), .slice ta secret.length tc, sval R, .map (some mb), r16, .pointer (some ⟨kb, 0, none⟩), undef, undef, undef, undef, undef, undef, undef, undef, undef, undef, undef, undef, undef, undef, undef, undef, undef, undef, undef, undef, undef, undef, undef, undef, undef, undef, undef, undef, undef, undef, undef, undef, undef, undef, undef, undef, undef, undef, undef, undef, undef, undef, undef, undef, undef, undef, undef, undef, undef, undef, undef, undef], defers := [] } ∧ KV W' kb ⟨⟨st, ev, starts, ars, ends⟩, seen, secret⟩ ⟨⟨a1, c1, a2, c2, a3, c3⟩, sa, sc, ta, tc⟩ fa fc free R (fun _ => zeroS) mb ∧ W'.heap[mb]? = some (.map #[] 0) ∧ Below w.heap.size w W' ∧ w.heap.size < mb ∧ mb < kb) ?aft ?reg
  case reg =>
    have SA : Hid (∀ X, Blk X w.heap.size 44 (ptcells ⟨⟨st, ev, starts, ars, ends⟩, seen, secret⟩ ⟨⟨a1, c1, a2, c2, a3, c3⟩, sa, sc, ta, tc⟩) → X.cell? ⟨w.heap.size, 0, none⟩ = some (.int .i64 st) ∧ X.cell? ⟨w.heap.size, 1, none⟩ = some (.int .i64 ev) ∧ X.cell? ⟨w.heap.size, 2, none⟩ = some (.slice a1 starts.length c1) ∧ X.cell? ⟨w.heap.size, 3, none⟩ = some (.slice a2 ars.length c2) ∧ X.cell? ⟨w.heap.size, 4, none⟩ = some (.slice a3 ends.length c3) ∧ X.cell? ⟨w.heap.size, 5, none⟩ = some (.slice sa seen.length sc) ∧ X.cell? ⟨w.heap.size, 6, none⟩ = some (.slice ta secret.length tc)) := fun X h => ptcell_at h
    refine wp_region_held_drew (S := fun w' => w'.cell? ⟨w.heap.size, 0, none⟩ = some (.int .i64 st) ∧ w'.cell? ⟨w.heap.size, 1, none⟩ = some (.int .i64 ev) ∧ w'.cell? ⟨w.heap.size, 2, none⟩ = some (.slice a1 starts.length c1) ∧ w'.cell? ⟨w.heap.size, 3, none⟩ = some (.slice a2 ars.length c2) ∧ w'.cell? ⟨w.heap.size, 4, none⟩ = some (.slice a3 ends.length c3) ∧ w'.cell? ⟨w.heap.size, 5, none⟩ = some (.slice sa seen.length sc) ∧ w'.cell? ⟨w.heap.size, 6, none⟩ = some (.slice ta secret.length tc)) (by kernel_rfl) (SA.out _ (Blk.drew KP.out)) (fun hS => ?_)
    replace B : Hid (Below w.heap.size w V0.drew) := B.out.drew
    replace KP : Hid (Blk V0.drew w.heap.size 44 (ptcells ⟨⟨st, ev, starts, ars, ends⟩, seen, secret⟩ ⟨⟨a1, c1, a2, c2, a3, c3⟩, sa, sc, ta, tc⟩)) := Blk.drew KP.out
    revert hS B KP
    generalize V0.drew = Y0
    intro hS B KP
    refine wpAnyH_take (i := 0) (v := ptval ⟨⟨st, ev, starts, ars, ends⟩, seen, secret⟩ ⟨⟨a1, c1, a2, c2, a3, c3⟩, sa, sc, ta, tc⟩) rfl (by kernel_rfl) (by kernel_rfl) (by kernel_rfl) (fun _ _ _ h => h) (Or.inl ⟨by kernel_rfl, fun w' hw' => by obtain ⟨q0, q1, q2, q3, q4, q5, q6⟩ := hw'; go_simp⟩) hS ?_
    refine wpAnyH_take (i := 1) (v := .slice fa free.length fc) rfl (by kernel_rfl) (by kernel_rfl) (by kernel_rfl) (fun _ _ _ h => h) (Or.inl ⟨by kernel_rfl, fun w' hw' => by obtain ⟨q0, q1, q2, q3, q4, q5, q6⟩ := hw'; go_simp⟩) hS ?_
    refine wpAnyH_take (i := 2) (v := .pointer (some ⟨w.heap.size, 6, none⟩)) rfl (by kernel_rfl) (by kernel_rfl) (by kernel_rfl) (fun _ _ _ h => h) (Or.inl ⟨by kernel_rfl, fun w' hw' => by obtain ⟨q0, q1, q2, q3, q4, q5, q6⟩ := hw'; go_simp⟩) hS ?_
    refine wpAnyH_take (i := 3) (v := .slice ta secret.length tc) rfl (by kernel_rfl) (by kernel_rfl) (by kernel_rfl) (fun _ _ _ h => h) (Or.inl ⟨by kernel_rfl, fun w' hw' => by obtain ⟨q0, q1, q2, q3, q4, q5, q6⟩ := hw'; go_simp⟩) hS ?_
    simp only [Act.put, List.setIfInBounds_toArray]
    refine wpAnyH_ready (rs := [4, 5]) (by kernel_rfl) (by simp) ?_
    refine AllReadyH.cons rfl (fun K' hK' => ?_) (AllReadyH.cons rfl (fun K' hK' => ?_) AllReadyH.nil)
    · clear hS
      go_simp
      refine (of_any ta tc secret Y0 (hP.out.t.at_.below B.out (Nat.le_refl _)) hP.out.t.len HSB.out).mono ?_
      rintro e Y1 ⟨rfl, hb⟩
      rw [← HRR.out]
      replace B := Hid.of (B.out.trans (hb.mono B.out.size))
      replace KP := Hid.of (KP.out.below hb KP.out.lt)
      refine hK'.out _ _ (SA.out _ KP.out) (fun hS => ?_)
      clear hK' K' hb
      refine wpAnyH_ready (rs := [5]) (by kernel_rfl) (by simp) ?_
      refine AllReadyH.cons rfl (fun K' hK' => ?_) AllReadyH.nil
      clear hS
      have hmm := @run_makeMap Tryd.prog
      go_simp
      clear hmm
      have hb : Below Y1.heap.size Y1 (Y1.alloc (.map #[] 0)) := (Below.refl _ _).alloc (Nat.le_refl _) _
      have HM : Hid ((Y1.alloc (.map #[] 0)).heap[Y1.heap.size]? = some (.map #[] 0)) := World.alloc_heap_new Y1 (.map #[] 0)
      have HMB : Hid (w.heap.size < Y1.heap.size) := KP.out.lt
      replace B := Hid.of (B.out.trans (hb.mono B.out.size))
      replace KP := Hid.of (KP.out.below hb KP.out.lt)
      refine hK'.out _ _ (SA.out _ KP.out) (fun hS => ?_)
      clear hK' K' hb
      revert HM HMB B KP hS
      generalize Y1.alloc (.map #[] 0) = Y2
      generalize Y1.heap.size = mb
      intro HM HMB B KP hS
      refine wpAnyH_ready (rs := [6]) (by kernel_rfl) (by simp) ?_
      refine AllReadyH.cons rfl (fun K' hK' => ?_) AllReadyH.nil
      clear hS
      go_simp
      refine hK'.out _ _ (SA.out _ KP.out) (fun hS => ?_)
      clear hK' K'
      refine wpAnyH_ready (rs := [7]) (by kernel_rfl) (by simp) ?_
      refine AllReadyH.cons rfl (fun K' hK' => ?_) AllReadyH.nil
      clear hS
      go_simp
      have hb : Below Y2.heap.size Y2 (Y2.alloc (.cells (zcV Tryd.zeroCells167 ⟨⟨st, ev, starts, ars, ends⟩, seen, secret⟩ ⟨⟨a1, c1, a2, c2, a3, c3⟩, sa, sc, ta, tc⟩ fa fc free R mb) 167)) := (Below.refl _ _).alloc (Nat.le_refl _) _
      have HK : Hid (KV (Y2.alloc (.cells (zcV Tryd.zeroCells167 ⟨⟨st, ev, starts, ars, ends⟩, seen, secret⟩ ⟨⟨a1, c1, a2, c2, a3, c3⟩, sa, sc, ta, tc⟩ fa fc free R mb) 167)) Y2.heap.size ⟨⟨st, ev, starts, ars, ends⟩, seen, secret⟩ ⟨⟨a1, c1, a2, c2, a3, c3⟩, sa, sc, ta, tc⟩ fa fc free R (fun _ => zeroS) mb) := zcV_kv Y2 ⟨⟨st, ev, starts, ars, ends⟩, seen, secret⟩ ⟨⟨a1, c1, a2, c2, a3, c3⟩, sa, sc, ta, tc⟩ fa fc free R mb
      have HKB : Hid (mb < Y2.heap.size) := (Array.getElem?_eq_some_iff.1 HM.out).1
      replace HM := Hid.of ((hb.block mb (Array.getElem?_eq_some_iff.1 HM.out).1).trans HM.out)
      replace B := Hid.of (B.out.trans (hb.mono B.out.size))
      replace KP := Hid.of (KP.out.below hb KP.out.lt)
      refine hK'.out _ _ (SA.out _ KP.out) (fun hS => ?_)
      clear hK' K' hb
      refine wpAnyH_take (i := 8) (v := .pointer (some ⟨Y2.heap.size, 0, none⟩)) rfl (by kernel_rfl) (by kernel_rfl) (by kernel_rfl) (fun _ _ _ h => h) (Or.inl ⟨by kernel_rfl, fun w' hw' => by go_simp⟩) hS ?_
      refine wpAnyH_done (by kernel_rfl) ?_ _
      exact ⟨Y2.heap.size, mb, _, rfl, HK.out, HM.out, B.out, HMB.out, HKB.out⟩
    · clear hS
      have hmm := @run_makeMap Tryd.prog
      go_simp
      clear hmm
      have hb : Below Y0.heap.size Y0 (Y0.alloc (.map #[] 0)) := (Below.refl _ _).alloc (Nat.le_refl _) _
      have HM : Hid ((Y0.alloc (.map #[] 0)).heap[Y0.heap.size]? = some (.map #[] 0)) := World.alloc_heap_new Y0 (.map #[] 0)
      have HMB : Hid (w.heap.size < Y0.heap.size) := KP.out.lt
      replace B := Hid.of (B.out.trans (hb.mono B.out.size))
      replace KP := Hid.of (KP.out.below hb KP.out.lt)
      refine hK'.out _ _ (SA.out _ KP.out) (fun hS => ?_)
      clear hK' K' hb
      revert HM HMB B KP hS
      generalize Y0.alloc (.map #[] 0) = Y5
      generalize Y0.heap.size = mb
      intro HM HMB B KP hS
      refine wpAnyH_ready (rs := [4]) (by kernel_rfl) (by simp) ?_
      refine AllReadyH.cons rfl (fun K' hK' => ?_) AllReadyH.nil
      clear hS
      go_simp
      refine (of_any ta tc secret Y5 (hP.out.t.at_.below B.out (Nat.le_refl _)) hP.out.t.len HSB.out).mono ?_
      rintro e Y6 ⟨rfl, hb⟩
      rw [← HRR.out]
      replace HM := Hid.of ((hb.block mb (Array.getElem?_eq_some_iff.1 HM.out).1).trans HM.out)
      replace B := Hid.of (B.out.trans (hb.mono B.out.size))
      replace KP := Hid.of (KP.out.below hb KP.out.lt)
      refine hK'.out _ _ (SA.out _ KP.out) (fun hS => ?_)
      clear hK' K' hb
      refine wpAnyH_ready (rs := [6]) (by kernel_rfl) (by simp) ?_
      refine AllReadyH.cons rfl (fun K' hK' => ?_) AllReadyH.nil
      clear hS
      go_simp
      refine hK'.out _ _ (SA.out _ KP.out) (fun hS => ?_)
      clear hK' K'
      refine wpAnyH_ready (rs := [7]) (by kernel_rfl) (by simp) ?_
      refine AllReadyH.cons rfl (fun K' hK' => ?_) AllReadyH.nil
      clear hS
      go_simp
      have hb : Below Y6.heap.size Y6 (Y6.alloc (.cells (zcV Tryd.zeroCells167 ⟨⟨st, ev, starts, ars, ends⟩, seen, secret⟩ ⟨⟨a1, c1, a2, c2, a3, c3⟩, sa, sc, ta, tc⟩ fa fc free R mb) 167)) := (Below.refl _ _).alloc (Nat.le_refl _) _
      have HK : Hid (KV (Y6.alloc (.cells (zcV Tryd.zeroCells167 ⟨⟨st, ev, starts, ars, ends⟩, seen, secret⟩ ⟨⟨a1, c1, a2, c2, a3, c3⟩, sa, sc, ta, tc⟩ fa fc free R mb) 167)) Y6.heap.size ⟨⟨st, ev, starts, ars, ends⟩, seen, secret⟩ ⟨⟨a1, c1, a2, c2, a3, c3⟩, sa, sc, ta, tc⟩ fa fc free R (fun _ => zeroS) mb) := zcV_kv Y6 ⟨⟨st, ev, starts, ars, ends⟩, seen, secret⟩ ⟨⟨a1, c1, a2, c2, a3, c3⟩, sa, sc, ta, tc⟩ fa fc free R mb
      have HKB : Hid (mb < Y6.heap.size) := (Array.getElem?_eq_some_iff.1 HM.out).1
      replace HM := Hid.of ((hb.block mb (Array.getElem?_eq_some_iff.1 HM.out).1).trans HM.out)
      replace B := Hid.of (B.out.trans (hb.mono B.out.size))
      replace KP := Hid.of (KP.out.below hb KP.out.lt)
      refine hK'.out _ _ (SA.out _ KP.out) (fun hS => ?_)
      clear hK' K' hb
      refine wpAnyH_take (i := 8) (v := .pointer (some ⟨Y6.heap.size, 0, none⟩)) rfl (by kernel_rfl) (by kernel_rfl) (by kernel_rfl) (fun _ _ _ h => h) (Or.inl ⟨by kernel_rfl, fun w' hw' => by go_simp⟩) hS ?_
      refine wpAnyH_done (by kernel_rfl) ?_ _
      exact ⟨Y6.heap.size, mb, _, rfl, HK.out, HM.out, B.out, HMB.out, HKB.out⟩
  case aft =>
    clear B KP
    refine regQ_imp ?_
    rintro a' X0 ⟨kb, mb, r16, rfl, hk0, hm0, hb0, hw0, hmk⟩
    have HK := Hid.of hk0
    have HM := Hid.of hm0
    have B := Hid.of hb0
    have HMK := Hid.of hmk
    have HWM := Hid.of hw0
    clear hk0 hm0 hb0 hmk hw0
    have hbz : Below X0.heap.size X0 (X0.alloc (.cells z24V 193)) := (Below.refl _ _).alloc (Nat.le_refl _) _
    have HU : Hid (TU (X0.alloc (.cells z24V 193)) X0.heap.size (unF ⟨⟨st, ev, starts, ars, ends⟩, seen, secret⟩ 0)) := by
      have := zero_tu X0
      rw [← unF_zero ⟨⟨st, ev, starts, ars, ends⟩, seen, secret⟩] at this
      exact this
    have HKU : Hid (kb < X0.heap.size) := HK.out.lt
    have HPU : Hid (X0.heap.size < (X0.alloc (.cells z24V 193)).heap.size) := HU.out.lt
    replace HK := Hid.of (HK.out.below hbz HK.out.lt)
    replace HM := Hid.of ((hbz.block mb (Array.getElem?_eq_some_iff.1 HM.out).1).trans HM.out)
    replace B := Hid.of (B.out.trans (hbz.mono B.out.size))
    have x0 : (X0.alloc (.cells z24V 193)).cell? ⟨kb, 0, none⟩ = some (.int .i64 (N : Int)) := by rw [← hN.out]; exact HK.out.plant.1
    clear hbz
    go_wp2_with fail
    clear x0
    revert HU HKU HPU HK HM B
    generalize X0.alloc (.cells z24V 193) = X1
    generalize X0.heap.size = pu
    intro HU HKU HPU HK HM B
    go_loopw [24] (fun i wr => ∃ k : Nat, i = .int .i64 k ∧ k ≤ N ∧ Hid (TU wr pu (unF ⟨⟨st, ev, starts, ars, ends⟩, seen, secret⟩ k)) ∧ Hid (OthV pu X1 wr)) (fun i _ => N - (intOf i).toNat)
    case atStart => exact ⟨0, rfl, Nat.zero_le _, HU, OthV.refl _ _⟩
    case round =>
      clear HU
      obtain ⟨k, rfl, hk, WU, WX⟩ := hrel
      have hpw := HWM.out
      by_cases hlt : k < N
      · have hk6 : (k : Int) < 6 := by omega
        have hkN : (k : Int) < (N : Int) := by omega
        have hbz : Below wr.heap.size wr (wr.alloc (.cells #[.int .i64 (k : Int)] 3)) := (Below.refl _ _).alloc (Nat.le_refl _) _
        have ZX := Hid.of (WX.out.below hbz (Nat.le_of_lt HPU.out))
        have ZU := Hid.of (WU.out.below hbz)
        have ZS := Hid.of (at_oneV wr (k : Int))
        clear hbz
        go_wp2_with fail
        revert ZX ZU ZS
        generalize wr.alloc (.cells #[.int .i64 (k : Int)] 3) = Z
        generalize wr.heap.size = pz
        intro ZX ZU ZS
        have ZB : Hid (Below w.heap.size w Z) := B.out.trans (ZX.out.bel.mono (by have := HMK.out; have := HKU.out; omega))
        have HOB : Hid (∀ x ∈ [(k : Int)], 0 ≤ x ∧ x < st) := fun x hx => by
          have e : x = (k : Int) := by simpa using hx
          have := hN.out
          omega
        refine (kuns_any st ev starts ars ends seen secret a1 c1 a2 c2 a3 c3 sa sc ta tc fa fc free R (fun _ => zeroS) mb kb [(k : Int)] (some ⟨pz, 0, none⟩) 1 Z (Hid.of (HK.out.same (ZX.out.oth kb HK.out.lt (by have := HKU.out; omega)))) hp (Hid.of (hP.out.below ZB.out (Nat.le_refl _))) ZS (Hid.of (by simp [Inc])) HOB (Hid.of (hT.out.below ZB.out hT.out.lt))).mono ?_
        rintro e Z1 ⟨rfl, hb1⟩
        obtain ⟨U, HUU⟩ : ∃ U, Hid (U = wideS ⟨⟨st, ev, starts, ars, ends⟩, seen, secret⟩ [(k : Int)]) := ⟨_, rfl⟩
        rw [← HUU.out]
        replace ZX := Hid.of (ZX.out.below hb1 (Nat.le_of_lt HPU.out))
        replace ZU := Hid.of (ZU.out.below hb1)
        clear hb1 ZS
        have fz := ZU.out.frozen
        obtain ⟨y0, y1, y2, y3⟩ := TU.cells ZU.out (n := k) (by omega)
        have N1 := Hid.of (TU.store ZU.out (n := k) (by omega) U)
        rw [HUU.out, unF_next, ← HUU.out] at N1
        have N2 := Hid.of (ZX.out.set4at (k * 4) (.int .u64 (U 0)) (.int .u64 (U 1)) (.int .u64 (U 2)) (.int .u64 (U 3)))
        go_wp2_with fail
        go_roundw
        case rel => exact ⟨k + 1, by go_num, by omega, N1, N2⟩
        case measure => simp [intOf]; omega
      · have hke : k = N := by omega
        subst hke
        clear hlt
        replace B := Hid.of (B.out.trans (WX.out.bel.mono (by have := HMK.out; have := HKU.out; omega)))
        replace HK := Hid.of (HK.out.same (WX.out.oth kb HK.out.lt (by have := HKU.out; omega)))
        replace HM := Hid.of ((WX.out.oth mb (Array.getElem?_eq_some_iff.1 HM.out).1 (by have := HMK.out; have := HKU.out; omega)).trans HM.out)
        replace HK : Hid (KV wr kb ⟨⟨st, ev, starts, ars, ends⟩, seen, secret⟩ ⟨⟨a1, c1, a2, c2, a3, c3⟩, sa, sc, ta, tc⟩ fa fc free R (ldT ⟨⟨st, ev, starts, ars, ends⟩, seen, secret⟩ 0) mb) := HK.out
        clear WX HPU
        obtain ⟨x0, x1, x2, x3, x4, x5, x6⟩ := HK.out.plant
        dsimp only at x0 x1 x2 x3 x4 x5 x6
        go_wp2_with fail
        clear x0 x1 x2 x3 x4 x5 x6
        have HMS := Hid.of (Array.getElem?_eq_some_iff.1 HM.out).1
        have HUS := Hid.of WU.out.lt
        go_loopw [41] (fun i wr' => ∃ j : Nat, i = .int .i64 j ∧ j ≤ ars.length ∧ Hid (KV wr' kb ⟨⟨st, ev, starts, ars, ends⟩, seen, secret⟩ ⟨⟨a1, c1, a2, c2, a3, c3⟩, sa, sc, ta, tc⟩ fa fc free R (ldT ⟨⟨st, ev, starts, ars, ends⟩, seen, secret⟩ j) mb) ∧ Hid (OthV kb wr wr')) (fun i _ => ars.length - (intOf i).toNat)
        case atStart => exact ⟨0, rfl, Nat.zero_le _, HK, OthV.refl _ _⟩
        case round =>
          obtain ⟨j, rfl, hj, LK, LX⟩ := hrel
          rename World => wl
          by_cases hlt : j < ars.length
          · have LB : Hid (Below w.heap.size w wl) := B.out.trans (LX.out.bel.mono (by have := HMK.out; omega))
            obtain ⟨b, off, rfl, hb, hca⟩ : ∃ b off, a2 = some ⟨b, off, none⟩ ∧ b < w.heap.size ∧ CellsA w b off ars := by
              rcases hP.out.m.a with h0 | h0
              · have h0 : ars = [] := h0
                rw [h0] at hlt; simp at hlt
              · exact h0
            obtain ⟨⟨af, ae, aT⟩, HA, y1, y2, y3⟩ := hca.at hlt
            have HAG : Hid (ars[j]? = some ⟨af, ae, aT⟩) := by
              have h := HA.out
              show _ = _
              rw [List.getElem?_eq_getElem hlt, Option.getD_some] at h
              rw [List.getElem?_eq_getElem hlt, h]
            have hbd := HAI.out _ (List.mem_of_getElem? HAG.out)
            dsimp only at hbd
            have hNN := hN.out
            obtain ⟨f, rfl⟩ : ∃ f : Nat, af = (f : Int) := ⟨af.toNat, by omega⟩
            obtain ⟨e, rfl⟩ : ∃ e : Nat, ae = (e : Int) := ⟨ae.toNat, by omega⟩
            obtain ⟨t, rfl⟩ : ∃ t : Nat, aT = (t : Int) := ⟨aT.toNat, by omega⟩
            have hf6 : f < 6 := by omega
            have he8 : e < 8 := by omega
            have htk : t < k := by omega
            have hfI : (f : Int) < 6 := by omega
            have heI : (e : Int) < 8 := by omega
            have htI : (t : Int) < 6 := by omega
            clear hbd hNN HA hca
            replace y1 := (LB.out.cell (p := ⟨b, off + j * 3, none⟩) hb).trans y1
            replace y2 := (LB.out.cell (p := ⟨b, off + j * 3 + 1, none⟩) hb).trans y2
            replace y3 := (LB.out.cell (p := ⟨b, off + j * 3 + 2, none⟩) hb).trans y3
            dsimp only at y1 y2 y3
            have hjI : (j : Int) < (ars.length : Int) := by omega
            have hbz : Below wl.heap.size wl (wl.alloc (.cells #[.int .i64 (f : Int), .int .i64 (e : Int), .int .i64 (t : Int)] 81)) := (Below.refl _ _).alloc (Nat.le_refl _) _
            have WA : Hid (Blk (wl.alloc (.cells #[.int .i64 (f : Int), .int .i64 (e : Int), .int .i64 (t : Int)] 81)) wl.heap.size 81 #[.int .i64 (f : Int), .int .i64 (e : Int), .int .i64 (t : Int)]) := Blk.new wl _ _
            have ZK := Hid.of (LK.out.below hbz LK.out.lt)
            have ZX := Hid.of (LX.out.below hbz (Nat.le_of_lt HK.out.lt))
            have HPB : Hid (kb < wl.heap.size) := LK.out.lt
            clear hbz
            go_wp2_with fail
            clear y1 y2 y3
            revert WA ZK ZX HPB
            generalize wl.alloc (.cells #[.int .i64 (f : Int), .int .i64 (e : Int), .int .i64 (t : Int)] 81) = Z
            generalize wl.heap.size = pb
            intro WA ZK ZX HPB
            have SA : Hid (∀ X, Below Z.heap.size Z X → X.cell? ⟨kb, 5, none⟩ = some (.slice sa seen.length sc) ∧ X.cell? ⟨pb, 1, none⟩ = some (.int .i64 (e : Int))) := fun X hb => ⟨(ZK.out.below hb ZK.out.lt).plant.2.2.2.2.2.1, (WA.out.below hb WA.out.lt).cell 1 rfl⟩
            refine wp_region_held_drew (S := fun w' => w'.cell? ⟨kb, 5, none⟩ = some (.slice sa seen.length sc) ∧ w'.cell? ⟨pb, 1, none⟩ = some (.int .i64 (e : Int))) (by kernel_rfl) (SA.out _ (Below.refl _ _).drew) (fun hS => ?_)
            have BF : Hid (Below Z.heap.size Z Z.drew) := (Below.refl _ _).drew
            revert hS BF
            generalize Z.drew = Y0
            intro hS BF
            refine wpAnyH_take (i := 0) (v := .pointer (some ⟨kb, 0, none⟩)) rfl (by kernel_rfl) (by kernel_rfl) (by kernel_rfl) (fun _ _ _ h => h) (Or.inl ⟨by kernel_rfl, fun w' hw' => by obtain ⟨q0, q1⟩ := hw'; go_simp⟩) hS ?_
            refine wpAnyH_take (i := 1) (v := .pointer (some ⟨kb, 0, none⟩)) rfl (by kernel_rfl) (by kernel_rfl) (by kernel_rfl) (fun _ _ _ h => h) (Or.inl ⟨by kernel_rfl, fun w' hw' => by obtain ⟨q0, q1⟩ := hw'; go_simp⟩) hS ?_
            refine wpAnyH_take (i := 2) (v := .pointer (some ⟨kb, 0, none⟩)) rfl (by kernel_rfl) (by kernel_rfl) (by kernel_rfl) (fun _ _ _ h => h) (Or.inl ⟨by kernel_rfl, fun w' hw' => by obtain ⟨q0, q1⟩ := hw'; go_simp⟩) hS ?_
            refine wpAnyH_take (i := 3) (v := .pointer (some ⟨kb, 5, none⟩)) rfl (by kernel_rfl) (by kernel_rfl) (by kernel_rfl) (fun _ _ _ h => h) (Or.inl ⟨by kernel_rfl, fun w' hw' => by obtain ⟨q0, q1⟩ := hw'; go_simp⟩) hS ?_
            refine wpAnyH_take (i := 4) (v := .slice sa seen.length sc) rfl (by kernel_rfl) (by kernel_rfl) (by kernel_rfl) (fun _ _ _ h => h) (Or.inl ⟨by kernel_rfl, fun w' hw' => by obtain ⟨q0, q1⟩ := hw'; go_simp⟩) hS ?_
            refine wpAnyH_take (i := 5) (v := .pointer (some ⟨pb, 1, none⟩)) rfl (by kernel_rfl) (by kernel_rfl) (by kernel_rfl) (fun _ _ _ h => h) (Or.inl ⟨by kernel_rfl, fun w' hw' => by obtain ⟨q0, q1⟩ := hw'; go_simp⟩) hS ?_
            refine wpAnyH_take (i := 6) (v := .int .i64 (e : Int)) rfl (by kernel_rfl) (by kernel_rfl) (by kernel_rfl) (fun _ _ _ h => h) (Or.inl ⟨by kernel_rfl, fun w' hw' => by obtain ⟨q0, q1⟩ := hw'; go_simp⟩) hS ?_
            simp only [Act.put, List.setIfInBounds_toArray]
            refine wpAnyH_ready (rs := [7]) (by kernel_rfl) (by simp) ?_
            refine AllReadyH.cons rfl (fun K' hK' => ?_) AllReadyH.nil
            clear hS
            go_simp
            have YB : Hid (Below w.heap.size w Y0) := (B.out.trans (ZX.out.bel.mono (by have := HMK.out; omega))).trans (BF.out.mono (Nat.le_trans B.out.size ZX.out.bel.size))
            refine (rowHas_any sa sc seen (e : Int) Y0 (hP.out.s.at_.below YB.out (Nat.le_refl _)) hP.out.s.len).mono ?_
            rintro e1 Y1 ⟨rfl, rfl⟩
            refine hK'.out _ _ (SA.out _ BF.out) (fun hS => ?_)
            clear hK' K' hS
            refine wpAnyH_done (by kernel_rfl) ?_ _
            replace ZK := Hid.of (ZK.out.below BF.out ZK.out.lt)
            replace ZX := Hid.of (ZX.out.below BF.out (Nat.le_of_lt HK.out.lt))
            replace WA := Hid.of (WA.out.below BF.out WA.out.lt)
            clear BF SA YB
            cases hsn : hasB seen (e : Int) with
            | false =>
              have HLD : Hid (ldT ⟨⟨st, ev, starts, ars, ends⟩, seen, secret⟩ (j + 1) = ldT ⟨⟨st, ev, starts, ars, ends⟩, seen, secret⟩ j) := ldT_no HAG.out hsn
              clear hsn
              rw [← HLD.out] at ZK
              go_wp2_with fail
              go_roundw
              case rel => exact ⟨j + 1, by go_num, by omega, ZK, ZX⟩
              case measure => simp [intOf]; omega
            | true =>
              have HLD : Hid (ldT ⟨⟨st, ev, starts, ars, ends⟩, seen, secret⟩ (j + 1) = fun q => if q = f * 8 + e then wideS ⟨⟨st, ev, starts, ars, ends⟩, seen, secret⟩ [(t : Int)] else ldT ⟨⟨st, ev, starts, ars, ends⟩, seen, secret⟩ j q) := by
                have := ldT_yes (p := ⟨⟨st, ev, starts, ars, ends⟩, seen, secret⟩) (a := ⟨(f : Int), (e : Int), (t : Int)⟩) HAG.out hsn
                dsimp only at this
                rw [Int.toNat_natCast, Int.toNat_natCast] at this
                exact this
              clear hsn
              obtain ⟨U, HUU⟩ : ∃ U, Hid (U = wideS ⟨⟨st, ev, starts, ars, ends⟩, seen, secret⟩ [(t : Int)]) := ⟨_, rfl⟩
              rw [← HUU.out] at HLD
              have YU : Hid (TU Y1 pu (unF ⟨⟨st, ev, starts, ars, ends⟩, seen, secret⟩ k)) := WU.out.same (ZX.out.oth pu HUS.out (by have := HKU.out; omega))
              have SA : Hid (∀ X, Blk X pb 81 #[.int .i64 (f : Int), .int .i64 (e : Int), .int .i64 (t : Int)] → TU X pu (unF ⟨⟨st, ev, starts, ars, ends⟩, seen, secret⟩ k) → X.cell? ⟨pb, 0, none⟩ = some (.int .i64 (f : Int)) ∧ X.cell? ⟨pb, 1, none⟩ = some (.int .i64 (e : Int)) ∧ X.cell? ⟨pb, 2, none⟩ = some (.int .i64 (t : Int)) ∧ X.cell? ⟨pu, t * 4, none⟩ = some (.int .u64 (U 0)) ∧ X.cell? ⟨pu, t * 4 + 1, none⟩ = some (.int .u64 (U 1)) ∧ X.cell? ⟨pu, t * 4 + 2, none⟩ = some (.int .u64 (U 2)) ∧ X.cell? ⟨pu, t * 4 + 3, none⟩ = some (.int .u64 (U 3))) := fun X h1 h2 => by
                obtain ⟨z0, z1, z2, z3⟩ := TU.cells h2 (n := t) (by omega)
                rw [unF_at _ htk, ← HUU.out] at z0 z1 z2 z3
                exact ⟨h1.cell 0 rfl, h1.cell 1 rfl, h1.cell 2 rfl, z0, z1, z2, z3⟩
              go_wp2_with fail
              refine wp_region_held_drew (S := fun w' => w'.cell? ⟨pb, 0, none⟩ = some (.int .i64 (f : Int)) ∧ w'.cell? ⟨pb, 1, none⟩ = some (.int .i64 (e : Int)) ∧ w'.cell? ⟨pb, 2, none⟩ = some (.int .i64 (t : Int)) ∧ w'.cell? ⟨pu, t * 4, none⟩ = some (.int .u64 (U 0)) ∧ w'.cell? ⟨pu, t * 4 + 1, none⟩ = some (.int .u64 (U 1)) ∧ w'.cell? ⟨pu, t * 4 + 2, none⟩ = some (.int .u64 (U 2)) ∧ w'.cell? ⟨pu, t * 4 + 3, none⟩ = some (.int .u64 (U 3))) (by kernel_rfl) (SA.out _ (Blk.drew WA.out) (YU.out.below (Below.refl _ _).drew)) (fun hS => ?_)
              replace ZK : Hid (KV Y1.drew kb ⟨⟨st, ev, starts, ars, ends⟩, seen, secret⟩ ⟨⟨a1, c1, some ⟨b, off, none⟩, c2, a3, c3⟩, sa, sc, ta, tc⟩ fa fc free R (ldT ⟨⟨st, ev, starts, ars, ends⟩, seen, secret⟩ j) mb) := ZK.out
              replace ZX : Hid (OthV kb wr Y1.drew) := ZX.out.below (Below.refl _ _).drew (Nat.le_of_lt HK.out.lt)
              replace WA : Hid (Blk Y1.drew pb 81 #[.int .i64 (f : Int), .int .i64 (e : Int), .int .i64 (t : Int)]) := Blk.drew WA.out
              replace YU : Hid (TU Y1.drew pu (unF ⟨⟨st, ev, starts, ars, ends⟩, seen, secret⟩ k)) := YU.out.below (Below.refl _ _).drew
              revert hS ZK ZX WA YU
              generalize Y1.drew = Y1
              intro hS ZK ZX WA YU
              refine wpAnyH_take (i := 0) (v := .pointer (some ⟨kb, 0, none⟩)) rfl (by kernel_rfl) (by kernel_rfl) (by kernel_rfl) (fun _ _ _ h => h) (Or.inl ⟨by kernel_rfl, fun w' hw' => by obtain ⟨q0, q1, q2, q3, q4, q5, q6⟩ := hw'; go_simp⟩) hS ?_
              refine wpAnyH_take (i := 1) (v := .pointer (some ⟨pb, 0, none⟩)) rfl (by kernel_rfl) (by kernel_rfl) (by kernel_rfl) (fun _ _ _ h => h) (Or.inl ⟨by kernel_rfl, fun w' hw' => by obtain ⟨q0, q1, q2, q3, q4, q5, q6⟩ := hw'; go_simp⟩) hS ?_
              refine wpAnyH_take (i := 2) (v := .int .i64 (f : Int)) rfl (by kernel_rfl) (by kernel_rfl) (by kernel_rfl) (fun _ _ _ h => h) (Or.inl ⟨by kernel_rfl, fun w' hw' => by obtain ⟨q0, q1, q2, q3, q4, q5, q6⟩ := hw'; go_simp⟩) hS ?_
              refine wpAnyH_take (i := 3) (v := .pointer (some ⟨pb, 1, none⟩)) rfl (by kernel_rfl) (by kernel_rfl) (by kernel_rfl) (fun _ _ _ h => h) (Or.inl ⟨by kernel_rfl, fun w' hw' => by obtain ⟨q0, q1, q2, q3, q4, q5, q6⟩ := hw'; go_simp⟩) hS ?_
              refine wpAnyH_take (i := 4) (v := .int .i64 (e : Int)) rfl (by kernel_rfl) (by kernel_rfl) (by kernel_rfl) (fun _ _ _ h => h) (Or.inl ⟨by kernel_rfl, fun w' hw' => by obtain ⟨q0, q1, q2, q3, q4, q5, q6⟩ := hw'; go_simp⟩) hS ?_
              refine wpAnyH_take (i := 5) (v := .pointer (some ⟨pb, 2, none⟩)) rfl (by kernel_rfl) (by kernel_rfl) (by kernel_rfl) (fun _ _ _ h => h) (Or.inl ⟨by kernel_rfl, fun w' hw' => by obtain ⟨q0, q1, q2, q3, q4, q5, q6⟩ := hw'; go_simp⟩) hS ?_
              refine wpAnyH_take (i := 6) (v := .int .i64 (t : Int)) rfl (by kernel_rfl) (by kernel_rfl) (by kernel_rfl) (fun _ _ _ h => h) (Or.inl ⟨by kernel_rfl, fun w' hw' => by obtain ⟨q0, q1, q2, q3, q4, q5, q6⟩ := hw'; go_simp⟩) hS ?_
              refine wpAnyH_take (i := 7) (v := .pointer (some ⟨pu, t * 4, none⟩)) rfl (by kernel_rfl) (by kernel_rfl) (by kernel_rfl) (fun _ _ _ h => h) (Or.inl ⟨by kernel_rfl, fun w' hw' => by obtain ⟨q0, q1, q2, q3, q4, q5, q6⟩ := hw'; go_simp⟩) hS ?_
              refine wpAnyH_take (i := 8) (v := sval U) rfl (by kernel_rfl) (by kernel_rfl) (by kernel_rfl) (fun _ _ _ h => h) (Or.inl ⟨by kernel_rfl, fun w' hw' => by obtain ⟨q0, q1, q2, q3, q4, q5, q6⟩ := hw'; go_simp⟩) hS ?_
              refine wpAnyH_take (i := 9) (v := .pointer (some ⟨kb, 0, none⟩)) rfl (by kernel_rfl) (by kernel_rfl) (by kernel_rfl) (fun _ _ _ h => h) (Or.inl ⟨by kernel_rfl, fun w' hw' => by obtain ⟨q0, q1, q2, q3, q4, q5, q6⟩ := hw'; go_simp⟩) hS ?_
              refine wpAnyH_take (i := 10) (v := .pointer (some ⟨kb, 12, none⟩)) rfl (by kernel_rfl) (by kernel_rfl) (by kernel_rfl) (fun _ _ _ h => h) (Or.inl ⟨by kernel_rfl, fun w' hw' => by obtain ⟨q0, q1, q2, q3, q4, q5, q6⟩ := hw'; go_simp⟩) hS ?_
              refine wpAnyH_take (i := 11) (v := .pointer (some ⟨kb, 12 + f * 32, none⟩)) rfl (by kernel_rfl) (by kernel_rfl) (by kernel_rfl) (fun _ _ _ h => h) (Or.inl ⟨by kernel_rfl, fun w' hw' => by obtain ⟨q0, q1, q2, q3, q4, q5, q6⟩ := hw'; go_simp⟩) hS ?_
              refine wpAnyH_take (i := 12) (v := .pointer (some ⟨kb, 12 + f * 32 + e * 4, none⟩)) rfl (by kernel_rfl) (by kernel_rfl) (by kernel_rfl) (fun _ _ _ h => h) (Or.inl ⟨by kernel_rfl, fun w' hw' => by obtain ⟨q0, q1, q2, q3, q4, q5, q6⟩ := hw'; go_simp⟩) hS ?_
              simp only [Act.put, List.setIfInBounds_toArray]
              refine wpAnyH_ready (rs := [13]) (by kernel_rfl) (by simp) ?_
              refine AllReadyH.cons rfl (fun K' hK' => ?_) AllReadyH.nil
              clear hS
              have fz := ZK.out.frozen
              have uu := ZK.out.lead (n := f) (e := e) hf6 he8
              have u0 := uu.1
              have u1 := uu.2.1
              have u2 := uu.2.2.1
              have u3 := uu.2.2.2
              clear uu
              go_simp
              have N1 : Hid (KV ((((Y1.setCell ⟨kb, 12 + f * 32 + e * 4, none⟩ (.int .u64 (U 0))).setCell ⟨kb, 12 + f * 32 + e * 4 + 1, none⟩ (.int .u64 (U 1))).setCell ⟨kb, 12 + f * 32 + e * 4 + 2, none⟩ (.int .u64 (U 2))).setCell ⟨kb, 12 + f * 32 + e * 4 + 3, none⟩ (.int .u64 (U 3))) kb ⟨⟨st, ev, starts, ars, ends⟩, seen, secret⟩ ⟨⟨a1, c1, some ⟨b, off, none⟩, c2, a3, c3⟩, sa, sc, ta, tc⟩ fa fc free R (ldT ⟨⟨st, ev, starts, ars, ends⟩, seen, secret⟩ (j + 1)) mb) := by
                have h := ZK.out.store (n := f) (e := e) hf6 he8 U
                show KV _ _ _ _ _ _ _ _ _ _
                rw [HLD.out]; exact h
              have N2 := Hid.of (ZX.out.set4at (12 + f * 32 + e * 4) (.int .u64 (U 0)) (.int .u64 (U 1)) (.int .u64 (U 2)) (.int .u64 (U 3)))
              have NA : Blk ((((Y1.setCell ⟨kb, 12 + f * 32 + e * 4, none⟩ (.int .u64 (U 0))).setCell ⟨kb, 12 + f * 32 + e * 4 + 1, none⟩ (.int .u64 (U 1))).setCell ⟨kb, 12 + f * 32 + e * 4 + 2, none⟩ (.int .u64 (U 2))).setCell ⟨kb, 12 + f * 32 + e * 4 + 3, none⟩ (.int .u64 (U 3))) pb 81 #[.int .i64 (f : Int), .int .i64 (e : Int), .int .i64 (t : Int)] := (heap_set4V Y1 (by have := HPB.out; omega) (12 + f * 32 + e * 4) _ _ _ _).trans WA.out
              have NU : TU ((((Y1.setCell ⟨kb, 12 + f * 32 + e * 4, none⟩ (.int .u64 (U 0))).setCell ⟨kb, 12 + f * 32 + e * 4 + 1, none⟩ (.int .u64 (U 1))).setCell ⟨kb, 12 + f * 32 + e * 4 + 2, none⟩ (.int .u64 (U 2))).setCell ⟨kb, 12 + f * 32 + e * 4 + 3, none⟩ (.int .u64 (U 3))) pu (unF ⟨⟨st, ev, starts, ars, ends⟩, seen, secret⟩ k) := YU.out.same (heap_set4V Y1 (by have := HKU.out; omega) (12 + f * 32 + e * 4) _ _ _ _)
              refine hK'.out _ _ (SA.out _ NA NU) (fun hS => ?_)
              clear hK' K' hS fz u0 u1 u2 u3 NA NU
              refine wpAnyH_done (by kernel_rfl) ?_ _
              clear SA ZK ZX WA YU
              go_wp2_with fail
              go_roundw
              case rel => exact ⟨j + 1, by go_num, by omega, N1, N2⟩
              case measure => simp [intOf]; omega
          · have hje : j = ars.length := by omega
            subst hje
            clear hlt
            have LB : Hid (Below w.heap.size w wl) := B.out.trans (LX.out.bel.mono (by have := HMK.out; omega))
            have LM : Hid (wl.heap[mb]? = some (.map #[] 0)) := (LX.out.oth mb HMS.out (by have := HMK.out; omega)).trans HM.out
            have HTV : Hid (TabV ⟨⟨st, ev, starts, ars, ends⟩, seen, secret⟩ (ldT ⟨⟨st, ev, starts, ars, ends⟩, seen, secret⟩ ars.length)) := ld_tab hp.out hpl.out
            go_wp2_with fail
            refine (kfind_any ⟨⟨st, ev, starts, ars, ends⟩, seen, secret⟩ ⟨a1, c1, a2, c2, a3, c3⟩ sa sc ta tc fa fc free R (ldT ⟨⟨st, ev, starts, ars, ends⟩, seen, secret⟩ ars.length) mb kb k g hp hpl hg hfr HTV HRep hN wl LK LM (Hid.of (hP.out.below LB.out (Nat.le_refl _))) (Hid.of (hF.out.below LB.out (Nat.le_refl _))) hFl (Hid.of (hT.out.below LB.out hT.out.lt))).mono ?_
            rintro e1 Y1 ⟨rfl, LS, lS, c, hmm, hkv, hox⟩
            have HMM2 := Hid.of hmm
            have HKV2 := Hid.of hkv
            have HOX := Hid.of hox
            clear hmm hkv hox
            go_wp2_with fail
            go_ret
            exact ⟨kb, mb, R, _, LS, lS, c, rfl, LK.out.same (HOX.out.oth kb LK.out.lt (by have := HMK.out; omega)), HMM2.out, HKV2.out, LB.out.trans (HOX.out.bel.mono (Nat.le_of_lt HWM.out))⟩

end Go.Proofs.YtmlkpdeidpcidaaDoor
