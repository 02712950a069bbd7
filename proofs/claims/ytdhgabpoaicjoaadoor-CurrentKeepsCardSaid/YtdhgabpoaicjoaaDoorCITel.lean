/-
  The walks of initial.all, of initial.teller and of teller's closure.
-/
import Derived.Test.YtdhgabpoaicjoaaDoorG30
import Derived.Test.YtdhgabpoaicjoaaDoorG07
import Derived.Test.YtdhgabpoaicjoaaDoorG33
import Derived.Test.YtdhgabpoaicjoaaDoorG10
import Derived.Test.YtdhgabpoaicjoaaDoorCSetOps
import Derived.Test.YtdhgabpoaicjoaaDoorG12
import Derived.Deep.RegionHeld3
namespace Go.Proofs.YtdhgabpoaicjoaaDoor
open Go.RowKit
set_option linter.unusedVariables false

set_option maxRecDepth 100000 in
set_option maxHeartbeats 4000000 in
theorem iall_any (p : Plant) (P : PTL) (N : Nat) (hN : Hid (p.m.st = (N : Int))) (h256 : N ≤ 256) (w : World) :
    Calls Tryd.prog 91 #[ptval p P] w fun e w' => e = .returned (sval (allF N)) ∧ Below w.heap.size w w' := by
  have B : Hid (Below w.heap.size w (((w.alloc (.cells (ptcells p P) 50)).alloc (.cells zs4 65)).alloc (.cells zs4 65))) := (((Below.refl _ _).alloc (Nat.le_refl _) _).alloc (by simp) _).alloc (by simp; omega) _
  have KP : Hid (Blk (((w.alloc (.cells (ptcells p P) 50)).alloc (.cells zs4 65)).alloc (.cells zs4 65)) w.heap.size 50 (ptcells p P)) := ((Blk.new w _ _).alloc _).alloc _
  have KR : Hid (SB (((w.alloc (.cells (ptcells p P) 50)).alloc (.cells zs4 65)).alloc (.cells zs4 65)) (w.heap.size + 1) zeroS) := by
    have := (Blk.new (w.alloc (.cells (ptcells p P) 50)) 65 zs4).alloc (.cells zs4 65)
    rwa [World.size_alloc] at this
  have KS : Hid (SB (((w.alloc (.cells (ptcells p P) 50)).alloc (.cells zs4 65)).alloc (.cells zs4 65)) (w.heap.size + 1 + 1) (allF 0)) := by
    have := Blk.new ((w.alloc (.cells (ptcells p P) 50)).alloc (.cells zs4 65)) 65 zs4
    rwa [World.size_alloc, World.size_alloc] at this
  go_enter Tryd.func91, Tryd.ntmps91
  have x0 : (((w.alloc (.cells (ptcells p P) 50)).alloc (.cells zs4 65)).alloc (.cells zs4 65)).cell? ⟨w.heap.size, 0, none⟩ = some (.int .i64 (N : Int)) := by rw [← hN.out]; exact KP.out.cell 0 rfl
  go_wp2_with fail
  clear x0
  revert B KP KR KS
  generalize (((w.alloc (.cells (ptcells p P) 50)).alloc (.cells zs4 65)).alloc (.cells zs4 65)) = V0
  intro B KP KR KS
  go_loopw [8] (fun i wr => ∃ k : Nat, k ≤ N ∧ i = .int .i64 k ∧ Hid (SB wr (w.heap.size + 1 + 1) (allF k)) ∧ Hid (Below (w.heap.size + 1 + 1) V0 wr)) (fun i _ => N - (intOf i).toNat)
  case atStart => exact ⟨0, Nat.zero_le _, rfl, KS, Below.refl _ _⟩
  case round =>
    clear KS
    obtain ⟨k, hk, rfl, LS, LB⟩ := hrel
    obtain ⟨Q, HQ⟩ : ∃ Q, Hid (Q = allF k) := ⟨_, rfl⟩
    have hok : Hid (okS Q) := by show okS Q; rw [HQ.out]; exact ok_allF k
    rw [← HQ.out] at LS
    by_cases hlt : k < N
    · obtain ⟨s0, s1, s2, s3⟩ := SB.cells LS.out
      go_wp2_with fail
      refine (with_any Q (k : Int) _ hok.out (by omega) (by omega)).mono ?_
      rintro e w1 ⟨rfl, hb⟩
      rw [Int.toNat_natCast]
      have L1 := Hid.of (LS.out.below hb LS.out.lt)
      have B1 := Hid.of (LB.out.trans (hb.mono (Nat.le_trans (Nat.le_of_lt LS.out.lt) (Nat.le_refl _))))
      clear s0 s1 s2 s3 hb
      have fz := L1.out.frozen
      obtain ⟨s0, s1, s2, s3⟩ := SB.cells L1.out
      have L2 := Hid.of (SB.set4 L1.out (withS Q k))
      have B2 := Hid.of (below_set4 B1.out (b' := w.heap.size + 1 + 1) (Nat.le_refl _) (.int .u64 (withS Q k 0)) (.int .u64 (withS Q k 1)) (.int .u64 (withS Q k 2)) (.int .u64 (withS Q k 3)))
      go_wp2_with fail
      go_roundw
      case rel => exact ⟨k + 1, by omega, by go_num, by rw [allF_succ, ← HQ.out]; exact L2, B2⟩
      case measure => simp [intOf]; omega
    · have hk2 : N ≤ k := by omega
      have HK : Hid (k = N) := by show k = N; omega
      clear hlt
      have BW := Hid.of (B.out.trans (LB.out.mono (by omega)))
      have RW := Hid.of (KR.out.below LB.out (by omega))
      obtain ⟨s0, s1, s2, s3⟩ := SB.cells LS.out
      obtain ⟨r0, r1, r2, r3⟩ := SB.cells RW.out
      have rz := RW.out.frozen
      have RR := Hid.of (SB.set4 RW.out Q)
      have BB := Hid.of (below_set4 BW.out (b' := w.heap.size + 1) (by omega) (.int .u64 (Q 0)) (.int .u64 (Q 1)) (.int .u64 (Q 2)) (.int .u64 (Q 3)))
      go_wp2_with fail
      clear r0 r1 r2 r3 s0 s1 s2 s3
      obtain ⟨r0, r1, r2, r3⟩ := SB.cells RR.out
      refine bodyPost_ret (v := sval Q) ?_ rfl ⟨by rw [HQ.out, HK.out], BB.out⟩
      simp [results, go_sem, r0, r1, r2, r3]

/-- The closure that tells whether a set tells the beginning. -/
abbrev tellV (p3 p4 : Nat) : Value := .func (.func 129) #[] #[.pointer (some ⟨p3, 0, none⟩), .pointer (some ⟨p4, 0, none⟩)]

set_option maxRecDepth 100000 in
set_option maxHeartbeats 16000000 in
theorem iteller_any (p : Plant) (Pl : ML) (sa : Option Addr) (sc : Nat) (ta : Option Addr) (tc : Nat) (w : World) (h : Hid (PAt w p ⟨Pl, sa, sc, ta, tc⟩)) (hp : Hid (mayP p = true)) :
    Calls Tryd.prog 94 #[ptval p ⟨Pl, sa, sc, ta, tc⟩] w fun e w' => ∃ p3 p4, e = .returned (tellV p3 p4) ∧ SB w' p3 (ofS p.m.starts) ∧ SB w' p4 (ofS p.secret) ∧ Below w.heap.size w w' := by
  have hmf : ∀ (fn : Fn) (first cap : Array Value) (w : World), (Instr.makeFunc fn first cap).run Tryd.prog w = .ok (.func fn first cap) w := fun _ _ _ _ => rfl
  obtain ⟨hm, z6, -, hr⟩ := (mayP_iff p).1 hp.out
  have hz := mayB_size hm
  unfold sizeOk at hz
  obtain ⟨T0, HT0⟩ : ∃ T, Hid (T = ofS p.m.starts) := ⟨_, rfl⟩
  obtain ⟨R0, HR0⟩ : ∃ T, Hid (T = ofS p.secret) := ⟨_, rfl⟩
  have OF1 : Hid (∀ Y, Below w.heap.size w Y → Calls Tryd.prog 56 #[.slice Pl.a1 p.m.starts.length Pl.c1] Y fun e Y' => e = .returned (sval T0) ∧ Below Y.heap.size Y Y') := fun Y hb => by
    rw [HT0.out]
    exact of_any Pl.a1 Pl.c1 p.m.starts Y (h.out.m.s.below hb (Nat.le_refl _)) (Nat.le_trans h.out.m.s1 h.out.m.s2) (fun x hx => by have := (may_starts hm).2 x hx; omega)
  have OF2 : Hid (∀ Y, Below w.heap.size w Y → Calls Tryd.prog 56 #[.slice ta p.secret.length tc] Y fun e Y' => e = .returned (sval R0) ∧ Below Y.heap.size Y Y') := fun Y hb => by
    rw [HR0.out]
    exact of_any ta tc p.secret Y (h.out.t.at_.below hb (Nat.le_refl _)) h.out.t.len (fun x hx => by have := ((rowB_iff _ (by omega) _).1 hr).2 x hx; omega)
  clear hm z6 hr hz
  have B : Hid (Below w.heap.size w (w.alloc (.cells (ptcells p ⟨Pl, sa, sc, ta, tc⟩) 50))) := (Below.refl _ _).alloc (Nat.le_refl _) _
  have KP : Hid (Blk (w.alloc (.cells (ptcells p ⟨Pl, sa, sc, ta, tc⟩) 50)) w.heap.size 50 (ptcells p ⟨Pl, sa, sc, ta, tc⟩)) := Blk.new w _ _
  have SA : Hid (∀ W, Blk W w.heap.size 50 (ptcells p ⟨Pl, sa, sc, ta, tc⟩) → W.cell? ⟨w.heap.size, 2, none⟩ = some (.slice Pl.a1 p.m.starts.length Pl.c1) ∧ W.cell? ⟨w.heap.size, 6, none⟩ = some (.slice ta p.secret.length tc)) := fun W h1 => ⟨h1.cell 2 rfl, h1.cell 6 rfl⟩
  go_enter Tryd.func94, Tryd.ntmps94
  go_wp2_with fail
  revert B KP
  generalize (w.alloc (.cells (ptcells p ⟨Pl, sa, sc, ta, tc⟩) 50)) = V0
  intro B KP
  refine wp_region_held_drew (S := fun w' => w'.cell? ⟨w.heap.size, 2, none⟩ = some (.slice Pl.a1 p.m.starts.length Pl.c1) ∧ w'.cell? ⟨w.heap.size, 6, none⟩ = some (.slice ta p.secret.length tc)) (by kernel_rfl) (SA.out _ (Blk.drew KP.out)) (fun hS => ?_)
  replace B : Hid (Below w.heap.size w V0.drew) := B.out.drew
  replace KP : Hid (Blk V0.drew w.heap.size 50 (ptcells p ⟨Pl, sa, sc, ta, tc⟩)) := Blk.drew KP.out
  revert hS B KP
  generalize V0.drew = Y0
  intro hS B KP
  refine wpAnyH_take (i := 0) (v := .pointer (some ⟨w.heap.size, 0, none⟩)) rfl (by kernel_rfl) (by kernel_rfl) (by kernel_rfl) (fun _ _ _ h => h) (Or.inl ⟨by kernel_rfl, fun w' hw' => by obtain ⟨q0, q1⟩ := hw'; go_simp⟩) hS ?_
  refine wpAnyH_take (i := 1) (v := .pointer (some ⟨w.heap.size, 2, none⟩)) rfl (by kernel_rfl) (by kernel_rfl) (by kernel_rfl) (fun _ _ _ h => h) (Or.inl ⟨by kernel_rfl, fun w' hw' => by obtain ⟨q0, q1⟩ := hw'; go_simp⟩) hS ?_
  refine wpAnyH_take (i := 2) (v := .slice Pl.a1 p.m.starts.length Pl.c1) rfl (by kernel_rfl) (by kernel_rfl) (by kernel_rfl) (fun _ _ _ h => h) (Or.inl ⟨by kernel_rfl, fun w' hw' => by obtain ⟨q0, q1⟩ := hw'; go_simp⟩) hS ?_
  refine wpAnyH_take (i := 4) (v := .pointer (some ⟨w.heap.size, 6, none⟩)) rfl (by kernel_rfl) (by kernel_rfl) (by kernel_rfl) (fun _ _ _ h => h) (Or.inl ⟨by kernel_rfl, fun w' hw' => by obtain ⟨q0, q1⟩ := hw'; go_simp⟩) hS ?_
  refine wpAnyH_take (i := 5) (v := .slice ta p.secret.length tc) rfl (by kernel_rfl) (by kernel_rfl) (by kernel_rfl) (fun _ _ _ h => h) (Or.inl ⟨by kernel_rfl, fun w' hw' => by obtain ⟨q0, q1⟩ := hw'; go_simp⟩) hS ?_
  simp only [Act.put, List.setIfInBounds_toArray]
  refine wpAnyH_ready (rs := [3, 7, 8]) (by kernel_rfl) (by simp) ?_
  refine AllReadyH.cons rfl (fun K' hK' => ?_) (AllReadyH.cons rfl (fun K' hK' => ?_) (AllReadyH.cons rfl (fun K' hK' => ?_) AllReadyH.nil))
  · clear hS
    go_simp
    refine (OF1.out Y0 B.out).mono ?_
    rintro e Y1 ⟨rfl, hb⟩
    replace B := Hid.of (B.out.trans (hb.mono B.out.size))
    replace KP := Hid.of (KP.out.below hb KP.out.lt)
    refine hK'.out _ _ (SA.out _ KP.out) (fun hS => ?_)
    clear hK' K' hb
    refine wpAnyH_ready (rs := [6, 7, 8]) (by kernel_rfl) (by simp) ?_
    refine AllReadyH.cons rfl (fun K' hK' => ?_) (AllReadyH.cons rfl (fun K' hK' => ?_) (AllReadyH.cons rfl (fun K' hK' => ?_) AllReadyH.nil))
    · clear hS
      go_simp
      refine (OF2.out Y1 B.out).mono ?_
      rintro e Y2 ⟨rfl, hb⟩
      replace B := Hid.of (B.out.trans (hb.mono B.out.size))
      replace KP := Hid.of (KP.out.below hb KP.out.lt)
      refine hK'.out _ _ (SA.out _ KP.out) (fun hS => ?_)
      clear hK' K' hb
      refine wpAnyH_ready (rs := [7, 8]) (by kernel_rfl) (by simp) ?_
      refine AllReadyH.cons rfl (fun K' hK' => ?_) (AllReadyH.cons rfl (fun K' hK' => ?_) AllReadyH.nil)
      · clear hS
        go_simp
        have hb : Below Y2.heap.size Y2 (Y2.alloc (.cells zs4 65)) := (Below.refl _ _).alloc (Nat.le_refl _) _
        have P3 := Hid.of (Nat.succ_le_of_lt KP.out.lt)
        replace B := Hid.of (B.out.trans (hb.mono B.out.size))
        replace KP := Hid.of (KP.out.below hb KP.out.lt)
        have K3 := Hid.of (Blk.new Y2 65 zs4)
        refine hK'.out _ _ (SA.out _ KP.out) (fun hS => ?_)
        clear hK' K' hb
        revert P3 B KP K3 hS
        generalize Y2.alloc (.cells zs4 65) = Y3
        generalize Y2.heap.size = p3
        intro P3 B KP K3 hS
        refine wpAnyH_ready (rs := [8]) (by kernel_rfl) (by simp) ?_
        refine AllReadyH.cons rfl (fun K' hK' => ?_) AllReadyH.nil
        clear hS
        go_simp
        have hb : Below Y3.heap.size Y3 (Y3.alloc (.cells zs4 65)) := (Below.refl _ _).alloc (Nat.le_refl _) _
        have P4 := Hid.of (Nat.succ_le_of_lt KP.out.lt)
        have N34 := Hid.of (Nat.ne_of_lt K3.out.lt)
        replace B := Hid.of (B.out.trans (hb.mono B.out.size))
        replace KP := Hid.of (KP.out.below hb KP.out.lt)
        replace K3 := Hid.of (K3.out.below hb K3.out.lt)
        have K4 := Hid.of (Blk.new Y3 65 zs4)
        refine hK'.out _ _ (SA.out _ KP.out) (fun hS => ?_)
        clear hK' K' hb
        revert P4 N34 B KP K3 K4 hS
        generalize Y3.alloc (.cells zs4 65) = Y4
        generalize Y3.heap.size = p4
        intro P4 N34 B KP K3 K4 hS
        refine wpAnyH_ready (rs := [9]) (by kernel_rfl) (by simp) ?_
        refine AllReadyH.cons rfl (fun K' hK' => ?_) AllReadyH.nil
        have fz := K3.out.frozen
        obtain ⟨r0, r1, r2, r3⟩ := SB.cells (show SB _ p3 zeroS from K3.out)
        go_simp
        replace B := Hid.of (below_set4 B.out (b' := p3) (show w.heap.size ≤ p3 by have := P3.out; omega) (.int .u64 (T0 0)) (.int .u64 (T0 1)) (.int .u64 (T0 2)) (.int .u64 (T0 3)))
        replace KP := Hid.of (Blk.other4 KP.out (b' := p3) (show w.heap.size ≠ p3 by have := P3.out; omega) (.int .u64 (T0 0)) (.int .u64 (T0 1)) (.int .u64 (T0 2)) (.int .u64 (T0 3)))
        replace K4 := Hid.of (Blk.other4 K4.out (b' := p3) (Ne.symm N34.out) (.int .u64 (T0 0)) (.int .u64 (T0 1)) (.int .u64 (T0 2)) (.int .u64 (T0 3)))
        replace K3 := Hid.of (SB.set4 (show SB _ p3 zeroS from K3.out) T0)
        refine hK'.out _ _ (SA.out _ KP.out) (fun hS6 => ?_)
        clear hK' K' fz r0 r1 r2 r3 hS
        refine wpAnyH_ready (rs := [10]) (by kernel_rfl) (by simp) ?_
        refine AllReadyH.cons rfl (fun K' hK' => ?_) AllReadyH.nil
        have fz := K4.out.frozen
        obtain ⟨r0, r1, r2, r3⟩ := SB.cells (show SB _ p4 zeroS from K4.out)
        go_simp
        replace B := Hid.of (below_set4 B.out (b' := p4) (show w.heap.size ≤ p4 by have := P4.out; omega) (.int .u64 (R0 0)) (.int .u64 (R0 1)) (.int .u64 (R0 2)) (.int .u64 (R0 3)))
        replace KP := Hid.of (Blk.other4 KP.out (b' := p4) (show w.heap.size ≠ p4 by have := P4.out; omega) (.int .u64 (R0 0)) (.int .u64 (R0 1)) (.int .u64 (R0 2)) (.int .u64 (R0 3)))
        replace K3 := Hid.of (Blk.other4 K3.out (b' := p4) N34.out (.int .u64 (R0 0)) (.int .u64 (R0 1)) (.int .u64 (R0 2)) (.int .u64 (R0 3)))
        replace K4 := Hid.of (SB.set4 (show SB _ p4 zeroS from K4.out) R0)
        refine hK'.out _ _ (SA.out _ KP.out) (fun hS7 => ?_)
        clear hK' K' fz r0 r1 r2 r3 hS6
        refine wpAnyH_done (by kernel_rfl) ?_ _
        clear hS7
        go_wp2_with fail
        exact bodyPost_ret (v := tellV p3 p4) (by simp [results, go_sem]) rfl ⟨p3, p4, rfl, HT0.out ▸ K3.out, HR0.out ▸ K4.out, B.out⟩
      · clear hS
        go_simp
        have hb : Below Y2.heap.size Y2 (Y2.alloc (.cells zs4 65)) := (Below.refl _ _).alloc (Nat.le_refl _) _
        have P4 := Hid.of (Nat.succ_le_of_lt KP.out.lt)
        replace B := Hid.of (B.out.trans (hb.mono B.out.size))
        replace KP := Hid.of (KP.out.below hb KP.out.lt)
        have K4 := Hid.of (Blk.new Y2 65 zs4)
        refine hK'.out _ _ (SA.out _ KP.out) (fun hS => ?_)
        clear hK' K' hb
        revert P4 B KP K4 hS
        generalize Y2.alloc (.cells zs4 65) = Y5
        generalize Y2.heap.size = p4
        intro P4 B KP K4 hS
        refine wpAnyH_ready (rs := [7]) (by kernel_rfl) (by simp) ?_
        refine AllReadyH.cons rfl (fun K' hK' => ?_) AllReadyH.nil
        clear hS
        go_simp
        have hb : Below Y5.heap.size Y5 (Y5.alloc (.cells zs4 65)) := (Below.refl _ _).alloc (Nat.le_refl _) _
        have P3 := Hid.of (Nat.succ_le_of_lt KP.out.lt)
        have N34 := Hid.of (Nat.ne_of_gt K4.out.lt)
        replace B := Hid.of (B.out.trans (hb.mono B.out.size))
        replace KP := Hid.of (KP.out.below hb KP.out.lt)
        replace K4 := Hid.of (K4.out.below hb K4.out.lt)
        have K3 := Hid.of (Blk.new Y5 65 zs4)
        refine hK'.out _ _ (SA.out _ KP.out) (fun hS => ?_)
        clear hK' K' hb
        revert P3 N34 B KP K4 K3 hS
        generalize Y5.alloc (.cells zs4 65) = Y6
        generalize Y5.heap.size = p3
        intro P3 N34 B KP K4 K3 hS
        refine wpAnyH_ready (rs := [9]) (by kernel_rfl) (by simp) ?_
        refine AllReadyH.cons rfl (fun K' hK' => ?_) AllReadyH.nil
        have fz := K3.out.frozen
        obtain ⟨r0, r1, r2, r3⟩ := SB.cells (show SB _ p3 zeroS from K3.out)
        go_simp
        replace B := Hid.of (below_set4 B.out (b' := p3) (show w.heap.size ≤ p3 by have := P3.out; omega) (.int .u64 (T0 0)) (.int .u64 (T0 1)) (.int .u64 (T0 2)) (.int .u64 (T0 3)))
        replace KP := Hid.of (Blk.other4 KP.out (b' := p3) (show w.heap.size ≠ p3 by have := P3.out; omega) (.int .u64 (T0 0)) (.int .u64 (T0 1)) (.int .u64 (T0 2)) (.int .u64 (T0 3)))
        replace K4 := Hid.of (Blk.other4 K4.out (b' := p3) (Ne.symm N34.out) (.int .u64 (T0 0)) (.int .u64 (T0 1)) (.int .u64 (T0 2)) (.int .u64 (T0 3)))
        replace K3 := Hid.of (SB.set4 (show SB _ p3 zeroS from K3.out) T0)
        refine hK'.out _ _ (SA.out _ KP.out) (fun hS6 => ?_)
        clear hK' K' fz r0 r1 r2 r3 hS
        refine wpAnyH_ready (rs := [10]) (by kernel_rfl) (by simp) ?_
        refine AllReadyH.cons rfl (fun K' hK' => ?_) AllReadyH.nil
        have fz := K4.out.frozen
        obtain ⟨r0, r1, r2, r3⟩ := SB.cells (show SB _ p4 zeroS from K4.out)
        go_simp
        replace B := Hid.of (below_set4 B.out (b' := p4) (show w.heap.size ≤ p4 by have := P4.out; omega) (.int .u64 (R0 0)) (.int .u64 (R0 1)) (.int .u64 (R0 2)) (.int .u64 (R0 3)))
        replace KP := Hid.of (Blk.other4 KP.out (b' := p4) (show w.heap.size ≠ p4 by have := P4.out; omega) (.int .u64 (R0 0)) (.int .u64 (R0 1)) (.int .u64 (R0 2)) (.int .u64 (R0 3)))
        replace K3 := Hid.of (Blk.other4 K3.out (b' := p4) N34.out (.int .u64 (R0 0)) (.int .u64 (R0 1)) (.int .u64 (R0 2)) (.int .u64 (R0 3)))
        replace K4 := Hid.of (SB.set4 (show SB _ p4 zeroS from K4.out) R0)
        refine hK'.out _ _ (SA.out _ KP.out) (fun hS7 => ?_)
        clear hK' K' fz r0 r1 r2 r3 hS6
        refine wpAnyH_done (by kernel_rfl) ?_ _
        clear hS7
        go_wp2_with fail
        exact bodyPost_ret (v := tellV p3 p4) (by simp [results, go_sem]) rfl ⟨p3, p4, rfl, HT0.out ▸ K3.out, HR0.out ▸ K4.out, B.out⟩
    · clear hS
      go_simp
      have hb : Below Y1.heap.size Y1 (Y1.alloc (.cells zs4 65)) := (Below.refl _ _).alloc (Nat.le_refl _) _
      have P3 := Hid.of (Nat.succ_le_of_lt KP.out.lt)
      replace B := Hid.of (B.out.trans (hb.mono B.out.size))
      replace KP := Hid.of (KP.out.below hb KP.out.lt)
      have K3 := Hid.of (Blk.new Y1 65 zs4)
      refine hK'.out _ _ (SA.out _ KP.out) (fun hS => ?_)
      clear hK' K' hb
      revert P3 B KP K3 hS
      generalize Y1.alloc (.cells zs4 65) = Y7
      generalize Y1.heap.size = p3
      intro P3 B KP K3 hS
      refine wpAnyH_ready (rs := [6, 8]) (by kernel_rfl) (by simp) ?_
      refine AllReadyH.cons rfl (fun K' hK' => ?_) (AllReadyH.cons rfl (fun K' hK' => ?_) AllReadyH.nil)
      · clear hS
        go_simp
        refine (OF2.out Y7 B.out).mono ?_
        rintro e Y8 ⟨rfl, hb⟩
        replace B := Hid.of (B.out.trans (hb.mono B.out.size))
        replace KP := Hid.of (KP.out.below hb KP.out.lt)
        replace K3 := Hid.of (K3.out.below hb K3.out.lt)
        refine hK'.out _ _ (SA.out _ KP.out) (fun hS => ?_)
        clear hK' K' hb
        refine wpAnyH_ready (rs := [8]) (by kernel_rfl) (by simp) ?_
        refine AllReadyH.cons rfl (fun K' hK' => ?_) AllReadyH.nil
        clear hS
        go_simp
        have hb : Below Y8.heap.size Y8 (Y8.alloc (.cells zs4 65)) := (Below.refl _ _).alloc (Nat.le_refl _) _
        have P4 := Hid.of (Nat.succ_le_of_lt KP.out.lt)
        have N34 := Hid.of (Nat.ne_of_lt K3.out.lt)
        replace B := Hid.of (B.out.trans (hb.mono B.out.size))
        replace KP := Hid.of (KP.out.below hb KP.out.lt)
        replace K3 := Hid.of (K3.out.below hb K3.out.lt)
        have K4 := Hid.of (Blk.new Y8 65 zs4)
        refine hK'.out _ _ (SA.out _ KP.out) (fun hS => ?_)
        clear hK' K' hb
        revert P4 N34 B KP K3 K4 hS
        generalize Y8.alloc (.cells zs4 65) = Y9
        generalize Y8.heap.size = p4
        intro P4 N34 B KP K3 K4 hS
        refine wpAnyH_ready (rs := [9]) (by kernel_rfl) (by simp) ?_
        refine AllReadyH.cons rfl (fun K' hK' => ?_) AllReadyH.nil
        have fz := K3.out.frozen
        obtain ⟨r0, r1, r2, r3⟩ := SB.cells (show SB _ p3 zeroS from K3.out)
        go_simp
        replace B := Hid.of (below_set4 B.out (b' := p3) (show w.heap.size ≤ p3 by have := P3.out; omega) (.int .u64 (T0 0)) (.int .u64 (T0 1)) (.int .u64 (T0 2)) (.int .u64 (T0 3)))
        replace KP := Hid.of (Blk.other4 KP.out (b' := p3) (show w.heap.size ≠ p3 by have := P3.out; omega) (.int .u64 (T0 0)) (.int .u64 (T0 1)) (.int .u64 (T0 2)) (.int .u64 (T0 3)))
        replace K4 := Hid.of (Blk.other4 K4.out (b' := p3) (Ne.symm N34.out) (.int .u64 (T0 0)) (.int .u64 (T0 1)) (.int .u64 (T0 2)) (.int .u64 (T0 3)))
        replace K3 := Hid.of (SB.set4 (show SB _ p3 zeroS from K3.out) T0)
        refine hK'.out _ _ (SA.out _ KP.out) (fun hS6 => ?_)
        clear hK' K' fz r0 r1 r2 r3 hS
        refine wpAnyH_ready (rs := [10]) (by kernel_rfl) (by simp) ?_
        refine AllReadyH.cons rfl (fun K' hK' => ?_) AllReadyH.nil
        have fz := K4.out.frozen
        obtain ⟨r0, r1, r2, r3⟩ := SB.cells (show SB _ p4 zeroS from K4.out)
        go_simp
        replace B := Hid.of (below_set4 B.out (b' := p4) (show w.heap.size ≤ p4 by have := P4.out; omega) (.int .u64 (R0 0)) (.int .u64 (R0 1)) (.int .u64 (R0 2)) (.int .u64 (R0 3)))
        replace KP := Hid.of (Blk.other4 KP.out (b' := p4) (show w.heap.size ≠ p4 by have := P4.out; omega) (.int .u64 (R0 0)) (.int .u64 (R0 1)) (.int .u64 (R0 2)) (.int .u64 (R0 3)))
        replace K3 := Hid.of (Blk.other4 K3.out (b' := p4) N34.out (.int .u64 (R0 0)) (.int .u64 (R0 1)) (.int .u64 (R0 2)) (.int .u64 (R0 3)))
        replace K4 := Hid.of (SB.set4 (show SB _ p4 zeroS from K4.out) R0)
        refine hK'.out _ _ (SA.out _ KP.out) (fun hS7 => ?_)
        clear hK' K' fz r0 r1 r2 r3 hS6
        refine wpAnyH_done (by kernel_rfl) ?_ _
        clear hS7
        go_wp2_with fail
        exact bodyPost_ret (v := tellV p3 p4) (by simp [results, go_sem]) rfl ⟨p3, p4, rfl, HT0.out ▸ K3.out, HR0.out ▸ K4.out, B.out⟩
      · clear hS
        go_simp
        have hb : Below Y7.heap.size Y7 (Y7.alloc (.cells zs4 65)) := (Below.refl _ _).alloc (Nat.le_refl _) _
        have P4 := Hid.of (Nat.succ_le_of_lt KP.out.lt)
        have N34 := Hid.of (Nat.ne_of_lt K3.out.lt)
        replace B := Hid.of (B.out.trans (hb.mono B.out.size))
        replace KP := Hid.of (KP.out.below hb KP.out.lt)
        replace K3 := Hid.of (K3.out.below hb K3.out.lt)
        have K4 := Hid.of (Blk.new Y7 65 zs4)
        refine hK'.out _ _ (SA.out _ KP.out) (fun hS => ?_)
        clear hK' K' hb
        revert P4 N34 B KP K3 K4 hS
        generalize Y7.alloc (.cells zs4 65) = Y10
        generalize Y7.heap.size = p4
        intro P4 N34 B KP K3 K4 hS
        refine wpAnyH_ready (rs := [6]) (by kernel_rfl) (by simp) ?_
        refine AllReadyH.cons rfl (fun K' hK' => ?_) AllReadyH.nil
        clear hS
        go_simp
        refine (OF2.out Y10 B.out).mono ?_
        rintro e Y11 ⟨rfl, hb⟩
        replace B := Hid.of (B.out.trans (hb.mono B.out.size))
        replace KP := Hid.of (KP.out.below hb KP.out.lt)
        replace K3 := Hid.of (K3.out.below hb K3.out.lt)
        replace K4 := Hid.of (K4.out.below hb K4.out.lt)
        refine hK'.out _ _ (SA.out _ KP.out) (fun hS => ?_)
        clear hK' K' hb
        refine wpAnyH_ready (rs := [9]) (by kernel_rfl) (by simp) ?_
        refine AllReadyH.cons rfl (fun K' hK' => ?_) AllReadyH.nil
        have fz := K3.out.frozen
        obtain ⟨r0, r1, r2, r3⟩ := SB.cells (show SB _ p3 zeroS from K3.out)
        go_simp
        replace B := Hid.of (below_set4 B.out (b' := p3) (show w.heap.size ≤ p3 by have := P3.out; omega) (.int .u64 (T0 0)) (.int .u64 (T0 1)) (.int .u64 (T0 2)) (.int .u64 (T0 3)))
        replace KP := Hid.of (Blk.other4 KP.out (b' := p3) (show w.heap.size ≠ p3 by have := P3.out; omega) (.int .u64 (T0 0)) (.int .u64 (T0 1)) (.int .u64 (T0 2)) (.int .u64 (T0 3)))
        replace K4 := Hid.of (Blk.other4 K4.out (b' := p3) (Ne.symm N34.out) (.int .u64 (T0 0)) (.int .u64 (T0 1)) (.int .u64 (T0 2)) (.int .u64 (T0 3)))
        replace K3 := Hid.of (SB.set4 (show SB _ p3 zeroS from K3.out) T0)
        refine hK'.out _ _ (SA.out _ KP.out) (fun hS6 => ?_)
        clear hK' K' fz r0 r1 r2 r3 hS
        refine wpAnyH_ready (rs := [10]) (by kernel_rfl) (by simp) ?_
        refine AllReadyH.cons rfl (fun K' hK' => ?_) AllReadyH.nil
        have fz := K4.out.frozen
        obtain ⟨r0, r1, r2, r3⟩ := SB.cells (show SB _ p4 zeroS from K4.out)
        go_simp
        replace B := Hid.of (below_set4 B.out (b' := p4) (show w.heap.size ≤ p4 by have := P4.out; omega) (.int .u64 (R0 0)) (.int .u64 (R0 1)) (.int .u64 (R0 2)) (.int .u64 (R0 3)))
        replace KP := Hid.of (Blk.other4 KP.out (b' := p4) (show w.heap.size ≠ p4 by have := P4.out; omega) (.int .u64 (R0 0)) (.int .u64 (R0 1)) (.int .u64 (R0 2)) (.int .u64 (R0 3)))
        replace K3 := Hid.of (Blk.other4 K3.out (b' := p4) N34.out (.int .u64 (R0 0)) (.int .u64 (R0 1)) (.int .u64 (R0 2)) (.int .u64 (R0 3)))
        replace K4 := Hid.of (SB.set4 (show SB _ p4 zeroS from K4.out) R0)
        refine hK'.out _ _ (SA.out _ KP.out) (fun hS7 => ?_)
        clear hK' K' fz r0 r1 r2 r3 hS6
        refine wpAnyH_done (by kernel_rfl) ?_ _
        clear hS7
        go_wp2_with fail
        exact bodyPost_ret (v := tellV p3 p4) (by simp [results, go_sem]) rfl ⟨p3, p4, rfl, HT0.out ▸ K3.out, HR0.out ▸ K4.out, B.out⟩
    · clear hS
      go_simp
      have hb : Below Y1.heap.size Y1 (Y1.alloc (.cells zs4 65)) := (Below.refl _ _).alloc (Nat.le_refl _) _
      have P4 := Hid.of (Nat.succ_le_of_lt KP.out.lt)
      replace B := Hid.of (B.out.trans (hb.mono B.out.size))
      replace KP := Hid.of (KP.out.below hb KP.out.lt)
      have K4 := Hid.of (Blk.new Y1 65 zs4)
      refine hK'.out _ _ (SA.out _ KP.out) (fun hS => ?_)
      clear hK' K' hb
      revert P4 B KP K4 hS
      generalize Y1.alloc (.cells zs4 65) = Y12
      generalize Y1.heap.size = p4
      intro P4 B KP K4 hS
      refine wpAnyH_ready (rs := [6, 7]) (by kernel_rfl) (by simp) ?_
      refine AllReadyH.cons rfl (fun K' hK' => ?_) (AllReadyH.cons rfl (fun K' hK' => ?_) AllReadyH.nil)
      · clear hS
        go_simp
        refine (OF2.out Y12 B.out).mono ?_
        rintro e Y13 ⟨rfl, hb⟩
        replace B := Hid.of (B.out.trans (hb.mono B.out.size))
        replace KP := Hid.of (KP.out.below hb KP.out.lt)
        replace K4 := Hid.of (K4.out.below hb K4.out.lt)
        refine hK'.out _ _ (SA.out _ KP.out) (fun hS => ?_)
        clear hK' K' hb
        refine wpAnyH_ready (rs := [7]) (by kernel_rfl) (by simp) ?_
        refine AllReadyH.cons rfl (fun K' hK' => ?_) AllReadyH.nil
        clear hS
        go_simp
        have hb : Below Y13.heap.size Y13 (Y13.alloc (.cells zs4 65)) := (Below.refl _ _).alloc (Nat.le_refl _) _
        have P3 := Hid.of (Nat.succ_le_of_lt KP.out.lt)
        have N34 := Hid.of (Nat.ne_of_gt K4.out.lt)
        replace B := Hid.of (B.out.trans (hb.mono B.out.size))
        replace KP := Hid.of (KP.out.below hb KP.out.lt)
        replace K4 := Hid.of (K4.out.below hb K4.out.lt)
        have K3 := Hid.of (Blk.new Y13 65 zs4)
        refine hK'.out _ _ (SA.out _ KP.out) (fun hS => ?_)
        clear hK' K' hb
        revert P3 N34 B KP K4 K3 hS
        generalize Y13.alloc (.cells zs4 65) = Y14
        generalize Y13.heap.size = p3
        intro P3 N34 B KP K4 K3 hS
        refine wpAnyH_ready (rs := [9]) (by kernel_rfl) (by simp) ?_
        refine AllReadyH.cons rfl (fun K' hK' => ?_) AllReadyH.nil
        have fz := K3.out.frozen
        obtain ⟨r0, r1, r2, r3⟩ := SB.cells (show SB _ p3 zeroS from K3.out)
        go_simp
        replace B := Hid.of (below_set4 B.out (b' := p3) (show w.heap.size ≤ p3 by have := P3.out; omega) (.int .u64 (T0 0)) (.int .u64 (T0 1)) (.int .u64 (T0 2)) (.int .u64 (T0 3)))
        replace KP := Hid.of (Blk.other4 KP.out (b' := p3) (show w.heap.size ≠ p3 by have := P3.out; omega) (.int .u64 (T0 0)) (.int .u64 (T0 1)) (.int .u64 (T0 2)) (.int .u64 (T0 3)))
        replace K4 := Hid.of (Blk.other4 K4.out (b' := p3) (Ne.symm N34.out) (.int .u64 (T0 0)) (.int .u64 (T0 1)) (.int .u64 (T0 2)) (.int .u64 (T0 3)))
        replace K3 := Hid.of (SB.set4 (show SB _ p3 zeroS from K3.out) T0)
        refine hK'.out _ _ (SA.out _ KP.out) (fun hS6 => ?_)
        clear hK' K' fz r0 r1 r2 r3 hS
        refine wpAnyH_ready (rs := [10]) (by kernel_rfl) (by simp) ?_
        refine AllReadyH.cons rfl (fun K' hK' => ?_) AllReadyH.nil
        have fz := K4.out.frozen
        obtain ⟨r0, r1, r2, r3⟩ := SB.cells (show SB _ p4 zeroS from K4.out)
        go_simp
        replace B := Hid.of (below_set4 B.out (b' := p4) (show w.heap.size ≤ p4 by have := P4.out; omega) (.int .u64 (R0 0)) (.int .u64 (R0 1)) (.int .u64 (R0 2)) (.int .u64 (R0 3)))
        replace KP := Hid.of (Blk.other4 KP.out (b' := p4) (show w.heap.size ≠ p4 by have := P4.out; omega) (.int .u64 (R0 0)) (.int .u64 (R0 1)) (.int .u64 (R0 2)) (.int .u64 (R0 3)))
        replace K3 := Hid.of (Blk.other4 K3.out (b' := p4) N34.out (.int .u64 (R0 0)) (.int .u64 (R0 1)) (.int .u64 (R0 2)) (.int .u64 (R0 3)))
        replace K4 := Hid.of (SB.set4 (show SB _ p4 zeroS from K4.out) R0)
        refine hK'.out _ _ (SA.out _ KP.out) (fun hS7 => ?_)
        clear hK' K' fz r0 r1 r2 r3 hS6
        refine wpAnyH_done (by kernel_rfl) ?_ _
        clear hS7
        go_wp2_with fail
        exact bodyPost_ret (v := tellV p3 p4) (by simp [results, go_sem]) rfl ⟨p3, p4, rfl, HT0.out ▸ K3.out, HR0.out ▸ K4.out, B.out⟩
      · clear hS
        go_simp
        have hb : Below Y12.heap.size Y12 (Y12.alloc (.cells zs4 65)) := (Below.refl _ _).alloc (Nat.le_refl _) _
        have P3 := Hid.of (Nat.succ_le_of_lt KP.out.lt)
        have N34 := Hid.of (Nat.ne_of_gt K4.out.lt)
        replace B := Hid.of (B.out.trans (hb.mono B.out.size))
        replace KP := Hid.of (KP.out.below hb KP.out.lt)
        replace K4 := Hid.of (K4.out.below hb K4.out.lt)
        have K3 := Hid.of (Blk.new Y12 65 zs4)
        refine hK'.out _ _ (SA.out _ KP.out) (fun hS => ?_)
        clear hK' K' hb
        revert P3 N34 B KP K4 K3 hS
        generalize Y12.alloc (.cells zs4 65) = Y15
        generalize Y12.heap.size = p3
        intro P3 N34 B KP K4 K3 hS
        refine wpAnyH_ready (rs := [6]) (by kernel_rfl) (by simp) ?_
        refine AllReadyH.cons rfl (fun K' hK' => ?_) AllReadyH.nil
        clear hS
        go_simp
        refine (OF2.out Y15 B.out).mono ?_
        rintro e Y16 ⟨rfl, hb⟩
        replace B := Hid.of (B.out.trans (hb.mono B.out.size))
        replace KP := Hid.of (KP.out.below hb KP.out.lt)
        replace K4 := Hid.of (K4.out.below hb K4.out.lt)
        replace K3 := Hid.of (K3.out.below hb K3.out.lt)
        refine hK'.out _ _ (SA.out _ KP.out) (fun hS => ?_)
        clear hK' K' hb
        refine wpAnyH_ready (rs := [9]) (by kernel_rfl) (by simp) ?_
        refine AllReadyH.cons rfl (fun K' hK' => ?_) AllReadyH.nil
        have fz := K3.out.frozen
        obtain ⟨r0, r1, r2, r3⟩ := SB.cells (show SB _ p3 zeroS from K3.out)
        go_simp
        replace B := Hid.of (below_set4 B.out (b' := p3) (show w.heap.size ≤ p3 by have := P3.out; omega) (.int .u64 (T0 0)) (.int .u64 (T0 1)) (.int .u64 (T0 2)) (.int .u64 (T0 3)))
        replace KP := Hid.of (Blk.other4 KP.out (b' := p3) (show w.heap.size ≠ p3 by have := P3.out; omega) (.int .u64 (T0 0)) (.int .u64 (T0 1)) (.int .u64 (T0 2)) (.int .u64 (T0 3)))
        replace K4 := Hid.of (Blk.other4 K4.out (b' := p3) (Ne.symm N34.out) (.int .u64 (T0 0)) (.int .u64 (T0 1)) (.int .u64 (T0 2)) (.int .u64 (T0 3)))
        replace K3 := Hid.of (SB.set4 (show SB _ p3 zeroS from K3.out) T0)
        refine hK'.out _ _ (SA.out _ KP.out) (fun hS6 => ?_)
        clear hK' K' fz r0 r1 r2 r3 hS
        refine wpAnyH_ready (rs := [10]) (by kernel_rfl) (by simp) ?_
        refine AllReadyH.cons rfl (fun K' hK' => ?_) AllReadyH.nil
        have fz := K4.out.frozen
        obtain ⟨r0, r1, r2, r3⟩ := SB.cells (show SB _ p4 zeroS from K4.out)
        go_simp
        replace B := Hid.of (below_set4 B.out (b' := p4) (show w.heap.size ≤ p4 by have := P4.out; omega) (.int .u64 (R0 0)) (.int .u64 (R0 1)) (.int .u64 (R0 2)) (.int .u64 (R0 3)))
        replace KP := Hid.of (Blk.other4 KP.out (b' := p4) (show w.heap.size ≠ p4 by have := P4.out; omega) (.int .u64 (R0 0)) (.int .u64 (R0 1)) (.int .u64 (R0 2)) (.int .u64 (R0 3)))
        replace K3 := Hid.of (Blk.other4 K3.out (b' := p4) N34.out (.int .u64 (R0 0)) (.int .u64 (R0 1)) (.int .u64 (R0 2)) (.int .u64 (R0 3)))
        replace K4 := Hid.of (SB.set4 (show SB _ p4 zeroS from K4.out) R0)
        refine hK'.out _ _ (SA.out _ KP.out) (fun hS7 => ?_)
        clear hK' K' fz r0 r1 r2 r3 hS6
        refine wpAnyH_done (by kernel_rfl) ?_ _
        clear hS7
        go_wp2_with fail
        exact bodyPost_ret (v := tellV p3 p4) (by simp [results, go_sem]) rfl ⟨p3, p4, rfl, HT0.out ▸ K3.out, HR0.out ▸ K4.out, B.out⟩
  · clear hS
    go_simp
    have hb : Below Y0.heap.size Y0 (Y0.alloc (.cells zs4 65)) := (Below.refl _ _).alloc (Nat.le_refl _) _
    have P3 := Hid.of (Nat.succ_le_of_lt KP.out.lt)
    replace B := Hid.of (B.out.trans (hb.mono B.out.size))
    replace KP := Hid.of (KP.out.below hb KP.out.lt)
    have K3 := Hid.of (Blk.new Y0 65 zs4)
    refine hK'.out _ _ (SA.out _ KP.out) (fun hS => ?_)
    clear hK' K' hb
    revert P3 B KP K3 hS
    generalize Y0.alloc (.cells zs4 65) = Y17
    generalize Y0.heap.size = p3
    intro P3 B KP K3 hS
    refine wpAnyH_ready (rs := [3, 8]) (by kernel_rfl) (by simp) ?_
    refine AllReadyH.cons rfl (fun K' hK' => ?_) (AllReadyH.cons rfl (fun K' hK' => ?_) AllReadyH.nil)
    · clear hS
      go_simp
      refine (OF1.out Y17 B.out).mono ?_
      rintro e Y18 ⟨rfl, hb⟩
      replace B := Hid.of (B.out.trans (hb.mono B.out.size))
      replace KP := Hid.of (KP.out.below hb KP.out.lt)
      replace K3 := Hid.of (K3.out.below hb K3.out.lt)
      refine hK'.out _ _ (SA.out _ KP.out) (fun hS => ?_)
      clear hK' K' hb
      refine wpAnyH_ready (rs := [6, 8]) (by kernel_rfl) (by simp) ?_
      refine AllReadyH.cons rfl (fun K' hK' => ?_) (AllReadyH.cons rfl (fun K' hK' => ?_) AllReadyH.nil)
      · clear hS
        go_simp
        refine (OF2.out Y18 B.out).mono ?_
        rintro e Y19 ⟨rfl, hb⟩
        replace B := Hid.of (B.out.trans (hb.mono B.out.size))
        replace KP := Hid.of (KP.out.below hb KP.out.lt)
        replace K3 := Hid.of (K3.out.below hb K3.out.lt)
        refine hK'.out _ _ (SA.out _ KP.out) (fun hS => ?_)
        clear hK' K' hb
        refine wpAnyH_ready (rs := [8]) (by kernel_rfl) (by simp) ?_
        refine AllReadyH.cons rfl (fun K' hK' => ?_) AllReadyH.nil
        clear hS
        go_simp
        have hb : Below Y19.heap.size Y19 (Y19.alloc (.cells zs4 65)) := (Below.refl _ _).alloc (Nat.le_refl _) _
        have P4 := Hid.of (Nat.succ_le_of_lt KP.out.lt)
        have N34 := Hid.of (Nat.ne_of_lt K3.out.lt)
        replace B := Hid.of (B.out.trans (hb.mono B.out.size))
        replace KP := Hid.of (KP.out.below hb KP.out.lt)
        replace K3 := Hid.of (K3.out.below hb K3.out.lt)
        have K4 := Hid.of (Blk.new Y19 65 zs4)
        refine hK'.out _ _ (SA.out _ KP.out) (fun hS => ?_)
        clear hK' K' hb
        revert P4 N34 B KP K3 K4 hS
        generalize Y19.alloc (.cells zs4 65) = Y20
        generalize Y19.heap.size = p4
        intro P4 N34 B KP K3 K4 hS
        refine wpAnyH_ready (rs := [9]) (by kernel_rfl) (by simp) ?_
        refine AllReadyH.cons rfl (fun K' hK' => ?_) AllReadyH.nil
        have fz := K3.out.frozen
        obtain ⟨r0, r1, r2, r3⟩ := SB.cells (show SB _ p3 zeroS from K3.out)
        go_simp
        replace B := Hid.of (below_set4 B.out (b' := p3) (show w.heap.size ≤ p3 by have := P3.out; omega) (.int .u64 (T0 0)) (.int .u64 (T0 1)) (.int .u64 (T0 2)) (.int .u64 (T0 3)))
        replace KP := Hid.of (Blk.other4 KP.out (b' := p3) (show w.heap.size ≠ p3 by have := P3.out; omega) (.int .u64 (T0 0)) (.int .u64 (T0 1)) (.int .u64 (T0 2)) (.int .u64 (T0 3)))
        replace K4 := Hid.of (Blk.other4 K4.out (b' := p3) (Ne.symm N34.out) (.int .u64 (T0 0)) (.int .u64 (T0 1)) (.int .u64 (T0 2)) (.int .u64 (T0 3)))
        replace K3 := Hid.of (SB.set4 (show SB _ p3 zeroS from K3.out) T0)
        refine hK'.out _ _ (SA.out _ KP.out) (fun hS6 => ?_)
        clear hK' K' fz r0 r1 r2 r3 hS
        refine wpAnyH_ready (rs := [10]) (by kernel_rfl) (by simp) ?_
        refine AllReadyH.cons rfl (fun K' hK' => ?_) AllReadyH.nil
        have fz := K4.out.frozen
        obtain ⟨r0, r1, r2, r3⟩ := SB.cells (show SB _ p4 zeroS from K4.out)
        go_simp
        replace B := Hid.of (below_set4 B.out (b' := p4) (show w.heap.size ≤ p4 by have := P4.out; omega) (.int .u64 (R0 0)) (.int .u64 (R0 1)) (.int .u64 (R0 2)) (.int .u64 (R0 3)))
        replace KP := Hid.of (Blk.other4 KP.out (b' := p4) (show w.heap.size ≠ p4 by have := P4.out; omega) (.int .u64 (R0 0)) (.int .u64 (R0 1)) (.int .u64 (R0 2)) (.int .u64 (R0 3)))
        replace K3 := Hid.of (Blk.other4 K3.out (b' := p4) N34.out (.int .u64 (R0 0)) (.int .u64 (R0 1)) (.int .u64 (R0 2)) (.int .u64 (R0 3)))
        replace K4 := Hid.of (SB.set4 (show SB _ p4 zeroS from K4.out) R0)
        refine hK'.out _ _ (SA.out _ KP.out) (fun hS7 => ?_)
        clear hK' K' fz r0 r1 r2 r3 hS6
        refine wpAnyH_done (by kernel_rfl) ?_ _
        clear hS7
        go_wp2_with fail
        exact bodyPost_ret (v := tellV p3 p4) (by simp [results, go_sem]) rfl ⟨p3, p4, rfl, HT0.out ▸ K3.out, HR0.out ▸ K4.out, B.out⟩
      · clear hS
        go_simp
        have hb : Below Y18.heap.size Y18 (Y18.alloc (.cells zs4 65)) := (Below.refl _ _).alloc (Nat.le_refl _) _
        have P4 := Hid.of (Nat.succ_le_of_lt KP.out.lt)
        have N34 := Hid.of (Nat.ne_of_lt K3.out.lt)
        replace B := Hid.of (B.out.trans (hb.mono B.out.size))
        replace KP := Hid.of (KP.out.below hb KP.out.lt)
        replace K3 := Hid.of (K3.out.below hb K3.out.lt)
        have K4 := Hid.of (Blk.new Y18 65 zs4)
        refine hK'.out _ _ (SA.out _ KP.out) (fun hS => ?_)
        clear hK' K' hb
        revert P4 N34 B KP K3 K4 hS
        generalize Y18.alloc (.cells zs4 65) = Y21
        generalize Y18.heap.size = p4
        intro P4 N34 B KP K3 K4 hS
        refine wpAnyH_ready (rs := [6]) (by kernel_rfl) (by simp) ?_
        refine AllReadyH.cons rfl (fun K' hK' => ?_) AllReadyH.nil
        clear hS
        go_simp
        refine (OF2.out Y21 B.out).mono ?_
        rintro e Y22 ⟨rfl, hb⟩
        replace B := Hid.of (B.out.trans (hb.mono B.out.size))
        replace KP := Hid.of (KP.out.below hb KP.out.lt)
        replace K3 := Hid.of (K3.out.below hb K3.out.lt)
        replace K4 := Hid.of (K4.out.below hb K4.out.lt)
        refine hK'.out _ _ (SA.out _ KP.out) (fun hS => ?_)
        clear hK' K' hb
        refine wpAnyH_ready (rs := [9]) (by kernel_rfl) (by simp) ?_
        refine AllReadyH.cons rfl (fun K' hK' => ?_) AllReadyH.nil
        have fz := K3.out.frozen
        obtain ⟨r0, r1, r2, r3⟩ := SB.cells (show SB _ p3 zeroS from K3.out)
        go_simp
        replace B := Hid.of (below_set4 B.out (b' := p3) (show w.heap.size ≤ p3 by have := P3.out; omega) (.int .u64 (T0 0)) (.int .u64 (T0 1)) (.int .u64 (T0 2)) (.int .u64 (T0 3)))
        replace KP := Hid.of (Blk.other4 KP.out (b' := p3) (show w.heap.size ≠ p3 by have := P3.out; omega) (.int .u64 (T0 0)) (.int .u64 (T0 1)) (.int .u64 (T0 2)) (.int .u64 (T0 3)))
        replace K4 := Hid.of (Blk.other4 K4.out (b' := p3) (Ne.symm N34.out) (.int .u64 (T0 0)) (.int .u64 (T0 1)) (.int .u64 (T0 2)) (.int .u64 (T0 3)))
        replace K3 := Hid.of (SB.set4 (show SB _ p3 zeroS from K3.out) T0)
        refine hK'.out _ _ (SA.out _ KP.out) (fun hS6 => ?_)
        clear hK' K' fz r0 r1 r2 r3 hS
        refine wpAnyH_ready (rs := [10]) (by kernel_rfl) (by simp) ?_
        refine AllReadyH.cons rfl (fun K' hK' => ?_) AllReadyH.nil
        have fz := K4.out.frozen
        obtain ⟨r0, r1, r2, r3⟩ := SB.cells (show SB _ p4 zeroS from K4.out)
        go_simp
        replace B := Hid.of (below_set4 B.out (b' := p4) (show w.heap.size ≤ p4 by have := P4.out; omega) (.int .u64 (R0 0)) (.int .u64 (R0 1)) (.int .u64 (R0 2)) (.int .u64 (R0 3)))
        replace KP := Hid.of (Blk.other4 KP.out (b' := p4) (show w.heap.size ≠ p4 by have := P4.out; omega) (.int .u64 (R0 0)) (.int .u64 (R0 1)) (.int .u64 (R0 2)) (.int .u64 (R0 3)))
        replace K3 := Hid.of (Blk.other4 K3.out (b' := p4) N34.out (.int .u64 (R0 0)) (.int .u64 (R0 1)) (.int .u64 (R0 2)) (.int .u64 (R0 3)))
        replace K4 := Hid.of (SB.set4 (show SB _ p4 zeroS from K4.out) R0)
        refine hK'.out _ _ (SA.out _ KP.out) (fun hS7 => ?_)
        clear hK' K' fz r0 r1 r2 r3 hS6
        refine wpAnyH_done (by kernel_rfl) ?_ _
        clear hS7
        go_wp2_with fail
        exact bodyPost_ret (v := tellV p3 p4) (by simp [results, go_sem]) rfl ⟨p3, p4, rfl, HT0.out ▸ K3.out, HR0.out ▸ K4.out, B.out⟩
    · clear hS
      go_simp
      have hb : Below Y17.heap.size Y17 (Y17.alloc (.cells zs4 65)) := (Below.refl _ _).alloc (Nat.le_refl _) _
      have P4 := Hid.of (Nat.succ_le_of_lt KP.out.lt)
      have N34 := Hid.of (Nat.ne_of_lt K3.out.lt)
      replace B := Hid.of (B.out.trans (hb.mono B.out.size))
      replace KP := Hid.of (KP.out.below hb KP.out.lt)
      replace K3 := Hid.of (K3.out.below hb K3.out.lt)
      have K4 := Hid.of (Blk.new Y17 65 zs4)
      refine hK'.out _ _ (SA.out _ KP.out) (fun hS => ?_)
      clear hK' K' hb
      revert P4 N34 B KP K3 K4 hS
      generalize Y17.alloc (.cells zs4 65) = Y23
      generalize Y17.heap.size = p4
      intro P4 N34 B KP K3 K4 hS
      refine wpAnyH_ready (rs := [3]) (by kernel_rfl) (by simp) ?_
      refine AllReadyH.cons rfl (fun K' hK' => ?_) AllReadyH.nil
      clear hS
      go_simp
      refine (OF1.out Y23 B.out).mono ?_
      rintro e Y24 ⟨rfl, hb⟩
      replace B := Hid.of (B.out.trans (hb.mono B.out.size))
      replace KP := Hid.of (KP.out.below hb KP.out.lt)
      replace K3 := Hid.of (K3.out.below hb K3.out.lt)
      replace K4 := Hid.of (K4.out.below hb K4.out.lt)
      refine hK'.out _ _ (SA.out _ KP.out) (fun hS => ?_)
      clear hK' K' hb
      refine wpAnyH_ready (rs := [6]) (by kernel_rfl) (by simp) ?_
      refine AllReadyH.cons rfl (fun K' hK' => ?_) AllReadyH.nil
      clear hS
      go_simp
      refine (OF2.out Y24 B.out).mono ?_
      rintro e Y25 ⟨rfl, hb⟩
      replace B := Hid.of (B.out.trans (hb.mono B.out.size))
      replace KP := Hid.of (KP.out.below hb KP.out.lt)
      replace K3 := Hid.of (K3.out.below hb K3.out.lt)
      replace K4 := Hid.of (K4.out.below hb K4.out.lt)
      refine hK'.out _ _ (SA.out _ KP.out) (fun hS => ?_)
      clear hK' K' hb
      refine wpAnyH_ready (rs := [9]) (by kernel_rfl) (by simp) ?_
      refine AllReadyH.cons rfl (fun K' hK' => ?_) AllReadyH.nil
      have fz := K3.out.frozen
      obtain ⟨r0, r1, r2, r3⟩ := SB.cells (show SB _ p3 zeroS from K3.out)
      go_simp
      replace B := Hid.of (below_set4 B.out (b' := p3) (show w.heap.size ≤ p3 by have := P3.out; omega) (.int .u64 (T0 0)) (.int .u64 (T0 1)) (.int .u64 (T0 2)) (.int .u64 (T0 3)))
      replace KP := Hid.of (Blk.other4 KP.out (b' := p3) (show w.heap.size ≠ p3 by have := P3.out; omega) (.int .u64 (T0 0)) (.int .u64 (T0 1)) (.int .u64 (T0 2)) (.int .u64 (T0 3)))
      replace K4 := Hid.of (Blk.other4 K4.out (b' := p3) (Ne.symm N34.out) (.int .u64 (T0 0)) (.int .u64 (T0 1)) (.int .u64 (T0 2)) (.int .u64 (T0 3)))
      replace K3 := Hid.of (SB.set4 (show SB _ p3 zeroS from K3.out) T0)
      refine hK'.out _ _ (SA.out _ KP.out) (fun hS6 => ?_)
      clear hK' K' fz r0 r1 r2 r3 hS
      refine wpAnyH_ready (rs := [10]) (by kernel_rfl) (by simp) ?_
      refine AllReadyH.cons rfl (fun K' hK' => ?_) AllReadyH.nil
      have fz := K4.out.frozen
      obtain ⟨r0, r1, r2, r3⟩ := SB.cells (show SB _ p4 zeroS from K4.out)
      go_simp
      replace B := Hid.of (below_set4 B.out (b' := p4) (show w.heap.size ≤ p4 by have := P4.out; omega) (.int .u64 (R0 0)) (.int .u64 (R0 1)) (.int .u64 (R0 2)) (.int .u64 (R0 3)))
      replace KP := Hid.of (Blk.other4 KP.out (b' := p4) (show w.heap.size ≠ p4 by have := P4.out; omega) (.int .u64 (R0 0)) (.int .u64 (R0 1)) (.int .u64 (R0 2)) (.int .u64 (R0 3)))
      replace K3 := Hid.of (Blk.other4 K3.out (b' := p4) N34.out (.int .u64 (R0 0)) (.int .u64 (R0 1)) (.int .u64 (R0 2)) (.int .u64 (R0 3)))
      replace K4 := Hid.of (SB.set4 (show SB _ p4 zeroS from K4.out) R0)
      refine hK'.out _ _ (SA.out _ KP.out) (fun hS7 => ?_)
      clear hK' K' fz r0 r1 r2 r3 hS6
      refine wpAnyH_done (by kernel_rfl) ?_ _
      clear hS7
      go_wp2_with fail
      exact bodyPost_ret (v := tellV p3 p4) (by simp [results, go_sem]) rfl ⟨p3, p4, rfl, HT0.out ▸ K3.out, HR0.out ▸ K4.out, B.out⟩
  · clear hS
    go_simp
    have hb : Below Y0.heap.size Y0 (Y0.alloc (.cells zs4 65)) := (Below.refl _ _).alloc (Nat.le_refl _) _
    have P4 := Hid.of (Nat.succ_le_of_lt KP.out.lt)
    replace B := Hid.of (B.out.trans (hb.mono B.out.size))
    replace KP := Hid.of (KP.out.below hb KP.out.lt)
    have K4 := Hid.of (Blk.new Y0 65 zs4)
    refine hK'.out _ _ (SA.out _ KP.out) (fun hS => ?_)
    clear hK' K' hb
    revert P4 B KP K4 hS
    generalize Y0.alloc (.cells zs4 65) = Y26
    generalize Y0.heap.size = p4
    intro P4 B KP K4 hS
    refine wpAnyH_ready (rs := [3, 7]) (by kernel_rfl) (by simp) ?_
    refine AllReadyH.cons rfl (fun K' hK' => ?_) (AllReadyH.cons rfl (fun K' hK' => ?_) AllReadyH.nil)
    · clear hS
      go_simp
      refine (OF1.out Y26 B.out).mono ?_
      rintro e Y27 ⟨rfl, hb⟩
      replace B := Hid.of (B.out.trans (hb.mono B.out.size))
      replace KP := Hid.of (KP.out.below hb KP.out.lt)
      replace K4 := Hid.of (K4.out.below hb K4.out.lt)
      refine hK'.out _ _ (SA.out _ KP.out) (fun hS => ?_)
      clear hK' K' hb
      refine wpAnyH_ready (rs := [6, 7]) (by kernel_rfl) (by simp) ?_
      refine AllReadyH.cons rfl (fun K' hK' => ?_) (AllReadyH.cons rfl (fun K' hK' => ?_) AllReadyH.nil)
      · clear hS
        go_simp
        refine (OF2.out Y27 B.out).mono ?_
        rintro e Y28 ⟨rfl, hb⟩
        replace B := Hid.of (B.out.trans (hb.mono B.out.size))
        replace KP := Hid.of (KP.out.below hb KP.out.lt)
        replace K4 := Hid.of (K4.out.below hb K4.out.lt)
        refine hK'.out _ _ (SA.out _ KP.out) (fun hS => ?_)
        clear hK' K' hb
        refine wpAnyH_ready (rs := [7]) (by kernel_rfl) (by simp) ?_
        refine AllReadyH.cons rfl (fun K' hK' => ?_) AllReadyH.nil
        clear hS
        go_simp
        have hb : Below Y28.heap.size Y28 (Y28.alloc (.cells zs4 65)) := (Below.refl _ _).alloc (Nat.le_refl _) _
        have P3 := Hid.of (Nat.succ_le_of_lt KP.out.lt)
        have N34 := Hid.of (Nat.ne_of_gt K4.out.lt)
        replace B := Hid.of (B.out.trans (hb.mono B.out.size))
        replace KP := Hid.of (KP.out.below hb KP.out.lt)
        replace K4 := Hid.of (K4.out.below hb K4.out.lt)
        have K3 := Hid.of (Blk.new Y28 65 zs4)
        refine hK'.out _ _ (SA.out _ KP.out) (fun hS => ?_)
        clear hK' K' hb
        revert P3 N34 B KP K4 K3 hS
        generalize Y28.alloc (.cells zs4 65) = Y29
        generalize Y28.heap.size = p3
        intro P3 N34 B KP K4 K3 hS
        refine wpAnyH_ready (rs := [9]) (by kernel_rfl) (by simp) ?_
        refine AllReadyH.cons rfl (fun K' hK' => ?_) AllReadyH.nil
        have fz := K3.out.frozen
        obtain ⟨r0, r1, r2, r3⟩ := SB.cells (show SB _ p3 zeroS from K3.out)
        go_simp
        replace B := Hid.of (below_set4 B.out (b' := p3) (show w.heap.size ≤ p3 by have := P3.out; omega) (.int .u64 (T0 0)) (.int .u64 (T0 1)) (.int .u64 (T0 2)) (.int .u64 (T0 3)))
        replace KP := Hid.of (Blk.other4 KP.out (b' := p3) (show w.heap.size ≠ p3 by have := P3.out; omega) (.int .u64 (T0 0)) (.int .u64 (T0 1)) (.int .u64 (T0 2)) (.int .u64 (T0 3)))
        replace K4 := Hid.of (Blk.other4 K4.out (b' := p3) (Ne.symm N34.out) (.int .u64 (T0 0)) (.int .u64 (T0 1)) (.int .u64 (T0 2)) (.int .u64 (T0 3)))
        replace K3 := Hid.of (SB.set4 (show SB _ p3 zeroS from K3.out) T0)
        refine hK'.out _ _ (SA.out _ KP.out) (fun hS6 => ?_)
        clear hK' K' fz r0 r1 r2 r3 hS
        refine wpAnyH_ready (rs := [10]) (by kernel_rfl) (by simp) ?_
        refine AllReadyH.cons rfl (fun K' hK' => ?_) AllReadyH.nil
        have fz := K4.out.frozen
        obtain ⟨r0, r1, r2, r3⟩ := SB.cells (show SB _ p4 zeroS from K4.out)
        go_simp
        replace B := Hid.of (below_set4 B.out (b' := p4) (show w.heap.size ≤ p4 by have := P4.out; omega) (.int .u64 (R0 0)) (.int .u64 (R0 1)) (.int .u64 (R0 2)) (.int .u64 (R0 3)))
        replace KP := Hid.of (Blk.other4 KP.out (b' := p4) (show w.heap.size ≠ p4 by have := P4.out; omega) (.int .u64 (R0 0)) (.int .u64 (R0 1)) (.int .u64 (R0 2)) (.int .u64 (R0 3)))
        replace K3 := Hid.of (Blk.other4 K3.out (b' := p4) N34.out (.int .u64 (R0 0)) (.int .u64 (R0 1)) (.int .u64 (R0 2)) (.int .u64 (R0 3)))
        replace K4 := Hid.of (SB.set4 (show SB _ p4 zeroS from K4.out) R0)
        refine hK'.out _ _ (SA.out _ KP.out) (fun hS7 => ?_)
        clear hK' K' fz r0 r1 r2 r3 hS6
        refine wpAnyH_done (by kernel_rfl) ?_ _
        clear hS7
        go_wp2_with fail
        exact bodyPost_ret (v := tellV p3 p4) (by simp [results, go_sem]) rfl ⟨p3, p4, rfl, HT0.out ▸ K3.out, HR0.out ▸ K4.out, B.out⟩
      · clear hS
        go_simp
        have hb : Below Y27.heap.size Y27 (Y27.alloc (.cells zs4 65)) := (Below.refl _ _).alloc (Nat.le_refl _) _
        have P3 := Hid.of (Nat.succ_le_of_lt KP.out.lt)
        have N34 := Hid.of (Nat.ne_of_gt K4.out.lt)
        replace B := Hid.of (B.out.trans (hb.mono B.out.size))
        replace KP := Hid.of (KP.out.below hb KP.out.lt)
        replace K4 := Hid.of (K4.out.below hb K4.out.lt)
        have K3 := Hid.of (Blk.new Y27 65 zs4)
        refine hK'.out _ _ (SA.out _ KP.out) (fun hS => ?_)
        clear hK' K' hb
        revert P3 N34 B KP K4 K3 hS
        generalize Y27.alloc (.cells zs4 65) = Y30
        generalize Y27.heap.size = p3
        intro P3 N34 B KP K4 K3 hS
        refine wpAnyH_ready (rs := [6]) (by kernel_rfl) (by simp) ?_
        refine AllReadyH.cons rfl (fun K' hK' => ?_) AllReadyH.nil
        clear hS
        go_simp
        refine (OF2.out Y30 B.out).mono ?_
        rintro e Y31 ⟨rfl, hb⟩
        replace B := Hid.of (B.out.trans (hb.mono B.out.size))
        replace KP := Hid.of (KP.out.below hb KP.out.lt)
        replace K4 := Hid.of (K4.out.below hb K4.out.lt)
        replace K3 := Hid.of (K3.out.below hb K3.out.lt)
        refine hK'.out _ _ (SA.out _ KP.out) (fun hS => ?_)
        clear hK' K' hb
        refine wpAnyH_ready (rs := [9]) (by kernel_rfl) (by simp) ?_
        refine AllReadyH.cons rfl (fun K' hK' => ?_) AllReadyH.nil
        have fz := K3.out.frozen
        obtain ⟨r0, r1, r2, r3⟩ := SB.cells (show SB _ p3 zeroS from K3.out)
        go_simp
        replace B := Hid.of (below_set4 B.out (b' := p3) (show w.heap.size ≤ p3 by have := P3.out; omega) (.int .u64 (T0 0)) (.int .u64 (T0 1)) (.int .u64 (T0 2)) (.int .u64 (T0 3)))
        replace KP := Hid.of (Blk.other4 KP.out (b' := p3) (show w.heap.size ≠ p3 by have := P3.out; omega) (.int .u64 (T0 0)) (.int .u64 (T0 1)) (.int .u64 (T0 2)) (.int .u64 (T0 3)))
        replace K4 := Hid.of (Blk.other4 K4.out (b' := p3) (Ne.symm N34.out) (.int .u64 (T0 0)) (.int .u64 (T0 1)) (.int .u64 (T0 2)) (.int .u64 (T0 3)))
        replace K3 := Hid.of (SB.set4 (show SB _ p3 zeroS from K3.out) T0)
        refine hK'.out _ _ (SA.out _ KP.out) (fun hS6 => ?_)
        clear hK' K' fz r0 r1 r2 r3 hS
        refine wpAnyH_ready (rs := [10]) (by kernel_rfl) (by simp) ?_
        refine AllReadyH.cons rfl (fun K' hK' => ?_) AllReadyH.nil
        have fz := K4.out.frozen
        obtain ⟨r0, r1, r2, r3⟩ := SB.cells (show SB _ p4 zeroS from K4.out)
        go_simp
        replace B := Hid.of (below_set4 B.out (b' := p4) (show w.heap.size ≤ p4 by have := P4.out; omega) (.int .u64 (R0 0)) (.int .u64 (R0 1)) (.int .u64 (R0 2)) (.int .u64 (R0 3)))
        replace KP := Hid.of (Blk.other4 KP.out (b' := p4) (show w.heap.size ≠ p4 by have := P4.out; omega) (.int .u64 (R0 0)) (.int .u64 (R0 1)) (.int .u64 (R0 2)) (.int .u64 (R0 3)))
        replace K3 := Hid.of (Blk.other4 K3.out (b' := p4) N34.out (.int .u64 (R0 0)) (.int .u64 (R0 1)) (.int .u64 (R0 2)) (.int .u64 (R0 3)))
        replace K4 := Hid.of (SB.set4 (show SB _ p4 zeroS from K4.out) R0)
        refine hK'.out _ _ (SA.out _ KP.out) (fun hS7 => ?_)
        clear hK' K' fz r0 r1 r2 r3 hS6
        refine wpAnyH_done (by kernel_rfl) ?_ _
        clear hS7
        go_wp2_with fail
        exact bodyPost_ret (v := tellV p3 p4) (by simp [results, go_sem]) rfl ⟨p3, p4, rfl, HT0.out ▸ K3.out, HR0.out ▸ K4.out, B.out⟩
    · clear hS
      go_simp
      have hb : Below Y26.heap.size Y26 (Y26.alloc (.cells zs4 65)) := (Below.refl _ _).alloc (Nat.le_refl _) _
      have P3 := Hid.of (Nat.succ_le_of_lt KP.out.lt)
      have N34 := Hid.of (Nat.ne_of_gt K4.out.lt)
      replace B := Hid.of (B.out.trans (hb.mono B.out.size))
      replace KP := Hid.of (KP.out.below hb KP.out.lt)
      replace K4 := Hid.of (K4.out.below hb K4.out.lt)
      have K3 := Hid.of (Blk.new Y26 65 zs4)
      refine hK'.out _ _ (SA.out _ KP.out) (fun hS => ?_)
      clear hK' K' hb
      revert P3 N34 B KP K4 K3 hS
      generalize Y26.alloc (.cells zs4 65) = Y32
      generalize Y26.heap.size = p3
      intro P3 N34 B KP K4 K3 hS
      refine wpAnyH_ready (rs := [3]) (by kernel_rfl) (by simp) ?_
      refine AllReadyH.cons rfl (fun K' hK' => ?_) AllReadyH.nil
      clear hS
      go_simp
      refine (OF1.out Y32 B.out).mono ?_
      rintro e Y33 ⟨rfl, hb⟩
      replace B := Hid.of (B.out.trans (hb.mono B.out.size))
      replace KP := Hid.of (KP.out.below hb KP.out.lt)
      replace K4 := Hid.of (K4.out.below hb K4.out.lt)
      replace K3 := Hid.of (K3.out.below hb K3.out.lt)
      refine hK'.out _ _ (SA.out _ KP.out) (fun hS => ?_)
      clear hK' K' hb
      refine wpAnyH_ready (rs := [6]) (by kernel_rfl) (by simp) ?_
      refine AllReadyH.cons rfl (fun K' hK' => ?_) AllReadyH.nil
      clear hS
      go_simp
      refine (OF2.out Y33 B.out).mono ?_
      rintro e Y34 ⟨rfl, hb⟩
      replace B := Hid.of (B.out.trans (hb.mono B.out.size))
      replace KP := Hid.of (KP.out.below hb KP.out.lt)
      replace K4 := Hid.of (K4.out.below hb K4.out.lt)
      replace K3 := Hid.of (K3.out.below hb K3.out.lt)
      refine hK'.out _ _ (SA.out _ KP.out) (fun hS => ?_)
      clear hK' K' hb
      refine wpAnyH_ready (rs := [9]) (by kernel_rfl) (by simp) ?_
      refine AllReadyH.cons rfl (fun K' hK' => ?_) AllReadyH.nil
      have fz := K3.out.frozen
      obtain ⟨r0, r1, r2, r3⟩ := SB.cells (show SB _ p3 zeroS from K3.out)
      go_simp
      replace B := Hid.of (below_set4 B.out (b' := p3) (show w.heap.size ≤ p3 by have := P3.out; omega) (.int .u64 (T0 0)) (.int .u64 (T0 1)) (.int .u64 (T0 2)) (.int .u64 (T0 3)))
      replace KP := Hid.of (Blk.other4 KP.out (b' := p3) (show w.heap.size ≠ p3 by have := P3.out; omega) (.int .u64 (T0 0)) (.int .u64 (T0 1)) (.int .u64 (T0 2)) (.int .u64 (T0 3)))
      replace K4 := Hid.of (Blk.other4 K4.out (b' := p3) (Ne.symm N34.out) (.int .u64 (T0 0)) (.int .u64 (T0 1)) (.int .u64 (T0 2)) (.int .u64 (T0 3)))
      replace K3 := Hid.of (SB.set4 (show SB _ p3 zeroS from K3.out) T0)
      refine hK'.out _ _ (SA.out _ KP.out) (fun hS6 => ?_)
      clear hK' K' fz r0 r1 r2 r3 hS
      refine wpAnyH_ready (rs := [10]) (by kernel_rfl) (by simp) ?_
      refine AllReadyH.cons rfl (fun K' hK' => ?_) AllReadyH.nil
      have fz := K4.out.frozen
      obtain ⟨r0, r1, r2, r3⟩ := SB.cells (show SB _ p4 zeroS from K4.out)
      go_simp
      replace B := Hid.of (below_set4 B.out (b' := p4) (show w.heap.size ≤ p4 by have := P4.out; omega) (.int .u64 (R0 0)) (.int .u64 (R0 1)) (.int .u64 (R0 2)) (.int .u64 (R0 3)))
      replace KP := Hid.of (Blk.other4 KP.out (b' := p4) (show w.heap.size ≠ p4 by have := P4.out; omega) (.int .u64 (R0 0)) (.int .u64 (R0 1)) (.int .u64 (R0 2)) (.int .u64 (R0 3)))
      replace K3 := Hid.of (Blk.other4 K3.out (b' := p4) N34.out (.int .u64 (R0 0)) (.int .u64 (R0 1)) (.int .u64 (R0 2)) (.int .u64 (R0 3)))
      replace K4 := Hid.of (SB.set4 (show SB _ p4 zeroS from K4.out) R0)
      refine hK'.out _ _ (SA.out _ KP.out) (fun hS7 => ?_)
      clear hK' K' fz r0 r1 r2 r3 hS6
      refine wpAnyH_done (by kernel_rfl) ?_ _
      clear hS7
      go_wp2_with fail
      exact bodyPost_ret (v := tellV p3 p4) (by simp [results, go_sem]) rfl ⟨p3, p4, rfl, HT0.out ▸ K3.out, HR0.out ▸ K4.out, B.out⟩

end Go.Proofs.YtdhgabpoaicjoaaDoor
