/-
  The walk of initial.Leak; what package initial leaves.
-/
import Derived.Test.YtmimjpkllgjdkaaDoorCIBeg
import Derived.Test.YtmimjpkllgjdkaaDoorCIOri
import Derived.Test.YtmimjpkllgjdkaaDoorG27
import Derived.Test.YtmimjpkllgjdkaaDoorG26
namespace Go.Proofs.YtmimjpkllgjdkaaDoor
open Go.RowKit
set_option linter.unusedVariables false

theorem pBeg_any (p : Plant) (P : PTL) (wa : Option Addr) (wc : Nat) (word : List Int) (w : World) (h : PAt w p P) (hw : At w wa word) (hl : word.length ≤ maxLen) (hT : Tab w) :
    Calls Tryd.prog 41 #[ptval p P, .slice wa word.length wc] w fun e w' => ListPost w (begOut p word) e w' := by
  cases hp : mayP p with
  | false => exact began_bad p P wa wc word w (Hid.of h) (Hid.of hp)
  | true =>
    obtain ⟨Pl, sa, sc, ta, tc⟩ := P
    exact callsIn_wide.1 (began_in p Pl sa sc ta tc wa wc word w (Hid.of h) (Hid.of hw) (Hid.of hl) (Hid.of hT) (Hid.of hp))

set_option maxRecDepth 100000 in
set_option maxHeartbeats 4000000 in
theorem leakI_bad (p : Plant) (P : PTL) (w : World) (h : Hid (PAt w p P)) (hp : Hid (mayP p = false)) :
    Calls Tryd.prog 42 #[ptval p P] w fun e w' => LeakPost w (leakOut p (outI p)) e w' := by
  have B : Hid (Below w.heap.size w (w.alloc (.cells (ptcells p P) 44))) := (Below.refl _ _).alloc (Nat.le_refl _) _
  have KP : Hid (Blk (w.alloc (.cells (ptcells p P) 44)) w.heap.size 44 (ptcells p P)) := Blk.new w _ _
  go_enter Tryd.func42, Tryd.ntmps42
  obtain ⟨x0, x1, x2, x3, x4, x5, x6⟩ := ptcell_at KP.out
  go_wp2_with fail
  clear x0 x1 x2 x3 x4 x5 x6
  revert B KP
  generalize (w.alloc (.cells (ptcells p P) 44)) = V0
  intro B KP
  refine (origs_bad p P V0 (Hid.of (h.out.below B.out (Nat.le_refl _))) hp).mono ?_
  rintro e V1 ⟨rfl, hb⟩
  replace B := Hid.of (B.out.trans (hb.mono B.out.size))
  clear hb KP
  go_wp2_with fail
  refine bodyPost_ret (v := .tuple #[.bool false, .slice none 0 0, .int .i64 2]) (by simp [results, go_sem]) rfl ?_
  rw [leakOut_bad hp.out]
  exact ⟨none, 0, rfl, .inl rfl, Nat.zero_le _, B.out⟩

set_option maxRecDepth 100000 in
set_option maxHeartbeats 16000000 in
theorem leakI_ok (p : Plant) (Pl : ML) (sa : Option Addr) (sc : Nat) (ta : Option Addr) (tc : Nat) (w : World) (h : Hid (PAt w p ⟨Pl, sa, sc, ta, tc⟩)) (hT : Hid (Tab w)) (hp : Hid (mayP p = true)) :
    Calls Tryd.prog 42 #[ptval p ⟨Pl, sa, sc, ta, tc⟩] w fun e w' => LeakPost w (leakOut p (outI p)) e w' := by
  have hmP := (mayP_iff p).1 hp.out
  have hz := mayB_size hmP.1
  unfold sizeOk at hz
  obtain ⟨T0, HT0⟩ : ∃ T, Hid (T = ofS p.m.starts) := ⟨_, rfl⟩
  obtain ⟨R0, HR0⟩ : ∃ T, Hid (T = ofS p.secret) := ⟨_, rfl⟩
  have HRT : Hid (Rep T0 p.m.starts) := by
    have := rep_of (l := p.m.starts) (fun x hx => by have := (may_starts hmP.1).2 x hx; omega) p.m.starts.length
    rw [List.take_of_length_le (Nat.le_refl _)] at this
    show Rep _ _
    rw [HT0.out]; exact this
  have HRR : Hid (Rep R0 p.secret) := by
    have := rep_of (l := p.secret) (fun x hx => by have := ((rowB_iff _ (by omega) _).1 hmP.2.2.2).2 x hx; omega) p.secret.length
    rw [List.take_of_length_le (Nat.le_refl _)] at this
    show Rep _ _
    rw [HR0.out]; exact this
  have OF1 : Hid (∀ Y, Below w.heap.size w Y → Calls Tryd.prog 57 #[.slice Pl.a1 p.m.starts.length Pl.c1] Y fun e Y' => e = .returned (sval T0) ∧ Below Y.heap.size Y Y') := fun Y hb => by
    rw [HT0.out]
    exact of_any Pl.a1 Pl.c1 p.m.starts Y (h.out.m.s.below hb (Nat.le_refl _)) (Nat.le_trans h.out.m.s1 h.out.m.s2) (fun x hx => by have := (may_starts hmP.1).2 x hx; omega)
  have OF2 : Hid (∀ Y, Below w.heap.size w Y → Calls Tryd.prog 57 #[.slice ta p.secret.length tc] Y fun e Y' => e = .returned (sval R0) ∧ Below Y.heap.size Y Y') := fun Y hb => by
    rw [HR0.out]
    exact of_any ta tc p.secret Y (h.out.t.at_.below hb (Nat.le_refl _)) h.out.t.len (fun x hx => by have := ((rowB_iff _ (by omega) _).1 hmP.2.2.2).2 x hx; omega)
  clear hmP hz
  have B : Hid (Below w.heap.size w (w.alloc (.cells (ptcells p ⟨Pl, sa, sc, ta, tc⟩) 44))) := (Below.refl _ _).alloc (Nat.le_refl _) _
  have KP : Hid (Blk (w.alloc (.cells (ptcells p ⟨Pl, sa, sc, ta, tc⟩) 44)) w.heap.size 44 (ptcells p ⟨Pl, sa, sc, ta, tc⟩)) := Blk.new w _ _
  have SA : Hid (∀ W, Blk W w.heap.size 44 (ptcells p ⟨Pl, sa, sc, ta, tc⟩) → W.cell? ⟨w.heap.size, 2, none⟩ = some (.slice Pl.a1 p.m.starts.length Pl.c1) ∧ W.cell? ⟨w.heap.size, 6, none⟩ = some (.slice ta p.secret.length tc)) := fun W h1 => ⟨h1.cell 2 rfl, h1.cell 6 rfl⟩
  go_enter Tryd.func42, Tryd.ntmps42
  obtain ⟨x0, x1, x2, x3, x4, x5, x6⟩ := ptcell_at KP.out
  go_wp2_with fail
  clear x0 x1 x2 x3 x4 x5 x6
  revert B KP
  generalize (w.alloc (.cells (ptcells p ⟨Pl, sa, sc, ta, tc⟩) 44)) = V0
  intro B KP
  refine (origs_ok p Pl sa sc ta tc V0 (Hid.of (h.out.below B.out (Nat.le_refl _))) (Hid.of (hT.out.below B.out hT.out.lt)) hp).mono ?_
  rintro e V1 ⟨l, hol, v, L, rfl, pls, hb⟩
  replace B := Hid.of (B.out.trans (hb.mono B.out.size))
  replace KP := Hid.of (KP.out.below hb KP.out.lt)
  have HOL := Hid.of hol
  obtain ⟨ra, rc, hv, rd, rl, -⟩ := pls.ow.rd
  subst hv
  have HRD := Hid.of rd
  have HIN : Hid (∀ q ∈ L, InnW 0 V1 q.v q.word) := pls.inn
  have HRP : Hid (RepCL L l) := pls.rep
  have HWD : Hid (WdC p.seen L l) := pls.wd
  have hll : L.length ≤ 64 := by rw [pls.rep.len]; exact hol.len
  have HWV : Hid (w.heap.size < V1.heap.size) := KP.out.lt
  clear hb pls rd rl hol
  go_wp2_with fail
  refine Code.wp_mono (Q := regQ fun a' W' => ∃ (p3 p4 : Nat) (r19 r20 r21 r22 r23 r24 r25 : Value), a' = { tmps := #[ptval p ⟨Pl, sa, sc, ta, tc⟩, .pointer (some ⟨w.heap.size, 0, none⟩), .bool false, .slice none 0 0, .int .i64 0, .slice ra L.length rc, .int .i64 0, .pointer (some ⟨p3, 0, none⟩), .pointer (some ⟨p4, 0, none⟩), undef, undef, .tuple #[.slice ra L.length rc, .int .i64 0], ptval p ⟨Pl, sa, sc, ta, tc⟩, .tuple #[.slice ra L.length rc, .int .i64 0], .slice ra L.length rc, .int .i64 0, .int .i64 0, .bool false, undef, r19, r20, r21, r22, r23, r24, r25, undef, undef, undef, undef, undef, undef, undef, undef, undef, undef, undef, undef, undef, undef, undef], defers := [] } ∧ SB W' p3 T0 ∧ SB W' p4 R0 ∧ Below V1.heap.size V1 W') ?aft ?reg
  case reg =>
    refine wp_region_held_drew (S := fun w' => w'.cell? ⟨w.heap.size, 2, none⟩ = some (.slice Pl.a1 p.m.starts.length Pl.c1) ∧ w'.cell? ⟨w.heap.size, 6, none⟩ = some (.slice ta p.secret.length tc)) (by kernel_rfl) (SA.out _ (Blk.drew KP.out)) (fun hS => ?_)
    have BV : Hid (Below V1.heap.size V1 V1.drew) := (Below.refl _ _).drew
    replace KP : Hid (Blk V1.drew w.heap.size 44 (ptcells p ⟨Pl, sa, sc, ta, tc⟩)) := Blk.drew KP.out
    revert hS BV KP
    generalize V1.drew = Y0
    intro hS BV KP
    refine wpAnyH_take (i := 0) (v := .pointer (some ⟨w.heap.size, 0, none⟩)) rfl (by kernel_rfl) (by kernel_rfl) (by kernel_rfl) (fun _ _ _ h => h) (Or.inl ⟨by kernel_rfl, fun w' hw' => by obtain ⟨q0, q1⟩ := hw'; go_simp⟩) hS ?_
    refine wpAnyH_take (i := 1) (v := .pointer (some ⟨w.heap.size, 2, none⟩)) rfl (by kernel_rfl) (by kernel_rfl) (by kernel_rfl) (fun _ _ _ h => h) (Or.inl ⟨by kernel_rfl, fun w' hw' => by obtain ⟨q0, q1⟩ := hw'; go_simp⟩) hS ?_
    refine wpAnyH_take (i := 2) (v := .slice Pl.a1 p.m.starts.length Pl.c1) rfl (by kernel_rfl) (by kernel_rfl) (by kernel_rfl) (fun _ _ _ h => h) (Or.inl ⟨by kernel_rfl, fun w' hw' => by obtain ⟨q0, q1⟩ := hw'; go_simp⟩) hS ?_
    refine wpAnyH_take (i := 4) (v := .pointer (some ⟨w.heap.size, 6, none⟩)) rfl (by kernel_rfl) (by kernel_rfl) (by kernel_rfl) (fun _ _ _ h => h) (Or.inl ⟨by kernel_rfl, fun w' hw' => by obtain ⟨q0, q1⟩ := hw'; go_simp⟩) hS ?_
    refine wpAnyH_take (i := 5) (v := .slice ta p.secret.length tc) rfl (by kernel_rfl) (by kernel_rfl) (by kernel_rfl) (fun _ _ _ h => h) (Or.inl ⟨by kernel_rfl, fun w' hw' => by obtain ⟨q0, q1⟩ := hw'; go_simp⟩) hS ?_
    simp only [Act.put, List.setIfInBounds_toArray]
    refine wpAnyH_ready (rs := [3, 7, 8]) (by kernel_rfl) (by simp) ?_
    refine AllReadyH.cons rfl (fun K' hK' => ?_) (AllReadyH.cons rfl (fun K' hK' => ?_) (AllReadyH.cons rfl (fun K' hK' => ?_) AllReadyH.nil))
    · clear hS
      go_simp
      refine (OF1.out Y0 (B.out.trans (BV.out.mono B.out.size))).mono ?_
      rintro e Y1 ⟨rfl, hb⟩
      replace BV := Hid.of (BV.out.trans (hb.mono BV.out.size))
      replace KP := Hid.of (KP.out.below hb KP.out.lt)
      refine hK'.out _ _ (SA.out _ KP.out) (fun hS => ?_)
      clear hK' K' hb
      refine wpAnyH_ready (rs := [6, 7, 8]) (by kernel_rfl) (by simp) ?_
      refine AllReadyH.cons rfl (fun K' hK' => ?_) (AllReadyH.cons rfl (fun K' hK' => ?_) (AllReadyH.cons rfl (fun K' hK' => ?_) AllReadyH.nil))
      · clear hS
        go_simp
        refine (OF2.out Y1 (B.out.trans (BV.out.mono B.out.size))).mono ?_
        rintro e Y2 ⟨rfl, hb⟩
        replace BV := Hid.of (BV.out.trans (hb.mono BV.out.size))
        replace KP := Hid.of (KP.out.below hb KP.out.lt)
        refine hK'.out _ _ (SA.out _ KP.out) (fun hS => ?_)
        clear hK' K' hb
        refine wpAnyH_ready (rs := [7, 8]) (by kernel_rfl) (by simp) ?_
        refine AllReadyH.cons rfl (fun K' hK' => ?_) (AllReadyH.cons rfl (fun K' hK' => ?_) AllReadyH.nil)
        · clear hS
          go_simp
          have hb : Below Y2.heap.size Y2 (Y2.alloc (.cells zs4 69)) := (Below.refl _ _).alloc (Nat.le_refl _) _
          have P3 := Hid.of (show V1.heap.size ≤ Y2.heap.size from BV.out.size)
          replace BV := Hid.of (BV.out.trans (hb.mono BV.out.size))
          replace KP := Hid.of (KP.out.below hb KP.out.lt)
          have K3 := Hid.of (Blk.new Y2 69 zs4)
          refine hK'.out _ _ (SA.out _ KP.out) (fun hS => ?_)
          clear hK' K' hb
          revert P3 BV KP K3 hS
          generalize Y2.alloc (.cells zs4 69) = Y3
          generalize Y2.heap.size = p3
          intro P3 BV KP K3 hS
          refine wpAnyH_ready (rs := [8]) (by kernel_rfl) (by simp) ?_
          refine AllReadyH.cons rfl (fun K' hK' => ?_) AllReadyH.nil
          clear hS
          go_simp
          have hb : Below Y3.heap.size Y3 (Y3.alloc (.cells zs4 69)) := (Below.refl _ _).alloc (Nat.le_refl _) _
          have P4 := Hid.of (show V1.heap.size ≤ Y3.heap.size from BV.out.size)
          have N34 := Hid.of (Nat.ne_of_lt K3.out.lt)
          replace BV := Hid.of (BV.out.trans (hb.mono BV.out.size))
          replace KP := Hid.of (KP.out.below hb KP.out.lt)
          replace K3 := Hid.of (K3.out.below hb K3.out.lt)
          have K4 := Hid.of (Blk.new Y3 69 zs4)
          refine hK'.out _ _ (SA.out _ KP.out) (fun hS => ?_)
          clear hK' K' hb
          revert P4 N34 BV KP K3 K4 hS
          generalize Y3.alloc (.cells zs4 69) = Y4
          generalize Y3.heap.size = p4
          intro P4 N34 BV KP K3 K4 hS
          refine wpAnyH_ready (rs := [9]) (by kernel_rfl) (by simp) ?_
          refine AllReadyH.cons rfl (fun K' hK' => ?_) AllReadyH.nil
          have fz := K3.out.frozen
          obtain ⟨r0, r1, r2, r3⟩ := SB.cells (show SB _ p3 zeroS from K3.out)
          go_simp
          replace BV := Hid.of (below_set4 BV.out (b' := p3) P3.out (.int .u64 (T0 0)) (.int .u64 (T0 1)) (.int .u64 (T0 2)) (.int .u64 (T0 3)))
          replace KP := Hid.of (Blk.other4 KP.out (b' := p3) (show w.heap.size ≠ p3 by have := P3.out; have := HWV.out; omega) (.int .u64 (T0 0)) (.int .u64 (T0 1)) (.int .u64 (T0 2)) (.int .u64 (T0 3)))
          replace K4 := Hid.of (Blk.other4 K4.out (b' := p3) (Ne.symm N34.out) (.int .u64 (T0 0)) (.int .u64 (T0 1)) (.int .u64 (T0 2)) (.int .u64 (T0 3)))
          replace K3 := Hid.of (SB.set4 (show SB _ p3 zeroS from K3.out) T0)
          refine hK'.out _ _ (SA.out _ KP.out) (fun hS6 => ?_)
          clear hK' K' fz r0 r1 r2 r3 hS
          refine wpAnyH_ready (rs := [10]) (by kernel_rfl) (by simp) ?_
          refine AllReadyH.cons rfl (fun K' hK' => ?_) AllReadyH.nil
          have fz := K4.out.frozen
          obtain ⟨r0, r1, r2, r3⟩ := SB.cells (show SB _ p4 zeroS from K4.out)
          go_simp
          replace BV := Hid.of (below_set4 BV.out (b' := p4) P4.out (.int .u64 (R0 0)) (.int .u64 (R0 1)) (.int .u64 (R0 2)) (.int .u64 (R0 3)))
          replace KP := Hid.of (Blk.other4 KP.out (b' := p4) (show w.heap.size ≠ p4 by have := P4.out; have := HWV.out; omega) (.int .u64 (R0 0)) (.int .u64 (R0 1)) (.int .u64 (R0 2)) (.int .u64 (R0 3)))
          replace K3 := Hid.of (Blk.other4 K3.out (b' := p4) N34.out (.int .u64 (R0 0)) (.int .u64 (R0 1)) (.int .u64 (R0 2)) (.int .u64 (R0 3)))
          replace K4 := Hid.of (SB.set4 (show SB _ p4 zeroS from K4.out) R0)
          refine hK'.out _ _ (SA.out _ KP.out) (fun hS7 => ?_)
          clear hK' K' fz r0 r1 r2 r3 hS6
          refine wpAnyH_done (by kernel_rfl) ?_ _
          exact ⟨p3, p4, _, _, _, _, _, _, _, rfl, K3.out, K4.out, BV.out⟩
        · clear hS
          go_simp
          have hb : Below Y2.heap.size Y2 (Y2.alloc (.cells zs4 69)) := (Below.refl _ _).alloc (Nat.le_refl _) _
          have P4 := Hid.of (show V1.heap.size ≤ Y2.heap.size from BV.out.size)
          replace BV := Hid.of (BV.out.trans (hb.mono BV.out.size))
          replace KP := Hid.of (KP.out.below hb KP.out.lt)
          have K4 := Hid.of (Blk.new Y2 69 zs4)
          refine hK'.out _ _ (SA.out _ KP.out) (fun hS => ?_)
          clear hK' K' hb
          revert P4 BV KP K4 hS
          generalize Y2.alloc (.cells zs4 69) = Y5
          generalize Y2.heap.size = p4
          intro P4 BV KP K4 hS
          refine wpAnyH_ready (rs := [7]) (by kernel_rfl) (by simp) ?_
          refine AllReadyH.cons rfl (fun K' hK' => ?_) AllReadyH.nil
          clear hS
          go_simp
          have hb : Below Y5.heap.size Y5 (Y5.alloc (.cells zs4 69)) := (Below.refl _ _).alloc (Nat.le_refl _) _
          have P3 := Hid.of (show V1.heap.size ≤ Y5.heap.size from BV.out.size)
          have N34 := Hid.of (Nat.ne_of_gt K4.out.lt)
          replace BV := Hid.of (BV.out.trans (hb.mono BV.out.size))
          replace KP := Hid.of (KP.out.below hb KP.out.lt)
          replace K4 := Hid.of (K4.out.below hb K4.out.lt)
          have K3 := Hid.of (Blk.new Y5 69 zs4)
          refine hK'.out _ _ (SA.out _ KP.out) (fun hS => ?_)
          clear hK' K' hb
          revert P3 N34 BV KP K4 K3 hS
          generalize Y5.alloc (.cells zs4 69) = Y6
          generalize Y5.heap.size = p3
          intro P3 N34 BV KP K4 K3 hS
          refine wpAnyH_ready (rs := [9]) (by kernel_rfl) (by simp) ?_
          refine AllReadyH.cons rfl (fun K' hK' => ?_) AllReadyH.nil
          have fz := K3.out.frozen
          obtain ⟨r0, r1, r2, r3⟩ := SB.cells (show SB _ p3 zeroS from K3.out)
          go_simp
          replace BV := Hid.of (below_set4 BV.out (b' := p3) P3.out (.int .u64 (T0 0)) (.int .u64 (T0 1)) (.int .u64 (T0 2)) (.int .u64 (T0 3)))
          replace KP := Hid.of (Blk.other4 KP.out (b' := p3) (show w.heap.size ≠ p3 by have := P3.out; have := HWV.out; omega) (.int .u64 (T0 0)) (.int .u64 (T0 1)) (.int .u64 (T0 2)) (.int .u64 (T0 3)))
          replace K4 := Hid.of (Blk.other4 K4.out (b' := p3) (Ne.symm N34.out) (.int .u64 (T0 0)) (.int .u64 (T0 1)) (.int .u64 (T0 2)) (.int .u64 (T0 3)))
          replace K3 := Hid.of (SB.set4 (show SB _ p3 zeroS from K3.out) T0)
          refine hK'.out _ _ (SA.out _ KP.out) (fun hS6 => ?_)
          clear hK' K' fz r0 r1 r2 r3 hS
          refine wpAnyH_ready (rs := [10]) (by kernel_rfl) (by simp) ?_
          refine AllReadyH.cons rfl (fun K' hK' => ?_) AllReadyH.nil
          have fz := K4.out.frozen
          obtain ⟨r0, r1, r2, r3⟩ := SB.cells (show SB _ p4 zeroS from K4.out)
          go_simp
          replace BV := Hid.of (below_set4 BV.out (b' := p4) P4.out (.int .u64 (R0 0)) (.int .u64 (R0 1)) (.int .u64 (R0 2)) (.int .u64 (R0 3)))
          replace KP := Hid.of (Blk.other4 KP.out (b' := p4) (show w.heap.size ≠ p4 by have := P4.out; have := HWV.out; omega) (.int .u64 (R0 0)) (.int .u64 (R0 1)) (.int .u64 (R0 2)) (.int .u64 (R0 3)))
          replace K3 := Hid.of (Blk.other4 K3.out (b' := p4) N34.out (.int .u64 (R0 0)) (.int .u64 (R0 1)) (.int .u64 (R0 2)) (.int .u64 (R0 3)))
          replace K4 := Hid.of (SB.set4 (show SB _ p4 zeroS from K4.out) R0)
          refine hK'.out _ _ (SA.out _ KP.out) (fun hS7 => ?_)
          clear hK' K' fz r0 r1 r2 r3 hS6
          refine wpAnyH_done (by kernel_rfl) ?_ _
          exact ⟨p3, p4, _, _, _, _, _, _, _, rfl, K3.out, K4.out, BV.out⟩
      · clear hS
        go_simp
        have hb : Below Y1.heap.size Y1 (Y1.alloc (.cells zs4 69)) := (Below.refl _ _).alloc (Nat.le_refl _) _
        have P3 := Hid.of (show V1.heap.size ≤ Y1.heap.size from BV.out.size)
        replace BV := Hid.of (BV.out.trans (hb.mono BV.out.size))
        replace KP := Hid.of (KP.out.below hb KP.out.lt)
        have K3 := Hid.of (Blk.new Y1 69 zs4)
        refine hK'.out _ _ (SA.out _ KP.out) (fun hS => ?_)
        clear hK' K' hb
        revert P3 BV KP K3 hS
        generalize Y1.alloc (.cells zs4 69) = Y7
        generalize Y1.heap.size = p3
        intro P3 BV KP K3 hS
        refine wpAnyH_ready (rs := [6, 8]) (by kernel_rfl) (by simp) ?_
        refine AllReadyH.cons rfl (fun K' hK' => ?_) (AllReadyH.cons rfl (fun K' hK' => ?_) AllReadyH.nil)
        · clear hS
          go_simp
          refine (OF2.out Y7 (B.out.trans (BV.out.mono B.out.size))).mono ?_
          rintro e Y8 ⟨rfl, hb⟩
          replace BV := Hid.of (BV.out.trans (hb.mono BV.out.size))
          replace KP := Hid.of (KP.out.below hb KP.out.lt)
          replace K3 := Hid.of (K3.out.below hb K3.out.lt)
          refine hK'.out _ _ (SA.out _ KP.out) (fun hS => ?_)
          clear hK' K' hb
          refine wpAnyH_ready (rs := [8]) (by kernel_rfl) (by simp) ?_
          refine AllReadyH.cons rfl (fun K' hK' => ?_) AllReadyH.nil
          clear hS
          go_simp
          have hb : Below Y8.heap.size Y8 (Y8.alloc (.cells zs4 69)) := (Below.refl _ _).alloc (Nat.le_refl _) _
          have P4 := Hid.of (show V1.heap.size ≤ Y8.heap.size from BV.out.size)
          have N34 := Hid.of (Nat.ne_of_lt K3.out.lt)
          replace BV := Hid.of (BV.out.trans (hb.mono BV.out.size))
          replace KP := Hid.of (KP.out.below hb KP.out.lt)
          replace K3 := Hid.of (K3.out.below hb K3.out.lt)
          have K4 := Hid.of (Blk.new Y8 69 zs4)
          refine hK'.out _ _ (SA.out _ KP.out) (fun hS => ?_)
          clear hK' K' hb
          revert P4 N34 BV KP K3 K4 hS
          generalize Y8.alloc (.cells zs4 69) = Y9
          generalize Y8.heap.size = p4
          intro P4 N34 BV KP K3 K4 hS
          refine wpAnyH_ready (rs := [9]) (by kernel_rfl) (by simp) ?_
          refine AllReadyH.cons rfl (fun K' hK' => ?_) AllReadyH.nil
          have fz := K3.out.frozen
          obtain ⟨r0, r1, r2, r3⟩ := SB.cells (show SB _ p3 zeroS from K3.out)
          go_simp
          replace BV := Hid.of (below_set4 BV.out (b' := p3) P3.out (.int .u64 (T0 0)) (.int .u64 (T0 1)) (.int .u64 (T0 2)) (.int .u64 (T0 3)))
          replace KP := Hid.of (Blk.other4 KP.out (b' := p3) (show w.heap.size ≠ p3 by have := P3.out; have := HWV.out; omega) (.int .u64 (T0 0)) (.int .u64 (T0 1)) (.int .u64 (T0 2)) (.int .u64 (T0 3)))
          replace K4 := Hid.of (Blk.other4 K4.out (b' := p3) (Ne.symm N34.out) (.int .u64 (T0 0)) (.int .u64 (T0 1)) (.int .u64 (T0 2)) (.int .u64 (T0 3)))
          replace K3 := Hid.of (SB.set4 (show SB _ p3 zeroS from K3.out) T0)
          refine hK'.out _ _ (SA.out _ KP.out) (fun hS6 => ?_)
          clear hK' K' fz r0 r1 r2 r3 hS
          refine wpAnyH_ready (rs := [10]) (by kernel_rfl) (by simp) ?_
          refine AllReadyH.cons rfl (fun K' hK' => ?_) AllReadyH.nil
          have fz := K4.out.frozen
          obtain ⟨r0, r1, r2, r3⟩ := SB.cells (show SB _ p4 zeroS from K4.out)
          go_simp
          replace BV := Hid.of (below_set4 BV.out (b' := p4) P4.out (.int .u64 (R0 0)) (.int .u64 (R0 1)) (.int .u64 (R0 2)) (.int .u64 (R0 3)))
          replace KP := Hid.of (Blk.other4 KP.out (b' := p4) (show w.heap.size ≠ p4 by have := P4.out; have := HWV.out; omega) (.int .u64 (R0 0)) (.int .u64 (R0 1)) (.int .u64 (R0 2)) (.int .u64 (R0 3)))
          replace K3 := Hid.of (Blk.other4 K3.out (b' := p4) N34.out (.int .u64 (R0 0)) (.int .u64 (R0 1)) (.int .u64 (R0 2)) (.int .u64 (R0 3)))
          replace K4 := Hid.of (SB.set4 (show SB _ p4 zeroS from K4.out) R0)
          refine hK'.out _ _ (SA.out _ KP.out) (fun hS7 => ?_)
          clear hK' K' fz r0 r1 r2 r3 hS6
          refine wpAnyH_done (by kernel_rfl) ?_ _
          exact ⟨p3, p4, _, _, _, _, _, _, _, rfl, K3.out, K4.out, BV.out⟩
        · clear hS
          go_simp
          have hb : Below Y7.heap.size Y7 (Y7.alloc (.cells zs4 69)) := (Below.refl _ _).alloc (Nat.le_refl _) _
          have P4 := Hid.of (show V1.heap.size ≤ Y7.heap.size from BV.out.size)
          have N34 := Hid.of (Nat.ne_of_lt K3.out.lt)
          replace BV := Hid.of (BV.out.trans (hb.mono BV.out.size))
          replace KP := Hid.of (KP.out.below hb KP.out.lt)
          replace K3 := Hid.of (K3.out.below hb K3.out.lt)
          have K4 := Hid.of (Blk.new Y7 69 zs4)
          refine hK'.out _ _ (SA.out _ KP.out) (fun hS => ?_)
          clear hK' K' hb
          revert P4 N34 BV KP K3 K4 hS
          generalize Y7.alloc (.cells zs4 69) = Y10
          generalize Y7.heap.size = p4
          intro P4 N34 BV KP K3 K4 hS
          refine wpAnyH_ready (rs := [6]) (by kernel_rfl) (by simp) ?_
          refine AllReadyH.cons rfl (fun K' hK' => ?_) AllReadyH.nil
          clear hS
          go_simp
          refine (OF2.out Y10 (B.out.trans (BV.out.mono B.out.size))).mono ?_
          rintro e Y11 ⟨rfl, hb⟩
          replace BV := Hid.of (BV.out.trans (hb.mono BV.out.size))
          replace KP := Hid.of (KP.out.below hb KP.out.lt)
          replace K3 := Hid.of (K3.out.below hb K3.out.lt)
          replace K4 := Hid.of (K4.out.below hb K4.out.lt)
          refine hK'.out _ _ (SA.out _ KP.out) (fun hS => ?_)
          clear hK' K' hb
          refine wpAnyH_ready (rs := [9]) (by kernel_rfl) (by simp) ?_
          refine AllReadyH.cons rfl (fun K' hK' => ?_) AllReadyH.nil
          have fz := K3.out.frozen
          obtain ⟨r0, r1, r2, r3⟩ := SB.cells (show SB _ p3 zeroS from K3.out)
          go_simp
          replace BV := Hid.of (below_set4 BV.out (b' := p3) P3.out (.int .u64 (T0 0)) (.int .u64 (T0 1)) (.int .u64 (T0 2)) (.int .u64 (T0 3)))
          replace KP := Hid.of (Blk.other4 KP.out (b' := p3) (show w.heap.size ≠ p3 by have := P3.out; have := HWV.out; omega) (.int .u64 (T0 0)) (.int .u64 (T0 1)) (.int .u64 (T0 2)) (.int .u64 (T0 3)))
          replace K4 := Hid.of (Blk.other4 K4.out (b' := p3) (Ne.symm N34.out) (.int .u64 (T0 0)) (.int .u64 (T0 1)) (.int .u64 (T0 2)) (.int .u64 (T0 3)))
          replace K3 := Hid.of (SB.set4 (show SB _ p3 zeroS from K3.out) T0)
          refine hK'.out _ _ (SA.out _ KP.out) (fun hS6 => ?_)
          clear hK' K' fz r0 r1 r2 r3 hS
          refine wpAnyH_ready (rs := [10]) (by kernel_rfl) (by simp) ?_
          refine AllReadyH.cons rfl (fun K' hK' => ?_) AllReadyH.nil
          have fz := K4.out.frozen
          obtain ⟨r0, r1, r2, r3⟩ := SB.cells (show SB _ p4 zeroS from K4.out)
          go_simp
          replace BV := Hid.of (below_set4 BV.out (b' := p4) P4.out (.int .u64 (R0 0)) (.int .u64 (R0 1)) (.int .u64 (R0 2)) (.int .u64 (R0 3)))
          replace KP := Hid.of (Blk.other4 KP.out (b' := p4) (show w.heap.size ≠ p4 by have := P4.out; have := HWV.out; omega) (.int .u64 (R0 0)) (.int .u64 (R0 1)) (.int .u64 (R0 2)) (.int .u64 (R0 3)))
          replace K3 := Hid.of (Blk.other4 K3.out (b' := p4) N34.out (.int .u64 (R0 0)) (.int .u64 (R0 1)) (.int .u64 (R0 2)) (.int .u64 (R0 3)))
          replace K4 := Hid.of (SB.set4 (show SB _ p4 zeroS from K4.out) R0)
          refine hK'.out _ _ (SA.out _ KP.out) (fun hS7 => ?_)
          clear hK' K' fz r0 r1 r2 r3 hS6
          refine wpAnyH_done (by kernel_rfl) ?_ _
          exact ⟨p3, p4, _, _, _, _, _, _, _, rfl, K3.out, K4.out, BV.out⟩
      · clear hS
        go_simp
        have hb : Below Y1.heap.size Y1 (Y1.alloc (.cells zs4 69)) := (Below.refl _ _).alloc (Nat.le_refl _) _
        have P4 := Hid.of (show V1.heap.size ≤ Y1.heap.size from BV.out.size)
        replace BV := Hid.of (BV.out.trans (hb.mono BV.out.size))
        replace KP := Hid.of (KP.out.below hb KP.out.lt)
        have K4 := Hid.of (Blk.new Y1 69 zs4)
        refine hK'.out _ _ (SA.out _ KP.out) (fun hS => ?_)
        clear hK' K' hb
        revert P4 BV KP K4 hS
        generalize Y1.alloc (.cells zs4 69) = Y12
        generalize Y1.heap.size = p4
        intro P4 BV KP K4 hS
        refine wpAnyH_ready (rs := [6, 7]) (by kernel_rfl) (by simp) ?_
        refine AllReadyH.cons rfl (fun K' hK' => ?_) (AllReadyH.cons rfl (fun K' hK' => ?_) AllReadyH.nil)
        · clear hS
          go_simp
          refine (OF2.out Y12 (B.out.trans (BV.out.mono B.out.size))).mono ?_
          rintro e Y13 ⟨rfl, hb⟩
          replace BV := Hid.of (BV.out.trans (hb.mono BV.out.size))
          replace KP := Hid.of (KP.out.below hb KP.out.lt)
          replace K4 := Hid.of (K4.out.below hb K4.out.lt)
          refine hK'.out _ _ (SA.out _ KP.out) (fun hS => ?_)
          clear hK' K' hb
          refine wpAnyH_ready (rs := [7]) (by kernel_rfl) (by simp) ?_
          refine AllReadyH.cons rfl (fun K' hK' => ?_) AllReadyH.nil
          clear hS
          go_simp
          have hb : Below Y13.heap.size Y13 (Y13.alloc (.cells zs4 69)) := (Below.refl _ _).alloc (Nat.le_refl _) _
          have P3 := Hid.of (show V1.heap.size ≤ Y13.heap.size from BV.out.size)
          have N34 := Hid.of (Nat.ne_of_gt K4.out.lt)
          replace BV := Hid.of (BV.out.trans (hb.mono BV.out.size))
          replace KP := Hid.of (KP.out.below hb KP.out.lt)
          replace K4 := Hid.of (K4.out.below hb K4.out.lt)
          have K3 := Hid.of (Blk.new Y13 69 zs4)
          refine hK'.out _ _ (SA.out _ KP.out) (fun hS => ?_)
          clear hK' K' hb
          revert P3 N34 BV KP K4 K3 hS
          generalize Y13.alloc (.cells zs4 69) = Y14
          generalize Y13.heap.size = p3
          intro P3 N34 BV KP K4 K3 hS
          refine wpAnyH_ready (rs := [9]) (by kernel_rfl) (by simp) ?_
          refine AllReadyH.cons rfl (fun K' hK' => ?_) AllReadyH.nil
          have fz := K3.out.frozen
          obtain ⟨r0, r1, r2, r3⟩ := SB.cells (show SB _ p3 zeroS from K3.out)
          go_simp
          replace BV := Hid.of (below_set4 BV.out (b' := p3) P3.out (.int .u64 (T0 0)) (.int .u64 (T0 1)) (.int .u64 (T0 2)) (.int .u64 (T0 3)))
          replace KP := Hid.of (Blk.other4 KP.out (b' := p3) (show w.heap.size ≠ p3 by have := P3.out; have := HWV.out; omega) (.int .u64 (T0 0)) (.int .u64 (T0 1)) (.int .u64 (T0 2)) (.int .u64 (T0 3)))
          replace K4 := Hid.of (Blk.other4 K4.out (b' := p3) (Ne.symm N34.out) (.int .u64 (T0 0)) (.int .u64 (T0 1)) (.int .u64 (T0 2)) (.int .u64 (T0 3)))
          replace K3 := Hid.of (SB.set4 (show SB _ p3 zeroS from K3.out) T0)
          refine hK'.out _ _ (SA.out _ KP.out) (fun hS6 => ?_)
          clear hK' K' fz r0 r1 r2 r3 hS
          refine wpAnyH_ready (rs := [10]) (by kernel_rfl) (by simp) ?_
          refine AllReadyH.cons rfl (fun K' hK' => ?_) AllReadyH.nil
          have fz := K4.out.frozen
          obtain ⟨r0, r1, r2, r3⟩ := SB.cells (show SB _ p4 zeroS from K4.out)
          go_simp
          replace BV := Hid.of (below_set4 BV.out (b' := p4) P4.out (.int .u64 (R0 0)) (.int .u64 (R0 1)) (.int .u64 (R0 2)) (.int .u64 (R0 3)))
          replace KP := Hid.of (Blk.other4 KP.out (b' := p4) (show w.heap.size ≠ p4 by have := P4.out; have := HWV.out; omega) (.int .u64 (R0 0)) (.int .u64 (R0 1)) (.int .u64 (R0 2)) (.int .u64 (R0 3)))
          replace K3 := Hid.of (Blk.other4 K3.out (b' := p4) N34.out (.int .u64 (R0 0)) (.int .u64 (R0 1)) (.int .u64 (R0 2)) (.int .u64 (R0 3)))
          replace K4 := Hid.of (SB.set4 (show SB _ p4 zeroS from K4.out) R0)
          refine hK'.out _ _ (SA.out _ KP.out) (fun hS7 => ?_)
          clear hK' K' fz r0 r1 r2 r3 hS6
          refine wpAnyH_done (by kernel_rfl) ?_ _
          exact ⟨p3, p4, _, _, _, _, _, _, _, rfl, K3.out, K4.out, BV.out⟩
        · clear hS
          go_simp
          have hb : Below Y12.heap.size Y12 (Y12.alloc (.cells zs4 69)) := (Below.refl _ _).alloc (Nat.le_refl _) _
          have P3 := Hid.of (show V1.heap.size ≤ Y12.heap.size from BV.out.size)
          have N34 := Hid.of (Nat.ne_of_gt K4.out.lt)
          replace BV := Hid.of (BV.out.trans (hb.mono BV.out.size))
          replace KP := Hid.of (KP.out.below hb KP.out.lt)
          replace K4 := Hid.of (K4.out.below hb K4.out.lt)
          have K3 := Hid.of (Blk.new Y12 69 zs4)
          refine hK'.out _ _ (SA.out _ KP.out) (fun hS => ?_)
          clear hK' K' hb
          revert P3 N34 BV KP K4 K3 hS
          generalize Y12.alloc (.cells zs4 69) = Y15
          generalize Y12.heap.size = p3
          intro P3 N34 BV KP K4 K3 hS
          refine wpAnyH_ready (rs := [6]) (by kernel_rfl) (by simp) ?_
          refine AllReadyH.cons rfl (fun K' hK' => ?_) AllReadyH.nil
          clear hS
          go_simp
          refine (OF2.out Y15 (B.out.trans (BV.out.mono B.out.size))).mono ?_
          rintro e Y16 ⟨rfl, hb⟩
          replace BV := Hid.of (BV.out.trans (hb.mono BV.out.size))
          replace KP := Hid.of (KP.out.below hb KP.out.lt)
          replace K4 := Hid.of (K4.out.below hb K4.out.lt)
          replace K3 := Hid.of (K3.out.below hb K3.out.lt)
          refine hK'.out _ _ (SA.out _ KP.out) (fun hS => ?_)
          clear hK' K' hb
          refine wpAnyH_ready (rs := [9]) (by kernel_rfl) (by simp) ?_
          refine AllReadyH.cons rfl (fun K' hK' => ?_) AllReadyH.nil
          have fz := K3.out.frozen
          obtain ⟨r0, r1, r2, r3⟩ := SB.cells (show SB _ p3 zeroS from K3.out)
          go_simp
          replace BV := Hid.of (below_set4 BV.out (b' := p3) P3.out (.int .u64 (T0 0)) (.int .u64 (T0 1)) (.int .u64 (T0 2)) (.int .u64 (T0 3)))
          replace KP := Hid.of (Blk.other4 KP.out (b' := p3) (show w.heap.size ≠ p3 by have := P3.out; have := HWV.out; omega) (.int .u64 (T0 0)) (.int .u64 (T0 1)) (.int .u64 (T0 2)) (.int .u64 (T0 3)))
          replace K4 := Hid.of (Blk.other4 K4.out (b' := p3) (Ne.symm N34.out) (.int .u64 (T0 0)) (.int .u64 (T0 1)) (.int .u64 (T0 2)) (.int .u64 (T0 3)))
          replace K3 := Hid.of (SB.set4 (show SB _ p3 zeroS from K3.out) T0)
          refine hK'.out _ _ (SA.out _ KP.out) (fun hS6 => ?_)
          clear hK' K' fz r0 r1 r2 r3 hS
          refine wpAnyH_ready (rs := [10]) (by kernel_rfl) (by simp) ?_
          refine AllReadyH.cons rfl (fun K' hK' => ?_) AllReadyH.nil
          have fz := K4.out.frozen
          obtain ⟨r0, r1, r2, r3⟩ := SB.cells (show SB _ p4 zeroS from K4.out)
          go_simp
          replace BV := Hid.of (below_set4 BV.out (b' := p4) P4.out (.int .u64 (R0 0)) (.int .u64 (R0 1)) (.int .u64 (R0 2)) (.int .u64 (R0 3)))
          replace KP := Hid.of (Blk.other4 KP.out (b' := p4) (show w.heap.size ≠ p4 by have := P4.out; have := HWV.out; omega) (.int .u64 (R0 0)) (.int .u64 (R0 1)) (.int .u64 (R0 2)) (.int .u64 (R0 3)))
          replace K3 := Hid.of (Blk.other4 K3.out (b' := p4) N34.out (.int .u64 (R0 0)) (.int .u64 (R0 1)) (.int .u64 (R0 2)) (.int .u64 (R0 3)))
          replace K4 := Hid.of (SB.set4 (show SB _ p4 zeroS from K4.out) R0)
          refine hK'.out _ _ (SA.out _ KP.out) (fun hS7 => ?_)
          clear hK' K' fz r0 r1 r2 r3 hS6
          refine wpAnyH_done (by kernel_rfl) ?_ _
          exact ⟨p3, p4, _, _, _, _, _, _, _, rfl, K3.out, K4.out, BV.out⟩
    · clear hS
      go_simp
      have hb : Below Y0.heap.size Y0 (Y0.alloc (.cells zs4 69)) := (Below.refl _ _).alloc (Nat.le_refl _) _
      have P3 := Hid.of (show V1.heap.size ≤ Y0.heap.size from BV.out.size)
      replace BV := Hid.of (BV.out.trans (hb.mono BV.out.size))
      replace KP := Hid.of (KP.out.below hb KP.out.lt)
      have K3 := Hid.of (Blk.new Y0 69 zs4)
      refine hK'.out _ _ (SA.out _ KP.out) (fun hS => ?_)
      clear hK' K' hb
      revert P3 BV KP K3 hS
      generalize Y0.alloc (.cells zs4 69) = Y17
      generalize Y0.heap.size = p3
      intro P3 BV KP K3 hS
      refine wpAnyH_ready (rs := [3, 8]) (by kernel_rfl) (by simp) ?_
      refine AllReadyH.cons rfl (fun K' hK' => ?_) (AllReadyH.cons rfl (fun K' hK' => ?_) AllReadyH.nil)
      · clear hS
        go_simp
        refine (OF1.out Y17 (B.out.trans (BV.out.mono B.out.size))).mono ?_
        rintro e Y18 ⟨rfl, hb⟩
        replace BV := Hid.of (BV.out.trans (hb.mono BV.out.size))
        replace KP := Hid.of (KP.out.below hb KP.out.lt)
        replace K3 := Hid.of (K3.out.below hb K3.out.lt)
        refine hK'.out _ _ (SA.out _ KP.out) (fun hS => ?_)
        clear hK' K' hb
        refine wpAnyH_ready (rs := [6, 8]) (by kernel_rfl) (by simp) ?_
        refine AllReadyH.cons rfl (fun K' hK' => ?_) (AllReadyH.cons rfl (fun K' hK' => ?_) AllReadyH.nil)
        · clear hS
          go_simp
          refine (OF2.out Y18 (B.out.trans (BV.out.mono B.out.size))).mono ?_
          rintro e Y19 ⟨rfl, hb⟩
          replace BV := Hid.of (BV.out.trans (hb.mono BV.out.size))
          replace KP := Hid.of (KP.out.below hb KP.out.lt)
          replace K3 := Hid.of (K3.out.below hb K3.out.lt)
          refine hK'.out _ _ (SA.out _ KP.out) (fun hS => ?_)
          clear hK' K' hb
          refine wpAnyH_ready (rs := [8]) (by kernel_rfl) (by simp) ?_
          refine AllReadyH.cons rfl (fun K' hK' => ?_) AllReadyH.nil
          clear hS
          go_simp
          have hb : Below Y19.heap.size Y19 (Y19.alloc (.cells zs4 69)) := (Below.refl _ _).alloc (Nat.le_refl _) _
          have P4 := Hid.of (show V1.heap.size ≤ Y19.heap.size from BV.out.size)
          have N34 := Hid.of (Nat.ne_of_lt K3.out.lt)
          replace BV := Hid.of (BV.out.trans (hb.mono BV.out.size))
          replace KP := Hid.of (KP.out.below hb KP.out.lt)
          replace K3 := Hid.of (K3.out.below hb K3.out.lt)
          have K4 := Hid.of (Blk.new Y19 69 zs4)
          refine hK'.out _ _ (SA.out _ KP.out) (fun hS => ?_)
          clear hK' K' hb
          revert P4 N34 BV KP K3 K4 hS
          generalize Y19.alloc (.cells zs4 69) = Y20
          generalize Y19.heap.size = p4
          intro P4 N34 BV KP K3 K4 hS
          refine wpAnyH_ready (rs := [9]) (by kernel_rfl) (by simp) ?_
          refine AllReadyH.cons rfl (fun K' hK' => ?_) AllReadyH.nil
          have fz := K3.out.frozen
          obtain ⟨r0, r1, r2, r3⟩ := SB.cells (show SB _ p3 zeroS from K3.out)
          go_simp
          replace BV := Hid.of (below_set4 BV.out (b' := p3) P3.out (.int .u64 (T0 0)) (.int .u64 (T0 1)) (.int .u64 (T0 2)) (.int .u64 (T0 3)))
          replace KP := Hid.of (Blk.other4 KP.out (b' := p3) (show w.heap.size ≠ p3 by have := P3.out; have := HWV.out; omega) (.int .u64 (T0 0)) (.int .u64 (T0 1)) (.int .u64 (T0 2)) (.int .u64 (T0 3)))
          replace K4 := Hid.of (Blk.other4 K4.out (b' := p3) (Ne.symm N34.out) (.int .u64 (T0 0)) (.int .u64 (T0 1)) (.int .u64 (T0 2)) (.int .u64 (T0 3)))
          replace K3 := Hid.of (SB.set4 (show SB _ p3 zeroS from K3.out) T0)
          refine hK'.out _ _ (SA.out _ KP.out) (fun hS6 => ?_)
          clear hK' K' fz r0 r1 r2 r3 hS
          refine wpAnyH_ready (rs := [10]) (by kernel_rfl) (by simp) ?_
          refine AllReadyH.cons rfl (fun K' hK' => ?_) AllReadyH.nil
          have fz := K4.out.frozen
          obtain ⟨r0, r1, r2, r3⟩ := SB.cells (show SB _ p4 zeroS from K4.out)
          go_simp
          replace BV := Hid.of (below_set4 BV.out (b' := p4) P4.out (.int .u64 (R0 0)) (.int .u64 (R0 1)) (.int .u64 (R0 2)) (.int .u64 (R0 3)))
          replace KP := Hid.of (Blk.other4 KP.out (b' := p4) (show w.heap.size ≠ p4 by have := P4.out; have := HWV.out; omega) (.int .u64 (R0 0)) (.int .u64 (R0 1)) (.int .u64 (R0 2)) (.int .u64 (R0 3)))
          replace K3 := Hid.of (Blk.other4 K3.out (b' := p4) N34.out (.int .u64 (R0 0)) (.int .u64 (R0 1)) (.int .u64 (R0 2)) (.int .u64 (R0 3)))
          replace K4 := Hid.of (SB.set4 (show SB _ p4 zeroS from K4.out) R0)
          refine hK'.out _ _ (SA.out _ KP.out) (fun hS7 => ?_)
          clear hK' K' fz r0 r1 r2 r3 hS6
          refine wpAnyH_done (by kernel_rfl) ?_ _
          exact ⟨p3, p4, _, _, _, _, _, _, _, rfl, K3.out, K4.out, BV.out⟩
        · clear hS
          go_simp
          have hb : Below Y18.heap.size Y18 (Y18.alloc (.cells zs4 69)) := (Below.refl _ _).alloc (Nat.le_refl _) _
          have P4 := Hid.of (show V1.heap.size ≤ Y18.heap.size from BV.out.size)
          have N34 := Hid.of (Nat.ne_of_lt K3.out.lt)
          replace BV := Hid.of (BV.out.trans (hb.mono BV.out.size))
          replace KP := Hid.of (KP.out.below hb KP.out.lt)
          replace K3 := Hid.of (K3.out.below hb K3.out.lt)
          have K4 := Hid.of (Blk.new Y18 69 zs4)
          refine hK'.out _ _ (SA.out _ KP.out) (fun hS => ?_)
          clear hK' K' hb
          revert P4 N34 BV KP K3 K4 hS
          generalize Y18.alloc (.cells zs4 69) = Y21
          generalize Y18.heap.size = p4
          intro P4 N34 BV KP K3 K4 hS
          refine wpAnyH_ready (rs := [6]) (by kernel_rfl) (by simp) ?_
          refine AllReadyH.cons rfl (fun K' hK' => ?_) AllReadyH.nil
          clear hS
          go_simp
          refine (OF2.out Y21 (B.out.trans (BV.out.mono B.out.size))).mono ?_
          rintro e Y22 ⟨rfl, hb⟩
          replace BV := Hid.of (BV.out.trans (hb.mono BV.out.size))
          replace KP := Hid.of (KP.out.below hb KP.out.lt)
          replace K3 := Hid.of (K3.out.below hb K3.out.lt)
          replace K4 := Hid.of (K4.out.below hb K4.out.lt)
          refine hK'.out _ _ (SA.out _ KP.out) (fun hS => ?_)
          clear hK' K' hb
          refine wpAnyH_ready (rs := [9]) (by kernel_rfl) (by simp) ?_
          refine AllReadyH.cons rfl (fun K' hK' => ?_) AllReadyH.nil
          have fz := K3.out.frozen
          obtain ⟨r0, r1, r2, r3⟩ := SB.cells (show SB _ p3 zeroS from K3.out)
          go_simp
          replace BV := Hid.of (below_set4 BV.out (b' := p3) P3.out (.int .u64 (T0 0)) (.int .u64 (T0 1)) (.int .u64 (T0 2)) (.int .u64 (T0 3)))
          replace KP := Hid.of (Blk.other4 KP.out (b' := p3) (show w.heap.size ≠ p3 by have := P3.out; have := HWV.out; omega) (.int .u64 (T0 0)) (.int .u64 (T0 1)) (.int .u64 (T0 2)) (.int .u64 (T0 3)))
          replace K4 := Hid.of (Blk.other4 K4.out (b' := p3) (Ne.symm N34.out) (.int .u64 (T0 0)) (.int .u64 (T0 1)) (.int .u64 (T0 2)) (.int .u64 (T0 3)))
          replace K3 := Hid.of (SB.set4 (show SB _ p3 zeroS from K3.out) T0)
          refine hK'.out _ _ (SA.out _ KP.out) (fun hS6 => ?_)
          clear hK' K' fz r0 r1 r2 r3 hS
          refine wpAnyH_ready (rs := [10]) (by kernel_rfl) (by simp) ?_
          refine AllReadyH.cons rfl (fun K' hK' => ?_) AllReadyH.nil
          have fz := K4.out.frozen
          obtain ⟨r0, r1, r2, r3⟩ := SB.cells (show SB _ p4 zeroS from K4.out)
          go_simp
          replace BV := Hid.of (below_set4 BV.out (b' := p4) P4.out (.int .u64 (R0 0)) (.int .u64 (R0 1)) (.int .u64 (R0 2)) (.int .u64 (R0 3)))
          replace KP := Hid.of (Blk.other4 KP.out (b' := p4) (show w.heap.size ≠ p4 by have := P4.out; have := HWV.out; omega) (.int .u64 (R0 0)) (.int .u64 (R0 1)) (.int .u64 (R0 2)) (.int .u64 (R0 3)))
          replace K3 := Hid.of (Blk.other4 K3.out (b' := p4) N34.out (.int .u64 (R0 0)) (.int .u64 (R0 1)) (.int .u64 (R0 2)) (.int .u64 (R0 3)))
          replace K4 := Hid.of (SB.set4 (show SB _ p4 zeroS from K4.out) R0)
          refine hK'.out _ _ (SA.out _ KP.out) (fun hS7 => ?_)
          clear hK' K' fz r0 r1 r2 r3 hS6
          refine wpAnyH_done (by kernel_rfl) ?_ _
          exact ⟨p3, p4, _, _, _, _, _, _, _, rfl, K3.out, K4.out, BV.out⟩
      · clear hS
        go_simp
        have hb : Below Y17.heap.size Y17 (Y17.alloc (.cells zs4 69)) := (Below.refl _ _).alloc (Nat.le_refl _) _
        have P4 := Hid.of (show V1.heap.size ≤ Y17.heap.size from BV.out.size)
        have N34 := Hid.of (Nat.ne_of_lt K3.out.lt)
        replace BV := Hid.of (BV.out.trans (hb.mono BV.out.size))
        replace KP := Hid.of (KP.out.below hb KP.out.lt)
        replace K3 := Hid.of (K3.out.below hb K3.out.lt)
        have K4 := Hid.of (Blk.new Y17 69 zs4)
        refine hK'.out _ _ (SA.out _ KP.out) (fun hS => ?_)
        clear hK' K' hb
        revert P4 N34 BV KP K3 K4 hS
        generalize Y17.alloc (.cells zs4 69) = Y23
        generalize Y17.heap.size = p4
        intro P4 N34 BV KP K3 K4 hS
        refine wpAnyH_ready (rs := [3]) (by kernel_rfl) (by simp) ?_
        refine AllReadyH.cons rfl (fun K' hK' => ?_) AllReadyH.nil
        clear hS
        go_simp
        refine (OF1.out Y23 (B.out.trans (BV.out.mono B.out.size))).mono ?_
        rintro e Y24 ⟨rfl, hb⟩
        replace BV := Hid.of (BV.out.trans (hb.mono BV.out.size))
        replace KP := Hid.of (KP.out.below hb KP.out.lt)
        replace K3 := Hid.of (K3.out.below hb K3.out.lt)
        replace K4 := Hid.of (K4.out.below hb K4.out.lt)
        refine hK'.out _ _ (SA.out _ KP.out) (fun hS => ?_)
        clear hK' K' hb
        refine wpAnyH_ready (rs := [6]) (by kernel_rfl) (by simp) ?_
        refine AllReadyH.cons rfl (fun K' hK' => ?_) AllReadyH.nil
        clear hS
        go_simp
        refine (OF2.out Y24 (B.out.trans (BV.out.mono B.out.size))).mono ?_
        rintro e Y25 ⟨rfl, hb⟩
        replace BV := Hid.of (BV.out.trans (hb.mono BV.out.size))
        replace KP := Hid.of (KP.out.below hb KP.out.lt)
        replace K3 := Hid.of (K3.out.below hb K3.out.lt)
        replace K4 := Hid.of (K4.out.below hb K4.out.lt)
        refine hK'.out _ _ (SA.out _ KP.out) (fun hS => ?_)
        clear hK' K' hb
        refine wpAnyH_ready (rs := [9]) (by kernel_rfl) (by simp) ?_
        refine AllReadyH.cons rfl (fun K' hK' => ?_) AllReadyH.nil
        have fz := K3.out.frozen
        obtain ⟨r0, r1, r2, r3⟩ := SB.cells (show SB _ p3 zeroS from K3.out)
        go_simp
        replace BV := Hid.of (below_set4 BV.out (b' := p3) P3.out (.int .u64 (T0 0)) (.int .u64 (T0 1)) (.int .u64 (T0 2)) (.int .u64 (T0 3)))
        replace KP := Hid.of (Blk.other4 KP.out (b' := p3) (show w.heap.size ≠ p3 by have := P3.out; have := HWV.out; omega) (.int .u64 (T0 0)) (.int .u64 (T0 1)) (.int .u64 (T0 2)) (.int .u64 (T0 3)))
        replace K4 := Hid.of (Blk.other4 K4.out (b' := p3) (Ne.symm N34.out) (.int .u64 (T0 0)) (.int .u64 (T0 1)) (.int .u64 (T0 2)) (.int .u64 (T0 3)))
        replace K3 := Hid.of (SB.set4 (show SB _ p3 zeroS from K3.out) T0)
        refine hK'.out _ _ (SA.out _ KP.out) (fun hS6 => ?_)
        clear hK' K' fz r0 r1 r2 r3 hS
        refine wpAnyH_ready (rs := [10]) (by kernel_rfl) (by simp) ?_
        refine AllReadyH.cons rfl (fun K' hK' => ?_) AllReadyH.nil
        have fz := K4.out.frozen
        obtain ⟨r0, r1, r2, r3⟩ := SB.cells (show SB _ p4 zeroS from K4.out)
        go_simp
        replace BV := Hid.of (below_set4 BV.out (b' := p4) P4.out (.int .u64 (R0 0)) (.int .u64 (R0 1)) (.int .u64 (R0 2)) (.int .u64 (R0 3)))
        replace KP := Hid.of (Blk.other4 KP.out (b' := p4) (show w.heap.size ≠ p4 by have := P4.out; have := HWV.out; omega) (.int .u64 (R0 0)) (.int .u64 (R0 1)) (.int .u64 (R0 2)) (.int .u64 (R0 3)))
        replace K3 := Hid.of (Blk.other4 K3.out (b' := p4) N34.out (.int .u64 (R0 0)) (.int .u64 (R0 1)) (.int .u64 (R0 2)) (.int .u64 (R0 3)))
        replace K4 := Hid.of (SB.set4 (show SB _ p4 zeroS from K4.out) R0)
        refine hK'.out _ _ (SA.out _ KP.out) (fun hS7 => ?_)
        clear hK' K' fz r0 r1 r2 r3 hS6
        refine wpAnyH_done (by kernel_rfl) ?_ _
        exact ⟨p3, p4, _, _, _, _, _, _, _, rfl, K3.out, K4.out, BV.out⟩
    · clear hS
      go_simp
      have hb : Below Y0.heap.size Y0 (Y0.alloc (.cells zs4 69)) := (Below.refl _ _).alloc (Nat.le_refl _) _
      have P4 := Hid.of (show V1.heap.size ≤ Y0.heap.size from BV.out.size)
      replace BV := Hid.of (BV.out.trans (hb.mono BV.out.size))
      replace KP := Hid.of (KP.out.below hb KP.out.lt)
      have K4 := Hid.of (Blk.new Y0 69 zs4)
      refine hK'.out _ _ (SA.out _ KP.out) (fun hS => ?_)
      clear hK' K' hb
      revert P4 BV KP K4 hS
      generalize Y0.alloc (.cells zs4 69) = Y26
      generalize Y0.heap.size = p4
      intro P4 BV KP K4 hS
      refine wpAnyH_ready (rs := [3, 7]) (by kernel_rfl) (by simp) ?_
      refine AllReadyH.cons rfl (fun K' hK' => ?_) (AllReadyH.cons rfl (fun K' hK' => ?_) AllReadyH.nil)
      · clear hS
        go_simp
        refine (OF1.out Y26 (B.out.trans (BV.out.mono B.out.size))).mono ?_
        rintro e Y27 ⟨rfl, hb⟩
        replace BV := Hid.of (BV.out.trans (hb.mono BV.out.size))
        replace KP := Hid.of (KP.out.below hb KP.out.lt)
        replace K4 := Hid.of (K4.out.below hb K4.out.lt)
        refine hK'.out _ _ (SA.out _ KP.out) (fun hS => ?_)
        clear hK' K' hb
        refine wpAnyH_ready (rs := [6, 7]) (by kernel_rfl) (by simp) ?_
        refine AllReadyH.cons rfl (fun K' hK' => ?_) (AllReadyH.cons rfl (fun K' hK' => ?_) AllReadyH.nil)
        · clear hS
          go_simp
          refine (OF2.out Y27 (B.out.trans (BV.out.mono B.out.size))).mono ?_
          rintro e Y28 ⟨rfl, hb⟩
          replace BV := Hid.of (BV.out.trans (hb.mono BV.out.size))
          replace KP := Hid.of (KP.out.below hb KP.out.lt)
          replace K4 := Hid.of (K4.out.below hb K4.out.lt)
          refine hK'.out _ _ (SA.out _ KP.out) (fun hS => ?_)
          clear hK' K' hb
          refine wpAnyH_ready (rs := [7]) (by kernel_rfl) (by simp) ?_
          refine AllReadyH.cons rfl (fun K' hK' => ?_) AllReadyH.nil
          clear hS
          go_simp
          have hb : Below Y28.heap.size Y28 (Y28.alloc (.cells zs4 69)) := (Below.refl _ _).alloc (Nat.le_refl _) _
          have P3 := Hid.of (show V1.heap.size ≤ Y28.heap.size from BV.out.size)
          have N34 := Hid.of (Nat.ne_of_gt K4.out.lt)
          replace BV := Hid.of (BV.out.trans (hb.mono BV.out.size))
          replace KP := Hid.of (KP.out.below hb KP.out.lt)
          replace K4 := Hid.of (K4.out.below hb K4.out.lt)
          have K3 := Hid.of (Blk.new Y28 69 zs4)
          refine hK'.out _ _ (SA.out _ KP.out) (fun hS => ?_)
          clear hK' K' hb
          revert P3 N34 BV KP K4 K3 hS
          generalize Y28.alloc (.cells zs4 69) = Y29
          generalize Y28.heap.size = p3
          intro P3 N34 BV KP K4 K3 hS
          refine wpAnyH_ready (rs := [9]) (by kernel_rfl) (by simp) ?_
          refine AllReadyH.cons rfl (fun K' hK' => ?_) AllReadyH.nil
          have fz := K3.out.frozen
          obtain ⟨r0, r1, r2, r3⟩ := SB.cells (show SB _ p3 zeroS from K3.out)
          go_simp
          replace BV := Hid.of (below_set4 BV.out (b' := p3) P3.out (.int .u64 (T0 0)) (.int .u64 (T0 1)) (.int .u64 (T0 2)) (.int .u64 (T0 3)))
          replace KP := Hid.of (Blk.other4 KP.out (b' := p3) (show w.heap.size ≠ p3 by have := P3.out; have := HWV.out; omega) (.int .u64 (T0 0)) (.int .u64 (T0 1)) (.int .u64 (T0 2)) (.int .u64 (T0 3)))
          replace K4 := Hid.of (Blk.other4 K4.out (b' := p3) (Ne.symm N34.out) (.int .u64 (T0 0)) (.int .u64 (T0 1)) (.int .u64 (T0 2)) (.int .u64 (T0 3)))
          replace K3 := Hid.of (SB.set4 (show SB _ p3 zeroS from K3.out) T0)
          refine hK'.out _ _ (SA.out _ KP.out) (fun hS6 => ?_)
          clear hK' K' fz r0 r1 r2 r3 hS
          refine wpAnyH_ready (rs := [10]) (by kernel_rfl) (by simp) ?_
          refine AllReadyH.cons rfl (fun K' hK' => ?_) AllReadyH.nil
          have fz := K4.out.frozen
          obtain ⟨r0, r1, r2, r3⟩ := SB.cells (show SB _ p4 zeroS from K4.out)
          go_simp
          replace BV := Hid.of (below_set4 BV.out (b' := p4) P4.out (.int .u64 (R0 0)) (.int .u64 (R0 1)) (.int .u64 (R0 2)) (.int .u64 (R0 3)))
          replace KP := Hid.of (Blk.other4 KP.out (b' := p4) (show w.heap.size ≠ p4 by have := P4.out; have := HWV.out; omega) (.int .u64 (R0 0)) (.int .u64 (R0 1)) (.int .u64 (R0 2)) (.int .u64 (R0 3)))
          replace K3 := Hid.of (Blk.other4 K3.out (b' := p4) N34.out (.int .u64 (R0 0)) (.int .u64 (R0 1)) (.int .u64 (R0 2)) (.int .u64 (R0 3)))
          replace K4 := Hid.of (SB.set4 (show SB _ p4 zeroS from K4.out) R0)
          refine hK'.out _ _ (SA.out _ KP.out) (fun hS7 => ?_)
          clear hK' K' fz r0 r1 r2 r3 hS6
          refine wpAnyH_done (by kernel_rfl) ?_ _
          exact ⟨p3, p4, _, _, _, _, _, _, _, rfl, K3.out, K4.out, BV.out⟩
        · clear hS
          go_simp
          have hb : Below Y27.heap.size Y27 (Y27.alloc (.cells zs4 69)) := (Below.refl _ _).alloc (Nat.le_refl _) _
          have P3 := Hid.of (show V1.heap.size ≤ Y27.heap.size from BV.out.size)
          have N34 := Hid.of (Nat.ne_of_gt K4.out.lt)
          replace BV := Hid.of (BV.out.trans (hb.mono BV.out.size))
          replace KP := Hid.of (KP.out.below hb KP.out.lt)
          replace K4 := Hid.of (K4.out.below hb K4.out.lt)
          have K3 := Hid.of (Blk.new Y27 69 zs4)
          refine hK'.out _ _ (SA.out _ KP.out) (fun hS => ?_)
          clear hK' K' hb
          revert P3 N34 BV KP K4 K3 hS
          generalize Y27.alloc (.cells zs4 69) = Y30
          generalize Y27.heap.size = p3
          intro P3 N34 BV KP K4 K3 hS
          refine wpAnyH_ready (rs := [6]) (by kernel_rfl) (by simp) ?_
          refine AllReadyH.cons rfl (fun K' hK' => ?_) AllReadyH.nil
          clear hS
          go_simp
          refine (OF2.out Y30 (B.out.trans (BV.out.mono B.out.size))).mono ?_
          rintro e Y31 ⟨rfl, hb⟩
          replace BV := Hid.of (BV.out.trans (hb.mono BV.out.size))
          replace KP := Hid.of (KP.out.below hb KP.out.lt)
          replace K4 := Hid.of (K4.out.below hb K4.out.lt)
          replace K3 := Hid.of (K3.out.below hb K3.out.lt)
          refine hK'.out _ _ (SA.out _ KP.out) (fun hS => ?_)
          clear hK' K' hb
          refine wpAnyH_ready (rs := [9]) (by kernel_rfl) (by simp) ?_
          refine AllReadyH.cons rfl (fun K' hK' => ?_) AllReadyH.nil
          have fz := K3.out.frozen
          obtain ⟨r0, r1, r2, r3⟩ := SB.cells (show SB _ p3 zeroS from K3.out)
          go_simp
          replace BV := Hid.of (below_set4 BV.out (b' := p3) P3.out (.int .u64 (T0 0)) (.int .u64 (T0 1)) (.int .u64 (T0 2)) (.int .u64 (T0 3)))
          replace KP := Hid.of (Blk.other4 KP.out (b' := p3) (show w.heap.size ≠ p3 by have := P3.out; have := HWV.out; omega) (.int .u64 (T0 0)) (.int .u64 (T0 1)) (.int .u64 (T0 2)) (.int .u64 (T0 3)))
          replace K4 := Hid.of (Blk.other4 K4.out (b' := p3) (Ne.symm N34.out) (.int .u64 (T0 0)) (.int .u64 (T0 1)) (.int .u64 (T0 2)) (.int .u64 (T0 3)))
          replace K3 := Hid.of (SB.set4 (show SB _ p3 zeroS from K3.out) T0)
          refine hK'.out _ _ (SA.out _ KP.out) (fun hS6 => ?_)
          clear hK' K' fz r0 r1 r2 r3 hS
          refine wpAnyH_ready (rs := [10]) (by kernel_rfl) (by simp) ?_
          refine AllReadyH.cons rfl (fun K' hK' => ?_) AllReadyH.nil
          have fz := K4.out.frozen
          obtain ⟨r0, r1, r2, r3⟩ := SB.cells (show SB _ p4 zeroS from K4.out)
          go_simp
          replace BV := Hid.of (below_set4 BV.out (b' := p4) P4.out (.int .u64 (R0 0)) (.int .u64 (R0 1)) (.int .u64 (R0 2)) (.int .u64 (R0 3)))
          replace KP := Hid.of (Blk.other4 KP.out (b' := p4) (show w.heap.size ≠ p4 by have := P4.out; have := HWV.out; omega) (.int .u64 (R0 0)) (.int .u64 (R0 1)) (.int .u64 (R0 2)) (.int .u64 (R0 3)))
          replace K3 := Hid.of (Blk.other4 K3.out (b' := p4) N34.out (.int .u64 (R0 0)) (.int .u64 (R0 1)) (.int .u64 (R0 2)) (.int .u64 (R0 3)))
          replace K4 := Hid.of (SB.set4 (show SB _ p4 zeroS from K4.out) R0)
          refine hK'.out _ _ (SA.out _ KP.out) (fun hS7 => ?_)
          clear hK' K' fz r0 r1 r2 r3 hS6
          refine wpAnyH_done (by kernel_rfl) ?_ _
          exact ⟨p3, p4, _, _, _, _, _, _, _, rfl, K3.out, K4.out, BV.out⟩
      · clear hS
        go_simp
        have hb : Below Y26.heap.size Y26 (Y26.alloc (.cells zs4 69)) := (Below.refl _ _).alloc (Nat.le_refl _) _
        have P3 := Hid.of (show V1.heap.size ≤ Y26.heap.size from BV.out.size)
        have N34 := Hid.of (Nat.ne_of_gt K4.out.lt)
        replace BV := Hid.of (BV.out.trans (hb.mono BV.out.size))
        replace KP := Hid.of (KP.out.below hb KP.out.lt)
        replace K4 := Hid.of (K4.out.below hb K4.out.lt)
        have K3 := Hid.of (Blk.new Y26 69 zs4)
        refine hK'.out _ _ (SA.out _ KP.out) (fun hS => ?_)
        clear hK' K' hb
        revert P3 N34 BV KP K4 K3 hS
        generalize Y26.alloc (.cells zs4 69) = Y32
        generalize Y26.heap.size = p3
        intro P3 N34 BV KP K4 K3 hS
        refine wpAnyH_ready (rs := [3]) (by kernel_rfl) (by simp) ?_
        refine AllReadyH.cons rfl (fun K' hK' => ?_) AllReadyH.nil
        clear hS
        go_simp
        refine (OF1.out Y32 (B.out.trans (BV.out.mono B.out.size))).mono ?_
        rintro e Y33 ⟨rfl, hb⟩
        replace BV := Hid.of (BV.out.trans (hb.mono BV.out.size))
        replace KP := Hid.of (KP.out.below hb KP.out.lt)
        replace K4 := Hid.of (K4.out.below hb K4.out.lt)
        replace K3 := Hid.of (K3.out.below hb K3.out.lt)
        refine hK'.out _ _ (SA.out _ KP.out) (fun hS => ?_)
        clear hK' K' hb
        refine wpAnyH_ready (rs := [6]) (by kernel_rfl) (by simp) ?_
        refine AllReadyH.cons rfl (fun K' hK' => ?_) AllReadyH.nil
        clear hS
        go_simp
        refine (OF2.out Y33 (B.out.trans (BV.out.mono B.out.size))).mono ?_
        rintro e Y34 ⟨rfl, hb⟩
        replace BV := Hid.of (BV.out.trans (hb.mono BV.out.size))
        replace KP := Hid.of (KP.out.below hb KP.out.lt)
        replace K4 := Hid.of (K4.out.below hb K4.out.lt)
        replace K3 := Hid.of (K3.out.below hb K3.out.lt)
        refine hK'.out _ _ (SA.out _ KP.out) (fun hS => ?_)
        clear hK' K' hb
        refine wpAnyH_ready (rs := [9]) (by kernel_rfl) (by simp) ?_
        refine AllReadyH.cons rfl (fun K' hK' => ?_) AllReadyH.nil
        have fz := K3.out.frozen
        obtain ⟨r0, r1, r2, r3⟩ := SB.cells (show SB _ p3 zeroS from K3.out)
        go_simp
        replace BV := Hid.of (below_set4 BV.out (b' := p3) P3.out (.int .u64 (T0 0)) (.int .u64 (T0 1)) (.int .u64 (T0 2)) (.int .u64 (T0 3)))
        replace KP := Hid.of (Blk.other4 KP.out (b' := p3) (show w.heap.size ≠ p3 by have := P3.out; have := HWV.out; omega) (.int .u64 (T0 0)) (.int .u64 (T0 1)) (.int .u64 (T0 2)) (.int .u64 (T0 3)))
        replace K4 := Hid.of (Blk.other4 K4.out (b' := p3) (Ne.symm N34.out) (.int .u64 (T0 0)) (.int .u64 (T0 1)) (.int .u64 (T0 2)) (.int .u64 (T0 3)))
        replace K3 := Hid.of (SB.set4 (show SB _ p3 zeroS from K3.out) T0)
        refine hK'.out _ _ (SA.out _ KP.out) (fun hS6 => ?_)
        clear hK' K' fz r0 r1 r2 r3 hS
        refine wpAnyH_ready (rs := [10]) (by kernel_rfl) (by simp) ?_
        refine AllReadyH.cons rfl (fun K' hK' => ?_) AllReadyH.nil
        have fz := K4.out.frozen
        obtain ⟨r0, r1, r2, r3⟩ := SB.cells (show SB _ p4 zeroS from K4.out)
        go_simp
        replace BV := Hid.of (below_set4 BV.out (b' := p4) P4.out (.int .u64 (R0 0)) (.int .u64 (R0 1)) (.int .u64 (R0 2)) (.int .u64 (R0 3)))
        replace KP := Hid.of (Blk.other4 KP.out (b' := p4) (show w.heap.size ≠ p4 by have := P4.out; have := HWV.out; omega) (.int .u64 (R0 0)) (.int .u64 (R0 1)) (.int .u64 (R0 2)) (.int .u64 (R0 3)))
        replace K3 := Hid.of (Blk.other4 K3.out (b' := p4) N34.out (.int .u64 (R0 0)) (.int .u64 (R0 1)) (.int .u64 (R0 2)) (.int .u64 (R0 3)))
        replace K4 := Hid.of (SB.set4 (show SB _ p4 zeroS from K4.out) R0)
        refine hK'.out _ _ (SA.out _ KP.out) (fun hS7 => ?_)
        clear hK' K' fz r0 r1 r2 r3 hS6
        refine wpAnyH_done (by kernel_rfl) ?_ _
        exact ⟨p3, p4, _, _, _, _, _, _, _, rfl, K3.out, K4.out, BV.out⟩
  case aft =>
    refine regQ_imp ?_
    rintro a' V ⟨p3, p4, r19, r20, r21, r22, r23, r24, r25, rfl, s3, s4, hb3⟩
    have K3 := Hid.of s3
    have K4 := Hid.of s4
    replace B := Hid.of (B.out.trans (hb3.mono B.out.size))
    replace HRD := Hid.of (HRD.out.below hb3)
    replace HIN : Hid (∀ q ∈ L, InnW 0 V q.v q.word) := fun q hq => (HIN.out q hq).below hb3 (Nat.zero_le _)
    clear hb3 s3 s4 KP
    have HN0 : Hid (∀ (j : Nat) (y : List Int × List Int), j < 0 → l[j]? = some y → tellB p y.1 = false) := fun j y hj => absurd hj (Nat.not_lt_zero _)
    have B0 : Hid (Below V.heap.size V V) := Below.refl _ _
    go_wp2_with fail
    go_loopw [28] (fun i wr => ∃ k : Nat, i = .int .i64 k ∧ k ≤ L.length ∧ Hid (Below V.heap.size V wr) ∧ Hid (∀ (j : Nat) (y : List Int × List Int), j < k → l[j]? = some y → tellB p y.1 = false)) (fun i _ => L.length - (intOf i).toNat)
    case atStart => exact ⟨0, rfl, Nat.zero_le _, B0, HN0⟩
    case round =>
      clear B0 HN0
      obtain ⟨k, rfl, hk, HB, HN⟩ := hrel
      by_cases hlt : k < L.length
      · obtain ⟨q, HQ⟩ : ∃ q, Hid (L[k]? = some q) := ⟨_, List.getElem?_eq_getElem hlt⟩
        obtain ⟨x, hx, hrx⟩ := HRP.out.rep k q HQ.out
        have HX := Hid.of hx
        have HRX := Hid.of hrx.1
        have HWX : Hid (q.word = wordS p.seen x.2) := HWD.out k q x HQ.out hx
        obtain ⟨za, zc, hzv, hat, hzl, -⟩ := (HIN.out q (List.mem_of_getElem? HQ.out)).at
        have HAT := Hid.of hat
        have HZL := Hid.of hzl
        rcases HRD.out with h0 | ⟨g, o, hra, hg, hc⟩
        · rw [h0] at hlt; simp at hlt
        subst hra
        obtain ⟨qs, qv, qw⟩ := q
        dsimp only at hzv HAT HZL HWX HRX
        subst hzv
        obtain ⟨d0, d1, d2, d3, d4⟩ := rdc_cells (hc k _ HQ.out)
        have c0 := (HB.out.cell (p := ⟨g, o + k * 5, none⟩) hg).trans d0
        have c1 := (HB.out.cell (p := ⟨g, o + k * 5 + 1, none⟩) hg).trans d1
        have c2 := (HB.out.cell (p := ⟨g, o + k * 5 + 2, none⟩) hg).trans d2
        have c3 := (HB.out.cell (p := ⟨g, o + k * 5 + 3, none⟩) hg).trans d3
        have c4 := (HB.out.cell (p := ⟨g, o + k * 5 + 4, none⟩) hg).trans d4
        dsimp only at c0 c1 c2 c3 c4
        have N1 : Hid (Blk (wr.alloc (.cells (pcarr ⟨qs, .slice za qw.length zc, qw⟩) 99)) wr.heap.size 99 (pcarr ⟨qs, .slice za qw.length zc, qw⟩)) := Blk.new wr _ _
        have B1 : Hid (Below V.heap.size V (wr.alloc (.cells (pcarr ⟨qs, .slice za qw.length zc, qw⟩) 99))) := HB.out.alloc HB.out.size _
        have hltI : (k : Int) < (L.length : Int) := by omega
        clear hx hrx hat hzl hc d0 d1 d2 d3 d4
        go_wp2_with fail
        clear c0 c1 c2 c3 c4 hltI HB
        revert N1 B1
        generalize wr.alloc (.cells (pcarr ⟨qs, .slice za qw.length zc, qw⟩) 99) = W1
        generalize wr.heap.size = pq
        intro N1 B1
        have HOUT : Hid (onlyS (meetS qs T0) R0 = tellB p x.1) := tell_set HRX.out HRT.out HRR.out
        have SA8 : Hid (∀ W, Blk W pq 99 (pcarr ⟨qs, .slice za qw.length zc, qw⟩) → Below V.heap.size V W → W.cell? ⟨pq, 0, none⟩ = some (.int .u64 (qs 0)) ∧ W.cell? ⟨pq, 1, none⟩ = some (.int .u64 (qs 1)) ∧ W.cell? ⟨pq, 2, none⟩ = some (.int .u64 (qs 2)) ∧ W.cell? ⟨pq, 3, none⟩ = some (.int .u64 (qs 3)) ∧ W.cell? ⟨p3, 0, none⟩ = some (.int .u64 (T0 0)) ∧ W.cell? ⟨p3, 1, none⟩ = some (.int .u64 (T0 1)) ∧ W.cell? ⟨p3, 2, none⟩ = some (.int .u64 (T0 2)) ∧ W.cell? ⟨p3, 3, none⟩ = some (.int .u64 (T0 3)) ∧ W.cell? ⟨p4, 0, none⟩ = some (.int .u64 (R0 0)) ∧ W.cell? ⟨p4, 1, none⟩ = some (.int .u64 (R0 1)) ∧ W.cell? ⟨p4, 2, none⟩ = some (.int .u64 (R0 2)) ∧ W.cell? ⟨p4, 3, none⟩ = some (.int .u64 (R0 3))) := fun W h1 h2 => by
          obtain ⟨n0, n1, n2, n3, -⟩ := PCk.cells h1
          obtain ⟨y0, y1, y2, y3⟩ := SB.cells (K3.out.below h2 K3.out.lt)
          obtain ⟨z0, z1, z2, z3⟩ := SB.cells (K4.out.below h2 K4.out.lt)
          exact ⟨n0, n1, n2, n3, y0, y1, y2, y3, z0, z1, z2, z3⟩
        refine Code.wp_mono (Q := regQ fun a' X => ∃ (v2 v3 v4 u38 u39 u40 : Value), a' = { tmps := #[ptval p ⟨Pl, sa, sc, ta, tc⟩, .pointer (some ⟨w.heap.size, 0, none⟩), v2, v3, v4, .slice (some ⟨g, o, none⟩) L.length rc, .int .i64 0, .pointer (some ⟨p3, 0, none⟩), .pointer (some ⟨p4, 0, none⟩), undef, .pointer (some ⟨pq, 0, none⟩), .tuple #[.slice (some ⟨g, o, none⟩) L.length rc, .int .i64 0], ptval p ⟨Pl, sa, sc, ta, tc⟩, .tuple #[.slice (some ⟨g, o, none⟩) L.length rc, .int .i64 0], .slice (some ⟨g, o, none⟩) L.length rc, .int .i64 0, .int .i64 0, .bool false, undef, r19, r20, r21, r22, r23, r24, r25, .slice (some ⟨g, o, none⟩) L.length rc, .int .i64 L.length, .int .i64 k, .bool true, .pointer (some ⟨g, o + k * 5, none⟩), pcval ⟨qs, .slice za qw.length zc, qw⟩, .pointer (some ⟨pq, 0, none⟩), sval qs, sval T0, sval (meetS qs T0), sval R0, .bool (onlyS (meetS qs T0) R0), u38, u39, u40], defers := [] } ∧ Blk X pq 99 (pcarr ⟨qs, .slice za qw.length zc, qw⟩) ∧ Below V.heap.size V X) ?aft8 ?reg8
        case reg8 =>
          refine wp_region_held_drew (S := fun w' => w'.cell? ⟨pq, 0, none⟩ = some (.int .u64 (qs 0)) ∧ w'.cell? ⟨pq, 1, none⟩ = some (.int .u64 (qs 1)) ∧ w'.cell? ⟨pq, 2, none⟩ = some (.int .u64 (qs 2)) ∧ w'.cell? ⟨pq, 3, none⟩ = some (.int .u64 (qs 3)) ∧ w'.cell? ⟨p3, 0, none⟩ = some (.int .u64 (T0 0)) ∧ w'.cell? ⟨p3, 1, none⟩ = some (.int .u64 (T0 1)) ∧ w'.cell? ⟨p3, 2, none⟩ = some (.int .u64 (T0 2)) ∧ w'.cell? ⟨p3, 3, none⟩ = some (.int .u64 (T0 3)) ∧ w'.cell? ⟨p4, 0, none⟩ = some (.int .u64 (R0 0)) ∧ w'.cell? ⟨p4, 1, none⟩ = some (.int .u64 (R0 1)) ∧ w'.cell? ⟨p4, 2, none⟩ = some (.int .u64 (R0 2)) ∧ w'.cell? ⟨p4, 3, none⟩ = some (.int .u64 (R0 3))) (by kernel_rfl) (SA8.out _ (Blk.drew N1.out) B1.out.drew) (fun hS => ?_)
          replace N1 : Hid (Blk W1.drew pq 99 (pcarr ⟨qs, .slice za qw.length zc, qw⟩)) := Blk.drew N1.out
          replace B1 : Hid (Below V.heap.size V W1.drew) := B1.out.drew
          revert hS N1 B1
          generalize W1.drew = X0
          intro hS N1 B1
          refine wpAnyH_take (i := 0) (v := .pointer (some ⟨pq, 0, none⟩)) rfl (by kernel_rfl) (by kernel_rfl) (by kernel_rfl) (fun _ _ _ h => h) (Or.inl ⟨by kernel_rfl, fun w' hw' => by obtain ⟨q0, q1, q2, q3, q4, q5, q6, q7, q8, q9, q10, q11⟩ := hw'; go_simp⟩) hS ?_
          refine wpAnyH_take (i := 1) (v := sval qs) rfl (by kernel_rfl) (by kernel_rfl) (by kernel_rfl) (fun _ _ _ h => h) (Or.inl ⟨by kernel_rfl, fun w' hw' => by obtain ⟨q0, q1, q2, q3, q4, q5, q6, q7, q8, q9, q10, q11⟩ := hw'; go_simp⟩) hS ?_
          refine wpAnyH_take (i := 2) (v := sval T0) rfl (by kernel_rfl) (by kernel_rfl) (by kernel_rfl) (fun _ _ _ h => h) (Or.inl ⟨by kernel_rfl, fun w' hw' => by obtain ⟨q0, q1, q2, q3, q4, q5, q6, q7, q8, q9, q10, q11⟩ := hw'; go_simp⟩) hS ?_
          refine wpAnyH_take (i := 4) (v := sval R0) rfl (by kernel_rfl) (by kernel_rfl) (by kernel_rfl) (fun _ _ _ h => h) (Or.inl ⟨by kernel_rfl, fun w' hw' => by obtain ⟨q0, q1, q2, q3, q4, q5, q6, q7, q8, q9, q10, q11⟩ := hw'; go_simp⟩) hS ?_
          simp only [Act.put, List.setIfInBounds_toArray]
          refine wpAnyH_ready (rs := [3]) (by kernel_rfl) (by simp) ?_
          refine AllReadyH.cons rfl (fun K' hK' => ?_) AllReadyH.nil
          clear hS
          go_simp
          refine (meet_any qs T0 _ HRX.out.ok HRT.out.ok).mono ?_
          rintro e X1 ⟨rfl, hb⟩
          replace N1 := Hid.of (N1.out.below hb N1.out.lt)
          replace B1 := Hid.of (B1.out.trans (hb.mono B1.out.size))
          refine hK'.out _ _ (SA8.out _ N1.out B1.out) (fun hS => ?_)
          clear hK' K' hb
          refine wpAnyH_ready (rs := [5]) (by kernel_rfl) (by simp) ?_
          refine AllReadyH.cons rfl (fun K' hK' => ?_) AllReadyH.nil
          clear hS
          go_simp
          refine (onlyIn_any (meetS qs T0) R0 (okS_meet HRX.out.ok) HRR.out.ok _).mono ?_
          rintro e X2 ⟨rfl, hb⟩
          replace N1 := Hid.of (N1.out.below hb N1.out.lt)
          replace B1 := Hid.of (B1.out.trans (hb.mono B1.out.size))
          refine hK'.out _ _ (SA8.out _ N1.out B1.out) (fun hS => ?_)
          clear hK' K' hb
          refine wpAnyH_done (by kernel_rfl) ?_ _
          exact ⟨_, _, _, _, _, _, rfl, N1.out, B1.out⟩
        case aft8 =>
          refine regQ_imp ?_
          rintro a' W2 ⟨v2, v3, v4, u38, u39, u40, rfl, n2, b2⟩
          have N2 := Hid.of n2
          have B2 := Hid.of b2
          clear n2 b2 N1 B1 SA8
          cases hout : onlyS (meetS qs T0) R0 with
          | true =>
            have HW : Hid (outI p = some qw) := by
              show _ = _
              rw [HWX.out]
              exact orig_found hp.out HOL.out HN.out HX.out (by rw [← HOUT.out]; exact hout)
            clear hout HOUT
            go_wp2_with fail
            refine wp_region_held_drew (S := fun w' => w'.cell? ⟨pq, 4, none⟩ = some (.slice za qw.length zc)) (by kernel_rfl) ((Blk.drew N2.out).cell 4 rfl) (fun hS => ?_)
            refine wpAnyH_take (i := 0) (v := .pointer (some ⟨pq, 4, none⟩)) rfl (by kernel_rfl) (by kernel_rfl) (by kernel_rfl) (fun _ _ _ h => h) (Or.inl ⟨by kernel_rfl, fun w' hw' => by go_simp⟩) hS ?_
            refine wpAnyH_take (i := 1) (v := .slice za qw.length zc) rfl (by kernel_rfl) (by kernel_rfl) (by kernel_rfl) (fun _ _ _ h => h) (Or.inl ⟨by kernel_rfl, fun w' hw' => by go_simp⟩) hS ?_
            refine wpAnyH_take (i := 2) (v := .bool true) rfl (by kernel_rfl) (by kernel_rfl) (by kernel_rfl) (fun _ _ _ h => h) (Or.inl ⟨by kernel_rfl, fun w' hw' => by go_simp⟩) hS ?_
            refine wpAnyH_take (i := 3) (v := .slice za qw.length zc) rfl (by kernel_rfl) (by kernel_rfl) (by kernel_rfl) (fun _ _ _ h => h) (Or.inl ⟨by kernel_rfl, fun w' hw' => by go_simp⟩) hS ?_
            refine wpAnyH_take (i := 4) (v := .int .i64 0) rfl (by kernel_rfl) (by kernel_rfl) (by kernel_rfl) (fun _ _ _ h => h) (Or.inl ⟨by kernel_rfl, fun w' hw' => by go_simp⟩) hS ?_
            refine wpAnyH_done (by kernel_rfl) ?_ _
            clear hS
            go_wp2_with fail
            refine bodyPost_ret (v := .tuple #[.bool true, .slice za qw.length zc, .int .i64 0]) (by simp [results, go_sem]) rfl ?_
            rw [leakOut_ok hp.out, HW.out]
            exact ⟨za, zc, rfl, HAT.out.below B2.out.drew (Nat.le_refl _), HZL.out, B.out.trans (B2.out.drew.mono B.out.size)⟩
          | false =>
            have HNN : Hid (∀ (j : Nat) (y : List Int × List Int), j < k + 1 → l[j]? = some y → tellB p y.1 = false) := no_more (f := tellB p) HN.out HX.out (by rw [← HOUT.out]; exact hout)
            clear hout HOUT
            go_wp2_with fail
            go_roundw
            case rel => exact ⟨k + 1, by go_num, by omega, B2, HNN⟩
            case measure => simp [intOf]; omega
      · have hkl : k = L.length := by omega
        subst hkl
        have HW : Hid (outI p = none) := orig_not hp.out HOL.out HN.out (by rw [HRP.out.len]; exact Nat.le_refl _)
        clear hlt
        go_wp2_with fail
        refine bodyPost_ret (v := .tuple #[.bool false, .slice none 0 0, .int .i64 0]) (by simp [results, go_sem]) rfl ?_
        rw [leakOut_ok hp.out, HW.out]
        exact ⟨none, 0, rfl, .inl rfl, Nat.zero_le _, B.out.trans (HB.out.mono B.out.size)⟩

theorem pLeakI_any (p : Plant) (P : PTL) (w : World) (h : PAt w p P) (hT : Tab w) :
    Calls Tryd.prog 42 #[ptval p P] w fun e w' => LeakPost w (leakOut p (outI p)) e w' := by
  cases hp : mayP p with
  | false => exact leakI_bad p P w (Hid.of h) (Hid.of hp)
  | true =>
    obtain ⟨Pl, sa, sc, ta, tc⟩ := P
    exact leakI_ok p Pl sa sc ta tc w (Hid.of h) (Hid.of hT) (Hid.of hp)

end Go.Proofs.YtmimjpkllgjdkaaDoor
