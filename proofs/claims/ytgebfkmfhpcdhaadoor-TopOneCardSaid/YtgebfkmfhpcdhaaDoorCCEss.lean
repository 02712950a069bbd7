/-
  The walk of current.Estimates.
-/
import Derived.Test.YtgebfkmfhpcdhaaDoorG47
import Derived.Test.YtgebfkmfhpcdhaaDoorG33
import Derived.Test.YtgebfkmfhpcdhaaDoorG20
import Derived.Test.YtgebfkmfhpcdhaaDoorG04
import Derived.Test.YtgebfkmfhpcdhaaDoorG12
namespace Go.Proofs.YtgebfkmfhpcdhaaDoor
open Go.RowKit
set_option linter.unusedVariables false

abbrev pc0 (Q : Nat → Nat) : Array Value := #[.int .u64 (Q 0), .int .u64 (Q 1), .int .u64 (Q 2), .int .u64 (Q 3), .slice none 0 0]
theorem entsC_s (L : List PlC) {p q : PlC} (h : p.s = q.s) : entsC (L ++ [p]) = entsC (L ++ [q]) := by
  rw [entsC_snoc, entsC_snoc]; unfold entC; rw [h]
theorem ownC_low {W : World} {B B' : Nat} {v : Value} {L : List PlC} (h : OwnC W B v L) (hb : B' ≤ B) : OwnC W B' v L := by
  refine ⟨h.1, ?_⟩
  rcases h.2 with h0 | ⟨g, cap, cur, e, hg, hr⟩
  · exact .inl h0
  · exact .inr ⟨g, cap, cur, e, Nat.le_trans hb hg, hr⟩
theorem LCI.nebr {B : Nat} {W : World} {br hp : Nat} {vs : Value} {L : List PlC} {t : TypeId} {cs : Array Value} (h : LCI B W br vs L) (hh : Blk W hp t cs) : hp ≠ br := fun e => by
  have hm := h.mp
  rw [← e, show W.heap[hp]? = _ from hh] at hm; cases hm
/-- The block that a search's row lies in, apart from another one, stays apart. -/
theorem blk_grown {W W2 : World} {b : Nat} {row : Option Nat} {t : TypeId} {cs : Array Value} (h : Blk W b t cs) (g : W.grownBy W2 row) (hn : row ≠ some b) : Blk W2 b t cs := (g.block b h.lt (fun e => hn e.symm)).trans h
theorem sb_apart {W : World} {B n b : Nat} {v : Value} {vs : List Value} {S : Nat → Nat} (ho : W.ownsRow B 118 5 v n vs) (h : SB W b S) : v.ownBlock ≠ some b := fun e => by
  obtain ⟨c2, h2⟩ := own_type ho e
  rw [show W.heap[b]? = _ from h] at h2; cases h2

set_option maxRecDepth 100000 in
set_option maxHeartbeats 4000000 in
theorem ests_bad (p : Plant) (P : PTL) (w : World) (h : Hid (PAt w p P)) (hp : Hid (mayP p = false)) :
    Calls Tryd.prog 86 #[ptval p P] w fun e w' => e = .returned (.tuple #[.slice none 0 0, .int .i64 2]) ∧ Below w.heap.size w w' := by
  have B : Hid (Below w.heap.size w (w.alloc (.cells (ptcells p P) 46))) := (Below.refl _ _).alloc (Nat.le_refl _) _
  have KP : Hid (Blk (w.alloc (.cells (ptcells p P) 46)) w.heap.size 46 (ptcells p P)) := Blk.new w _ _
  go_enter Tryd.func86, Tryd.ntmps86
  obtain ⟨x0, x1, x2, x3, x4, x5, x6⟩ := ptcell_at KP.out
  go_wp2_with fail
  clear x0 x1 x2 x3 x4 x5 x6
  revert B KP
  generalize (w.alloc (.cells (ptcells p P) 46)) = V0
  intro B KP
  refine (cwatch_bad p P V0 (Hid.of (h.out.below B.out (Nat.le_refl _))) hp).mono ?_
  rintro e V1 ⟨rfl, hb⟩
  replace B := Hid.of (B.out.trans (hb.mono B.out.size))
  clear hb KP
  have B2 : Hid (Below w.heap.size w (V1.alloc (.cells zs4 79))) := B.out.alloc B.out.size _
  clear B
  go_wp2_with fail
  exact bodyPost_ret (v := .tuple #[.slice none 0 0, .int .i64 2]) (by simp [results, go_sem]) rfl ⟨rfl, B2.out⟩

set_option maxRecDepth 100000 in
set_option maxHeartbeats 16000000 in
theorem ests_ok (p : Plant) (Pl : ML) (sa : Option Addr) (sc : Nat) (ta : Option Addr) (tc : Nat) (w : World) (h : Hid (PAt w p ⟨Pl, sa, sc, ta, tc⟩)) (hT : Hid (Tab w)) (hp : Hid (mayP p = true)) :
    Calls Tryd.prog 86 #[ptval p ⟨Pl, sa, sc, ta, tc⟩] w fun e w' => PlsPost w p.seen (fwdL p) e w' := by
  obtain ⟨hm, z6, hrr, -⟩ := (mayP_iff p).1 hp.out
  have hz := mayB_size hm
  unfold sizeOk at hz
  have h8 : p.seen.length ≤ 8 := by have := row_short (by omega) (by omega) hrr; omega
  have h256 : p.m.st.toNat ≤ 256 := by omega
  have HI : Hid (Inc p.seen) := ((rowB_iff _ (by omega) _).1 hrr).1
  have HMM := Hid.of hm
  have HZ6 := Hid.of z6
  have H8 := Hid.of h8
  have H256 := Hid.of h256
  clear hz hrr hm z6 h256
  obtain ⟨i0, hi, hz0, hz1, hz2⟩ := info_parts Tryd.infoPlaceC
  obtain ⟨k0, ki, kz0, kz1, kz2⟩ := info_parts Tryd.infoInt
  have hmm := @run_makeMap Tryd.prog
  have B : Hid (Below w.heap.size w (w.alloc (.cells (ptcells p ⟨Pl, sa, sc, ta, tc⟩) 46))) := (Below.refl _ _).alloc (Nat.le_refl _) _
  have KP : Hid (Blk (w.alloc (.cells (ptcells p ⟨Pl, sa, sc, ta, tc⟩) 46)) w.heap.size 46 (ptcells p ⟨Pl, sa, sc, ta, tc⟩)) := Blk.new w _ _
  go_enter Tryd.func86, Tryd.ntmps86
  obtain ⟨x0, x1, x2, x3, x4, x5, x6⟩ := ptcell_at KP.out
  go_wp2_with fail
  clear x0 x1 x2 x3 x4 x5 x6
  revert B KP
  generalize (w.alloc (.cells (ptcells p ⟨Pl, sa, sc, ta, tc⟩) 46)) = V0
  intro B KP
  refine (cwatch_ok p ⟨Pl, sa, sc, ta, tc⟩ V0 (Hid.of (h.out.below B.out (Nat.le_refl _))) (Hid.of (hT.out.below B.out hT.out.lt)) hp).mono ?_
  rintro e V1 ⟨pl, pp, L0, rfl, cl, hb⟩
  replace B := Hid.of (B.out.trans (hb.mono B.out.size))
  replace KP := Hid.of (KP.out.below hb KP.out.lt)
  have HCL := Hid.of cl
  clear hb cl
  obtain ⟨Q, HQ⟩ : ∃ Q, Hid (Q = ofS (wideL p.m.arrows p.seen p.m.starts)) := ⟨_, rfl⟩
  have HRQ : Hid (RepI Q (wideL p.m.arrows p.seen p.m.starts)) := by rw [HQ.out]; exact rep_start hp.out
  rw [← HQ.out]
  have BV : Hid (Below V1.heap.size V1 (V1.alloc (.cells (scells Q) 79))) := (Below.refl _ _).alloc (Nat.le_refl _) _
  have KS : Hid (SB (V1.alloc (.cells (scells Q) 79)) V1.heap.size Q) := Blk.new V1 _ _
  obtain ⟨x0, x1, x2, x3, x4, x5, x6⟩ := ptcell_at (KP.out.below BV.out KP.out.lt)
  obtain ⟨y0, y1, y2, y3⟩ := SB.cells KS.out
  go_wp2_with fail
  clear x0 x1 x2 x3 x4 x5 x6 y0 y1 y2 y3
  revert BV KS
  generalize V1.alloc (.cells (scells Q) 79) = V2
  intro BV KS
  have bel0 : Hid (Below w.heap.size w V2) := B.out.trans (BV.out.mono B.out.size)
  replace KP := Hid.of (KP.out.below BV.out KP.out.lt)
  replace HCL := Hid.of (HCL.out.kept BV.out)
  have HTV := Hid.of (hT.out.below bel0.out hT.out.lt)
  have b0 := KS.out
  have hlV : Hid (V1.heap.size < V2.heap.size) := KS.out.lt
  clear B BV KS HQ
  revert bel0 KP HCL HTV b0 hlV
  generalize V2 = V
  generalize V1.heap.size = pv
  intro bel0 KP HCL HTV b0 hlV
  refine Code.wp_mono (Q := regQ fun a' W' => ∃ (br : Nat) (vs r25 r26 r27 r28 r29 r30 r31 : Value), a' = { tmps := #[ptval p ⟨Pl, sa, sc, ta, tc⟩, .pointer (some ⟨w.heap.size, 0, none⟩), .slice none 0 0, .int .i64 0, .pointer (some ⟨pv, 0, none⟩), cleadV pl pp, .int .i64 0, vs, .map (some br), undef, undef, undef, undef, undef, undef, undef, .tuple #[sval Q, cleadV pl pp, .int .i64 0], ptval p ⟨Pl, sa, sc, ta, tc⟩, .tuple #[sval Q, cleadV pl pp, .int .i64 0], sval Q, cleadV pl pp, .int .i64 0, .int .i64 0, .bool false, undef, r25, r26, r27, r28, r29, r30, r31, undef, undef, undef, undef, undef, undef, undef, undef, undef, undef, undef, undef, undef, undef, undef, undef, undef, undef, undef, undef, undef, undef, undef, undef, undef, undef, undef, undef, undef, undef, undef, undef, undef, undef, undef, undef, undef, undef, undef, undef, undef, undef, undef, undef, undef, undef], defers := [] } ∧ LCI V.heap.size W' br vs [⟨Q, .slice none 0 0, []⟩] ∧ Below V.heap.size V W') ?aft ?reg
  case reg =>
    refine wp_region_held_drew (S := fun w' => w'.cell? ⟨pv, 0, none⟩ = some (.int .u64 (Q 0)) ∧ w'.cell? ⟨pv, 1, none⟩ = some (.int .u64 (Q 1)) ∧ w'.cell? ⟨pv, 2, none⟩ = some (.int .u64 (Q 2)) ∧ w'.cell? ⟨pv, 3, none⟩ = some (.int .u64 (Q 3))) (by kernel_rfl) b0.cells (fun hS0 => ?_)
    refine wpAnyH_take (i := 0) (v := sval Q) rfl (by kernel_rfl) (by kernel_rfl) (by kernel_rfl) (fun _ _ _ h => h) (Or.inl ⟨by kernel_rfl, fun w' hw' => by obtain ⟨q0, q1, q2, q3⟩ := hw'; go_simp⟩) hS0 ?_
    refine wpAnyH_take (i := 1) (v := .agg #[.int .u64 (Q 0), .int .u64 (Q 1), .int .u64 (Q 2), .int .u64 (Q 3), .slice none 0 0]) rfl (by kernel_rfl) (by kernel_rfl) (by kernel_rfl) (fun _ _ _ h => h) (Or.inl ⟨by kernel_rfl, fun w' hw' => by obtain ⟨q0, q1, q2, q3⟩ := hw'; go_simp⟩) hS0 ?_
    refine wpAnyH_take (i := 4) (v := sval Q) rfl (by kernel_rfl) (by kernel_rfl) (by kernel_rfl) (fun _ _ _ h => h) (Or.inl ⟨by kernel_rfl, fun w' hw' => by obtain ⟨q0, q1, q2, q3⟩ := hw'; go_simp⟩) hS0 ?_
    refine wpAnyH_take (i := 5) (v := .agg #[]) rfl (by kernel_rfl) (by kernel_rfl) (by kernel_rfl) (fun _ _ _ h => h) (Or.inl ⟨by kernel_rfl, fun w' hw' => by obtain ⟨q0, q1, q2, q3⟩ := hw'; go_simp⟩) hS0 ?_
    simp only [Act.put, List.setIfInBounds_toArray]
    refine wpAnyH_ready (rs := [2, 3]) (by kernel_rfl) (by simp) ?_
    refine AllReadyH.cons rfl (fun K' hK' => ?_) (AllReadyH.cons rfl (fun K' hK' => ?_) AllReadyH.nil)
    · go_simp
      refine hK'.out _ _ (SB.cells (Blk.drew (b0.alloc _))) (fun hS1 => ?_)
      clear hK' K'
      refine wpAnyH_take (i := 8) (v := .slice (some ⟨V.heap.size, 0, none⟩) 1 1) rfl (by kernel_rfl) (by kernel_rfl) (by kernel_rfl) (fun _ _ _ h => h) (Or.inl ⟨by kernel_rfl, fun w' hw' => by obtain ⟨q0, q1, q2, q3⟩ := hw'; go_simp⟩) hS1 ?_
      refine wpAnyH_ready (rs := [3]) (by kernel_rfl) (by simp) ?_
      refine AllReadyH.cons rfl (fun K' hK' => ?_) AllReadyH.nil
      go_simp
      refine hK'.out _ _ (SB.cells (Blk.drew ((b0.alloc _).alloc _))) (fun hS2 => ?_)
      clear hK' K'
      refine wpAnyH_ready (rs := [6]) (by kernel_rfl) (by simp) ?_
      refine AllReadyH.cons rfl (fun K' hK' => ?_) AllReadyH.nil
      have hmp : ((V.alloc (.cells (pc0 Q) 118)).alloc (.map #[] 0)).heap[V.heap.size + 1]? = some (.map #[] 0) := by
        have := World.alloc_heap_new (V.alloc (.cells (pc0 Q) 118)) (.map #[] 0)
        rwa [World.size_alloc] at this
      have hu := updC_first (p := ⟨Q, .slice none 0 0, []⟩) HRQ.out (w := ((V.alloc (.cells (pc0 Q) 118)).alloc (.map #[] 0)).drew) (r := V.heap.size + 1) hmp
      go_simp
      refine hK'.out _ _ (SB.cells (blk_mapC (b := pv) (br := V.heap.size + 1) (Blk.drew ((b0.alloc _).alloc _)) (by have := hlV.out; omega) _)) (fun hS3 => ?_)
      clear hK' K'
      refine wpAnyH_take (i := 7) (v := .map (some (V.heap.size + 1))) rfl (by kernel_rfl) (by kernel_rfl) (by kernel_rfl) (fun _ _ _ h => h) (Or.inl ⟨by kernel_rfl, fun w' hw' => by obtain ⟨q0, q1, q2, q3⟩ := hw'; go_simp⟩) hS3 ?_
      refine wpAnyH_take (i := 9) (v := .map (some (V.heap.size + 1))) rfl (by kernel_rfl) (by kernel_rfl) (by kernel_rfl) (fun _ _ _ h => h) (Or.inl ⟨by kernel_rfl, fun w' hw' => by obtain ⟨q0, q1, q2, q3⟩ := hw'; go_simp⟩) hS3 ?_
      refine wpAnyH_done (by kernel_rfl) ?_ _
      have ho : OwnC ((V.alloc (.cells (pc0 Q) 118)).alloc (.map #[] 0)).drew V.heap.size (.slice (some ⟨V.heap.size, 0, none⟩) 1 1) [⟨Q, .slice none 0 0, []⟩] := World.ownsRow.alloc (ownC_one V ⟨Q, .slice none 0 0, []⟩ V.heap.size (Nat.le_refl _)) (.map #[] 0)
      exact ⟨V.heap.size + 1, .slice (some ⟨V.heap.size, 0, none⟩) 1 1, _, _, _, _, _, _, _, rfl, lci_first ho (innW_nil _ _) hmp (by omega), below_mapC ((((Below.refl _ V).alloc (Nat.le_refl _) _).alloc (by simp) _).drew) (by omega) _⟩
    · go_simp
      refine hK'.out _ _ (SB.cells (Blk.drew (b0.alloc _))) (fun hS1 => ?_)
      clear hK' K'
      refine wpAnyH_ready (rs := [2, 6]) (by kernel_rfl) (by simp) ?_
      refine AllReadyH.cons rfl (fun K' hK' => ?_) (AllReadyH.cons rfl (fun K' hK' => ?_) AllReadyH.nil)
      · go_simp
        refine hK'.out _ _ (SB.cells (Blk.drew ((b0.alloc _).alloc _))) (fun hS2 => ?_)
        clear hK' K'
        refine wpAnyH_take (i := 8) (v := .slice (some ⟨V.heap.size + 1, 0, none⟩) 1 1) rfl (by kernel_rfl) (by kernel_rfl) (by kernel_rfl) (fun _ _ _ h => h) (Or.inl ⟨by kernel_rfl, fun w' hw' => by obtain ⟨q0, q1, q2, q3⟩ := hw'; go_simp⟩) hS2 ?_
        refine wpAnyH_ready (rs := [6]) (by kernel_rfl) (by simp) ?_
        refine AllReadyH.cons rfl (fun K' hK' => ?_) AllReadyH.nil
        have hmp : ((V.alloc (.map #[] 0)).alloc (.cells (pc0 Q) 118)).heap[V.heap.size]? = some (.map #[] 0) := by
          have := World.alloc_heap_new V (.map #[] 0)
          exact (Below.heap_alloc (V.alloc (.map #[] 0)) (.cells (pc0 Q) 118) _ (by rw [World.size_alloc]; omega)).trans this
        have hu := updC_first (p := ⟨Q, .slice none 0 0, []⟩) HRQ.out (w := ((V.alloc (.map #[] 0)).alloc (.cells (pc0 Q) 118)).drew) (r := V.heap.size) hmp
        go_simp
        refine hK'.out _ _ (SB.cells (blk_mapC (b := pv) (br := V.heap.size) (Blk.drew ((b0.alloc _).alloc _)) (by have := hlV.out; omega) _)) (fun hS3 => ?_)
        clear hK' K'
        refine wpAnyH_take (i := 7) (v := .map (some V.heap.size)) rfl (by kernel_rfl) (by kernel_rfl) (by kernel_rfl) (fun _ _ _ h => h) (Or.inl ⟨by kernel_rfl, fun w' hw' => by obtain ⟨q0, q1, q2, q3⟩ := hw'; go_simp⟩) hS3 ?_
        refine wpAnyH_take (i := 9) (v := .map (some V.heap.size)) rfl (by kernel_rfl) (by kernel_rfl) (by kernel_rfl) (fun _ _ _ h => h) (Or.inl ⟨by kernel_rfl, fun w' hw' => by obtain ⟨q0, q1, q2, q3⟩ := hw'; go_simp⟩) hS3 ?_
        refine wpAnyH_done (by kernel_rfl) ?_ _
        have ho : OwnC ((V.alloc (.map #[] 0)).alloc (.cells (pc0 Q) 118)).drew V.heap.size (.slice (some ⟨V.heap.size + 1, 0, none⟩) 1 1) [⟨Q, .slice none 0 0, []⟩] := by
          have := ownC_one (V.alloc (.map #[] 0)) ⟨Q, .slice none 0 0, []⟩ V.heap.size (by rw [World.size_alloc]; omega)
          rw [World.size_alloc] at this
          exact this
        exact ⟨V.heap.size, .slice (some ⟨V.heap.size + 1, 0, none⟩) 1 1, _, _, _, _, _, _, _, rfl, lci_first ho (innW_nil _ _) hmp (by omega), below_mapC ((((Below.refl _ V).alloc (Nat.le_refl _) _).alloc (by simp) _).drew) (by omega) _⟩
      · have hmp : (V.alloc (.map #[] 0)).heap[V.heap.size]? = some (.map #[] 0) := World.alloc_heap_new V (.map #[] 0)
        have hu := updC_first (p := ⟨Q, .slice none 0 0, []⟩) HRQ.out (w := (V.alloc (.map #[] 0)).drew) (r := V.heap.size) hmp
        go_simp
        refine hK'.out _ _ (SB.cells (blk_mapC (Blk.drew (b0.alloc _)) (by have := hlV.out; omega) _)) (fun hS2 => ?_)
        clear hK' K'
        refine wpAnyH_take (i := 7) (v := .map (some V.heap.size)) rfl (by kernel_rfl) (by kernel_rfl) (by kernel_rfl) (fun _ _ _ h => h) (Or.inl ⟨by kernel_rfl, fun w' hw' => by obtain ⟨q0, q1, q2, q3⟩ := hw'; go_simp⟩) hS2 ?_
        refine wpAnyH_ready (rs := [2]) (by kernel_rfl) (by simp) ?_
        refine AllReadyH.cons rfl (fun K' hK' => ?_) AllReadyH.nil
        have hsz : (setMap (V.alloc (.map #[] 0)).drew V.heap.size (.map (entsC [⟨Q, .slice none 0 0, []⟩]) 1)).heap.size = V.heap.size + 1 := by rw [size_setMap]; show (V.alloc (.map #[] 0)).heap.size = _; rw [World.size_alloc]
        go_simp
        refine hK'.out _ _ (SB.cells (Blk.alloc (blk_mapC (Blk.drew (b0.alloc _)) (by have := hlV.out; omega) _) _)) (fun hS3 => ?_)
        clear hK' K'
        refine wpAnyH_take (i := 8) (v := .slice (some ⟨V.heap.size + 1, 0, none⟩) 1 1) rfl (by kernel_rfl) (by kernel_rfl) (by kernel_rfl) (fun _ _ _ h => h) (Or.inl ⟨by kernel_rfl, fun w' hw' => by obtain ⟨q0, q1, q2, q3⟩ := hw'; go_simp⟩) hS3 ?_
        refine wpAnyH_take (i := 9) (v := .map (some V.heap.size)) rfl (by kernel_rfl) (by kernel_rfl) (by kernel_rfl) (fun _ _ _ h => h) (Or.inl ⟨by kernel_rfl, fun w' hw' => by obtain ⟨q0, q1, q2, q3⟩ := hw'; go_simp⟩) hS3 ?_
        refine wpAnyH_done (by kernel_rfl) ?_ _
        have hf := lci_first2 (B := V.heap.size) (p := ⟨Q, .slice none 0 0, []⟩) (W := setMap (V.alloc (.map #[] 0)).drew V.heap.size (.map (entsC [⟨Q, .slice none 0 0, []⟩]) 1)) (br := V.heap.size) (innW_nil _ _) (heap_setMap _ _ (by show _ < (V.alloc (.map #[] 0)).heap.size; rw [World.size_alloc]; omega)) (Nat.le_refl _) (by omega)
        rw [hsz] at hf
        exact ⟨V.heap.size, .slice (some ⟨V.heap.size + 1, 0, none⟩) 1 1, _, _, _, _, _, _, _, rfl, hf, (below_mapC (((Below.refl _ V).alloc (Nat.le_refl _) _).drew) (Nat.le_refl _) _).alloc (by omega) _⟩
  case aft =>
    refine regQ_imp ?_
    rintro a' W' ⟨br, vs, r25, r26, r27, r28, r29, r30, r31, rfl, q1, q2⟩
    have Q1 := Hid.of q1
    have Q2 := Hid.of q2
    clear q1 q2 b0 hmm
    have HL0 : Hid (LE p 0 [(wideL p.m.arrows p.seen p.m.starts, [])]) := LE.start _
    have HR0 : Hid (RepCL [⟨Q, .slice none 0 0, []⟩] [(wideL p.m.arrows p.seen p.m.starts, [])]) := RepCL.one HRQ.out
    have HT0 : Hid (WdC p.seen [⟨Q, .slice none 0 0, []⟩] [(wideL p.m.arrows p.seen p.m.starts, ([] : List Int))]) := WdC.one rfl
    go_wp2_with fail
    go_loopw [7, 9] (fun v7 i wr => ∃ (k : Nat) (l : List (List Int × List Int)) (L : List PlC), i = .int .i64 k ∧ k ≤ L.length ∧ L.length ≤ 64 ∧ Hid (LCI V.heap.size wr br v7 L) ∧ Hid (Below V.heap.size V wr) ∧ Hid (RepCL L l) ∧ Hid (WdC p.seen L l) ∧ Hid (LE p k l)) (fun _ i _ => 65 - (intOf i).toNat)
    case atStart => exact ⟨0, [(wideL p.m.arrows p.seen p.m.starts, [])], [⟨Q, .slice none 0 0, []⟩], rfl, Nat.zero_le _, by simp, Q1, Q2, HR0, HT0, HL0⟩
    case round =>
      clear Q1 Q2 HR0 HT0 HL0
      obtain ⟨k, l, L, rfl, hk, h64, HF, HB, HR, HTr, HLO⟩ := hrel
      obtain ⟨va10, vc10, hv10, -, -, -⟩ := own_form2 HF.out.ss
      subst hv10
      have HLl := Hid.of HR.out.len
      by_cases hlt : k < L.length
      · obtain ⟨x, hx⟩ : ∃ x, Hid (l[k]? = some x) := ⟨_, List.getElem?_eq_getElem (by rw [← HLl.out]; exact hlt)⟩
        obtain ⟨q, hq, hrq⟩ := HR.out.at hx.out
        have hqw := HTr.out k q x hq hx.out
        have hqm := List.mem_of_getElem? hq
        obtain ⟨za, zc, hzv, -, -, -⟩ := (HF.out.inn q hqm).at
        obtain ⟨qs, qv, qw⟩ := q
        dsimp only at hzv hqw
        subst hzv
        have HQW : Hid (qw = wordS p.seen x.2) := hqw
        have HQM := Hid.of hqm
        have hWl : Hid (qw.length ≤ 64) := by show _ ≤ _; have := bi_wlen HLO.out.bi k x hx.out; rw [HQW.out, wordS_len]; omega
        have HRP := Hid.of hrq
        have HCU := Hid.of (fwd_cl HMM.out HLO.out.bi (List.mem_of_getElem? hx.out)).1
        obtain ⟨g, cap, hv, hg1, hg2, hc⟩ := HF.out.ss.cell hq
        cases hv
        have c0 : wr.cell? ⟨g, k * 5, none⟩ = _ := hc 0 _ rfl
        have c1 := hc 1 _ rfl
        have c2 := hc 2 _ rfl
        have c3 := hc 3 _ rfl
        have c4 := hc 4 _ rfl
        clear hq hrq hc hqw hqm
        have HOK : Hid (okS qs) := HRP.out.1.ok
        have F1 : Hid (LCI V.heap.size (wr.alloc (.cells (pcarr ⟨qs, .slice za qw.length zc, qw⟩) 118)) br (.slice (some ⟨g, 0, none⟩) L.length vc10) L) := HF.out.below ((Below.refl _ _).alloc (Nat.le_refl _) _)
        have B1 : Hid (Below V.heap.size V (wr.alloc (.cells (pcarr ⟨qs, .slice za qw.length zc, qw⟩) 118))) := HB.out.alloc HB.out.size _
        have N1 : Hid (Blk (wr.alloc (.cells (pcarr ⟨qs, .slice za qw.length zc, qw⟩) 118)) wr.heap.size 118 (pcarr ⟨qs, .slice za qw.length zc, qw⟩)) := Blk.new wr _ _
        have G1 : Hid (g ≠ wr.heap.size) := Nat.ne_of_lt hg2
        have hltI : (k : Int) < (L.length : Int) := by omega
        have hltD : decide ((k : Int) < (L.length : Int)) = true := by simpa using hltI
        have x5 : (wr.alloc (.cells (pcarr ⟨qs, .slice za qw.length zc, qw⟩) 118)).cell? ⟨w.heap.size, 5, none⟩ = some (.slice sa p.seen.length sc) := (KP.out.below B1.out KP.out.lt).cell 5 rfl
        go_wp2_with fail
        clear c0 c1 c2 c3 c4 x5 HF HB hg2
        revert F1 B1 N1 G1
        generalize wr.alloc (.cells (pcarr ⟨qs, .slice za qw.length zc, qw⟩) 118) = V1
        generalize wr.heap.size = hp1
        intro F1 B1 N1 G1
        have hbw := bel0.out.size
        go_loopw [7, 45] (fun v7 i wr' => ∃ (e : Nat) (L1 : List PlC), i = .int .i64 e ∧ e ≤ p.seen.length ∧ Hid (LCI V.heap.size wr' br v7 L1) ∧ Hid (Below V.heap.size V wr') ∧ Hid (Blk wr' hp1 118 (pcarr ⟨qs, .slice za qw.length zc, qw⟩)) ∧ Hid (v7.ownBlock ≠ some hp1) ∧ Hid (⟨qs, .slice za qw.length zc, qw⟩ ∈ L1) ∧ Hid (RepCL L1 (bfRow (seeD p) x l e)) ∧ Hid (WdC p.seen L1 (bfRow (seeD p) x l e))) (fun _ i _ => p.seen.length - (intOf i).toNat)
        case atStart => exact ⟨0, L, rfl, Nat.zero_le _, F1, B1, N1, Hid.of (fun h => G1.out (by injection h)), HQM, HR, HTr⟩
        case round =>
          clear F1 B1 N1 HQM
          obtain ⟨e, L1, rfl, hee, HF, HB, HN, HNE1, HQM, HR1, HT1⟩ := hrel
          obtain ⟨va8, vc8, hv8, -, -, -⟩ := own_form2 HF.out.ss
          subst hv8
          obtain ⟨l1, HS1⟩ : ∃ l1, Hid (l1 = bfRow (seeD p) x l e) := ⟨_, rfl⟩
          have HBI : Hid (BI (seeD p) (wideL p.m.arrows p.seen p.m.starts) p.seen.length k e l1) := by
            have := bi_row (seeD p) HLO.out.bi hx.out e hee
            rw [← HS1.out] at this
            exact this
          have HBD : Hid (l1.length ≤ 64) := fwd_bound HMM.out HZ6.out HBI.out
          have HX1 : Hid (l1[k]? = some x) := by
            obtain ⟨t, ht⟩ := bfRow_pre (seeD p) x l e
            show _ = _
            rw [HS1.out, ht, List.getElem?_append_left (List.getElem?_eq_some_iff.1 hx.out).1]
            exact hx.out
          have HSuc : Hid (bfRow (seeD p) x l (e + 1) = bfStep (seeD p) x l1 e) := by show _ = _; rw [bfRow_succ, HS1.out]
          rw [← HS1.out] at HR1 HT1
          have HL1 := Hid.of HR1.out.len
          by_cases hle : e < p.seen.length
          · obtain ⟨bs, os, ev, rfl, HEV, HSC⟩ : ∃ (bs os : Nat) (ev : Int), sa = some ⟨bs, os, none⟩ ∧ Hid (ev = p.seen[e]?.getD 0) ∧ wr.cell? ⟨bs, os + e, none⟩ = some (.int .i64 ev) := by
              rcases HCL.out.pt.s.at_ with h0 | ⟨bs, os, ha, hb, hc⟩
              · have : p.seen.length = 0 := by rw [h0]; rfl
                omega
              · obtain ⟨ev, hev, hcell⟩ := hc.at hle
                exact ⟨bs, os, ev, ha, hev, (HB.out.cell (p := ⟨bs, os + e, none⟩) hb).trans hcell⟩
            have HPN : Hid (placeN p.seen ev = some e) := by show _ = _; rw [HEV.out]; exact place_nth HI.out hle
            have hcall := Hid.of (cwatch1_any p ⟨Pl, some ⟨bs, os, none⟩, sc, ta, tc⟩ qs ev e HPN hle H8.out H256.out HOK (Hid.of (all_lt HRP.out HCU.out)) pl pp L0 wr (Hid.of (HTV.out.below HB.out HTV.out.lt)) (Hid.of (HCL.out.kept HB.out)))
            have hRep : Hid (RepI (leadS p.seen.length (hideM p.m p.seen).arrows qs e) (seeD p x.1 e)) := rep_see hp.out HRP.out HCU.out hle
            obtain ⟨U, HU⟩ : ∃ U, Hid (U = leadS p.seen.length (hideM p.m p.seen).arrows qs e) := ⟨_, rfl⟩
            obtain ⟨to, HTO⟩ : ∃ to, Hid (to = seeD p x.1 e) := ⟨_, rfl⟩
            rw [← HU.out] at hcall hRep
            rw [← HTO.out] at hRep
            have HST : Hid (bfStep (seeD p) x l1 e = if knownB l1 to = true then l1 else l1 ++ [(to, x.2 ++ [(e : Int)])]) := by
              show _ = _
              unfold bfStep; rw [← HTO.out]
            obtain ⟨m0, m1, m2, m3, m4⟩ := PCk.cells HN.out
            go_wp2_with fail
            refine hcall.out.mono ?_
            rintro r w1 ⟨rfl, hb1⟩
            have F1 : Hid (LCI V.heap.size (w1.alloc (.cells (scells U) 79)) br (.slice va8 L1.length vc8) L1) := (HF.out.below hb1).below ((Below.refl _ _).alloc (Nat.le_refl _) _)
            have B1 : Hid (Below V.heap.size V (w1.alloc (.cells (scells U) 79))) := (HB.out.trans (hb1.mono HB.out.size)).alloc (Nat.le_trans HB.out.size hb1.size) _
            have N1 : Hid (SB (w1.alloc (.cells (scells U) 79)) w1.heap.size U) := Blk.new w1 _ _
            have H1 : Hid (Blk (w1.alloc (.cells (scells U) 79)) hp1 118 (pcarr ⟨qs, .slice za qw.length zc, qw⟩)) := Blk.alloc (HN.out.below hb1 HN.out.lt) _
            have HPL : Hid (hp1 < w1.heap.size) := Nat.lt_of_lt_of_le HN.out.lt hb1.size
            clear hcall hb1 m0 m1 m2 m3 m4 HF HB HN HSC
            obtain ⟨n0, n1, n2, n3⟩ := SB.cells N1.out
            cases hkn : knownB l1 to with
            | true =>
              have lk := lookC_known HR1.out hRep.out (w := w1.alloc (.cells (scells U) 79)) (r := br) F1.out.mp hkn
              have HNX : Hid (bfRow (seeD p) x l (e + 1) = l1) := by show _ = _; rw [HSuc.out, HST.out, if_pos hkn]
              have F2 : Hid (LCI V.heap.size ((w1.alloc (.cells (scells U) 79)).alloc (.cells #[] 172)) br (.slice va8 L1.length vc8) L1) := F1.out.below ((Below.refl _ _).alloc (Nat.le_refl _) _)
              have B2 : Hid (Below V.heap.size V ((w1.alloc (.cells (scells U) 79)).alloc (.cells #[] 172))) := B1.out.alloc B1.out.size _
              have H2 : Hid (Blk ((w1.alloc (.cells (scells U) 79)).alloc (.cells #[] 172)) hp1 118 (pcarr ⟨qs, .slice za qw.length zc, qw⟩)) := H1.out.alloc _
              clear hkn
              go_wp2_with fail
              go_roundw
              case rel => exact ⟨e + 1, L1, by go_num, by omega, F2, B2, H2, HNE1, HQM, (by show RepCL _ _; rw [HNX.out]; exact HR1.out), (by show WdC _ _ _; rw [HNX.out]; exact HT1.out)⟩
              case measure => simp [intOf]; omega
            | false =>
              have lk := lookC_new HR1.out hRep.out (w := w1.alloc (.cells (scells U) 79)) (r := br) F1.out.mp hkn
              have HNX : Hid (bfRow (seeD p) x l (e + 1) = l1 ++ [(to, x.2 ++ [(e : Int)])]) := by show _ = _; rw [HSuc.out, HST.out, if_neg (by rw [hkn]; simp)]
              have F2 : Hid (LCI V.heap.size ((w1.alloc (.cells (scells U) 79)).alloc (.cells #[] 172)) br (.slice va8 L1.length vc8) L1) := F1.out.below ((Below.refl _ _).alloc (Nat.le_refl _) _)
              have B2 : Hid (Below V.heap.size V ((w1.alloc (.cells (scells U) 79)).alloc (.cells #[] 172))) := B1.out.alloc B1.out.size _
              have H2 : Hid (Blk ((w1.alloc (.cells (scells U) 79)).alloc (.cells #[] 172)) hp1 118 (pcarr ⟨qs, .slice za qw.length zc, qw⟩)) := H1.out.alloc _
              have N2 : Hid (SB ((w1.alloc (.cells (scells U) 79)).alloc (.cells #[] 172)) w1.heap.size U) := N1.out.alloc _
              obtain ⟨k0', k1', k2', k3'⟩ := SB.cells N2.out
              have hu := updC_new (p := (⟨U, .slice none 0 0, []⟩ : PlC)) HR1.out hRep.out (w := ((w1.alloc (.cells (scells U) 79)).alloc (.cells #[] 172))) (r := br) F2.out.mp hkn
              have hl1 : L1.length ≤ 64 := by rw [HL1.out]; exact HBD.out
              clear hkn
              go_wp2_with fail
              clear n0 n1 n2 n3 k0' k1' k2' k3' lk hu F1 B1 N1 H1
              revert HPL F2 B2 H2 N2
              generalize ((w1.alloc (.cells (scells U) 79)).alloc (.cells #[] 172)) = A
              generalize w1.heap.size = pn
              intro HPL F2 B2 H2 N2
              have KN : Hid (SB (setMap A br (.map (entsC (L1 ++ [(⟨U, .slice none 0 0, []⟩ : PlC)])) (L1.length + 1))) pn U) := blk_mapC N2.out (F2.out.nebr N2.out) _
              have KH : Hid (Blk (setMap A br (.map (entsC (L1 ++ [(⟨U, .slice none 0 0, []⟩ : PlC)])) (L1.length + 1))) hp1 118 (pcarr ⟨qs, .slice za qw.length zc, qw⟩)) := blk_mapC H2.out (F2.out.nebr H2.out) _
              have OC : Hid (OwnC (setMap A br (.map (entsC (L1 ++ [(⟨U, .slice none 0 0, []⟩ : PlC)])) (L1.length + 1))) V.heap.size (.slice va8 L1.length vc8) L1) := F2.out.mapped _
              have IQ : Hid (InnW 0 (setMap A br (.map (entsC (L1 ++ [(⟨U, .slice none 0 0, []⟩ : PlC)])) (L1.length + 1))) (.slice za qw.length zc) qw) := innW_map F2.out.mp _ (F2.out.inn _ HQM.out)
              have SA : Hid (∀ W, SB W pn U → Blk W hp1 118 (pcarr ⟨qs, .slice za qw.length zc, qw⟩) → W.cell? ⟨pn, 0, none⟩ = some (.int .u64 (U 0)) ∧ W.cell? ⟨pn, 1, none⟩ = some (.int .u64 (U 1)) ∧ W.cell? ⟨pn, 2, none⟩ = some (.int .u64 (U 2)) ∧ W.cell? ⟨pn, 3, none⟩ = some (.int .u64 (U 3)) ∧ W.cell? ⟨hp1, 4, none⟩ = some (.slice za qw.length zc)) := fun W h1 h2 => by
                obtain ⟨x0, x1, x2, x3⟩ := SB.cells h1
                exact ⟨x0, x1, x2, x3, h2.cell 4 rfl⟩
              obtain ⟨Z, HZ⟩ : ∃ Z, Hid (Z = setMap A br (.map (entsC (L1 ++ [(⟨U, .slice none 0 0, []⟩ : PlC)])) (L1.length + 1))) := ⟨_, rfl⟩
              have HVZ : Hid (V.heap.size ≤ Z.heap.size) := by show _ ≤ _; rw [HZ.out, size_setMap]; exact B2.out.size
              rw [← HZ.out] at KN KH OC IQ
              rw [← HZ.out]
              refine wp_region_held_drew (S := fun w' => w'.cell? ⟨pn, 0, none⟩ = some (.int .u64 (U 0)) ∧ w'.cell? ⟨pn, 1, none⟩ = some (.int .u64 (U 1)) ∧ w'.cell? ⟨pn, 2, none⟩ = some (.int .u64 (U 2)) ∧ w'.cell? ⟨pn, 3, none⟩ = some (.int .u64 (U 3)) ∧ w'.cell? ⟨hp1, 4, none⟩ = some (.slice za qw.length zc)) (by kernel_rfl) (SA.out _ (Blk.drew KN.out) (Blk.drew KH.out)) (fun hS => ?_)
              have BF : Hid (Below Z.heap.size Z Z.drew) := (Below.refl _ _).drew
              replace KN : Hid (SB Z.drew pn U) := Blk.drew KN.out
              replace KH : Hid (Blk Z.drew hp1 118 (pcarr ⟨qs, .slice za qw.length zc, qw⟩)) := Blk.drew KH.out
              revert hS BF KN KH
              generalize Z.drew = Y0
              intro hS BF KN KH
              have HPNZ : Hid (pn < Z.heap.size) := by show _ < _; rw [HZ.out, size_setMap]; exact N2.out.lt
              have HPHZ : Hid (hp1 < Z.heap.size) := by show _ < _; rw [HZ.out, size_setMap]; exact H2.out.lt
              refine wpAnyH_take (i := 0) (v := .slice va8 L1.length vc8) rfl (by kernel_rfl) (by kernel_rfl) (by kernel_rfl) (fun _ _ _ h => h) (Or.inl ⟨by kernel_rfl, fun w' hw' => by obtain ⟨q0, q1, q2, q3, q4⟩ := hw'; go_simp⟩) hS ?_
              refine wpAnyH_take (i := 1) (v := sval U) rfl (by kernel_rfl) (by kernel_rfl) (by kernel_rfl) (fun _ _ _ h => h) (Or.inl ⟨by kernel_rfl, fun w' hw' => by obtain ⟨q0, q1, q2, q3, q4⟩ := hw'; go_simp⟩) hS ?_
              refine wpAnyH_take (i := 2) (v := .pointer (some ⟨hp1, 4, none⟩)) rfl (by kernel_rfl) (by kernel_rfl) (by kernel_rfl) (fun _ _ _ h => h) (Or.inl ⟨by kernel_rfl, fun w' hw' => by obtain ⟨q0, q1, q2, q3, q4⟩ := hw'; go_simp⟩) hS ?_
              refine wpAnyH_take (i := 3) (v := .slice za qw.length zc) rfl (by kernel_rfl) (by kernel_rfl) (by kernel_rfl) (fun _ _ _ h => h) (Or.inl ⟨by kernel_rfl, fun w' hw' => by obtain ⟨q0, q1, q2, q3, q4⟩ := hw'; go_simp⟩) hS ?_
              refine wpAnyH_take (i := 5) (v := .int .i64 ev) rfl (by kernel_rfl) (by kernel_rfl) (by kernel_rfl) (fun _ _ _ h => h) (Or.inl ⟨by kernel_rfl, fun w' hw' => by obtain ⟨q0, q1, q2, q3, q4⟩ := hw'; go_simp⟩) hS ?_
              simp only [Act.put, List.setIfInBounds_toArray]
              refine wpAnyH_ready (rs := [4, 6]) (by kernel_rfl) (by simp) ?_
              refine AllReadyH.cons rfl (fun K' hK' => ?_) (AllReadyH.cons rfl (fun K' hK' => ?_) AllReadyH.nil)
              · clear hS
                go_simp
                have iq := IQ.out.below BF.out (Nat.zero_le _)
                obtain ⟨za2, zc2, hz2, hat, -, -⟩ := iq.at
                cases hz2
                refine (clone_any za zc qw Y0 hat (by have := hWl.out; omega)).mono ?_
                rintro e1 Y11 ⟨v69, rfl, o1, hb⟩
                obtain ⟨pc, HPC⟩ : ∃ pc, Hid (pc = Y0.heap.size) := ⟨_, rfl⟩
                rw [← HPC.out] at o1
                have PC : Hid (Z.heap.size ≤ pc) := by show _ ≤ _; rw [HPC.out]; exact BF.out.size
                have PCY : Hid (pc ≤ Y11.heap.size) := by show _ ≤ _; rw [HPC.out]; exact hb.size
                replace BF := Hid.of (BF.out.trans (hb.mono BF.out.size))
                replace KN := Hid.of (KN.out.below hb KN.out.lt)
                replace KH := Hid.of (KH.out.below hb KH.out.lt)
                obtain ⟨ca, cc, hca, -, -, -⟩ := own_form2 o1
                subst hca
                have O69 := Hid.of o1
                refine hK'.out _ _ (SA.out _ KN.out KH.out) (fun hS => ?_)
                clear hK' K' hb o1 hat iq HPC
                refine wpAnyH_ready (rs := [6]) (by kernel_rfl) (by simp) ?_
                refine AllReadyH.cons rfl (fun K' hK' => ?_) AllReadyH.nil
                clear hS
                go_simp
                have hb : Below Y11.heap.size Y11 (Y11.alloc (.cells #[.int .i64 ev] 3)) := (Below.refl _ _).alloc (Nat.le_refl _) _
                replace BF := Hid.of (BF.out.trans (hb.mono BF.out.size))
                replace KN := Hid.of (KN.out.below hb KN.out.lt)
                replace KH := Hid.of (KH.out.below hb KH.out.lt)
                replace O69 := Hid.of (own_same O69.out (fun j hj => hb.block j (World.ownsRow.lt O69.out j hj).2))
                replace PCY := Hid.of (Nat.le_trans PCY.out hb.size)
                have K71 := Hid.of (Blk.new Y11 3 #[.int .i64 ev])
                refine hK'.out _ _ (SA.out _ KN.out KH.out) (fun hS => ?_)
                clear hK' K' hb
                revert BF KN KH O69 PCY K71 hS
                generalize Y11.alloc (.cells #[.int .i64 ev] 3) = Y12
                generalize Y11.heap.size = p71
                intro BF KN KH O69 PCY K71 hS
                refine wpAnyH_ready (rs := [7]) (by kernel_rfl) (by simp) ?_
                refine AllReadyH.cons rfl (fun K' hK' => ?_) AllReadyH.nil
                clear hS
                have hw64 := hWl.out
                have hax : At Y12 (some ⟨p71, 0, none⟩) [ev] := at_one_blk K71.out
                refine step_append_ints rfl (.tmp 69) (.tmp 71) 22 rfl pc k0 Tryd.underlying22 ki kz0 kz1 kz2 _ qw rfl O69.out (some ⟨p71, 0, none⟩) 1 [ev] rfl hax (fun h => by cases h) (by simp only [List.length_cons, List.length_nil]; omega) PCY.out ?_
                intro v72 Y13 o2 gr
                have hge : ∀ j, (Value.slice ca qw.length cc).ownBlock = some j → Z.heap.size ≤ j := fun j hj => Nat.le_trans PC.out (World.ownsRow.lt O69.out j hj).1
                have hb : Below Z.heap.size Y12 Y13 := (Below.refl _ _).grown gr BF.out.size hge
                replace KN := Hid.of (KN.out.below hb HPNZ.out)
                replace KH := Hid.of (KH.out.below hb HPHZ.out)
                replace BF := Hid.of (BF.out.trans hb)
                obtain ⟨va2, vc2, hv2, -, -, -⟩ := own_form2 o2
                have hl2 : (qw ++ [ev]).length = qw.length + 1 := by simp
                rw [hl2] at hv2
                subst hv2
                have I72 : Hid (InnW 0 Y13 (.slice va2 (qw.length + 1) vc2) (qw ++ [ev])) := InnW.of_own o2
                refine hK'.out _ _ (SA.out _ KN.out KH.out) (fun hS => ?_)
                clear hK' K' hb o2 gr hl2 hw64 hax O69 K71 hge
                refine wpAnyH_take (i := 8) (v := .agg #[.int .u64 (U 0), .int .u64 (U 1), .int .u64 (U 2), .int .u64 (U 3), .slice va2 (qw.length + 1) vc2]) rfl (by kernel_rfl) (by kernel_rfl) (by kernel_rfl) (fun _ _ _ h => h) (Or.inl ⟨by kernel_rfl, fun w' hw' => by obtain ⟨q0, q1, q2, q3, q4⟩ := hw'; go_simp⟩) hS ?_
                refine wpAnyH_ready (rs := [9]) (by kernel_rfl) (by simp) ?_
                refine AllReadyH.cons rfl (fun K' hK' => ?_) AllReadyH.nil
                clear hS
                go_simp
                have hb : Below Y13.heap.size Y13 (Y13.alloc (.cells (pcarr ⟨U, .slice va2 (qw.length + 1) vc2, qw ++ [ev]⟩) 118)) := (Below.refl _ _).alloc (Nat.le_refl _) _
                replace BF := Hid.of (BF.out.trans (hb.mono BF.out.size))
                replace KN := Hid.of (KN.out.below hb KN.out.lt)
                replace KH := Hid.of (KH.out.below hb KH.out.lt)
                replace I72 := Hid.of (I72.out.below hb (Nat.zero_le _))
                have K74 := Hid.of (Blk.new Y13 118 (pcarr ⟨U, .slice va2 (qw.length + 1) vc2, qw ++ [ev]⟩))
                refine hK'.out _ _ (SA.out _ KN.out KH.out) (fun hS => ?_)
                clear hK' K' hb
                revert BF KN KH I72 K74 hS
                show Hid (Below Z.heap.size Z (Y13.alloc (.cells (pcarr ⟨U, .slice va2 (qw.length + 1) vc2, qw ++ [ev]⟩) 118))) → _
                generalize Y13.alloc (.cells (pcarr ⟨U, .slice va2 (qw.length + 1) vc2, qw ++ [ev]⟩) 118) = Y14
                generalize Y13.heap.size = p74
                intro BF KN KH I72 K74 hS
                refine wpAnyH_ready (rs := [10]) (by kernel_rfl) (by simp) ?_
                refine AllReadyH.cons rfl (fun K' hK' => ?_) AllReadyH.nil
                clear hS
                have ho : OwnC Y14 V.heap.size (.slice va8 L1.length vc8) L1 := own_same OC.out (fun j hj => BF.out.block j (World.ownsRow.lt OC.out j hj).2)
                have hcf : ∀ j u, (pccells ⟨U, .slice va2 (qw.length + 1) vc2, qw ++ [ev]⟩)[j]? = some u → Y14.cell? ((⟨p74, 0, none⟩ : Addr).add j) = some u := fun j u hu => by
                  rw [addr0_add, Nat.zero_add]
                  exact K74.out.cell j (by rw [← Array.getElem?_toList]; exact hu)
                refine step_append_block rfl (.tmp 65) (.tmp 74) 114 rfl V.heap.size 118 i0 _ 5 56 Tryd.underlying114 hi hz0 hz1 hz2 rfl (by decide) _ _ _ rfl ho ⟨p74, 0, none⟩ 1 1 (pccells ⟨U, .slice va2 (qw.length + 1) vc2, qw ++ [ev]⟩) rfl rfl hcf (by intro u hu; simp [pccells] at hu; rcases hu with rfl | rfl | rfl | rfl | rfl <;> rfl) (by decide) (by unfold maxLen; omega) (by omega) (Nat.le_trans HVZ.out BF.out.size) ?_
                intro v7 Y15 o7 g7 nn7
                have KN7 := Hid.of (blk_grown KN.out g7 (sb_apart ho KN.out))
                have KH7 := Hid.of (blk_grown KH.out g7 HNE1.out)
                have e0 : Below (setMap A br (.map (entsC (L1 ++ [⟨U, .slice va2 (qw.length + 1) vc2, qw ++ [ev]⟩])) (L1.length + 1))).heap.size (setMap A br (.map (entsC (L1 ++ [⟨U, .slice va2 (qw.length + 1) vc2, qw ++ [ev]⟩])) (L1.length + 1))) Y14 := by
                  rw [entsC_s L1 (p := ⟨U, .slice va2 (qw.length + 1) vc2, qw ++ [ev]⟩) (q := (⟨U, .slice none 0 0, []⟩ : PlC)) rfl, ← HZ.out]; exact BF.out
                obtain ⟨p1, p2⟩ := LCI.push (p := ⟨U, .slice va2 (qw.length + 1) vc2, qw ++ [ev]⟩) F2.out B2.out e0 I72.out (own_plcC o7) g7 B2.out.size
                have P1 := Hid.of p1
                have P2 := Hid.of p2
                have P4 := Hid.of (ne_append HNE1.out KH.out.lt nn7)
                refine hK'.out _ _ (SA.out _ KN7.out KH7.out) (fun hS => ?_)
                clear hK' K' p1 p2 e0 o7 g7 nn7 ho hcf
                refine wpAnyH_take (i := 11) (v := v7) rfl (by kernel_rfl) (by kernel_rfl) (by kernel_rfl) (fun _ _ _ h => h) (Or.inl ⟨by kernel_rfl, fun w' hw' => by obtain ⟨q0, q1, q2, q3, q4⟩ := hw'; go_simp⟩) hS ?_
                refine wpAnyH_done (by kernel_rfl) ?_ _
                clear hS
                have HR7 : Hid (RepCL (L1 ++ [⟨U, .slice va2 (qw.length + 1) vc2, qw ++ [ev]⟩]) (l1 ++ [(to, x.2 ++ [(e : Int)])])) := HR1.out.snoc hRep.out
                have HT7 : Hid (WdC p.seen (L1 ++ [⟨U, .slice va2 (qw.length + 1) vc2, qw ++ [ev]⟩]) (l1 ++ [(to, x.2 ++ [(e : Int)])])) := HT1.out.snoc HL1.out (by show qw ++ [ev] = wordS p.seen (x.2 ++ [(e : Int)]); rw [wordS_snoc, HQW.out, HEV.out])
                have HQM7 : Hid (⟨qs, .slice za qw.length zc, qw⟩ ∈ L1 ++ [⟨U, .slice va2 (qw.length + 1) vc2, qw ++ [ev]⟩]) := List.mem_append_left _ HQM.out
                clear KN KH I72 K74 BF F2 B2 H2 N2 OC IQ
                go_wp2_with fail
                go_roundw
                case rel => exact ⟨e + 1, L1 ++ [⟨U, .slice va2 (qw.length + 1) vc2, qw ++ [ev]⟩], by go_num, by omega, P1, P2, KH7, P4, HQM7, (by show RepCL _ _; rw [HNX.out]; exact HR7.out), (by show WdC _ _ _; rw [HNX.out]; exact HT7.out)⟩
                case measure => simp [intOf]; omega
              · clear hS
                go_simp
                have hb : Below Y0.heap.size Y0 (Y0.alloc (.cells #[.int .i64 ev] 3)) := (Below.refl _ _).alloc (Nat.le_refl _) _
                replace BF := Hid.of (BF.out.trans (hb.mono BF.out.size))
                replace KN := Hid.of (KN.out.below hb KN.out.lt)
                replace KH := Hid.of (KH.out.below hb KH.out.lt)
                have K71 := Hid.of (Blk.new Y0 3 #[.int .i64 ev])
                refine hK'.out _ _ (SA.out _ KN.out KH.out) (fun hS => ?_)
                clear hK' K' hb
                revert BF KN KH K71 hS
                generalize Y0.alloc (.cells #[.int .i64 ev] 3) = Y16
                generalize Y0.heap.size = p71
                intro BF KN KH K71 hS
                refine wpAnyH_ready (rs := [4]) (by kernel_rfl) (by simp) ?_
                refine AllReadyH.cons rfl (fun K' hK' => ?_) AllReadyH.nil
                clear hS
                go_simp
                have iq := IQ.out.below BF.out (Nat.zero_le _)
                obtain ⟨za2, zc2, hz2, hat, -, -⟩ := iq.at
                cases hz2
                refine (clone_any za zc qw Y16 hat (by have := hWl.out; omega)).mono ?_
                rintro e1 Y17 ⟨v69, rfl, o1, hb⟩
                obtain ⟨pc, HPC⟩ : ∃ pc, Hid (pc = Y16.heap.size) := ⟨_, rfl⟩
                rw [← HPC.out] at o1
                have PC : Hid (Z.heap.size ≤ pc) := by show _ ≤ _; rw [HPC.out]; exact BF.out.size
                have PCY : Hid (pc ≤ Y17.heap.size) := by show _ ≤ _; rw [HPC.out]; exact hb.size
                replace BF := Hid.of (BF.out.trans (hb.mono BF.out.size))
                replace KN := Hid.of (KN.out.below hb KN.out.lt)
                replace KH := Hid.of (KH.out.below hb KH.out.lt)
                replace K71 := Hid.of (K71.out.below hb K71.out.lt)
                obtain ⟨ca, cc, hca, -, -, -⟩ := own_form2 o1
                subst hca
                have O69 := Hid.of o1
                refine hK'.out _ _ (SA.out _ KN.out KH.out) (fun hS => ?_)
                clear hK' K' hb o1 hat iq HPC
                refine wpAnyH_ready (rs := [7]) (by kernel_rfl) (by simp) ?_
                refine AllReadyH.cons rfl (fun K' hK' => ?_) AllReadyH.nil
                clear hS
                have hw64 := hWl.out
                have hax : At Y17 (some ⟨p71, 0, none⟩) [ev] := at_one_blk K71.out
                refine step_append_ints rfl (.tmp 69) (.tmp 71) 22 rfl pc k0 Tryd.underlying22 ki kz0 kz1 kz2 _ qw rfl O69.out (some ⟨p71, 0, none⟩) 1 [ev] rfl hax (fun h => by cases h) (by simp only [List.length_cons, List.length_nil]; omega) PCY.out ?_
                intro v72 Y18 o2 gr
                have hge : ∀ j, (Value.slice ca qw.length cc).ownBlock = some j → Z.heap.size ≤ j := fun j hj => Nat.le_trans PC.out (World.ownsRow.lt O69.out j hj).1
                have hb : Below Z.heap.size Y17 Y18 := (Below.refl _ _).grown gr BF.out.size hge
                replace KN := Hid.of (KN.out.below hb HPNZ.out)
                replace KH := Hid.of (KH.out.below hb HPHZ.out)
                replace BF := Hid.of (BF.out.trans hb)
                obtain ⟨va2, vc2, hv2, -, -, -⟩ := own_form2 o2
                have hl2 : (qw ++ [ev]).length = qw.length + 1 := by simp
                rw [hl2] at hv2
                subst hv2
                have I72 : Hid (InnW 0 Y18 (.slice va2 (qw.length + 1) vc2) (qw ++ [ev])) := InnW.of_own o2
                refine hK'.out _ _ (SA.out _ KN.out KH.out) (fun hS => ?_)
                clear hK' K' hb o2 gr hl2 hw64 hax O69 K71 hge
                refine wpAnyH_take (i := 8) (v := .agg #[.int .u64 (U 0), .int .u64 (U 1), .int .u64 (U 2), .int .u64 (U 3), .slice va2 (qw.length + 1) vc2]) rfl (by kernel_rfl) (by kernel_rfl) (by kernel_rfl) (fun _ _ _ h => h) (Or.inl ⟨by kernel_rfl, fun w' hw' => by obtain ⟨q0, q1, q2, q3, q4⟩ := hw'; go_simp⟩) hS ?_
                refine wpAnyH_ready (rs := [9]) (by kernel_rfl) (by simp) ?_
                refine AllReadyH.cons rfl (fun K' hK' => ?_) AllReadyH.nil
                clear hS
                go_simp
                have hb : Below Y18.heap.size Y18 (Y18.alloc (.cells (pcarr ⟨U, .slice va2 (qw.length + 1) vc2, qw ++ [ev]⟩) 118)) := (Below.refl _ _).alloc (Nat.le_refl _) _
                replace BF := Hid.of (BF.out.trans (hb.mono BF.out.size))
                replace KN := Hid.of (KN.out.below hb KN.out.lt)
                replace KH := Hid.of (KH.out.below hb KH.out.lt)
                replace I72 := Hid.of (I72.out.below hb (Nat.zero_le _))
                have K74 := Hid.of (Blk.new Y18 118 (pcarr ⟨U, .slice va2 (qw.length + 1) vc2, qw ++ [ev]⟩))
                refine hK'.out _ _ (SA.out _ KN.out KH.out) (fun hS => ?_)
                clear hK' K' hb
                revert BF KN KH I72 K74 hS
                show Hid (Below Z.heap.size Z (Y18.alloc (.cells (pcarr ⟨U, .slice va2 (qw.length + 1) vc2, qw ++ [ev]⟩) 118))) → _
                generalize Y18.alloc (.cells (pcarr ⟨U, .slice va2 (qw.length + 1) vc2, qw ++ [ev]⟩) 118) = Y19
                generalize Y18.heap.size = p74
                intro BF KN KH I72 K74 hS
                refine wpAnyH_ready (rs := [10]) (by kernel_rfl) (by simp) ?_
                refine AllReadyH.cons rfl (fun K' hK' => ?_) AllReadyH.nil
                clear hS
                have ho : OwnC Y19 V.heap.size (.slice va8 L1.length vc8) L1 := own_same OC.out (fun j hj => BF.out.block j (World.ownsRow.lt OC.out j hj).2)
                have hcf : ∀ j u, (pccells ⟨U, .slice va2 (qw.length + 1) vc2, qw ++ [ev]⟩)[j]? = some u → Y19.cell? ((⟨p74, 0, none⟩ : Addr).add j) = some u := fun j u hu => by
                  rw [addr0_add, Nat.zero_add]
                  exact K74.out.cell j (by rw [← Array.getElem?_toList]; exact hu)
                refine step_append_block rfl (.tmp 65) (.tmp 74) 114 rfl V.heap.size 118 i0 _ 5 56 Tryd.underlying114 hi hz0 hz1 hz2 rfl (by decide) _ _ _ rfl ho ⟨p74, 0, none⟩ 1 1 (pccells ⟨U, .slice va2 (qw.length + 1) vc2, qw ++ [ev]⟩) rfl rfl hcf (by intro u hu; simp [pccells] at hu; rcases hu with rfl | rfl | rfl | rfl | rfl <;> rfl) (by decide) (by unfold maxLen; omega) (by omega) (Nat.le_trans HVZ.out BF.out.size) ?_
                intro v7 Y20 o7 g7 nn7
                have KN7 := Hid.of (blk_grown KN.out g7 (sb_apart ho KN.out))
                have KH7 := Hid.of (blk_grown KH.out g7 HNE1.out)
                have e0 : Below (setMap A br (.map (entsC (L1 ++ [⟨U, .slice va2 (qw.length + 1) vc2, qw ++ [ev]⟩])) (L1.length + 1))).heap.size (setMap A br (.map (entsC (L1 ++ [⟨U, .slice va2 (qw.length + 1) vc2, qw ++ [ev]⟩])) (L1.length + 1))) Y19 := by
                  rw [entsC_s L1 (p := ⟨U, .slice va2 (qw.length + 1) vc2, qw ++ [ev]⟩) (q := (⟨U, .slice none 0 0, []⟩ : PlC)) rfl, ← HZ.out]; exact BF.out
                obtain ⟨p1, p2⟩ := LCI.push (p := ⟨U, .slice va2 (qw.length + 1) vc2, qw ++ [ev]⟩) F2.out B2.out e0 I72.out (own_plcC o7) g7 B2.out.size
                have P1 := Hid.of p1
                have P2 := Hid.of p2
                have P4 := Hid.of (ne_append HNE1.out KH.out.lt nn7)
                refine hK'.out _ _ (SA.out _ KN7.out KH7.out) (fun hS => ?_)
                clear hK' K' p1 p2 e0 o7 g7 nn7 ho hcf
                refine wpAnyH_take (i := 11) (v := v7) rfl (by kernel_rfl) (by kernel_rfl) (by kernel_rfl) (fun _ _ _ h => h) (Or.inl ⟨by kernel_rfl, fun w' hw' => by obtain ⟨q0, q1, q2, q3, q4⟩ := hw'; go_simp⟩) hS ?_
                refine wpAnyH_done (by kernel_rfl) ?_ _
                clear hS
                have HR7 : Hid (RepCL (L1 ++ [⟨U, .slice va2 (qw.length + 1) vc2, qw ++ [ev]⟩]) (l1 ++ [(to, x.2 ++ [(e : Int)])])) := HR1.out.snoc hRep.out
                have HT7 : Hid (WdC p.seen (L1 ++ [⟨U, .slice va2 (qw.length + 1) vc2, qw ++ [ev]⟩]) (l1 ++ [(to, x.2 ++ [(e : Int)])])) := HT1.out.snoc HL1.out (by show qw ++ [ev] = wordS p.seen (x.2 ++ [(e : Int)]); rw [wordS_snoc, HQW.out, HEV.out])
                have HQM7 : Hid (⟨qs, .slice za qw.length zc, qw⟩ ∈ L1 ++ [⟨U, .slice va2 (qw.length + 1) vc2, qw ++ [ev]⟩]) := List.mem_append_left _ HQM.out
                clear KN KH I72 K74 BF F2 B2 H2 N2 OC IQ
                go_wp2_with fail
                go_roundw
                case rel => exact ⟨e + 1, L1 ++ [⟨U, .slice va2 (qw.length + 1) vc2, qw ++ [ev]⟩], by go_num, by omega, P1, P2, KH7, P4, HQM7, (by show RepCL _ _; rw [HNX.out]; exact HR7.out), (by show WdC _ _ _; rw [HNX.out]; exact HT7.out)⟩
                case measure => simp [intOf]; omega
          · have hev2 : e = p.seen.length := by omega
            have HLN : Hid (LE p (k + 1) l1) := by
              have := HLO.out.next hx.out (by omega)
              have e2 : l1 = bfRow (seeD p) x l p.seen.length := by rw [HS1.out, hev2]
              rw [e2]; exact this
            have hl4 : L1.length ≤ 64 := by rw [HL1.out]; exact HBD.out
            have hk1 : k + 1 ≤ L1.length := by
              have := (List.getElem?_eq_some_iff.1 HX1.out).1
              rw [HL1.out]; omega
            clear hev2
            go_wp2_with fail
            go_roundw
            case rel => exact ⟨k + 1, l1, L1, by go_num, hk1, hl4, HF, HB, HR1, HT1, HLN⟩
            case measure => simp [intOf]; omega
      · have hltD : decide ((k : Int) < (L.length : Int)) = false := by simp; omega
        have hltI : ¬ (k : Int) < (L.length : Int) := by omega
        have HW : Hid (fwdL p = l) := HLO.out.all (by rw [← HLl.out]; omega)
        go_wp2
        refine bodyPost_ret (v := .tuple #[.slice va10 L.length vc10, .int .i64 0]) (by simp [results, go_sem]) rfl ?_
        refine ⟨.slice va10 L.length vc10, L, rfl, ⟨ownC_low HF.out.ss bel0.out.size, HF.out.inn, ?_, ?_⟩, bel0.out.trans (HB.out.mono bel0.out.size)⟩
        · rw [HW.out]; exact HR.out
        · rw [HW.out]; exact HTr.out

end Go.Proofs.YtgebfkmfhpcdhaaDoor
