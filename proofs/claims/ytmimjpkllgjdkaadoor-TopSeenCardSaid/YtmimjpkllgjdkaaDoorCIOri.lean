/-
  The walk of initial.Origins.
-/
import Derived.Test.YtmimjpkllgjdkaaDoorCCEss
import Derived.Test.YtmimjpkllgjdkaaDoorCIWat
import Derived.Test.YtmimjpkllgjdkaaDoorG35
namespace Go.Proofs.YtmimjpkllgjdkaaDoor
open Go.RowKit
set_option linter.unusedVariables false

/-- What goes back stays a set of states of the plant. -/
theorem all_val {p : Plant} (hp : mayP p = true) {S : Nat → Nat} {s u : List Int} (hr : Rep S s) (hs : s = valB (opB p) (rngI p.m.st.toNat) u) : ∀ k ∈ allS S, k < 6 := fun k hk => by
  obtain ⟨hm, z6, -, -⟩ := (mayP_iff p).1 hp
  obtain ⟨h1, h2⟩ := (mem_allS S k).1 hk
  have h3 := (hr.mem k h1).1 h2
  rw [hs] at h3
  have := bd_val hm u _ h3
  omega
/-- A piece of a row of places. -/
theorem slice_pieceP (a : Option Addr) (len cap P Q : Nat) (h1 : P ≤ Q) (h2 : Q ≤ cap) : ∃ X Y, (∀ w : World, (Instr.slice 95 (.slice a len cap) (some (.int .i64 (P : Int))) (some (.int .i64 (Q : Int))) none).run Tryd.prog w = .ok (.slice X (Q - P) Y) w) ∧ (P < cap → ∀ b off, a = some ⟨b, off, none⟩ → X = some ⟨b, off + P * 5, none⟩) := by
  refine ⟨if cap = P then a else a.map (·.add (P * 5)), cap - P, fun w => ?_, fun hlt b off ha => ?_⟩
  · have := run_slice_lh (P := Tryd.prog) (w := w) 95 a len cap (by kernel_rfl) .i64 .i64 (P : Int) (Q : Int) (by omega) (by omega) (by omega)
    rw [this]
    go_simp
  · rw [if_neg (by omega), ha, Option.map_some]; simp [Addr.add]
/-- The places that a round goes through lie where they lay when it began. -/
structure SubG (W : World) (g frm : Nat) (L : List PlC) : Prop where
  lt : g < W.heap.size
  cl : ∀ (k : Nat) (q : PlC), frm ≤ k → L[k]? = some q → ∀ (j : Nat) (u : Value), (pccells q)[j]? = some u → W.cell? ⟨g, k * 5 + j, none⟩ = some u
theorem SubG.below {W W' : World} {g frm : Nat} {L : List PlC} (h : SubG W g frm L) (hb : Below W.heap.size W W') : SubG W' g frm L :=
  ⟨Nat.lt_of_lt_of_le h.lt hb.size, fun k q hk hq j u hu => (hb.cell (p := ⟨g, k * 5 + j, none⟩) h.lt).trans (h.cl k q hk hq j u hu)⟩
theorem SubG.map {W : World} {g frm br : Nat} {L : List PlC} (h : SubG W g frm L) (hl : frm < L.length) {m : Array MapEntry} {c : Nat} (hm : W.heap[br]? = some (.map m c)) (o : Obj) : SubG (setMap W br o) g frm L := by
  have hne : g ≠ br := fun e => by
    have := h.cl frm _ (Nat.le_refl _) (List.getElem?_eq_getElem hl) 0 _ rfl
    rw [e] at this
    simp [World.cell?, hm] at this
  exact ⟨by rw [size_setMap]; exact h.lt, fun k q hk hq j u hu => by
    rw [World.cell?_of_block (w := W) (heap_setMap_ne _ _ _ hne)]; exact h.cl k q hk hq j u hu⟩
theorem SubG.push {W W2 : World} {g frm : Nat} {L L2 : List PlC} {v : Value} (h : SubG W g frm L) (hp : L <+: L2) (gr : W.grownBy W2 v.ownBlock) (hk : ∀ g, v.ownBlock = some g → ∀ (j : Nat) (u : Value), (pcflat L2)[j]? = some u → W2.cell? ⟨g, j, none⟩ = some u) : SubG W2 g frm L := by
  refine ⟨Nat.lt_of_lt_of_le h.lt gr.size, fun k q h1 hq j u hu => ?_⟩
  by_cases e : v.ownBlock = some g
  · have hq2 : L2[k]? = some q := by
      obtain ⟨t, ht⟩ := hp
      rw [← ht, List.getElem?_append_left (List.getElem?_eq_some_iff.1 hq).1]; exact hq
    have hj : j < 5 := by have := (List.getElem?_eq_some_iff.1 hu).1; simpa [pccells] using this
    exact hk g e _ _ ((pcflat_at hq2 j hj).trans hu)
  · rw [World.cell?_of_block (w := W) (gr.block g h.lt (fun e2 => e e2.symm))]; exact h.cl k q h1 hq j u hu
theorem own_one_blk {W : World} {b : Nat} {x : Int} (h : Blk W b 3 #[.int .i64 x]) : Own W b (.slice (some ⟨b, 0, none⟩) 1 1) [x] :=
  ⟨rfl, .inr ⟨b, 1, #[.int .i64 x], rfl, Nat.le_refl _, h, Nat.le_refl _, by decide, rfl, rfl⟩⟩
theorem own_capC {W : World} {B : Nat} {a : Option Addr} {n c : Nat} {L : List PlC} (h : OwnC W B (.slice a n c) L) : n = L.length ∧ n ≤ c ∧ (0 < n → ∃ g, a = some ⟨g, 0, none⟩) := by
  rcases h.2 with ⟨h0, hn⟩ | ⟨g, cap, cur, e, hg, hh, hnc, hcm, hcs, ht⟩
  · cases h0
    exact ⟨hn.symm, Nat.le_refl _, fun h => absurd h (Nat.lt_irrefl _)⟩
  · cases e
    exact ⟨rfl, hnc, fun _ => ⟨g, rfl⟩⟩

set_option maxRecDepth 100000 in
set_option maxHeartbeats 4000000 in
theorem origs_bad (p : Plant) (P : PTL) (w : World) (h : Hid (PAt w p P)) (hp : Hid (mayP p = false)) :
    Calls Tryd.prog 85 #[ptval p P] w fun e w' => e = .returned (.tuple #[.slice none 0 0, .int .i64 2]) ∧ Below w.heap.size w w' := by
  have B : Hid (Below w.heap.size w (w.alloc (.cells (ptcells p P) 44))) := (Below.refl _ _).alloc (Nat.le_refl _) _
  have KP : Hid (Blk (w.alloc (.cells (ptcells p P) 44)) w.heap.size 44 (ptcells p P)) := Blk.new w _ _
  go_enter Tryd.func85, Tryd.ntmps85
  obtain ⟨x0, x1, x2, x3, x4, x5, x6⟩ := ptcell_at KP.out
  go_wp2_with fail
  clear x0 x1 x2 x3 x4 x5 x6
  revert B KP
  generalize (w.alloc (.cells (ptcells p P) 44)) = V0
  intro B KP
  refine (iwatch_bad p P V0 (Hid.of (h.out.below B.out (Nat.le_refl _))) hp).mono ?_
  rintro e V1 ⟨rfl, hb⟩
  replace B := Hid.of (B.out.trans (hb.mono B.out.size))
  clear hb KP
  go_wp2_with fail
  exact bodyPost_ret (v := .tuple #[.slice none 0 0, .int .i64 2]) (by simp [results, go_sem]) rfl ⟨rfl, B.out⟩

set_option maxRecDepth 100000 in
set_option maxHeartbeats 16000000 in
theorem origs_ok (p : Plant) (Pl : ML) (sa : Option Addr) (sc : Nat) (ta : Option Addr) (tc : Nat) (w : World) (h : Hid (PAt w p ⟨Pl, sa, sc, ta, tc⟩)) (hT : Hid (Tab w)) (hp : Hid (mayP p = true)) :
    Calls Tryd.prog 85 #[ptval p ⟨Pl, sa, sc, ta, tc⟩] w fun e w' => ∃ l, Orig p l ∧ PlsPost w p.seen l e w' := by
  have hmP := (mayP_iff p).1 hp.out
  have hz := mayB_size hmP.1
  unfold sizeOk at hz
  have h8 : p.seen.length ≤ 8 := by have := row_short (by omega) (by omega) hmP.2.2.1; omega
  have HSB : Hid (∀ k : Nat, k < p.seen.length → 0 ≤ p.seen[k]?.getD 0 ∧ p.seen[k]?.getD 0 < 8) := fun k hk => by
    rw [List.getElem?_eq_getElem hk, Option.getD_some]
    have := ((rowB_iff _ (by omega) _).1 hmP.2.2.1).2 _ (List.getElem_mem hk)
    omega
  have HMM := Hid.of hmP.1
  obtain ⟨N, hN⟩ : ∃ N : Nat, Hid (p.m.st = (N : Int)) := ⟨p.m.st.toNat, by show _ = _; omega⟩
  have hN6 : N ≤ 6 := by have h1 := hN.out; have h2 := hmP.2.1; omega
  have HNT : Hid (p.m.st.toNat = N) := by show _ = _; rw [hN.out]; simp
  have HRQ : Hid (RepI (allF N) (rngI p.m.st.toNat)) := by show RepI _ _; rw [HNT.out]; exact rep_all (by omega)
  clear hmP hz
  obtain ⟨Q, HQ⟩ : ∃ Q, Hid (Q = allF N) := ⟨_, rfl⟩
  rw [← HQ.out] at HRQ
  obtain ⟨i0, hi, hz0, hz1, hz2⟩ := info_parts Tryd.infoPlaceC
  obtain ⟨k0, ki, kz0, kz1, kz2⟩ := info_parts Tryd.infoInt
  have hmm := @run_makeMap Tryd.prog
  have B : Hid (Below w.heap.size w (w.alloc (.cells (ptcells p ⟨Pl, sa, sc, ta, tc⟩) 44))) := (Below.refl _ _).alloc (Nat.le_refl _) _
  have KP : Hid (Blk (w.alloc (.cells (ptcells p ⟨Pl, sa, sc, ta, tc⟩) 44)) w.heap.size 44 (ptcells p ⟨Pl, sa, sc, ta, tc⟩)) := Blk.new w _ _
  go_enter Tryd.func85, Tryd.ntmps85
  obtain ⟨x0, x1, x2, x3, x4, x5, x6⟩ := ptcell_at KP.out
  go_wp2_with fail
  clear x0 x1 x2 x3 x4 x5 x6
  revert B KP
  generalize (w.alloc (.cells (ptcells p ⟨Pl, sa, sc, ta, tc⟩) 44)) = V0
  intro B KP
  refine (iwatch_ok p Pl sa sc ta tc V0 (Hid.of (h.out.below B.out (Nat.le_refl _))) (Hid.of (hT.out.below B.out hT.out.lt)) hp).mono ?_
  rintro e V1 ⟨pa, rfl, ti, hb⟩
  replace B := Hid.of (B.out.trans (hb.mono B.out.size))
  replace KP := Hid.of (KP.out.below hb KP.out.lt)
  have TIa := Hid.of ti
  clear hb ti
  obtain ⟨x0, x1, x2, x3, x4, x5, x6⟩ := ptcell_at KP.out
  go_wp2_with fail
  clear x0 x1 x2 x3 x4 x5 x6
  refine (iall_any p ⟨Pl, sa, sc, ta, tc⟩ N hN (by omega) V1).mono ?_
  rintro e V2 ⟨rfl, hb0⟩
  rw [← HQ.out]
  have hb : Below V1.heap.size V1 (V2.alloc (.cells (scells Q) 69)) := hb0.alloc hb0.size _
  have bel0 : Hid (Below w.heap.size w (V2.alloc (.cells (scells Q) 69))) := B.out.trans (hb.mono B.out.size)
  replace KP := Hid.of (KP.out.below hb KP.out.lt)
  replace TIa := Hid.of (TIa.out.below hb TIa.out.lt)
  have b0 : SB (V2.alloc (.cells (scells Q) 69)) V2.heap.size Q := Blk.new V2 _ _
  have hlV : Hid (V2.heap.size < (V2.alloc (.cells (scells Q) 69)).heap.size) := b0.lt
  have HTV := Hid.of (hT.out.below bel0.out hT.out.lt)
  have HSV := Hid.of (h.out.s.at_.below bel0.out (Nat.le_refl _))
  clear hb hb0 B
  go_wp2_with fail
  revert bel0 KP TIa b0 hlV HTV HSV
  generalize V2.alloc (.cells (scells Q) 69) = V
  generalize V2.heap.size = pv
  intro bel0 KP TIa b0 hlV HTV HSV
  refine Code.wp_mono (Q := regQ fun a' W' => ∃ (br : Nat) (vs r28 r29 r30 r31 r32 r33 r34 : Value), a' = { tmps := #[ptval p ⟨Pl, sa, sc, ta, tc⟩, .pointer (some ⟨w.heap.size, 0, none⟩), .slice none 0 0, .int .i64 0, backV pa, .int .i64 0, .pointer (some ⟨pv, 0, none⟩), vs, .map (some br), undef, undef, undef, undef, undef, undef, undef, undef, undef, .tuple #[backV pa, .int .i64 0], ptval p ⟨Pl, sa, sc, ta, tc⟩, .tuple #[backV pa, .int .i64 0], backV pa, .int .i64 0, .int .i64 0, .bool false, undef, ptval p ⟨Pl, sa, sc, ta, tc⟩, sval Q, r28, r29, r30, r31, r32, r33, r34, undef, undef, undef, undef, undef, undef, undef, undef, undef, undef, undef, undef, undef, undef, undef, undef, undef, undef, undef, undef, undef, undef, undef, undef, undef, undef, undef, undef, undef, undef, undef, undef, undef, undef, undef, undef, undef, undef, undef, undef, undef, undef, undef, undef, undef, undef, undef, undef, undef, undef, undef], defers := [] } ∧ LCI V.heap.size W' br vs [⟨Q, .slice none 0 0, []⟩] ∧ Below V.heap.size V W') ?aft ?reg
  case reg =>
    refine wp_region_held_drew (S := fun w' => w'.cell? ⟨pv, 0, none⟩ = some (.int .u64 (Q 0)) ∧ w'.cell? ⟨pv, 1, none⟩ = some (.int .u64 (Q 1)) ∧ w'.cell? ⟨pv, 2, none⟩ = some (.int .u64 (Q 2)) ∧ w'.cell? ⟨pv, 3, none⟩ = some (.int .u64 (Q 3))) (by kernel_rfl) b0.cells (fun hS0 => ?_)
    refine wpAnyH_take (i := 0) (v := sval Q) rfl (by kernel_rfl) (by kernel_rfl) (by kernel_rfl) (fun _ _ _ h => h) (Or.inl ⟨by kernel_rfl, fun w' hw' => by obtain ⟨q0, q1, q2, q3⟩ := hw'; go_simp⟩) hS0 ?_
    refine wpAnyH_take (i := 1) (v := .agg #[.int .u64 (Q 0), .int .u64 (Q 1), .int .u64 (Q 2), .int .u64 (Q 3), .slice none 0 0]) rfl (by kernel_rfl) (by kernel_rfl) (by kernel_rfl) (fun _ _ _ h => h) (Or.inl ⟨by kernel_rfl, fun w' hw' => by obtain ⟨q0, q1, q2, q3⟩ := hw'; go_simp⟩) hS0 ?_
    refine wpAnyH_take (i := 4) (v := sval Q) rfl (by kernel_rfl) (by kernel_rfl) (by kernel_rfl) (fun _ _ _ h => h) (Or.inl ⟨by kernel_rfl, fun w' hw' => by obtain ⟨q0, q1, q2, q3⟩ := hw'; go_simp⟩) hS0 ?_
    refine wpAnyH_take (i := 5) (v := .agg #[]) rfl (by kernel_rfl) (by kernel_rfl) (by kernel_rfl) (fun _ _ _ h => h) (Or.inl ⟨by kernel_rfl, fun w' hw' => by obtain ⟨q0, q1, q2, q3⟩ := hw'; go_simp⟩) hS0 ?_
    simp only [Act.put, List.setIfInBounds_toArray]
    refine wpAnyH_ready (rs := [2, 3]) (by kernel_rfl) (by simp) ?_
    refine AllReadyH.cons rfl (fun K' hK' => ?_) (AllReadyH.cons rfl (fun K' hK' => ?_) AllReadyH.nil)
    · go_simp
      refine hK'.out _ _ (SB.cells (Blk.drew (b0.alloc _))) (fun hS1 => ?_)
      clear hK' K'
      refine wpAnyH_take (i := 8) (v := .slice (some ⟨V.heap.size, 0, none⟩) 1 1) rfl (by kernel_rfl) (by kernel_rfl) (by kernel_rfl) (fun _ _ _ h => h) (Or.inl ⟨by kernel_rfl, fun w' hw' => by obtain ⟨q0, q1, q2, q3⟩ := hw'; go_simp⟩) hS1 ?_
      refine wpAnyH_ready (rs := [3]) (by kernel_rfl) (by simp) ?_
      refine AllReadyH.cons rfl (fun K' hK' => ?_) AllReadyH.nil
      go_simp
      refine hK'.out _ _ (SB.cells (Blk.drew ((b0.alloc _).alloc _))) (fun hS2 => ?_)
      clear hK' K'
      refine wpAnyH_ready (rs := [6]) (by kernel_rfl) (by simp) ?_
      refine AllReadyH.cons rfl (fun K' hK' => ?_) AllReadyH.nil
      have hmp : ((V.alloc (.cells (pc0 Q) 99)).alloc (.map #[] 0)).heap[V.heap.size + 1]? = some (.map #[] 0) := by
        have := World.alloc_heap_new (V.alloc (.cells (pc0 Q) 99)) (.map #[] 0)
        rwa [World.size_alloc] at this
      have hu := updC_first (p := ⟨Q, .slice none 0 0, []⟩) HRQ.out (w := ((V.alloc (.cells (pc0 Q) 99)).alloc (.map #[] 0)).drew) (r := V.heap.size + 1) hmp
      go_simp
      refine hK'.out _ _ (SB.cells (blk_mapC (b := pv) (br := V.heap.size + 1) (Blk.drew ((b0.alloc _).alloc _)) (by have := hlV.out; omega) _)) (fun hS3 => ?_)
      clear hK' K'
      refine wpAnyH_take (i := 7) (v := .map (some (V.heap.size + 1))) rfl (by kernel_rfl) (by kernel_rfl) (by kernel_rfl) (fun _ _ _ h => h) (Or.inl ⟨by kernel_rfl, fun w' hw' => by obtain ⟨q0, q1, q2, q3⟩ := hw'; go_simp⟩) hS3 ?_
      refine wpAnyH_take (i := 9) (v := .map (some (V.heap.size + 1))) rfl (by kernel_rfl) (by kernel_rfl) (by kernel_rfl) (fun _ _ _ h => h) (Or.inl ⟨by kernel_rfl, fun w' hw' => by obtain ⟨q0, q1, q2, q3⟩ := hw'; go_simp⟩) hS3 ?_
      refine wpAnyH_done (by kernel_rfl) ?_ _
      have ho : OwnC ((V.alloc (.cells (pc0 Q) 99)).alloc (.map #[] 0)).drew V.heap.size (.slice (some ⟨V.heap.size, 0, none⟩) 1 1) [⟨Q, .slice none 0 0, []⟩] := World.ownsRow.alloc (ownC_one V ⟨Q, .slice none 0 0, []⟩ V.heap.size (Nat.le_refl _)) (.map #[] 0)
      exact ⟨V.heap.size + 1, .slice (some ⟨V.heap.size, 0, none⟩) 1 1, _, _, _, _, _, _, _, rfl, lci_first ho (innW_nil _ _) hmp (by omega), below_mapC ((((Below.refl _ V).alloc (Nat.le_refl _) _).alloc (by simp) _).drew) (by omega) _⟩
    · go_simp
      refine hK'.out _ _ (SB.cells (Blk.drew (b0.alloc _))) (fun hS1 => ?_)
      clear hK' K'
      refine wpAnyH_ready (rs := [2, 6]) (by kernel_rfl) (by simp) ?_
      refine AllReadyH.cons rfl (fun K' hK' => ?_) (AllReadyH.cons rfl (fun K' hK' => ?_) AllReadyH.nil)
      · go_simp
        refine hK'.out _ _ (SB.cells (Blk.drew ((b0.alloc _).alloc _))) (fun hS2 => ?_)
        clear hK' K'
        refine wpAnyH_take (i := 8) (v := .slice (some ⟨V.heap.size + 1, 0, none⟩) 1 1) rfl (by kernel_rfl) (by kernel_rfl) (by kernel_rfl) (fun _ _ _ h => h) (Or.inl ⟨by kernel_rfl, fun w' hw' => by obtain ⟨q0, q1, q2, q3⟩ := hw'; go_simp⟩) hS2 ?_
        refine wpAnyH_ready (rs := [6]) (by kernel_rfl) (by simp) ?_
        refine AllReadyH.cons rfl (fun K' hK' => ?_) AllReadyH.nil
        have hmp : ((V.alloc (.map #[] 0)).alloc (.cells (pc0 Q) 99)).heap[V.heap.size]? = some (.map #[] 0) := by
          have := World.alloc_heap_new V (.map #[] 0)
          exact (Below.heap_alloc (V.alloc (.map #[] 0)) (.cells (pc0 Q) 99) _ (by rw [World.size_alloc]; omega)).trans this
        have hu := updC_first (p := ⟨Q, .slice none 0 0, []⟩) HRQ.out (w := ((V.alloc (.map #[] 0)).alloc (.cells (pc0 Q) 99)).drew) (r := V.heap.size) hmp
        go_simp
        refine hK'.out _ _ (SB.cells (blk_mapC (b := pv) (br := V.heap.size) (Blk.drew ((b0.alloc _).alloc _)) (by have := hlV.out; omega) _)) (fun hS3 => ?_)
        clear hK' K'
        refine wpAnyH_take (i := 7) (v := .map (some V.heap.size)) rfl (by kernel_rfl) (by kernel_rfl) (by kernel_rfl) (fun _ _ _ h => h) (Or.inl ⟨by kernel_rfl, fun w' hw' => by obtain ⟨q0, q1, q2, q3⟩ := hw'; go_simp⟩) hS3 ?_
        refine wpAnyH_take (i := 9) (v := .map (some V.heap.size)) rfl (by kernel_rfl) (by kernel_rfl) (by kernel_rfl) (fun _ _ _ h => h) (Or.inl ⟨by kernel_rfl, fun w' hw' => by obtain ⟨q0, q1, q2, q3⟩ := hw'; go_simp⟩) hS3 ?_
        refine wpAnyH_done (by kernel_rfl) ?_ _
        have ho : OwnC ((V.alloc (.map #[] 0)).alloc (.cells (pc0 Q) 99)).drew V.heap.size (.slice (some ⟨V.heap.size + 1, 0, none⟩) 1 1) [⟨Q, .slice none 0 0, []⟩] := by
          have := ownC_one (V.alloc (.map #[] 0)) ⟨Q, .slice none 0 0, []⟩ V.heap.size (by rw [World.size_alloc]; omega)
          rw [World.size_alloc] at this
          exact this
        exact ⟨V.heap.size, .slice (some ⟨V.heap.size + 1, 0, none⟩) 1 1, _, _, _, _, _, _, _, rfl, lci_first ho (innW_nil _ _) hmp (by omega), below_mapC ((((Below.refl _ V).alloc (Nat.le_refl _) _).alloc (by simp) _).drew) (by omega) _⟩
      · have hmp : (V.alloc (.map #[] 0)).heap[V.heap.size]? = some (.map #[] 0) := World.alloc_heap_new V (.map #[] 0)
        have hu := updC_first (p := ⟨Q, .slice none 0 0, []⟩) HRQ.out (w := (V.alloc (.map #[] 0)).drew) (r := V.heap.size) hmp
        go_simp
        refine hK'.out _ _ (SB.cells (blk_mapC (Blk.drew (b0.alloc _)) (by have := hlV.out; omega) _)) (fun hS2 => ?_)
        clear hK' K'
        refine wpAnyH_take (i := 7) (v := .map (some V.heap.size)) rfl (by kernel_rfl) (by kernel_rfl) (by kernel_rfl) (fun _ _ _ h => h) (Or.inl ⟨by kernel_rfl, fun w' hw' => by obtain ⟨q0, q1, q2, q3⟩ := hw'; go_simp⟩) hS2 ?_
        refine wpAnyH_ready (rs := [2]) (by kernel_rfl) (by simp) ?_
        refine AllReadyH.cons rfl (fun K' hK' => ?_) AllReadyH.nil
        have hsz : (setMap (V.alloc (.map #[] 0)).drew V.heap.size (.map (entsC [⟨Q, .slice none 0 0, []⟩]) 1)).heap.size = V.heap.size + 1 := by rw [size_setMap]; show (V.alloc (.map #[] 0)).heap.size = _; rw [World.size_alloc]
        go_simp
        refine hK'.out _ _ (SB.cells (Blk.alloc (blk_mapC (Blk.drew (b0.alloc _)) (by have := hlV.out; omega) _) _)) (fun hS3 => ?_)
        clear hK' K'
        refine wpAnyH_take (i := 8) (v := .slice (some ⟨V.heap.size + 1, 0, none⟩) 1 1) rfl (by kernel_rfl) (by kernel_rfl) (by kernel_rfl) (fun _ _ _ h => h) (Or.inl ⟨by kernel_rfl, fun w' hw' => by obtain ⟨q0, q1, q2, q3⟩ := hw'; go_simp⟩) hS3 ?_
        refine wpAnyH_take (i := 9) (v := .map (some V.heap.size)) rfl (by kernel_rfl) (by kernel_rfl) (by kernel_rfl) (fun _ _ _ h => h) (Or.inl ⟨by kernel_rfl, fun w' hw' => by obtain ⟨q0, q1, q2, q3⟩ := hw'; go_simp⟩) hS3 ?_
        refine wpAnyH_done (by kernel_rfl) ?_ _
        have hf := lci_first2 (B := V.heap.size) (p := ⟨Q, .slice none 0 0, []⟩) (W := setMap (V.alloc (.map #[] 0)).drew V.heap.size (.map (entsC [⟨Q, .slice none 0 0, []⟩]) 1)) (br := V.heap.size) (innW_nil _ _) (heap_setMap _ _ (by show _ < (V.alloc (.map #[] 0)).heap.size; rw [World.size_alloc]; omega)) (Nat.le_refl _) (by omega)
        rw [hsz] at hf
        exact ⟨V.heap.size, .slice (some ⟨V.heap.size + 1, 0, none⟩) 1 1, _, _, _, _, _, _, _, rfl, hf, (below_mapC (((Below.refl _ V).alloc (Nat.le_refl _) _).drew) (Nat.le_refl _) _).alloc (by omega) _⟩
  case aft =>
    refine regQ_imp ?_
    rintro a' W' ⟨br, vs, r28, r29, r30, r31, r32, r33, r34, rfl, q1, q2⟩
    have Q1 := Hid.of q1
    have Q2 := Hid.of q2
    clear q1 q2 b0 hmm
    have HL0 : Hid (IG (opB p) (rngI p.m.st.toNat) p.seen.length 0 0 1 0 0 [(rngI p.m.st.toNat, [])]) := ig_start _ _
    have HR0 : Hid (RepCL [⟨Q, .slice none 0 0, []⟩] [(rngI p.m.st.toNat, [])]) := RepCL.one HRQ.out
    have HT0 : Hid (WdC p.seen [⟨Q, .slice none 0 0, []⟩] [(rngI p.m.st.toNat, ([] : List Int))]) := WdC.one rfl
    go_wp2_with fail
    go_loopw [7, 9, 10] (fun v7 i j wr => ∃ (n frm to : Nat) (l : List (List Int × List Int)) (L : List PlC), i = .int .i64 frm ∧ j = .int .i64 to ∧ frm ≤ to ∧ to ≤ 64 ∧ n ≤ frm ∧ Hid (to = L.length) ∧ Hid (LCI V.heap.size wr br v7 L) ∧ Hid (Below V.heap.size V wr) ∧ Hid (RepCL L l) ∧ Hid (WdC p.seen L l) ∧ Hid (IG (opB p) (rngI p.m.st.toNat) p.seen.length n frm to 0 frm l)) (fun _ i _ _ => 65 - (intOf i).toNat)
    case atStart => exact ⟨0, 0, 1, [(rngI p.m.st.toNat, [])], [⟨Q, .slice none 0 0, []⟩], rfl, rfl, by omega, by omega, Nat.le_refl _, rfl, Q1, Q2, HR0, HT0, HL0⟩
    case round =>
      clear Q1 Q2 HR0 HT0 HL0
      obtain ⟨n, frm, to, l, L, rfl, rfl, hft, h64, hnf, HTL, HF, HB, HR, HTr, HLO⟩ := hrel
      obtain ⟨va10, vc10, hv10, -, -, -⟩ := own_form2 HF.out.ss
      subst hv10
      have HLl := Hid.of HR.out.len
      by_cases hlt : frm < to
      · have x5 : wr.cell? ⟨w.heap.size, 5, none⟩ = some (.slice sa p.seen.length sc) := (KP.out.below HB.out KP.out.lt).cell 5 rfl
        go_wp2_with fail
        clear x5
        go_loopw [7, 44] (fun v7 i wr' => ∃ (e : Nat) (L1 : List PlC) (l1 : List (List Int × List Int)), i = .int .i64 e ∧ e ≤ p.seen.length ∧ Hid (LCI V.heap.size wr' br v7 L1) ∧ Hid (Below V.heap.size V wr') ∧ Hid (RepCL L1 l1) ∧ Hid (WdC p.seen L1 l1) ∧ Hid (IG (opB p) (rngI p.m.st.toNat) p.seen.length n frm to e frm l1)) (fun _ i _ => p.seen.length - (intOf i).toNat)
        case atStart => exact ⟨0, L, l, rfl, Nat.zero_le _, HF, HB, HR, HTr, HLO⟩
        case round =>
          clear HF HB HR HTr HLO HLl HTL
          obtain ⟨e, L1, l1, rfl, hee, HF, HB, HR, HTr, HLO⟩ := hrel
          obtain ⟨va8, vc8, hv8, -, -, -⟩ := own_form2 HF.out.ss
          subst hv8
          have HL1 := Hid.of HR.out.len
          have htl1 : to ≤ L1.length := by rw [HL1.out]; exact HLO.out.tl
          obtain ⟨-, hcap, hgg⟩ := own_capC HF.out.ss
          obtain ⟨g, rfl⟩ := hgg (by omega)
          have HSG : Hid (SubG wr g frm (L1.take to)) := by
            refine ⟨(World.ownsRow.lt HF.out.ss g rfl).2, fun k q _ hq j u hu => ?_⟩
            have hk := (List.getElem?_eq_some_iff.1 hq).1
            rw [List.length_take] at hk
            rw [List.getElem?_take_of_lt (by omega)] at hq
            obtain ⟨g', cap', e', -, -, hc⟩ := HF.out.ss.cell hq
            cases e'
            exact hc j u hu
          have HPX : Hid (L1.take to <+: L1) := List.take_prefix _ _
          have HTT : Hid ((L1.take to).length = to) := by show _ = _; rw [List.length_take]; omega
          obtain ⟨LT, HLT⟩ : ∃ LT, Hid (LT = L1.take to) := ⟨_, rfl⟩
          rw [← HLT.out] at HSG HPX HTT
          by_cases hle : e < p.seen.length
          · obtain ⟨bs, os, ev, rfl, HEV, HSC⟩ : ∃ (bs os : Nat) (ev : Int), sa = some ⟨bs, os, none⟩ ∧ Hid (ev = p.seen[e]?.getD 0) ∧ wr.cell? ⟨bs, os + e, none⟩ = some (.int .i64 ev) := by
              rcases HSV.out with h0 | ⟨bs, os, ha, hb, hc⟩
              · have : p.seen.length = 0 := by rw [h0]; rfl
                omega
              · obtain ⟨ev, hev, hcell⟩ := hc.at hle
                exact ⟨bs, os, ev, ha, hev, (HB.out.cell (p := ⟨bs, os + e, none⟩) hb).trans hcell⟩
            obtain ⟨se, HSE, hse8⟩ : ∃ se : Nat, Hid (ev = (se : Int)) ∧ se < 8 := by
              have := HSB.out e hle
              rw [← HEV.out] at this
              exact ⟨ev.toNat, by show ev = _; omega, by omega⟩
            obtain ⟨X, Y, hsl, hX⟩ := slice_pieceP (some ⟨g, 0, none⟩) L1.length vc8 frm to hft (by omega)
            have hX2 := hX (by omega) g 0 rfl
            obtain ⟨o, HO⟩ : ∃ o, Hid (o = 0 + frm * 5) := ⟨_, rfl⟩
            rw [← HO.out] at hX2
            subst hX2
            obtain ⟨d, HD⟩ : ∃ d, Hid (d = to - frm) := ⟨_, rfl⟩
            have hd : frm + d = to := by rw [HD.out]; omega
            rw [← HD.out] at hsl
            clear hX
            go_wp2_with fail
            clear HSC hsl
            go_loopw [7, 53] (fun v7 i wr' => ∃ (r : Nat) (L2 : List PlC) (l2 : List (List Int × List Int)), i = .int .i64 r ∧ r ≤ d ∧ Hid (LCI V.heap.size wr' br v7 L2) ∧ Hid (Below V.heap.size V wr') ∧ Hid (SubG wr' g frm LT) ∧ Hid (LT <+: L2) ∧ Hid (RepCL L2 l2) ∧ Hid (WdC p.seen L2 l2) ∧ Hid (IG (opB p) (rngI p.m.st.toNat) p.seen.length n frm to e (frm + r) l2)) (fun _ i _ => 65 - (intOf i).toNat)
            case atStart => exact ⟨0, L1, l1, rfl, Nat.zero_le _, HF, HB, HSG, HPX, HR, HTr, HLO⟩
            case round =>
              clear HF HB HR HTr HLO HSG HPX
              obtain ⟨r, L2, l2, rfl, hrd, HF, HB, HSG, HPX, HR, HTr, HLO⟩ := hrel
              obtain ⟨va7, vc7, hv7, -, -, -⟩ := own_form2 HF.out.ss
              subst hv7
              have HL2 := Hid.of HR.out.len
              have HBD : Hid (l2.length ≤ 64) := ig_bound hp.out HLO.out
              by_cases hrl : r < d
              · have hkt : frm + r < to := by omega
                obtain ⟨q, hqT⟩ : ∃ q, LT[frm + r]? = some q := ⟨_, List.getElem?_eq_getElem (by rw [HTT.out]; exact hkt)⟩
                have hq : L2[frm + r]? = some q := by
                  obtain ⟨t, ht⟩ := HPX.out
                  rw [← ht, List.getElem?_append_left (List.getElem?_eq_some_iff.1 hqT).1]; exact hqT
                obtain ⟨x, hx0, hrq⟩ := HR.out.rep _ q hq
                have hx := Hid.of hx0
                have hqw := HTr.out _ q x hq hx0
                have hqm := List.mem_of_getElem? hq
                obtain ⟨za, zc, hzv, -, -, hzn⟩ := (HF.out.inn q hqm).at
                obtain ⟨qs, qv, qw⟩ := q
                dsimp only at hzv hqw
                subst hzv
                have HZN := Hid.of hzn
                have HQW : Hid (qw = wordS p.seen x.2) := hqw
                have HQM := Hid.of hqm
                have hWl : Hid (qw.length ≤ 64) := by show _ ≤ _; have := (ig_lenof HLO.out hx0).2 hkt; rw [HQW.out, wordS_len]; omega
                have HRP := Hid.of hrq
                have hc := HSG.out.cl (frm + r) _ (by omega) hqT
                have hadr : (frm + r) * 5 = o + r * 5 := by rw [HO.out]; omega
                rw [hadr] at hc
                have c0 : wr.cell? ⟨g, o + r * 5, none⟩ = _ := hc 0 _ rfl
                have c1 := hc 1 _ rfl
                have c2 := hc 2 _ rfl
                have c3 := hc 3 _ rfl
                have c4 := hc 4 _ rfl
                have HOK : Hid (okS qs) := HRP.out.1.ok
                have HVL := Hid.of (HLO.out.run x (List.mem_of_getElem? hx0)).1
                clear hq hqT hrq hc hqw hqm hzn hx0 hadr
                have hb1 : Below wr.heap.size wr (wr.alloc (.cells (pcarr ⟨qs, .slice za qw.length zc, qw⟩) 99)) := (Below.refl _ _).alloc (Nat.le_refl _) _
                have F1 : Hid (LCI V.heap.size (wr.alloc (.cells (pcarr ⟨qs, .slice za qw.length zc, qw⟩) 99)) br (.slice va7 L2.length vc7) L2) := HF.out.below hb1
                have B1 : Hid (Below V.heap.size V (wr.alloc (.cells (pcarr ⟨qs, .slice za qw.length zc, qw⟩) 99))) := HB.out.alloc HB.out.size _
                have G1 : Hid (SubG (wr.alloc (.cells (pcarr ⟨qs, .slice za qw.length zc, qw⟩) 99)) g frm LT) := HSG.out.below hb1
                have N1 : Hid (Blk (wr.alloc (.cells (pcarr ⟨qs, .slice za qw.length zc, qw⟩) 99)) wr.heap.size 99 (pcarr ⟨qs, .slice za qw.length zc, qw⟩)) := Blk.new wr _ _
                have NE1 : Hid ((Value.slice va7 L2.length vc7).ownBlock ≠ some wr.heap.size) := fun e => by have := (World.ownsRow.lt HF.out.ss _ e).2; omega
                have BW := Hid.of (bel0.out.trans (B1.out.mono bel0.out.size))
                have hcall := Hid.of (iwatch1_any qs HOK.out se hse8 (baT p) (fun _ => okS_tabK _ _ _ _) (all_val hp.out HRP.out.1 HVL.out) pa (wr.alloc (.cells (pcarr ⟨qs, .slice za qw.length zc, qw⟩) 99)) (hT.out.below BW.out hT.out.lt) (TIa.out.below B1.out TIa.out.lt))
                have hRep : Hid (RepI (toF (fun n => baT p (se * 6 + n)) (allS qs)) (opB p e x.1)) := by
                  have := rep_back hp.out HRP.out.1 (by rw [HVL.out]; exact bd_val HMM.out _) hle
                  rw [← HEV.out, HSE.out, Int.toNat_natCast] at this
                  exact this
                obtain ⟨U, HU⟩ : ∃ U, Hid (U = toF (fun n => baT p (se * 6 + n)) (allS qs)) := ⟨_, rfl⟩
                obtain ⟨to2, HTO⟩ : ∃ to2, Hid (to2 = opB p e x.1) := ⟨_, rfl⟩
                rw [← HU.out] at hcall hRep
                rw [← HTO.out] at hRep
                have HST : Hid (igStep (opB p) x e l2 = if knownB l2 to2 = true then l2 else l2 ++ [(to2, (e : Int) :: x.2)]) := by
                  show _ = _
                  unfold igStep; rw [← HTO.out]
                have HNX : Hid (IG (opB p) (rngI p.m.st.toNat) p.seen.length n frm to e (frm + r + 1) (igStep (opB p) x e l2)) := ig_step HLO.out (by omega) hkt hx.out hle
                have hrI : (r : Int) < (d : Int) := by omega
                rw [← HSE.out] at hcall
                obtain ⟨m0, m1, m2, m3, m4⟩ := PCk.cells N1.out
                clear hb1 HF HB HSG BW
                go_wp2_with fail
                clear c0 c1 c2 c3 c4 m0 m1 m2 m3 m4 hrI
                revert F1 B1 G1 N1 NE1 hcall
                generalize wr.alloc (.cells (pcarr ⟨qs, .slice za qw.length zc, qw⟩) 99) = W0
                generalize wr.heap.size = hp1
                intro F1 B1 G1 N1 NE1 hcall
                refine hcall.out.mono ?_
                rintro r' w1 ⟨rfl, hb1⟩
                have hb2 : Below w1.heap.size w1 (w1.alloc (.cells (scells U) 69)) := (Below.refl _ _).alloc (Nat.le_refl _) _
                have hb3 := hb1.trans (hb2.mono hb1.size)
                replace F1 : Hid (LCI V.heap.size (w1.alloc (.cells (scells U) 69)) br (.slice va7 L2.length vc7) L2) := F1.out.below hb3
                replace B1 : Hid (Below V.heap.size V (w1.alloc (.cells (scells U) 69))) := B1.out.trans (hb3.mono B1.out.size)
                replace G1 : Hid (SubG (w1.alloc (.cells (scells U) 69)) g frm LT) := G1.out.below hb3
                have HPL : Hid (hp1 < w1.heap.size) := Nat.lt_of_lt_of_le N1.out.lt hb1.size
                replace N1 : Hid (Blk (w1.alloc (.cells (scells U) 69)) hp1 99 (pcarr ⟨qs, .slice za qw.length zc, qw⟩)) := N1.out.below hb3 N1.out.lt
                have M1 : Hid (SB (w1.alloc (.cells (scells U) 69)) w1.heap.size U) := Blk.new w1 _ _
                clear hcall hb1 hb2 hb3
                obtain ⟨n0, n1, n2, n3⟩ := SB.cells M1.out
                have hb4 : Hid (Below (w1.alloc (.cells (scells U) 69)).heap.size (w1.alloc (.cells (scells U) 69)) ((w1.alloc (.cells (scells U) 69)).alloc (.cells #[] 134))) := (Below.refl _ _).alloc (Nat.le_refl _) _
                cases hkn : knownB l2 to2 with
                | true =>
                  have lk := lookC_known HR.out hRep.out (w := w1.alloc (.cells (scells U) 69)) (r := br) F1.out.mp hkn
                  have HN2 : Hid (IG (opB p) (rngI p.m.st.toNat) p.seen.length n frm to e (frm + (r + 1)) l2) := by
                    have := HNX.out
                    rw [HST.out, if_pos hkn] at this
                    exact this
                  have F2 : Hid (LCI V.heap.size ((w1.alloc (.cells (scells U) 69)).alloc (.cells #[] 134)) br (.slice va7 L2.length vc7) L2) := F1.out.below hb4.out
                  have B2 : Hid (Below V.heap.size V ((w1.alloc (.cells (scells U) 69)).alloc (.cells #[] 134))) := B1.out.alloc B1.out.size _
                  have G2 : Hid (SubG ((w1.alloc (.cells (scells U) 69)).alloc (.cells #[] 134)) g frm LT) := G1.out.below hb4.out
                  clear hkn HNX HST hb4
                  go_wp2_with fail
                  go_roundw
                  case rel => exact ⟨r + 1, L2, l2, by go_num, by omega, F2, B2, G2, HPX, HR, HTr, HN2⟩
                  case measure => simp [intOf]; omega
                | false =>
                  have lk := lookC_new HR.out hRep.out (w := w1.alloc (.cells (scells U) 69)) (r := br) F1.out.mp hkn
                  have HN2 : Hid (IG (opB p) (rngI p.m.st.toNat) p.seen.length n frm to e (frm + (r + 1)) (l2 ++ [(to2, (e : Int) :: x.2)])) := by
                    have := HNX.out
                    rw [HST.out, if_neg (by rw [hkn]; simp)] at this
                    exact this
                  have F2 : Hid (LCI V.heap.size ((w1.alloc (.cells (scells U) 69)).alloc (.cells #[] 134)) br (.slice va7 L2.length vc7) L2) := F1.out.below hb4.out
                  have B2 : Hid (Below V.heap.size V ((w1.alloc (.cells (scells U) 69)).alloc (.cells #[] 134))) := B1.out.alloc B1.out.size _
                  have G2 : Hid (SubG ((w1.alloc (.cells (scells U) 69)).alloc (.cells #[] 134)) g frm LT) := G1.out.below hb4.out
                  have H2 : Hid (Blk ((w1.alloc (.cells (scells U) 69)).alloc (.cells #[] 134)) hp1 99 (pcarr ⟨qs, .slice za qw.length zc, qw⟩)) := N1.out.alloc _
                  have N2 : Hid (SB ((w1.alloc (.cells (scells U) 69)).alloc (.cells #[] 134)) w1.heap.size U) := M1.out.alloc _
                  obtain ⟨k0', k1', k2', k3'⟩ := SB.cells N2.out
                  have hu := updC_new (p := (⟨U, .slice none 0 0, []⟩ : PlC)) HR.out hRep.out (w := ((w1.alloc (.cells (scells U) 69)).alloc (.cells #[] 134))) (r := br) F2.out.mp hkn
                  have hl1 : L2.length ≤ 64 := by rw [HL2.out]; exact HBD.out
                  clear hkn HNX HST
                  go_wp2_with fail
                  clear n0 n1 n2 n3 k0' k1' k2' k3' lk hu F1 B1 G1 N1 M1 hb4
                  revert HPL F2 B2 G2 H2 N2
                  generalize ((w1.alloc (.cells (scells U) 69)).alloc (.cells #[] 134)) = A
                  generalize w1.heap.size = pn
                  intro HPL F2 B2 G2 H2 N2
                  have KN : Hid (SB (setMap A br (.map (entsC (L2 ++ [(⟨U, .slice none 0 0, []⟩ : PlC)])) (L2.length + 1))) pn U) := blk_mapC N2.out (F2.out.nebr N2.out) _
                  have KH : Hid (Blk (setMap A br (.map (entsC (L2 ++ [(⟨U, .slice none 0 0, []⟩ : PlC)])) (L2.length + 1))) hp1 99 (pcarr ⟨qs, .slice za qw.length zc, qw⟩)) := blk_mapC H2.out (F2.out.nebr H2.out) _
                  have OC : Hid (OwnC (setMap A br (.map (entsC (L2 ++ [(⟨U, .slice none 0 0, []⟩ : PlC)])) (L2.length + 1))) V.heap.size (.slice va7 L2.length vc7) L2) := F2.out.mapped _
                  have IQ : Hid (InnW 0 (setMap A br (.map (entsC (L2 ++ [(⟨U, .slice none 0 0, []⟩ : PlC)])) (L2.length + 1))) (.slice za qw.length zc) qw) := innW_map F2.out.mp _ (F2.out.inn _ HQM.out)
                  have SG : Hid (SubG (setMap A br (.map (entsC (L2 ++ [(⟨U, .slice none 0 0, []⟩ : PlC)])) (L2.length + 1))) g frm LT) := G2.out.map (by rw [HTT.out]; omega) F2.out.mp _
                  have SA : Hid (∀ W, SB W pn U → Blk W hp1 99 (pcarr ⟨qs, .slice za qw.length zc, qw⟩) → W.cell? ⟨pn, 0, none⟩ = some (.int .u64 (U 0)) ∧ W.cell? ⟨pn, 1, none⟩ = some (.int .u64 (U 1)) ∧ W.cell? ⟨pn, 2, none⟩ = some (.int .u64 (U 2)) ∧ W.cell? ⟨pn, 3, none⟩ = some (.int .u64 (U 3)) ∧ W.cell? ⟨hp1, 4, none⟩ = some (.slice za qw.length zc)) := fun W h1 h2 => by
                    obtain ⟨x0, x1, x2, x3⟩ := SB.cells h1
                    exact ⟨x0, x1, x2, x3, h2.cell 4 rfl⟩
                  obtain ⟨Z, HZ⟩ : ∃ Z, Hid (Z = (setMap A br (.map (entsC (L2 ++ [(⟨U, .slice none 0 0, []⟩ : PlC)])) (L2.length + 1)))) := ⟨_, rfl⟩
                  have HVZ : Hid (V.heap.size ≤ Z.heap.size) := by show _ ≤ _; rw [HZ.out, size_setMap]; exact B2.out.size
                  have HPNZ : Hid (pn < Z.heap.size) := by show _ < _; rw [HZ.out, size_setMap]; exact N2.out.lt
                  have HPHZ : Hid (hp1 < Z.heap.size) := by show _ < _; rw [HZ.out, size_setMap]; exact H2.out.lt
                  rw [← HZ.out] at KN KH OC IQ SG
                  rw [← HZ.out]
                  refine wp_region_held_drew (S := fun w' => w'.cell? ⟨pn, 0, none⟩ = some (.int .u64 (U 0)) ∧ w'.cell? ⟨pn, 1, none⟩ = some (.int .u64 (U 1)) ∧ w'.cell? ⟨pn, 2, none⟩ = some (.int .u64 (U 2)) ∧ w'.cell? ⟨pn, 3, none⟩ = some (.int .u64 (U 3)) ∧ w'.cell? ⟨hp1, 4, none⟩ = some (.slice za qw.length zc)) (by kernel_rfl) (SA.out _ (Blk.drew KN.out) (Blk.drew KH.out)) (fun hS => ?_)
                  have BF : Hid (Below Z.heap.size Z Z.drew) := (Below.refl _ _).drew
                  replace KN : Hid (SB Z.drew pn U) := Blk.drew KN.out
                  replace KH : Hid (Blk Z.drew hp1 99 (pcarr ⟨qs, .slice za qw.length zc, qw⟩)) := Blk.drew KH.out
                  revert hS BF KN KH
                  generalize Z.drew = Y0
                  intro hS BF KN KH
                  refine wpAnyH_take (i := 0) (v := .slice va7 L2.length vc7) rfl (by kernel_rfl) (by kernel_rfl) (by kernel_rfl) (fun _ _ _ h => h) (Or.inl ⟨by kernel_rfl, fun w' hw' => by obtain ⟨q0, q1, q2, q3, q4⟩ := hw'; go_simp⟩) hS ?_
                  refine wpAnyH_take (i := 1) (v := sval U) rfl (by kernel_rfl) (by kernel_rfl) (by kernel_rfl) (fun _ _ _ h => h) (Or.inl ⟨by kernel_rfl, fun w' hw' => by obtain ⟨q0, q1, q2, q3, q4⟩ := hw'; go_simp⟩) hS ?_
                  refine wpAnyH_take (i := 2) (v := .int .i64 ev) rfl (by kernel_rfl) (by kernel_rfl) (by kernel_rfl) (fun _ _ _ h => h) (Or.inl ⟨by kernel_rfl, fun w' hw' => by obtain ⟨q0, q1, q2, q3, q4⟩ := hw'; go_simp⟩) hS ?_
                  refine wpAnyH_take (i := 4) (v := .pointer (some ⟨hp1, 4, none⟩)) rfl (by kernel_rfl) (by kernel_rfl) (by kernel_rfl) (fun _ _ _ h => h) (Or.inl ⟨by kernel_rfl, fun w' hw' => by obtain ⟨q0, q1, q2, q3, q4⟩ := hw'; go_simp⟩) hS ?_
                  refine wpAnyH_take (i := 5) (v := .slice za qw.length zc) rfl (by kernel_rfl) (by kernel_rfl) (by kernel_rfl) (fun _ _ _ h => h) (Or.inl ⟨by kernel_rfl, fun w' hw' => by obtain ⟨q0, q1, q2, q3, q4⟩ := hw'; go_simp⟩) hS ?_
                  simp only [Act.put, List.setIfInBounds_toArray]
                  refine wpAnyH_ready (rs := [3]) (by kernel_rfl) (by simp) ?_
                  refine AllReadyH.cons rfl (fun K' hK' => ?_) AllReadyH.nil
                  clear hS
                  go_simp
                  have hb : Below Y0.heap.size Y0 (Y0.alloc (.cells #[.int .i64 ev] 3)) := (Below.refl _ _).alloc (Nat.le_refl _) _
                  have PC : Hid (Z.heap.size ≤ Y0.heap.size) := BF.out.size
                  replace BF := Hid.of (BF.out.trans (hb.mono BF.out.size))
                  replace KN := Hid.of (KN.out.below hb KN.out.lt)
                  replace KH := Hid.of (KH.out.below hb KH.out.lt)
                  have K71 := Hid.of (Blk.new Y0 3 #[.int .i64 ev])
                  refine hK'.out _ _ (SA.out _ KN.out KH.out) (fun hS => ?_)
                  clear hK' K' hb
                  revert PC BF KN KH K71 hS
                  generalize Y0.alloc (.cells #[.int .i64 ev] 3) = Y11
                  generalize Y0.heap.size = p71
                  intro PC BF KN KH K71 hS
                  refine wpAnyH_ready (rs := [6]) (by kernel_rfl) (by simp) ?_
                  refine AllReadyH.cons rfl (fun K' hK' => ?_) AllReadyH.nil
                  clear hS
                  have hw64 := hWl.out
                  have iq := IQ.out.below BF.out (Nat.zero_le _)
                  obtain ⟨za2, zc2, hz2, hat, -, -⟩ := iq.at
                  cases hz2
                  have o0 := own_one_blk K71.out
                  refine step_append_ints rfl (.tmp 76) (.tmp 78) 22 rfl p71 k0 Tryd.underlying22 ki kz0 kz1 kz2 _ [ev] rfl o0 za zc qw rfl hat HZN.out (by simp only [List.length_cons, List.length_nil]; omega) (Nat.le_of_lt K71.out.lt) ?_
                  intro v72 Y12 o2 gr
                  have hb : Below Z.heap.size Y11 Y12 := (Below.refl _ _).grown gr BF.out.size (fun j hj => by cases hj; exact PC.out)
                  replace KN := Hid.of (KN.out.below hb HPNZ.out)
                  replace KH := Hid.of (KH.out.below hb HPHZ.out)
                  replace BF := Hid.of (BF.out.trans hb)
                  obtain ⟨va2, vc2, hv2, -, -, -⟩ := own_form2 o2
                  have hl2 : ([ev] ++ qw).length = qw.length + 1 := by simp
                  rw [hl2] at hv2
                  subst hv2
                  have I72 : Hid (InnW 0 Y12 (.slice va2 (qw.length + 1) vc2) ([ev] ++ qw)) := by
                    have := InnW.of_own (n := 0) o2
                    exact this
                  refine hK'.out _ _ (SA.out _ KN.out KH.out) (fun hS => ?_)
                  clear hK' K' hb o2 gr hl2 hw64 hat iq o0 K71 PC
                  refine wpAnyH_take (i := 7) (v := .agg #[.int .u64 (U 0), .int .u64 (U 1), .int .u64 (U 2), .int .u64 (U 3), .slice va2 (qw.length + 1) vc2]) rfl (by kernel_rfl) (by kernel_rfl) (by kernel_rfl) (fun _ _ _ h => h) (Or.inl ⟨by kernel_rfl, fun w' hw' => by obtain ⟨q0, q1, q2, q3, q4⟩ := hw'; go_simp⟩) hS ?_
                  refine wpAnyH_ready (rs := [8]) (by kernel_rfl) (by simp) ?_
                  refine AllReadyH.cons rfl (fun K' hK' => ?_) AllReadyH.nil
                  clear hS
                  go_simp
                  have hb : Below Y12.heap.size Y12 (Y12.alloc (.cells (pcarr ⟨U, .slice va2 (qw.length + 1) vc2, [ev] ++ qw⟩) 99)) := (Below.refl _ _).alloc (Nat.le_refl _) _
                  replace BF := Hid.of (BF.out.trans (hb.mono BF.out.size))
                  replace KN := Hid.of (KN.out.below hb KN.out.lt)
                  replace KH := Hid.of (KH.out.below hb KH.out.lt)
                  replace I72 := Hid.of (I72.out.below hb (Nat.zero_le _))
                  have K74 := Hid.of (Blk.new Y12 99 (pcarr ⟨U, .slice va2 (qw.length + 1) vc2, [ev] ++ qw⟩))
                  refine hK'.out _ _ (SA.out _ KN.out KH.out) (fun hS => ?_)
                  clear hK' K' hb
                  revert BF KN KH I72 K74 hS
                  show Hid (Below Z.heap.size Z (Y12.alloc (.cells (pcarr ⟨U, .slice va2 (qw.length + 1) vc2, [ev] ++ qw⟩) 99))) → _
                  generalize Y12.alloc (.cells (pcarr ⟨U, .slice va2 (qw.length + 1) vc2, [ev] ++ qw⟩) 99) = Y13
                  generalize Y12.heap.size = p74
                  intro BF KN KH I72 K74 hS
                  refine wpAnyH_ready (rs := [9]) (by kernel_rfl) (by simp) ?_
                  refine AllReadyH.cons rfl (fun K' hK' => ?_) AllReadyH.nil
                  clear hS
                  have ho : OwnC Y13 V.heap.size (.slice va7 L2.length vc7) L2 := own_same OC.out (fun j hj => BF.out.block j (World.ownsRow.lt OC.out j hj).2)
                  have hcf : ∀ j u, (pccells ⟨U, .slice va2 (qw.length + 1) vc2, [ev] ++ qw⟩)[j]? = some u → Y13.cell? ((⟨p74, 0, none⟩ : Addr).add j) = some u := fun j u hu => by
                    rw [addr0_add, Nat.zero_add]
                    exact K74.out.cell j (by rw [← Array.getElem?_toList]; exact hu)
                  refine step_append_keep rfl (.tmp 73) (.tmp 81) 95 rfl V.heap.size 99 i0 _ 5 56 Tryd.underlying95 hi hz0 hz1 hz2 rfl (by decide) _ _ _ rfl ho ⟨p74, 0, none⟩ 1 1 (pccells ⟨U, .slice va2 (qw.length + 1) vc2, [ev] ++ qw⟩) rfl rfl hcf (by intro u hu; simp [pccells] at hu; rcases hu with rfl | rfl | rfl | rfl | rfl <;> rfl) (by decide) (by unfold maxLen; omega) (by omega) (Nat.le_trans HVZ.out BF.out.size) ?_
                  intro v7 Y14 o7 g7 nn7 kk7
                  have KN7 := Hid.of (blk_grown KN.out g7 (sb_apart ho KN.out))
                  have KH7 := Hid.of (blk_grown KH.out g7 NE1.out)
                  have SG7 := Hid.of ((SG.out.below BF.out).push HPX.out g7 kk7)
                  have e0 : Below (setMap A br (.map (entsC (L2 ++ [⟨U, .slice va2 (qw.length + 1) vc2, [ev] ++ qw⟩])) (L2.length + 1))).heap.size (setMap A br (.map (entsC (L2 ++ [⟨U, .slice va2 (qw.length + 1) vc2, [ev] ++ qw⟩])) (L2.length + 1))) Y13 := by
                    rw [entsC_s L2 (p := ⟨U, .slice va2 (qw.length + 1) vc2, [ev] ++ qw⟩) (q := (⟨U, .slice none 0 0, []⟩ : PlC)) rfl, ← HZ.out]; exact BF.out
                  obtain ⟨p1, p2⟩ := LCI.push (p := ⟨U, .slice va2 (qw.length + 1) vc2, [ev] ++ qw⟩) F2.out B2.out e0 I72.out (own_plcC o7) g7 B2.out.size
                  have P1 := Hid.of p1
                  have P2 := Hid.of p2
                  refine hK'.out _ _ (SA.out _ KN7.out KH7.out) (fun hS => ?_)
                  clear hK' K' p1 p2 e0 o7 g7 nn7 kk7 ho hcf
                  refine wpAnyH_take (i := 10) (v := v7) rfl (by kernel_rfl) (by kernel_rfl) (by kernel_rfl) (fun _ _ _ h => h) (Or.inl ⟨by kernel_rfl, fun w' hw' => by obtain ⟨q0, q1, q2, q3, q4⟩ := hw'; go_simp⟩) hS ?_
                  refine wpAnyH_done (by kernel_rfl) ?_ _
                  clear hS
                  have HR7 : Hid (RepCL (L2 ++ [⟨U, .slice va2 (qw.length + 1) vc2, [ev] ++ qw⟩]) (l2 ++ [(to2, (e : Int) :: x.2)])) := HR.out.snoc hRep.out
                  have HT7 : Hid (WdC p.seen (L2 ++ [⟨U, .slice va2 (qw.length + 1) vc2, [ev] ++ qw⟩]) (l2 ++ [(to2, (e : Int) :: x.2)])) := HTr.out.snoc HL2.out (by show [ev] ++ qw = wordS p.seen ((e : Int) :: x.2); rw [HQW.out, HEV.out]; simp [wordS])
                  have HPX7 : Hid (LT <+: L2 ++ [⟨U, .slice va2 (qw.length + 1) vc2, [ev] ++ qw⟩]) := HPX.out.trans (List.prefix_append _ _)
                  clear KN KH I72 K74 BF F2 B2 H2 N2 G2 OC IQ SG KN7 KH7
                  go_wp2_with fail
                  go_roundw
                  case rel => exact ⟨r + 1, L2 ++ [⟨U, .slice va2 (qw.length + 1) vc2, [ev] ++ qw⟩], l2 ++ [(to2, (e : Int) :: x.2)], by go_num, by omega, P1, P2, SG7, HPX7, HR7, HT7, HN2⟩
                  case measure => simp [intOf]; omega
              · have hr2 : d ≤ r := by omega
                have HN2 : Hid (IG (opB p) (rngI p.m.st.toNat) p.seen.length n frm to (e + 1) frm l2) := ig_event HLO.out (by omega)
                clear hrl
                go_wp2_with fail
                go_roundw
                case rel => exact ⟨e + 1, L2, l2, by go_num, by omega, HF, HB, HR, HTr, HN2⟩
                case measure => simp [intOf]; omega
          · have hev2 : e = p.seen.length := by omega
            have HN2 : Hid (IG (opB p) (rngI p.m.st.toNat) p.seen.length (n + 1) to L1.length 0 to l1) := by
              have := HLO.out
              rw [hev2] at this
              rw [HL1.out]
              exact ig_next this
            have hl4 : L1.length ≤ 64 := by rw [HL1.out]; exact ig_bound hp.out HLO.out
            clear hev2
            go_wp2_with fail
            go_roundw
            case rel => exact ⟨n + 1, to, L1.length, l1, L1, rfl, rfl, htl1, hl4, by omega, rfl, HF, HB, HR, HTr, HN2⟩
            case measure => simp [intOf]; omega
      · have hlt2 : to ≤ frm := by omega
        have HOR : Hid (Orig p l) := orig_of hp.out HLO.out (by rw [← HLl.out, ← HTL.out]; exact hlt2) hnf
        clear hlt
        go_wp2_with fail
        refine bodyPost_ret (v := .tuple #[.slice va10 L.length vc10, .int .i64 0]) (by simp [results, go_sem]) rfl ?_
        exact ⟨l, HOR.out, .slice va10 L.length vc10, L, rfl, ⟨ownC_low HF.out.ss bel0.out.size, HF.out.inn, HR.out, HTr.out⟩, bel0.out.trans (HB.out.mono bel0.out.size)⟩

end Go.Proofs.YtmimjpkllgjdkaaDoor
