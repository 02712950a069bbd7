/-
  The walk of initial.least.
  The walk of initial.Leak; what package initial leaves.
  The walks of what the laws on plants lean on: jalousielaw.seen, all, best; jalousiekeep.tells.
-/
import Derived.Test.YtdhgabpoaicjoaaDoorG37
import Derived.Test.YtdhgabpoaicjoaaDoorG35
import Derived.Test.YtdhgabpoaicjoaaDoorCITel
import Derived.Test.YtdhgabpoaicjoaaDoorG36
import Derived.Test.YtdhgabpoaicjoaaDoorG10
import Derived.Test.YtdhgabpoaicjoaaDoorG22
import Derived.Test.YtdhgabpoaicjoaaDoorG23
import Derived.Test.YtdhgabpoaicjoaaDoorG15
namespace Go.Proofs.YtdhgabpoaicjoaaDoor
open Go.RowKit
set_option linter.unusedVariables false

theorem Tryd.infoPlaceJ : (Tryd.prog.info? 158).map (fun i => (i.zero, i.size, i.bytes)) = some (some (.agg (pjcells ⟨zeroS, 0, 0⟩).toArray), 6, 48) := by kernel_rfl
abbrev pj0 (S0 : Nat → Nat) : Array Value := #[.int .u64 (S0 0), .int .u64 (S0 1), .int .u64 (S0 2), .int .u64 (S0 3), .int .i64 0, .int .i64 0]
/-- What goes back stays a set of states of the plant. -/
theorem all_val {p : Plant} (hp : mayP p = true) {S : Nat → Nat} {s u : List Int} (hr : Rep S s) (hs : s = valB (opB p) (rngI p.m.st.toNat) u) : ∀ k ∈ allS S, k < 6 := fun k hk => by
  obtain ⟨hm, z6, -, -⟩ := (mayP_iff p).1 hp
  obtain ⟨h1, h2⟩ := (mem_allS S k).1 hk
  have h3 := (hr.mem k h1).1 h2
  rw [hs] at h3
  have := bd_val hm u _ h3
  omega

set_option maxRecDepth 100000 in
set_option maxHeartbeats 16000000 in
theorem ileast_any (p : Plant) (sa : Option Addr) (sc : Nat) (hp : Hid (mayP p = true)) (S0 : Nat → Nat) (hr0 : Hid (RepI S0 (rngI p.m.st.toNat))) (pa p3 p4 : Nat) (T R : Nat → Nat) (hRT : Hid (Rep T p.m.starts)) (hRR : Hid (Rep R p.secret)) (w : World) (hT : Hid (Tab w)) (hsA : Hid (At w sa p.seen)) (hTI : Hid (TI w pa (baT p))) (h3 : Hid (SB w p3 T)) (h4 : Hid (SB w p4 R)) :
    Calls Tryd.prog 93 #[sval S0, .slice sa p.seen.length sc, backV pa, tellV p3 p4] w fun e w' => CLeastPost w (outI p) e w' := by
  obtain ⟨hm, z6, hrr, -⟩ := (mayP_iff p).1 hp.out
  have hz := mayB_size hm
  unfold sizeOk at hz
  have h8 : p.seen.length ≤ 8 := by have := row_short (by omega) (by omega) hrr; omega
  have HSB : Hid (∀ k : Nat, k < p.seen.length → 0 ≤ p.seen[k]?.getD 0 ∧ p.seen[k]?.getD 0 < 8) := fun k hk => by
    rw [List.getElem?_eq_getElem hk, Option.getD_some]
    have := ((rowB_iff _ (by omega) _).1 hrr).2 _ (List.getElem_mem hk)
    omega
  have HMM := Hid.of hm
  clear hz hrr hm z6
  obtain ⟨i0, hi, hz0, hz1, hz2⟩ := info_parts Tryd.infoPlaceJ
  have hmm := @run_makeMap Tryd.prog
  have b0 : SB (w.alloc (.cells (scells S0) 65)) w.heap.size S0 := Blk.new w _ _
  have bel0 : Hid (Below w.heap.size w (w.alloc (.cells (scells S0) 65))) := (Below.refl _ _).alloc (Nat.le_refl _) _
  go_enter Tryd.func93, Tryd.ntmps93
  go_wp2_with fail
  revert b0 bel0
  generalize (w.alloc (.cells (scells S0) 65)) = V
  intro b0 bel0
  have hlV : Hid (w.heap.size < V.heap.size) := b0.lt
  refine Code.wp_mono (Q := regQ fun a' W' => ∃ (br : Nat) (vs r21 r22 r23 r24 r25 r26 r27 : Value), a' = { tmps := #[sval S0, .slice sa p.seen.length sc, backV pa, tellV p3 p4, .pointer (some ⟨w.heap.size, 0, none⟩), undef, undef, undef, .slice none 0 0, .bool false, vs, .map (some br), undef, undef, undef, undef, undef, undef, undef, undef, undef, r21, r22, r23, r24, r25, r26, r27, undef, undef, undef, undef, undef, undef, undef, undef, undef, undef, undef, undef, undef, undef, undef, undef, undef, undef, undef, undef, undef, undef, undef, undef, undef, undef, undef, undef, undef, undef, undef, undef, undef, undef, undef, undef, undef, undef, undef, undef, undef, undef, undef, undef, undef, undef, undef, undef, undef, undef, undef, undef, undef, undef, undef, undef, undef, undef, undef, undef, undef], defers := [] } ∧ LJI V.heap.size W' br vs [⟨S0, 0, 0⟩] ∧ Below V.heap.size V W') ?aft ?reg
  case reg =>
    refine wp_region_held_drew (S := fun w' => w'.cell? ⟨w.heap.size, 0, none⟩ = some (.int .u64 (S0 0)) ∧ w'.cell? ⟨w.heap.size, 1, none⟩ = some (.int .u64 (S0 1)) ∧ w'.cell? ⟨w.heap.size, 2, none⟩ = some (.int .u64 (S0 2)) ∧ w'.cell? ⟨w.heap.size, 3, none⟩ = some (.int .u64 (S0 3))) (by kernel_rfl) b0.cells (fun hS0 => ?_)
    refine wpAnyH_take (i := 0) (v := sval S0) rfl (by kernel_rfl) (by kernel_rfl) (by kernel_rfl) (fun _ _ _ h => h) (Or.inl ⟨by kernel_rfl, fun w' hw' => by obtain ⟨q0, q1, q2, q3⟩ := hw'; go_simp⟩) hS0 ?_
    refine wpAnyH_take (i := 1) (v := .agg #[.int .u64 (S0 0), .int .u64 (S0 1), .int .u64 (S0 2), .int .u64 (S0 3), .int .i64 0, .int .i64 0]) rfl (by kernel_rfl) (by kernel_rfl) (by kernel_rfl) (fun _ _ _ h => h) (Or.inl ⟨by kernel_rfl, fun w' hw' => by obtain ⟨q0, q1, q2, q3⟩ := hw'; go_simp⟩) hS0 ?_
    refine wpAnyH_take (i := 4) (v := sval S0) rfl (by kernel_rfl) (by kernel_rfl) (by kernel_rfl) (fun _ _ _ h => h) (Or.inl ⟨by kernel_rfl, fun w' hw' => by obtain ⟨q0, q1, q2, q3⟩ := hw'; go_simp⟩) hS0 ?_
    refine wpAnyH_take (i := 5) (v := .agg #[]) rfl (by kernel_rfl) (by kernel_rfl) (by kernel_rfl) (fun _ _ _ h => h) (Or.inl ⟨by kernel_rfl, fun w' hw' => by obtain ⟨q0, q1, q2, q3⟩ := hw'; go_simp⟩) hS0 ?_
    simp only [Act.put, List.setIfInBounds_toArray]
    refine wpAnyH_ready (rs := [2, 3]) (by kernel_rfl) (by simp) ?_
    refine AllReadyH.cons rfl (fun K' hK' => ?_) (AllReadyH.cons rfl (fun K' hK' => ?_) AllReadyH.nil)
    · go_simp
      refine hK'.out _ _ (SB.cells (Blk.drew (b0.alloc _))) (fun hS1 => ?_)
      clear hK' K'
      refine wpAnyH_take (i := 8) (v := .slice (some ⟨V.heap.size, 0, none⟩) 1 1) rfl (by kernel_rfl) (by kernel_rfl) (by kernel_rfl) (fun _ _ _ h => h) (Or.inl ⟨by kernel_rfl, fun w' hw' => by obtain ⟨q0, q1, q2, q3⟩ := hw'; go_simp⟩) hS1 ?_
      refine wpAnyH_ready (rs := [3]) (by kernel_rfl) (by simp) ?_
      refine AllReadyH.cons rfl (fun K' hK' => ?_) AllReadyH.nil
      go_simp
      refine hK'.out _ _ (SB.cells (Blk.drew ((b0.alloc _).alloc _))) (fun hS2 => ?_)
      clear hK' K'
      refine wpAnyH_ready (rs := [6]) (by kernel_rfl) (by simp) ?_
      refine AllReadyH.cons rfl (fun K' hK' => ?_) AllReadyH.nil
      have hmp : ((V.alloc (.cells (pj0 S0) 158)).alloc (.map #[] 0)).heap[V.heap.size + 1]? = some (.map #[] 0) := by
        have := World.alloc_heap_new (V.alloc (.cells (pj0 S0) 158)) (.map #[] 0)
        rwa [World.size_alloc] at this
      have hu := updC_first (p := ⟨S0, 0, 0⟩) hr0.out (w := ((V.alloc (.cells (pj0 S0) 158)).alloc (.map #[] 0)).drew) (r := V.heap.size + 1) hmp
      go_simp
      refine hK'.out _ _ (SB.cells (blk_mapC (b := w.heap.size) (br := V.heap.size + 1) (Blk.drew ((b0.alloc _).alloc _)) (by have := hlV.out; omega) _)) (fun hS3 => ?_)
      clear hK' K'
      refine wpAnyH_take (i := 7) (v := .map (some (V.heap.size + 1))) rfl (by kernel_rfl) (by kernel_rfl) (by kernel_rfl) (fun _ _ _ h => h) (Or.inl ⟨by kernel_rfl, fun w' hw' => by obtain ⟨q0, q1, q2, q3⟩ := hw'; go_simp⟩) hS3 ?_
      refine wpAnyH_take (i := 9) (v := .map (some (V.heap.size + 1))) rfl (by kernel_rfl) (by kernel_rfl) (by kernel_rfl) (fun _ _ _ h => h) (Or.inl ⟨by kernel_rfl, fun w' hw' => by obtain ⟨q0, q1, q2, q3⟩ := hw'; go_simp⟩) hS3 ?_
      refine wpAnyH_done (by kernel_rfl) ?_ _
      have ho : OwnJ ((V.alloc (.cells (pj0 S0) 158)).alloc (.map #[] 0)).drew V.heap.size (.slice (some ⟨V.heap.size, 0, none⟩) 1 1) [⟨S0, 0, 0⟩] := World.ownsRow.alloc (ownJ_one V ⟨S0, 0, 0⟩ V.heap.size (Nat.le_refl _)) (.map #[] 0)
      exact ⟨V.heap.size + 1, .slice (some ⟨V.heap.size, 0, none⟩) 1 1, _, _, _, _, _, _, _, rfl, lji_first ho hmp (by omega), below_mapC ((((Below.refl _ V).alloc (Nat.le_refl _) _).alloc (by simp) _).drew) (by omega) _⟩
    · go_simp
      refine hK'.out _ _ (SB.cells (Blk.drew (b0.alloc _))) (fun hS1 => ?_)
      clear hK' K'
      refine wpAnyH_ready (rs := [2, 6]) (by kernel_rfl) (by simp) ?_
      refine AllReadyH.cons rfl (fun K' hK' => ?_) (AllReadyH.cons rfl (fun K' hK' => ?_) AllReadyH.nil)
      · go_simp
        refine hK'.out _ _ (SB.cells (Blk.drew ((b0.alloc _).alloc _))) (fun hS2 => ?_)
        clear hK' K'
        refine wpAnyH_take (i := 8) (v := .slice (some ⟨V.heap.size + 1, 0, none⟩) 1 1) rfl (by kernel_rfl) (by kernel_rfl) (by kernel_rfl) (fun _ _ _ h => h) (Or.inl ⟨by kernel_rfl, fun w' hw' => by obtain ⟨q0, q1, q2, q3⟩ := hw'; go_simp⟩) hS2 ?_
        refine wpAnyH_ready (rs := [6]) (by kernel_rfl) (by simp) ?_
        refine AllReadyH.cons rfl (fun K' hK' => ?_) AllReadyH.nil
        have hmp : ((V.alloc (.map #[] 0)).alloc (.cells (pj0 S0) 158)).heap[V.heap.size]? = some (.map #[] 0) := by
          have := World.alloc_heap_new V (.map #[] 0)
          exact (Below.heap_alloc (V.alloc (.map #[] 0)) (.cells (pj0 S0) 158) _ (by rw [World.size_alloc]; omega)).trans this
        have hu := updC_first (p := ⟨S0, 0, 0⟩) hr0.out (w := ((V.alloc (.map #[] 0)).alloc (.cells (pj0 S0) 158)).drew) (r := V.heap.size) hmp
        go_simp
        refine hK'.out _ _ (SB.cells (blk_mapC (b := w.heap.size) (br := V.heap.size) (Blk.drew ((b0.alloc _).alloc _)) (by have := hlV.out; omega) _)) (fun hS3 => ?_)
        clear hK' K'
        refine wpAnyH_take (i := 7) (v := .map (some V.heap.size)) rfl (by kernel_rfl) (by kernel_rfl) (by kernel_rfl) (fun _ _ _ h => h) (Or.inl ⟨by kernel_rfl, fun w' hw' => by obtain ⟨q0, q1, q2, q3⟩ := hw'; go_simp⟩) hS3 ?_
        refine wpAnyH_take (i := 9) (v := .map (some V.heap.size)) rfl (by kernel_rfl) (by kernel_rfl) (by kernel_rfl) (fun _ _ _ h => h) (Or.inl ⟨by kernel_rfl, fun w' hw' => by obtain ⟨q0, q1, q2, q3⟩ := hw'; go_simp⟩) hS3 ?_
        refine wpAnyH_done (by kernel_rfl) ?_ _
        have ho : OwnJ ((V.alloc (.map #[] 0)).alloc (.cells (pj0 S0) 158)).drew V.heap.size (.slice (some ⟨V.heap.size + 1, 0, none⟩) 1 1) [⟨S0, 0, 0⟩] := by
          have := ownJ_one (V.alloc (.map #[] 0)) ⟨S0, 0, 0⟩ V.heap.size (by rw [World.size_alloc]; omega)
          rw [World.size_alloc] at this
          exact this
        exact ⟨V.heap.size, .slice (some ⟨V.heap.size + 1, 0, none⟩) 1 1, _, _, _, _, _, _, _, rfl, lji_first ho hmp (by omega), below_mapC ((((Below.refl _ V).alloc (Nat.le_refl _) _).alloc (by simp) _).drew) (by omega) _⟩
      · have hmp : (V.alloc (.map #[] 0)).heap[V.heap.size]? = some (.map #[] 0) := World.alloc_heap_new V (.map #[] 0)
        have hu := updC_first (p := ⟨S0, 0, 0⟩) hr0.out (w := (V.alloc (.map #[] 0)).drew) (r := V.heap.size) hmp
        go_simp
        refine hK'.out _ _ (SB.cells (blk_mapC (Blk.drew (b0.alloc _)) (by have := hlV.out; omega) _)) (fun hS2 => ?_)
        clear hK' K'
        refine wpAnyH_take (i := 7) (v := .map (some V.heap.size)) rfl (by kernel_rfl) (by kernel_rfl) (by kernel_rfl) (fun _ _ _ h => h) (Or.inl ⟨by kernel_rfl, fun w' hw' => by obtain ⟨q0, q1, q2, q3⟩ := hw'; go_simp⟩) hS2 ?_
        refine wpAnyH_ready (rs := [2]) (by kernel_rfl) (by simp) ?_
        refine AllReadyH.cons rfl (fun K' hK' => ?_) AllReadyH.nil
        have hsz : (setMap (V.alloc (.map #[] 0)).drew V.heap.size (.map (entsC [⟨S0, 0, 0⟩]) 1)).heap.size = V.heap.size + 1 := by rw [size_setMap]; show (V.alloc (.map #[] 0)).heap.size = _; rw [World.size_alloc]
        go_simp
        refine hK'.out _ _ (SB.cells (Blk.alloc (blk_mapC (Blk.drew (b0.alloc _)) (by have := hlV.out; omega) _) _)) (fun hS3 => ?_)
        clear hK' K'
        refine wpAnyH_take (i := 8) (v := .slice (some ⟨V.heap.size + 1, 0, none⟩) 1 1) rfl (by kernel_rfl) (by kernel_rfl) (by kernel_rfl) (fun _ _ _ h => h) (Or.inl ⟨by kernel_rfl, fun w' hw' => by obtain ⟨q0, q1, q2, q3⟩ := hw'; go_simp⟩) hS3 ?_
        refine wpAnyH_take (i := 9) (v := .map (some V.heap.size)) rfl (by kernel_rfl) (by kernel_rfl) (by kernel_rfl) (fun _ _ _ h => h) (Or.inl ⟨by kernel_rfl, fun w' hw' => by obtain ⟨q0, q1, q2, q3⟩ := hw'; go_simp⟩) hS3 ?_
        refine wpAnyH_done (by kernel_rfl) ?_ _
        have hf := lji_first2 (B := V.heap.size) (p := ⟨S0, 0, 0⟩) (W := setMap (V.alloc (.map #[] 0)).drew V.heap.size (.map (entsC [⟨S0, 0, 0⟩]) 1)) (br := V.heap.size) (heap_setMap _ _ (by show _ < (V.alloc (.map #[] 0)).heap.size; rw [World.size_alloc]; omega)) (Nat.le_refl _) (by omega)
        rw [hsz] at hf
        exact ⟨V.heap.size, .slice (some ⟨V.heap.size + 1, 0, none⟩) 1 1, _, _, _, _, _, _, _, rfl, hf, (below_mapC (((Below.refl _ V).alloc (Nat.le_refl _) _).drew) (Nat.le_refl _) _).alloc (by omega) _⟩
  case aft =>
    refine regQ_imp ?_
    rintro a' W' ⟨br, vs, r21, r22, r23, r24, r25, r26, r27, rfl, q1, q2⟩
    have Q1 := Hid.of q1
    have Q2 := Hid.of q2
    clear q1 q2 b0 hmm
    have HL0 : Hid (LIn p 0 0 1 0 0 0 [(rngI p.m.st.toNat, [])]) := LIn.start _
    have HR0 : Hid (RepCL [⟨S0, 0, 0⟩] [(rngI p.m.st.toNat, [])]) := RepCL.one hr0.out
    have HT0 : Hid (TrJ p.seen [⟨S0, 0, 0⟩] [(rngI p.m.st.toNat, ([] : List Int))]) := TrJ.one _ _ _
    go_wp2_with fail
    go_loopw [10, 12, 13] (fun v10 i j wr => ∃ (n frm to : Nat) (l : List (List Int × List Int)) (L : List PlC), i = .int .i64 frm ∧ j = .int .i64 to ∧ frm ≤ to ∧ to ≤ 64 ∧ Hid (to = L.length) ∧ Hid (LJI V.heap.size wr br v10 L) ∧ Hid (Below V.heap.size V wr) ∧ Hid (RepCL L l) ∧ Hid (TrJ p.seen L l) ∧ Hid (LIn p n frm to 0 frm frm l)) (fun _ i _ _ => 65 - (intOf i).toNat)
    case atStart => exact ⟨0, 0, 1, [(rngI p.m.st.toNat, [])], [⟨S0, 0, 0⟩], rfl, rfl, by omega, by omega, rfl, Q1, Q2, HR0, HT0, HL0⟩
    case round =>
      clear Q1 Q2 HR0 HT0 HL0
      obtain ⟨n, frm, to, l, L, rfl, rfl, hft, h64, HTL, HF, HB, HR, HTr, HLO⟩ := hrel
      obtain ⟨va10, vc10, hv10, -, -, -⟩ := own_form2 HF.out.ss
      subst hv10
      have HLl := Hid.of HR.out.len
      by_cases hlt : frm < to
      · go_wp2_with fail
        go_loopw [14] (fun i wr' => ∃ (k : Nat), i = .int .i64 k ∧ frm ≤ k ∧ k ≤ to ∧ Hid (LJI V.heap.size wr' br (.slice va10 L.length vc10) L) ∧ Hid (Below V.heap.size V wr') ∧ Hid (LIn p n frm to 0 frm k l)) (fun i _ => 65 - (intOf i).toNat)
        case atStart => exact ⟨frm, rfl, Nat.le_refl _, hft, HF, HB, HLO⟩
        case round =>
          clear HF HB HLO
          obtain ⟨k, rfl, hfk, hkt, HF, HB, HLO⟩ := hrel
          by_cases hkl : k < to
          · obtain ⟨x, hx⟩ : ∃ x, Hid (l[k]? = some x) := ⟨_, List.getElem?_eq_getElem (by rw [← HLl.out, ← HTL.out]; exact hkl)⟩
            obtain ⟨q, hq, hrq⟩ := HR.out.at hx.out
            have HRP := Hid.of hrq
            obtain ⟨g, cap, hv, hg1, hg2, hc⟩ := HF.out.ss.cell hq
            cases hv
            have c0 : wr.cell? ⟨g, k * 6, none⟩ = _ := hc 0 _ rfl
            have c1 := hc 1 _ rfl
            have c2 := hc 2 _ rfl
            have c3 := hc 3 _ rfl
            clear hq hrq hc
            have BW := Hid.of (bel0.out.trans (HB.out.mono bel0.out.size))
            have TE := Hid.of (iteller1_any q.s T R HRP.out.1.ok hRT.out.ok hRR.out.ok p3 p4 wr (Hid.of (h3.out.below BW.out h3.out.lt)) (Hid.of (h4.out.below BW.out h4.out.lt)))
            have HOUT : Hid (tellS q.s T R = tellB p x.1) := tell_set HRP.out.1 hRT.out hRR.out
            have hkL : k < L.length := by rw [← HTL.out]; exact hkl
            have hltI : (k : Int) < (L.length : Int) := by omega
            go_wp2_with fail
            clear c0 c1 c2 c3 hltI
            refine TE.out.mono ?_
            rintro r V2 ⟨rfl, hb2⟩
            have F2 := Hid.of (HF.out.below hb2)
            have B2 := Hid.of (HB.out.trans (hb2.mono HB.out.size))
            clear hb2 TE BW HF HB hg1 hg2
            cases hout : tellS q.s T R with
            | true =>
              have HW : Hid (outI p = some (wordS p.seen x.2)) := HLO.out.found hp.out hkl hx.out (by rw [← HOUT.out]; exact hout)
              have HHD : Hid (∃ s0, l[0]? = some (s0, [])) := by
                have hl0 : 0 < l.length := Nat.lt_of_le_of_lt (Nat.zero_le k) (List.getElem?_eq_some_iff.1 hx.out).1
                obtain ⟨y, hy, -, h2⟩ := HLO.out.ig.cov [] (by simp) (Nat.zero_le _)
                have hy2 : y.2 = [] := by
                  have := leW_len h2
                  exact List.eq_nil_of_length_eq_zero (by simpa using this)
                obtain ⟨j, hj⟩ := List.mem_iff_getElem?.1 hy
                have hj0 : j = 0 := by
                  rcases Nat.eq_zero_or_pos j with h | h
                  · exact h
                  · have lj := List.getElem?_eq_some_iff.1 hj
                    have := List.pairwise_iff_getElem.1 HLO.out.ig.inc 0 j hl0 lj.1 h
                    rw [lj.2, hy2] at this
                    have h5 := lessB_len this
                    have h6 : l[0].2 = [] := List.eq_nil_of_length_eq_zero (by simpa using h5)
                    rw [h6, lessB_irrefl] at this; cases this
                subst hj0
                exact ⟨y.1, by rw [hj, ← hy2]⟩
              obtain ⟨s0, hs0⟩ := HHD.out
              have WT := Hid.of (iwordOf_any p.seen V.heap.size (.slice (some ⟨g, 0, none⟩) L.length vc10) L l s0 k x V2 (Hid.of F2.out.ss) HTr (Hid.of hs0) HLl hx (by have := HTL.out; omega))
              clear hout HOUT hs0
              go_wp2_with fail
              refine WT.out.mono ?_
              rintro r V3 ⟨vr, rfl, ov, hb3⟩
              have B3 := Hid.of (bel0.out.trans ((B2.out.trans (hb3.mono B2.out.size)).mono bel0.out.size))
              have OV := Hid.of (Own.low ov (Nat.le_trans bel0.out.size B2.out.size))
              clear ov hb3
              go_wp2
              refine bodyPost_ret (v := .tuple #[vr, .bool true]) (by simp [results, go_sem]) rfl ?_
              unfold CLeastPost
              rw [HW.out]
              exact ⟨vr, rfl, OV.out, B3.out⟩
            | false =>
              have HNX : Hid (LIn p n frm to 0 frm (k + 1) l) := HLO.out.tell hx.out (by rw [← HOUT.out]; exact hout)
              clear hout HOUT
              go_wp2_with fail
              go_roundw
              case rel => exact ⟨k + 1, by go_num, by omega, by omega, F2, B2, HNX⟩
              case measure => simp [intOf]; omega
          · have hk2 : k = to := by omega
            subst hk2
            clear hkl
            have hkk : k ≤ k := Nat.le_refl _
            go_wp2_with fail
            go_loopw [10, 52] (fun v10 i wr' => ∃ (e : Nat) (L1 : List PlC) (l1 : List (List Int × List Int)), i = .int .i64 e ∧ e ≤ p.seen.length ∧ Hid (LJI V.heap.size wr' br v10 L1) ∧ Hid (Below V.heap.size V wr') ∧ Hid (RepCL L1 l1) ∧ Hid (TrJ p.seen L1 l1) ∧ Hid (LIn p n frm k e frm k l1)) (fun _ i _ => p.seen.length - (intOf i).toNat)
            case atStart => exact ⟨0, L, l, rfl, Nat.zero_le _, HF, HB, HR, HTr, HLO⟩
            case round =>
              clear HF HB HR HTr HLO HLl HTL
              obtain ⟨e, L1, l1, rfl, hee, HF, HB, HR, HTr, HLO⟩ := hrel
              obtain ⟨va8, vc8, hv8, -, -, -⟩ := own_form2 HF.out.ss
              subst hv8
              by_cases hle : e < p.seen.length
              · obtain ⟨bs, os, ev, rfl, HEV, HSC⟩ : ∃ (bs os : Nat) (ev : Int), sa = some ⟨bs, os, none⟩ ∧ Hid (ev = p.seen[e]?.getD 0) ∧ wr.cell? ⟨bs, os + e, none⟩ = some (.int .i64 ev) := by
                  rcases hsA.out with h0 | ⟨bs, os, ha, hb, hc⟩
                  · have : p.seen.length = 0 := by rw [h0]; rfl
                    omega
                  · obtain ⟨ev, hev, hcell⟩ := hc.at hle
                    refine ⟨bs, os, ev, ha, hev, ?_⟩
                    exact ((bel0.out.trans (HB.out.mono bel0.out.size)).cell (p := ⟨bs, os + e, none⟩) hb).trans hcell
                obtain ⟨se, HSE, hse8⟩ : ∃ se : Nat, Hid (ev = (se : Int)) ∧ se < 8 := by
                  have := HSB.out e hle
                  rw [← HEV.out] at this
                  exact ⟨ev.toNat, by show ev = _; omega, by omega⟩
                go_wp2_with fail
                clear HSC
                go_loopw [10, 17] (fun v10 i wr' => ∃ (r : Nat) (L2 : List PlC) (l2 : List (List Int × List Int)), i = .int .i64 r ∧ frm ≤ r ∧ r ≤ k ∧ Hid (LJI V.heap.size wr' br v10 L2) ∧ Hid (Below V.heap.size V wr') ∧ Hid (RepCL L2 l2) ∧ Hid (TrJ p.seen L2 l2) ∧ Hid (LIn p n frm k e r k l2)) (fun _ i _ => 65 - (intOf i).toNat)
                case atStart => exact ⟨frm, L1, l1, rfl, Nat.le_refl _, hft, HF, HB, HR, HTr, HLO⟩
                case round =>
                  clear HF HB HR HTr HLO
                  obtain ⟨r, L2, l2, rfl, hfr, hrt, HF, HB, HR, HTr, HLO⟩ := hrel
                  obtain ⟨va7, vc7, hv7, -, -, -⟩ := own_form2 HF.out.ss
                  subst hv7
                  have HL2 := Hid.of HR.out.len
                  have HBD : Hid (l2.length ≤ 64) := HLO.out.bound hp.out
                  by_cases hrl : r < k
                  · obtain ⟨x, hx⟩ : ∃ x, Hid (l2[r]? = some x) := ⟨_, List.getElem?_eq_getElem (by have := HLO.out.ig.tl; omega)⟩
                    obtain ⟨q, hq, hrq⟩ := HR.out.at hx.out
                    have HRP := Hid.of hrq
                    obtain ⟨g, cap, hv, hg1, hg2, hc⟩ := HF.out.ss.cell hq
                    cases hv
                    have c0 : wr.cell? ⟨g, r * 6, none⟩ = _ := hc 0 _ rfl
                    have c1 := hc 1 _ rfl
                    have c2 := hc 2 _ rfl
                    have c3 := hc 3 _ rfl
                    clear hq hrq hc
                    have BW := Hid.of (bel0.out.trans (HB.out.mono bel0.out.size))
                    have HVL := (HLO.out.ig.run x (List.mem_of_getElem? hx.out)).1
                    have hcall := Hid.of (iwatch1_any q.s HRP.out.1.ok se hse8 (baT p) (fun _ => okS_tabK _ _ _ _) (all_val hp.out HRP.out.1 HVL) pa wr (hT.out.below BW.out hT.out.lt) (hTI.out.below BW.out hTI.out.lt))
                    have hRep : Hid (RepI (toF (fun n => baT p (se * 6 + n)) (allS q.s)) (opB p e x.1)) := by
                      have := rep_back hp.out HRP.out.1 (by rw [HVL]; exact bd_val HMM.out _) hle
                      rw [← HEV.out, HSE.out, Int.toNat_natCast] at this
                      exact this
                    obtain ⟨Q, HQ⟩ : ∃ Q, Hid (Q = toF (fun n => baT p (se * 6 + n)) (allS q.s)) := ⟨_, rfl⟩
                    obtain ⟨to2, HTO⟩ : ∃ to, Hid (to = opB p e x.1) := ⟨_, rfl⟩
                    rw [← HQ.out] at hcall hRep
                    rw [← HTO.out] at hRep
                    have HST : Hid (igStep (opB p) x e l2 = if knownB l2 to2 = true then l2 else l2 ++ [(to2, (e : Int) :: x.2)]) := by
                      show _ = _
                      unfold igStep; rw [← HTO.out]
                    have HNX : Hid (LIn p n frm k e (r + 1) k (igStep (opB p) x e l2)) := HLO.out.step hfr hrl hx.out hle
                    have hrL : r < L2.length := by rw [HL2.out]; exact (List.getElem?_eq_some_iff.1 hx.out).1
                    have hltI : (r : Int) < (L2.length : Int) := by omega
                    rw [← HSE.out] at hcall
                    clear HVL
                    go_wp2_with fail
                    refine hcall.out.mono ?_
                    rintro r' w1 ⟨rfl, hb1⟩
                    have F1 : Hid (LJI V.heap.size (w1.alloc (.cells (scells Q) 65)) br (.slice (some ⟨g, 0, none⟩) L2.length vc7) L2) := (HF.out.below hb1).below ((Below.refl _ _).alloc (Nat.le_refl _) _)
                    have B1 : Hid (Below V.heap.size V (w1.alloc (.cells (scells Q) 65))) := (HB.out.trans (hb1.mono HB.out.size)).alloc (Nat.le_trans HB.out.size hb1.size) _
                    have N1 : Hid (SB (w1.alloc (.cells (scells Q) 65)) w1.heap.size Q) := Blk.new w1 _ _
                    have hws : V.heap.size ≤ w1.heap.size := Nat.le_trans HB.out.size hb1.size
                    clear hcall hb1 c0 c1 c2 c3 HF HB hltI BW hg1 hg2
                    obtain ⟨n0, n1, n2, n3⟩ := SB.cells N1.out
                    cases hkn : knownB l2 to2 with
                    | true =>
                      have lk := lookC_known HR.out hRep.out (w := w1.alloc (.cells (scells Q) 65)) (r := br) F1.out.mp hkn
                      have HN2 : Hid (LIn p n frm k e (r + 1) k l2) := by
                        have := HNX.out
                        rw [HST.out, if_pos hkn] at this
                        exact this
                      have F2 : Hid (LJI V.heap.size ((w1.alloc (.cells (scells Q) 65)).alloc (.cells #[] 140)) br (.slice (some ⟨g, 0, none⟩) L2.length vc7) L2) := F1.out.below ((Below.refl _ _).alloc (Nat.le_refl _) _)
                      have B2 : Hid (Below V.heap.size V ((w1.alloc (.cells (scells Q) 65)).alloc (.cells #[] 140))) := B1.out.alloc B1.out.size _
                      clear hkn HNX HST
                      go_wp2_with fail
                      go_roundw
                      case rel => exact ⟨r + 1, L2, l2, by go_num, by omega, by omega, F2, B2, HR, HTr, HN2⟩
                      case measure => simp [intOf]; omega
                    | false =>
                      have lk := lookC_new HR.out hRep.out (w := w1.alloc (.cells (scells Q) 65)) (r := br) F1.out.mp hkn
                      have HN2 : Hid (LIn p n frm k e (r + 1) k (l2 ++ [(to2, (e : Int) :: x.2)])) := by
                        have := HNX.out
                        rw [HST.out, if_neg (by rw [hkn]; simp)] at this
                        exact this
                      have F2 : Hid (LJI V.heap.size ((w1.alloc (.cells (scells Q) 65)).alloc (.cells #[] 140)) br (.slice (some ⟨g, 0, none⟩) L2.length vc7) L2) := F1.out.below ((Below.refl _ _).alloc (Nat.le_refl _) _)
                      have B2 : Hid (Below V.heap.size V ((w1.alloc (.cells (scells Q) 65)).alloc (.cells #[] 140))) := B1.out.alloc B1.out.size _
                      have N2 : Hid (SB ((w1.alloc (.cells (scells Q) 65)).alloc (.cells #[] 140)) w1.heap.size Q) := N1.out.alloc _
                      obtain ⟨k0, k1, k2, k3⟩ := SB.cells N2.out
                      have hu := updC_new (p := ⟨Q, r, ev⟩) HR.out hRep.out (w := ((w1.alloc (.cells (scells Q) 65)).alloc (.cells #[] 140))) (r := br) F2.out.mp hkn
                      have hne : w1.heap.size ≠ br := fun e => by have hm := F2.out.mp; rw [← e, show _ = _ from N2.out] at hm; cases hm
                      have HNE := Hid.of hne
                      clear hne
                      have NZ : Hid (SB (setMap ((w1.alloc (.cells (scells Q) 65)).alloc (.cells #[] 140)) br (.map (entsC (L2 ++ [⟨Q, r, ev⟩])) (L2.length + 1))) w1.heap.size Q) := blk_mapC N2.out HNE.out _
                      obtain ⟨y0, y1, y2, y3⟩ := SB.cells NZ.out
                      have hzs : (setMap ((w1.alloc (.cells (scells Q) 65)).alloc (.cells #[] 140)) br (.map (entsC (L2 ++ [⟨Q, r, ev⟩])) (L2.length + 1))).heap.size = w1.heap.size + 1 + 1 := by rw [size_setMap, World.size_alloc, World.size_alloc]
                      have OZ : Hid (OwnJ (setMap ((w1.alloc (.cells (scells Q) 65)).alloc (.cells #[] 140)) br (.map (entsC (L2 ++ [⟨Q, r, ev⟩])) (L2.length + 1))) V.heap.size (.slice (some ⟨g, 0, none⟩) L2.length vc7) L2) := own_same F2.out.ss (fun j hj => heap_setMap_ne _ _ _ (fun e => F2.out.apart (by rw [hj, e])))
                      have CF : Hid (∀ j v, (pjcells ⟨Q, r, ev⟩)[j]? = some v → ((setMap ((w1.alloc (.cells (scells Q) 65)).alloc (.cells #[] 140)) br (.map (entsC (L2 ++ [⟨Q, r, ev⟩])) (L2.length + 1))).alloc (.cells (pjcells ⟨Q, r, ev⟩).toArray 158)).cell? ((⟨w1.heap.size + 1 + 1, 0, none⟩ : Addr).add j) = some v) := by
                        have := cells_listJ (setMap ((w1.alloc (.cells (scells Q) 65)).alloc (.cells #[] 140)) br (.map (entsC (L2 ++ [⟨Q, r, ev⟩])) (L2.length + 1))) (setMap ((w1.alloc (.cells (scells Q) 65)).alloc (.cells #[] 140)) br (.map (entsC (L2 ++ [⟨Q, r, ev⟩])) (L2.length + 1))) rfl 158 (pjcells ⟨Q, r, ev⟩).toArray
                        rw [hzs] at this
                        exact this
                      have hl1 : L2.length ≤ 64 := by rw [HL2.out]; exact HBD.out
                      clear hkn HNX HST
                      go_wp2_with (at_builtin; refine wpList_append_block _ rfl (.tmp 81) (.tmp 86) 159 rfl V.heap.size 158 i0 _ 6 48 Tryd.underlying159 hi hz0 hz1 hz2 rfl (by decide) _ _ _ rfl (World.ownsRow.alloc OZ.out _) ⟨w1.heap.size + 1 + 1, 0, none⟩ 1 1 (pjcells ⟨Q, r, ev⟩) rfl rfl CF.out (by intro u hu; simp [pjcells] at hu; rcases hu with rfl | rfl | rfl | rfl | rfl | rfl <;> rfl) (by decide) (by unfold maxLen; omega) (by omega) (by rw [World.size_alloc, hzs]; omega) ?_)
                      intro v7 w7 o7 g7 nn7
                      obtain ⟨p1, p2⟩ := LJI.push F2.out B2.out ((Below.refl _ _).alloc (Nat.le_refl _) _) (own_plcJ o7) g7 B2.out.size
                      have P1 := Hid.of p1
                      have P2 := Hid.of p2
                      have HR7 : Hid (RepCL (L2 ++ [⟨Q, r, ev⟩]) (l2 ++ [(to2, (e : Int) :: x.2)])) := HR.out.snoc hRep.out
                      have HT7 : Hid (TrJ p.seen (L2 ++ [⟨Q, r, ev⟩]) (l2 ++ [(to2, (e : Int) :: x.2)])) := HTr.out.snoc HL2.out HEV.out hx.out to2
                      clear p1 p2 o7 g7 nn7 n0 n1 n2 n3 k0 k1 k2 k3 y0 y1 y2 y3 NZ OZ CF lk hu N1 F1 B1 N2 F2 B2 hzs
                      go_wp2_with fail
                      go_roundw
                      case rel => exact ⟨r + 1, L2 ++ [⟨Q, r, ev⟩], l2 ++ [(to2, (e : Int) :: x.2)], by go_num, by omega, by omega, P1, P2, HR7, HT7, HN2⟩
                      case measure => simp [intOf]; omega
                  · have hr2 : k ≤ r := by omega
                    have HN2 : Hid (LIn p n frm k (e + 1) frm k l2) := HLO.out.event hr2
                    clear hrl
                    go_wp2_with fail
                    go_roundw
                    case rel => exact ⟨e + 1, L2, l2, by go_num, by omega, HF, HB, HR, HTr, HN2⟩
                    case measure => simp [intOf]; omega
              · have hev2 : e = p.seen.length := by omega
                have HN2 : Hid (LIn p (n + 1) k L1.length 0 k k l1) := by
                  have := HLO.out
                  rw [hev2] at this
                  rw [HR.out.len]
                  exact this.next
                have hl4 : L1.length ≤ 64 := by rw [HR.out.len]; exact HLO.out.bound hp.out
                have hk1 : k ≤ L1.length := by rw [HR.out.len]; exact HLO.out.ig.tl
                clear hev2
                go_wp2_with fail
                go_roundw
                case rel => exact ⟨n + 1, k, L1.length, l1, L1, rfl, rfl, hk1, hl4, rfl, HF, HB, HR, HTr, HN2⟩
                case measure => simp [intOf]; omega
      · have hlt2 : to ≤ frm := by omega
        have HW : Hid (outI p = none) := HLO.out.not hp.out (by rw [← HLl.out, ← HTL.out]; exact hlt2) (by rw [← HLl.out, ← HTL.out]; exact hlt2)
        clear hlt
        go_wp2_with fail
        refine bodyPost_ret (v := .tuple #[.slice none 0 0, .bool false]) (by simp [results, go_sem]) rfl ?_
        unfold CLeastPost
        rw [HW.out]
        exact ⟨rfl, bel0.out.trans (HB.out.mono bel0.out.size)⟩

end Go.Proofs.YtdhgabpoaicjoaaDoor
namespace Go.Proofs.YtdhgabpoaicjoaaDoor
open Go.RowKit
set_option linter.unusedVariables false

theorem pBeg_any (p : Plant) (P : PTL) (wa : Option Addr) (wc : Nat) (word : List Int) (w : World) (h : PAt w p P) (hw : At w wa word) (hl : word.length ≤ maxLen) (hT : Tab w) :
    Calls Tryd.prog 46 #[ptval p P, .slice wa word.length wc] w fun e w' => ListPost w (begOut p word) e w' := by
  cases hp : mayP p with
  | false => exact began_bad p P wa wc word w (Hid.of h) (Hid.of hp)
  | true =>
    obtain ⟨Pl, sa, sc, ta, tc⟩ := P
    exact callsIn_wide.1 (began_in p Pl sa sc ta tc wa wc word w (Hid.of h) (Hid.of hw) (Hid.of hl) (Hid.of hT) (Hid.of hp))

theorem ileast_out (p : Plant) (sa : Option Addr) (sc : Nat) (hp : Hid (mayP p = true)) (S0 : Nat → Nat) (hr0 : Hid (RepI S0 (rngI p.m.st.toNat))) (pa p3 p4 : Nat) (T R : Nat → Nat) (hRT : Hid (Rep T p.m.starts)) (hRR : Hid (Rep R p.secret)) (w : World) (hT : Hid (Tab w)) (hsA : Hid (At w sa p.seen)) (hTI : Hid (TI w pa (baT p))) (h3 : Hid (SB w p3 T)) (h4 : Hid (SB w p4 R)) :
    Calls Tryd.prog 93 #[sval S0, .slice sa p.seen.length sc, backV pa, tellV p3 p4] w fun e w' => ∃ va vc n bl, e = .returned (.tuple #[.slice va n vc, .bool bl]) ∧ n = ((outI p).getD []).length ∧ bl = (outI p).isSome ∧ At w' va ((outI p).getD []) ∧ ((outI p).getD []).length ≤ maxLen ∧ Below w.heap.size w w' := by
  refine (ileast_any p sa sc hp S0 hr0 pa p3 p4 T R hRT hRR w hT hsA hTI h3 h4).mono ?_
  intro e w' hp
  unfold CLeastPost at hp
  cases ho : outI p with
  | none =>
    rw [ho] at hp
    obtain ⟨rfl, hb⟩ := hp
    exact ⟨none, 0, 0, false, rfl, rfl, rfl, .inl rfl, Nat.zero_le _, hb⟩
  | some u =>
    rw [ho] at hp
    obtain ⟨v, rfl, hv, hb⟩ := hp
    obtain ⟨va, vc, rfl, h1, h2⟩ := Own.at hv
    exact ⟨va, vc, _, true, rfl, rfl, rfl, h1, h2, hb⟩

set_option maxRecDepth 100000 in
set_option maxHeartbeats 4000000 in
theorem leakI_bad (p : Plant) (P : PTL) (w : World) (h : Hid (PAt w p P)) (hp : Hid (mayP p = false)) :
    Calls Tryd.prog 47 #[ptval p P] w fun e w' => LeakPost w (leakOut p (outI p)) e w' := by
  have B : Hid (Below w.heap.size w (w.alloc (.cells (ptcells p P) 50))) := (Below.refl _ _).alloc (Nat.le_refl _) _
  have KP : Hid (Blk (w.alloc (.cells (ptcells p P) 50)) w.heap.size 50 (ptcells p P)) := Blk.new w _ _
  go_enter Tryd.func47, Tryd.ntmps47
  obtain ⟨x0, x1, x2, x3, x4, x5, x6⟩ := ptcell_at KP.out
  go_wp2_with fail
  clear x0 x1 x2 x3 x4 x5 x6
  revert B KP
  generalize (w.alloc (.cells (ptcells p P) 50)) = V0
  intro B KP
  refine (iwatch_bad p P V0 (Hid.of (h.out.below B.out (Nat.le_refl _))) hp).mono ?_
  rintro e V1 ⟨rfl, hb⟩
  replace B := Hid.of (B.out.trans (hb.mono B.out.size))
  clear hb KP
  go_wp2_with fail
  refine bodyPost_ret (v := .tuple #[.bool false, .slice none 0 0, .int .i64 2]) (by simp [results, go_sem]) rfl ?_
  rw [leakOut_bad hp.out]
  exact ⟨none, 0, rfl, .inl rfl, Nat.zero_le _, B.out⟩

set_option maxRecDepth 100000 in
set_option maxHeartbeats 16000000 in
theorem leakI_ok (p : Plant) (Pl : ML) (sa : Option Addr) (sc : Nat) (ta : Option Addr) (tc : Nat) (w : World) (h : Hid (PAt w p ⟨Pl, sa, sc, ta, tc⟩)) (hT : Hid (Tab w)) (hp : Hid (mayP p = true)) :
    Calls Tryd.prog 47 #[ptval p ⟨Pl, sa, sc, ta, tc⟩] w fun e w' => LeakPost w (leakOut p (outI p)) e w' := by
  have hmP := (mayP_iff p).1 hp.out
  have hz := mayB_size hmP.1
  unfold sizeOk at hz
  have HRT : Hid (Rep (ofS p.m.starts) p.m.starts) := by
    have := rep_of (l := p.m.starts) (fun x hx => by have := (may_starts hmP.1).2 x hx; omega) p.m.starts.length
    rwa [List.take_of_length_le (Nat.le_refl _)] at this
  have HRR : Hid (Rep (ofS p.secret) p.secret) := by
    have := rep_of (l := p.secret) (fun x hx => by have := ((rowB_iff _ (by omega) _).1 hmP.2.2.2).2 x hx; omega) p.secret.length
    rwa [List.take_of_length_le (Nat.le_refl _)] at this
  obtain ⟨N, hN⟩ : ∃ N : Nat, Hid (p.m.st = (N : Int)) := ⟨p.m.st.toNat, by show _ = _; omega⟩
  have hN6 : N ≤ 6 := by have h1 := hN.out; have h2 := hmP.2.1; omega
  have HNT : Hid (p.m.st.toNat = N) := by show _ = _; rw [hN.out]; simp
  have HR0 : Hid (RepI (allF N) (rngI p.m.st.toNat)) := by show RepI _ _; rw [HNT.out]; exact rep_all (by omega)
  clear hmP hz
  obtain ⟨S0, HS0⟩ : ∃ S0, Hid (S0 = allF N) := ⟨_, rfl⟩
  rw [← HS0.out] at HR0
  have SA : Hid (∀ W, Blk W w.heap.size 50 (ptcells p ⟨Pl, sa, sc, ta, tc⟩) → W.cell? ⟨w.heap.size, 0, none⟩ = some (.int .i64 p.m.st) ∧ W.cell? ⟨w.heap.size, 1, none⟩ = some (.int .i64 p.m.ev) ∧ W.cell? ⟨w.heap.size, 2, none⟩ = some (.slice Pl.a1 p.m.starts.length Pl.c1) ∧ W.cell? ⟨w.heap.size, 3, none⟩ = some (.slice Pl.a2 p.m.arrows.length Pl.c2) ∧ W.cell? ⟨w.heap.size, 4, none⟩ = some (.slice Pl.a3 p.m.ends.length Pl.c3) ∧ W.cell? ⟨w.heap.size, 5, none⟩ = some (.slice sa p.seen.length sc) ∧ W.cell? ⟨w.heap.size, 6, none⟩ = some (.slice ta p.secret.length tc)) := fun W h1 => ptcell_at h1
  have B : Hid (Below w.heap.size w (w.alloc (.cells (ptcells p ⟨Pl, sa, sc, ta, tc⟩) 50))) := (Below.refl _ _).alloc (Nat.le_refl _) _
  have KP : Hid (Blk (w.alloc (.cells (ptcells p ⟨Pl, sa, sc, ta, tc⟩) 50)) w.heap.size 50 (ptcells p ⟨Pl, sa, sc, ta, tc⟩)) := Blk.new w _ _
  go_enter Tryd.func47, Tryd.ntmps47
  obtain ⟨x0, x1, x2, x3, x4, x5, x6⟩ := ptcell_at KP.out
  go_wp2_with fail
  clear x0 x1 x2 x3 x4 x5 x6
  revert B KP
  generalize (w.alloc (.cells (ptcells p ⟨Pl, sa, sc, ta, tc⟩) 50)) = V0
  intro B KP
  refine (iwatch_ok p Pl sa sc ta tc V0 (Hid.of (h.out.below B.out (Nat.le_refl _))) (Hid.of (hT.out.below B.out hT.out.lt)) hp).mono ?_
  rintro e V1 ⟨pa, rfl, ti, hb⟩
  replace B := Hid.of (B.out.trans (hb.mono B.out.size))
  replace KP := Hid.of (KP.out.below hb KP.out.lt)
  have TIa := Hid.of ti
  clear hb ti
  go_wp2_with fail
  refine wp_region_held_drew (S := fun w' => w'.cell? ⟨w.heap.size, 0, none⟩ = some (.int .i64 p.m.st) ∧ w'.cell? ⟨w.heap.size, 1, none⟩ = some (.int .i64 p.m.ev) ∧ w'.cell? ⟨w.heap.size, 2, none⟩ = some (.slice Pl.a1 p.m.starts.length Pl.c1) ∧ w'.cell? ⟨w.heap.size, 3, none⟩ = some (.slice Pl.a2 p.m.arrows.length Pl.c2) ∧ w'.cell? ⟨w.heap.size, 4, none⟩ = some (.slice Pl.a3 p.m.ends.length Pl.c3) ∧ w'.cell? ⟨w.heap.size, 5, none⟩ = some (.slice sa p.seen.length sc) ∧ w'.cell? ⟨w.heap.size, 6, none⟩ = some (.slice ta p.secret.length tc)) (by kernel_rfl) (SA.out _ (Blk.drew KP.out)) (fun hS => ?_)
  refine wpAnyH_take (i := 0) (v := .agg #[.int .i64 p.m.st, .int .i64 p.m.ev, .slice Pl.a1 p.m.starts.length Pl.c1, .slice Pl.a2 p.m.arrows.length Pl.c2, .slice Pl.a3 p.m.ends.length Pl.c3, .slice sa p.seen.length sc, .slice ta p.secret.length tc]) rfl (by kernel_rfl) (by kernel_rfl) (by kernel_rfl) (fun _ _ _ h => h) (Or.inl ⟨by kernel_rfl, fun w' hw' => by obtain ⟨q0, q1, q2, q3, q4, q5, q6⟩ := hw'; go_simp⟩) hS ?_
  refine wpAnyH_take (i := 2) (v := .pointer (some ⟨w.heap.size, 5, none⟩)) rfl (by kernel_rfl) (by kernel_rfl) (by kernel_rfl) (fun _ _ _ h => h) (Or.inl ⟨by kernel_rfl, fun w' hw' => by obtain ⟨q0, q1, q2, q3, q4, q5, q6⟩ := hw'; go_simp⟩) hS ?_
  refine wpAnyH_take (i := 3) (v := .slice sa p.seen.length sc) rfl (by kernel_rfl) (by kernel_rfl) (by kernel_rfl) (fun _ _ _ h => h) (Or.inl ⟨by kernel_rfl, fun w' hw' => by obtain ⟨q0, q1, q2, q3, q4, q5, q6⟩ := hw'; go_simp⟩) hS ?_
  refine wpAnyH_take (i := 4) (v := backV pa) rfl (by kernel_rfl) (by kernel_rfl) (by kernel_rfl) (fun _ _ _ h => h) (Or.inl ⟨by kernel_rfl, fun w' hw' => by obtain ⟨q0, q1, q2, q3, q4, q5, q6⟩ := hw'; go_simp⟩) hS ?_
  refine wpAnyH_take (i := 5) (v := .agg #[.int .i64 p.m.st, .int .i64 p.m.ev, .slice Pl.a1 p.m.starts.length Pl.c1, .slice Pl.a2 p.m.arrows.length Pl.c2, .slice Pl.a3 p.m.ends.length Pl.c3, .slice sa p.seen.length sc, .slice ta p.secret.length tc]) rfl (by kernel_rfl) (by kernel_rfl) (by kernel_rfl) (fun _ _ _ h => h) (Or.inl ⟨by kernel_rfl, fun w' hw' => by obtain ⟨q0, q1, q2, q3, q4, q5, q6⟩ := hw'; go_simp⟩) hS ?_
  replace B : Hid (Below w.heap.size w V1.drew) := B.out.drew
  replace KP : Hid (Blk V1.drew w.heap.size 50 (ptcells p ⟨Pl, sa, sc, ta, tc⟩)) := Blk.drew KP.out
  replace TIa : Hid (TI V1.drew pa (baT p)) := TIa.out
  revert hS B KP TIa
  generalize V1.drew = Y0
  intro hS B KP TIa
  simp only [Act.put, List.setIfInBounds_toArray]
  refine wpAnyH_ready (rs := [1]) (by kernel_rfl) (by simp) ?_
  refine AllReadyH.cons rfl (fun K' hK' => ?_) AllReadyH.nil
  clear hS
  go_simp
  refine (iall_any p ⟨Pl, sa, sc, ta, tc⟩ N hN (by omega) _).mono ?_
  rintro e Y1 ⟨rfl, hb⟩
  replace B := Hid.of (B.out.trans (hb.mono B.out.size))
  replace KP := Hid.of (KP.out.below hb KP.out.lt)
  replace TIa := Hid.of (TIa.out.below hb TIa.out.lt)
  rw [← HS0.out]
  refine hK'.out _ _ (SA.out _ KP.out) (fun hS => ?_)
  clear hK' K' hb
  refine wpAnyH_ready (rs := [6]) (by kernel_rfl) (by simp) ?_
  refine AllReadyH.cons rfl (fun K' hK' => ?_) AllReadyH.nil
  clear hS
  go_simp
  refine (iteller_any p Pl sa sc ta tc _ (Hid.of (h.out.below B.out (Nat.le_refl _))) hp).mono ?_
  rintro e Y2 ⟨p3, p4, rfl, s3, s4, hb⟩
  replace B := Hid.of (B.out.trans (hb.mono B.out.size))
  replace KP := Hid.of (KP.out.below hb KP.out.lt)
  replace TIa := Hid.of (TIa.out.below hb TIa.out.lt)
  have H3 := Hid.of s3
  have H4 := Hid.of s4
  refine hK'.out _ _ (SA.out _ KP.out) (fun hS => ?_)
  clear hK' K' hb s3 s4
  refine wpAnyH_ready (rs := [7]) (by kernel_rfl) (by simp) ?_
  refine AllReadyH.cons rfl (fun K' hK' => ?_) AllReadyH.nil
  clear hS
  go_simp
  refine (ileast_out p sa sc hp S0 HR0 pa p3 p4 _ _ HRT HRR _ (Hid.of (hT.out.below B.out hT.out.lt)) (Hid.of (h.out.s.at_.below B.out (Nat.le_refl _))) TIa H3 H4).mono ?_
  rintro e Y3 ⟨va, vc, n, bl, rfl, hn, hbl, hat, hmx, hb⟩
  replace B := Hid.of (B.out.trans (hb.mono B.out.size))
  replace KP := Hid.of (KP.out.below hb KP.out.lt)
  replace TIa := Hid.of (TIa.out.below hb TIa.out.lt)
  have HN := Hid.of hn
  have HBL := Hid.of hbl
  have HAT := Hid.of hat
  have HMX := Hid.of hmx
  refine hK'.out _ _ (SA.out _ KP.out) (fun hS => ?_)
  clear hK' K' hb hn hbl hat hmx
  refine wpAnyH_take (i := 8) (v := .tuple #[.slice va n vc, .bool bl]) rfl (by kernel_rfl) (by kernel_rfl) (by kernel_rfl) (fun _ _ _ h => h) (Or.inl ⟨by kernel_rfl, fun w' hw' => by obtain ⟨q0, q1, q2, q3, q4, q5, q6⟩ := hw'; go_simp⟩) hS ?_
  refine wpAnyH_take (i := 9) (v := .slice va n vc) rfl (by kernel_rfl) (by kernel_rfl) (by kernel_rfl) (fun _ _ _ h => h) (Or.inl ⟨by kernel_rfl, fun w' hw' => by obtain ⟨q0, q1, q2, q3, q4, q5, q6⟩ := hw'; go_simp⟩) hS ?_
  refine wpAnyH_take (i := 10) (v := .bool bl) rfl (by kernel_rfl) (by kernel_rfl) (by kernel_rfl) (fun _ _ _ h => h) (Or.inl ⟨by kernel_rfl, fun w' hw' => by obtain ⟨q0, q1, q2, q3, q4, q5, q6⟩ := hw'; go_simp⟩) hS ?_
  refine wpAnyH_take (i := 11) (v := .slice va n vc) rfl (by kernel_rfl) (by kernel_rfl) (by kernel_rfl) (fun _ _ _ h => h) (Or.inl ⟨by kernel_rfl, fun w' hw' => by obtain ⟨q0, q1, q2, q3, q4, q5, q6⟩ := hw'; go_simp⟩) hS ?_
  refine wpAnyH_take (i := 12) (v := .bool bl) rfl (by kernel_rfl) (by kernel_rfl) (by kernel_rfl) (fun _ _ _ h => h) (Or.inl ⟨by kernel_rfl, fun w' hw' => by obtain ⟨q0, q1, q2, q3, q4, q5, q6⟩ := hw'; go_simp⟩) hS ?_
  refine wpAnyH_done (by kernel_rfl) ?_ _
  clear hS
  go_wp2_with fail
  refine bodyPost_ret (v := .tuple #[.bool bl, .slice va n vc, .int .i64 0]) (by simp [results, go_sem]) rfl ?_
  rw [leakOut_ok hp.out, HBL.out, HN.out]
  exact ⟨va, vc, rfl, HAT.out, HMX.out, B.out⟩

theorem pLeakI_any (p : Plant) (P : PTL) (w : World) (h : PAt w p P) (hT : Tab w) :
    Calls Tryd.prog 47 #[ptval p P] w fun e w' => LeakPost w (leakOut p (outI p)) e w' := by
  cases hp : mayP p with
  | false => exact leakI_bad p P w (Hid.of h) (Hid.of hp)
  | true =>
    obtain ⟨Pl, sa, sc, ta, tc⟩ := P
    exact leakI_ok p Pl sa sc ta tc w (Hid.of h) (Hid.of hT) (Hid.of hp)

end Go.Proofs.YtdhgabpoaicjoaaDoor
namespace Go.Proofs.YtdhgabpoaicjoaaDoor
open Go.RowKit
set_option linter.unusedVariables false

set_option maxRecDepth 100000 in
set_option maxHeartbeats 2000000 in
theorem lseen_any (p : Plant) (P : PTL) (wa : Option Addr) (wc : Nat) (word : List Int) (w : World) (h : PAt w p P) (hw : At w wa word) (hwl : word.length ≤ 17592186044416) :
    Calls Tryd.prog 39 #[ptval p P, .slice wa word.length wc] w fun e w' => e = .returned (.bool (inSeen p.seen word)) ∧ Below w.heap.size w w' := by
  have B : Hid (Below w.heap.size w (w.alloc (.cells (ptcells p P) 50))) := (Below.refl _ _).alloc (Nat.le_refl _) _
  have KEY := Hid.of (refSeen_any wa P.sa wc P.sc word p.seen (w.alloc (.cells (ptcells p P) 50)) (hw.below B.out (Nat.le_refl _)) hwl (h.s.at_.below B.out (Nat.le_refl _)) h.s.len)
  obtain ⟨l, HL⟩ : ∃ l, Hid (l = seenL p.seen word) := ⟨_, rfl⟩
  rw [← HL.out] at KEY
  have HIS : Hid (inSeen p.seen word = decide (l.length = word.length)) := by show _ = _; unfold inSeen; rw [HL.out]
  clear h hw HL
  go_enter Tryd.func39, Tryd.ntmps39
  go_wp2_with fail
  refine KEY.out.mono ?_
  rintro e W1 ⟨va, vc, rfl, -, -, hb⟩
  have B1 := Hid.of (B.out.trans (hb.mono B.out.size))
  clear hb KEY
  by_cases he : l.length = word.length
  · have d : ((l.length : Int) == (word.length : Int)) = true := by rw [he]; simp
    have HF : Hid (inSeen p.seen word = true) := by show _ = _; rw [HIS.out, decide_eq_true he]
    clear he
    go_wp2_with fail
    go_ret
    exact ⟨ret_bool HF.out.symm, B1.out⟩
  · have d : ((l.length : Int) == (word.length : Int)) = false := by rw [beq_eq_false_iff_ne]; omega
    have HF : Hid (inSeen p.seen word = false) := by show _ = _; rw [HIS.out, decide_eq_false he]
    go_wp2_with fail
    go_ret
    exact ⟨ret_bool HF.out.symm, B1.out⟩

set_option maxRecDepth 100000 in
set_option maxHeartbeats 4000000 in
theorem lall_any (st : Nat) (ev : Int) (starts : List Int) (ars : List Arr) (ends : List Int) (l : ML) (w : World) (hst : st ≤ 256) :
    Calls Tryd.prog 42 #[mval ⟨(st : Int), ev, starts, ars, ends⟩ l] w fun e w' => GivesO w (rngI st) e w' := by
  obtain ⟨j0, ji, jz0, jz1, jz2⟩ := info_parts Tryd.infoInt
  have B : Hid (Below w.heap.size w (w.alloc (.cells (mcells ⟨(st : Int), ev, starts, ars, ends⟩ l) 25))) := (Below.refl _ _).alloc (Nat.le_refl _) _
  have K : Hid (Blk (w.alloc (.cells (mcells ⟨(st : Int), ev, starts, ars, ends⟩ l) 25)) w.heap.size 25 (mcells ⟨(st : Int), ev, starts, ars, ends⟩ l)) := Blk.new w _ _
  go_enter Tryd.func42, Tryd.ntmps42
  go_wp2_with fail
  go_loopw [3, 4] (fun v i wr => ∃ k : Nat, i = .int .i64 k ∧ k ≤ st ∧ Hid (Own wr (w.heap.size + 1) v (rngI k)) ∧ Hid (Below w.heap.size w wr) ∧ Hid (Blk wr w.heap.size 25 (mcells ⟨(st : Int), ev, starts, ars, ends⟩ l))) (fun _ i _ => st - (intOf i).toNat)
  case atStart => exact ⟨0, rfl, Nat.zero_le _, own_nil _ _, B, K⟩
  case round =>
    clear B K
    obtain ⟨k, rfl, hk, HO, B, K⟩ := hrel
    have hlo : w.heap.size + 1 ≤ wr.heap.size := K.out.lt
    have x0 : wr.cell? ⟨w.heap.size, 0, none⟩ = some (.int .i64 (st : Int)) := K.out.cell 0 rfl
    obtain ⟨fa, fc, hfa, -, -, -⟩ := own_form2 HO.out
    rw [rngI_len] at hfa
    subst hfa
    by_cases hlt : k < st
    · have HSU := Hid.of (rngI_succ k)
      have hln := rngI_len k
      have hown : wr.ownsRow (w.heap.size + 1) 3 1 (.slice fa k fc) k ((rngI k).map (Value.int .i64)) := by
        have := HO.out
        unfold Own at this
        rwa [hln] at this
      have HOW := Hid.of hown
      clear hown
      go_wp2_with (at_builtin; refine wpList_append_block _ rfl (.tmp 11) (.tmp 13) 22 rfl (w.heap.size + 1) 3 j0 (.int .i64 0) 1 8 Tryd.underlying22 ji jz0 jz1 jz2 rfl (by decide) _ _ _ rfl (World.ownsRow.alloc HOW.out _) ⟨wr.heap.size, 0, none⟩ 1 1 [.int .i64 (k : Int)] rfl rfl (cell_one_new _ _ _) (by intro u hu; simp at hu; subst hu; rfl) (by decide) (by unfold maxLen; omega) (by omega) (by simp; omega) ?_)
      intro v9 w9 o9 g9 n9
      have hbl : Below (w.heap.size + 1) wr w9 := ((Below.refl _ wr).alloc hlo _).grown g9 (by simp; omega) (fun j hj => (World.ownsRow.lt HOW.out j hj).1)
      have Q1 : Hid (Own w9 (w.heap.size + 1) v9 (rngI (k + 1))) := by
        show Own _ _ _ _
        rw [HSU.out]
        unfold Own
        rw [List.length_append, List.map_append, hln]
        exact o9
      have Q2 := Hid.of (B.out.trans (hbl.mono (Nat.le_succ _)))
      have Q3 := Hid.of (K.out.below hbl (Nat.lt_succ_self _))
      clear o9 g9 n9 hbl x0
      go_wp2_with fail
      go_roundw
      case rel => exact ⟨k + 1, by go_num, by omega, Q1, Q2, Q3⟩
      case measure => simp [intOf]; omega
    · have hk2 : k = st := by omega
      subst hk2
      go_wp2_with fail
      go_ret
      exact ⟨_, rfl, Own.low HO.out (Nat.le_succ _), B.out⟩

set_option maxRecDepth 100000 in
set_option maxHeartbeats 4000000 in
theorem lbest_any (p : Plant) (P : PTL) (b off lc : Nat) (oa wa : Option Addr) (oc wc : Nat) (only word : List Int) (is : Bool) (L : List Kno) (w : World) (h : PAt w p P) (hl : L.length ≤ 9223372036854775807) (hbl : b < w.heap.size) (hc : CellsK w b off L) (hr : ∀ x ∈ L, x.1.length ≤ 4096) (ho : At w oa only) (hol : only.length ≤ maxLen) (hw : At w wa word) (hwl : word.length ≤ maxLen) (e1 : is = (bestL p.secret only L).isSome) (e2 : word = (bestL p.secret only L).getD []) :
    Calls Tryd.prog 43 #[.slice (some ⟨b, off, none⟩) L.length lc, ptval p P, .slice oa only.length oc, .bool is, .slice wa word.length wc] w fun e w' => e = .returned (.bool true) ∧ Below w.heap.size w w' := by
  have B : Hid (Below w.heap.size w (w.alloc (.cells (ptcells p P) 50))) := (Below.refl _ _).alloc (Nat.le_refl _) _
  have KEY := Hid.of (rBest_some p P b off lc oa oc only L (w.alloc (.cells (ptcells p P) 50)) (Hid.of (h.below B.out (Nat.le_refl _))) hl (Hid.of (Nat.lt_of_lt_of_le hbl B.out.size)) (Hid.of (fun k x hx => by
    obtain ⟨xa, xc, za, zc, c1, c2, q1, q2, q3, q4⟩ := hc k x hx
    exact ⟨xa, xc, za, zc, (B.out.cell (p := ⟨b, off + k * 2, none⟩) hbl).trans c1, (B.out.cell (p := ⟨b, off + k * 2 + 1, none⟩) hbl).trans c2, q1.below B.out (Nat.le_refl _), q2, q3.below B.out (Nat.le_refl _), q4⟩)) (Hid.of hr) (Hid.of (ho.below B.out (Nat.le_refl _))) (Hid.of hol))
  have HW := Hid.of hw
  have HWL := Hid.of hwl
  have E1 := Hid.of e1
  have E2 := Hid.of e2
  clear h hl hc hr ho hol hw hwl hbl e1 e2
  go_enter Tryd.func43, Tryd.ntmps43
  go_wp2_with fail
  refine KEY.out.mono ?_
  rintro e W1 ⟨va, vc, rfl, at1, ln1, hb⟩
  rw [← E1.out]
  rw [← E2.out] at at1 ln1 ⊢
  have B1 := Hid.of (B.out.trans (hb.mono B.out.size))
  have HAT := Hid.of at1
  have HLN := Hid.of ln1
  clear hb at1 ln1 KEY
  have d : (is == is) = true := by simp
  have KEY2 := Hid.of (same_any wa va wc vc word word W1 (HW.out.below B1.out (Nat.le_refl _)) HAT.out HWL.out HWL.out)
  have HS : Hid (sameB word word = true) := by show _ = _; simp [sameB]
  rw [HS.out] at KEY2
  go_wp2_with fail
  refine KEY2.out.mono ?_
  rintro e W2 ⟨rfl, q, hq⟩
  have hb : Below W1.heap.size W1 W2 := by rw [hq]; exact below_drewN (Below.refl _ _) q
  have B2 := Hid.of (B1.out.trans (hb.mono B1.out.size))
  clear hb hq
  go_wp2_with fail
  go_ret
  exact ⟨rfl, B2.out⟩

end Go.Proofs.YtdhgabpoaicjoaaDoor
