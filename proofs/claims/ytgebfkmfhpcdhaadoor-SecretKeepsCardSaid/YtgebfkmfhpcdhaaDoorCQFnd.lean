/-
  The walk of secret.find: all whereabouts, lesser lists first; or that they do not fit.
-/
import Derived.Test.YtgebfkmfhpcdhaaDoorCQWa1
import Derived.Test.YtgebfkmfhpcdhaaDoorG30
import Derived.Test.YtgebfkmfhpcdhaaDoorG20
import Derived.Test.YtgebfkmfhpcdhaaDoorG04
import Derived.Test.YtgebfkmfhpcdhaaDoorG12
namespace Go.Proofs.YtgebfkmfhpcdhaaDoor
open Go.RowKit
set_option linter.unusedVariables false

/-- What find leaves. -/
def FndPost (w : World) (m s : Mach) (seen : List Int) (e : Ending) (w' : World) : Prop :=
  (fndN m s seen = none ∧ e = .returned (.tuple #[.slice none 0 0, .bool false]) ∧ Below w.heap.size w w') ∨
  ∃ (l : List (List Int × List Int)) (v : Value) (L : List PlC), fndN m s seen = some l ∧ e = .returned (.tuple #[v, .bool true]) ∧ PlsG w' w.heap.size v seen L l ∧ Below w.heap.size w w'

set_option maxRecDepth 100000 in
set_option maxHeartbeats 16000000 in
theorem qfind_go (m s : Mach) (seen : List Int) (Q : Nat → Nat) (hmm : Hid (mayB m = true)) (hms : Hid (mayB s = true)) (zm : Hid (m.st ≤ 6)) (zs : Hid (s.st ≤ 4)) (hme : Hid (m.ev = s.ev)) (hsr : Hid (rowB m.ev seen = true)) (HRQ : Hid (RepI Q (nF m s seen))) (sa : Option Addr) (sc : Nat) (p8 p9 pA pB : Nat) (LA LC : LB) (ua : Option Addr) (uc : Nat) (w : World) (hT : Hid (Tab w)) (hW : Hid (WatQ w p8 p9 pA pB LA LC ua uc m s seen)) (hs : Hid (At w sa seen)) :
    Calls Tryd.prog 93 #[sval Q, .slice sa seen.length sc, qwatV p8 p9] w fun e w' => FndPost w m s seen e w' := by
  have hz := mayB_size hmm.out
  unfold sizeOk at hz
  have h8 : seen.length ≤ 8 := by have := row_short (by omega) (by omega) hsr.out; omega
  have HSE : Hid (∀ x ∈ seen, 0 ≤ x ∧ x < m.ev) := ((rowB_iff _ (by omega) _).1 hsr.out).2
  clear hz
  obtain ⟨i0, hi, hz0, hz1, hz2⟩ := info_parts Tryd.infoPlaceG
  obtain ⟨k0, ki, kz0, kz1, kz2⟩ := info_parts Tryd.infoInt
  have hmm2 := @run_makeMap Tryd.prog
  have bel0 : Hid (Below w.heap.size w (w.alloc (.cells (scells Q) 79))) := (Below.refl _ _).alloc (Nat.le_refl _) _
  have b0 : SB (w.alloc (.cells (scells Q) 79)) w.heap.size Q := Blk.new w _ _
  have hlV : Hid (w.heap.size < (w.alloc (.cells (scells Q) 79)).heap.size) := by show _ < _; rw [World.size_alloc]; omega
  go_enter Tryd.func93, Tryd.ntmps93
  go_wp2_with fail
  revert bel0 b0 hlV
  generalize w.alloc (.cells (scells Q) 79) = V
  intro bel0 b0 hlV
  have HTV := Hid.of (hT.out.below bel0.out hT.out.lt)
  have HWV := Hid.of (hW.out.kept bel0.out)
  have HSV := Hid.of (hs.out.below bel0.out (Nat.le_refl _))
  refine Code.wp_mono (Q := regQ fun a' W' => ∃ (br : Nat) (vs r17 r18 r19 r20 r21 r22 r23 : Value), a' = { tmps := #[sval Q, .slice sa seen.length sc, qwatV p8 p9, .pointer (some ⟨w.heap.size, 0, none⟩), undef, undef, .slice none 0 0, .bool false, vs, .map (some br), undef, undef, undef, undef, undef, undef, undef, r17, r18, r19, r20, r21, r22, r23, undef, undef, undef, undef, undef, undef, undef, undef, undef, undef, undef, undef, undef, undef, undef, undef, undef, undef, undef, undef, undef, undef, undef, undef, undef, undef, undef, undef, undef, undef, undef, undef, undef, undef, undef, undef, undef, undef, undef, undef, undef, undef, undef, undef, undef, undef, undef], defers := [] } ∧ LGI V.heap.size W' br vs [⟨Q, .slice none 0 0, []⟩] ∧ Below V.heap.size V W') ?aft ?reg
  case reg =>
    refine wp_region_held_drew (S := fun w' => w'.cell? ⟨w.heap.size, 0, none⟩ = some (.int .u64 (Q 0)) ∧ w'.cell? ⟨w.heap.size, 1, none⟩ = some (.int .u64 (Q 1)) ∧ w'.cell? ⟨w.heap.size, 2, none⟩ = some (.int .u64 (Q 2)) ∧ w'.cell? ⟨w.heap.size, 3, none⟩ = some (.int .u64 (Q 3))) (by kernel_rfl) b0.cells (fun hS0 => ?_)
    refine wpAnyH_take (i := 0) (v := sval Q) rfl (by kernel_rfl) (by kernel_rfl) (by kernel_rfl) (fun _ _ _ h => h) (Or.inl ⟨by kernel_rfl, fun w' hw' => by obtain ⟨q0, q1, q2, q3⟩ := hw'; go_simp⟩) hS0 ?_
    refine wpAnyH_take (i := 1) (v := .agg #[.int .u64 (Q 0), .int .u64 (Q 1), .int .u64 (Q 2), .int .u64 (Q 3), .slice none 0 0]) rfl (by kernel_rfl) (by kernel_rfl) (by kernel_rfl) (fun _ _ _ h => h) (Or.inl ⟨by kernel_rfl, fun w' hw' => by obtain ⟨q0, q1, q2, q3⟩ := hw'; go_simp⟩) hS0 ?_
    refine wpAnyH_take (i := 4) (v := sval Q) rfl (by kernel_rfl) (by kernel_rfl) (by kernel_rfl) (fun _ _ _ h => h) (Or.inl ⟨by kernel_rfl, fun w' hw' => by obtain ⟨q0, q1, q2, q3⟩ := hw'; go_simp⟩) hS0 ?_
    refine wpAnyH_take (i := 5) (v := .agg #[]) rfl (by kernel_rfl) (by kernel_rfl) (by kernel_rfl) (fun _ _ _ h => h) (Or.inl ⟨by kernel_rfl, fun w' hw' => by obtain ⟨q0, q1, q2, q3⟩ := hw'; go_simp⟩) hS0 ?_
    simp only [Act.put, List.setIfInBounds_toArray]
    refine wpAnyH_ready (rs := [2, 3]) (by kernel_rfl) (by simp) ?_
    refine AllReadyH.cons rfl (fun K' hK' => ?_) (AllReadyH.cons rfl (fun K' hK' => ?_) AllReadyH.nil)
    · go_simp
      refine hK'.out _ _ (SB.cells (Blk.drew (b0.alloc _))) (fun hS1 => ?_)
      clear hK' K'
      refine wpAnyH_take (i := 8) (v := .slice (some ⟨V.heap.size, 0, none⟩) 1 1) rfl (by kernel_rfl) (by kernel_rfl) (by kernel_rfl) (fun _ _ _ h => h) (Or.inl ⟨by kernel_rfl, fun w' hw' => by obtain ⟨q0, q1, q2, q3⟩ := hw'; go_simp⟩) hS1 ?_
      refine wpAnyH_ready (rs := [3]) (by kernel_rfl) (by simp) ?_
      refine AllReadyH.cons rfl (fun K' hK' => ?_) AllReadyH.nil
      go_simp
      refine hK'.out _ _ (SB.cells (Blk.drew ((b0.alloc _).alloc _))) (fun hS2 => ?_)
      clear hK' K'
      refine wpAnyH_ready (rs := [6]) (by kernel_rfl) (by simp) ?_
      refine AllReadyH.cons rfl (fun K' hK' => ?_) AllReadyH.nil
      have hmp : ((V.alloc (.cells (pg0 Q) 133)).alloc (.map #[] 0)).heap[V.heap.size + 1]? = some (.map #[] 0) := by
        have := World.alloc_heap_new (V.alloc (.cells (pg0 Q) 133)) (.map #[] 0)
        rwa [World.size_alloc] at this
      have hu := updC_first (p := ⟨Q, .slice none 0 0, []⟩) HRQ.out (w := ((V.alloc (.cells (pg0 Q) 133)).alloc (.map #[] 0)).drew) (r := V.heap.size + 1) hmp
      go_simp
      refine hK'.out _ _ (SB.cells (blk_mapG (b := w.heap.size) (br := V.heap.size + 1) (Blk.drew ((b0.alloc _).alloc _)) (by have := hlV.out; omega) _)) (fun hS3 => ?_)
      clear hK' K'
      refine wpAnyH_take (i := 7) (v := .map (some (V.heap.size + 1))) rfl (by kernel_rfl) (by kernel_rfl) (by kernel_rfl) (fun _ _ _ h => h) (Or.inl ⟨by kernel_rfl, fun w' hw' => by obtain ⟨q0, q1, q2, q3⟩ := hw'; go_simp⟩) hS3 ?_
      refine wpAnyH_take (i := 9) (v := .map (some (V.heap.size + 1))) rfl (by kernel_rfl) (by kernel_rfl) (by kernel_rfl) (fun _ _ _ h => h) (Or.inl ⟨by kernel_rfl, fun w' hw' => by obtain ⟨q0, q1, q2, q3⟩ := hw'; go_simp⟩) hS3 ?_
      refine wpAnyH_done (by kernel_rfl) ?_ _
      have ho : OwnG ((V.alloc (.cells (pg0 Q) 133)).alloc (.map #[] 0)).drew V.heap.size (.slice (some ⟨V.heap.size, 0, none⟩) 1 1) [⟨Q, .slice none 0 0, []⟩] := World.ownsRow.alloc (ownG_one V ⟨Q, .slice none 0 0, []⟩ V.heap.size (Nat.le_refl _)) (.map #[] 0)
      exact ⟨V.heap.size + 1, .slice (some ⟨V.heap.size, 0, none⟩) 1 1, _, _, _, _, _, _, _, rfl, lgi_first ho (innW_nil _ _) hmp (by omega), below_mapG ((((Below.refl _ V).alloc (Nat.le_refl _) _).alloc (by simp) _).drew) (by omega) _⟩
    · go_simp
      refine hK'.out _ _ (SB.cells (Blk.drew (b0.alloc _))) (fun hS1 => ?_)
      clear hK' K'
      refine wpAnyH_ready (rs := [2, 6]) (by kernel_rfl) (by simp) ?_
      refine AllReadyH.cons rfl (fun K' hK' => ?_) (AllReadyH.cons rfl (fun K' hK' => ?_) AllReadyH.nil)
      · go_simp
        refine hK'.out _ _ (SB.cells (Blk.drew ((b0.alloc _).alloc _))) (fun hS2 => ?_)
        clear hK' K'
        refine wpAnyH_take (i := 8) (v := .slice (some ⟨V.heap.size + 1, 0, none⟩) 1 1) rfl (by kernel_rfl) (by kernel_rfl) (by kernel_rfl) (fun _ _ _ h => h) (Or.inl ⟨by kernel_rfl, fun w' hw' => by obtain ⟨q0, q1, q2, q3⟩ := hw'; go_simp⟩) hS2 ?_
        refine wpAnyH_ready (rs := [6]) (by kernel_rfl) (by simp) ?_
        refine AllReadyH.cons rfl (fun K' hK' => ?_) AllReadyH.nil
        have hmp : ((V.alloc (.map #[] 0)).alloc (.cells (pg0 Q) 133)).heap[V.heap.size]? = some (.map #[] 0) := by
          have := World.alloc_heap_new V (.map #[] 0)
          exact (Below.heap_alloc (V.alloc (.map #[] 0)) (.cells (pg0 Q) 133) _ (by rw [World.size_alloc]; omega)).trans this
        have hu := updC_first (p := ⟨Q, .slice none 0 0, []⟩) HRQ.out (w := ((V.alloc (.map #[] 0)).alloc (.cells (pg0 Q) 133)).drew) (r := V.heap.size) hmp
        go_simp
        refine hK'.out _ _ (SB.cells (blk_mapG (b := w.heap.size) (br := V.heap.size) (Blk.drew ((b0.alloc _).alloc _)) (by have := hlV.out; omega) _)) (fun hS3 => ?_)
        clear hK' K'
        refine wpAnyH_take (i := 7) (v := .map (some V.heap.size)) rfl (by kernel_rfl) (by kernel_rfl) (by kernel_rfl) (fun _ _ _ h => h) (Or.inl ⟨by kernel_rfl, fun w' hw' => by obtain ⟨q0, q1, q2, q3⟩ := hw'; go_simp⟩) hS3 ?_
        refine wpAnyH_take (i := 9) (v := .map (some V.heap.size)) rfl (by kernel_rfl) (by kernel_rfl) (by kernel_rfl) (fun _ _ _ h => h) (Or.inl ⟨by kernel_rfl, fun w' hw' => by obtain ⟨q0, q1, q2, q3⟩ := hw'; go_simp⟩) hS3 ?_
        refine wpAnyH_done (by kernel_rfl) ?_ _
        have ho : OwnG ((V.alloc (.map #[] 0)).alloc (.cells (pg0 Q) 133)).drew V.heap.size (.slice (some ⟨V.heap.size + 1, 0, none⟩) 1 1) [⟨Q, .slice none 0 0, []⟩] := by
          have := ownG_one (V.alloc (.map #[] 0)) ⟨Q, .slice none 0 0, []⟩ V.heap.size (by rw [World.size_alloc]; omega)
          rw [World.size_alloc] at this
          exact this
        exact ⟨V.heap.size, .slice (some ⟨V.heap.size + 1, 0, none⟩) 1 1, _, _, _, _, _, _, _, rfl, lgi_first ho (innW_nil _ _) hmp (by omega), below_mapG ((((Below.refl _ V).alloc (Nat.le_refl _) _).alloc (by simp) _).drew) (by omega) _⟩
      · have hmp : (V.alloc (.map #[] 0)).heap[V.heap.size]? = some (.map #[] 0) := World.alloc_heap_new V (.map #[] 0)
        have hu := updC_first (p := ⟨Q, .slice none 0 0, []⟩) HRQ.out (w := (V.alloc (.map #[] 0)).drew) (r := V.heap.size) hmp
        go_simp
        refine hK'.out _ _ (SB.cells (blk_mapG (Blk.drew (b0.alloc _)) (by have := hlV.out; omega) _)) (fun hS2 => ?_)
        clear hK' K'
        refine wpAnyH_take (i := 7) (v := .map (some V.heap.size)) rfl (by kernel_rfl) (by kernel_rfl) (by kernel_rfl) (fun _ _ _ h => h) (Or.inl ⟨by kernel_rfl, fun w' hw' => by obtain ⟨q0, q1, q2, q3⟩ := hw'; go_simp⟩) hS2 ?_
        refine wpAnyH_ready (rs := [2]) (by kernel_rfl) (by simp) ?_
        refine AllReadyH.cons rfl (fun K' hK' => ?_) AllReadyH.nil
        have hsz : (setMap (V.alloc (.map #[] 0)).drew V.heap.size (.map (entsC [⟨Q, .slice none 0 0, []⟩]) 1)).heap.size = V.heap.size + 1 := by rw [size_setMap]; show (V.alloc (.map #[] 0)).heap.size = _; rw [World.size_alloc]
        go_simp
        refine hK'.out _ _ (SB.cells (Blk.alloc (blk_mapG (Blk.drew (b0.alloc _)) (by have := hlV.out; omega) _) _)) (fun hS3 => ?_)
        clear hK' K'
        refine wpAnyH_take (i := 8) (v := .slice (some ⟨V.heap.size + 1, 0, none⟩) 1 1) rfl (by kernel_rfl) (by kernel_rfl) (by kernel_rfl) (fun _ _ _ h => h) (Or.inl ⟨by kernel_rfl, fun w' hw' => by obtain ⟨q0, q1, q2, q3⟩ := hw'; go_simp⟩) hS3 ?_
        refine wpAnyH_take (i := 9) (v := .map (some V.heap.size)) rfl (by kernel_rfl) (by kernel_rfl) (by kernel_rfl) (fun _ _ _ h => h) (Or.inl ⟨by kernel_rfl, fun w' hw' => by obtain ⟨q0, q1, q2, q3⟩ := hw'; go_simp⟩) hS3 ?_
        refine wpAnyH_done (by kernel_rfl) ?_ _
        have hf := lgi_first2 (B := V.heap.size) (p := ⟨Q, .slice none 0 0, []⟩) (W := setMap (V.alloc (.map #[] 0)).drew V.heap.size (.map (entsC [⟨Q, .slice none 0 0, []⟩]) 1)) (br := V.heap.size) (innW_nil _ _) (heap_setMap _ _ (by show _ < (V.alloc (.map #[] 0)).heap.size; rw [World.size_alloc]; omega)) (Nat.le_refl _) (by omega)
        rw [hsz] at hf
        exact ⟨V.heap.size, .slice (some ⟨V.heap.size + 1, 0, none⟩) 1 1, _, _, _, _, _, _, _, rfl, hf, (below_mapG (((Below.refl _ V).alloc (Nat.le_refl _) _).drew) (Nat.le_refl _) _).alloc (by omega) _⟩
  case aft =>
    refine regQ_imp ?_
    rintro a' W' ⟨br, vs, r17, r18, r19, r20, r21, r22, r23, rfl, q1, q2⟩
    have Q1 := Hid.of q1
    have Q2 := Hid.of q2
    clear q1 q2 b0 hmm2
    have HL0 : Hid (LF m s seen 0 [(nF m s seen, [])]) := LF.start m s seen
    have HR0 : Hid (RepCL [⟨Q, .slice none 0 0, []⟩] [(nF m s seen, [])]) := RepCL.one HRQ.out
    have HT0 : Hid (WdC seen [⟨Q, .slice none 0 0, []⟩] [(nF m s seen, ([] : List Int))]) := WdC.one rfl
    go_wp2_with fail
    go_loopw [8, 10] (fun v8 i wr => ∃ (k : Nat) (l : List (List Int × List Int)) (L : List PlC), i = .int .i64 k ∧ k ≤ L.length ∧ L.length ≤ 256 ∧ Hid (LGI V.heap.size wr br v8 L) ∧ Hid (Below V.heap.size V wr) ∧ Hid (RepCL L l) ∧ Hid (WdC seen L l) ∧ Hid (LF m s seen k l)) (fun _ i _ => 257 - (intOf i).toNat)
    case atStart => exact ⟨0, [(nF m s seen, [])], [⟨Q, .slice none 0 0, []⟩], rfl, Nat.zero_le _, by simp, Q1, Q2, HR0, HT0, HL0⟩
    case round =>
      clear Q1 Q2 HR0 HT0 HL0
      obtain ⟨k, l, L, rfl, hk, h64, HF, HB, HR, HTr, HLO⟩ := hrel
      obtain ⟨va10, vc10, hv10, -, -, -⟩ := own_form2 HF.out.ss
      subst hv10
      have HLl := Hid.of HR.out.len
      by_cases hlt : k < L.length
      · obtain ⟨x, hx⟩ : ∃ x, Hid (l[k]? = some x) := ⟨_, List.getElem?_eq_getElem (by rw [← HLl.out]; exact hlt)⟩
        have H64 : Hid (l.length ≤ 256) := by show _ ≤ _; rw [← HLl.out]; exact h64
        obtain ⟨q, hq, hrq⟩ := HR.out.at hx.out
        have hqw := HTr.out k q x hq hx.out
        have hqm := List.mem_of_getElem? hq
        obtain ⟨za, zc, hzv, -, -, -⟩ := (HF.out.inn q hqm).at
        obtain ⟨qs, qv, qw⟩ := q
        dsimp only at hzv hqw
        subst hzv
        have HQW : Hid (qw = wordS seen x.2) := hqw
        have HQM := Hid.of hqm
        have hWl : Hid (qw.length ≤ 256) := by show _ ≤ _; have := bi_wlen HLO.out.bi k x hx.out; rw [HQW.out, wordS_len]; omega
        have HRP := Hid.of hrq
        have HFR := Hid.of (found_rdy hmm.out hms.out zm.out zs.out HLO.out.bi (List.mem_of_getElem? hx.out) hrq.1)
        obtain ⟨g, cap, hv, hg1, hg2, hc⟩ := HF.out.ss.cell hq
        cases hv
        have c0 : wr.cell? ⟨g, k * 5, none⟩ = _ := hc 0 _ rfl
        have c1 := hc 1 _ rfl
        have c2 := hc 2 _ rfl
        have c3 := hc 3 _ rfl
        have c4 := hc 4 _ rfl
        clear hq hrq hc hqw hqm
        have F1 : Hid (LGI V.heap.size (wr.alloc (.cells (pcarr ⟨qs, .slice za qw.length zc, qw⟩) 133)) br (.slice (some ⟨g, 0, none⟩) L.length vc10) L) := HF.out.below ((Below.refl _ _).alloc (Nat.le_refl _) _)
        have B1 : Hid (Below V.heap.size V (wr.alloc (.cells (pcarr ⟨qs, .slice za qw.length zc, qw⟩) 133))) := HB.out.alloc HB.out.size _
        have N1 : Hid (Blk (wr.alloc (.cells (pcarr ⟨qs, .slice za qw.length zc, qw⟩) 133)) wr.heap.size 133 (pcarr ⟨qs, .slice za qw.length zc, qw⟩)) := Blk.new wr _ _
        have G1 : Hid (g ≠ wr.heap.size) := Nat.ne_of_lt hg2
        have hltI : (k : Int) < (L.length : Int) := by omega
        have hltD : decide ((k : Int) < (L.length : Int)) = true := by simpa using hltI
        go_wp2_with fail
        clear c0 c1 c2 c3 c4 HF HB hg2
        revert F1 B1 N1 G1
        generalize wr.alloc (.cells (pcarr ⟨qs, .slice za qw.length zc, qw⟩) 133) = V1
        generalize wr.heap.size = hp1
        intro F1 B1 N1 G1
        have hbw := bel0.out.size
        go_loopw [8, 36] (fun v8 i wr' => ∃ (e : Nat) (L1 : List PlC), i = .int .i64 e ∧ e ≤ seen.length ∧ L1.length ≤ 256 ∧ Hid (LGI V.heap.size wr' br v8 L1) ∧ Hid (Below V.heap.size V wr') ∧ Hid (Blk wr' hp1 133 (pcarr ⟨qs, .slice za qw.length zc, qw⟩)) ∧ Hid (v8.ownBlock ≠ some hp1) ∧ Hid (⟨qs, .slice za qw.length zc, qw⟩ ∈ L1) ∧ Hid (RepCL L1 (bfRow (nD m s seen) x l e)) ∧ Hid (WdC seen L1 (bfRow (nD m s seen) x l e))) (fun _ i _ => seen.length - (intOf i).toNat)
        case atStart => exact ⟨0, L, rfl, Nat.zero_le _, h64, F1, B1, N1, Hid.of (fun h => G1.out (by injection h)), HQM, HR, HTr⟩
        case round =>
          clear F1 B1 N1 HQM
          obtain ⟨e, L1, rfl, hee, hl1, HF, HB, HN, HNE1, HQM, HR1, HT1⟩ := hrel
          obtain ⟨va8, vc8, hv8, -, -, -⟩ := own_form2 HF.out.ss
          subst hv8
          obtain ⟨l1, HS1⟩ : ∃ l1, Hid (l1 = bfRow (nD m s seen) x l e) := ⟨_, rfl⟩
          have HX1 : Hid (l1[k]? = some x) := by
            obtain ⟨t, ht⟩ := bfRow_pre (nD m s seen) x l e
            show _ = _
            rw [HS1.out, ht, List.getElem?_append_left (List.getElem?_eq_some_iff.1 hx.out).1]
            exact hx.out
          have HSuc : Hid (bfRow (nD m s seen) x l (e + 1) = bfStep (nD m s seen) x l1 e) := by show _ = _; rw [bfRow_succ, HS1.out]
          rw [← HS1.out] at HR1 HT1
          have HL1 := Hid.of HR1.out.len
          by_cases hle : e < seen.length
          · obtain ⟨bs, os, ev, rfl, HEV, HSC⟩ : ∃ (bs os : Nat) (ev : Int), sa = some ⟨bs, os, none⟩ ∧ Hid (ev = seen[e]?.getD 0) ∧ wr.cell? ⟨bs, os + e, none⟩ = some (.int .i64 ev) := by
              obtain ⟨bs, os, ha, hb, hc⟩ := At.cells_ofQ HSV.out hle
              obtain ⟨ev, hev, hcell⟩ := hc.at hle
              exact ⟨bs, os, ev, ha, hev, (HB.out.cell (p := ⟨bs, os + e, none⟩) hb).trans hcell⟩
            have hevb : 0 ≤ ev ∧ ev < m.ev := HSE.out ev (by have h2 := HEV.out; rw [List.getElem?_eq_getElem hle, Option.getD_some] at h2; rw [h2]; exact List.getElem_mem hle)
            obtain ⟨n, rfl⟩ : ∃ n : Nat, ev = n := ⟨ev.toNat, by omega⟩
            have hcall := Hid.of (qwatch1_any m s hmm.out hms.out zm.out zs.out hme.out seen qs (decL m s x.1) (decL_in _) HFR.out.1 HFR.out.2.2 n (by omega) p8 p9 pA pB LA LC ua uc wr (HTV.out.below HB.out HTV.out.lt) (HWV.out.kept HB.out))
            clear hevb
            obtain ⟨to, HTO⟩ : ∃ to, Hid (to = nD m s seen x.1 e) := ⟨_, rfl⟩
            have HST : Hid (bfStep (nD m s seen) x l1 e = if knownB l1 to = true then l1 else l1 ++ [(to, x.2 ++ [(e : Int)])]) := by
              show _ = _
              unfold bfStep; rw [← HTO.out]
            obtain ⟨m0, m1, m2, m3, m4⟩ := PGk.cells HN.out
            go_wp2_with fail
            refine hcall.out.mono ?_
            rintro r w1 ⟨U, rfl, rU, hb1⟩
            have hRep : Hid (RepI U to) := by
              show RepI U to
              rw [HTO.out]
              exact rep_nD hmm.out hms.out zm.out zs.out (by rw [← HEV.out]; exact rU)
            clear rU
            have F1 : Hid (LGI V.heap.size (w1.alloc (.cells (scells U) 79)) br (.slice va8 L1.length vc8) L1) := (HF.out.below hb1).below ((Below.refl _ _).alloc (Nat.le_refl _) _)
            have B1 : Hid (Below V.heap.size V (w1.alloc (.cells (scells U) 79))) := (HB.out.trans (hb1.mono HB.out.size)).alloc (Nat.le_trans HB.out.size hb1.size) _
            have N1 : Hid (SB (w1.alloc (.cells (scells U) 79)) w1.heap.size U) := Blk.new w1 _ _
            have H1 : Hid (Blk (w1.alloc (.cells (scells U) 79)) hp1 133 (pcarr ⟨qs, .slice za qw.length zc, qw⟩)) := Blk.alloc (HN.out.below hb1 HN.out.lt) _
            have HPL : Hid (hp1 < w1.heap.size) := Nat.lt_of_lt_of_le HN.out.lt hb1.size
            clear hcall hb1 m0 m1 m2 m3 m4 HF HB HN HSC
            obtain ⟨n0, n1, n2, n3⟩ := SB.cells N1.out
            cases hkn : knownB l1 to with
            | true =>
              have lk := lookC_known HR1.out hRep.out (w := w1.alloc (.cells (scells U) 79)) (r := br) F1.out.mp hkn
              have HNX : Hid (bfRow (nD m s seen) x l (e + 1) = l1) := by show _ = _; rw [HSuc.out, HST.out, if_pos hkn]
              have F2 : Hid (LGI V.heap.size ((w1.alloc (.cells (scells U) 79)).alloc (.cells #[] 172)) br (.slice va8 L1.length vc8) L1) := F1.out.below ((Below.refl _ _).alloc (Nat.le_refl _) _)
              have B2 : Hid (Below V.heap.size V ((w1.alloc (.cells (scells U) 79)).alloc (.cells #[] 172))) := B1.out.alloc B1.out.size _
              have H2 : Hid (Blk ((w1.alloc (.cells (scells U) 79)).alloc (.cells #[] 172)) hp1 133 (pcarr ⟨qs, .slice za qw.length zc, qw⟩)) := H1.out.alloc _
              clear hkn
              go_wp2_with fail
              go_roundw
              case rel => exact ⟨e + 1, L1, by go_num, by omega, hl1, F2, B2, H2, HNE1, HQM, (by show RepCL _ _; rw [HNX.out]; exact HR1.out), (by show WdC _ _ _; rw [HNX.out]; exact HT1.out)⟩
              case measure => simp [intOf]; omega
            | false =>
              have lk := lookC_new HR1.out hRep.out (w := w1.alloc (.cells (scells U) 79)) (r := br) F1.out.mp hkn
              have HNX : Hid (bfRow (nD m s seen) x l (e + 1) = l1 ++ [(to, x.2 ++ [(e : Int)])]) := by show _ = _; rw [HSuc.out, HST.out, if_neg (by rw [hkn]; simp)]
              have F2 : Hid (LGI V.heap.size ((w1.alloc (.cells (scells U) 79)).alloc (.cells #[] 172)) br (.slice va8 L1.length vc8) L1) := F1.out.below ((Below.refl _ _).alloc (Nat.le_refl _) _)
              have B2 : Hid (Below V.heap.size V ((w1.alloc (.cells (scells U) 79)).alloc (.cells #[] 172))) := B1.out.alloc B1.out.size _
              have H2 : Hid (Blk ((w1.alloc (.cells (scells U) 79)).alloc (.cells #[] 172)) hp1 133 (pcarr ⟨qs, .slice za qw.length zc, qw⟩)) := H1.out.alloc _
              have N2 : Hid (SB ((w1.alloc (.cells (scells U) 79)).alloc (.cells #[] 172)) w1.heap.size U) := N1.out.alloc _
              by_cases hfull : L1.length = 256
              · have hfl : ((L1.length : Int) == 256) = true := beq_iff_eq.2 (by omega)
                have HNO : Hid (fndN m s seen = none) := HLO.out.cut hx.out H64.out (e := e + 1) (by omega) (by rw [HNX.out, List.length_append, ← HL1.out, hfull]; simp)
                clear hfull hkn
                go_wp2_with fail
                exact bodyPost_ret (v := .tuple #[.slice none 0 0, .bool false]) (by simp [results, go_sem]) rfl (.inl ⟨HNO.out, rfl, bel0.out.trans (B2.out.mono bel0.out.size)⟩)
              · have hfl : ((L1.length : Int) == 256) = false := beq_eq_false_iff_ne.2 (by omega)
                have hl2 : L1.length ≤ 255 := by omega
                clear hfull
                obtain ⟨k0', k1', k2', k3'⟩ := SB.cells N2.out
                have hu := updC_new (p := (⟨U, .slice none 0 0, []⟩ : PlC)) HR1.out hRep.out (w := ((w1.alloc (.cells (scells U) 79)).alloc (.cells #[] 172))) (r := br) F2.out.mp hkn
                clear hkn
                go_wp2_with fail
                clear n0 n1 n2 n3 k0' k1' k2' k3' lk hu F1 B1 N1 H1
                revert HPL F2 B2 H2 N2
                generalize ((w1.alloc (.cells (scells U) 79)).alloc (.cells #[] 172)) = A
                generalize w1.heap.size = pn
                intro HPL F2 B2 H2 N2
                have KN : Hid (SB (setMap A br (.map (entsC (L1 ++ [(⟨U, .slice none 0 0, []⟩ : PlC)])) (L1.length + 1))) pn U) := blk_mapG N2.out (F2.out.nebr N2.out) _
                have KH : Hid (Blk (setMap A br (.map (entsC (L1 ++ [(⟨U, .slice none 0 0, []⟩ : PlC)])) (L1.length + 1))) hp1 133 (pcarr ⟨qs, .slice za qw.length zc, qw⟩)) := blk_mapG H2.out (F2.out.nebr H2.out) _
                have OC : Hid (OwnG (setMap A br (.map (entsC (L1 ++ [(⟨U, .slice none 0 0, []⟩ : PlC)])) (L1.length + 1))) V.heap.size (.slice va8 L1.length vc8) L1) := F2.out.mapped _
                have IQ : Hid (InnW 0 (setMap A br (.map (entsC (L1 ++ [(⟨U, .slice none 0 0, []⟩ : PlC)])) (L1.length + 1))) (.slice za qw.length zc) qw) := innW_map F2.out.mp _ (F2.out.inn _ HQM.out)
                have SA : Hid (∀ W, SB W pn U → Blk W hp1 133 (pcarr ⟨qs, .slice za qw.length zc, qw⟩) → W.cell? ⟨pn, 0, none⟩ = some (.int .u64 (U 0)) ∧ W.cell? ⟨pn, 1, none⟩ = some (.int .u64 (U 1)) ∧ W.cell? ⟨pn, 2, none⟩ = some (.int .u64 (U 2)) ∧ W.cell? ⟨pn, 3, none⟩ = some (.int .u64 (U 3)) ∧ W.cell? ⟨hp1, 4, none⟩ = some (.slice za qw.length zc)) := fun W h1 h2 => by
                  obtain ⟨x0, x1, x2, x3⟩ := SB.cells h1
                  exact ⟨x0, x1, x2, x3, h2.cell 4 rfl⟩
                obtain ⟨Z, HZ⟩ : ∃ Z, Hid (Z = setMap A br (.map (entsC (L1 ++ [(⟨U, .slice none 0 0, []⟩ : PlC)])) (L1.length + 1))) := ⟨_, rfl⟩
                have HVZ : Hid (V.heap.size ≤ Z.heap.size) := by show _ ≤ _; rw [HZ.out, size_setMap]; exact B2.out.size
                rw [← HZ.out] at KN KH OC IQ
                rw [← HZ.out]
                refine wp_region_held_drew (S := fun w' => w'.cell? ⟨pn, 0, none⟩ = some (.int .u64 (U 0)) ∧ w'.cell? ⟨pn, 1, none⟩ = some (.int .u64 (U 1)) ∧ w'.cell? ⟨pn, 2, none⟩ = some (.int .u64 (U 2)) ∧ w'.cell? ⟨pn, 3, none⟩ = some (.int .u64 (U 3)) ∧ w'.cell? ⟨hp1, 4, none⟩ = some (.slice za qw.length zc)) (by kernel_rfl) (SA.out _ (Blk.drew KN.out) (Blk.drew KH.out)) (fun hS => ?_)
                have BF : Hid (Below Z.heap.size Z Z.drew) := (Below.refl _ _).drew
                replace KN : Hid (SB Z.drew pn U) := Blk.drew KN.out
                replace KH : Hid (Blk Z.drew hp1 133 (pcarr ⟨qs, .slice za qw.length zc, qw⟩)) := Blk.drew KH.out
                revert hS BF KN KH
                generalize Z.drew = Y0
                intro hS BF KN KH
                have HPNZ : Hid (pn < Z.heap.size) := by show _ < _; rw [HZ.out, size_setMap]; exact N2.out.lt
                have HPHZ : Hid (hp1 < Z.heap.size) := by show _ < _; rw [HZ.out, size_setMap]; exact H2.out.lt
                refine wpAnyH_take (i := 0) (v := .slice va8 L1.length vc8) rfl (by kernel_rfl) (by kernel_rfl) (by kernel_rfl) (fun _ _ _ h => h) (Or.inl ⟨by kernel_rfl, fun w' hw' => by obtain ⟨q0, q1, q2, q3, q4⟩ := hw'; go_simp⟩) hS ?_
                refine wpAnyH_take (i := 1) (v := sval U) rfl (by kernel_rfl) (by kernel_rfl) (by kernel_rfl) (fun _ _ _ h => h) (Or.inl ⟨by kernel_rfl, fun w' hw' => by obtain ⟨q0, q1, q2, q3, q4⟩ := hw'; go_simp⟩) hS ?_
                refine wpAnyH_take (i := 2) (v := .pointer (some ⟨hp1, 4, none⟩)) rfl (by kernel_rfl) (by kernel_rfl) (by kernel_rfl) (fun _ _ _ h => h) (Or.inl ⟨by kernel_rfl, fun w' hw' => by obtain ⟨q0, q1, q2, q3, q4⟩ := hw'; go_simp⟩) hS ?_
                refine wpAnyH_take (i := 3) (v := .slice za qw.length zc) rfl (by kernel_rfl) (by kernel_rfl) (by kernel_rfl) (fun _ _ _ h => h) (Or.inl ⟨by kernel_rfl, fun w' hw' => by obtain ⟨q0, q1, q2, q3, q4⟩ := hw'; go_simp⟩) hS ?_
                refine wpAnyH_take (i := 5) (v := .int .i64 (n : Int)) rfl (by kernel_rfl) (by kernel_rfl) (by kernel_rfl) (fun _ _ _ h => h) (Or.inl ⟨by kernel_rfl, fun w' hw' => by obtain ⟨q0, q1, q2, q3, q4⟩ := hw'; go_simp⟩) hS ?_
                simp only [Act.put, List.setIfInBounds_toArray]
                refine wpAnyH_ready (rs := [4, 6]) (by kernel_rfl) (by simp) ?_
                refine AllReadyH.cons rfl (fun K' hK' => ?_) (AllReadyH.cons rfl (fun K' hK' => ?_) AllReadyH.nil)
                · clear hS
                  go_simp
                  have iq := IQ.out.below BF.out (Nat.zero_le _)
                  obtain ⟨za2, zc2, hz2, hat, -, -⟩ := iq.at
                  cases hz2
                  refine (clone_any za zc qw Y0 hat (by have := hWl.out; omega)).mono ?_
                  rintro e1 Y11 ⟨v69, rfl, o1, hb⟩
                  obtain ⟨pc, HPC⟩ : ∃ pc, Hid (pc = Y0.heap.size) := ⟨_, rfl⟩
                  rw [← HPC.out] at o1
                  have PC : Hid (Z.heap.size ≤ pc) := by show _ ≤ _; rw [HPC.out]; exact BF.out.size
                  have PCY : Hid (pc ≤ Y11.heap.size) := by show _ ≤ _; rw [HPC.out]; exact hb.size
                  replace BF := Hid.of (BF.out.trans (hb.mono BF.out.size))
                  replace KN := Hid.of (KN.out.below hb KN.out.lt)
                  replace KH := Hid.of (KH.out.below hb KH.out.lt)
                  obtain ⟨ca, cc, hca, -, -, -⟩ := own_form2 o1
                  subst hca
                  have O69 := Hid.of o1
                  refine hK'.out _ _ (SA.out _ KN.out KH.out) (fun hS => ?_)
                  clear hK' K' hb o1 hat iq HPC
                  refine wpAnyH_ready (rs := [6]) (by kernel_rfl) (by simp) ?_
                  refine AllReadyH.cons rfl (fun K' hK' => ?_) AllReadyH.nil
                  clear hS
                  go_simp
                  have hb : Below Y11.heap.size Y11 (Y11.alloc (.cells #[.int .i64 (n : Int)] 3)) := (Below.refl _ _).alloc (Nat.le_refl _) _
                  replace BF := Hid.of (BF.out.trans (hb.mono BF.out.size))
                  replace KN := Hid.of (KN.out.below hb KN.out.lt)
                  replace KH := Hid.of (KH.out.below hb KH.out.lt)
                  replace O69 := Hid.of (own_same O69.out (fun j hj => hb.block j (World.ownsRow.lt O69.out j hj).2))
                  replace PCY := Hid.of (Nat.le_trans PCY.out hb.size)
                  have K71 := Hid.of (Blk.new Y11 3 #[.int .i64 (n : Int)])
                  refine hK'.out _ _ (SA.out _ KN.out KH.out) (fun hS => ?_)
                  clear hK' K' hb
                  revert BF KN KH O69 PCY K71 hS
                  generalize Y11.alloc (.cells #[.int .i64 (n : Int)] 3) = Y12
                  generalize Y11.heap.size = p71
                  intro BF KN KH O69 PCY K71 hS
                  refine wpAnyH_ready (rs := [7]) (by kernel_rfl) (by simp) ?_
                  refine AllReadyH.cons rfl (fun K' hK' => ?_) AllReadyH.nil
                  clear hS
                  have hw64 := hWl.out
                  have hax : At Y12 (some ⟨p71, 0, none⟩) [(n : Int)] := at_one_blk K71.out
                  refine step_append_ints rfl (.tmp 62) (.tmp 64) 22 rfl pc k0 Tryd.underlying22 ki kz0 kz1 kz2 _ qw rfl O69.out (some ⟨p71, 0, none⟩) 1 [(n : Int)] rfl hax (fun h => by cases h) (by simp only [List.length_cons, List.length_nil]; omega) PCY.out ?_
                  intro v72 Y13 o2 gr
                  have hge : ∀ j, (Value.slice ca qw.length cc).ownBlock = some j → Z.heap.size ≤ j := fun j hj => Nat.le_trans PC.out (World.ownsRow.lt O69.out j hj).1
                  have hb : Below Z.heap.size Y12 Y13 := (Below.refl _ _).grown gr BF.out.size hge
                  replace KN := Hid.of (KN.out.below hb HPNZ.out)
                  replace KH := Hid.of (KH.out.below hb HPHZ.out)
                  replace BF := Hid.of (BF.out.trans hb)
                  obtain ⟨va2, vc2, hv2, -, -, -⟩ := own_form2 o2
                  have hl2 : (qw ++ [(n : Int)]).length = qw.length + 1 := by simp
                  rw [hl2] at hv2
                  subst hv2
                  have I72 : Hid (InnW 0 Y13 (.slice va2 (qw.length + 1) vc2) (qw ++ [(n : Int)])) := InnW.of_own o2
                  refine hK'.out _ _ (SA.out _ KN.out KH.out) (fun hS => ?_)
                  clear hK' K' hb o2 gr hl2 hw64 hax O69 K71 hge
                  refine wpAnyH_take (i := 8) (v := .agg #[.int .u64 (U 0), .int .u64 (U 1), .int .u64 (U 2), .int .u64 (U 3), .slice va2 (qw.length + 1) vc2]) rfl (by kernel_rfl) (by kernel_rfl) (by kernel_rfl) (fun _ _ _ h => h) (Or.inl ⟨by kernel_rfl, fun w' hw' => by obtain ⟨q0, q1, q2, q3, q4⟩ := hw'; go_simp⟩) hS ?_
                  refine wpAnyH_ready (rs := [9]) (by kernel_rfl) (by simp) ?_
                  refine AllReadyH.cons rfl (fun K' hK' => ?_) AllReadyH.nil
                  clear hS
                  go_simp
                  have hb : Below Y13.heap.size Y13 (Y13.alloc (.cells (pcarr ⟨U, .slice va2 (qw.length + 1) vc2, qw ++ [(n : Int)]⟩) 133)) := (Below.refl _ _).alloc (Nat.le_refl _) _
                  replace BF := Hid.of (BF.out.trans (hb.mono BF.out.size))
                  replace KN := Hid.of (KN.out.below hb KN.out.lt)
                  replace KH := Hid.of (KH.out.below hb KH.out.lt)
                  replace I72 := Hid.of (I72.out.below hb (Nat.zero_le _))
                  have K74 := Hid.of (Blk.new Y13 133 (pcarr ⟨U, .slice va2 (qw.length + 1) vc2, qw ++ [(n : Int)]⟩))
                  refine hK'.out _ _ (SA.out _ KN.out KH.out) (fun hS => ?_)
                  clear hK' K' hb
                  revert BF KN KH I72 K74 hS
                  show Hid (Below Z.heap.size Z (Y13.alloc (.cells (pcarr ⟨U, .slice va2 (qw.length + 1) vc2, qw ++ [(n : Int)]⟩) 133))) → _
                  generalize Y13.alloc (.cells (pcarr ⟨U, .slice va2 (qw.length + 1) vc2, qw ++ [(n : Int)]⟩) 133) = Y14
                  generalize Y13.heap.size = p74
                  intro BF KN KH I72 K74 hS
                  refine wpAnyH_ready (rs := [10]) (by kernel_rfl) (by simp) ?_
                  refine AllReadyH.cons rfl (fun K' hK' => ?_) AllReadyH.nil
                  clear hS
                  have ho : OwnG Y14 V.heap.size (.slice va8 L1.length vc8) L1 := own_same OC.out (fun j hj => BF.out.block j (World.ownsRow.lt OC.out j hj).2)
                  have hcf : ∀ j u, (pccells ⟨U, .slice va2 (qw.length + 1) vc2, qw ++ [(n : Int)]⟩)[j]? = some u → Y14.cell? ((⟨p74, 0, none⟩ : Addr).add j) = some u := fun j u hu => by
                    rw [addr0_add, Nat.zero_add]
                    exact K74.out.cell j (by rw [← Array.getElem?_toList]; exact hu)
                  refine step_append_block rfl (.tmp 58) (.tmp 67) 127 rfl V.heap.size 133 i0 _ 5 56 Tryd.underlying127 hi hz0 hz1 hz2 rfl (by decide) _ _ _ rfl ho ⟨p74, 0, none⟩ 1 1 (pccells ⟨U, .slice va2 (qw.length + 1) vc2, qw ++ [(n : Int)]⟩) rfl rfl hcf (by intro u hu; simp [pccells] at hu; rcases hu with rfl | rfl | rfl | rfl | rfl <;> rfl) (by decide) (by unfold maxLen; omega) (by omega) (Nat.le_trans HVZ.out BF.out.size) ?_
                  intro v7 Y15 o7 g7 nn7
                  have KN7 := Hid.of (blk_grownG KN.out g7 (sb_apartG ho KN.out))
                  have KH7 := Hid.of (blk_grownG KH.out g7 HNE1.out)
                  have e0 : Below (setMap A br (.map (entsC (L1 ++ [⟨U, .slice va2 (qw.length + 1) vc2, qw ++ [(n : Int)]⟩])) (L1.length + 1))).heap.size (setMap A br (.map (entsC (L1 ++ [⟨U, .slice va2 (qw.length + 1) vc2, qw ++ [(n : Int)]⟩])) (L1.length + 1))) Y14 := by
                    rw [entsG_s L1 (p := ⟨U, .slice va2 (qw.length + 1) vc2, qw ++ [(n : Int)]⟩) (q := (⟨U, .slice none 0 0, []⟩ : PlC)) rfl, ← HZ.out]; exact BF.out
                  obtain ⟨p1, p2⟩ := LGI.push (p := ⟨U, .slice va2 (qw.length + 1) vc2, qw ++ [(n : Int)]⟩) F2.out B2.out e0 I72.out (own_plcG o7) g7 B2.out.size
                  have P1 := Hid.of p1
                  have P2 := Hid.of p2
                  have P4 := Hid.of (ne_append HNE1.out KH.out.lt nn7)
                  refine hK'.out _ _ (SA.out _ KN7.out KH7.out) (fun hS => ?_)
                  clear hK' K' p1 p2 e0 o7 g7 nn7 ho hcf
                  refine wpAnyH_take (i := 11) (v := v7) rfl (by kernel_rfl) (by kernel_rfl) (by kernel_rfl) (fun _ _ _ h => h) (Or.inl ⟨by kernel_rfl, fun w' hw' => by obtain ⟨q0, q1, q2, q3, q4⟩ := hw'; go_simp⟩) hS ?_
                  refine wpAnyH_done (by kernel_rfl) ?_ _
                  clear hS
                  have HR7 : Hid (RepCL (L1 ++ [⟨U, .slice va2 (qw.length + 1) vc2, qw ++ [(n : Int)]⟩]) (l1 ++ [(to, x.2 ++ [(e : Int)])])) := HR1.out.snoc hRep.out
                  have HT7 : Hid (WdC seen (L1 ++ [⟨U, .slice va2 (qw.length + 1) vc2, qw ++ [(n : Int)]⟩]) (l1 ++ [(to, x.2 ++ [(e : Int)])])) := HT1.out.snoc HL1.out (by show qw ++ [(n : Int)] = wordS seen (x.2 ++ [(e : Int)]); rw [wordS_snoc, HQW.out, HEV.out])
                  have HQM7 : Hid (⟨qs, .slice za qw.length zc, qw⟩ ∈ L1 ++ [⟨U, .slice va2 (qw.length + 1) vc2, qw ++ [(n : Int)]⟩]) := List.mem_append_left _ HQM.out
                  have hl7 : (L1 ++ [(⟨U, .slice va2 (qw.length + 1) vc2, qw ++ [(n : Int)]⟩ : PlC)]).length ≤ 256 := by rw [List.length_append]; simp only [List.length_cons, List.length_nil]; omega
                  clear KN KH I72 K74 BF F2 B2 H2 N2 OC IQ
                  go_wp2_with fail
                  go_roundw
                  case rel => exact ⟨e + 1, L1 ++ [⟨U, .slice va2 (qw.length + 1) vc2, qw ++ [(n : Int)]⟩], by go_num, by omega, hl7, P1, P2, KH7, P4, HQM7, (by show RepCL _ _; rw [HNX.out]; exact HR7.out), (by show WdC _ _ _; rw [HNX.out]; exact HT7.out)⟩
                  case measure => simp [intOf]; omega
                · clear hS
                  go_simp
                  have hb : Below Y0.heap.size Y0 (Y0.alloc (.cells #[.int .i64 (n : Int)] 3)) := (Below.refl _ _).alloc (Nat.le_refl _) _
                  replace BF := Hid.of (BF.out.trans (hb.mono BF.out.size))
                  replace KN := Hid.of (KN.out.below hb KN.out.lt)
                  replace KH := Hid.of (KH.out.below hb KH.out.lt)
                  have K71 := Hid.of (Blk.new Y0 3 #[.int .i64 (n : Int)])
                  refine hK'.out _ _ (SA.out _ KN.out KH.out) (fun hS => ?_)
                  clear hK' K' hb
                  revert BF KN KH K71 hS
                  generalize Y0.alloc (.cells #[.int .i64 (n : Int)] 3) = Y16
                  generalize Y0.heap.size = p71
                  intro BF KN KH K71 hS
                  refine wpAnyH_ready (rs := [4]) (by kernel_rfl) (by simp) ?_
                  refine AllReadyH.cons rfl (fun K' hK' => ?_) AllReadyH.nil
                  clear hS
                  go_simp
                  have iq := IQ.out.below BF.out (Nat.zero_le _)
                  obtain ⟨za2, zc2, hz2, hat, -, -⟩ := iq.at
                  cases hz2
                  refine (clone_any za zc qw Y16 hat (by have := hWl.out; omega)).mono ?_
                  rintro e1 Y17 ⟨v69, rfl, o1, hb⟩
                  obtain ⟨pc, HPC⟩ : ∃ pc, Hid (pc = Y16.heap.size) := ⟨_, rfl⟩
                  rw [← HPC.out] at o1
                  have PC : Hid (Z.heap.size ≤ pc) := by show _ ≤ _; rw [HPC.out]; exact BF.out.size
                  have PCY : Hid (pc ≤ Y17.heap.size) := by show _ ≤ _; rw [HPC.out]; exact hb.size
                  replace BF := Hid.of (BF.out.trans (hb.mono BF.out.size))
                  replace KN := Hid.of (KN.out.below hb KN.out.lt)
                  replace KH := Hid.of (KH.out.below hb KH.out.lt)
                  replace K71 := Hid.of (K71.out.below hb K71.out.lt)
                  obtain ⟨ca, cc, hca, -, -, -⟩ := own_form2 o1
                  subst hca
                  have O69 := Hid.of o1
                  refine hK'.out _ _ (SA.out _ KN.out KH.out) (fun hS => ?_)
                  clear hK' K' hb o1 hat iq HPC
                  refine wpAnyH_ready (rs := [7]) (by kernel_rfl) (by simp) ?_
                  refine AllReadyH.cons rfl (fun K' hK' => ?_) AllReadyH.nil
                  clear hS
                  have hw64 := hWl.out
                  have hax : At Y17 (some ⟨p71, 0, none⟩) [(n : Int)] := at_one_blk K71.out
                  refine step_append_ints rfl (.tmp 62) (.tmp 64) 22 rfl pc k0 Tryd.underlying22 ki kz0 kz1 kz2 _ qw rfl O69.out (some ⟨p71, 0, none⟩) 1 [(n : Int)] rfl hax (fun h => by cases h) (by simp only [List.length_cons, List.length_nil]; omega) PCY.out ?_
                  intro v72 Y18 o2 gr
                  have hge : ∀ j, (Value.slice ca qw.length cc).ownBlock = some j → Z.heap.size ≤ j := fun j hj => Nat.le_trans PC.out (World.ownsRow.lt O69.out j hj).1
                  have hb : Below Z.heap.size Y17 Y18 := (Below.refl _ _).grown gr BF.out.size hge
                  replace KN := Hid.of (KN.out.below hb HPNZ.out)
                  replace KH := Hid.of (KH.out.below hb HPHZ.out)
                  replace BF := Hid.of (BF.out.trans hb)
                  obtain ⟨va2, vc2, hv2, -, -, -⟩ := own_form2 o2
                  have hl2 : (qw ++ [(n : Int)]).length = qw.length + 1 := by simp
                  rw [hl2] at hv2
                  subst hv2
                  have I72 : Hid (InnW 0 Y18 (.slice va2 (qw.length + 1) vc2) (qw ++ [(n : Int)])) := InnW.of_own o2
                  refine hK'.out _ _ (SA.out _ KN.out KH.out) (fun hS => ?_)
                  clear hK' K' hb o2 gr hl2 hw64 hax O69 K71 hge
                  refine wpAnyH_take (i := 8) (v := .agg #[.int .u64 (U 0), .int .u64 (U 1), .int .u64 (U 2), .int .u64 (U 3), .slice va2 (qw.length + 1) vc2]) rfl (by kernel_rfl) (by kernel_rfl) (by kernel_rfl) (fun _ _ _ h => h) (Or.inl ⟨by kernel_rfl, fun w' hw' => by obtain ⟨q0, q1, q2, q3, q4⟩ := hw'; go_simp⟩) hS ?_
                  refine wpAnyH_ready (rs := [9]) (by kernel_rfl) (by simp) ?_
                  refine AllReadyH.cons rfl (fun K' hK' => ?_) AllReadyH.nil
                  clear hS
                  go_simp
                  have hb : Below Y18.heap.size Y18 (Y18.alloc (.cells (pcarr ⟨U, .slice va2 (qw.length + 1) vc2, qw ++ [(n : Int)]⟩) 133)) := (Below.refl _ _).alloc (Nat.le_refl _) _
                  replace BF := Hid.of (BF.out.trans (hb.mono BF.out.size))
                  replace KN := Hid.of (KN.out.below hb KN.out.lt)
                  replace KH := Hid.of (KH.out.below hb KH.out.lt)
                  replace I72 := Hid.of (I72.out.below hb (Nat.zero_le _))
                  have K74 := Hid.of (Blk.new Y18 133 (pcarr ⟨U, .slice va2 (qw.length + 1) vc2, qw ++ [(n : Int)]⟩))
                  refine hK'.out _ _ (SA.out _ KN.out KH.out) (fun hS => ?_)
                  clear hK' K' hb
                  revert BF KN KH I72 K74 hS
                  show Hid (Below Z.heap.size Z (Y18.alloc (.cells (pcarr ⟨U, .slice va2 (qw.length + 1) vc2, qw ++ [(n : Int)]⟩) 133))) → _
                  generalize Y18.alloc (.cells (pcarr ⟨U, .slice va2 (qw.length + 1) vc2, qw ++ [(n : Int)]⟩) 133) = Y19
                  generalize Y18.heap.size = p74
                  intro BF KN KH I72 K74 hS
                  refine wpAnyH_ready (rs := [10]) (by kernel_rfl) (by simp) ?_
                  refine AllReadyH.cons rfl (fun K' hK' => ?_) AllReadyH.nil
                  clear hS
                  have ho : OwnG Y19 V.heap.size (.slice va8 L1.length vc8) L1 := own_same OC.out (fun j hj => BF.out.block j (World.ownsRow.lt OC.out j hj).2)
                  have hcf : ∀ j u, (pccells ⟨U, .slice va2 (qw.length + 1) vc2, qw ++ [(n : Int)]⟩)[j]? = some u → Y19.cell? ((⟨p74, 0, none⟩ : Addr).add j) = some u := fun j u hu => by
                    rw [addr0_add, Nat.zero_add]
                    exact K74.out.cell j (by rw [← Array.getElem?_toList]; exact hu)
                  refine step_append_block rfl (.tmp 58) (.tmp 67) 127 rfl V.heap.size 133 i0 _ 5 56 Tryd.underlying127 hi hz0 hz1 hz2 rfl (by decide) _ _ _ rfl ho ⟨p74, 0, none⟩ 1 1 (pccells ⟨U, .slice va2 (qw.length + 1) vc2, qw ++ [(n : Int)]⟩) rfl rfl hcf (by intro u hu; simp [pccells] at hu; rcases hu with rfl | rfl | rfl | rfl | rfl <;> rfl) (by decide) (by unfold maxLen; omega) (by omega) (Nat.le_trans HVZ.out BF.out.size) ?_
                  intro v7 Y20 o7 g7 nn7
                  have KN7 := Hid.of (blk_grownG KN.out g7 (sb_apartG ho KN.out))
                  have KH7 := Hid.of (blk_grownG KH.out g7 HNE1.out)
                  have e0 : Below (setMap A br (.map (entsC (L1 ++ [⟨U, .slice va2 (qw.length + 1) vc2, qw ++ [(n : Int)]⟩])) (L1.length + 1))).heap.size (setMap A br (.map (entsC (L1 ++ [⟨U, .slice va2 (qw.length + 1) vc2, qw ++ [(n : Int)]⟩])) (L1.length + 1))) Y19 := by
                    rw [entsG_s L1 (p := ⟨U, .slice va2 (qw.length + 1) vc2, qw ++ [(n : Int)]⟩) (q := (⟨U, .slice none 0 0, []⟩ : PlC)) rfl, ← HZ.out]; exact BF.out
                  obtain ⟨p1, p2⟩ := LGI.push (p := ⟨U, .slice va2 (qw.length + 1) vc2, qw ++ [(n : Int)]⟩) F2.out B2.out e0 I72.out (own_plcG o7) g7 B2.out.size
                  have P1 := Hid.of p1
                  have P2 := Hid.of p2
                  have P4 := Hid.of (ne_append HNE1.out KH.out.lt nn7)
                  refine hK'.out _ _ (SA.out _ KN7.out KH7.out) (fun hS => ?_)
                  clear hK' K' p1 p2 e0 o7 g7 nn7 ho hcf
                  refine wpAnyH_take (i := 11) (v := v7) rfl (by kernel_rfl) (by kernel_rfl) (by kernel_rfl) (fun _ _ _ h => h) (Or.inl ⟨by kernel_rfl, fun w' hw' => by obtain ⟨q0, q1, q2, q3, q4⟩ := hw'; go_simp⟩) hS ?_
                  refine wpAnyH_done (by kernel_rfl) ?_ _
                  clear hS
                  have HR7 : Hid (RepCL (L1 ++ [⟨U, .slice va2 (qw.length + 1) vc2, qw ++ [(n : Int)]⟩]) (l1 ++ [(to, x.2 ++ [(e : Int)])])) := HR1.out.snoc hRep.out
                  have HT7 : Hid (WdC seen (L1 ++ [⟨U, .slice va2 (qw.length + 1) vc2, qw ++ [(n : Int)]⟩]) (l1 ++ [(to, x.2 ++ [(e : Int)])])) := HT1.out.snoc HL1.out (by show qw ++ [(n : Int)] = wordS seen (x.2 ++ [(e : Int)]); rw [wordS_snoc, HQW.out, HEV.out])
                  have HQM7 : Hid (⟨qs, .slice za qw.length zc, qw⟩ ∈ L1 ++ [⟨U, .slice va2 (qw.length + 1) vc2, qw ++ [(n : Int)]⟩]) := List.mem_append_left _ HQM.out
                  have hl7 : (L1 ++ [(⟨U, .slice va2 (qw.length + 1) vc2, qw ++ [(n : Int)]⟩ : PlC)]).length ≤ 256 := by rw [List.length_append]; simp only [List.length_cons, List.length_nil]; omega
                  clear KN KH I72 K74 BF F2 B2 H2 N2 OC IQ
                  go_wp2_with fail
                  go_roundw
                  case rel => exact ⟨e + 1, L1 ++ [⟨U, .slice va2 (qw.length + 1) vc2, qw ++ [(n : Int)]⟩], by go_num, by omega, hl7, P1, P2, KH7, P4, HQM7, (by show RepCL _ _; rw [HNX.out]; exact HR7.out), (by show WdC _ _ _; rw [HNX.out]; exact HT7.out)⟩
                  case measure => simp [intOf]; omega
          · have hev2 : e = seen.length := by omega
            have HLN : Hid (LF m s seen (k + 1) l1) := by
              have := HLO.out.next hx.out H64.out
              have e2 : l1 = bfRow (nD m s seen) x l seen.length := by rw [HS1.out, hev2]
              rw [e2]; exact this
            have hk1 : k + 1 ≤ L1.length := by
              have := (List.getElem?_eq_some_iff.1 HX1.out).1
              rw [HL1.out]; omega
            clear hev2
            have hle2 : seen.length ≤ e := by omega
            go_wp2_with fail
            go_roundw
            case rel => exact ⟨k + 1, l1, L1, by go_num, hk1, hl1, HF, HB, HR1, HT1, HLN⟩
            case measure => simp [intOf]; omega
      · have hltD : decide ((k : Int) < (L.length : Int)) = false := by simp; omega
        have hltI : L.length ≤ k := by omega
        have HW : Hid (fndN m s seen = some l) := HLO.out.all (by rw [← HLl.out]; omega)
        go_wp2
        refine bodyPost_ret (v := .tuple #[.slice va10 L.length vc10, .bool true]) (by simp [results, go_sem]) rfl ?_
        exact .inr ⟨l, .slice va10 L.length vc10, L, HW.out, rfl, ⟨ownG_low HF.out.ss bel0.out.size, HF.out.inn, HR.out, HTr.out⟩, bel0.out.trans (HB.out.mono bel0.out.size)⟩

end Go.Proofs.YtgebfkmfhpcdhaaDoor
