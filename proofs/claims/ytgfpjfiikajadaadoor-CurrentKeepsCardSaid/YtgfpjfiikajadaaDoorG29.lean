/-
  The walk of current.least.
  The walks of current.isSeen, of its closure, and of slices.ContainsFunc and slices.IndexFunc at it.
  What is said of slices of integers that lie below some block, or in a block of integers; rows of them.
  Inner slices of integers of which nil has no room.
  What is said of a slice of what is known (a row and a list each); the walk of jalousieref9.Has.
-/
import Derived.Test.YtgfpjfiikajadaaDoorG12
import Derived.Test.YtgfpjfiikajadaaDoorG13
import Derived.Test.YtgfpjfiikajadaaDoorG28
import Derived.Test.YtgfpjfiikajadaaDoorG07
import Derived.Test.YtgfpjfiikajadaaDoorG19
import Derived.Test.YtgfpjfiikajadaaDoorG08
import Derived.Test.YtgfpjfiikajadaaDoorG09
import Derived.Test.YtgfpjfiikajadaaDoorG21
namespace Go.Proofs.YtgfpjfiikajadaaDoor
open Go.RowKit
set_option linter.unusedVariables false

theorem Tryd.infoPlaceC : (Tryd.prog.info? 142).map (fun i => (i.zero, i.size, i.bytes)) = some (some (.agg (pccells ⟨zeroS, 0, 0⟩).toArray), 6, 48) := by kernel_rfl

abbrev pc0 (S0 : Nat → Nat) : Array Value := #[.int .u64 (S0 0), .int .u64 (S0 1), .int .u64 (S0 2), .int .u64 (S0 3), .int .i64 0, .int .i64 0]
/-- What least leaves. -/
def CLeastPost (w : World) (o : Option (List Int)) (e : Ending) (w' : World) : Prop :=
  match o with
  | none => e = .returned (.tuple #[.slice none 0 0, .bool false]) ∧ Below w.heap.size w w'
  | some u => ∃ v, e = .returned (.tuple #[v, .bool true]) ∧ Own w' w.heap.size v u ∧ Below w.heap.size w w'
theorem below_mapC {B : Nat} {w W : World} (h : Below B w W) {br : Nat} (hb : B ≤ br) (o : Obj) : Below B w (setMap W br o) :=
  h.trans ⟨rfl, rfl, rfl, by rw [size_setMap]; exact Nat.le_refl _, fun j hj => heap_setMap_ne _ _ _ (by omega)⟩
theorem blk_mapC {W : World} {b br : Nat} {t : TypeId} {cs : Array Value} (h : Blk W b t cs) (hn : b ≠ br) (o : Obj) : Blk (setMap W br o) b t cs := (heap_setMap_ne W br o hn).trans h
/-- An event that is seen stands at its own place. -/
theorem place_nth {seen : List Int} (hi : Inc seen) {e : Nat} (he : e < seen.length) : placeN seen (seen[e]?.getD 0) = some e := by
  rw [List.getElem?_eq_getElem he, Option.getD_some]
  obtain ⟨j, hj⟩ := placeN_mem (List.getElem_mem he)
  have h1 := placeN_some hj
  obtain ⟨hl, h2⟩ := List.getElem?_eq_some_iff.1 h1
  have : j = e := by
    rcases Nat.lt_trichotomy j e with h | h | h
    · have := List.pairwise_iff_getElem.1 hi j e hl he h; omega
    · exact h
    · have := List.pairwise_iff_getElem.1 hi e j he hl h; omega
  rw [hj, this]
/-- Where a set leads to is what is known next. -/
theorem rep_see {p : Plant} (hp : mayP p = true) {S : Nat → Nat} {s : List Int} (hr : RepI S s) (hc : ClU p s) {e : Nat} (he : e < p.seen.length) : RepI (leadS p.seen.length (hideM p.m p.seen).arrows S e) (seeD p s e) := by
  obtain ⟨hm, z6, hrr, -⟩ := (mayP_iff p).1 hp
  have hmh := may_hide hm hrr (hide_small hm z6 hrr)
  have e1 : (hideM p.m p.seen).st = p.m.st := rfl
  have r1 := rep_lead (st := (hideM p.m p.seen).st) (ev := (p.seen.length : Int)) (e := (e : Int)) hr.1 (may_arrs hmh) (by omega) (by omega) (by omega)
  have r2 : Rep (leadS p.seen.length (hideM p.m p.seen).arrows S e) (stepL (hideM p.m p.seen).arrows s (e : Int)) := by simpa only [Int.toNat_natCast] using r1
  rw [hide_see hm hc he] at r2
  exact ⟨r2, (see_in hm s _).1⟩
theorem all_lt {p : Plant} {S : Nat → Nat} {s : List Int} (hr : RepI S s) (hc : ClU p s) : ∀ n ∈ allS S, n < p.m.st.toNat := fun n hn => by
  obtain ⟨m1, m2⟩ := (mem_allS S n).1 hn
  have := hc.1 (n : Int) ((hr.1.mem n m1).1 m2)
  omega

set_option maxRecDepth 100000 in
set_option maxHeartbeats 16000000 in
theorem cleast_any (p : Plant) (Pl : ML) (sa : Option Addr) (sc : Nat) (ta : Option Addr) (tc : Nat) (hp : Hid (mayP p = true)) (S0 : Nat → Nat) (hr0 : Hid (RepI S0 (wideL p.m.arrows p.seen p.m.starts))) (T : Nat → Nat) (hRT : Hid (Rep T p.secret)) (pl pp : Nat) (L0 : LB) (w : World) (hT : Hid (Tab w)) (hL : Hid (CL w pl pp L0 p ⟨Pl, sa, sc, ta, tc⟩)) :
    Calls Tryd.prog 79 #[sval S0, .slice sa p.seen.length sc, cleadV pl pp, sval T] w fun e w' => CLeastPost w (outC p) e w' := by
  obtain ⟨hm, z6, hrr, -⟩ := (mayP_iff p).1 hp.out
  have hz := mayB_size hm
  unfold sizeOk at hz
  have h8 : p.seen.length ≤ 8 := by have := row_short (by omega) (by omega) hrr; omega
  have h256 : p.m.st.toNat ≤ 256 := by omega
  have HI : Hid (Inc p.seen) := ((rowB_iff _ (by omega) _).1 hrr).1
  have HMM := Hid.of hm
  have HZ6 := Hid.of z6
  clear hz hrr hm z6
  obtain ⟨n8, HN8⟩ : ∃ n, Hid (n = p.seen.length) := ⟨_, rfl⟩
  obtain ⟨i0, hi, hz0, hz1, hz2⟩ := info_parts Tryd.infoPlaceC
  have hmm := @run_makeMap Tryd.prog
  have b0 : SB ((w.alloc (.cells (scells S0) 65)).alloc (.cells (scells T) 65)) w.heap.size S0 := (Blk.new w _ _).alloc _
  have KT : Hid (SB ((w.alloc (.cells (scells S0) 65)).alloc (.cells (scells T) 65)) (w.heap.size + 1) T) := by
    have := Blk.new (w.alloc (.cells (scells S0) 65)) 65 (scells T)
    rwa [World.size_alloc] at this
  have bel0 : Hid (Below w.heap.size w ((w.alloc (.cells (scells S0) 65)).alloc (.cells (scells T) 65))) := ((Below.refl _ _).alloc (Nat.le_refl _) _).alloc (by simp) _
  go_enter Tryd.func79, Tryd.ntmps79
  go_wp2_with fail
  revert b0 bel0 KT
  generalize ((w.alloc (.cells (scells S0) 65)).alloc (.cells (scells T) 65)) = V
  intro b0 KT bel0
  have hlV : Hid (w.heap.size + 1 < V.heap.size) := KT.out.lt
  refine Code.wp_mono (Q := regQ fun a' W' => ∃ (br : Nat) (vs r19 r20 r21 r22 r23 r24 r25 : Value), a' = { tmps := #[sval S0, .slice sa p.seen.length sc, cleadV pl pp, sval T, .pointer (some ⟨w.heap.size, 0, none⟩), undef, undef, .pointer (some ⟨w.heap.size + 1, 0, none⟩), .slice none 0 0, .bool false, vs, .map (some br), undef, undef, undef, undef, undef, undef, undef, r19, r20, r21, r22, r23, r24, r25, undef, undef, undef, undef, undef, undef, undef, undef, undef, undef, undef, undef, undef, undef, undef, undef, undef, undef, undef, undef, undef, undef, undef, undef, undef, undef, undef, undef, undef, undef, undef, undef, undef, undef, undef, undef, undef, undef, undef, undef, undef, undef, undef, undef, undef, undef], defers := [] } ∧ LCI V.heap.size W' br vs [⟨S0, 0, 0⟩] ∧ Below V.heap.size V W') ?aft ?reg
  case reg =>
    refine wp_region_held_drew (S := fun w' => w'.cell? ⟨w.heap.size, 0, none⟩ = some (.int .u64 (S0 0)) ∧ w'.cell? ⟨w.heap.size, 1, none⟩ = some (.int .u64 (S0 1)) ∧ w'.cell? ⟨w.heap.size, 2, none⟩ = some (.int .u64 (S0 2)) ∧ w'.cell? ⟨w.heap.size, 3, none⟩ = some (.int .u64 (S0 3))) (by kernel_rfl) b0.cells (fun hS0 => ?_)
    refine wpAnyH_take (i := 0) (v := sval S0) rfl (by kernel_rfl) (by kernel_rfl) (by kernel_rfl) (fun _ _ _ h => h) (Or.inl ⟨by kernel_rfl, fun w' hw' => by obtain ⟨q0, q1, q2, q3⟩ := hw'; go_simp⟩) hS0 ?_
    refine wpAnyH_take (i := 1) (v := .agg #[.int .u64 (S0 0), .int .u64 (S0 1), .int .u64 (S0 2), .int .u64 (S0 3), .int .i64 0, .int .i64 0]) rfl (by kernel_rfl) (by kernel_rfl) (by kernel_rfl) (fun _ _ _ h => h) (Or.inl ⟨by kernel_rfl, fun w' hw' => by obtain ⟨q0, q1, q2, q3⟩ := hw'; go_simp⟩) hS0 ?_
    refine wpAnyH_take (i := 4) (v := sval S0) rfl (by kernel_rfl) (by kernel_rfl) (by kernel_rfl) (fun _ _ _ h => h) (Or.inl ⟨by kernel_rfl, fun w' hw' => by obtain ⟨q0, q1, q2, q3⟩ := hw'; go_simp⟩) hS0 ?_
    refine wpAnyH_take (i := 5) (v := .agg #[]) rfl (by kernel_rfl) (by kernel_rfl) (by kernel_rfl) (fun _ _ _ h => h) (Or.inl ⟨by kernel_rfl, fun w' hw' => by obtain ⟨q0, q1, q2, q3⟩ := hw'; go_simp⟩) hS0 ?_
    simp only [Act.put, List.setIfInBounds_toArray]
    refine wpAnyH_ready (rs := [2, 3]) (by kernel_rfl) (by simp) ?_
    refine AllReadyH.cons rfl (fun K' hK' => ?_) (AllReadyH.cons rfl (fun K' hK' => ?_) AllReadyH.nil)
    · go_simp
      refine hK'.out _ _ (SB.cells (Blk.drew (b0.alloc _))) (fun hS1 => ?_)
      clear hK' K'
      refine wpAnyH_take (i := 8) (v := .slice (some ⟨V.heap.size, 0, none⟩) 1 1) rfl (by kernel_rfl) (by kernel_rfl) (by kernel_rfl) (fun _ _ _ h => h) (Or.inl ⟨by kernel_rfl, fun w' hw' => by obtain ⟨q0, q1, q2, q3⟩ := hw'; go_simp⟩) hS1 ?_
      refine wpAnyH_ready (rs := [3]) (by kernel_rfl) (by simp) ?_
      refine AllReadyH.cons rfl (fun K' hK' => ?_) AllReadyH.nil
      go_simp
      refine hK'.out _ _ (SB.cells (Blk.drew ((b0.alloc _).alloc _))) (fun hS2 => ?_)
      clear hK' K'
      refine wpAnyH_ready (rs := [6]) (by kernel_rfl) (by simp) ?_
      refine AllReadyH.cons rfl (fun K' hK' => ?_) AllReadyH.nil
      have hmp : ((V.alloc (.cells (pc0 S0) 142)).alloc (.map #[] 0)).heap[V.heap.size + 1]? = some (.map #[] 0) := by
        have := World.alloc_heap_new (V.alloc (.cells (pc0 S0) 142)) (.map #[] 0)
        rwa [World.size_alloc] at this
      have hu := updC_first (p := ⟨S0, 0, 0⟩) hr0.out (w := ((V.alloc (.cells (pc0 S0) 142)).alloc (.map #[] 0)).drew) (r := V.heap.size + 1) hmp
      go_simp
      refine hK'.out _ _ (SB.cells (blk_mapC (b := w.heap.size) (br := V.heap.size + 1) (Blk.drew ((b0.alloc _).alloc _)) (by have := hlV.out; omega) _)) (fun hS3 => ?_)
      clear hK' K'
      refine wpAnyH_take (i := 7) (v := .map (some (V.heap.size + 1))) rfl (by kernel_rfl) (by kernel_rfl) (by kernel_rfl) (fun _ _ _ h => h) (Or.inl ⟨by kernel_rfl, fun w' hw' => by obtain ⟨q0, q1, q2, q3⟩ := hw'; go_simp⟩) hS3 ?_
      refine wpAnyH_take (i := 9) (v := .map (some (V.heap.size + 1))) rfl (by kernel_rfl) (by kernel_rfl) (by kernel_rfl) (fun _ _ _ h => h) (Or.inl ⟨by kernel_rfl, fun w' hw' => by obtain ⟨q0, q1, q2, q3⟩ := hw'; go_simp⟩) hS3 ?_
      refine wpAnyH_done (by kernel_rfl) ?_ _
      have ho : OwnC ((V.alloc (.cells (pc0 S0) 142)).alloc (.map #[] 0)).drew V.heap.size (.slice (some ⟨V.heap.size, 0, none⟩) 1 1) [⟨S0, 0, 0⟩] := World.ownsRow.alloc (ownC_one V ⟨S0, 0, 0⟩ V.heap.size (Nat.le_refl _)) (.map #[] 0)
      exact ⟨V.heap.size + 1, .slice (some ⟨V.heap.size, 0, none⟩) 1 1, _, _, _, _, _, _, _, rfl, lci_first ho hmp (by omega), below_mapC ((((Below.refl _ V).alloc (Nat.le_refl _) _).alloc (by simp) _).drew) (by omega) _⟩
    · go_simp
      refine hK'.out _ _ (SB.cells (Blk.drew (b0.alloc _))) (fun hS1 => ?_)
      clear hK' K'
      refine wpAnyH_ready (rs := [2, 6]) (by kernel_rfl) (by simp) ?_
      refine AllReadyH.cons rfl (fun K' hK' => ?_) (AllReadyH.cons rfl (fun K' hK' => ?_) AllReadyH.nil)
      · go_simp
        refine hK'.out _ _ (SB.cells (Blk.drew ((b0.alloc _).alloc _))) (fun hS2 => ?_)
        clear hK' K'
        refine wpAnyH_take (i := 8) (v := .slice (some ⟨V.heap.size + 1, 0, none⟩) 1 1) rfl (by kernel_rfl) (by kernel_rfl) (by kernel_rfl) (fun _ _ _ h => h) (Or.inl ⟨by kernel_rfl, fun w' hw' => by obtain ⟨q0, q1, q2, q3⟩ := hw'; go_simp⟩) hS2 ?_
        refine wpAnyH_ready (rs := [6]) (by kernel_rfl) (by simp) ?_
        refine AllReadyH.cons rfl (fun K' hK' => ?_) AllReadyH.nil
        have hmp : ((V.alloc (.map #[] 0)).alloc (.cells (pc0 S0) 142)).heap[V.heap.size]? = some (.map #[] 0) := by
          have := World.alloc_heap_new V (.map #[] 0)
          exact (Below.heap_alloc (V.alloc (.map #[] 0)) (.cells (pc0 S0) 142) _ (by rw [World.size_alloc]; omega)).trans this
        have hu := updC_first (p := ⟨S0, 0, 0⟩) hr0.out (w := ((V.alloc (.map #[] 0)).alloc (.cells (pc0 S0) 142)).drew) (r := V.heap.size) hmp
        go_simp
        refine hK'.out _ _ (SB.cells (blk_mapC (b := w.heap.size) (br := V.heap.size) (Blk.drew ((b0.alloc _).alloc _)) (by have := hlV.out; omega) _)) (fun hS3 => ?_)
        clear hK' K'
        refine wpAnyH_take (i := 7) (v := .map (some V.heap.size)) rfl (by kernel_rfl) (by kernel_rfl) (by kernel_rfl) (fun _ _ _ h => h) (Or.inl ⟨by kernel_rfl, fun w' hw' => by obtain ⟨q0, q1, q2, q3⟩ := hw'; go_simp⟩) hS3 ?_
        refine wpAnyH_take (i := 9) (v := .map (some V.heap.size)) rfl (by kernel_rfl) (by kernel_rfl) (by kernel_rfl) (fun _ _ _ h => h) (Or.inl ⟨by kernel_rfl, fun w' hw' => by obtain ⟨q0, q1, q2, q3⟩ := hw'; go_simp⟩) hS3 ?_
        refine wpAnyH_done (by kernel_rfl) ?_ _
        have ho : OwnC ((V.alloc (.map #[] 0)).alloc (.cells (pc0 S0) 142)).drew V.heap.size (.slice (some ⟨V.heap.size + 1, 0, none⟩) 1 1) [⟨S0, 0, 0⟩] := by
          have := ownC_one (V.alloc (.map #[] 0)) ⟨S0, 0, 0⟩ V.heap.size (by rw [World.size_alloc]; omega)
          rw [World.size_alloc] at this
          exact this
        exact ⟨V.heap.size, .slice (some ⟨V.heap.size + 1, 0, none⟩) 1 1, _, _, _, _, _, _, _, rfl, lci_first ho hmp (by omega), below_mapC ((((Below.refl _ V).alloc (Nat.le_refl _) _).alloc (by simp) _).drew) (by omega) _⟩
      · have hmp : (V.alloc (.map #[] 0)).heap[V.heap.size]? = some (.map #[] 0) := World.alloc_heap_new V (.map #[] 0)
        have hu := updC_first (p := ⟨S0, 0, 0⟩) hr0.out (w := (V.alloc (.map #[] 0)).drew) (r := V.heap.size) hmp
        go_simp
        refine hK'.out _ _ (SB.cells (blk_mapC (Blk.drew (b0.alloc _)) (by have := hlV.out; omega) _)) (fun hS2 => ?_)
        clear hK' K'
        refine wpAnyH_take (i := 7) (v := .map (some V.heap.size)) rfl (by kernel_rfl) (by kernel_rfl) (by kernel_rfl) (fun _ _ _ h => h) (Or.inl ⟨by kernel_rfl, fun w' hw' => by obtain ⟨q0, q1, q2, q3⟩ := hw'; go_simp⟩) hS2 ?_
        refine wpAnyH_ready (rs := [2]) (by kernel_rfl) (by simp) ?_
        refine AllReadyH.cons rfl (fun K' hK' => ?_) AllReadyH.nil
        have hsz : (setMap (V.alloc (.map #[] 0)).drew V.heap.size (.map (entsC [⟨S0, 0, 0⟩]) 1)).heap.size = V.heap.size + 1 := by rw [size_setMap]; show (V.alloc (.map #[] 0)).heap.size = _; rw [World.size_alloc]
        go_simp
        refine hK'.out _ _ (SB.cells (Blk.alloc (blk_mapC (Blk.drew (b0.alloc _)) (by have := hlV.out; omega) _) _)) (fun hS3 => ?_)
        clear hK' K'
        refine wpAnyH_take (i := 8) (v := .slice (some ⟨V.heap.size + 1, 0, none⟩) 1 1) rfl (by kernel_rfl) (by kernel_rfl) (by kernel_rfl) (fun _ _ _ h => h) (Or.inl ⟨by kernel_rfl, fun w' hw' => by obtain ⟨q0, q1, q2, q3⟩ := hw'; go_simp⟩) hS3 ?_
        refine wpAnyH_take (i := 9) (v := .map (some V.heap.size)) rfl (by kernel_rfl) (by kernel_rfl) (by kernel_rfl) (fun _ _ _ h => h) (Or.inl ⟨by kernel_rfl, fun w' hw' => by obtain ⟨q0, q1, q2, q3⟩ := hw'; go_simp⟩) hS3 ?_
        refine wpAnyH_done (by kernel_rfl) ?_ _
        have hf := lci_first2 (B := V.heap.size) (p := ⟨S0, 0, 0⟩) (W := setMap (V.alloc (.map #[] 0)).drew V.heap.size (.map (entsC [⟨S0, 0, 0⟩]) 1)) (br := V.heap.size) (heap_setMap _ _ (by show _ < (V.alloc (.map #[] 0)).heap.size; rw [World.size_alloc]; omega)) (Nat.le_refl _) (by omega)
        rw [hsz] at hf
        exact ⟨V.heap.size, .slice (some ⟨V.heap.size + 1, 0, none⟩) 1 1, _, _, _, _, _, _, _, rfl, hf, (below_mapC (((Below.refl _ V).alloc (Nat.le_refl _) _).drew) (Nat.le_refl _) _).alloc (by omega) _⟩
  case aft =>
    refine regQ_imp ?_
    rintro a' W' ⟨br, vs, r19, r20, r21, r22, r23, r24, r25, rfl, q1, q2⟩
    have Q1 := Hid.of q1
    have Q2 := Hid.of q2
    clear q1 q2 b0 hmm
    have HL0 : Hid (LC p 0 [(wideL p.m.arrows p.seen p.m.starts, [])]) := LC.start _
    have HR0 : Hid (RepCL [⟨S0, 0, 0⟩] [(wideL p.m.arrows p.seen p.m.starts, [])]) := RepCL.one hr0.out
    have HT0 : Hid (TrC p.seen [⟨S0, 0, 0⟩] [(wideL p.m.arrows p.seen p.m.starts, ([] : List Int))]) := TrC.one _ _ _
    go_wp2_with fail
    go_loopw [10, 12] (fun v10 i wr => ∃ (k : Nat) (l : List (List Int × List Int)) (L : List PlC), i = .int .i64 k ∧ k ≤ L.length ∧ L.length ≤ 64 ∧ Hid (LCI V.heap.size wr br v10 L) ∧ Hid (Below V.heap.size V wr) ∧ Hid (RepCL L l) ∧ Hid (TrC p.seen L l) ∧ Hid (LC p k l)) (fun _ i _ => 65 - (intOf i).toNat)
    case atStart => exact ⟨0, [(wideL p.m.arrows p.seen p.m.starts, [])], [⟨S0, 0, 0⟩], rfl, Nat.zero_le _, by simp, Q1, Q2, HR0, HT0, HL0⟩
    case round =>
      clear Q1 Q2 HR0 HT0 HL0
      obtain ⟨k, l, L, rfl, hk, h64, HF, HB, HR, HTr, HLO⟩ := hrel
      obtain ⟨va10, vc10, hv10, -, -, -⟩ := own_form2 HF.out.ss
      subst hv10
      have HLl := Hid.of HR.out.len
      by_cases hlt : k < L.length
      · obtain ⟨x, hx⟩ : ∃ x, Hid (l[k]? = some x) := ⟨_, List.getElem?_eq_getElem (by rw [← HLl.out]; exact hlt)⟩
        obtain ⟨q, hq, hrq⟩ := HR.out.at hx.out
        have HRP := Hid.of hrq
        have HCU := Hid.of (fwd_cl HMM.out HLO.out.bi (List.mem_of_getElem? hx.out)).1
        obtain ⟨g, cap, hv, hg1, hg2, hc⟩ := HF.out.ss.cell hq
        cases hv
        have c0 : wr.cell? ⟨g, k * 6, none⟩ = _ := hc 0 _ rfl
        have c1 := hc 1 _ rfl
        have c2 := hc 2 _ rfl
        have c3 := hc 3 _ rfl
        have c4 := hc 4 _ rfl
        have c5 := hc 5 _ rfl
        clear hq hrq hc
        have HOK : Hid (okS q.s) := HRP.out.1.ok
        have F1 : Hid (LCI V.heap.size (wr.alloc (.cells (pcarr q) 142)) br (.slice (some ⟨g, 0, none⟩) L.length vc10) L) := HF.out.below ((Below.refl _ _).alloc (Nat.le_refl _) _)
        have B1 : Hid (Below V.heap.size V (wr.alloc (.cells (pcarr q) 142))) := HB.out.alloc HB.out.size _
        have N1 : Hid (Blk (wr.alloc (.cells (pcarr q) 142)) wr.heap.size 142 (pcarr q)) := Blk.new wr _ _
        have G1 : Hid (g ≠ wr.heap.size) := Nat.ne_of_lt hg2
        have hltI : (k : Int) < (L.length : Int) := by omega
        have hltD : decide ((k : Int) < (L.length : Int)) = true := by simpa using hltI
        obtain ⟨n0, n1, n2, n3, n4, n5⟩ := PCk.cells N1.out
        obtain ⟨y0, y1, y2, y3⟩ := SB.cells (KT.out.below B1.out KT.out.lt)
        go_wp2_with fail
        clear c0 c1 c2 c3 c4 c5 n0 n1 n2 n3 n4 n5 y0 y1 y2 y3 HF HB hg2
        revert F1 B1 N1 G1
        generalize wr.alloc (.cells (pcarr q) 142) = V1
        generalize wr.heap.size = hp1
        intro F1 B1 N1 G1
        have LK := Hid.of (leaks_any q T V1 HOK.out hRT.out.ok)
        have HOUT : Hid (leakS q.s T = leakB p.secret x.1) := leak_set HRP.out.1 hRT.out
        refine LK.out.mono ?_
        rintro r V2 ⟨rfl, hb2⟩
        have F2 := Hid.of (F1.out.below hb2)
        have B2 := Hid.of (B1.out.trans (hb2.mono B1.out.size))
        have N2 := Hid.of (N1.out.below hb2 N1.out.lt)
        clear hb2 F1 B1 N1 LK
        cases hout : leakS q.s T with
        | true =>
          have HW : Hid (outC p = some (wordS p.seen x.2)) := HLO.out.found hx.out (by rw [← HOUT.out]; exact hout)
          have WT := Hid.of (cwordTo_any p.seen V.heap.size (.slice (some ⟨g, 0, none⟩) L.length vc10) L l _ k x V2 (Hid.of F2.out.ss) HTr (Hid.of HLO.out.bi.hd) HLl hx (by omega))
          clear hout HOUT
          go_wp2_with fail
          refine WT.out.mono ?_
          rintro r V3 ⟨vr, rfl, ov, hb3⟩
          have B3 := Hid.of (bel0.out.trans ((B2.out.trans (hb3.mono B2.out.size)).mono bel0.out.size))
          have OV := Hid.of (Own.low ov (Nat.le_trans bel0.out.size B2.out.size))
          clear ov hb3
          go_wp2
          refine bodyPost_ret (v := .tuple #[vr, .bool true]) (by simp [results, go_sem]) rfl ?_
          unfold CLeastPost
          rw [HW.out]
          exact ⟨vr, rfl, OV.out, B3.out⟩
        | false =>
          have HNO : Hid (leakB p.secret x.1 = false) := by show _ = _; rw [← HOUT.out]; exact hout
          clear hout HOUT
          have hbw := bel0.out.size
          go_wp2_with fail
          go_loopw [10, 44] (fun v10 i wr' => ∃ (e : Nat) (L1 : List PlC), i = .int .i64 e ∧ e ≤ p.seen.length ∧ Hid (LCI V.heap.size wr' br v10 L1) ∧ Hid (Below V.heap.size V wr') ∧ Hid (Blk wr' hp1 142 (pcarr q)) ∧ Hid (v10.ownBlock ≠ some hp1) ∧ Hid (RepCL L1 (bfRow (seeD p) x l e)) ∧ Hid (TrC p.seen L1 (bfRow (seeD p) x l e))) (fun _ i _ => p.seen.length - (intOf i).toNat)
          case atStart => exact ⟨0, L, rfl, Nat.zero_le _, F2, B2, N2, Hid.of (fun h => G1.out (by injection h)), HR, HTr⟩
          case round =>
            clear F2 B2 N2
            obtain ⟨e, L1, rfl, hee, HF, HB, HN, HNE1, HR1, HT1⟩ := hrel
            obtain ⟨va8, vc8, hv8, -, -, -⟩ := own_form2 HF.out.ss
            subst hv8
            obtain ⟨l1, HS1⟩ : ∃ l1, Hid (l1 = bfRow (seeD p) x l e) := ⟨_, rfl⟩
            have HBI : Hid (BI (seeD p) (wideL p.m.arrows p.seen p.m.starts) p.seen.length k e l1) := by
              have := bi_row (seeD p) HLO.out.bi hx.out e hee
              rw [← HS1.out] at this
              exact this
            have HBD : Hid (l1.length ≤ 64) := fwd_bound HMM.out HZ6.out HBI.out
            have HX1 : Hid (l1[k]? = some x) := by
              obtain ⟨t, ht⟩ := bfRow_pre (seeD p) x l e
              show _ = _
              rw [HS1.out, ht, List.getElem?_append_left (List.getElem?_eq_some_iff.1 hx.out).1]
              exact hx.out
            have HSuc : Hid (bfRow (seeD p) x l (e + 1) = bfStep (seeD p) x l1 e) := by show _ = _; rw [bfRow_succ, HS1.out]
            rw [← HS1.out] at HR1 HT1
            have HL1 := Hid.of HR1.out.len
            by_cases hle : e < p.seen.length
            · obtain ⟨bs, os, ev, rfl, HEV, HSC⟩ : ∃ (bs os : Nat) (ev : Int), sa = some ⟨bs, os, none⟩ ∧ Hid (ev = p.seen[e]?.getD 0) ∧ wr.cell? ⟨bs, os + e, none⟩ = some (.int .i64 ev) := by
                rcases hL.out.pt.s.at_ with h0 | ⟨bs, os, ha, hb, hc⟩
                · have : p.seen.length = 0 := by rw [h0]; rfl
                  omega
                · obtain ⟨ev, hev, hcell⟩ := hc.at hle
                  refine ⟨bs, os, ev, ha, hev, ?_⟩
                  exact ((bel0.out.trans (HB.out.mono bel0.out.size)).cell (p := ⟨bs, os + e, none⟩) hb).trans hcell
              have HPN : Hid (placeN p.seen ev = some e) := by show _ = _; rw [HEV.out]; exact place_nth HI.out hle
              have hcall := Hid.of (cwatch1_any p ⟨Pl, some ⟨bs, os, none⟩, sc, ta, tc⟩ q.s ev e HPN hle h8 h256 HOK (Hid.of (all_lt HRP.out HCU.out)) pl pp L0 wr (Hid.of (hT.out.below (bel0.out.trans (HB.out.mono bel0.out.size)) hT.out.lt)) (Hid.of (hL.out.kept (bel0.out.trans (HB.out.mono bel0.out.size)))))
              have hRep : Hid (RepI (leadS p.seen.length (hideM p.m p.seen).arrows q.s e) (seeD p x.1 e)) := rep_see hp.out HRP.out HCU.out hle
              obtain ⟨Q, HQ⟩ : ∃ Q, Hid (Q = leadS p.seen.length (hideM p.m p.seen).arrows q.s e) := ⟨_, rfl⟩
              obtain ⟨to, HTO⟩ : ∃ to, Hid (to = seeD p x.1 e) := ⟨_, rfl⟩
              rw [← HQ.out] at hcall hRep
              rw [← HTO.out] at hRep
              have HST : Hid (bfStep (seeD p) x l1 e = if knownB l1 to = true then l1 else l1 ++ [(to, x.2 ++ [(e : Int)])]) := by
                show _ = _
                unfold bfStep; rw [← HTO.out]
              obtain ⟨m0, m1, m2, m3, m4, m5⟩ := PCk.cells HN.out
              go_wp2_with fail
              refine hcall.out.mono ?_
              rintro r w1 ⟨rfl, hb1⟩
              have F1 : Hid (LCI V.heap.size (w1.alloc (.cells (scells Q) 65)) br (.slice va8 L1.length vc8) L1) := (HF.out.below hb1).below ((Below.refl _ _).alloc (Nat.le_refl _) _)
              have B1 : Hid (Below V.heap.size V (w1.alloc (.cells (scells Q) 65))) := (HB.out.trans (hb1.mono HB.out.size)).alloc (Nat.le_trans HB.out.size hb1.size) _
              have N1 : Hid (SB (w1.alloc (.cells (scells Q) 65)) w1.heap.size Q) := Blk.new w1 _ _
              have H1 : Hid (Blk (w1.alloc (.cells (scells Q) 65)) hp1 142 (pcarr q)) := Blk.alloc (HN.out.below hb1 HN.out.lt) _
              have HPL : Hid (hp1 < w1.heap.size) := Nat.lt_of_lt_of_le HN.out.lt hb1.size
              have hws : V.heap.size ≤ w1.heap.size := Nat.le_trans HB.out.size hb1.size
              clear hcall hb1 m0 m1 m2 m3 m4 m5 HF HB HN HSC
              obtain ⟨n0, n1, n2, n3⟩ := SB.cells N1.out
              cases hkn : knownB l1 to with
              | true =>
                have lk := lookC_known HR1.out hRep.out (w := w1.alloc (.cells (scells Q) 65)) (r := br) F1.out.mp hkn
                have HNX : Hid (bfRow (seeD p) x l (e + 1) = l1) := by show _ = _; rw [HSuc.out, HST.out, if_pos hkn]
                have F2 : Hid (LCI V.heap.size ((w1.alloc (.cells (scells Q) 65)).alloc (.cells #[] 131)) br (.slice va8 L1.length vc8) L1) := F1.out.below ((Below.refl _ _).alloc (Nat.le_refl _) _)
                have B2 : Hid (Below V.heap.size V ((w1.alloc (.cells (scells Q) 65)).alloc (.cells #[] 131))) := B1.out.alloc B1.out.size _
                have H2 : Hid (Blk ((w1.alloc (.cells (scells Q) 65)).alloc (.cells #[] 131)) hp1 142 (pcarr q)) := H1.out.alloc _
                clear hkn
                go_wp2_with fail
                go_roundw
                case rel => exact ⟨e + 1, L1, by go_num, by omega, F2, B2, H2, HNE1, (by show RepCL _ _; rw [HNX.out]; exact HR1.out), (by show TrC _ _ _; rw [HNX.out]; exact HT1.out)⟩
                case measure => simp [intOf]; omega
              | false =>
                have lk := lookC_new HR1.out hRep.out (w := w1.alloc (.cells (scells Q) 65)) (r := br) F1.out.mp hkn
                have HNX : Hid (bfRow (seeD p) x l (e + 1) = l1 ++ [(to, x.2 ++ [(e : Int)])]) := by show _ = _; rw [HSuc.out, HST.out, if_neg (by rw [hkn]; simp)]
                have F2 : Hid (LCI V.heap.size ((w1.alloc (.cells (scells Q) 65)).alloc (.cells #[] 131)) br (.slice va8 L1.length vc8) L1) := F1.out.below ((Below.refl _ _).alloc (Nat.le_refl _) _)
                have B2 : Hid (Below V.heap.size V ((w1.alloc (.cells (scells Q) 65)).alloc (.cells #[] 131))) := B1.out.alloc B1.out.size _
                have H2 : Hid (Blk ((w1.alloc (.cells (scells Q) 65)).alloc (.cells #[] 131)) hp1 142 (pcarr q)) := H1.out.alloc _
                have N2 : Hid (SB ((w1.alloc (.cells (scells Q) 65)).alloc (.cells #[] 131)) w1.heap.size Q) := N1.out.alloc _
                obtain ⟨k0, k1, k2, k3⟩ := SB.cells N2.out
                have hu := updC_new (p := ⟨Q, k, ev⟩) HR1.out hRep.out (w := ((w1.alloc (.cells (scells Q) 65)).alloc (.cells #[] 131))) (r := br) F2.out.mp hkn
                have hne : w1.heap.size ≠ br := fun e => by have hm := F2.out.mp; rw [← e, show _ = _ from N2.out] at hm; cases hm
                have HNE := Hid.of hne
                clear hne
                have NZ : Hid (SB (setMap ((w1.alloc (.cells (scells Q) 65)).alloc (.cells #[] 131)) br (.map (entsC (L1 ++ [⟨Q, k, ev⟩])) (L1.length + 1))) w1.heap.size Q) := blk_mapC N2.out HNE.out _
                obtain ⟨y0, y1, y2, y3⟩ := SB.cells NZ.out
                have hzs : (setMap ((w1.alloc (.cells (scells Q) 65)).alloc (.cells #[] 131)) br (.map (entsC (L1 ++ [⟨Q, k, ev⟩])) (L1.length + 1))).heap.size = w1.heap.size + 1 + 1 := by rw [size_setMap, World.size_alloc, World.size_alloc]
                have OZ : Hid (OwnC (setMap ((w1.alloc (.cells (scells Q) 65)).alloc (.cells #[] 131)) br (.map (entsC (L1 ++ [⟨Q, k, ev⟩])) (L1.length + 1))) V.heap.size (.slice va8 L1.length vc8) L1) := own_same F2.out.ss (fun j hj => heap_setMap_ne _ _ _ (fun e => F2.out.apart (by rw [hj, e])))
                have CF : Hid (∀ j v, (pccells ⟨Q, k, ev⟩)[j]? = some v → ((setMap ((w1.alloc (.cells (scells Q) 65)).alloc (.cells #[] 131)) br (.map (entsC (L1 ++ [⟨Q, k, ev⟩])) (L1.length + 1))).alloc (.cells (pccells ⟨Q, k, ev⟩).toArray 142)).cell? ((⟨w1.heap.size + 1 + 1, 0, none⟩ : Addr).add j) = some v) := by
                  have := cells_listC (setMap ((w1.alloc (.cells (scells Q) 65)).alloc (.cells #[] 131)) br (.map (entsC (L1 ++ [⟨Q, k, ev⟩])) (L1.length + 1))) (setMap ((w1.alloc (.cells (scells Q) 65)).alloc (.cells #[] 131)) br (.map (entsC (L1 ++ [⟨Q, k, ev⟩])) (L1.length + 1))) rfl 142 (pccells ⟨Q, k, ev⟩).toArray
                  rw [hzs] at this
                  exact this
                have hl1 : L1.length ≤ 64 := by rw [HL1.out]; exact HBD.out
                clear hkn
                go_wp2_with (at_builtin; refine wpList_append_block _ rfl (.tmp 64) (.tmp 69) 143 rfl V.heap.size 142 i0 _ 6 48 Tryd.underlying143 hi hz0 hz1 hz2 rfl (by decide) _ _ _ rfl (World.ownsRow.alloc OZ.out _) ⟨w1.heap.size + 1 + 1, 0, none⟩ 1 1 (pccells ⟨Q, k, ev⟩) rfl rfl CF.out (by intro u hu; simp [pccells] at hu; rcases hu with rfl | rfl | rfl | rfl | rfl | rfl <;> rfl) (by decide) (by unfold maxLen; omega) (by omega) (by rw [World.size_alloc, hzs]; omega) ?_)
                intro v7 w7 o7 g7 nn7
                obtain ⟨p1, p2⟩ := LCI.push F2.out B2.out ((Below.refl _ _).alloc (Nat.le_refl _) _) (own_plcC o7) g7 B2.out.size
                have p3 := LCI.keep HNE1.out F2.out ((Below.refl _ _).alloc (Nat.le_refl _) _) g7 H2.out
                have p4 := ne_append HNE1.out (by have := HPL.out; omega) nn7
                have P1 := Hid.of p1
                have P2 := Hid.of p2
                have P3 := Hid.of p3
                have P4 := Hid.of p4
                have HR7 : Hid (RepCL (L1 ++ [⟨Q, k, ev⟩]) (l1 ++ [(to, x.2 ++ [(e : Int)])])) := HR1.out.snoc hRep.out
                have HT7 : Hid (TrC p.seen (L1 ++ [⟨Q, k, ev⟩]) (l1 ++ [(to, x.2 ++ [(e : Int)])])) := HT1.out.snoc HL1.out HEV.out HX1.out to
                clear p1 p2 p3 p4 o7 g7 nn7 n0 n1 n2 n3 k0 k1 k2 k3 y0 y1 y2 y3 NZ OZ CF lk hu N1 F1 B1 H1 N2 F2 B2 H2 hzs
                go_wp2_with fail
                go_roundw
                case rel => exact ⟨e + 1, L1 ++ [⟨Q, k, ev⟩], by go_num, by omega, P1, P2, P3, P4, (by show RepCL _ _; rw [HNX.out]; exact HR7.out), (by show TrC _ _ _; rw [HNX.out]; exact HT7.out)⟩
                case measure => simp [intOf]; omega
            · have hev2 : e = p.seen.length := by omega
              have HLN : Hid (LC p (k + 1) l1) := by
                have := HLO.out.next hx.out HNO.out (by omega)
                have e2 : l1 = bfRow (seeD p) x l p.seen.length := by rw [HS1.out, hev2]
                rw [e2]; exact this
              have hl4 : L1.length ≤ 64 := by rw [HL1.out]; exact HBD.out
              have hk1 : k + 1 ≤ L1.length := by
                have := (List.getElem?_eq_some_iff.1 HX1.out).1
                rw [HL1.out]; omega
              clear hev2
              go_wp2_with fail
              go_roundw
              case rel => exact ⟨k + 1, l1, L1, by go_num, hk1, hl4, HF, HB, HR1, HT1, HLN⟩
              case measure => simp [intOf]; omega
      · have hltD : decide ((k : Int) < (L.length : Int)) = false := by simp; omega
        have hltI : ¬ (k : Int) < (L.length : Int) := by omega
        have HW : Hid (outC p = none) := HLO.out.not (by rw [← HLl.out]; omega)
        go_wp2
        refine bodyPost_ret (v := .tuple #[.slice none 0 0, .bool false]) (by simp [results, go_sem]) rfl ?_
        unfold CLeastPost
        rw [HW.out]
        exact ⟨rfl, bel0.out.trans (HB.out.mono bel0.out.size)⟩

end Go.Proofs.YtgfpjfiikajadaaDoor
namespace Go.Proofs.YtgfpjfiikajadaaDoor
open Go.RowKit
set_option linter.unusedVariables false

/-- Are all of a list seen? -/
def allIn (seen xs : List Int) : Bool := xs.all fun n => hasB seen n
theorem allIn_yes {seen xs : List Int} {k : Nat} {x : Int} (h : k < xs.length) (hx : Hid (x = xs[k]?.getD 0)) (he : Hid (allIn seen xs = allIn seen (xs.drop k))) (hy : hasB seen x = true) : Hid (allIn seen xs = allIn seen (xs.drop (k + 1))) := by
  show allIn seen xs = _
  rw [he.out, drop_cons h, ← hx.out]
  unfold allIn
  rw [List.all_cons, hy, Bool.true_and]
theorem allIn_no {seen xs : List Int} {k : Nat} {x : Int} (h : k < xs.length) (hx : Hid (x = xs[k]?.getD 0)) (he : Hid (allIn seen xs = allIn seen (xs.drop k))) (hy : hasB seen x = false) : allIn seen xs = false := by
  rw [he.out, drop_cons h, ← hx.out]
  unfold allIn
  rw [List.all_cons, hy, Bool.false_and]
theorem allIn_end {seen xs : List Int} {k : Nat} (h : ¬ k < xs.length) (he : Hid (allIn seen xs = allIn seen (xs.drop k))) : allIn seen xs = true := by
  rw [he.out, List.drop_eq_nil_of_le (by omega)]; rfl
theorem allIn_iff (seen xs : List Int) : allIn seen xs = true ↔ ∀ e ∈ xs, e ∈ seen := by
  unfold allIn
  rw [List.all_eq_true]
  exact ⟨fun h e he => (hasB_iff _ _).1 (h e he), fun h e he => (hasB_iff _ _).2 (h e he)⟩

set_option maxHeartbeats 400000 in
theorem isSeen1_any (sa : Option Addr) (sc : Nat) (seen : List Int) (n : Int) (pb : Nat) (w : World) (h5 : w.cell? ⟨pb, 5, none⟩ = some (.slice sa seen.length sc)) (hs : Hid (At w sa seen)) (hl : Hid (seen.length ≤ maxLen)) :
    Calls Tryd.prog 109 #[.int .i64 n, .pointer (some ⟨pb, 0, none⟩)] w fun e w' => e = .returned (.bool (!hasB seen n)) ∧ w' = w := by
  go_enter Tryd.func109, Tryd.ntmps109
  go_wp2_with (go_at_call 98; refine (rowHas_any sa sc seen n _ hs.out hl.out).mono ?_; rintro e w1 ⟨rfl, rfl⟩)
  go_ret
  exact ⟨rfl, rfl⟩

set_option maxHeartbeats 1000000 in
theorem cindexFunc_some (sa : Option Addr) (sc : Nat) (seen : List Int) (pb b off cap : Nat) (xs : List Int) (w : World) (hl : xs.length ≤ 9223372036854775807) (hc : Cells w b off xs) (h5 : Hid (w.cell? ⟨pb, 5, none⟩ = some (.slice sa seen.length sc))) (hs : Hid (At w sa seen)) (hsl : Hid (seen.length ≤ maxLen)) :
    Calls Tryd.prog 136 #[.slice (some ⟨b, off, none⟩) xs.length cap, .func (.func 109) #[] #[.pointer (some ⟨pb, 0, none⟩)]] w fun e w' => ∃ r : Int, e = .returned (.int .i64 r) ∧ decide (0 ≤ r) = !allIn seen xs ∧ w' = w := by
  go_enter Tryd.func136, Tryd.ntmps136
  go_wp2
  go_loop [8] (fun i => ∃ k : Nat, k ≤ xs.length ∧ i = .int .i64 k ∧ Hid (allIn seen xs = allIn seen (xs.drop k))) (fun i => xs.length - (intOf i).toNat)
  case atStart => exact ⟨0, Nat.zero_le _, rfl, rfl⟩
  case round =>
    obtain ⟨k, hk, rfl, he⟩ := hrel
    by_cases hlt : k < xs.length
    · obtain ⟨x, HX, hcx⟩ := hc.at hlt
      cases hi : hasB seen x with
      | true =>
        have HI := Hid.of hi
        go_wp2_with (go_at_call 109; refine (isSeen1_any sa sc seen x pb _ h5.out hs hsl).mono ?_; rintro e w1 ⟨rfl, rfl⟩)
        go_round
        case rel => exact ⟨k + 1, by omega, by go_num, allIn_yes hlt HX he HI.out⟩
        case measure => simp [intOf]; omega
      | false =>
        have HI := Hid.of hi
        go_wp2_with (go_at_call 109; refine (isSeen1_any sa sc seen x pb _ h5.out hs hsl).mono ?_; rintro e w1 ⟨rfl, rfl⟩)
        go_ret
        exact ⟨_, rfl, by rw [allIn_no hlt HX he HI.out]; simp, rfl⟩
    · go_wp2
      go_ret
      exact ⟨_, rfl, by rw [allIn_end hlt he]; simp, rfl⟩

set_option maxHeartbeats 400000 in
theorem cindexFunc_nil (seen : List Int) (a : Option Addr) (cap : Nat) (f : Value) (w : World) :
    Calls Tryd.prog 136 #[.slice a 0 cap, f] w fun e w' => ∃ r : Int, e = .returned (.int .i64 r) ∧ decide (0 ≤ r) = !allIn seen [] ∧ w' = w := by
  go_enter Tryd.func136, Tryd.ntmps136
  go_wp2
  refine wp_loop_rounds 1 ?_
  rw [rounds_succ]
  go_wp2
  go_ret
  exact ⟨_, rfl, rfl, rfl⟩

theorem cindexFunc_any (sa : Option Addr) (sc : Nat) (seen : List Int) (pb cap : Nat) (a : Option Addr) (xs : List Int) (w : World) (hx : At w a xs) (hl : xs.length ≤ maxLen) (h5 : Hid (w.cell? ⟨pb, 5, none⟩ = some (.slice sa seen.length sc))) (hs : Hid (At w sa seen)) (hsl : Hid (seen.length ≤ maxLen)) :
    Calls Tryd.prog 136 #[.slice a xs.length cap, .func (.func 109) #[] #[.pointer (some ⟨pb, 0, none⟩)]] w fun e w' => ∃ r : Int, e = .returned (.int .i64 r) ∧ decide (0 ≤ r) = !allIn seen xs ∧ w' = w := by
  rcases hx with rfl | ⟨b, off, rfl, hb, hc⟩
  · exact cindexFunc_nil seen a cap _ w
  · exact cindexFunc_some sa sc seen pb b off cap xs w hl hc h5 hs hsl

set_option maxHeartbeats 400000 in
theorem ccontainsFunc_any (sa : Option Addr) (sc : Nat) (seen : List Int) (pb cap : Nat) (a : Option Addr) (xs : List Int) (w : World) (hx : At w a xs) (hl : xs.length ≤ maxLen) (h5 : Hid (w.cell? ⟨pb, 5, none⟩ = some (.slice sa seen.length sc))) (hs : Hid (At w sa seen)) (hsl : Hid (seen.length ≤ maxLen)) :
    Calls Tryd.prog 108 #[.slice a xs.length cap, .func (.func 109) #[] #[.pointer (some ⟨pb, 0, none⟩)]] w fun e w' => e = .returned (.bool (!allIn seen xs)) ∧ w' = w := by
  have H := Hid.of (cindexFunc_any sa sc seen pb cap a xs w hx hl h5 hs hsl)
  clear h5 hs hsl hx hl
  go_enter Tryd.func108, Tryd.ntmps108
  go_wp2_with (go_at_call 136; refine H.out.mono ?_; rintro e w1 ⟨r, rfl, hr, rfl⟩; have HR := Hid.of hr; clear hr)
  go_ret
  exact ⟨ret_bool HR.out, rfl⟩

set_option maxRecDepth 100000 in
set_option maxHeartbeats 1000000 in
theorem cisSeen_any (p : Plant) (P : PTL) (a : Option Addr) (cap : Nat) (xs : List Int) (w : World) (hP : Hid (PAt w p P)) (hx : Hid (At w a xs)) (hl : Hid (xs.length ≤ maxLen)) :
    Calls Tryd.prog 78 #[ptval p P, .slice a xs.length cap] w fun e w' => e = .returned (.bool (allIn p.seen xs)) ∧ Below w.heap.size w w' := by
  have hmf : ∀ (fn : Fn) (first cap : Array Value) (w : World), (Instr.makeFunc fn first cap).run Tryd.prog w = .ok (.func fn first cap) w := fun _ _ _ _ => rfl
  have B : Hid (Below w.heap.size w (w.alloc (.cells (ptcells p P) 50))) := (Below.refl _ _).alloc (Nat.le_refl _) _
  have KP : Hid (Blk (w.alloc (.cells (ptcells p P) 50)) w.heap.size 50 (ptcells p P)) := Blk.new w _ _
  go_enter Tryd.func78, Tryd.ntmps78
  go_wp2_with fail
  revert B KP
  generalize (w.alloc (.cells (ptcells p P) 50)) = V0
  intro B KP
  refine (ccontainsFunc_any P.sa P.sc p.seen w.heap.size cap a xs V0 (hx.out.below B.out (Nat.le_refl _)) hl.out (Hid.of (ptcell_at KP.out).2.2.2.2.2.1) (Hid.of (hP.out.s.at_.below B.out (Nat.le_refl _))) (Hid.of hP.out.s.len)).mono ?_
  rintro e V1 ⟨rfl, rfl⟩
  go_wp2_with fail
  go_ret
  exact ⟨ret_bool (by simp), B.out⟩

end Go.Proofs.YtgfpjfiikajadaaDoor
namespace Go.Proofs.YtgfpjfiikajadaaDoor
open Go.RowKit
set_option linter.unusedVariables false

/-- An inner slice: it lies below block n, or in a block of integers. -/
def InnN (n : Nat) (W : World) (x : Value) (xs : List Int) : Prop := ∃ a c, x = .slice a xs.length c ∧ xs.length ≤ maxLen ∧ (xs = [] ∨ ∃ g o, a = some ⟨g, o, none⟩ ∧ g < W.heap.size ∧ Cells W g o xs ∧ (g < n ∨ ∃ cs, W.heap[g]? = some (.cells cs 3 (0, 0))))
theorem cells_block {W W' : World} {g o : Nat} {xs : List Int} (h : Cells W g o xs) (hb : W'.heap[g]? = W.heap[g]?) : Cells W' g o xs := fun j hj => by
  rw [World.cell?_of_block (w := W) hb]; exact h j hj
theorem InnN.kept {n : Nat} {W W' : World} {x : Value} {xs : List Int} (h : InnN n W x xs) (hz : W.heap.size ≤ W'.heap.size) (h1 : ∀ j, j < n → W'.heap[j]? = W.heap[j]?) (h2 : ∀ (g : Nat) (cs : Array Value), W.heap[g]? = some (.cells cs 3 (0, 0)) → W'.heap[g]? = W.heap[g]?) : InnN n W' x xs := by
  obtain ⟨a, c, e, l, h⟩ := h
  refine ⟨a, c, e, l, ?_⟩
  rcases h with h | ⟨g, o, e', hlt, hc, h⟩
  · exact .inl h
  · have hb : W'.heap[g]? = W.heap[g]? := by
      rcases h with h | ⟨cs, h⟩
      · exact h1 g h
      · exact h2 g cs h
    refine .inr ⟨g, o, e', Nat.lt_of_lt_of_le hlt hz, cells_block hc hb, ?_⟩
    rcases h with h | ⟨cs, h⟩
    · exact .inl h
    · exact .inr ⟨cs, hb.trans h⟩
theorem InnN.of_own {n : Nat} {W : World} {B : Nat} {v : Value} {xs : List Int} (h : Own W B v xs) : InnN n W v xs := by
  rcases h.2 with ⟨rfl, hn⟩ | ⟨g, cap, cur, rfl, hg, hh, hnc, hcm, hcs, ht⟩
  · have : xs = [] := List.eq_nil_of_length_eq_zero hn
    subst this
    exact ⟨none, 0, rfl, Nat.zero_le _, .inl rfl⟩
  · refine ⟨_, cap, rfl, Nat.le_trans hnc hcm, .inr ⟨g, 0, rfl, (Array.getElem?_eq_some_iff.1 hh).1, fun j hj => ?_, .inr ⟨cur, hh⟩⟩⟩
    have := h.cells (g := g) rfl j (.int .i64 (xs.getD j 0)) (by rw [List.getElem?_map, List.getElem?_eq_getElem hj]; simp [List.getElem?_eq_getElem hj])
    rwa [addr0_add] at this
theorem InnN.of_at {w W : World} {a : Option Addr} {c : Nat} {xs : List Int} (h : At w a xs) (hl : xs.length ≤ maxLen) (hb : Below w.heap.size w W) : InnN w.heap.size W (.slice a xs.length c) xs := by
  refine ⟨a, c, rfl, hl, ?_⟩
  rcases h with h | ⟨b, off, e, hlt, hc⟩
  · exact .inl h
  · exact .inr ⟨b, off, e, Nat.lt_of_lt_of_le hlt hb.size, cells_block hc (hb.block b hlt), .inl hlt⟩
theorem InnN.at {n : Nat} {W : World} {x : Value} {xs : List Int} (h : InnN n W x xs) : ∃ a c, x = .slice a xs.length c ∧ At W a xs ∧ xs.length ≤ maxLen := by
  obtain ⟨a, c, e, l, h⟩ := h
  refine ⟨a, c, e, ?_, l⟩
  rcases h with h | ⟨g, o, e', hlt, hc, h⟩
  · exact .inl h
  · exact .inr ⟨g, o, e', hlt, hc⟩
/-- A row of such slices. -/
def OwnN (n : Nat) (W : World) (B : Nat) (v : Value) (LL : List (List Int)) : Prop := ∃ vs : List Value, W.ownsRow B 22 1 v LL.length vs ∧ ∀ (j : Nat) (x : Value) (xs : List Int), vs[j]? = some x → LL[j]? = some xs → InnN n W x xs
theorem OwnN.get {n : Nat} {W : World} {B : Nat} {v : Value} {LL : List (List Int)} (h : OwnN n W B v LL) {k : Nat} {xs : List Int} (hk : LL[k]? = some xs) : ∃ g cap x, v = .slice (some ⟨g, 0, none⟩) LL.length cap ∧ B ≤ g ∧ g < W.heap.size ∧ W.cell? ⟨g, k, none⟩ = some x ∧ InnN n W x xs := by
  obtain ⟨vs, ho, hi⟩ := h
  rcases ho.2 with ⟨rfl, hn⟩ | ⟨g, cap, cur, rfl, hg, hh, hnc, hcm, hcs, ht⟩
  · have := (List.getElem?_eq_some_iff.1 hk).1; omega
  · have hlt : k < vs.length := by rw [ho.1, Nat.mul_one]; exact (List.getElem?_eq_some_iff.1 hk).1
    have hx := List.getElem?_eq_getElem hlt
    have hc := ho.cells (g := g) rfl k _ hx
    rw [addr0_add, Nat.zero_add] at hc
    exact ⟨g, cap, _, rfl, hg, (Array.getElem?_eq_some_iff.1 hh).1, hc, hi k _ xs hx hk⟩
theorem OwnN.at2 {n : Nat} {W : World} {B : Nat} {v : Value} {LL : List (List Int)} (h : OwnN n W B v LL) : ∃ a cap, v = .slice a LL.length cap ∧ At2 W a LL := by
  obtain ⟨vs, ho, hi⟩ := h
  rcases ho.2 with ⟨rfl, hn⟩ | ⟨g, cap, cur, rfl, hg, hh, hnc, hcm, hcs, ht⟩
  · have : LL = [] := List.eq_nil_of_length_eq_zero hn
    subst this
    exact ⟨none, 0, rfl, .inl rfl⟩
  · refine ⟨some ⟨g, 0, none⟩, cap, rfl, .inr ⟨g, 0, rfl, (Array.getElem?_eq_some_iff.1 hh).1, fun k xs hk => ?_⟩⟩
    have hlt : k < vs.length := by rw [ho.1, Nat.mul_one]; exact (List.getElem?_eq_some_iff.1 hk).1
    have hx := List.getElem?_eq_getElem hlt
    obtain ⟨a, c, e, h1, h2⟩ := (hi k _ xs hx hk).at
    have hc := ho.cells (g := g) rfl k _ hx
    rw [addr0_add, e] at hc
    exact ⟨a, c, hc, h1, h2⟩
theorem OwnN.kept {n : Nat} {W W' : World} {B : Nat} {v : Value} {LL : List (List Int)} (h : OwnN n W B v LL) (hz : W.heap.size ≤ W'.heap.size) (h0 : ∀ k, v.ownBlock = some k → W'.heap[k]? = W.heap[k]?) (h1 : ∀ j, j < n → W'.heap[j]? = W.heap[j]?) (h2 : ∀ (g : Nat) (cs : Array Value), W.heap[g]? = some (.cells cs 3 (0, 0)) → W'.heap[g]? = W.heap[g]?) : OwnN n W' B v LL := by
  obtain ⟨vs, ho, hi⟩ := h
  exact ⟨vs, own_same ho h0, fun j x xs a b => (hi j x xs a b).kept hz h1 h2⟩
theorem OwnN.below {n : Nat} {W W' : World} {B : Nat} {v : Value} {LL : List (List Int)} (h : OwnN n W B v LL) (hb : Below W.heap.size W W') (hn : n ≤ W.heap.size) : OwnN n W' B v LL :=
  h.kept hb.size (fun k hk => by obtain ⟨vs, ho, -⟩ := h; exact hb.block k (World.ownsRow.lt ho k hk).2) (fun j hj => hb.block j (by omega)) (fun g cs hg => hb.block g (Array.getElem?_eq_some_iff.1 hg).1)

end Go.Proofs.YtgfpjfiikajadaaDoor
namespace Go.Proofs.YtgfpjfiikajadaaDoor
open Go.RowKit
set_option linter.unusedVariables false

/-- An inner slice, and nil has no room. -/
def InnW (n : Nat) (W : World) (x : Value) (xs : List Int) : Prop := InnN n W x xs ∧ ∀ (m c : Nat), x = .slice none m c → c = 0
theorem InnW.kept {n : Nat} {W W' : World} {x : Value} {xs : List Int} (h : InnW n W x xs) (hz : W.heap.size ≤ W'.heap.size) (h1 : ∀ j, j < n → W'.heap[j]? = W.heap[j]?) (h2 : ∀ (g : Nat) (cs : Array Value), W.heap[g]? = some (.cells cs 3 (0, 0)) → W'.heap[g]? = W.heap[g]?) : InnW n W' x xs := ⟨h.1.kept hz h1 h2, h.2⟩
theorem InnW.below {n : Nat} {W W' : World} {x : Value} {xs : List Int} (h : InnW n W x xs) (hb : Below W.heap.size W W') (hn : n ≤ W.heap.size) : InnW n W' x xs :=
  h.kept hb.size (fun j hj => hb.block j (by omega)) (fun g cs hg => hb.block g (Array.getElem?_eq_some_iff.1 hg).1)
theorem InnW.of_own {n : Nat} {W : World} {B : Nat} {v : Value} {xs : List Int} (h : Own W B v xs) : InnW n W v xs := by
  refine ⟨InnN.of_own h, fun m c e => ?_⟩
  obtain ⟨a, cap, e1, -, -, -, e2⟩ := h.at2
  rw [e1] at e
  cases e
  exact e2 rfl
theorem InnW.at {n : Nat} {W : World} {x : Value} {xs : List Int} (h : InnW n W x xs) : ∃ a c, x = .slice a xs.length c ∧ At W a xs ∧ xs.length ≤ maxLen ∧ (a = none → c = 0) := by
  obtain ⟨a, c, e, h1, h2⟩ := h.1.at
  exact ⟨a, c, e, h1, h2, fun hn => h.2 _ c (by rw [e, hn])⟩
theorem InnW.one {n : Nat} {W : World} {x : Value} {xs : List Int} (h : InnW n W x xs) : x.oneCell' = true := by
  obtain ⟨a, c, rfl, -⟩ := h.at; rfl

theorem at_onew (W : World) (x : Int) : At (W.alloc (.cells #[.int .i64 x] 3)) (some ⟨W.heap.size, 0, none⟩) [x] := by
  refine .inr ⟨_, _, rfl, by simp, fun j hj => ?_⟩
  have : j = 0 := by simpa using hj
  subst this
  rw [World.cell?_alloc_at _ _ _ _ rfl]; rfl
theorem innW_at {w W : World} {a : Option Addr} {c : Nat} {xs : List Int} (h : At w a xs) (hl : xs.length ≤ maxLen) (hn : a = none → c = 0) (hb : Below w.heap.size w W) : InnW w.heap.size W (.slice a xs.length c) xs :=
  ⟨InnN.of_at h hl hb, fun m c' e => by cases e; exact hn rfl⟩
theorem innW_nil (n : Nat) (W : World) : InnW n W (.slice none 0 0) [] := ⟨⟨none, 0, rfl, Nat.zero_le _, .inl rfl⟩, fun m c e => by cases e; rfl⟩

end Go.Proofs.YtgfpjfiikajadaaDoor
namespace Go.Proofs.YtgfpjfiikajadaaDoor
open Go.RowKit
set_option linter.unusedVariables false

theorem Tryd.infoKnown : (Tryd.prog.info? 110).map (fun i => (i.zero, i.size, i.bytes)) = some (some (.agg #[.slice none 0 0, .slice none 0 0]), 2, 48) := by kernel_rfl

theorem cells_duo (W W' : World) (hW : W'.heap = W.heap) (t : TypeId) (x y : Value) : ∀ j u, ([x, y] : List Value)[j]? = some u → (W'.alloc (.cells #[x, y] t)).cell? ((⟨W.heap.size, 0, none⟩ : Addr).add j) = some u := by
  intro j u hu
  rw [addr0_add, Nat.zero_add, ← hW]
  exact (Blk.new W' t #[x, y]).cell j (by rw [← Array.getElem?_toList]; exact hu)
/-- What is known: a row, and a list that leads to it. -/
abbrev Kno := List Int × List Int
def kns : List Kno → List (List Int)
  | [] => []
  | p :: r => p.1 :: p.2 :: kns r
theorem kns_len : ∀ L : List Kno, (kns L).length = L.length * 2
  | [] => rfl
  | a :: r => by simp only [kns, List.length_cons, kns_len r]; omega
theorem kns_append : ∀ L M : List Kno, kns (L ++ M) = kns L ++ kns M
  | [], M => rfl
  | a :: r, M => by simp only [List.cons_append, kns, kns_append r M]
theorem kns_at : ∀ {L : List Kno} {k : Nat} {p : Kno}, L[k]? = some p → (kns L)[k * 2]? = some p.1 ∧ (kns L)[k * 2 + 1]? = some p.2
  | [], k, p, h => by simp at h
  | a :: r, 0, p, h => by
    have : a = p := by simpa using h
    subst this; simp [kns]
  | a :: r, k + 1, p, h => by
    have := kns_at (L := r) (k := k) (p := p) (by simpa using h)
    rw [show (k + 1) * 2 = k * 2 + 1 + 1 by omega]
    simpa [kns] using this
/-- Their cells. -/
def CellsK (w : World) (b off : Nat) (L : List Kno) : Prop := ∀ (k : Nat) (p : Kno), L[k]? = some p → ∃ xa xc za zc,
  w.cell? ⟨b, off + k * 2, none⟩ = some (.slice xa p.1.length xc) ∧ w.cell? ⟨b, off + k * 2 + 1, none⟩ = some (.slice za p.2.length zc) ∧
  At w xa p.1 ∧ p.1.length ≤ maxLen ∧ At w za p.2 ∧ p.2.length ≤ maxLen
theorem cellsK_below {w w' : World} {b off : Nat} {L : List Kno} (h : CellsK w b off L) (hb : Below w.heap.size w w') (hl : b < w.heap.size) : CellsK w' b off L := fun k x hx => by
  obtain ⟨xa, xc, za, zc, c1, c2, q1, q2, q3, q4⟩ := h k x hx
  exact ⟨xa, xc, za, zc, (hb.cell (p := ⟨b, off + k * 2, none⟩) hl).trans c1, (hb.cell (p := ⟨b, off + k * 2 + 1, none⟩) hl).trans c2, q1.below hb (Nat.le_refl _), q2, q3.below hb (Nat.le_refl _), q4⟩
theorem knownK_hit {L : List Kno} {k : Nat} {p : Kno} {x : List Int} (h : Hid (L[k]? = some p)) (h1 : Hid (sameB p.1 x = true)) : true = knownB L x := by
  have h1 : p.1 = x := by have := h1.out; simpa [sameB] using this
  exact ((knownB_iff _ _).2 ⟨p, List.mem_of_getElem? h.out, h1⟩).symm
/-- None of the first k is. -/
def noneK (L : List Kno) (k : Nat) (x : List Int) : Prop := ∀ (j : Nat) (p : Kno), j < k → L[j]? = some p → p.1 ≠ x
theorem noneK_succ {L : List Kno} {k : Nat} {p : Kno} {x : List Int} (h0 : Hid (noneK L k x)) (h : Hid (L[k]? = some p)) (h1 : Hid (sameB p.1 x = false)) : Hid (noneK L (k + 1) x) := fun j q hj hq => by
  by_cases e : j < k
  · exact h0.out j q e hq
  · have : j = k := by omega
    subst this
    rw [h.out] at hq
    have := Option.some.inj hq
    subst this
    intro e
    have := h1.out
    simp [sameB, e] at this
theorem noneK_end {L : List Kno} {k : Nat} {x : List Int} (h0 : Hid (noneK L k x)) (h : ¬ k < L.length) : false = knownB L x := by
  cases hk : knownB L x with
  | false => rfl
  | true =>
    obtain ⟨p, hp, e⟩ := (knownB_iff _ _).1 hk
    obtain ⟨i, hi⟩ := List.mem_iff_getElem?.1 hp
    exact absurd e (h0.out i p (Nat.lt_of_lt_of_le (List.getElem?_eq_some_iff.1 hi).1 (by omega)) hi)

set_option maxHeartbeats 2000000 in
theorem rhas_some (ba oa ca : Nat) (xa : Option Addr) (xc : Nat) (L : List Kno) (x : List Int) (w : World) (hl : L.length ≤ 9223372036854775807) (hca : Hid (CellsK w ba oa L)) (hx : Hid (At w xa x)) (hxl : Hid (x.length ≤ maxLen)) :
    Calls Tryd.prog 81 #[.slice (some ⟨ba, oa, none⟩) L.length ca, .slice xa x.length xc] w fun e w' => e = .returned (.bool (knownB L x)) ∧ ∃ q, w' = w.drewN q := by
  go_enter Tryd.func81, Tryd.ntmps81
  go_wp2
  go_loopw [5] (fun i wr => ∃ k q : Nat, k ≤ L.length ∧ i = .int .i64 k ∧ wr = w.drewN q ∧ Hid (noneK L k x)) (fun i _ => L.length - (intOf i).toNat)
  case atStart => exact ⟨0, 0, Nat.zero_le _, rfl, rfl, fun j p hj => by omega⟩
  case round =>
    obtain ⟨k, q, hk, rfl, rfl, he⟩ := hrel
    by_cases hlt : k < L.length
    · obtain ⟨p, HX⟩ : ∃ p, Hid (L[k]? = some p) := ⟨_, List.getElem?_eq_getElem hlt⟩
      obtain ⟨pa, pc, za, zc, c1, -, a1, l1, -, -⟩ := hca.out k p HX.out
      obtain ⟨V, HV⟩ : ∃ V, Hid (V = w.drewN q) := ⟨_, rfl⟩
      replace c1 : V.cell? ⟨ba, oa + k * 2, none⟩ = some (.slice pa p.1.length pc) := by rw [HV.out]; exact c1
      have KEY : Hid (Calls Tryd.prog 17 #[.slice pa p.1.length pc, .slice xa x.length xc] V fun e w' => e = .returned (.bool (sameB p.1 x)) ∧ ∃ r, w' = V.drewN r) := by
        rw [HV.out]; exact same_any pa xa pc xc p.1 x _ (At.drewN a1 q) (At.drewN hx.out q) l1 hxl.out
      rw [← HV.out]
      clear a1 l1
      go_wp2_with fail
      refine KEY.out.mono ?_
      rintro e V' ⟨rfl, r, rfl⟩
      have HVr : Hid (V.drewN r = w.drewN (q + r)) := by show _ = _; rw [HV.out, World.drewN_drewN]
      rw [HVr.out]
      clear KEY c1 HVr
      cases hxy : sameB p.1 x with
      | true =>
        have HXY := Hid.of hxy
        clear hxy
        go_wp2
        go_ret
        exact ⟨ret_bool (knownK_hit HX HXY), _, rfl⟩
      | false =>
        have HXZ := Hid.of hxy
        clear hxy
        go_wp2
        go_roundw
        case rel => exact ⟨k + 1, _, by omega, by go_num, rfl, noneK_succ he HX HXZ⟩
        case measure => simp [intOf]; omega
    · go_wp2
      go_ret
      exact ⟨ret_bool (noneK_end he hlt), q, rfl⟩

/-- A slice of what is known, of the call's own. -/
def OwnKn (n : Nat) (W : World) (B : Nat) (v : Value) (L : List Kno) : Prop := ∃ vs : List Value, W.ownsRow B 110 2 v L.length vs ∧ ∀ (j : Nat) (x : Value) (xs : List Int), vs[j]? = some x → (kns L)[j]? = some xs → InnW n W x xs
theorem OwnKn.cells {n : Nat} {W : World} {B : Nat} {v : Value} {L : List Kno} (h : OwnKn n W B v L) (hL : 0 < L.length) : ∃ g cap, v = .slice (some ⟨g, 0, none⟩) L.length cap ∧ B ≤ g ∧ g < W.heap.size ∧ L.length ≤ maxLen ∧
    ∀ (k : Nat) (p : Kno), L[k]? = some p → ∃ x z, W.cell? ⟨g, 0 + k * 2, none⟩ = some x ∧ W.cell? ⟨g, 0 + k * 2 + 1, none⟩ = some z ∧ InnW n W x p.1 ∧ InnW n W z p.2 := by
  obtain ⟨vs, ho, hi⟩ := h
  rcases ho.2 with ⟨rfl, hn⟩ | ⟨g, cap, cur, rfl, hg, hh, hnc, hcm, hcs, ht⟩
  · omega
  · refine ⟨g, cap, rfl, hg, (Array.getElem?_eq_some_iff.1 hh).1, Nat.le_trans hnc hcm, fun k p hp => ?_⟩
    have hk := (List.getElem?_eq_some_iff.1 hp).1
    have hl := ho.1
    obtain ⟨p1, p3⟩ := kns_at hp
    have hx := List.getElem?_eq_getElem (l := vs) (i := k * 2) (by omega)
    have hz := List.getElem?_eq_getElem (l := vs) (i := k * 2 + 1) (by omega)
    have c1 := ho.cells (g := g) rfl _ _ hx
    have c3 := ho.cells (g := g) rfl _ _ hz
    rw [addr0_add] at c1 c3
    exact ⟨_, _, c1, c3, hi _ _ _ hx p1, hi _ _ _ hz p3⟩
theorem OwnKn.cellsK {n : Nat} {W : World} {B : Nat} {v : Value} {L : List Kno} (h : OwnKn n W B v L) (hL : 0 < L.length) : ∃ g cap, v = .slice (some ⟨g, 0, none⟩) L.length cap ∧ B ≤ g ∧ g < W.heap.size ∧ L.length ≤ maxLen ∧ CellsK W g 0 L := by
  obtain ⟨g, cap, e, h1, h2, h3, hc⟩ := h.cells hL
  refine ⟨g, cap, e, h1, h2, h3, fun k p hp => ?_⟩
  obtain ⟨x, z, c1, c3, i1, i3⟩ := hc k p hp
  obtain ⟨xa, xc, rfl, x1, x2, -⟩ := i1.at
  obtain ⟨za, zc, rfl, z1, z2, -⟩ := i3.at
  exact ⟨xa, xc, za, zc, c1, c3, x1, x2, z1, z2⟩
theorem OwnKn.below {n : Nat} {W W' : World} {B : Nat} {v : Value} {L : List Kno} (h : OwnKn n W B v L) (hb : Below W.heap.size W W') (hn : n ≤ W.heap.size) : OwnKn n W' B v L := by
  obtain ⟨vs, ho, hi⟩ := h
  exact ⟨vs, own_same ho (fun k hk => hb.block k (World.ownsRow.lt ho k hk).2), fun j x xs a b => (hi j x xs a b).below hb hn⟩

/-- What Forward knows of the memory. -/
structure KF (w W : World) (p : Plant) (P : PTL) (v : Value) (L : List Kno) : Prop where
  bel : Below w.heap.size w W
  kp : Blk W w.heap.size 50 (ptcells p P)
  ow : OwnKn w.heap.size W (w.heap.size + 1) v L
  hB : w.heap.size + 1 ≤ W.heap.size
section
variable {w W : World} {p : Plant} {P : PTL} {v : Value} {L : List Kno}
theorem KF.below {W' : World} (h : KF w W p P v L) (hb : Below W.heap.size W W') : KF w W' p P v L :=
  ⟨h.bel.trans (hb.mono h.bel.size), h.kp.below hb h.kp.lt, h.ow.below hb h.bel.size, Nat.le_trans h.hB hb.size⟩
/-- One more. -/
theorem KF.push {W2 W3 : World} {v' x z : Value} {r : Kno} {vs : List Value} (h : KF w W p P v L) (hW3 : Below W.heap.size W W3) (ho : W3.ownsRow (w.heap.size + 1) 110 2 v L.length vs) (hi : ∀ (j : Nat) (x : Value) (xs : List Int), vs[j]? = some x → (kns L)[j]? = some xs → InnW w.heap.size W3 x xs) (hx : InnW w.heap.size W3 x r.1) (hz : InnW w.heap.size W3 z r.2) (o1 : W2.ownsRow (w.heap.size + 1) 110 2 v' (L.length + 1) (vs ++ [x, z])) (g : W3.grownBy W2 v.ownBlock) :
    KF w W2 p P v' (L ++ [r]) := by
  have h3 := h.below hW3
  have low : ∀ j, j < w.heap.size + 1 → W2.heap[j]? = W3.heap[j]? := fun j hj => g.block j (Nat.lt_of_lt_of_le hj h3.hB) (fun e => by have := (World.ownsRow.lt ho j e.symm).1; omega)
  have hty : ∀ (q : Nat) (cs : Array Value) (t : TypeId), t ≠ 110 → W3.heap[q]? = some (.cells cs t (0, 0)) → W2.heap[q]? = W3.heap[q]? := fun q cs t ht hq => g.block q (Array.getElem?_eq_some_iff.1 hq).1 (fun e => by
    obtain ⟨c2, h2⟩ := own_type ho e.symm
    rw [hq] at h2; cases h2; exact ht rfl)
  have kp : ∀ {y : Value} {ys : List Int}, InnW w.heap.size W3 y ys → InnW w.heap.size W2 y ys := fun hy => hy.kept g.size (fun j hj => low j (by omega)) (fun q cs hq => hty q cs _ (by decide) hq)
  refine ⟨h3.bel.grown g h3.bel.size (fun j hj => Nat.le_trans (by omega) (World.ownsRow.lt ho j hj).1), (low _ (by omega)).trans h3.kp, ?_, Nat.le_trans h3.hB g.size⟩
  have hl : vs.length = L.length * 2 := ho.1
  refine ⟨vs ++ [x, z], by rw [List.length_append]; exact o1, fun j u us e1 e2 => ?_⟩
  rw [kns_append] at e2
  have hl2 := kns_len L
  by_cases hj : j < L.length * 2
  · rw [List.getElem?_append_left (by omega)] at e1
    rw [List.getElem?_append_left (by omega)] at e2
    exact kp (hi j u us e1 e2)
  · rw [List.getElem?_append_right (by omega)] at e1 e2
    rw [hl] at e1
    rw [hl2] at e2
    generalize j - L.length * 2 = i at e1 e2
    have e2' : [r.1, r.2][i]? = some us := e2
    match i, e1, e2' with
    | 0, e1, e2 =>
      have q1 : x = u := by simpa using e1
      have q2 : r.1 = us := by simpa using e2
      rw [← q1, ← q2]; exact kp hx
    | 1, e1, e2 =>
      have q1 : z = u := by simpa using e1
      have q2 : r.2 = us := by simpa using e2
      rw [← q1, ← q2]; exact kp hz
    | i + 2, e1, e2 => simp at e1
end
/-- What Forward and Backward hand back. -/
def KnoPost (w : World) (L : List Kno) (e : Ending) (w' : World) : Prop := ∃ v, e = .returned v ∧ OwnKn w.heap.size w' (w.heap.size + 1) v L ∧ Below w.heap.size w w'

end Go.Proofs.YtgfpjfiikajadaaDoor
