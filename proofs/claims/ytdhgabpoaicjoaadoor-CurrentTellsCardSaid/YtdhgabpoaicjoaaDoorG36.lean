/-
  slices.Reverse at lists of integers, as it lies in this program: the kit's laying.
  slices.Reverse at lists of integers, in our words.
  The walk of current.wordTo: the list by which a place was found.
  The walk of current.least.
  The walk of current.Estimate.
-/
import Derived.Test.YtdhgabpoaicjoaaDoorProg
import Derived.Shelf.Slices.Reverse
import Derived.Test.YtdhgabpoaicjoaaDoorG35
import Derived.Test.YtdhgabpoaicjoaaDoorG15
import Derived.Test.YtdhgabpoaicjoaaDoorG14
import Derived.Test.YtdhgabpoaicjoaaDoorG19
import Derived.Test.YtdhgabpoaicjoaaDoorG33
import Derived.Test.YtdhgabpoaicjoaaDoorG22
import Derived.Test.YtdhgabpoaicjoaaDoorG12
namespace Go.Proofs.YtdhgabpoaicjoaaDoor
open Go.Shelf

def Tryd.revI_ren : Go.Shelf.Ren := ⟨fun | 112 => 150 | n => n, fun | 28 => 22 | 3 => 3 | 4 => 4 | 0 => 0 | n => n, fun | n => n⟩
theorem Tryd.revI : Go.Proofs.Lays.n112 Tryd.prog Tryd.revI_ren := {
  mixed := by kernel_rfl
  f112 := Tryd.func150.trans (congrArg some (by kernel_rfl))
  t0 := Tryd.underlying0
  a0 := Tryd.isAgg0
  z0 := Tryd.sizeOf0
  v0 := Tryd.zeroValue0
  t3 := Tryd.underlying3
  a3 := Tryd.isAgg3
  z3 := Tryd.sizeOf3
  v3 := Tryd.zeroValue3
  t4 := Tryd.underlying4
  a4 := Tryd.isAgg4
  z4 := Tryd.sizeOf4
  v4 := Tryd.zeroValue4
  t28 := Tryd.underlying22
  a28 := Tryd.isAgg22
  z28 := Tryd.sizeOf22
  v28 := Tryd.zeroValue22 }

end Go.Proofs.YtdhgabpoaicjoaaDoor
namespace Go.Proofs.YtdhgabpoaicjoaaDoor
open Go.RowKit Go.Shelf Go.Lib Go.Sort
set_option linter.unusedVariables false

/-- A list of the call's own, reversed in place. -/
theorem revI_any (W : World) (B : Nat) (v : Value) (xs : List Int) (h : Own W B v xs) (hl : xs.length ≤ 17592186044416) :
    Calls Tryd.prog 150 #[v] W fun e W' => e = .returned (.tuple #[]) ∧ Own W' B v xs.reverse ∧ ∀ B0 w0, B0 ≤ B → Below B0 w0 W → Below B0 w0 W' := by
  have h' := h
  rcases h.2 with ⟨h0, h1⟩ | ⟨g, cap, cur, rfl, hg, hh, hnc, hcm, hcs, ht⟩
  · subst h0
    have hx : xs = [] := List.eq_nil_of_length_eq_zero h1
    subst hx
    refine (Any.slices_Reverse_int_empty Tryd.revI none 0 W).mono ?_
    rintro e W' ⟨rfl, rfl⟩
    exact ⟨rfl, h', fun _ _ _ h => h⟩
  · have hbk : g < W.heap.size := (Array.getElem?_eq_some_iff.1 hh).1
    have hH : Holds (Value.int .i64) W g 0 xs.toArray := fun j hj => by
      have hj' : j < xs.length := by simpa using hj
      have e1 : (cur.toList.take (xs.length * 1))[j]? = (xs.map (Value.int .i64))[j]? := by rw [ht]
      rw [List.getElem?_take_of_lt (by omega), Array.getElem?_toList, List.getElem?_map, List.getElem?_eq_getElem hj'] at e1
      refine ⟨?_, ?_⟩
      · simp [World.cell?, hh, e1, hj']
      · simp [World.frozen?, hh]
    refine (Any.slices_Reverse_int Tryd.revI g 0 cap xs W hH (by omega)).mono ?_
    rintro e W' ⟨rfl, n, rfl⟩
    have hSl : xs.reverse.length = xs.length := List.length_reverse
    refine ⟨rfl, ?_, ?_⟩
    · unfold Own
      rw [hSl]
      refine ⟨by simp, .inr ⟨g, cap, putCells (Value.int .i64) 0 xs.reverse.toArray cur, rfl, hg, ?_, hnc, hcm, by simp [putCells, hcs], ?_⟩⟩
      · rw [putRowI_heap, if_pos rfl]
        show Option.map _ (W.heap[g]?) = _
        rw [hh]; rfl
      · rw [Nat.mul_one, ← hSl]
        exact putI_take cur _ (by omega)
    · intro B0 w0 hB hb
      refine ⟨hb.os, hb.tape, hb.output, ?_, fun k hk => ?_⟩
      · refine Nat.le_trans hb.size ?_
        rw [size_putRow]; exact Nat.le_refl _
      · have hkg : g ≠ k := by omega
        rw [putRowI_heap, if_neg hkg]
        exact hb.block k hk

end Go.Proofs.YtdhgabpoaicjoaaDoor
namespace Go.Proofs.YtdhgabpoaicjoaaDoor
open Go.RowKit
set_option linter.unusedVariables false

set_option maxRecDepth 100000 in
set_option maxHeartbeats 4000000 in
theorem cwordTo_any (seen : List Int) (B : Nat) (v : Value) (L : List PlC) (l : List (List Int × List Int)) (s0 : List Int) (k : Nat) (x : List Int × List Int) (w : World) (hO : Hid (OwnC w B v L)) (hT : Hid (TrC seen L l)) (hd : Hid (l[0]? = some (s0, []))) (hll : Hid (L.length = l.length)) (hx : Hid (l[k]? = some x)) (hL : L.length ≤ 65536) :
    Calls Tryd.prog 124 #[v, .int .i64 k] w fun e w' => GivesO w (wordS seen x.2) e w' := by
  obtain ⟨j0, ji, jz0, jz1, jz2⟩ := info_parts Tryd.infoInt
  obtain ⟨va, vc, hv, -, -, -⟩ := own_form2 hO.out
  subst hv
  have hk : k < L.length := by have := (List.getElem?_eq_some_iff.1 hx.out).1; rw [hll.out]; exact this
  go_enter Tryd.func124, Tryd.ntmps124
  go_wp2
  go_loopw [1, 5] (fun i v5 wr => ∃ (j : Nat) (u : List Int), i = .int .i64 j ∧ u.length + j ≤ k ∧ Hid (Own wr w.heap.size v5 u) ∧ Hid (Below w.heap.size w wr) ∧ Hid (∃ y, l[j]? = some y ∧ wordS seen x.2 = wordS seen y.2 ++ u.reverse)) (fun i _ _ => (intOf i).toNat)
  case atStart => exact ⟨k, [], rfl, by simp, own_nil _ _, Below.refl _ _, ⟨x, hx.out, by simp⟩⟩
  case round =>
    obtain ⟨j, u, rfl, hju, HO, HB, HY⟩ := hrel
    obtain ⟨fa, fc, hfa, -, -, -⟩ := own_form2 HO.out
    subst hfa
    have hwz := HB.out.size
    by_cases hj : 0 < j
    · have hjl : j < L.length := by omega
      obtain ⟨p, HP⟩ : ∃ p, Hid (L[j]? = some p) := ⟨_, List.getElem?_eq_getElem hjl⟩
      obtain ⟨g, cap, hvg, hg1, hg2, hc⟩ := hO.out.cell HP.out
      cases hvg
      have d8 := (HB.out.cell (p := ⟨g, j * 6 + 4, none⟩) hg2).trans (hc 4 _ rfl)
      have d9 := (HB.out.cell (p := ⟨g, j * 6 + 5, none⟩) hg2).trans (hc 5 _ rfl)
      have HC8 := Hid.of (hc 4 _ rfl)
      clear hc
      have HN : Hid (p.fr < j ∧ ∃ y, l[p.fr]? = some y ∧ wordS seen x.2 = wordS seen y.2 ++ (u ++ [p.ev]).reverse) := by
        obtain ⟨h1, a, b, h2, h3, h4⟩ := hT.out j p hj HP.out
        obtain ⟨y, h5, h6⟩ := HY.out
        rw [h3] at h5
        have := Option.some.inj h5
        subst this
        exact ⟨h1, a, h2, by rw [h6, h4]; simp⟩
      have hf := HN.out.1
      obtain ⟨f, Hf⟩ : ∃ f, Hid (f = p.fr) := ⟨_, rfl⟩
      obtain ⟨ev, He⟩ : ∃ ev, Hid (ev = p.ev) := ⟨_, rfl⟩
      rw [← Hf.out, ← He.out] at HN
      rw [← Hf.out] at hf d8 HC8
      rw [← He.out] at d9
      go_wp2_with (at_builtin; refine wpList_append_block _ rfl (.tmp 13) (.tmp 19) 22 rfl w.heap.size 3 j0 (.int .i64 0) 1 8 Tryd.underlying22 ji jz0 jz1 jz2 rfl (by decide) _ _ _ rfl (World.ownsRow.alloc HO.out _) ⟨wr.heap.size, 0, none⟩ 1 1 [.int .i64 ev] rfl rfl (cell_one_new _ _ _) (by intro u hu; simp at hu; subst hu; rfl) (by decide) (by unfold maxLen; omega) (by omega) (by simp; omega) ?_)
      intro v9 w9 o9 g9 n9
      obtain ⟨q1, q2, q3⟩ := own_snoc HO.out HB.out hwz o9 g9
      have Q1 := Hid.of q1
      have Q2 := Hid.of q2
      have c8 := (Q2.out.cell (p := ⟨g, j * 6 + 4, none⟩) hg2).trans HC8.out
      clear q1 q2 q3 o9 g9 n9
      go_wp2_with fail
      go_roundw
      case rel => exact ⟨f, u ++ [ev], rfl, by simp; omega, Q1, Q2, Hid.of HN.out.2⟩
      case measure => simp [intOf]; omega
    · have hj0 : j = 0 := by omega
      subst hj0
      have HX : Hid (wordS seen x.2 = u.reverse) := by
        obtain ⟨y, h1, h2⟩ := HY.out
        rw [hd.out] at h1
        have := Option.some.inj h1
        subst this
        show wordS seen x.2 = u.reverse
        simpa [wordS] using h2
      have REV := Hid.of (revI_any wr w.heap.size (.slice fa u.length fc) u HO.out (by omega))
      go_wp2_with fail
      refine REV.out.mono ?_
      rintro e W2 ⟨rfl, r1, r2⟩
      have R1 := Hid.of r1
      have R2 := Hid.of (r2 _ _ (Nat.le_refl _) HB.out)
      clear r1 r2
      go_wp2
      exact bodyPost_ret (v := .slice fa u.length fc) (by simp [results, go_sem]) rfl ⟨_, rfl, by rw [HX.out]; exact R1.out, R2.out⟩

end Go.Proofs.YtdhgabpoaicjoaaDoor
namespace Go.Proofs.YtdhgabpoaicjoaaDoor
open Go.RowKit
set_option linter.unusedVariables false

theorem Tryd.infoPlaceC : (Tryd.prog.info? 151).map (fun i => (i.zero, i.size, i.bytes)) = some (some (.agg (pccells ⟨zeroS, 0, 0⟩).toArray), 6, 48) := by kernel_rfl

abbrev pc0 (S0 : Nat → Nat) : Array Value := #[.int .u64 (S0 0), .int .u64 (S0 1), .int .u64 (S0 2), .int .u64 (S0 3), .int .i64 0, .int .i64 0]
/-- What least leaves. -/
def CLeastPost (w : World) (o : Option (List Int)) (e : Ending) (w' : World) : Prop :=
  match o with
  | none => e = .returned (.tuple #[.slice none 0 0, .bool false]) ∧ Below w.heap.size w w'
  | some u => ∃ v, e = .returned (.tuple #[v, .bool true]) ∧ Own w' w.heap.size v u ∧ Below w.heap.size w w'
theorem below_mapC {B : Nat} {w W : World} (h : Below B w W) {br : Nat} (hb : B ≤ br) (o : Obj) : Below B w (setMap W br o) :=
  h.trans ⟨rfl, rfl, rfl, by rw [size_setMap]; exact Nat.le_refl _, fun j hj => heap_setMap_ne _ _ _ (by omega)⟩
theorem blk_mapC {W : World} {b br : Nat} {t : TypeId} {cs : Array Value} (h : Blk W b t cs) (hn : b ≠ br) (o : Obj) : Blk (setMap W br o) b t cs := (heap_setMap_ne W br o hn).trans h
/-- An event that is seen stands at its own place. -/
theorem place_nth {seen : List Int} (hi : Inc seen) {e : Nat} (he : e < seen.length) : placeN seen (seen[e]?.getD 0) = some e := by
  rw [List.getElem?_eq_getElem he, Option.getD_some]
  obtain ⟨j, hj⟩ := placeN_mem (List.getElem_mem he)
  have h1 := placeN_some hj
  obtain ⟨hl, h2⟩ := List.getElem?_eq_some_iff.1 h1
  have : j = e := by
    rcases Nat.lt_trichotomy j e with h | h | h
    · have := List.pairwise_iff_getElem.1 hi j e hl he h; omega
    · exact h
    · have := List.pairwise_iff_getElem.1 hi e j he hl h; omega
  rw [hj, this]
/-- Where a set leads to is what is known next. -/
theorem rep_see {p : Plant} (hp : mayP p = true) {S : Nat → Nat} {s : List Int} (hr : RepI S s) (hc : ClU p s) {e : Nat} (he : e < p.seen.length) : RepI (leadS p.seen.length (hideM p.m p.seen).arrows S e) (seeD p s e) := by
  obtain ⟨hm, z6, hrr, -⟩ := (mayP_iff p).1 hp
  have hmh := may_hide hm hrr (hide_small hm z6 hrr)
  have e1 : (hideM p.m p.seen).st = p.m.st := rfl
  have r1 := rep_lead (st := (hideM p.m p.seen).st) (ev := (p.seen.length : Int)) (e := (e : Int)) hr.1 (may_arrs hmh) (by omega) (by omega) (by omega)
  have r2 : Rep (leadS p.seen.length (hideM p.m p.seen).arrows S e) (stepL (hideM p.m p.seen).arrows s (e : Int)) := by simpa only [Int.toNat_natCast] using r1
  rw [hide_see hm hc he] at r2
  exact ⟨r2, (see_in hm s _).1⟩
theorem all_lt {p : Plant} {S : Nat → Nat} {s : List Int} (hr : RepI S s) (hc : ClU p s) : ∀ n ∈ allS S, n < p.m.st.toNat := fun n hn => by
  obtain ⟨m1, m2⟩ := (mem_allS S n).1 hn
  have := hc.1 (n : Int) ((hr.1.mem n m1).1 m2)
  omega

set_option maxRecDepth 100000 in
set_option maxHeartbeats 16000000 in
theorem cleast_any (p : Plant) (Pl : ML) (sa : Option Addr) (sc : Nat) (ta : Option Addr) (tc : Nat) (hp : Hid (mayP p = true)) (S0 : Nat → Nat) (hr0 : Hid (RepI S0 (wideL p.m.arrows p.seen p.m.starts))) (T : Nat → Nat) (hRT : Hid (Rep T p.secret)) (pl pp : Nat) (L0 : LB) (w : World) (hT : Hid (Tab w)) (hL : Hid (CL w pl pp L0 p ⟨Pl, sa, sc, ta, tc⟩)) :
    Calls Tryd.prog 85 #[sval S0, .slice sa p.seen.length sc, cleadV pl pp, sval T] w fun e w' => CLeastPost w (outC p) e w' := by
  obtain ⟨hm, z6, hrr, -⟩ := (mayP_iff p).1 hp.out
  have hz := mayB_size hm
  unfold sizeOk at hz
  have h8 : p.seen.length ≤ 8 := by have := row_short (by omega) (by omega) hrr; omega
  have h256 : p.m.st.toNat ≤ 256 := by omega
  have HI : Hid (Inc p.seen) := ((rowB_iff _ (by omega) _).1 hrr).1
  have HMM := Hid.of hm
  have HZ6 := Hid.of z6
  clear hz hrr hm z6
  obtain ⟨n8, HN8⟩ : ∃ n, Hid (n = p.seen.length) := ⟨_, rfl⟩
  obtain ⟨i0, hi, hz0, hz1, hz2⟩ := info_parts Tryd.infoPlaceC
  have hmm := @run_makeMap Tryd.prog
  have b0 : SB ((w.alloc (.cells (scells S0) 65)).alloc (.cells (scells T) 65)) w.heap.size S0 := (Blk.new w _ _).alloc _
  have KT : Hid (SB ((w.alloc (.cells (scells S0) 65)).alloc (.cells (scells T) 65)) (w.heap.size + 1) T) := by
    have := Blk.new (w.alloc (.cells (scells S0) 65)) 65 (scells T)
    rwa [World.size_alloc] at this
  have bel0 : Hid (Below w.heap.size w ((w.alloc (.cells (scells S0) 65)).alloc (.cells (scells T) 65))) := ((Below.refl _ _).alloc (Nat.le_refl _) _).alloc (by simp) _
  go_enter Tryd.func85, Tryd.ntmps85
  go_wp2_with fail
  revert b0 bel0 KT
  generalize ((w.alloc (.cells (scells S0) 65)).alloc (.cells (scells T) 65)) = V
  intro b0 KT bel0
  have hlV : Hid (w.heap.size + 1 < V.heap.size) := KT.out.lt
  refine Code.wp_mono (Q := regQ fun a' W' => ∃ (br : Nat) (vs r19 r20 r21 r22 r23 r24 r25 : Value), a' = { tmps := #[sval S0, .slice sa p.seen.length sc, cleadV pl pp, sval T, .pointer (some ⟨w.heap.size, 0, none⟩), undef, undef, .pointer (some ⟨w.heap.size + 1, 0, none⟩), .slice none 0 0, .bool false, vs, .map (some br), undef, undef, undef, undef, undef, undef, undef, r19, r20, r21, r22, r23, r24, r25, undef, undef, undef, undef, undef, undef, undef, undef, undef, undef, undef, undef, undef, undef, undef, undef, undef, undef, undef, undef, undef, undef, undef, undef, undef, undef, undef, undef, undef, undef, undef, undef, undef, undef, undef, undef, undef, undef, undef, undef, undef, undef, undef, undef, undef, undef], defers := [] } ∧ LCI V.heap.size W' br vs [⟨S0, 0, 0⟩] ∧ Below V.heap.size V W') ?aft ?reg
  case reg =>
    refine wp_region_held_drew (S := fun w' => w'.cell? ⟨w.heap.size, 0, none⟩ = some (.int .u64 (S0 0)) ∧ w'.cell? ⟨w.heap.size, 1, none⟩ = some (.int .u64 (S0 1)) ∧ w'.cell? ⟨w.heap.size, 2, none⟩ = some (.int .u64 (S0 2)) ∧ w'.cell? ⟨w.heap.size, 3, none⟩ = some (.int .u64 (S0 3))) (by kernel_rfl) b0.cells (fun hS0 => ?_)
    refine wpAnyH_take (i := 0) (v := sval S0) rfl (by kernel_rfl) (by kernel_rfl) (by kernel_rfl) (fun _ _ _ h => h) (Or.inl ⟨by kernel_rfl, fun w' hw' => by obtain ⟨q0, q1, q2, q3⟩ := hw'; go_simp⟩) hS0 ?_
    refine wpAnyH_take (i := 1) (v := .agg #[.int .u64 (S0 0), .int .u64 (S0 1), .int .u64 (S0 2), .int .u64 (S0 3), .int .i64 0, .int .i64 0]) rfl (by kernel_rfl) (by kernel_rfl) (by kernel_rfl) (fun _ _ _ h => h) (Or.inl ⟨by kernel_rfl, fun w' hw' => by obtain ⟨q0, q1, q2, q3⟩ := hw'; go_simp⟩) hS0 ?_
    refine wpAnyH_take (i := 4) (v := sval S0) rfl (by kernel_rfl) (by kernel_rfl) (by kernel_rfl) (fun _ _ _ h => h) (Or.inl ⟨by kernel_rfl, fun w' hw' => by obtain ⟨q0, q1, q2, q3⟩ := hw'; go_simp⟩) hS0 ?_
    refine wpAnyH_take (i := 5) (v := .agg #[]) rfl (by kernel_rfl) (by kernel_rfl) (by kernel_rfl) (fun _ _ _ h => h) (Or.inl ⟨by kernel_rfl, fun w' hw' => by obtain ⟨q0, q1, q2, q3⟩ := hw'; go_simp⟩) hS0 ?_
    simp only [Act.put, List.setIfInBounds_toArray]
    refine wpAnyH_ready (rs := [2, 3]) (by kernel_rfl) (by simp) ?_
    refine AllReadyH.cons rfl (fun K' hK' => ?_) (AllReadyH.cons rfl (fun K' hK' => ?_) AllReadyH.nil)
    · go_simp
      refine hK'.out _ _ (SB.cells (Blk.drew (b0.alloc _))) (fun hS1 => ?_)
      clear hK' K'
      refine wpAnyH_take (i := 8) (v := .slice (some ⟨V.heap.size, 0, none⟩) 1 1) rfl (by kernel_rfl) (by kernel_rfl) (by kernel_rfl) (fun _ _ _ h => h) (Or.inl ⟨by kernel_rfl, fun w' hw' => by obtain ⟨q0, q1, q2, q3⟩ := hw'; go_simp⟩) hS1 ?_
      refine wpAnyH_ready (rs := [3]) (by kernel_rfl) (by simp) ?_
      refine AllReadyH.cons rfl (fun K' hK' => ?_) AllReadyH.nil
      go_simp
      refine hK'.out _ _ (SB.cells (Blk.drew ((b0.alloc _).alloc _))) (fun hS2 => ?_)
      clear hK' K'
      refine wpAnyH_ready (rs := [6]) (by kernel_rfl) (by simp) ?_
      refine AllReadyH.cons rfl (fun K' hK' => ?_) AllReadyH.nil
      have hmp : ((V.alloc (.cells (pc0 S0) 151)).alloc (.map #[] 0)).heap[V.heap.size + 1]? = some (.map #[] 0) := by
        have := World.alloc_heap_new (V.alloc (.cells (pc0 S0) 151)) (.map #[] 0)
        rwa [World.size_alloc] at this
      have hu := updC_first (p := ⟨S0, 0, 0⟩) hr0.out (w := ((V.alloc (.cells (pc0 S0) 151)).alloc (.map #[] 0)).drew) (r := V.heap.size + 1) hmp
      go_simp
      refine hK'.out _ _ (SB.cells (blk_mapC (b := w.heap.size) (br := V.heap.size + 1) (Blk.drew ((b0.alloc _).alloc _)) (by have := hlV.out; omega) _)) (fun hS3 => ?_)
      clear hK' K'
      refine wpAnyH_take (i := 7) (v := .map (some (V.heap.size + 1))) rfl (by kernel_rfl) (by kernel_rfl) (by kernel_rfl) (fun _ _ _ h => h) (Or.inl ⟨by kernel_rfl, fun w' hw' => by obtain ⟨q0, q1, q2, q3⟩ := hw'; go_simp⟩) hS3 ?_
      refine wpAnyH_take (i := 9) (v := .map (some (V.heap.size + 1))) rfl (by kernel_rfl) (by kernel_rfl) (by kernel_rfl) (fun _ _ _ h => h) (Or.inl ⟨by kernel_rfl, fun w' hw' => by obtain ⟨q0, q1, q2, q3⟩ := hw'; go_simp⟩) hS3 ?_
      refine wpAnyH_done (by kernel_rfl) ?_ _
      have ho : OwnC ((V.alloc (.cells (pc0 S0) 151)).alloc (.map #[] 0)).drew V.heap.size (.slice (some ⟨V.heap.size, 0, none⟩) 1 1) [⟨S0, 0, 0⟩] := World.ownsRow.alloc (ownC_one V ⟨S0, 0, 0⟩ V.heap.size (Nat.le_refl _)) (.map #[] 0)
      exact ⟨V.heap.size + 1, .slice (some ⟨V.heap.size, 0, none⟩) 1 1, _, _, _, _, _, _, _, rfl, lci_first ho hmp (by omega), below_mapC ((((Below.refl _ V).alloc (Nat.le_refl _) _).alloc (by simp) _).drew) (by omega) _⟩
    · go_simp
      refine hK'.out _ _ (SB.cells (Blk.drew (b0.alloc _))) (fun hS1 => ?_)
      clear hK' K'
      refine wpAnyH_ready (rs := [2, 6]) (by kernel_rfl) (by simp) ?_
      refine AllReadyH.cons rfl (fun K' hK' => ?_) (AllReadyH.cons rfl (fun K' hK' => ?_) AllReadyH.nil)
      · go_simp
        refine hK'.out _ _ (SB.cells (Blk.drew ((b0.alloc _).alloc _))) (fun hS2 => ?_)
        clear hK' K'
        refine wpAnyH_take (i := 8) (v := .slice (some ⟨V.heap.size + 1, 0, none⟩) 1 1) rfl (by kernel_rfl) (by kernel_rfl) (by kernel_rfl) (fun _ _ _ h => h) (Or.inl ⟨by kernel_rfl, fun w' hw' => by obtain ⟨q0, q1, q2, q3⟩ := hw'; go_simp⟩) hS2 ?_
        refine wpAnyH_ready (rs := [6]) (by kernel_rfl) (by simp) ?_
        refine AllReadyH.cons rfl (fun K' hK' => ?_) AllReadyH.nil
        have hmp : ((V.alloc (.map #[] 0)).alloc (.cells (pc0 S0) 151)).heap[V.heap.size]? = some (.map #[] 0) := by
          have := World.alloc_heap_new V (.map #[] 0)
          exact (Below.heap_alloc (V.alloc (.map #[] 0)) (.cells (pc0 S0) 151) _ (by rw [World.size_alloc]; omega)).trans this
        have hu := updC_first (p := ⟨S0, 0, 0⟩) hr0.out (w := ((V.alloc (.map #[] 0)).alloc (.cells (pc0 S0) 151)).drew) (r := V.heap.size) hmp
        go_simp
        refine hK'.out _ _ (SB.cells (blk_mapC (b := w.heap.size) (br := V.heap.size) (Blk.drew ((b0.alloc _).alloc _)) (by have := hlV.out; omega) _)) (fun hS3 => ?_)
        clear hK' K'
        refine wpAnyH_take (i := 7) (v := .map (some V.heap.size)) rfl (by kernel_rfl) (by kernel_rfl) (by kernel_rfl) (fun _ _ _ h => h) (Or.inl ⟨by kernel_rfl, fun w' hw' => by obtain ⟨q0, q1, q2, q3⟩ := hw'; go_simp⟩) hS3 ?_
        refine wpAnyH_take (i := 9) (v := .map (some V.heap.size)) rfl (by kernel_rfl) (by kernel_rfl) (by kernel_rfl) (fun _ _ _ h => h) (Or.inl ⟨by kernel_rfl, fun w' hw' => by obtain ⟨q0, q1, q2, q3⟩ := hw'; go_simp⟩) hS3 ?_
        refine wpAnyH_done (by kernel_rfl) ?_ _
        have ho : OwnC ((V.alloc (.map #[] 0)).alloc (.cells (pc0 S0) 151)).drew V.heap.size (.slice (some ⟨V.heap.size + 1, 0, none⟩) 1 1) [⟨S0, 0, 0⟩] := by
          have := ownC_one (V.alloc (.map #[] 0)) ⟨S0, 0, 0⟩ V.heap.size (by rw [World.size_alloc]; omega)
          rw [World.size_alloc] at this
          exact this
        exact ⟨V.heap.size, .slice (some ⟨V.heap.size + 1, 0, none⟩) 1 1, _, _, _, _, _, _, _, rfl, lci_first ho hmp (by omega), below_mapC ((((Below.refl _ V).alloc (Nat.le_refl _) _).alloc (by simp) _).drew) (by omega) _⟩
      · have hmp : (V.alloc (.map #[] 0)).heap[V.heap.size]? = some (.map #[] 0) := World.alloc_heap_new V (.map #[] 0)
        have hu := updC_first (p := ⟨S0, 0, 0⟩) hr0.out (w := (V.alloc (.map #[] 0)).drew) (r := V.heap.size) hmp
        go_simp
        refine hK'.out _ _ (SB.cells (blk_mapC (Blk.drew (b0.alloc _)) (by have := hlV.out; omega) _)) (fun hS2 => ?_)
        clear hK' K'
        refine wpAnyH_take (i := 7) (v := .map (some V.heap.size)) rfl (by kernel_rfl) (by kernel_rfl) (by kernel_rfl) (fun _ _ _ h => h) (Or.inl ⟨by kernel_rfl, fun w' hw' => by obtain ⟨q0, q1, q2, q3⟩ := hw'; go_simp⟩) hS2 ?_
        refine wpAnyH_ready (rs := [2]) (by kernel_rfl) (by simp) ?_
        refine AllReadyH.cons rfl (fun K' hK' => ?_) AllReadyH.nil
        have hsz : (setMap (V.alloc (.map #[] 0)).drew V.heap.size (.map (entsC [⟨S0, 0, 0⟩]) 1)).heap.size = V.heap.size + 1 := by rw [size_setMap]; show (V.alloc (.map #[] 0)).heap.size = _; rw [World.size_alloc]
        go_simp
        refine hK'.out _ _ (SB.cells (Blk.alloc (blk_mapC (Blk.drew (b0.alloc _)) (by have := hlV.out; omega) _) _)) (fun hS3 => ?_)
        clear hK' K'
        refine wpAnyH_take (i := 8) (v := .slice (some ⟨V.heap.size + 1, 0, none⟩) 1 1) rfl (by kernel_rfl) (by kernel_rfl) (by kernel_rfl) (fun _ _ _ h => h) (Or.inl ⟨by kernel_rfl, fun w' hw' => by obtain ⟨q0, q1, q2, q3⟩ := hw'; go_simp⟩) hS3 ?_
        refine wpAnyH_take (i := 9) (v := .map (some V.heap.size)) rfl (by kernel_rfl) (by kernel_rfl) (by kernel_rfl) (fun _ _ _ h => h) (Or.inl ⟨by kernel_rfl, fun w' hw' => by obtain ⟨q0, q1, q2, q3⟩ := hw'; go_simp⟩) hS3 ?_
        refine wpAnyH_done (by kernel_rfl) ?_ _
        have hf := lci_first2 (B := V.heap.size) (p := ⟨S0, 0, 0⟩) (W := setMap (V.alloc (.map #[] 0)).drew V.heap.size (.map (entsC [⟨S0, 0, 0⟩]) 1)) (br := V.heap.size) (heap_setMap _ _ (by show _ < (V.alloc (.map #[] 0)).heap.size; rw [World.size_alloc]; omega)) (Nat.le_refl _) (by omega)
        rw [hsz] at hf
        exact ⟨V.heap.size, .slice (some ⟨V.heap.size + 1, 0, none⟩) 1 1, _, _, _, _, _, _, _, rfl, hf, (below_mapC (((Below.refl _ V).alloc (Nat.le_refl _) _).drew) (Nat.le_refl _) _).alloc (by omega) _⟩
  case aft =>
    refine regQ_imp ?_
    rintro a' W' ⟨br, vs, r19, r20, r21, r22, r23, r24, r25, rfl, q1, q2⟩
    have Q1 := Hid.of q1
    have Q2 := Hid.of q2
    clear q1 q2 b0 hmm
    have HL0 : Hid (LC p 0 [(wideL p.m.arrows p.seen p.m.starts, [])]) := LC.start _
    have HR0 : Hid (RepCL [⟨S0, 0, 0⟩] [(wideL p.m.arrows p.seen p.m.starts, [])]) := RepCL.one hr0.out
    have HT0 : Hid (TrC p.seen [⟨S0, 0, 0⟩] [(wideL p.m.arrows p.seen p.m.starts, ([] : List Int))]) := TrC.one _ _ _
    go_wp2_with fail
    go_loopw [10, 12] (fun v10 i wr => ∃ (k : Nat) (l : List (List Int × List Int)) (L : List PlC), i = .int .i64 k ∧ k ≤ L.length ∧ L.length ≤ 64 ∧ Hid (LCI V.heap.size wr br v10 L) ∧ Hid (Below V.heap.size V wr) ∧ Hid (RepCL L l) ∧ Hid (TrC p.seen L l) ∧ Hid (LC p k l)) (fun _ i _ => 65 - (intOf i).toNat)
    case atStart => exact ⟨0, [(wideL p.m.arrows p.seen p.m.starts, [])], [⟨S0, 0, 0⟩], rfl, Nat.zero_le _, by simp, Q1, Q2, HR0, HT0, HL0⟩
    case round =>
      clear Q1 Q2 HR0 HT0 HL0
      obtain ⟨k, l, L, rfl, hk, h64, HF, HB, HR, HTr, HLO⟩ := hrel
      obtain ⟨va10, vc10, hv10, -, -, -⟩ := own_form2 HF.out.ss
      subst hv10
      have HLl := Hid.of HR.out.len
      by_cases hlt : k < L.length
      · obtain ⟨x, hx⟩ : ∃ x, Hid (l[k]? = some x) := ⟨_, List.getElem?_eq_getElem (by rw [← HLl.out]; exact hlt)⟩
        obtain ⟨q, hq, hrq⟩ := HR.out.at hx.out
        have HRP := Hid.of hrq
        have HCU := Hid.of (fwd_cl HMM.out HLO.out.bi (List.mem_of_getElem? hx.out)).1
        obtain ⟨g, cap, hv, hg1, hg2, hc⟩ := HF.out.ss.cell hq
        cases hv
        have c0 : wr.cell? ⟨g, k * 6, none⟩ = _ := hc 0 _ rfl
        have c1 := hc 1 _ rfl
        have c2 := hc 2 _ rfl
        have c3 := hc 3 _ rfl
        have c4 := hc 4 _ rfl
        have c5 := hc 5 _ rfl
        clear hq hrq hc
        have HOK : Hid (okS q.s) := HRP.out.1.ok
        have F1 : Hid (LCI V.heap.size (wr.alloc (.cells (pcarr q) 151)) br (.slice (some ⟨g, 0, none⟩) L.length vc10) L) := HF.out.below ((Below.refl _ _).alloc (Nat.le_refl _) _)
        have B1 : Hid (Below V.heap.size V (wr.alloc (.cells (pcarr q) 151))) := HB.out.alloc HB.out.size _
        have N1 : Hid (Blk (wr.alloc (.cells (pcarr q) 151)) wr.heap.size 151 (pcarr q)) := Blk.new wr _ _
        have G1 : Hid (g ≠ wr.heap.size) := Nat.ne_of_lt hg2
        have hltI : (k : Int) < (L.length : Int) := by omega
        have hltD : decide ((k : Int) < (L.length : Int)) = true := by simpa using hltI
        obtain ⟨n0, n1, n2, n3, n4, n5⟩ := PCk.cells N1.out
        obtain ⟨y0, y1, y2, y3⟩ := SB.cells (KT.out.below B1.out KT.out.lt)
        go_wp2_with fail
        clear c0 c1 c2 c3 c4 c5 n0 n1 n2 n3 n4 n5 y0 y1 y2 y3 HF HB hg2
        revert F1 B1 N1 G1
        generalize wr.alloc (.cells (pcarr q) 151) = V1
        generalize wr.heap.size = hp1
        intro F1 B1 N1 G1
        have LK := Hid.of (leaks_any q T V1 HOK.out hRT.out.ok)
        have HOUT : Hid (leakS q.s T = leakB p.secret x.1) := leak_set HRP.out.1 hRT.out
        refine LK.out.mono ?_
        rintro r V2 ⟨rfl, hb2⟩
        have F2 := Hid.of (F1.out.below hb2)
        have B2 := Hid.of (B1.out.trans (hb2.mono B1.out.size))
        have N2 := Hid.of (N1.out.below hb2 N1.out.lt)
        clear hb2 F1 B1 N1 LK
        cases hout : leakS q.s T with
        | true =>
          have HW : Hid (outC p = some (wordS p.seen x.2)) := HLO.out.found hx.out (by rw [← HOUT.out]; exact hout)
          have WT := Hid.of (cwordTo_any p.seen V.heap.size (.slice (some ⟨g, 0, none⟩) L.length vc10) L l _ k x V2 (Hid.of F2.out.ss) HTr (Hid.of HLO.out.bi.hd) HLl hx (by omega))
          clear hout HOUT
          go_wp2_with fail
          refine WT.out.mono ?_
          rintro r V3 ⟨vr, rfl, ov, hb3⟩
          have B3 := Hid.of (bel0.out.trans ((B2.out.trans (hb3.mono B2.out.size)).mono bel0.out.size))
          have OV := Hid.of (Own.low ov (Nat.le_trans bel0.out.size B2.out.size))
          clear ov hb3
          go_wp2
          refine bodyPost_ret (v := .tuple #[vr, .bool true]) (by simp [results, go_sem]) rfl ?_
          unfold CLeastPost
          rw [HW.out]
          exact ⟨vr, rfl, OV.out, B3.out⟩
        | false =>
          have HNO : Hid (leakB p.secret x.1 = false) := by show _ = _; rw [← HOUT.out]; exact hout
          clear hout HOUT
          have hbw := bel0.out.size
          go_wp2_with fail
          go_loopw [10, 44] (fun v10 i wr' => ∃ (e : Nat) (L1 : List PlC), i = .int .i64 e ∧ e ≤ p.seen.length ∧ Hid (LCI V.heap.size wr' br v10 L1) ∧ Hid (Below V.heap.size V wr') ∧ Hid (Blk wr' hp1 151 (pcarr q)) ∧ Hid (v10.ownBlock ≠ some hp1) ∧ Hid (RepCL L1 (bfRow (seeD p) x l e)) ∧ Hid (TrC p.seen L1 (bfRow (seeD p) x l e))) (fun _ i _ => p.seen.length - (intOf i).toNat)
          case atStart => exact ⟨0, L, rfl, Nat.zero_le _, F2, B2, N2, Hid.of (fun h => G1.out (by injection h)), HR, HTr⟩
          case round =>
            clear F2 B2 N2
            obtain ⟨e, L1, rfl, hee, HF, HB, HN, HNE1, HR1, HT1⟩ := hrel
            obtain ⟨va8, vc8, hv8, -, -, -⟩ := own_form2 HF.out.ss
            subst hv8
            obtain ⟨l1, HS1⟩ : ∃ l1, Hid (l1 = bfRow (seeD p) x l e) := ⟨_, rfl⟩
            have HBI : Hid (BI (seeD p) (wideL p.m.arrows p.seen p.m.starts) p.seen.length k e l1) := by
              have := bi_row (seeD p) HLO.out.bi hx.out e hee
              rw [← HS1.out] at this
              exact this
            have HBD : Hid (l1.length ≤ 64) := fwd_bound HMM.out HZ6.out HBI.out
            have HX1 : Hid (l1[k]? = some x) := by
              obtain ⟨t, ht⟩ := bfRow_pre (seeD p) x l e
              show _ = _
              rw [HS1.out, ht, List.getElem?_append_left (List.getElem?_eq_some_iff.1 hx.out).1]
              exact hx.out
            have HSuc : Hid (bfRow (seeD p) x l (e + 1) = bfStep (seeD p) x l1 e) := by show _ = _; rw [bfRow_succ, HS1.out]
            rw [← HS1.out] at HR1 HT1
            have HL1 := Hid.of HR1.out.len
            by_cases hle : e < p.seen.length
            · obtain ⟨bs, os, ev, rfl, HEV, HSC⟩ : ∃ (bs os : Nat) (ev : Int), sa = some ⟨bs, os, none⟩ ∧ Hid (ev = p.seen[e]?.getD 0) ∧ wr.cell? ⟨bs, os + e, none⟩ = some (.int .i64 ev) := by
                rcases hL.out.pt.s.at_ with h0 | ⟨bs, os, ha, hb, hc⟩
                · have : p.seen.length = 0 := by rw [h0]; rfl
                  omega
                · obtain ⟨ev, hev, hcell⟩ := hc.at hle
                  refine ⟨bs, os, ev, ha, hev, ?_⟩
                  exact ((bel0.out.trans (HB.out.mono bel0.out.size)).cell (p := ⟨bs, os + e, none⟩) hb).trans hcell
              have HPN : Hid (placeN p.seen ev = some e) := by show _ = _; rw [HEV.out]; exact place_nth HI.out hle
              have hcall := Hid.of (cwatch1_any p ⟨Pl, some ⟨bs, os, none⟩, sc, ta, tc⟩ q.s ev e HPN hle h8 h256 HOK (Hid.of (all_lt HRP.out HCU.out)) pl pp L0 wr (Hid.of (hT.out.below (bel0.out.trans (HB.out.mono bel0.out.size)) hT.out.lt)) (Hid.of (hL.out.kept (bel0.out.trans (HB.out.mono bel0.out.size)))))
              have hRep : Hid (RepI (leadS p.seen.length (hideM p.m p.seen).arrows q.s e) (seeD p x.1 e)) := rep_see hp.out HRP.out HCU.out hle
              obtain ⟨Q, HQ⟩ : ∃ Q, Hid (Q = leadS p.seen.length (hideM p.m p.seen).arrows q.s e) := ⟨_, rfl⟩
              obtain ⟨to, HTO⟩ : ∃ to, Hid (to = seeD p x.1 e) := ⟨_, rfl⟩
              rw [← HQ.out] at hcall hRep
              rw [← HTO.out] at hRep
              have HST : Hid (bfStep (seeD p) x l1 e = if knownB l1 to = true then l1 else l1 ++ [(to, x.2 ++ [(e : Int)])]) := by
                show _ = _
                unfold bfStep; rw [← HTO.out]
              obtain ⟨m0, m1, m2, m3, m4, m5⟩ := PCk.cells HN.out
              go_wp2_with fail
              refine hcall.out.mono ?_
              rintro r w1 ⟨rfl, hb1⟩
              have F1 : Hid (LCI V.heap.size (w1.alloc (.cells (scells Q) 65)) br (.slice va8 L1.length vc8) L1) := (HF.out.below hb1).below ((Below.refl _ _).alloc (Nat.le_refl _) _)
              have B1 : Hid (Below V.heap.size V (w1.alloc (.cells (scells Q) 65))) := (HB.out.trans (hb1.mono HB.out.size)).alloc (Nat.le_trans HB.out.size hb1.size) _
              have N1 : Hid (SB (w1.alloc (.cells (scells Q) 65)) w1.heap.size Q) := Blk.new w1 _ _
              have H1 : Hid (Blk (w1.alloc (.cells (scells Q) 65)) hp1 151 (pcarr q)) := Blk.alloc (HN.out.below hb1 HN.out.lt) _
              have HPL : Hid (hp1 < w1.heap.size) := Nat.lt_of_lt_of_le HN.out.lt hb1.size
              have hws : V.heap.size ≤ w1.heap.size := Nat.le_trans HB.out.size hb1.size
              clear hcall hb1 m0 m1 m2 m3 m4 m5 HF HB HN HSC
              obtain ⟨n0, n1, n2, n3⟩ := SB.cells N1.out
              cases hkn : knownB l1 to with
              | true =>
                have lk := lookC_known HR1.out hRep.out (w := w1.alloc (.cells (scells Q) 65)) (r := br) F1.out.mp hkn
                have HNX : Hid (bfRow (seeD p) x l (e + 1) = l1) := by show _ = _; rw [HSuc.out, HST.out, if_pos hkn]
                have F2 : Hid (LCI V.heap.size ((w1.alloc (.cells (scells Q) 65)).alloc (.cells #[] 140)) br (.slice va8 L1.length vc8) L1) := F1.out.below ((Below.refl _ _).alloc (Nat.le_refl _) _)
                have B2 : Hid (Below V.heap.size V ((w1.alloc (.cells (scells Q) 65)).alloc (.cells #[] 140))) := B1.out.alloc B1.out.size _
                have H2 : Hid (Blk ((w1.alloc (.cells (scells Q) 65)).alloc (.cells #[] 140)) hp1 151 (pcarr q)) := H1.out.alloc _
                clear hkn
                go_wp2_with fail
                go_roundw
                case rel => exact ⟨e + 1, L1, by go_num, by omega, F2, B2, H2, HNE1, (by show RepCL _ _; rw [HNX.out]; exact HR1.out), (by show TrC _ _ _; rw [HNX.out]; exact HT1.out)⟩
                case measure => simp [intOf]; omega
              | false =>
                have lk := lookC_new HR1.out hRep.out (w := w1.alloc (.cells (scells Q) 65)) (r := br) F1.out.mp hkn
                have HNX : Hid (bfRow (seeD p) x l (e + 1) = l1 ++ [(to, x.2 ++ [(e : Int)])]) := by show _ = _; rw [HSuc.out, HST.out, if_neg (by rw [hkn]; simp)]
                have F2 : Hid (LCI V.heap.size ((w1.alloc (.cells (scells Q) 65)).alloc (.cells #[] 140)) br (.slice va8 L1.length vc8) L1) := F1.out.below ((Below.refl _ _).alloc (Nat.le_refl _) _)
                have B2 : Hid (Below V.heap.size V ((w1.alloc (.cells (scells Q) 65)).alloc (.cells #[] 140))) := B1.out.alloc B1.out.size _
                have H2 : Hid (Blk ((w1.alloc (.cells (scells Q) 65)).alloc (.cells #[] 140)) hp1 151 (pcarr q)) := H1.out.alloc _
                have N2 : Hid (SB ((w1.alloc (.cells (scells Q) 65)).alloc (.cells #[] 140)) w1.heap.size Q) := N1.out.alloc _
                obtain ⟨k0, k1, k2, k3⟩ := SB.cells N2.out
                have hu := updC_new (p := ⟨Q, k, ev⟩) HR1.out hRep.out (w := ((w1.alloc (.cells (scells Q) 65)).alloc (.cells #[] 140))) (r := br) F2.out.mp hkn
                have hne : w1.heap.size ≠ br := fun e => by have hm := F2.out.mp; rw [← e, show _ = _ from N2.out] at hm; cases hm
                have HNE := Hid.of hne
                clear hne
                have NZ : Hid (SB (setMap ((w1.alloc (.cells (scells Q) 65)).alloc (.cells #[] 140)) br (.map (entsC (L1 ++ [⟨Q, k, ev⟩])) (L1.length + 1))) w1.heap.size Q) := blk_mapC N2.out HNE.out _
                obtain ⟨y0, y1, y2, y3⟩ := SB.cells NZ.out
                have hzs : (setMap ((w1.alloc (.cells (scells Q) 65)).alloc (.cells #[] 140)) br (.map (entsC (L1 ++ [⟨Q, k, ev⟩])) (L1.length + 1))).heap.size = w1.heap.size + 1 + 1 := by rw [size_setMap, World.size_alloc, World.size_alloc]
                have OZ : Hid (OwnC (setMap ((w1.alloc (.cells (scells Q) 65)).alloc (.cells #[] 140)) br (.map (entsC (L1 ++ [⟨Q, k, ev⟩])) (L1.length + 1))) V.heap.size (.slice va8 L1.length vc8) L1) := own_same F2.out.ss (fun j hj => heap_setMap_ne _ _ _ (fun e => F2.out.apart (by rw [hj, e])))
                have CF : Hid (∀ j v, (pccells ⟨Q, k, ev⟩)[j]? = some v → ((setMap ((w1.alloc (.cells (scells Q) 65)).alloc (.cells #[] 140)) br (.map (entsC (L1 ++ [⟨Q, k, ev⟩])) (L1.length + 1))).alloc (.cells (pccells ⟨Q, k, ev⟩).toArray 151)).cell? ((⟨w1.heap.size + 1 + 1, 0, none⟩ : Addr).add j) = some v) := by
                  have := cells_listC (setMap ((w1.alloc (.cells (scells Q) 65)).alloc (.cells #[] 140)) br (.map (entsC (L1 ++ [⟨Q, k, ev⟩])) (L1.length + 1))) (setMap ((w1.alloc (.cells (scells Q) 65)).alloc (.cells #[] 140)) br (.map (entsC (L1 ++ [⟨Q, k, ev⟩])) (L1.length + 1))) rfl 151 (pccells ⟨Q, k, ev⟩).toArray
                  rw [hzs] at this
                  exact this
                have hl1 : L1.length ≤ 64 := by rw [HL1.out]; exact HBD.out
                clear hkn
                go_wp2_with (at_builtin; refine wpList_append_block _ rfl (.tmp 64) (.tmp 69) 152 rfl V.heap.size 151 i0 _ 6 48 Tryd.underlying152 hi hz0 hz1 hz2 rfl (by decide) _ _ _ rfl (World.ownsRow.alloc OZ.out _) ⟨w1.heap.size + 1 + 1, 0, none⟩ 1 1 (pccells ⟨Q, k, ev⟩) rfl rfl CF.out (by intro u hu; simp [pccells] at hu; rcases hu with rfl | rfl | rfl | rfl | rfl | rfl <;> rfl) (by decide) (by unfold maxLen; omega) (by omega) (by rw [World.size_alloc, hzs]; omega) ?_)
                intro v7 w7 o7 g7 nn7
                obtain ⟨p1, p2⟩ := LCI.push F2.out B2.out ((Below.refl _ _).alloc (Nat.le_refl _) _) (own_plcC o7) g7 B2.out.size
                have p3 := LCI.keep HNE1.out F2.out ((Below.refl _ _).alloc (Nat.le_refl _) _) g7 H2.out
                have p4 := ne_append HNE1.out (by have := HPL.out; omega) nn7
                have P1 := Hid.of p1
                have P2 := Hid.of p2
                have P3 := Hid.of p3
                have P4 := Hid.of p4
                have HR7 : Hid (RepCL (L1 ++ [⟨Q, k, ev⟩]) (l1 ++ [(to, x.2 ++ [(e : Int)])])) := HR1.out.snoc hRep.out
                have HT7 : Hid (TrC p.seen (L1 ++ [⟨Q, k, ev⟩]) (l1 ++ [(to, x.2 ++ [(e : Int)])])) := HT1.out.snoc HL1.out HEV.out HX1.out to
                clear p1 p2 p3 p4 o7 g7 nn7 n0 n1 n2 n3 k0 k1 k2 k3 y0 y1 y2 y3 NZ OZ CF lk hu N1 F1 B1 H1 N2 F2 B2 H2 hzs
                go_wp2_with fail
                go_roundw
                case rel => exact ⟨e + 1, L1 ++ [⟨Q, k, ev⟩], by go_num, by omega, P1, P2, P3, P4, (by show RepCL _ _; rw [HNX.out]; exact HR7.out), (by show TrC _ _ _; rw [HNX.out]; exact HT7.out)⟩
                case measure => simp [intOf]; omega
            · have hev2 : e = p.seen.length := by omega
              have HLN : Hid (LC p (k + 1) l1) := by
                have := HLO.out.next hx.out HNO.out (by omega)
                have e2 : l1 = bfRow (seeD p) x l p.seen.length := by rw [HS1.out, hev2]
                rw [e2]; exact this
              have hl4 : L1.length ≤ 64 := by rw [HL1.out]; exact HBD.out
              have hk1 : k + 1 ≤ L1.length := by
                have := (List.getElem?_eq_some_iff.1 HX1.out).1
                rw [HL1.out]; omega
              clear hev2
              go_wp2_with fail
              go_roundw
              case rel => exact ⟨k + 1, l1, L1, by go_num, hk1, hl4, HF, HB, HR1, HT1, HLN⟩
              case measure => simp [intOf]; omega
      · have hltD : decide ((k : Int) < (L.length : Int)) = false := by simp; omega
        have hltI : ¬ (k : Int) < (L.length : Int) := by omega
        have HW : Hid (outC p = none) := HLO.out.not (by rw [← HLl.out]; omega)
        go_wp2
        refine bodyPost_ret (v := .tuple #[.slice none 0 0, .bool false]) (by simp [results, go_sem]) rfl ?_
        unfold CLeastPost
        rw [HW.out]
        exact ⟨rfl, bel0.out.trans (HB.out.mono bel0.out.size)⟩

end Go.Proofs.YtdhgabpoaicjoaaDoor
namespace Go.Proofs.YtdhgabpoaicjoaaDoor
open Go.RowKit
set_option linter.unusedVariables false

theorem rep_start {p : Plant} (hp : mayP p = true) : RepI (ofS (wideL p.m.arrows p.seen p.m.starts)) (wideL p.m.arrows p.seen p.m.starts) := by
  obtain ⟨hm, z6, -, -⟩ := (mayP_iff p).1 hp
  have h1 := wide_in (p := p) hm (may_starts hm).2
  have := rep_of (l := wideL p.m.arrows p.seen p.m.starts) (fun x hx => by have := h1.2 x hx; omega) (wideL p.m.arrows p.seen p.m.starts).length
  rw [List.take_of_length_le (Nat.le_refl _)] at this
  exact ⟨this, h1.1⟩
theorem allIn_eq (seen xs : List Int) : allIn seen xs = inSeen seen xs := by
  rw [Bool.eq_iff_iff, allIn_iff, inSeen_iff]
/-- What Estimate knows behind the first k events. -/
structure ES (p : Plant) (word : List Int) (k : Nat) (S : Nat → Nat) : Prop where
  rep : RepI S (estL p (word.take k))
theorem est_cl {p : Plant} (hm : mayB p.m = true) (u : List Int) : ClU p (estL p u) := clU_fold hm u _ (clU_start hm)
theorem est_snoc (p : Plant) (u : List Int) (e : Int) : estL p (u ++ [e]) = seeL p (estL p u) e := by
  unfold estL fromL
  rw [List.foldl_append]; rfl
theorem est_more (p : Plant) (hm : mayB p.m = true) (u v : List Int) (h : estL p u = []) : estL p (u ++ v) = [] := by
  unfold estL fromL at h ⊢
  rw [List.foldl_append, h]
  exact fold_nil hm v
theorem es_next {p : Plant} (hp : mayP p = true) {word : List Int} {k : Nat} {S : Nat → Nat} (h : ES p word k S) (hk : k < word.length) {ev : Int} (he : Hid (ev = word[k]?.getD 0)) {j : Nat} (hj : Hid (placeN p.seen ev = some j)) : ES p word (k + 1) (leadS p.seen.length (hideM p.m p.seen).arrows S j) := by
  obtain ⟨hm, -, -, -⟩ := (mayP_iff p).1 hp
  have h1 := placeN_some hj.out
  have hl := (List.getElem?_eq_some_iff.1 h1).1
  have h2 := rep_see hp h.rep (est_cl hm _) hl
  refine ⟨?_⟩
  have h3 : word[k]? = some ev := by rw [he.out, List.getElem?_eq_getElem hk, Option.getD_some]
  rw [List.take_add_one, h3, Option.toList_some, est_snoc]
  have h4 : seeD p (estL p (word.take k)) j = seeL p (estL p (word.take k)) ev := by unfold seeD; rw [h1, Option.getD_some]
  rw [← h4]; exact h2
/-- Nothing more is to be known: what Row answers. -/
theorem es_row {p : Plant} (hm : mayB p.m = true) {word : List Int} {k : Nat} {S : Nat → Nat} (h : ES p word k S) (hk : emptyB S = true ∨ word.length ≤ k) : rowS S = estL p word := by
  rw [rep_row h.rep.1 h.rep.2]
  rcases hk with he | hk
  · have := empty_yes h.rep.1 he
    rw [this]
    have e := est_more p hm (word.take k) (word.drop k) this
    rw [List.take_append_drop] at e
    exact e.symm
  · rw [List.take_of_length_le hk]

set_option maxRecDepth 100000 in
set_option maxHeartbeats 4000000 in
theorem est_bad (p : Plant) (P : PTL) (wa : Option Addr) (wc : Nat) (word : List Int) (w : World) (h : Hid (PAt w p P)) (hp : Hid (mayP p = false)) :
    Calls Tryd.prog 36 #[ptval p P, .slice wa word.length wc] w fun e w' => ListPost w (estOut p word) e w' := by
  have B : Hid (Below w.heap.size w (w.alloc (.cells (ptcells p P) 50))) := (Below.refl _ _).alloc (Nat.le_refl _) _
  have KP : Hid (Blk (w.alloc (.cells (ptcells p P) 50)) w.heap.size 50 (ptcells p P)) := Blk.new w _ _
  go_enter Tryd.func36, Tryd.ntmps36
  obtain ⟨x0, x1, x2, x3, x4, x5, x6⟩ := ptcell_at KP.out
  go_wp2_with fail
  clear x0 x1 x2 x3 x4 x5 x6
  revert B KP
  generalize (w.alloc (.cells (ptcells p P) 50)) = V0
  intro B KP
  refine (cwatch_bad p P V0 (Hid.of (h.out.below B.out (Nat.le_refl _))) hp).mono ?_
  rintro e V1 ⟨rfl, hb⟩
  replace B := Hid.of (B.out.trans (hb.mono B.out.size))
  clear hb KP
  have B2 : Hid (Below w.heap.size w (V1.alloc (.cells zs4 65))) := B.out.alloc B.out.size _
  clear B
  go_wp2_with fail
  refine bodyPost_ret (v := .tuple #[.slice none 0 0, .int .i64 2]) (by simp [results, go_sem]) rfl ?_
  rw [estOut_bad hp.out]
  exact ⟨none, 0, rfl, .inl rfl, Nat.zero_le _, B2.out⟩

set_option maxRecDepth 100000 in
set_option maxHeartbeats 16000000 in
theorem est_ok (p : Plant) (P : PTL) (wa : Option Addr) (wc : Nat) (word : List Int) (w : World) (h : Hid (PAt w p P)) (hw : Hid (At w wa word)) (hwl : Hid (word.length ≤ maxLen)) (hT : Hid (Tab w)) (hp : Hid (mayP p = true)) :
    Calls Tryd.prog 36 #[ptval p P, .slice wa word.length wc] w fun e w' => ListPost w (estOut p word) e w' := by
  obtain ⟨hm, z6, hrr, -⟩ := (mayP_iff p).1 hp.out
  have hz := mayB_size hm
  unfold sizeOk at hz
  have h8 : p.seen.length ≤ 8 := by have := row_short (by omega) (by omega) hrr; omega
  have h256 : p.m.st.toNat ≤ 256 := by omega
  have HMM := Hid.of hm
  have H8 := Hid.of h8
  have H256 := Hid.of h256
  clear hz hrr hm z6 h8 h256
  have B : Hid (Below w.heap.size w (w.alloc (.cells (ptcells p P) 50))) := (Below.refl _ _).alloc (Nat.le_refl _) _
  have KP : Hid (Blk (w.alloc (.cells (ptcells p P) 50)) w.heap.size 50 (ptcells p P)) := Blk.new w _ _
  go_enter Tryd.func36, Tryd.ntmps36
  obtain ⟨x0, x1, x2, x3, x4, x5, x6⟩ := ptcell_at KP.out
  go_wp2_with fail
  clear x0 x1 x2 x3 x4 x5 x6
  revert B KP
  generalize (w.alloc (.cells (ptcells p P) 50)) = V0
  intro B KP
  refine (cwatch_ok p P V0 (Hid.of (h.out.below B.out (Nat.le_refl _))) (Hid.of (hT.out.below B.out hT.out.lt)) hp).mono ?_
  rintro e V1 ⟨pl, pp, L0, rfl, cl, hb⟩
  replace B := Hid.of (B.out.trans (hb.mono B.out.size))
  replace KP := Hid.of (KP.out.below hb KP.out.lt)
  have HCL := Hid.of cl
  clear hb cl
  obtain ⟨Q, HQ⟩ : ∃ Q, Hid (Q = ofS (wideL p.m.arrows p.seen p.m.starts)) := ⟨_, rfl⟩
  have HRQ : Hid (RepI Q (wideL p.m.arrows p.seen p.m.starts)) := by rw [HQ.out]; exact rep_start hp.out
  rw [← HQ.out]
  have BV : Hid (Below V1.heap.size V1 (V1.alloc (.cells (scells Q) 65))) := (Below.refl _ _).alloc (Nat.le_refl _) _
  have KS : Hid (SB (V1.alloc (.cells (scells Q) 65)) V1.heap.size Q) := Blk.new V1 _ _
  obtain ⟨x0, x1, x2, x3, x4, x5, x6⟩ := ptcell_at (KP.out.below BV.out KP.out.lt)
  obtain ⟨y0, y1, y2, y3⟩ := SB.cells KS.out
  go_wp2_with fail
  clear x0 x1 x2 x3 x4 x5 x6 y0 y1 y2 y3
  revert BV KS
  generalize V1.alloc (.cells (scells Q) 65) = V2
  intro BV KS
  refine (cisSeen_any p P wa wc word V2 (Hid.of (h.out.below (B.out.trans (BV.out.mono B.out.size)) (Nat.le_refl _))) (Hid.of (hw.out.below (B.out.trans (BV.out.mono B.out.size)) (Nat.le_refl _))) hwl).mono ?_
  rintro e V3 ⟨rfl, hb⟩
  rw [allIn_eq]
  replace BV := Hid.of (BV.out.trans (hb.mono BV.out.size))
  replace KS := Hid.of (KS.out.below hb KS.out.lt)
  clear hb
  cases hin : inSeen p.seen word with
  | false =>
    have HO : Hid (estOut p word = ([], 6)) := estOut_out hp.out hin
    clear hin
    go_wp2_with fail
    refine bodyPost_ret (v := .tuple #[.slice none 0 0, .int .i64 6]) (by simp [results, go_sem]) rfl ?_
    rw [HO.out]
    exact ⟨none, 0, rfl, .inl rfl, Nat.zero_le _, B.out.trans (BV.out.mono B.out.size)⟩
  | true =>
    have HO : Hid (estOut p word = (estL p word, 0)) := estOut_ok hp.out hin
    have HIN : Hid (∀ e ∈ word, e ∈ p.seen) := (inSeen_iff _ _).1 hin
    have hwl2 : word.length ≤ 9223372036854775807 := hwl.out
    clear hin
    go_wp2_with fail
    go_loopw [26] (fun i wr => ∃ (k : Nat) (S : Nat → Nat), i = .int .i64 k ∧ k ≤ word.length ∧ Hid (ES p word k S) ∧ Hid (Below V1.heap.size V1 wr) ∧ Hid (SB wr V1.heap.size S)) (fun i _ => word.length - (intOf i).toNat)
    case atStart => exact ⟨0, Q, rfl, Nat.zero_le _, Hid.of ⟨HRQ.out⟩, BV, KS⟩
    case round =>
      clear BV KS HRQ HQ
      obtain ⟨k, S, rfl, hk, HES, BV, KS⟩ := hrel
      by_cases hlt : k < word.length
      · obtain ⟨bs, os, ev, rfl, HEV, HSC⟩ : ∃ (bs os : Nat) (ev : Int), wa = some ⟨bs, os, none⟩ ∧ Hid (ev = word[k]?.getD 0) ∧ wr.cell? ⟨bs, os + k, none⟩ = some (.int .i64 ev) := by
          rcases hw.out with h0 | ⟨bs, os, ha, hb, hc⟩
          · have : word.length = 0 := by rw [h0]; rfl
            omega
          · obtain ⟨ev, hev, hcell⟩ := hc.at hlt
            refine ⟨bs, os, ev, ha, hev, ?_⟩
            exact ((B.out.trans (BV.out.mono B.out.size)).cell (p := ⟨bs, os + k, none⟩) hb).trans hcell
        obtain ⟨j, HJ⟩ : ∃ j, Hid (placeN p.seen ev = some j) := placeN_mem (HIN.out ev (by rw [HEV.out, List.getElem?_eq_getElem hlt, Option.getD_some]; exact List.getElem_mem hlt))
        have HJL : Hid (j < p.seen.length) := (List.getElem?_eq_some_iff.1 (placeN_some HJ.out)).1
        obtain ⟨y0, y1, y2, y3⟩ := SB.cells KS.out
        have hgd := run_guard_set
        cases hE : emptyB S with
        | true =>
          have heq : (Op.equalIn 10000 65 (.agg #[.int .u64 (S 0), .int .u64 (S 1), .int .u64 (S 2), .int .u64 (S 3)]) (.agg #[.int .u64 0, .int .u64 0, .int .u64 0, .int .u64 0])).run Tryd.prog wr = .ok true wr := by rw [← hE]; exact run_equalIn_set S wr
          have HEQ : Hid (rowS S = estL p word) := es_row HMM.out HES.out (.inl hE)
          clear hE
          go_wp2_with fail
          refine (row_any S _ HES.out.rep.1.ok (hT.out.below (B.out.trans (BV.out.mono B.out.size)) hT.out.lt)).mono ?_
          rintro e W9 ⟨ra, rc, rfl, rat, rln, hb⟩
          obtain ⟨R, HRr⟩ : ∃ R, Hid (R = rowS S) := ⟨_, rfl⟩
          rw [← HRr.out] at rat rln
          rw [← HRr.out]
          have RA := Hid.of rat
          have RL := Hid.of rln
          have B9 := Hid.of (B.out.trans ((BV.out.trans (hb.mono BV.out.size)).mono B.out.size))
          clear rat rln hb
          go_wp2_with fail
          refine bodyPost_ret (v := .tuple #[.slice ra R.length rc, .int .i64 0]) (by simp [results, go_sem]) rfl ?_
          rw [HO.out, ← HEQ.out, ← HRr.out]
          exact ⟨ra, rc, rfl, RA.out, RL.out, B9.out⟩
        | false =>
          have heq : (Op.equalIn 10000 65 (.agg #[.int .u64 (S 0), .int .u64 (S 1), .int .u64 (S 2), .int .u64 (S 3)]) (.agg #[.int .u64 0, .int .u64 0, .int .u64 0, .int .u64 0])).run Tryd.prog wr = .ok false wr := by rw [← hE]; exact run_equalIn_set S wr
          have HN : Hid (ES p word (k + 1) (leadS p.seen.length (hideM p.m p.seen).arrows S j)) := es_next hp.out HES.out hlt HEV HJ
          have hcall := Hid.of (cwatch1_any p P S ev j HJ HJL.out H8.out H256.out (Hid.of HES.out.rep.1.ok) (Hid.of (all_lt HES.out.rep (est_cl HMM.out _))) pl pp L0 wr (Hid.of (hT.out.below (B.out.trans (BV.out.mono B.out.size)) hT.out.lt)) (Hid.of (HCL.out.kept BV.out)))
          obtain ⟨Q2, HQ2⟩ : ∃ Q2, Hid (Q2 = leadS p.seen.length (hideM p.m p.seen).arrows S j) := ⟨_, rfl⟩
          rw [← HQ2.out] at hcall HN
          clear hE
          go_wp2_with fail
          refine hcall.out.mono ?_
          rintro r w1 ⟨rfl, hb1⟩
          have BV1 := Hid.of (BV.out.trans (hb1.mono BV.out.size))
          have KS1 := Hid.of (KS.out.below hb1 KS.out.lt)
          clear hb1 y0 y1 y2 y3 heq hcall HSC
          obtain ⟨y0, y1, y2, y3⟩ := SB.cells KS1.out
          have yz := KS1.out.frozen
          have KS2 := Hid.of (SB.set4 KS1.out Q2)
          have BV2 := Hid.of (below_set4 BV1.out (b' := V1.heap.size) (Nat.le_refl _) (.int .u64 (Q2 0)) (.int .u64 (Q2 1)) (.int .u64 (Q2 2)) (.int .u64 (Q2 3)))
          go_wp2_with fail
          go_roundw
          case rel => exact ⟨k + 1, Q2, by go_num, by omega, HN, BV2, KS2⟩
          case measure => simp [intOf]; omega
      · have HEQ : Hid (rowS S = estL p word) := es_row HMM.out HES.out (.inr (by omega))
        obtain ⟨y0, y1, y2, y3⟩ := SB.cells KS.out
        go_wp2_with fail
        refine (row_any S _ HES.out.rep.1.ok (hT.out.below (B.out.trans (BV.out.mono B.out.size)) hT.out.lt)).mono ?_
        rintro e W9 ⟨ra, rc, rfl, rat, rln, hb⟩
        obtain ⟨R, HRr⟩ : ∃ R, Hid (R = rowS S) := ⟨_, rfl⟩
        rw [← HRr.out] at rat rln
        rw [← HRr.out]
        have RA := Hid.of rat
        have RL := Hid.of rln
        have B9 := Hid.of (B.out.trans ((BV.out.trans (hb.mono BV.out.size)).mono B.out.size))
        clear rat rln hb
        go_wp2_with fail
        refine bodyPost_ret (v := .tuple #[.slice ra R.length rc, .int .i64 0]) (by simp [results, go_sem]) rfl ?_
        rw [HO.out, ← HEQ.out, ← HRr.out]
        exact ⟨ra, rc, rfl, RA.out, RL.out, B9.out⟩

theorem pEst_any (p : Plant) (P : PTL) (wa : Option Addr) (wc : Nat) (word : List Int) (w : World) (h : PAt w p P) (hw : At w wa word) (hwl : word.length ≤ maxLen) (hT : Tab w) :
    Calls Tryd.prog 36 #[ptval p P, .slice wa word.length wc] w fun e w' => ListPost w (estOut p word) e w' := by
  cases hp : mayP p with
  | false => exact est_bad p P wa wc word w (Hid.of h) (Hid.of hp)
  | true => exact est_ok p P wa wc word w (Hid.of h) (Hid.of hw) (Hid.of hwl) (Hid.of hT) (Hid.of hp)

end Go.Proofs.YtdhgabpoaicjoaaDoor
