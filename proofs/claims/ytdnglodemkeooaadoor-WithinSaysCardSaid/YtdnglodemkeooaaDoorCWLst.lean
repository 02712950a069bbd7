/-
  The walk of within.least.
-/
import Derived.Test.YtdnglodemkeooaaDoorG54
import Derived.Test.YtdnglodemkeooaaDoorG56
import Derived.Test.YtdnglodemkeooaaDoorG11
import Derived.Test.YtdnglodemkeooaaDoorG23
namespace Go.Proofs.YtdnglodemkeooaaDoor
open Go.RowKit
set_option linter.unusedVariables false

theorem Tryd.infoPlaceW : (Tryd.prog.info? 138).map (fun i => (i.zero, i.size, i.bytes)) = some (some (.agg (plcells ⟨⟨zeroS, zeroS⟩, 0, 0⟩).toArray), 10, 80) := by kernel_rfl

abbrev pl0 (P0 : SP) : Array Value := #[.int .u64 (P0.a 0), .int .u64 (P0.a 1), .int .u64 (P0.a 2), .int .u64 (P0.a 3), .int .u64 (P0.b 0), .int .u64 (P0.b 1), .int .u64 (P0.b 2), .int .u64 (P0.b 3), .int .i64 0, .int .i64 0]
/-- Nothing found so far is what is looked for, and the search goes on so. -/
structure LO (a b : Mach) (k : Nat) (l : List ((List Int × List Int) × List Int)) : Prop where
  bi : BI (bothD a.arrows b.arrows) (a.starts, b.starts) a.ev.toNat k 0 l
  no : ∀ (j : Nat) (x : (List Int × List Int) × List Int), j < k → l[j]? = some x → outP a b x = false
  go : plcAll a b = bfGo (bothD a.arrows b.arrows) a.ev.toNat (4097 - k) k l
theorem LO.start (a b : Mach) : LO a b 0 [((a.starts, b.starts), [])] := ⟨bi_start _ _ _, fun j x h => absurd h (Nat.not_lt_zero _), rfl⟩
theorem LO.found {a b : Mach} {k : Nat} {l : List ((List Int × List Int) × List Int)} (h : LO a b k l) {x : (List Int × List Int) × List Int} (hx : l[k]? = some x) (ho : outP a b x = true) : outW a b = some x.2 := by
  unfold outW
  obtain ⟨t, ht⟩ := bfGo_pre (bothD a.arrows b.arrows) a.ev.toNat (4097 - k) k l
  have hf : (plcAll a b).find? (outP a b) = some x := by
    rw [h.go, ht, List.find?_append]
    have : l.find? (outP a b) = some x := by
      rw [List.find?_eq_some_iff_getElem]
      have hk := (List.getElem?_eq_some_iff.1 hx).1
      refine ⟨ho, k, hk, (List.getElem?_eq_some_iff.1 hx).2, fun j hj => ?_⟩
      have := h.no j _ hj (List.getElem?_eq_getElem (Nat.lt_trans hj hk))
      rw [this]; rfl
    rw [this]; rfl
  rw [hf]; rfl
theorem LO.not {a b : Mach} {k : Nat} {l : List ((List Int × List Int) × List Int)} (h : LO a b k l) (hk : k = l.length) : outW a b = none := by
  unfold outW
  have hg : plcAll a b = l := by
    rw [h.go]
    have hx : l[k]? = none := List.getElem?_eq_none (by omega)
    cases 4097 - k with
    | zero => rfl
    | succ f => unfold bfGo; rw [hx]
  rw [hg, Option.map_eq_none_iff, List.find?_eq_none]
  intro x hx
  obtain ⟨j, hj⟩ := List.mem_iff_getElem?.1 hx
  have := h.no j x (by have := (List.getElem?_eq_some_iff.1 hj).1; omega) hj
  rw [this]; simp
theorem LO.next {a b : Mach} {k : Nat} {l : List ((List Int × List Int) × List Int)} (h : LO a b k l) {x : (List Int × List Int) × List Int} (hx : l[k]? = some x) (ho : outP a b x = false) (hk : k < 4097) : LO a b (k + 1) (bfRow (bothD a.arrows b.arrows) x l a.ev.toNat) := by
  refine ⟨bi_next _ h.bi hx, fun j y hj hy => ?_, ?_⟩
  · obtain ⟨t, ht⟩ := bfRow_pre (bothD a.arrows b.arrows) x l a.ev.toNat
    have hkl := (List.getElem?_eq_some_iff.1 hx).1
    rw [ht, List.getElem?_append_left (by omega)] at hy
    by_cases e : j = k
    · subst e
      rw [hx] at hy
      have := Option.some.inj hy
      subst this; exact ho
    · exact h.no j y (by omega) hy
  · rw [h.go, show 4097 - k = (4097 - (k + 1)) + 1 by omega, bfGo, hx]

/-- What least leaves. -/
def WLeastPost (w : World) (o : Option (List Int)) (e : Ending) (w' : World) : Prop :=
  match o with
  | none => e = .returned (.tuple #[.slice none 0 0, .bool false]) ∧ Below w.heap.size w w'
  | some u => ∃ v, e = .returned (.tuple #[v, .bool true]) ∧ Own w' w.heap.size v u ∧ Below w.heap.size w w'
abbrev lookV (pA pB : Nat) : Value := .func (.func 115) #[] #[.pointer (some ⟨pA, 0, none⟩), .pointer (some ⟨pB, 0, none⟩)]

theorem li_first {B : Nat} {W : World} {br : Nat} {v : Value} {p : PlW} (ho : OwnW W B v [p]) (hm : W.heap[br]? = some (.map #[] 0)) (hb : B ≤ br) : LWI B (setMap W br (.map (entsW [p]) 1)) br v [p] := by
  have hbr := (Array.getElem?_eq_some_iff.1 hm).1
  refine ⟨own_same ho (fun k hk => heap_setMap_ne _ _ _ (fun e => ?_)), heap_setMap _ _ hbr, hb⟩
  obtain ⟨cs, hc⟩ := own_type ho hk
  rw [e, hm] at hc; cases hc
theorem li_first2 {B : Nat} {W : World} {br : Nat} {p : PlW} (hm : W.heap[br]? = some (.map (entsW [p]) 1)) (hb : B ≤ br) (hB : B ≤ W.heap.size) : LWI B (W.alloc (.cells (plcells p).toArray 138)) br (.slice (some ⟨W.heap.size, 0, none⟩) 1 1) [p] :=
  ⟨ownW_one W p B hB, (Below.heap_alloc W _ br (Array.getElem?_eq_some_iff.1 hm).1).trans hm, hb⟩
theorem below_map {B : Nat} {w W : World} (h : Below B w W) {br : Nat} (hb : B ≤ br) (o : Obj) : Below B w (setMap W br o) :=
  h.trans ⟨rfl, rfl, rfl, by rw [size_setMap]; exact Nat.le_refl _, fun j hj => heap_setMap_ne _ _ _ (by omega)⟩
theorem blk_map {W : World} {b br : Nat} {t : TypeId} {cs : Array Value} (h : Blk W b t cs) (hn : b ≠ br) (o : Obj) : Blk (setMap W br o) b t cs := (heap_setMap_ne W br o hn).trans h
theorem LWI.keep {B : Nat} {W W2 W3 : World} {br hp : Nat} {vs : Value} {L L' : List PlW} {c : Nat} {cs : Array Value} (h : LWI B W br vs L) (hW3 : Below (setMap W br (.map (entsW L') c)).heap.size (setMap W br (.map (entsW L') c)) W3) (g : W3.grownBy W2 vs.ownBlock) (hh : Blk W hp 106 cs) : Blk W2 hp 106 cs := by
  have hbr := (Array.getElem?_eq_some_iff.1 h.mp).1
  have hz : W.heap.size ≤ W3.heap.size := by have := hW3.size; rwa [size_setMap] at this
  have n1 : hp ≠ br := fun e => by have hm := h.mp; rw [← e, show W.heap[hp]? = _ from hh] at hm; cases hm
  have n2 : vs.ownBlock ≠ some hp := fun e => by
    obtain ⟨cs', hc⟩ := own_type h.ss e
    rw [show W.heap[hp]? = _ from hh] at hc; cases hc
  have hl := hh.lt
  exact (g.block hp (Nat.lt_of_lt_of_le hl hz) (fun e => n2 e.symm)).trans ((hW3.block hp (by rw [size_setMap]; exact hl)).trans ((heap_setMap_ne _ _ _ n1).trans hh))

set_option maxRecDepth 100000 in
set_option maxHeartbeats 16000000 in
theorem wleast_any (st sb ev : Nat) (starts startsB : List Int) (ars arsB : List Arr) (ends endsB : List Int) (hma : Hid (mayB ⟨(st : Int), (ev : Int), starts, ars, ends⟩ = true)) (hmb : Hid (mayB ⟨(sb : Int), (ev : Int), startsB, arsB, endsB⟩ = true)) (z1 : st ≤ 6) (z2 : sb ≤ 6) (P0 : SP) (hr0 : Hid (RepSP P0 (starts, startsB))) (pA pB qA qB : Nat) (LA LC : LB) (EA EB : Nat → Nat) (hEA : Hid (Rep EA ends)) (hEB : Hid (Rep EB endsB)) (w : World) (hT : Hid (Tab w)) (hL : Hid (WL w pA pB LA LC ev st sb (tabS ev ars) (tabS ev arsB))) (hqA : Hid (SB w qA EA)) (hqB : Hid (SB w qB EB)) :
    Calls Tryd.prog 87 #[spval P0, .int .i64 ev, wleadV pA pB, lookV qA qB] w fun e w' => WLeastPost w (outW ⟨(st : Int), (ev : Int), starts, ars, ends⟩ ⟨(sb : Int), (ev : Int), startsB, arsB, endsB⟩) e w' := by
  have he8 : ev ≤ 8 := by
    have hz := mayB_size hma.out
    unfold sizeOk at hz
    dsimp only at hz
    omega
  obtain ⟨i0, hi, hz0, hz1, hz2⟩ := info_parts Tryd.infoPlaceW
  have hmm := @run_makeMap Tryd.prog
  have b0 : PBk (w.alloc (.cells (spcells P0) 106)) w.heap.size P0 := Blk.new w _ _
  have bel0 : Hid (Below w.heap.size w (w.alloc (.cells (spcells P0) 106))) := (Below.refl _ _).alloc (Nat.le_refl _) _
  have sz0 : (w.alloc (.cells (spcells P0) 106)).heap.size = w.heap.size + 1 := World.size_alloc _ _
  go_enter Tryd.func87, Tryd.ntmps87
  go_wp2
  revert b0 bel0 sz0
  generalize w.alloc (.cells (spcells P0) 106) = V
  intro b0 bel0 sz0
  refine Code.wp_mono (Q := regQ fun a' W' => ∃ (br : Nat) (vs r18 r19 r20 r21 r22 r23 r24 : Value), a' = { tmps := #[spval P0, .int .i64 ev, wleadV pA pB, lookV qA qB, .pointer (some ⟨w.heap.size, 0, none⟩), undef, undef, undef, .slice none 0 0, .bool false, vs, .map (some br), undef, undef, undef, undef, undef, undef, r18, r19, r20, r21, r22, r23, r24, undef, undef, undef, undef, undef, undef, undef, undef, undef, undef, undef, undef, undef, undef, undef, undef, undef, undef, undef, undef, undef, undef, undef, undef, undef, undef, undef, undef, undef, undef, undef, undef, undef, undef, undef, undef, undef, undef, undef, undef, undef, undef, undef, undef], defers := [] } ∧ LWI w.heap.size W' br vs [⟨P0, 0, 0⟩] ∧ Below w.heap.size w W') ?aft ?reg
  case reg =>
    refine wp_region_held_drew (S := fun w' => w'.cell? ⟨w.heap.size, 0, none⟩ = some (.int .u64 (P0.a 0)) ∧ w'.cell? ⟨w.heap.size, 1, none⟩ = some (.int .u64 (P0.a 1)) ∧ w'.cell? ⟨w.heap.size, 2, none⟩ = some (.int .u64 (P0.a 2)) ∧ w'.cell? ⟨w.heap.size, 3, none⟩ = some (.int .u64 (P0.a 3)) ∧ w'.cell? ⟨w.heap.size, 4, none⟩ = some (.int .u64 (P0.b 0)) ∧ w'.cell? ⟨w.heap.size, 5, none⟩ = some (.int .u64 (P0.b 1)) ∧ w'.cell? ⟨w.heap.size, 6, none⟩ = some (.int .u64 (P0.b 2)) ∧ w'.cell? ⟨w.heap.size, 7, none⟩ = some (.int .u64 (P0.b 3))) (by kernel_rfl) b0.cells (fun hS0 => ?_)
    refine wpAnyH_take (i := 0) (v := spval P0) rfl (by kernel_rfl) (by kernel_rfl) (by kernel_rfl) (fun _ _ _ h => h) (Or.inl ⟨by kernel_rfl, fun w' hw' => by obtain ⟨q0, q1, q2, q3, q4, q5, q6, q7⟩ := hw'; go_simp⟩) hS0 ?_
    refine wpAnyH_take (i := 1) (v := .agg #[.int .u64 (P0.a 0), .int .u64 (P0.a 1), .int .u64 (P0.a 2), .int .u64 (P0.a 3), .int .u64 (P0.b 0), .int .u64 (P0.b 1), .int .u64 (P0.b 2), .int .u64 (P0.b 3), .int .i64 0, .int .i64 0]) rfl (by kernel_rfl) (by kernel_rfl) (by kernel_rfl) (fun _ _ _ h => h) (Or.inl ⟨by kernel_rfl, fun w' hw' => by obtain ⟨q0, q1, q2, q3, q4, q5, q6, q7⟩ := hw'; go_simp⟩) hS0 ?_
    refine wpAnyH_take (i := 4) (v := spval P0) rfl (by kernel_rfl) (by kernel_rfl) (by kernel_rfl) (fun _ _ _ h => h) (Or.inl ⟨by kernel_rfl, fun w' hw' => by obtain ⟨q0, q1, q2, q3, q4, q5, q6, q7⟩ := hw'; go_simp⟩) hS0 ?_
    refine wpAnyH_take (i := 5) (v := .agg #[]) rfl (by kernel_rfl) (by kernel_rfl) (by kernel_rfl) (fun _ _ _ h => h) (Or.inl ⟨by kernel_rfl, fun w' hw' => by obtain ⟨q0, q1, q2, q3, q4, q5, q6, q7⟩ := hw'; go_simp⟩) hS0 ?_
    simp only [Act.put, List.setIfInBounds_toArray]
    refine wpAnyH_ready (rs := [2, 3]) (by kernel_rfl) (by simp) ?_
    refine AllReadyH.cons rfl (fun K' hK' => ?_) (AllReadyH.cons rfl (fun K' hK' => ?_) AllReadyH.nil)
    · go_simp
      refine hK'.out _ _ (PBk.cells (Blk.drew (b0.alloc _))) (fun hS1 => ?_)
      clear hK' K'
      refine wpAnyH_take (i := 8) (v := .slice (some ⟨w.heap.size + 1, 0, none⟩) 1 1) rfl (by kernel_rfl) (by kernel_rfl) (by kernel_rfl) (fun _ _ _ h => h) (Or.inl ⟨by kernel_rfl, fun w' hw' => by obtain ⟨q0, q1, q2, q3, q4, q5, q6, q7⟩ := hw'; go_simp⟩) hS1 ?_
      refine wpAnyH_ready (rs := [3]) (by kernel_rfl) (by simp) ?_
      refine AllReadyH.cons rfl (fun K' hK' => ?_) AllReadyH.nil
      go_simp
      refine hK'.out _ _ (PBk.cells (Blk.drew ((b0.alloc _).alloc _))) (fun hS2 => ?_)
      clear hK' K'
      refine wpAnyH_ready (rs := [6]) (by kernel_rfl) (by simp) ?_
      refine AllReadyH.cons rfl (fun K' hK' => ?_) AllReadyH.nil
      have hmp : ((V.alloc (.cells (pl0 P0) 138)).alloc (.map #[] 0)).heap[w.heap.size + 1 + 1]? = some (.map #[] 0) := by
        have := World.alloc_heap_new (V.alloc (.cells (pl0 P0) 138)) (.map #[] 0)
        rwa [World.size_alloc, sz0] at this
      have hu := updW_first (p := ⟨P0, 0, 0⟩) hr0.out (w := ((V.alloc (.cells (pl0 P0) 138)).alloc (.map #[] 0)).drew) (r := w.heap.size + 1 + 1) hmp
      go_simp
      refine hK'.out _ _ (PBk.cells (blk_map (b := w.heap.size) (br := w.heap.size + 1 + 1) (Blk.drew ((b0.alloc _).alloc _)) (Nat.ne_of_lt (by omega)) _)) (fun hS3 => ?_)
      clear hK' K'
      refine wpAnyH_take (i := 7) (v := .map (some (w.heap.size + 1 + 1))) rfl (by kernel_rfl) (by kernel_rfl) (by kernel_rfl) (fun _ _ _ h => h) (Or.inl ⟨by kernel_rfl, fun w' hw' => by obtain ⟨q0, q1, q2, q3, q4, q5, q6, q7⟩ := hw'; go_simp⟩) hS3 ?_
      refine wpAnyH_take (i := 9) (v := .map (some (w.heap.size + 1 + 1))) rfl (by kernel_rfl) (by kernel_rfl) (by kernel_rfl) (fun _ _ _ h => h) (Or.inl ⟨by kernel_rfl, fun w' hw' => by obtain ⟨q0, q1, q2, q3, q4, q5, q6, q7⟩ := hw'; go_simp⟩) hS3 ?_
      refine wpAnyH_done (by kernel_rfl) ?_ _
      have ho : OwnW ((V.alloc (.cells (pl0 P0) 138)).alloc (.map #[] 0)).drew w.heap.size (.slice (some ⟨w.heap.size + 1, 0, none⟩) 1 1) [⟨P0, 0, 0⟩] := by
        have := World.ownsRow.alloc (ownW_one V ⟨P0, 0, 0⟩ w.heap.size (by omega)) (.map #[] 0)
        rw [sz0] at this
        exact this
      exact ⟨w.heap.size + 1 + 1, .slice (some ⟨w.heap.size + 1, 0, none⟩) 1 1, _, _, _, _, _, _, _, rfl, li_first ho hmp (by omega), below_map (((bel0.out.alloc (by omega) _).alloc (by simp; omega) _).drew) (by omega) _⟩
    · go_simp
      refine hK'.out _ _ (PBk.cells (Blk.drew (b0.alloc _))) (fun hS1 => ?_)
      clear hK' K'
      refine wpAnyH_ready (rs := [2, 6]) (by kernel_rfl) (by simp) ?_
      refine AllReadyH.cons rfl (fun K' hK' => ?_) (AllReadyH.cons rfl (fun K' hK' => ?_) AllReadyH.nil)
      · go_simp
        refine hK'.out _ _ (PBk.cells (Blk.drew ((b0.alloc _).alloc _))) (fun hS2 => ?_)
        clear hK' K'
        refine wpAnyH_take (i := 8) (v := .slice (some ⟨w.heap.size + 1 + 1, 0, none⟩) 1 1) rfl (by kernel_rfl) (by kernel_rfl) (by kernel_rfl) (fun _ _ _ h => h) (Or.inl ⟨by kernel_rfl, fun w' hw' => by obtain ⟨q0, q1, q2, q3, q4, q5, q6, q7⟩ := hw'; go_simp⟩) hS2 ?_
        refine wpAnyH_ready (rs := [6]) (by kernel_rfl) (by simp) ?_
        refine AllReadyH.cons rfl (fun K' hK' => ?_) AllReadyH.nil
        have hmp : ((V.alloc (.map #[] 0)).alloc (.cells (pl0 P0) 138)).heap[w.heap.size + 1]? = some (.map #[] 0) := by
          have := World.alloc_heap_new V (.map #[] 0)
          rw [sz0] at this
          exact (Below.heap_alloc (V.alloc (.map #[] 0)) (.cells (pl0 P0) 138) _ (by rw [World.size_alloc, sz0]; omega)).trans this
        have hu := updW_first (p := ⟨P0, 0, 0⟩) hr0.out (w := ((V.alloc (.map #[] 0)).alloc (.cells (pl0 P0) 138)).drew) (r := w.heap.size + 1) hmp
        go_simp
        refine hK'.out _ _ (PBk.cells (blk_map (b := w.heap.size) (br := w.heap.size + 1) (Blk.drew ((b0.alloc _).alloc _)) (Nat.ne_of_lt (by omega)) _)) (fun hS3 => ?_)
        clear hK' K'
        refine wpAnyH_take (i := 7) (v := .map (some (w.heap.size + 1))) rfl (by kernel_rfl) (by kernel_rfl) (by kernel_rfl) (fun _ _ _ h => h) (Or.inl ⟨by kernel_rfl, fun w' hw' => by obtain ⟨q0, q1, q2, q3, q4, q5, q6, q7⟩ := hw'; go_simp⟩) hS3 ?_
        refine wpAnyH_take (i := 9) (v := .map (some (w.heap.size + 1))) rfl (by kernel_rfl) (by kernel_rfl) (by kernel_rfl) (fun _ _ _ h => h) (Or.inl ⟨by kernel_rfl, fun w' hw' => by obtain ⟨q0, q1, q2, q3, q4, q5, q6, q7⟩ := hw'; go_simp⟩) hS3 ?_
        refine wpAnyH_done (by kernel_rfl) ?_ _
        have ho : OwnW ((V.alloc (.map #[] 0)).alloc (.cells (pl0 P0) 138)).drew w.heap.size (.slice (some ⟨w.heap.size + 1 + 1, 0, none⟩) 1 1) [⟨P0, 0, 0⟩] := by
          have := ownW_one (V.alloc (.map #[] 0)) ⟨P0, 0, 0⟩ w.heap.size (by rw [World.size_alloc, sz0]; omega)
          rw [World.size_alloc, sz0] at this
          exact this
        exact ⟨w.heap.size + 1, .slice (some ⟨w.heap.size + 1 + 1, 0, none⟩) 1 1, _, _, _, _, _, _, _, rfl, li_first ho hmp (by omega), below_map (((bel0.out.alloc (by omega) _).alloc (by simp; omega) _).drew) (by omega) _⟩
      · have hmp : (V.alloc (.map #[] 0)).heap[w.heap.size + 1]? = some (.map #[] 0) := by
          have := World.alloc_heap_new V (.map #[] 0)
          rwa [sz0] at this
        have hu := updW_first (p := ⟨P0, 0, 0⟩) hr0.out (w := (V.alloc (.map #[] 0)).drew) (r := w.heap.size + 1) hmp
        go_simp
        refine hK'.out _ _ (PBk.cells (blk_map (Blk.drew (b0.alloc _)) (by omega) _)) (fun hS2 => ?_)
        clear hK' K'
        refine wpAnyH_take (i := 7) (v := .map (some (w.heap.size + 1))) rfl (by kernel_rfl) (by kernel_rfl) (by kernel_rfl) (fun _ _ _ h => h) (Or.inl ⟨by kernel_rfl, fun w' hw' => by obtain ⟨q0, q1, q2, q3, q4, q5, q6, q7⟩ := hw'; go_simp⟩) hS2 ?_
        refine wpAnyH_ready (rs := [2]) (by kernel_rfl) (by simp) ?_
        refine AllReadyH.cons rfl (fun K' hK' => ?_) AllReadyH.nil
        have hsz : (setMap (V.alloc (.map #[] 0)).drew (w.heap.size + 1) (.map (entsW [⟨P0, 0, 0⟩]) 1)).heap.size = w.heap.size + 1 + 1 := by rw [size_setMap]; show (V.alloc (.map #[] 0)).heap.size = _; rw [World.size_alloc, sz0]
        go_simp
        refine hK'.out _ _ (PBk.cells (Blk.alloc (blk_map (Blk.drew (b0.alloc _)) (by omega) _) _)) (fun hS3 => ?_)
        clear hK' K'
        refine wpAnyH_take (i := 8) (v := .slice (some ⟨w.heap.size + 1 + 1, 0, none⟩) 1 1) rfl (by kernel_rfl) (by kernel_rfl) (by kernel_rfl) (fun _ _ _ h => h) (Or.inl ⟨by kernel_rfl, fun w' hw' => by obtain ⟨q0, q1, q2, q3, q4, q5, q6, q7⟩ := hw'; go_simp⟩) hS3 ?_
        refine wpAnyH_take (i := 9) (v := .map (some (w.heap.size + 1))) rfl (by kernel_rfl) (by kernel_rfl) (by kernel_rfl) (fun _ _ _ h => h) (Or.inl ⟨by kernel_rfl, fun w' hw' => by obtain ⟨q0, q1, q2, q3, q4, q5, q6, q7⟩ := hw'; go_simp⟩) hS3 ?_
        refine wpAnyH_done (by kernel_rfl) ?_ _
        have hf := li_first2 (B := w.heap.size) (p := ⟨P0, 0, 0⟩) (W := setMap (V.alloc (.map #[] 0)).drew (w.heap.size + 1) (.map (entsW [⟨P0, 0, 0⟩]) 1)) (br := w.heap.size + 1) (heap_setMap _ _ (by show _ < (V.alloc (.map #[] 0)).heap.size; rw [World.size_alloc, sz0]; omega)) (by omega) (by omega)
        rw [hsz] at hf
        exact ⟨w.heap.size + 1, .slice (some ⟨w.heap.size + 1 + 1, 0, none⟩) 1 1, _, _, _, _, _, _, _, rfl, hf, (below_map ((bel0.out.alloc (by omega) _).drew) (by omega) _).alloc (by omega) _⟩
  case aft =>
    refine regQ_imp ?_
    rintro a' W' ⟨br, vs, r18, r19, r20, r21, r22, r23, r24, rfl, q1, q2⟩
    have Q1 := Hid.of q1
    have Q2 := Hid.of q2
    clear q1 q2 b0 bel0 sz0 hmm
    have HL0 : Hid (LO ⟨(st : Int), (ev : Int), starts, ars, ends⟩ ⟨(sb : Int), (ev : Int), startsB, arsB, endsB⟩ 0 [((starts, startsB), [])]) := LO.start _ _
    have HR0 : Hid (RepPL [⟨P0, 0, 0⟩] [((starts, startsB), [])]) := RepPL.one hr0.out
    have HT0 : Hid (TrL [⟨P0, 0, 0⟩] [((starts, startsB), ([] : List Int))]) := TrL.one _ _
    go_wp2_with fail
    go_loopw [10, 12] (fun v10 i wr => ∃ (k : Nat) (l : List ((List Int × List Int) × List Int)) (L : List PlW), i = .int .i64 k ∧ k ≤ L.length ∧ L.length ≤ 4096 ∧ Hid (LWI w.heap.size wr br v10 L) ∧ Hid (Below w.heap.size w wr) ∧ Hid (RepPL L l) ∧ Hid (TrL L l) ∧ Hid (LO ⟨(st : Int), (ev : Int), starts, ars, ends⟩ ⟨(sb : Int), (ev : Int), startsB, arsB, endsB⟩ k l)) (fun _ i _ => 4097 - (intOf i).toNat)
    case atStart => exact ⟨0, [((starts, startsB), [])], [⟨P0, 0, 0⟩], rfl, Nat.zero_le _, by simp, Q1, Q2, HR0, HT0, HL0⟩
    case round =>
      clear Q1 Q2 HR0 HT0 HL0
      obtain ⟨k, l, L, rfl, hk, h4096, HF, HB, HR, HTr, HLO⟩ := hrel
      obtain ⟨va10, vc10, hv10, -, -, -⟩ := own_form2 HF.out.ss
      subst hv10
      have HLl := Hid.of HR.out.len
      by_cases hlt : k < L.length
      · obtain ⟨x, hx⟩ : ∃ x, Hid (l[k]? = some x) := ⟨_, List.getElem?_eq_getElem (by rw [← HLl.out]; exact hlt)⟩
        obtain ⟨p, hp, hrp⟩ := HR.out.at hx.out
        have HRP := Hid.of hrp
        obtain ⟨g, cap, hv, hg1, hg2, hc⟩ := HF.out.ss.cell hp
        cases hv
        have c0 : wr.cell? ⟨g, k * 10, none⟩ = _ := hc 0 _ rfl
        have c1 := hc 1 _ rfl
        have c2 := hc 2 _ rfl
        have c3 := hc 3 _ rfl
        have c4 := hc 4 _ rfl
        have c5 := hc 5 _ rfl
        have c6 := hc 6 _ rfl
        have c7 := hc 7 _ rfl
        have ok1 : okS p.sp.a := hrp.ra.ok
        have ok2 : okS p.sp.b := hrp.rb.ok
        obtain ⟨P, HP⟩ : ∃ P, Hid (P = p.sp) := ⟨_, rfl⟩
        rw [← HP.out] at HRP c0 c1 c2 c3 c4 c5 c6 c7 ok1 ok2
        clear hp hrp hc
        have HOK1 := Hid.of ok1
        have HOK2 := Hid.of ok2
        clear ok1 ok2
        have F1 : Hid (LWI w.heap.size (wr.alloc (.cells (spcells P) 106)) br (.slice (some ⟨g, 0, none⟩) L.length vc10) L) := HF.out.below ((Below.refl _ _).alloc (Nat.le_refl _) _)
        have B1 : Hid (Below w.heap.size w (wr.alloc (.cells (spcells P) 106))) := HB.out.alloc HB.out.size _
        have N1 : Hid (PBk (wr.alloc (.cells (spcells P) 106)) wr.heap.size P) := Blk.new wr _ _
        have hltI : (k : Int) < (L.length : Int) := by omega
        have hltD : decide ((k : Int) < (L.length : Int)) = true := by simpa using hltI
        obtain ⟨n0, n1, n2, n3, n4, n5, n6, n7⟩ := PBk.cells N1.out
        go_wp2_with fail
        clear c0 c1 c2 c3 c4 c5 c6 c7 n0 n1 n2 n3 n4 n5 n6 n7 HF HB hg2
        revert F1 B1 N1
        generalize wr.alloc (.cells (spcells P) 106) = V1
        generalize wr.heap.size = hp
        intro F1 B1 N1
        have LK := Hid.of (apart1_any P EA EB qA qB V1 (Hid.of (hqA.out.below B1.out hqA.out.lt)) (Hid.of (hqB.out.below B1.out hqB.out.lt)) HOK1.out HOK2.out hEA.out.ok hEB.out.ok)
        have HOUT : Hid (outSP P EA EB = outP ⟨(st : Int), (ev : Int), starts, ars, ends⟩ ⟨(sb : Int), (ev : Int), startsB, arsB, endsB⟩ x) := by
          show _ = _
          unfold outSP outP
          dsimp only
          rw [meet_iff HRP.out.ra hEA.out, meet_iff HRP.out.rb hEB.out, ← decide_not]
          congr 1
          exact decide_eq_decide.2 (by omega)
        refine LK.out.mono ?_
        rintro r V2 ⟨rfl, hb2⟩
        have F2 := Hid.of (F1.out.below hb2)
        have B2 := Hid.of (B1.out.trans (hb2.mono B1.out.size))
        have N2 := Hid.of (N1.out.below hb2 N1.out.lt)
        clear hb2 F1 B1 N1 LK
        cases hout : outSP P EA EB with
        | true =>
          have HW : Hid (outW ⟨(st : Int), (ev : Int), starts, ars, ends⟩ ⟨(sb : Int), (ev : Int), startsB, arsB, endsB⟩ = some x.2) := HLO.out.found hx.out (by rw [← HOUT.out]; exact hout)
          have WT := Hid.of (wordTo_any w.heap.size (.slice (some ⟨g, 0, none⟩) L.length vc10) L l (starts, startsB) k x V2 (Hid.of F2.out.ss) HTr (Hid.of HLO.out.bi.hd) HLl hx (by omega))
          clear hout HOUT
          go_wp2_with fail
          refine WT.out.mono ?_
          rintro r V3 ⟨vr, rfl, ov, hb3⟩
          have B3 := Hid.of (B2.out.trans (hb3.mono B2.out.size))
          have OV := Hid.of (Own.low ov B2.out.size)
          clear ov hb3
          go_wp2
          refine bodyPost_ret (v := .tuple #[vr, .bool true]) (by simp [results, go_sem]) rfl ?_
          unfold WLeastPost
          rw [HW.out]
          exact ⟨vr, rfl, OV.out, B3.out⟩
        | false =>
          have HNO : Hid (outP ⟨(st : Int), (ev : Int), starts, ars, ends⟩ ⟨(sb : Int), (ev : Int), startsB, arsB, endsB⟩ x = false) := by show _ = _; rw [← HOUT.out]; exact hout
          clear hout HOUT
          go_wp2_with fail
          go_loopw [10, 43] (fun v10 i wr' => ∃ (e : Nat) (L1 : List PlW), i = .int .i64 e ∧ e ≤ ev ∧ Hid (LWI w.heap.size wr' br v10 L1) ∧ Hid (Below w.heap.size w wr') ∧ Hid (PBk wr' hp P) ∧ Hid (RepPL L1 (bfRow (bothD ars arsB) x l e)) ∧ Hid (TrL L1 (bfRow (bothD ars arsB) x l e))) (fun _ i _ => ev - (intOf i).toNat)
          case atStart => exact ⟨0, L, rfl, Nat.zero_le _, F2, B2, N2, HR, HTr⟩
          case round =>
            clear F2 B2 N2
            obtain ⟨e, L1, rfl, hee, HF, HB, HN, HR1, HT1⟩ := hrel
            obtain ⟨va8, vc8, hv8, -, -, -⟩ := own_form2 HF.out.ss
            subst hv8
            obtain ⟨l1, HS1⟩ : ∃ l1, Hid (l1 = bfRow (bothD ars arsB) x l e) := ⟨_, rfl⟩
            have HBI : Hid (BI (bothD ars arsB) (starts, startsB) ev k e l1) := by
              have := bi_row (bothD ars arsB) HLO.out.bi hx.out e (by rw [Int.toNat_natCast]; exact hee)
              rw [← HS1.out, Int.toNat_natCast] at this
              exact this
            have HBD : Hid (l1.length ≤ 4096) := plc_bound (a := ⟨(st : Int), (ev : Int), starts, ars, ends⟩) (b := ⟨(sb : Int), (ev : Int), startsB, arsB, endsB⟩) hma.out hmb.out (by dsimp only; omega) (by dsimp only; omega) HBI.out
            have HX1 : Hid (l1[k]? = some x) := by
              obtain ⟨t, ht⟩ := bfRow_pre (bothD ars arsB) x l e
              show _ = _
              rw [HS1.out, ht, List.getElem?_append_left (List.getElem?_eq_some_iff.1 hx.out).1]
              exact hx.out
            have HSuc : Hid (bfRow (bothD ars arsB) x l (e + 1) = bfStep (bothD ars arsB) x l1 e) := by show _ = _; rw [bfRow_succ, HS1.out]
            rw [← HS1.out] at HR1 HT1
            have HL1 := Hid.of HR1.out.len
            by_cases hle : e < ev
            · have hX := HLO.out.bi.run x (List.mem_of_getElem? hx.out)
              have hallA : ∀ n ∈ allS P.a, n < st := fun n hn => by
                obtain ⟨m1, m2⟩ := (mem_allS P.a n).1 hn
                have h1 := hX.1
                rw [bothD_run _ _ _ _ _ (fun e he => (hX.2 e he).1)] at h1
                have h2 := (afterIn hma.out x.2 _ (may_starts hma.out)).2 (n : Int) (by
                  have := (HRP.out.ra.mem n m1).1 m2
                  rw [h1] at this
                  exact this)
                dsimp only at h2; omega
              have hallB : ∀ n ∈ allS P.b, n < sb := fun n hn => by
                obtain ⟨m1, m2⟩ := (mem_allS P.b n).1 hn
                have h1 := hX.1
                rw [bothD_run _ _ _ _ _ (fun e he => (hX.2 e he).1)] at h1
                have h2 := (afterIn hmb.out x.2 _ (may_starts hmb.out)).2 (n : Int) (by
                  have := (HRP.out.rb.mem n m1).1 m2
                  rw [h1] at this
                  exact this)
                dsimp only at h2; omega
              have hcall := Hid.of (leadW1_any P e pA pB LA LC ev st sb (tabS ev ars) (tabS ev arsB) (Hid.of (okS_tab _ _)) (Hid.of (okS_tab _ _)) HOK1 HOK2 (Hid.of hallA) (Hid.of hallB) hle he8 (by omega) (by omega) wr (Hid.of (hT.out.below HB.out hT.out.lt)) (Hid.of (WL.mk (hL.out.ca.below HB.out hL.out.ca.lt) (hL.out.cb.below HB.out hL.out.cb.lt) (hL.out.la.below HB.out hL.out.la.lt) (hL.out.lb.below HB.out hL.out.lb.lt))))
              have hRep : Hid (RepSP (leadSP P (tabS ev ars) (tabS ev arsB) ev e) (bothD ars arsB x.1 e)) := by
                have r1 := rep_lead (st := (st : Int)) (ev := (ev : Int)) (e := (e : Int)) HRP.out.ra (may_arrs hma.out) (by omega) (by omega) (by omega)
                have r2 := rep_lead (st := (sb : Int)) (ev := (ev : Int)) (e := (e : Int)) HRP.out.rb (may_arrs hmb.out) (by omega) (by omega) (by omega)
                refine ⟨?_, ?_, inc_srt _, inc_srt _⟩
                · have : Rep (leadS ev ars P.a e) (stepL ars x.1.1 (e : Int)) := by simpa only [Int.toNat_natCast] using r1
                  exact this
                · have : Rep (leadS ev arsB P.b e) (stepL arsB x.1.2 (e : Int)) := by simpa only [Int.toNat_natCast] using r2
                  exact this
              obtain ⟨Q, HQ⟩ : ∃ Q, Hid (Q = leadSP P (tabS ev ars) (tabS ev arsB) ev e) := ⟨_, rfl⟩
              obtain ⟨to, HTO⟩ : ∃ to, Hid (to = bothD ars arsB x.1 e) := ⟨_, rfl⟩
              rw [← HQ.out] at hcall hRep
              rw [← HTO.out] at hRep
              clear hallA hallB hX
              have HST : Hid (bfStep (bothD ars arsB) x l1 e = if knownB l1 to = true then l1 else l1 ++ [(to, x.2 ++ [(e : Int)])]) := by
                show _ = _
                unfold bfStep; rw [← HTO.out]
              obtain ⟨m0, m1, m2, m3, m4, m5, m6, m7⟩ := PBk.cells HN.out
              go_wp2_with fail
              refine hcall.out.mono ?_
              rintro r w1 ⟨rfl, hb1⟩
              have F1 : Hid (LWI w.heap.size (w1.alloc (.cells (spcells Q) 106)) br (.slice va8 L1.length vc8) L1) := (HF.out.below hb1).below ((Below.refl _ _).alloc (Nat.le_refl _) _)
              have B1 : Hid (Below w.heap.size w (w1.alloc (.cells (spcells Q) 106))) := (HB.out.trans (hb1.mono HB.out.size)).alloc (Nat.le_trans HB.out.size hb1.size) _
              have N1 : Hid (PBk (w1.alloc (.cells (spcells Q) 106)) w1.heap.size Q) := Blk.new w1 _ _
              have H1 : Hid (PBk (w1.alloc (.cells (spcells Q) 106)) hp P) := Blk.alloc (HN.out.below hb1 HN.out.lt) _
              have hws : w.heap.size ≤ w1.heap.size := Nat.le_trans HB.out.size hb1.size
              clear hcall hb1 m0 m1 m2 m3 m4 m5 m6 m7 HF HB HN
              obtain ⟨n0, n1, n2, n3, n4, n5, n6, n7⟩ := PBk.cells N1.out
              cases hkn : knownB l1 to with
              | true =>
                have lk := lookW_known HR1.out hRep.out (w := w1.alloc (.cells (spcells Q) 106)) (r := br) F1.out.mp hkn
                have HNX : Hid (bfRow (bothD ars arsB) x l (e + 1) = l1) := by show _ = _; rw [HSuc.out, HST.out, if_pos hkn]
                have F2 : Hid (LWI w.heap.size ((w1.alloc (.cells (spcells Q) 106)).alloc (.cells #[] 140)) br (.slice va8 L1.length vc8) L1) := F1.out.below ((Below.refl _ _).alloc (Nat.le_refl _) _)
                have B2 : Hid (Below w.heap.size w ((w1.alloc (.cells (spcells Q) 106)).alloc (.cells #[] 140))) := B1.out.alloc B1.out.size _
                have H2 : Hid (PBk ((w1.alloc (.cells (spcells Q) 106)).alloc (.cells #[] 140)) hp P) := H1.out.alloc _
                go_wp2_with fail
                go_roundw
                case rel => exact ⟨e + 1, L1, by go_num, by omega, F2, B2, H2, (by show RepPL _ _; rw [HNX.out]; exact HR1.out), (by show TrL _ _; rw [HNX.out]; exact HT1.out)⟩
                case measure => simp [intOf]; omega
              | false =>
                have lk := lookW_new HR1.out hRep.out (w := w1.alloc (.cells (spcells Q) 106)) (r := br) F1.out.mp hkn
                have HNX : Hid (bfRow (bothD ars arsB) x l (e + 1) = l1 ++ [(to, x.2 ++ [(e : Int)])]) := by show _ = _; rw [HSuc.out, HST.out, if_neg (by rw [hkn]; simp)]
                have F2 : Hid (LWI w.heap.size ((w1.alloc (.cells (spcells Q) 106)).alloc (.cells #[] 140)) br (.slice va8 L1.length vc8) L1) := F1.out.below ((Below.refl _ _).alloc (Nat.le_refl _) _)
                have B2 : Hid (Below w.heap.size w ((w1.alloc (.cells (spcells Q) 106)).alloc (.cells #[] 140))) := B1.out.alloc B1.out.size _
                have H2 : Hid (PBk ((w1.alloc (.cells (spcells Q) 106)).alloc (.cells #[] 140)) hp P) := H1.out.alloc _
                have N2 : Hid (PBk ((w1.alloc (.cells (spcells Q) 106)).alloc (.cells #[] 140)) w1.heap.size Q) := N1.out.alloc _
                obtain ⟨k0, k1, k2, k3, k4, k5, k6, k7⟩ := PBk.cells N2.out
                have hu := updW_new (p := ⟨Q, k, e⟩) HR1.out hRep.out (w := ((w1.alloc (.cells (spcells Q) 106)).alloc (.cells #[] 140))) (r := br) F2.out.mp hkn
                have hne : w1.heap.size ≠ br := fun e => by have hm := F2.out.mp; rw [← e, show _ = _ from N2.out] at hm; cases hm
                have HNE := Hid.of hne
                clear hne
                have NZ : Hid (PBk (setMap ((w1.alloc (.cells (spcells Q) 106)).alloc (.cells #[] 140)) br (.map (entsW (L1 ++ [⟨Q, k, e⟩])) (L1.length + 1))) w1.heap.size Q) := blk_map N2.out HNE.out _
                obtain ⟨y0, y1, y2, y3, y4, y5, y6, y7⟩ := PBk.cells NZ.out
                have hzs : (setMap ((w1.alloc (.cells (spcells Q) 106)).alloc (.cells #[] 140)) br (.map (entsW (L1 ++ [⟨Q, k, e⟩])) (L1.length + 1))).heap.size = w1.heap.size + 1 + 1 := by rw [size_setMap, World.size_alloc, World.size_alloc]
                have OZ : Hid (OwnW (setMap ((w1.alloc (.cells (spcells Q) 106)).alloc (.cells #[] 140)) br (.map (entsW (L1 ++ [⟨Q, k, e⟩])) (L1.length + 1))) w.heap.size (.slice va8 L1.length vc8) L1) := own_same F2.out.ss (fun j hj => heap_setMap_ne _ _ _ (fun e => F2.out.apart (by rw [hj, e])))
                have CF : Hid (∀ j v, (plcells ⟨Q, k, e⟩)[j]? = some v → ((setMap ((w1.alloc (.cells (spcells Q) 106)).alloc (.cells #[] 140)) br (.map (entsW (L1 ++ [⟨Q, k, e⟩])) (L1.length + 1))).alloc (.cells (plcells ⟨Q, k, e⟩).toArray 138)).cell? ((⟨w1.heap.size + 1 + 1, 0, none⟩ : Addr).add j) = some v) := by
                  have := cells_list (setMap ((w1.alloc (.cells (spcells Q) 106)).alloc (.cells #[] 140)) br (.map (entsW (L1 ++ [⟨Q, k, e⟩])) (L1.length + 1))) (setMap ((w1.alloc (.cells (spcells Q) 106)).alloc (.cells #[] 140)) br (.map (entsW (L1 ++ [⟨Q, k, e⟩])) (L1.length + 1))) rfl 138 (plcells ⟨Q, k, e⟩).toArray
                  rw [hzs] at this
                  exact this
                have hl1 : L1.length ≤ 4096 := by rw [HL1.out]; exact HBD.out
                clear hkn
                go_wp2_with (at_builtin; refine wpList_append_block _ rfl (.tmp 61) (.tmp 66) 139 rfl w.heap.size 138 i0 _ 10 80 Tryd.underlying139 hi hz0 hz1 hz2 rfl (by decide) _ _ _ rfl (World.ownsRow.alloc OZ.out _) ⟨w1.heap.size + 1 + 1, 0, none⟩ 1 1 (plcells ⟨Q, k, e⟩) rfl rfl CF.out (by intro u hu; simp [plcells] at hu; rcases hu with rfl | rfl | rfl | rfl | rfl | rfl | rfl | rfl | rfl | rfl <;> rfl) (by decide) (by unfold maxLen; omega) (by omega) (by rw [World.size_alloc, hzs]; omega) ?_)
                intro v7 w7 o7 g7 nn7
                obtain ⟨p1, p2⟩ := LWI.push F2.out B2.out ((Below.refl _ _).alloc (Nat.le_refl _) _) (own_plc o7) g7 B2.out.size
                have p3 := LWI.keep F2.out ((Below.refl _ _).alloc (Nat.le_refl _) _) g7 H2.out
                have P1 := Hid.of p1
                have P2 := Hid.of p2
                have P3 := Hid.of p3
                have HR7 : Hid (RepPL (L1 ++ [⟨Q, k, e⟩]) (l1 ++ [(to, x.2 ++ [(e : Int)])])) := HR1.out.snoc hRep.out
                have HT7 : Hid (TrL (L1 ++ [⟨Q, k, e⟩]) (l1 ++ [(to, x.2 ++ [(e : Int)])])) := HT1.out.snoc HL1.out HX1.out to
                clear p1 p2 p3 o7 g7 nn7 n0 n1 n2 n3 n4 n5 n6 n7 k0 k1 k2 k3 k4 k5 k6 k7 y0 y1 y2 y3 y4 y5 y6 y7 NZ OZ CF lk hu N1 F1 B1 H1 N2 F2 B2 H2 hzs
                go_wp2_with fail
                go_roundw
                case rel => exact ⟨e + 1, L1 ++ [⟨Q, k, e⟩], by go_num, by omega, P1, P2, P3, (by show RepPL _ _; rw [HNX.out]; exact HR7.out), (by show TrL _ _; rw [HNX.out]; exact HT7.out)⟩
                case measure => simp [intOf]; omega
            · have hev2 : e = ev := by omega
              have HLN : Hid (LO ⟨(st : Int), (ev : Int), starts, ars, ends⟩ ⟨(sb : Int), (ev : Int), startsB, arsB, endsB⟩ (k + 1) l1) := by
                have := HLO.out.next hx.out HNO.out (by omega)
                rw [Int.toNat_natCast] at this
                have e2 : l1 = bfRow (bothD ars arsB) x l ev := by rw [HS1.out, hev2]
                rw [e2]; exact this
              have hl4 : L1.length ≤ 4096 := by rw [HL1.out]; exact HBD.out
              have hk1 : k + 1 ≤ L1.length := by
                have := (List.getElem?_eq_some_iff.1 HX1.out).1
                rw [HL1.out]; omega
              clear hev2
              go_wp2_with fail
              go_roundw
              case rel => exact ⟨k + 1, l1, L1, by go_num, hk1, hl4, HF, HB, HR1, HT1, HLN⟩
              case measure => simp [intOf]; omega
      · have hltD : decide ((k : Int) < (L.length : Int)) = false := by simp; omega
        have hltI : ¬ (k : Int) < (L.length : Int) := by omega
        have HW : Hid (outW ⟨(st : Int), (ev : Int), starts, ars, ends⟩ ⟨(sb : Int), (ev : Int), startsB, arsB, endsB⟩ = none) := HLO.out.not (by rw [← HLl.out]; omega)
        go_wp2
        refine bodyPost_ret (v := .tuple #[.slice none 0 0, .bool false]) (by simp [results, go_sem]) rfl ?_
        unfold WLeastPost
        rw [HW.out]
        exact ⟨rfl, HB.out⟩

end Go.Proofs.YtdnglodemkeooaaDoor
