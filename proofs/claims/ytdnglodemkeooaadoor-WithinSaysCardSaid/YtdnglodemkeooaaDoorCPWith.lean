/-
  The walk of within.Within.
-/
import Derived.Test.YtdnglodemkeooaaDoorG56
import Derived.Test.YtdnglodemkeooaaDoorCWLdr
import Derived.Test.YtdnglodemkeooaaDoorCWApt
import Derived.Test.YtdnglodemkeooaaDoorG04
import Derived.Test.YtdnglodemkeooaaDoorG09
namespace Go.Proofs.YtdnglodemkeooaaDoor
open Go.RowKit
set_option linter.unusedVariables false

theorem wleast_out (st sb ev : Nat) (starts startsB : List Int) (ars arsB : List Arr) (ends endsB : List Int) (hma : Hid (mayB ⟨(st : Int), (ev : Int), starts, ars, ends⟩ = true)) (hmb : Hid (mayB ⟨(sb : Int), (ev : Int), startsB, arsB, endsB⟩ = true)) (z1 : st ≤ 6) (z2 : sb ≤ 6) (P0 : SP) (hr0 : Hid (RepSP P0 (starts, startsB))) (pA pB qA qB : Nat) (LA LC : LB) (EA EB : Nat → Nat) (hEA : Hid (Rep EA ends)) (hEB : Hid (Rep EB endsB)) (w : World) (hT : Hid (Tab w)) (hL : Hid (WL w pA pB LA LC ev st sb (tabS ev ars) (tabS ev arsB))) (hqA : Hid (SB w qA EA)) (hqB : Hid (SB w qB EB)) :
    Calls Tryd.prog 87 #[spval P0, .int .i64 ev, wleadV pA pB, lookV qA qB] w fun e w' => ∃ va vc n bl, e = .returned (.tuple #[.slice va n vc, .bool bl]) ∧ n = ((outW ⟨(st : Int), (ev : Int), starts, ars, ends⟩ ⟨(sb : Int), (ev : Int), startsB, arsB, endsB⟩).getD []).length ∧ bl = (outW ⟨(st : Int), (ev : Int), starts, ars, ends⟩ ⟨(sb : Int), (ev : Int), startsB, arsB, endsB⟩).isSome ∧ At w' va ((outW ⟨(st : Int), (ev : Int), starts, ars, ends⟩ ⟨(sb : Int), (ev : Int), startsB, arsB, endsB⟩).getD []) ∧ ((outW ⟨(st : Int), (ev : Int), starts, ars, ends⟩ ⟨(sb : Int), (ev : Int), startsB, arsB, endsB⟩).getD []).length ≤ maxLen ∧ Below w.heap.size w w' := by
  refine (wleast_any st sb ev starts startsB ars arsB ends endsB hma hmb z1 z2 P0 hr0 pA pB qA qB LA LC EA EB hEA hEB w hT hL hqA hqB).mono ?_
  intro e w' hp
  unfold WLeastPost at hp
  cases ho : outW ⟨(st : Int), (ev : Int), starts, ars, ends⟩ ⟨(sb : Int), (ev : Int), startsB, arsB, endsB⟩ with
  | none =>
    rw [ho] at hp
    obtain ⟨rfl, hb⟩ := hp
    exact ⟨none, 0, 0, false, rfl, rfl, rfl, .inl rfl, Nat.zero_le _, hb⟩
  | some u =>
    rw [ho] at hp
    obtain ⟨v, rfl, hv, hb⟩ := hp
    obtain ⟨va, vc, rfl, h1, h2⟩ := Own.at hv
    exact ⟨va, vc, _, true, rfl, rfl, rfl, h1, h2, hb⟩

set_option maxRecDepth 100000 in
set_option maxHeartbeats 16000000 in
theorem pWith_ok (st sb ev : Nat) (starts startsB : List Int) (ars arsB : List Arr) (ends endsB : List Int) (a1 : Option Addr) (c1 : Nat) (a2 : Option Addr) (c2 : Nat) (a3 : Option Addr) (c3 : Nat) (b1 : Option Addr) (d1 : Nat) (b2 : Option Addr) (d2 : Nat) (b3 : Option Addr) (d3 : Nat) (hma : Hid (mayB ⟨(st : Int), (ev : Int), starts, ars, ends⟩ = true)) (hmb : Hid (mayB ⟨(sb : Int), (ev : Int), startsB, arsB, endsB⟩ = true)) (w : World) (h : Hid (MAt w ⟨(st : Int), (ev : Int), starts, ars, ends⟩ ⟨a1, c1, a2, c2, a3, c3⟩)) (h' : Hid (MAt w ⟨(sb : Int), (ev : Int), startsB, arsB, endsB⟩ ⟨b1, d1, b2, d2, b3, d3⟩)) (hT : Hid (Tab w)) (z1 : st ≤ 6) (z2 : sb ≤ 6) :
    Calls Tryd.prog 44 #[mval ⟨(st : Int), (ev : Int), starts, ars, ends⟩ ⟨a1, c1, a2, c2, a3, c3⟩, mval ⟨(sb : Int), (ev : Int), startsB, arsB, endsB⟩ ⟨b1, d1, b2, d2, b3, d3⟩] w fun e w' => WithPost w ⟨(st : Int), (ev : Int), starts, ars, ends⟩ ⟨(sb : Int), (ev : Int), startsB, arsB, endsB⟩ e w' := by
  have B : Hid (Below w.heap.size w ((w.alloc (.cells (mcells ⟨(st : Int), (ev : Int), starts, ars, ends⟩ ⟨a1, c1, a2, c2, a3, c3⟩) 25)).alloc (.cells (mcells ⟨(sb : Int), (ev : Int), startsB, arsB, endsB⟩ ⟨b1, d1, b2, d2, b3, d3⟩) 25))) := ((Below.refl _ _).alloc (Nat.le_refl _) _).alloc (by simp) _
  have KA : Hid (Blk ((w.alloc (.cells (mcells ⟨(st : Int), (ev : Int), starts, ars, ends⟩ ⟨a1, c1, a2, c2, a3, c3⟩) 25)).alloc (.cells (mcells ⟨(sb : Int), (ev : Int), startsB, arsB, endsB⟩ ⟨b1, d1, b2, d2, b3, d3⟩) 25)) w.heap.size 25 (mcells ⟨(st : Int), (ev : Int), starts, ars, ends⟩ ⟨a1, c1, a2, c2, a3, c3⟩)) := (Blk.new w _ _).alloc _
  have KB : Hid (Blk ((w.alloc (.cells (mcells ⟨(st : Int), (ev : Int), starts, ars, ends⟩ ⟨a1, c1, a2, c2, a3, c3⟩) 25)).alloc (.cells (mcells ⟨(sb : Int), (ev : Int), startsB, arsB, endsB⟩ ⟨b1, d1, b2, d2, b3, d3⟩) 25)) (w.heap.size + 1) 25 (mcells ⟨(sb : Int), (ev : Int), startsB, arsB, endsB⟩ ⟨b1, d1, b2, d2, b3, d3⟩)) := by
    have := Blk.new (w.alloc (.cells (mcells ⟨(st : Int), (ev : Int), starts, ars, ends⟩ ⟨a1, c1, a2, c2, a3, c3⟩) 25)) 25 (mcells ⟨(sb : Int), (ev : Int), startsB, arsB, endsB⟩ ⟨b1, d1, b2, d2, b3, d3⟩)
    rwa [World.size_alloc] at this
  have hza := mayB_size hma.out
  have hzb := mayB_size hmb.out
  unfold sizeOk at hza hzb
  dsimp only at hza hzb
  have hst : st ≤ 256 := by omega
  have hsb : sb ≤ 256 := by omega
  have hev : ev ≤ 8 := by omega
  have hlA : Hid (ars.length ≤ 4096) := show _ ≤ _ by omega
  have hlB : Hid (arsB.length ≤ 4096) := show _ ≤ _ by omega
  clear hza hzb
  have SA : Hid (∀ W, Blk W w.heap.size 25 (mcells ⟨(st : Int), (ev : Int), starts, ars, ends⟩ ⟨a1, c1, a2, c2, a3, c3⟩) → Blk W (w.heap.size + 1) 25 (mcells ⟨(sb : Int), (ev : Int), startsB, arsB, endsB⟩ ⟨b1, d1, b2, d2, b3, d3⟩) → W.cell? ⟨w.heap.size, 0, none⟩ = some (.int .i64 st) ∧ W.cell? ⟨w.heap.size, 1, none⟩ = some (.int .i64 ev) ∧ W.cell? ⟨w.heap.size, 2, none⟩ = some (.slice a1 starts.length c1) ∧ W.cell? ⟨w.heap.size, 3, none⟩ = some (.slice a2 ars.length c2) ∧ W.cell? ⟨w.heap.size, 4, none⟩ = some (.slice a3 ends.length c3) ∧ W.cell? ⟨w.heap.size + 1, 0, none⟩ = some (.int .i64 sb) ∧ W.cell? ⟨w.heap.size + 1, 1, none⟩ = some (.int .i64 ev) ∧ W.cell? ⟨w.heap.size + 1, 2, none⟩ = some (.slice b1 startsB.length d1) ∧ W.cell? ⟨w.heap.size + 1, 3, none⟩ = some (.slice b2 arsB.length d2) ∧ W.cell? ⟨w.heap.size + 1, 4, none⟩ = some (.slice b3 endsB.length d3)) := fun W h1 h2 => by
    obtain ⟨x0, x1, x2, x3, x4⟩ := mcell_at h1
    obtain ⟨y0, y1, y2, y3, y4⟩ := mcell_at h2
    exact ⟨x0, x1, x2, x3, x4, y0, y1, y2, y3, y4⟩
  have slA : Hid (starts.length ≤ maxLen) := Nat.le_trans h.out.s1 h.out.s2
  have slB : Hid (startsB.length ≤ maxLen) := Nat.le_trans h'.out.s1 h'.out.s2
  have sbA : Hid (∀ x ∈ starts, 0 ≤ x ∧ x < 256) := fun x hx => by have := (may_starts hma.out).2 x hx; dsimp only at this; omega
  have sbB : Hid (∀ x ∈ startsB, 0 ≤ x ∧ x < 256) := fun x hx => by have := (may_starts hmb.out).2 x hx; dsimp only at this; omega
  have ebA : Hid (∀ x ∈ ends, 0 ≤ x ∧ x < 256) := fun x hx => by have := (may_ends hma.out).2 x hx; dsimp only at this; omega
  have ebB : Hid (∀ x ∈ endsB, 0 ≤ x ∧ x < 256) := fun x hx => by have := (may_ends hmb.out).2 x hx; dsimp only at this; omega
  have rall : ∀ {l : List Int}, (∀ x ∈ l, 0 ≤ x ∧ x < 256) → Rep (ofS l) l := fun {l} hl => by
    have := rep_of hl l.length
    rwa [List.take_of_length_le (Nat.le_refl _)] at this
  have hr0 : Hid (RepSP ⟨ofS starts, ofS startsB⟩ (starts, startsB)) := ⟨rall sbA.out, rall sbB.out, (may_starts hma.out).1, (may_starts hmb.out).1⟩
  have hEA : Hid (Rep (ofS ends) ends) := rall ebA.out
  have hEB : Hid (Rep (ofS endsB) endsB) := rall ebB.out
  have HW : Hid (withOut ⟨(st : Int), (ev : Int), starts, ars, ends⟩ ⟨(sb : Int), (ev : Int), startsB, arsB, endsB⟩ = ((outW ⟨(st : Int), (ev : Int), starts, ars, ends⟩ ⟨(sb : Int), (ev : Int), startsB, arsB, endsB⟩).isNone, (outW ⟨(st : Int), (ev : Int), starts, ars, ends⟩ ⟨(sb : Int), (ev : Int), startsB, arsB, endsB⟩).getD [], 0)) := by
    show _ = _
    unfold withOut
    rw [if_pos ⟨hma.out, hmb.out⟩, if_pos rfl, if_pos ⟨by dsimp only; omega, by dsimp only; omega⟩]
  have HRB : Hid (refB ⟨(st : Int), (ev : Int), starts, ars, ends⟩ ⟨(sb : Int), (ev : Int), startsB, arsB, endsB⟩ = 0) := by show _ = _; unfold refB; rw [HW.out]
  clear rall
  go_enter Tryd.func44, Tryd.ntmps44
  go_wp2_with fail
  revert B KA KB
  generalize ((w.alloc (.cells (mcells ⟨(st : Int), (ev : Int), starts, ars, ends⟩ ⟨a1, c1, a2, c2, a3, c3⟩) 25)).alloc (.cells (mcells ⟨(sb : Int), (ev : Int), startsB, arsB, endsB⟩ ⟨b1, d1, b2, d2, b3, d3⟩) 25)) = V0
  intro B KA KB
  refine (wrefuse_any _ _ _ _ V0 (Hid.of (h.out.below B.out (Nat.le_refl _))) (Hid.of (h'.out.below B.out (Nat.le_refl _)))).mono ?_
  rintro e V1 ⟨rfl, hb⟩
  rw [HRB.out]
  replace B := Hid.of (B.out.trans (hb.mono B.out.size))
  replace KA := Hid.of (KA.out.below hb KA.out.lt)
  replace KB := Hid.of (KB.out.below hb KB.out.lt)
  clear hb
  go_wp2
  refine Code.wp_mono (Q := regQ fun a' W' => ∃ (p8 : Nat) (r17 r18 r19 r20 r21 r22 r23 : Value), a' = { tmps := #[mval ⟨(st : Int), (ev : Int), starts, ars, ends⟩ ⟨a1, c1, a2, c2, a3, c3⟩, mval ⟨(sb : Int), (ev : Int), startsB, arsB, endsB⟩ ⟨b1, d1, b2, d2, b3, d3⟩, .pointer (some ⟨w.heap.size, 0, none⟩), .pointer (some ⟨w.heap.size + 1, 0, none⟩), .bool false, .slice none 0 0, .int .i64 0, .int .i64 0, .pointer (some ⟨p8, 0, none⟩), undef, undef, mval ⟨(st : Int), (ev : Int), starts, ars, ends⟩ ⟨a1, c1, a2, c2, a3, c3⟩, mval ⟨(sb : Int), (ev : Int), startsB, arsB, endsB⟩ ⟨b1, d1, b2, d2, b3, d3⟩, .int .i64 0, .int .i64 0, .bool false, undef, r17, r18, r19, r20, r21, r22, r23, undef, undef, undef, undef, undef, undef, undef, undef, undef, undef, undef, undef, undef, undef, undef, undef], defers := [] } ∧ w.heap.size + 1 + 1 ≤ p8 ∧ PBk W' p8 ⟨ofS starts, ofS startsB⟩ ∧ Blk W' w.heap.size 25 (mcells ⟨(st : Int), (ev : Int), starts, ars, ends⟩ ⟨a1, c1, a2, c2, a3, c3⟩) ∧ Blk W' (w.heap.size + 1) 25 (mcells ⟨(sb : Int), (ev : Int), startsB, arsB, endsB⟩ ⟨b1, d1, b2, d2, b3, d3⟩) ∧ Below w.heap.size w W') ?aft ?reg
  case reg =>
    refine wp_region_held_drew (S := fun w' => w'.cell? ⟨w.heap.size, 0, none⟩ = some (.int .i64 st) ∧ w'.cell? ⟨w.heap.size, 1, none⟩ = some (.int .i64 ev) ∧ w'.cell? ⟨w.heap.size, 2, none⟩ = some (.slice a1 starts.length c1) ∧ w'.cell? ⟨w.heap.size, 3, none⟩ = some (.slice a2 ars.length c2) ∧ w'.cell? ⟨w.heap.size, 4, none⟩ = some (.slice a3 ends.length c3) ∧ w'.cell? ⟨w.heap.size + 1, 0, none⟩ = some (.int .i64 sb) ∧ w'.cell? ⟨w.heap.size + 1, 1, none⟩ = some (.int .i64 ev) ∧ w'.cell? ⟨w.heap.size + 1, 2, none⟩ = some (.slice b1 startsB.length d1) ∧ w'.cell? ⟨w.heap.size + 1, 3, none⟩ = some (.slice b2 arsB.length d2) ∧ w'.cell? ⟨w.heap.size + 1, 4, none⟩ = some (.slice b3 endsB.length d3)) (by kernel_rfl) (SA.out _ (Blk.drew KA.out) (Blk.drew KB.out)) (fun hS => ?_)
    replace B : Hid (Below w.heap.size w V1.drew) := B.out.drew
    replace KA : Hid (Blk V1.drew w.heap.size 25 (mcells ⟨(st : Int), (ev : Int), starts, ars, ends⟩ ⟨a1, c1, a2, c2, a3, c3⟩)) := Blk.drew KA.out
    replace KB : Hid (Blk V1.drew (w.heap.size + 1) 25 (mcells ⟨(sb : Int), (ev : Int), startsB, arsB, endsB⟩ ⟨b1, d1, b2, d2, b3, d3⟩)) := Blk.drew KB.out
    revert hS B KA KB
    generalize V1.drew = Y0
    intro hS B KA KB
    refine wpAnyH_take (i := 0) (v := .pointer (some ⟨w.heap.size, 2, none⟩)) rfl (by kernel_rfl) (by kernel_rfl) (by kernel_rfl) (fun _ _ _ h => h) (Or.inl ⟨by kernel_rfl, fun w' hw' => by obtain ⟨q0, q1, q2, q3, q4, q5, q6, q7, q8, q9⟩ := hw'; go_simp⟩) hS ?_
    refine wpAnyH_take (i := 1) (v := .slice a1 starts.length c1) rfl (by kernel_rfl) (by kernel_rfl) (by kernel_rfl) (fun _ _ _ h => h) (Or.inl ⟨by kernel_rfl, fun w' hw' => by obtain ⟨q0, q1, q2, q3, q4, q5, q6, q7, q8, q9⟩ := hw'; go_simp⟩) hS ?_
    refine wpAnyH_take (i := 3) (v := .pointer (some ⟨w.heap.size + 1, 2, none⟩)) rfl (by kernel_rfl) (by kernel_rfl) (by kernel_rfl) (fun _ _ _ h => h) (Or.inl ⟨by kernel_rfl, fun w' hw' => by obtain ⟨q0, q1, q2, q3, q4, q5, q6, q7, q8, q9⟩ := hw'; go_simp⟩) hS ?_
    refine wpAnyH_take (i := 4) (v := .slice b1 startsB.length d1) rfl (by kernel_rfl) (by kernel_rfl) (by kernel_rfl) (fun _ _ _ h => h) (Or.inl ⟨by kernel_rfl, fun w' hw' => by obtain ⟨q0, q1, q2, q3, q4, q5, q6, q7, q8, q9⟩ := hw'; go_simp⟩) hS ?_
    simp only [Act.put, List.setIfInBounds_toArray]
    refine wpAnyH_ready (rs := [2, 7]) (by kernel_rfl) (by simp) ?_
    refine AllReadyH.cons rfl (fun K' hK' => ?_) (AllReadyH.cons rfl (fun K' hK' => ?_) AllReadyH.nil)
    · clear hS
      go_simp
      refine (of_any a1 c1 starts Y0 (h.out.s.below B.out (Nat.le_refl _)) slA.out sbA.out).mono ?_
      rintro e Y1 ⟨rfl, hb⟩
      replace B := Hid.of (B.out.trans (hb.mono B.out.size))
      replace KA := Hid.of (KA.out.below hb KA.out.lt)
      replace KB := Hid.of (KB.out.below hb KB.out.lt)
      refine hK'.out _ _ (SA.out _ KA.out KB.out) (fun hS => ?_)
      clear hK' K' hb
      refine wpAnyH_ready (rs := [5, 7]) (by kernel_rfl) (by simp) ?_
      refine AllReadyH.cons rfl (fun K' hK' => ?_) (AllReadyH.cons rfl (fun K' hK' => ?_) AllReadyH.nil)
      · clear hS
        go_simp
        refine (of_any b1 d1 startsB Y1 (h'.out.s.below B.out (Nat.le_refl _)) slB.out sbB.out).mono ?_
        rintro e Y2 ⟨rfl, hb⟩
        replace B := Hid.of (B.out.trans (hb.mono B.out.size))
        replace KA := Hid.of (KA.out.below hb KA.out.lt)
        replace KB := Hid.of (KB.out.below hb KB.out.lt)
        refine hK'.out _ _ (SA.out _ KA.out KB.out) (fun hS => ?_)
        clear hK' K' hb
        refine wpAnyH_take (i := 6) (v := spval ⟨ofS starts, ofS startsB⟩) rfl (by kernel_rfl) (by kernel_rfl) (by kernel_rfl) (fun _ _ _ h => h) (Or.inl ⟨by kernel_rfl, fun w' hw' => by obtain ⟨q0, q1, q2, q3, q4, q5, q6, q7, q8, q9⟩ := hw'; go_simp⟩) hS ?_
        refine wpAnyH_ready (rs := [7]) (by kernel_rfl) (by simp) ?_
        refine AllReadyH.cons rfl (fun K' hK' => ?_) AllReadyH.nil
        clear hS
        go_simp
        have hb : Below Y2.heap.size Y2 (Y2.alloc (.cells #[.int .u64 0, .int .u64 0, .int .u64 0, .int .u64 0, .int .u64 0, .int .u64 0, .int .u64 0, .int .u64 0] 106)) := (Below.refl _ _).alloc (Nat.le_refl _) _
        have P8 := Hid.of (Nat.le_trans (Nat.succ_le_of_lt KB.out.lt) (Nat.le_refl Y2.heap.size))
        replace B := Hid.of (B.out.trans (hb.mono B.out.size))
        replace KA := Hid.of (KA.out.below hb KA.out.lt)
        replace KB := Hid.of (KB.out.below hb KB.out.lt)
        have K8 := Hid.of (Blk.new Y2 106 #[.int .u64 0, .int .u64 0, .int .u64 0, .int .u64 0, .int .u64 0, .int .u64 0, .int .u64 0, .int .u64 0])
        refine hK'.out _ _ (SA.out _ KA.out KB.out) (fun hS => ?_)
        clear hK' K' hb
        revert P8 B KA KB K8 hS
        generalize Y2.alloc (.cells #[.int .u64 0, .int .u64 0, .int .u64 0, .int .u64 0, .int .u64 0, .int .u64 0, .int .u64 0, .int .u64 0] 106) = Y3
        generalize Y2.heap.size = p8
        intro P8 B KA KB K8 hS
        refine wpAnyH_ready (rs := [8]) (by kernel_rfl) (by simp) ?_
        refine AllReadyH.cons rfl (fun K' hK' => ?_) AllReadyH.nil
        have f8 := K8.out.frozen
        have z0 := K8.out.cell 0 rfl
        have z1 := K8.out.cell 1 rfl
        have z2 := K8.out.cell 2 rfl
        have z3 := K8.out.cell 3 rfl
        have z4 := K8.out.cell 4 rfl
        have z5 := K8.out.cell 5 rfl
        have z6 := K8.out.cell 6 rfl
        have z7 := K8.out.cell 7 rfl
        go_simp
        replace B := Hid.of (below_set8 B.out (b' := p8) (show w.heap.size ≤ p8 by have := P8.out; omega) (.int .u64 (ofS starts 0)) (.int .u64 (ofS starts 1)) (.int .u64 (ofS starts 2)) (.int .u64 (ofS starts 3)) (.int .u64 (ofS startsB 0)) (.int .u64 (ofS startsB 1)) (.int .u64 (ofS startsB 2)) (.int .u64 (ofS startsB 3)))
        replace KA := Hid.of (Blk.other4' (Blk.other4' KA.out 0 (show w.heap.size ≠ p8 by have := P8.out; omega) (.int .u64 (ofS starts 0)) (.int .u64 (ofS starts 1)) (.int .u64 (ofS starts 2)) (.int .u64 (ofS starts 3))) 4 (show w.heap.size ≠ p8 by have := P8.out; omega) (.int .u64 (ofS startsB 0)) (.int .u64 (ofS startsB 1)) (.int .u64 (ofS startsB 2)) (.int .u64 (ofS startsB 3)))
        replace KB := Hid.of (Blk.other4' (Blk.other4' KB.out 0 (show w.heap.size + 1 ≠ p8 by have := P8.out; omega) (.int .u64 (ofS starts 0)) (.int .u64 (ofS starts 1)) (.int .u64 (ofS starts 2)) (.int .u64 (ofS starts 3))) 4 (show w.heap.size + 1 ≠ p8 by have := P8.out; omega) (.int .u64 (ofS startsB 0)) (.int .u64 (ofS startsB 1)) (.int .u64 (ofS startsB 2)) (.int .u64 (ofS startsB 3)))
        replace K8 := Hid.of (PBk.set8 K8.out ⟨ofS starts, ofS startsB⟩)
        refine hK'.out _ _ (SA.out _ KA.out KB.out) (fun hS6 => ?_)
        clear hK' K' f8 z0 z1 z2 z3 z4 z5 z6 z7 hS hS6
        refine wpAnyH_done (by kernel_rfl) ?_ _
        exact ⟨p8, _, _, _, _, _, _, _, rfl, P8.out, K8.out, KA.out, KB.out, B.out⟩
      · clear hS
        go_simp
        have hb : Below Y1.heap.size Y1 (Y1.alloc (.cells #[.int .u64 0, .int .u64 0, .int .u64 0, .int .u64 0, .int .u64 0, .int .u64 0, .int .u64 0, .int .u64 0] 106)) := (Below.refl _ _).alloc (Nat.le_refl _) _
        have P8 := Hid.of (Nat.le_trans (Nat.succ_le_of_lt KB.out.lt) (Nat.le_refl Y1.heap.size))
        replace B := Hid.of (B.out.trans (hb.mono B.out.size))
        replace KA := Hid.of (KA.out.below hb KA.out.lt)
        replace KB := Hid.of (KB.out.below hb KB.out.lt)
        have K8 := Hid.of (Blk.new Y1 106 #[.int .u64 0, .int .u64 0, .int .u64 0, .int .u64 0, .int .u64 0, .int .u64 0, .int .u64 0, .int .u64 0])
        refine hK'.out _ _ (SA.out _ KA.out KB.out) (fun hS => ?_)
        clear hK' K' hb
        revert P8 B KA KB K8 hS
        generalize Y1.alloc (.cells #[.int .u64 0, .int .u64 0, .int .u64 0, .int .u64 0, .int .u64 0, .int .u64 0, .int .u64 0, .int .u64 0] 106) = Y4
        generalize Y1.heap.size = p8
        intro P8 B KA KB K8 hS
        refine wpAnyH_ready (rs := [5]) (by kernel_rfl) (by simp) ?_
        refine AllReadyH.cons rfl (fun K' hK' => ?_) AllReadyH.nil
        clear hS
        go_simp
        refine (of_any b1 d1 startsB Y4 (h'.out.s.below B.out (Nat.le_refl _)) slB.out sbB.out).mono ?_
        rintro e Y5 ⟨rfl, hb⟩
        replace B := Hid.of (B.out.trans (hb.mono B.out.size))
        replace KA := Hid.of (KA.out.below hb KA.out.lt)
        replace KB := Hid.of (KB.out.below hb KB.out.lt)
        replace K8 := Hid.of (K8.out.below hb K8.out.lt)
        refine hK'.out _ _ (SA.out _ KA.out KB.out) (fun hS => ?_)
        clear hK' K' hb
        refine wpAnyH_take (i := 6) (v := spval ⟨ofS starts, ofS startsB⟩) rfl (by kernel_rfl) (by kernel_rfl) (by kernel_rfl) (fun _ _ _ h => h) (Or.inl ⟨by kernel_rfl, fun w' hw' => by obtain ⟨q0, q1, q2, q3, q4, q5, q6, q7, q8, q9⟩ := hw'; go_simp⟩) hS ?_
        refine wpAnyH_ready (rs := [8]) (by kernel_rfl) (by simp) ?_
        refine AllReadyH.cons rfl (fun K' hK' => ?_) AllReadyH.nil
        have f8 := K8.out.frozen
        have z0 := K8.out.cell 0 rfl
        have z1 := K8.out.cell 1 rfl
        have z2 := K8.out.cell 2 rfl
        have z3 := K8.out.cell 3 rfl
        have z4 := K8.out.cell 4 rfl
        have z5 := K8.out.cell 5 rfl
        have z6 := K8.out.cell 6 rfl
        have z7 := K8.out.cell 7 rfl
        go_simp
        replace B := Hid.of (below_set8 B.out (b' := p8) (show w.heap.size ≤ p8 by have := P8.out; omega) (.int .u64 (ofS starts 0)) (.int .u64 (ofS starts 1)) (.int .u64 (ofS starts 2)) (.int .u64 (ofS starts 3)) (.int .u64 (ofS startsB 0)) (.int .u64 (ofS startsB 1)) (.int .u64 (ofS startsB 2)) (.int .u64 (ofS startsB 3)))
        replace KA := Hid.of (Blk.other4' (Blk.other4' KA.out 0 (show w.heap.size ≠ p8 by have := P8.out; omega) (.int .u64 (ofS starts 0)) (.int .u64 (ofS starts 1)) (.int .u64 (ofS starts 2)) (.int .u64 (ofS starts 3))) 4 (show w.heap.size ≠ p8 by have := P8.out; omega) (.int .u64 (ofS startsB 0)) (.int .u64 (ofS startsB 1)) (.int .u64 (ofS startsB 2)) (.int .u64 (ofS startsB 3)))
        replace KB := Hid.of (Blk.other4' (Blk.other4' KB.out 0 (show w.heap.size + 1 ≠ p8 by have := P8.out; omega) (.int .u64 (ofS starts 0)) (.int .u64 (ofS starts 1)) (.int .u64 (ofS starts 2)) (.int .u64 (ofS starts 3))) 4 (show w.heap.size + 1 ≠ p8 by have := P8.out; omega) (.int .u64 (ofS startsB 0)) (.int .u64 (ofS startsB 1)) (.int .u64 (ofS startsB 2)) (.int .u64 (ofS startsB 3)))
        replace K8 := Hid.of (PBk.set8 K8.out ⟨ofS starts, ofS startsB⟩)
        refine hK'.out _ _ (SA.out _ KA.out KB.out) (fun hS6 => ?_)
        clear hK' K' f8 z0 z1 z2 z3 z4 z5 z6 z7 hS hS6
        refine wpAnyH_done (by kernel_rfl) ?_ _
        exact ⟨p8, _, _, _, _, _, _, _, rfl, P8.out, K8.out, KA.out, KB.out, B.out⟩
    · clear hS
      go_simp
      have hb : Below Y0.heap.size Y0 (Y0.alloc (.cells #[.int .u64 0, .int .u64 0, .int .u64 0, .int .u64 0, .int .u64 0, .int .u64 0, .int .u64 0, .int .u64 0] 106)) := (Below.refl _ _).alloc (Nat.le_refl _) _
      have P8 := Hid.of (Nat.le_trans (Nat.succ_le_of_lt KB.out.lt) (Nat.le_refl Y0.heap.size))
      replace B := Hid.of (B.out.trans (hb.mono B.out.size))
      replace KA := Hid.of (KA.out.below hb KA.out.lt)
      replace KB := Hid.of (KB.out.below hb KB.out.lt)
      have K8 := Hid.of (Blk.new Y0 106 #[.int .u64 0, .int .u64 0, .int .u64 0, .int .u64 0, .int .u64 0, .int .u64 0, .int .u64 0, .int .u64 0])
      refine hK'.out _ _ (SA.out _ KA.out KB.out) (fun hS => ?_)
      clear hK' K' hb
      revert P8 B KA KB K8 hS
      generalize Y0.alloc (.cells #[.int .u64 0, .int .u64 0, .int .u64 0, .int .u64 0, .int .u64 0, .int .u64 0, .int .u64 0, .int .u64 0] 106) = Y6
      generalize Y0.heap.size = p8
      intro P8 B KA KB K8 hS
      refine wpAnyH_ready (rs := [2]) (by kernel_rfl) (by simp) ?_
      refine AllReadyH.cons rfl (fun K' hK' => ?_) AllReadyH.nil
      clear hS
      go_simp
      refine (of_any a1 c1 starts Y6 (h.out.s.below B.out (Nat.le_refl _)) slA.out sbA.out).mono ?_
      rintro e Y7 ⟨rfl, hb⟩
      replace B := Hid.of (B.out.trans (hb.mono B.out.size))
      replace KA := Hid.of (KA.out.below hb KA.out.lt)
      replace KB := Hid.of (KB.out.below hb KB.out.lt)
      replace K8 := Hid.of (K8.out.below hb K8.out.lt)
      refine hK'.out _ _ (SA.out _ KA.out KB.out) (fun hS => ?_)
      clear hK' K' hb
      refine wpAnyH_ready (rs := [5]) (by kernel_rfl) (by simp) ?_
      refine AllReadyH.cons rfl (fun K' hK' => ?_) AllReadyH.nil
      clear hS
      go_simp
      refine (of_any b1 d1 startsB Y7 (h'.out.s.below B.out (Nat.le_refl _)) slB.out sbB.out).mono ?_
      rintro e Y8 ⟨rfl, hb⟩
      replace B := Hid.of (B.out.trans (hb.mono B.out.size))
      replace KA := Hid.of (KA.out.below hb KA.out.lt)
      replace KB := Hid.of (KB.out.below hb KB.out.lt)
      replace K8 := Hid.of (K8.out.below hb K8.out.lt)
      refine hK'.out _ _ (SA.out _ KA.out KB.out) (fun hS => ?_)
      clear hK' K' hb
      refine wpAnyH_take (i := 6) (v := spval ⟨ofS starts, ofS startsB⟩) rfl (by kernel_rfl) (by kernel_rfl) (by kernel_rfl) (fun _ _ _ h => h) (Or.inl ⟨by kernel_rfl, fun w' hw' => by obtain ⟨q0, q1, q2, q3, q4, q5, q6, q7, q8, q9⟩ := hw'; go_simp⟩) hS ?_
      refine wpAnyH_ready (rs := [8]) (by kernel_rfl) (by simp) ?_
      refine AllReadyH.cons rfl (fun K' hK' => ?_) AllReadyH.nil
      have f8 := K8.out.frozen
      have z0 := K8.out.cell 0 rfl
      have z1 := K8.out.cell 1 rfl
      have z2 := K8.out.cell 2 rfl
      have z3 := K8.out.cell 3 rfl
      have z4 := K8.out.cell 4 rfl
      have z5 := K8.out.cell 5 rfl
      have z6 := K8.out.cell 6 rfl
      have z7 := K8.out.cell 7 rfl
      go_simp
      replace B := Hid.of (below_set8 B.out (b' := p8) (show w.heap.size ≤ p8 by have := P8.out; omega) (.int .u64 (ofS starts 0)) (.int .u64 (ofS starts 1)) (.int .u64 (ofS starts 2)) (.int .u64 (ofS starts 3)) (.int .u64 (ofS startsB 0)) (.int .u64 (ofS startsB 1)) (.int .u64 (ofS startsB 2)) (.int .u64 (ofS startsB 3)))
      replace KA := Hid.of (Blk.other4' (Blk.other4' KA.out 0 (show w.heap.size ≠ p8 by have := P8.out; omega) (.int .u64 (ofS starts 0)) (.int .u64 (ofS starts 1)) (.int .u64 (ofS starts 2)) (.int .u64 (ofS starts 3))) 4 (show w.heap.size ≠ p8 by have := P8.out; omega) (.int .u64 (ofS startsB 0)) (.int .u64 (ofS startsB 1)) (.int .u64 (ofS startsB 2)) (.int .u64 (ofS startsB 3)))
      replace KB := Hid.of (Blk.other4' (Blk.other4' KB.out 0 (show w.heap.size + 1 ≠ p8 by have := P8.out; omega) (.int .u64 (ofS starts 0)) (.int .u64 (ofS starts 1)) (.int .u64 (ofS starts 2)) (.int .u64 (ofS starts 3))) 4 (show w.heap.size + 1 ≠ p8 by have := P8.out; omega) (.int .u64 (ofS startsB 0)) (.int .u64 (ofS startsB 1)) (.int .u64 (ofS startsB 2)) (.int .u64 (ofS startsB 3)))
      replace K8 := Hid.of (PBk.set8 K8.out ⟨ofS starts, ofS startsB⟩)
      refine hK'.out _ _ (SA.out _ KA.out KB.out) (fun hS6 => ?_)
      clear hK' K' f8 z0 z1 z2 z3 z4 z5 z6 z7 hS hS6
      refine wpAnyH_done (by kernel_rfl) ?_ _
      exact ⟨p8, _, _, _, _, _, _, _, rfl, P8.out, K8.out, KA.out, KB.out, B.out⟩
  case aft =>
    refine regQ_imp ?_
    rintro a' V2 ⟨p8, r17, r18, r19, r20, r21, r22, r23, rfl, q1, q2, q3, q4, q5⟩
    clear B KA KB
    have P8 := Hid.of q1
    have K8 := Hid.of q2
    have KA := Hid.of q3
    have KB := Hid.of q4
    have B := Hid.of q5
    clear q1 q2 q3 q4 q5
    have SB5 : Hid (∀ W, Blk W w.heap.size 25 (mcells ⟨(st : Int), (ev : Int), starts, ars, ends⟩ ⟨a1, c1, a2, c2, a3, c3⟩) → Blk W (w.heap.size + 1) 25 (mcells ⟨(sb : Int), (ev : Int), startsB, arsB, endsB⟩ ⟨b1, d1, b2, d2, b3, d3⟩) → PBk W p8 ⟨ofS starts, ofS startsB⟩ → W.cell? ⟨w.heap.size, 0, none⟩ = some (.int .i64 st) ∧ W.cell? ⟨w.heap.size, 1, none⟩ = some (.int .i64 ev) ∧ W.cell? ⟨w.heap.size, 2, none⟩ = some (.slice a1 starts.length c1) ∧ W.cell? ⟨w.heap.size, 3, none⟩ = some (.slice a2 ars.length c2) ∧ W.cell? ⟨w.heap.size, 4, none⟩ = some (.slice a3 ends.length c3) ∧ W.cell? ⟨w.heap.size + 1, 0, none⟩ = some (.int .i64 sb) ∧ W.cell? ⟨w.heap.size + 1, 1, none⟩ = some (.int .i64 ev) ∧ W.cell? ⟨w.heap.size + 1, 2, none⟩ = some (.slice b1 startsB.length d1) ∧ W.cell? ⟨w.heap.size + 1, 3, none⟩ = some (.slice b2 arsB.length d2) ∧ W.cell? ⟨w.heap.size + 1, 4, none⟩ = some (.slice b3 endsB.length d3) ∧ W.cell? ⟨p8, 0, none⟩ = some (.int .u64 (ofS starts 0)) ∧ W.cell? ⟨p8, 1, none⟩ = some (.int .u64 (ofS starts 1)) ∧ W.cell? ⟨p8, 2, none⟩ = some (.int .u64 (ofS starts 2)) ∧ W.cell? ⟨p8, 3, none⟩ = some (.int .u64 (ofS starts 3)) ∧ W.cell? ⟨p8, 4, none⟩ = some (.int .u64 (ofS startsB 0)) ∧ W.cell? ⟨p8, 5, none⟩ = some (.int .u64 (ofS startsB 1)) ∧ W.cell? ⟨p8, 6, none⟩ = some (.int .u64 (ofS startsB 2)) ∧ W.cell? ⟨p8, 7, none⟩ = some (.int .u64 (ofS startsB 3))) := fun W h1 h2 h3 => by
      obtain ⟨x0, x1, x2, x3, x4⟩ := mcell_at h1
      obtain ⟨y0, y1, y2, y3, y4⟩ := mcell_at h2
      obtain ⟨u0, u1, u2, u3, u4, u5, u6, u7⟩ := PBk.cells h3
      exact ⟨x0, x1, x2, x3, x4, y0, y1, y2, y3, y4, u0, u1, u2, u3, u4, u5, u6, u7⟩
    go_wp2_with fail
    refine wp_region_held_drew (S := fun w' => w'.cell? ⟨w.heap.size, 0, none⟩ = some (.int .i64 st) ∧ w'.cell? ⟨w.heap.size, 1, none⟩ = some (.int .i64 ev) ∧ w'.cell? ⟨w.heap.size, 2, none⟩ = some (.slice a1 starts.length c1) ∧ w'.cell? ⟨w.heap.size, 3, none⟩ = some (.slice a2 ars.length c2) ∧ w'.cell? ⟨w.heap.size, 4, none⟩ = some (.slice a3 ends.length c3) ∧ w'.cell? ⟨w.heap.size + 1, 0, none⟩ = some (.int .i64 sb) ∧ w'.cell? ⟨w.heap.size + 1, 1, none⟩ = some (.int .i64 ev) ∧ w'.cell? ⟨w.heap.size + 1, 2, none⟩ = some (.slice b1 startsB.length d1) ∧ w'.cell? ⟨w.heap.size + 1, 3, none⟩ = some (.slice b2 arsB.length d2) ∧ w'.cell? ⟨w.heap.size + 1, 4, none⟩ = some (.slice b3 endsB.length d3) ∧ w'.cell? ⟨p8, 0, none⟩ = some (.int .u64 (ofS starts 0)) ∧ w'.cell? ⟨p8, 1, none⟩ = some (.int .u64 (ofS starts 1)) ∧ w'.cell? ⟨p8, 2, none⟩ = some (.int .u64 (ofS starts 2)) ∧ w'.cell? ⟨p8, 3, none⟩ = some (.int .u64 (ofS starts 3)) ∧ w'.cell? ⟨p8, 4, none⟩ = some (.int .u64 (ofS startsB 0)) ∧ w'.cell? ⟨p8, 5, none⟩ = some (.int .u64 (ofS startsB 1)) ∧ w'.cell? ⟨p8, 6, none⟩ = some (.int .u64 (ofS startsB 2)) ∧ w'.cell? ⟨p8, 7, none⟩ = some (.int .u64 (ofS startsB 3))) (by kernel_rfl) (SB5.out _ (Blk.drew KA.out) (Blk.drew KB.out) (Blk.drew K8.out)) (fun hS => ?_)
    replace B : Hid (Below w.heap.size w V2.drew) := B.out.drew
    replace KA : Hid (Blk V2.drew w.heap.size 25 (mcells ⟨(st : Int), (ev : Int), starts, ars, ends⟩ ⟨a1, c1, a2, c2, a3, c3⟩)) := Blk.drew KA.out
    replace KB : Hid (Blk V2.drew (w.heap.size + 1) 25 (mcells ⟨(sb : Int), (ev : Int), startsB, arsB, endsB⟩ ⟨b1, d1, b2, d2, b3, d3⟩)) := Blk.drew KB.out
    replace K8 : Hid (PBk V2.drew p8 ⟨ofS starts, ofS startsB⟩) := Blk.drew K8.out
    revert hS B KA KB K8
    generalize V2.drew = Y0
    intro hS B KA KB K8
    refine wpAnyH_take (i := 0) (v := spval ⟨ofS starts, ofS startsB⟩) rfl (by kernel_rfl) (by kernel_rfl) (by kernel_rfl) (fun _ _ _ h => h) (Or.inl ⟨by kernel_rfl, fun w' hw' => by obtain ⟨q0, q1, q2, q3, q4, q5, q6, q7, q8, q9, q10, q11, q12, q13, q14, q15, q16, q17⟩ := hw'; go_simp⟩) hS ?_
    refine wpAnyH_take (i := 1) (v := .pointer (some ⟨w.heap.size, 1, none⟩)) rfl (by kernel_rfl) (by kernel_rfl) (by kernel_rfl) (fun _ _ _ h => h) (Or.inl ⟨by kernel_rfl, fun w' hw' => by obtain ⟨q0, q1, q2, q3, q4, q5, q6, q7, q8, q9, q10, q11, q12, q13, q14, q15, q16, q17⟩ := hw'; go_simp⟩) hS ?_
    refine wpAnyH_take (i := 2) (v := .int .i64 ev) rfl (by kernel_rfl) (by kernel_rfl) (by kernel_rfl) (fun _ _ _ h => h) (Or.inl ⟨by kernel_rfl, fun w' hw' => by obtain ⟨q0, q1, q2, q3, q4, q5, q6, q7, q8, q9, q10, q11, q12, q13, q14, q15, q16, q17⟩ := hw'; go_simp⟩) hS ?_
    refine wpAnyH_take (i := 3) (v := .agg #[.int .i64 st, .int .i64 ev, .slice a1 starts.length c1, .slice a2 ars.length c2, .slice a3 ends.length c3]) rfl (by kernel_rfl) (by kernel_rfl) (by kernel_rfl) (fun _ _ _ h => h) (Or.inl ⟨by kernel_rfl, fun w' hw' => by obtain ⟨q0, q1, q2, q3, q4, q5, q6, q7, q8, q9, q10, q11, q12, q13, q14, q15, q16, q17⟩ := hw'; go_simp⟩) hS ?_
    refine wpAnyH_take (i := 4) (v := .agg #[.int .i64 sb, .int .i64 ev, .slice b1 startsB.length d1, .slice b2 arsB.length d2, .slice b3 endsB.length d3]) rfl (by kernel_rfl) (by kernel_rfl) (by kernel_rfl) (fun _ _ _ h => h) (Or.inl ⟨by kernel_rfl, fun w' hw' => by obtain ⟨q0, q1, q2, q3, q4, q5, q6, q7, q8, q9, q10, q11, q12, q13, q14, q15, q16, q17⟩ := hw'; go_simp⟩) hS ?_
    refine wpAnyH_take (i := 6) (v := .agg #[.int .i64 st, .int .i64 ev, .slice a1 starts.length c1, .slice a2 ars.length c2, .slice a3 ends.length c3]) rfl (by kernel_rfl) (by kernel_rfl) (by kernel_rfl) (fun _ _ _ h => h) (Or.inl ⟨by kernel_rfl, fun w' hw' => by obtain ⟨q0, q1, q2, q3, q4, q5, q6, q7, q8, q9, q10, q11, q12, q13, q14, q15, q16, q17⟩ := hw'; go_simp⟩) hS ?_
    refine wpAnyH_take (i := 7) (v := .agg #[.int .i64 sb, .int .i64 ev, .slice b1 startsB.length d1, .slice b2 arsB.length d2, .slice b3 endsB.length d3]) rfl (by kernel_rfl) (by kernel_rfl) (by kernel_rfl) (fun _ _ _ h => h) (Or.inl ⟨by kernel_rfl, fun w' hw' => by obtain ⟨q0, q1, q2, q3, q4, q5, q6, q7, q8, q9, q10, q11, q12, q13, q14, q15, q16, q17⟩ := hw'; go_simp⟩) hS ?_
    simp only [Act.put, List.setIfInBounds_toArray]
    refine wpAnyH_ready (rs := [5]) (by kernel_rfl) (by simp) ?_
    refine AllReadyH.cons rfl (fun K' hK' => ?_) AllReadyH.nil
    clear hS
    go_simp
    refine (wleader_any st sb ev starts startsB ars arsB ends endsB a1 c1 a2 c2 a3 c3 b1 d1 b2 d2 b3 d3 hma hmb Y0 (Hid.of (h.out.below B.out (Nat.le_refl _))) (Hid.of (h'.out.below B.out (Nat.le_refl _)))).mono ?_
    rintro e Y51 ⟨pA, pB, LA, LC, rfl, wl, hb⟩
    replace B := Hid.of (B.out.trans (hb.mono B.out.size))
    replace KA := Hid.of (KA.out.below hb KA.out.lt)
    replace KB := Hid.of (KB.out.below hb KB.out.lt)
    replace K8 := Hid.of (K8.out.below hb K8.out.lt)
    have HWL := Hid.of wl
    refine hK'.out _ _ (SB5.out _ KA.out KB.out K8.out) (fun hS => ?_)
    clear hK' K' hb wl
    refine wpAnyH_ready (rs := [8]) (by kernel_rfl) (by simp) ?_
    refine AllReadyH.cons rfl (fun K' hK' => ?_) AllReadyH.nil
    clear hS
    go_simp
    refine (wapart_any st sb ev starts startsB ars arsB ends endsB a1 c1 a2 c2 a3 c3 b1 d1 b2 d2 b3 d3 hma hmb Y51 (Hid.of (h.out.below B.out (Nat.le_refl _))) (Hid.of (h'.out.below B.out (Nat.le_refl _)))).mono ?_
    rintro e Y52 ⟨qA, qB, rfl, sa1, sb1, hb⟩
    replace B := Hid.of (B.out.trans (hb.mono B.out.size))
    replace KA := Hid.of (KA.out.below hb KA.out.lt)
    replace KB := Hid.of (KB.out.below hb KB.out.lt)
    replace K8 := Hid.of (K8.out.below hb K8.out.lt)
    replace HWL := Hid.of (HWL.out.kept hb)
    have HQA := Hid.of sa1
    have HQB := Hid.of sb1
    refine hK'.out _ _ (SB5.out _ KA.out KB.out K8.out) (fun hS => ?_)
    clear hK' K' hb sa1 sb1
    refine wpAnyH_ready (rs := [9]) (by kernel_rfl) (by simp) ?_
    refine AllReadyH.cons rfl (fun K' hK' => ?_) AllReadyH.nil
    clear hS
    go_simp
    refine (wleast_out st sb ev starts startsB ars arsB ends endsB hma hmb z1 z2 ⟨ofS starts, ofS startsB⟩ hr0 pA pB qA qB LA LC (ofS ends) (ofS endsB) hEA hEB Y52 (Hid.of (hT.out.below B.out hT.out.lt)) HWL HQA HQB).mono ?_
    rintro e Y53 ⟨va, vc, n, bl, rfl, hn, hbl, hat, hmx, hb⟩
    replace B := Hid.of (B.out.trans (hb.mono B.out.size))
    replace KA := Hid.of (KA.out.below hb KA.out.lt)
    replace KB := Hid.of (KB.out.below hb KB.out.lt)
    replace K8 := Hid.of (K8.out.below hb K8.out.lt)
    replace HWL := Hid.of (HWL.out.kept hb)
    replace HQA := Hid.of (HQA.out.below hb HQA.out.lt)
    replace HQB := Hid.of (HQB.out.below hb HQB.out.lt)
    have HN := Hid.of hn
    have HBL := Hid.of hbl
    have HAT := Hid.of hat
    have HMX := Hid.of hmx
    refine hK'.out _ _ (SB5.out _ KA.out KB.out K8.out) (fun hS => ?_)
    clear hK' K' hb hn hbl hat hmx
    refine wpAnyH_take (i := 10) (v := .tuple #[.slice va n vc, .bool bl]) rfl (by kernel_rfl) (by kernel_rfl) (by kernel_rfl) (fun _ _ _ h => h) (Or.inl ⟨by kernel_rfl, fun w' hw' => by obtain ⟨q0, q1, q2, q3, q4, q5, q6, q7, q8, q9, q10, q11, q12, q13, q14, q15, q16, q17⟩ := hw'; go_simp⟩) hS ?_
    refine wpAnyH_take (i := 11) (v := .slice va n vc) rfl (by kernel_rfl) (by kernel_rfl) (by kernel_rfl) (fun _ _ _ h => h) (Or.inl ⟨by kernel_rfl, fun w' hw' => by obtain ⟨q0, q1, q2, q3, q4, q5, q6, q7, q8, q9, q10, q11, q12, q13, q14, q15, q16, q17⟩ := hw'; go_simp⟩) hS ?_
    refine wpAnyH_take (i := 12) (v := .bool bl) rfl (by kernel_rfl) (by kernel_rfl) (by kernel_rfl) (fun _ _ _ h => h) (Or.inl ⟨by kernel_rfl, fun w' hw' => by obtain ⟨q0, q1, q2, q3, q4, q5, q6, q7, q8, q9, q10, q11, q12, q13, q14, q15, q16, q17⟩ := hw'; go_simp⟩) hS ?_
    refine wpAnyH_take (i := 13) (v := .slice va n vc) rfl (by kernel_rfl) (by kernel_rfl) (by kernel_rfl) (fun _ _ _ h => h) (Or.inl ⟨by kernel_rfl, fun w' hw' => by obtain ⟨q0, q1, q2, q3, q4, q5, q6, q7, q8, q9, q10, q11, q12, q13, q14, q15, q16, q17⟩ := hw'; go_simp⟩) hS ?_
    refine wpAnyH_take (i := 14) (v := .bool bl) rfl (by kernel_rfl) (by kernel_rfl) (by kernel_rfl) (fun _ _ _ h => h) (Or.inl ⟨by kernel_rfl, fun w' hw' => by obtain ⟨q0, q1, q2, q3, q4, q5, q6, q7, q8, q9, q10, q11, q12, q13, q14, q15, q16, q17⟩ := hw'; go_simp⟩) hS ?_
    refine wpAnyH_done (by kernel_rfl) ?_ _
    clear hS
    go_wp2
    refine bodyPost_ret (v := .tuple #[.bool (!bl), .slice va n vc, .int .i64 0]) (by simp [results, go_sem]) rfl ?_
    have h1 : (!bl) = (outW ⟨(st : Int), (ev : Int), starts, ars, ends⟩ ⟨(sb : Int), (ev : Int), startsB, arsB, endsB⟩).isNone := by rw [HBL.out]; simp
    rw [h1, HN.out]
    exact withPost_ok HW.out HAT.out HMX.out B.out

set_option maxRecDepth 100000 in
set_option maxHeartbeats 4000000 in
theorem pWith_err (a b : Mach) (la lb : ML) (w : World) (h : Hid (MAt w a la)) (h' : Hid (MAt w b lb)) (c : Int) (hc : Hid (withOut a b = (false, [], c))) (h0 : (c != 0) = true) :
    Calls Tryd.prog 44 #[mval a la, mval b lb] w fun e w' => WithPost w a b e w' := by
  have B0 : Hid (Below w.heap.size w ((w.alloc (.cells (mcells a la) 25)).alloc (.cells (mcells b lb) 25))) := ((Below.refl _ _).alloc (Nat.le_refl _) _).alloc (by simp) _
  have HRB : Hid (refB a b = c) := by show _ = _; unfold refB; rw [hc.out]
  go_enter Tryd.func44, Tryd.ntmps44
  go_wp2_with fail
  revert B0
  generalize (w.alloc (.cells (mcells a la) 25)).alloc (.cells (mcells b lb) 25) = V0
  intro B0
  refine (wrefuse_any _ _ _ _ V0 (Hid.of (h.out.below B0.out (Nat.le_refl _))) (Hid.of (h'.out.below B0.out (Nat.le_refl _)))).mono ?_
  rintro e V1 ⟨rfl, hb⟩
  rw [HRB.out]
  have B1 := Hid.of (B0.out.trans (hb.mono B0.out.size))
  clear hb
  go_wp2
  exact bodyPost_ret (v := .tuple #[.bool false, .slice none 0 0, .int .i64 c]) (by simp [results, go_sem]) rfl (withPost_err hc.out B1.out)

theorem pWith_any (a b : Mach) (la lb : ML) (w : World) (h : MAt w a la) (h' : MAt w b lb) (hT : Tab w) :
    Calls Tryd.prog 44 #[mval a la, mval b lb] w fun e w' => WithPost w a b e w' := by
  by_cases hm : mayB a = true ∧ mayB b = true
  · by_cases he : a.ev = b.ev
    · by_cases hz : a.st ≤ 6 ∧ b.st ≤ 6
      · have hza := mayB_size hm.1
        have hzb := mayB_size hm.2
        unfold sizeOk at hza hzb
        obtain ⟨st, ev, starts, ars, ends⟩ := a
        obtain ⟨sb, eb, startsB, arsB, endsB⟩ := b
        obtain ⟨a1, c1, a2, c2, a3, c3⟩ := la
        obtain ⟨b1, d1, b2, d2, b3, d3⟩ := lb
        dsimp only at he hz hza hzb
        subst he
        obtain ⟨s, rfl⟩ : ∃ s : Nat, st = (s : Int) := ⟨st.toNat, by omega⟩
        obtain ⟨t, rfl⟩ : ∃ t : Nat, sb = (t : Int) := ⟨sb.toNat, by omega⟩
        obtain ⟨e, rfl⟩ : ∃ e : Nat, ev = (e : Int) := ⟨ev.toNat, by omega⟩
        exact pWith_ok s t e starts startsB ars arsB ends endsB a1 c1 a2 c2 a3 c3 b1 d1 b2 d2 b3 d3 (Hid.of hm.1) (Hid.of hm.2) w (Hid.of h) (Hid.of h') (Hid.of hT) (by omega) (by omega)
      · exact pWith_err a b la lb w (Hid.of h) (Hid.of h') 1 (by show _ = _; unfold withOut; rw [if_pos hm, if_pos he, if_neg hz]) rfl
    · exact pWith_err a b la lb w (Hid.of h) (Hid.of h') 3 (by show _ = _; unfold withOut; rw [if_pos hm, if_neg he]) rfl
  · exact pWith_err a b la lb w (Hid.of h) (Hid.of h') 2 (by show _ = _; unfold withOut; rw [if_neg hm]) rfl

end Go.Proofs.YtdnglodemkeooaaDoor
