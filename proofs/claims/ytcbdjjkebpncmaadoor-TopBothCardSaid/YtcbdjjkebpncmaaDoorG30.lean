/-
  The walk of within.Within.
  A machine's block that is written whole; results with a machine.
  What is said of rows of rows on the way through both walks of package beside.
  'All blocks of a world but one are as they were'.
  What is said on the way through jalousieref4.Beside: what lies where.
-/
import Derived.Test.YtcbdjjkebpncmaaDoorG15
import Derived.Test.YtcbdjjkebpncmaaDoorCWLdr
import Derived.Test.YtcbdjjkebpncmaaDoorCWApt
import Derived.Test.YtcbdjjkebpncmaaDoorG03
import Derived.Test.YtcbdjjkebpncmaaDoorG18
import Derived.Test.YtcbdjjkebpncmaaDoorG10
import Derived.Test.YtcbdjjkebpncmaaDoorG08
import Derived.Test.YtcbdjjkebpncmaaDoorG04
import Derived.Deep.RegionHeld3
import Derived.Deep.RegionLaw
import Derived.Test.YtcbdjjkebpncmaaDoorG09
namespace Go.Proofs.YtcbdjjkebpncmaaDoor
open Go.RowKit
set_option linter.unusedVariables false

theorem wleast_out (st sb ev : Nat) (starts startsB : List Int) (ars arsB : List Arr) (ends endsB : List Int) (hma : Hid (mayB ⟨(st : Int), (ev : Int), starts, ars, ends⟩ = true)) (hmb : Hid (mayB ⟨(sb : Int), (ev : Int), startsB, arsB, endsB⟩ = true)) (z1 : st ≤ 6) (z2 : sb ≤ 6) (P0 : SP) (hr0 : Hid (RepSP P0 (starts, startsB))) (pA pB qA qB : Nat) (LA LC : LB) (EA EB : Nat → Nat) (hEA : Hid (Rep EA ends)) (hEB : Hid (Rep EB endsB)) (w : World) (hT : Hid (Tab w)) (hL : Hid (WL w pA pB LA LC ev st sb (tabS ev ars) (tabS ev arsB))) (hqA : Hid (SB w qA EA)) (hqB : Hid (SB w qB EB)) :
    Calls Tryd.prog 58 #[spval P0, .int .i64 ev, wleadV pA pB, lookV qA qB] w fun e w' => ∃ va vc n bl, e = .returned (.tuple #[.slice va n vc, .bool bl]) ∧ n = ((outW ⟨(st : Int), (ev : Int), starts, ars, ends⟩ ⟨(sb : Int), (ev : Int), startsB, arsB, endsB⟩).getD []).length ∧ bl = (outW ⟨(st : Int), (ev : Int), starts, ars, ends⟩ ⟨(sb : Int), (ev : Int), startsB, arsB, endsB⟩).isSome ∧ At w' va ((outW ⟨(st : Int), (ev : Int), starts, ars, ends⟩ ⟨(sb : Int), (ev : Int), startsB, arsB, endsB⟩).getD []) ∧ ((outW ⟨(st : Int), (ev : Int), starts, ars, ends⟩ ⟨(sb : Int), (ev : Int), startsB, arsB, endsB⟩).getD []).length ≤ maxLen ∧ Below w.heap.size w w' := by
  refine (wleast_any st sb ev starts startsB ars arsB ends endsB hma hmb z1 z2 P0 hr0 pA pB qA qB LA LC EA EB hEA hEB w hT hL hqA hqB).mono ?_
  intro e w' hp
  unfold WLeastPost at hp
  cases ho : outW ⟨(st : Int), (ev : Int), starts, ars, ends⟩ ⟨(sb : Int), (ev : Int), startsB, arsB, endsB⟩ with
  | none =>
    rw [ho] at hp
    obtain ⟨rfl, hb⟩ := hp
    exact ⟨none, 0, 0, false, rfl, rfl, rfl, .inl rfl, Nat.zero_le _, hb⟩
  | some u =>
    rw [ho] at hp
    obtain ⟨v, rfl, hv, hb⟩ := hp
    obtain ⟨va, vc, rfl, h1, h2⟩ := Own.at hv
    exact ⟨va, vc, _, true, rfl, rfl, rfl, h1, h2, hb⟩

set_option maxRecDepth 100000 in
set_option maxHeartbeats 16000000 in
theorem pWith_ok (st sb ev : Nat) (starts startsB : List Int) (ars arsB : List Arr) (ends endsB : List Int) (a1 : Option Addr) (c1 : Nat) (a2 : Option Addr) (c2 : Nat) (a3 : Option Addr) (c3 : Nat) (b1 : Option Addr) (d1 : Nat) (b2 : Option Addr) (d2 : Nat) (b3 : Option Addr) (d3 : Nat) (hma : Hid (mayB ⟨(st : Int), (ev : Int), starts, ars, ends⟩ = true)) (hmb : Hid (mayB ⟨(sb : Int), (ev : Int), startsB, arsB, endsB⟩ = true)) (w : World) (h : Hid (MAt w ⟨(st : Int), (ev : Int), starts, ars, ends⟩ ⟨a1, c1, a2, c2, a3, c3⟩)) (h' : Hid (MAt w ⟨(sb : Int), (ev : Int), startsB, arsB, endsB⟩ ⟨b1, d1, b2, d2, b3, d3⟩)) (hT : Hid (Tab w)) (z1 : st ≤ 6) (z2 : sb ≤ 6) :
    Calls Tryd.prog 26 #[mval ⟨(st : Int), (ev : Int), starts, ars, ends⟩ ⟨a1, c1, a2, c2, a3, c3⟩, mval ⟨(sb : Int), (ev : Int), startsB, arsB, endsB⟩ ⟨b1, d1, b2, d2, b3, d3⟩] w fun e w' => WithPost w ⟨(st : Int), (ev : Int), starts, ars, ends⟩ ⟨(sb : Int), (ev : Int), startsB, arsB, endsB⟩ e w' := by
  have B : Hid (Below w.heap.size w ((w.alloc (.cells (mcells ⟨(st : Int), (ev : Int), starts, ars, ends⟩ ⟨a1, c1, a2, c2, a3, c3⟩) 25)).alloc (.cells (mcells ⟨(sb : Int), (ev : Int), startsB, arsB, endsB⟩ ⟨b1, d1, b2, d2, b3, d3⟩) 25))) := ((Below.refl _ _).alloc (Nat.le_refl _) _).alloc (by simp) _
  have KA : Hid (Blk ((w.alloc (.cells (mcells ⟨(st : Int), (ev : Int), starts, ars, ends⟩ ⟨a1, c1, a2, c2, a3, c3⟩) 25)).alloc (.cells (mcells ⟨(sb : Int), (ev : Int), startsB, arsB, endsB⟩ ⟨b1, d1, b2, d2, b3, d3⟩) 25)) w.heap.size 25 (mcells ⟨(st : Int), (ev : Int), starts, ars, ends⟩ ⟨a1, c1, a2, c2, a3, c3⟩)) := (Blk.new w _ _).alloc _
  have KB : Hid (Blk ((w.alloc (.cells (mcells ⟨(st : Int), (ev : Int), starts, ars, ends⟩ ⟨a1, c1, a2, c2, a3, c3⟩) 25)).alloc (.cells (mcells ⟨(sb : Int), (ev : Int), startsB, arsB, endsB⟩ ⟨b1, d1, b2, d2, b3, d3⟩) 25)) (w.heap.size + 1) 25 (mcells ⟨(sb : Int), (ev : Int), startsB, arsB, endsB⟩ ⟨b1, d1, b2, d2, b3, d3⟩)) := by
    have := Blk.new (w.alloc (.cells (mcells ⟨(st : Int), (ev : Int), starts, ars, ends⟩ ⟨a1, c1, a2, c2, a3, c3⟩) 25)) 25 (mcells ⟨(sb : Int), (ev : Int), startsB, arsB, endsB⟩ ⟨b1, d1, b2, d2, b3, d3⟩)
    rwa [World.size_alloc] at this
  have hza := mayB_size hma.out
  have hzb := mayB_size hmb.out
  unfold sizeOk at hza hzb
  dsimp only at hza hzb
  have hst : st ≤ 256 := by omega
  have hsb : sb ≤ 256 := by omega
  have hev : ev ≤ 8 := by omega
  have hlA : Hid (ars.length ≤ 4096) := show _ ≤ _ by omega
  have hlB : Hid (arsB.length ≤ 4096) := show _ ≤ _ by omega
  clear hza hzb
  have SA : Hid (∀ W, Blk W w.heap.size 25 (mcells ⟨(st : Int), (ev : Int), starts, ars, ends⟩ ⟨a1, c1, a2, c2, a3, c3⟩) → Blk W (w.heap.size + 1) 25 (mcells ⟨(sb : Int), (ev : Int), startsB, arsB, endsB⟩ ⟨b1, d1, b2, d2, b3, d3⟩) → W.cell? ⟨w.heap.size, 0, none⟩ = some (.int .i64 st) ∧ W.cell? ⟨w.heap.size, 1, none⟩ = some (.int .i64 ev) ∧ W.cell? ⟨w.heap.size, 2, none⟩ = some (.slice a1 starts.length c1) ∧ W.cell? ⟨w.heap.size, 3, none⟩ = some (.slice a2 ars.length c2) ∧ W.cell? ⟨w.heap.size, 4, none⟩ = some (.slice a3 ends.length c3) ∧ W.cell? ⟨w.heap.size + 1, 0, none⟩ = some (.int .i64 sb) ∧ W.cell? ⟨w.heap.size + 1, 1, none⟩ = some (.int .i64 ev) ∧ W.cell? ⟨w.heap.size + 1, 2, none⟩ = some (.slice b1 startsB.length d1) ∧ W.cell? ⟨w.heap.size + 1, 3, none⟩ = some (.slice b2 arsB.length d2) ∧ W.cell? ⟨w.heap.size + 1, 4, none⟩ = some (.slice b3 endsB.length d3)) := fun W h1 h2 => by
    obtain ⟨x0, x1, x2, x3, x4⟩ := mcell_at h1
    obtain ⟨y0, y1, y2, y3, y4⟩ := mcell_at h2
    exact ⟨x0, x1, x2, x3, x4, y0, y1, y2, y3, y4⟩
  have slA : Hid (starts.length ≤ maxLen) := Nat.le_trans h.out.s1 h.out.s2
  have slB : Hid (startsB.length ≤ maxLen) := Nat.le_trans h'.out.s1 h'.out.s2
  have sbA : Hid (∀ x ∈ starts, 0 ≤ x ∧ x < 256) := fun x hx => by have := (may_starts hma.out).2 x hx; dsimp only at this; omega
  have sbB : Hid (∀ x ∈ startsB, 0 ≤ x ∧ x < 256) := fun x hx => by have := (may_starts hmb.out).2 x hx; dsimp only at this; omega
  have ebA : Hid (∀ x ∈ ends, 0 ≤ x ∧ x < 256) := fun x hx => by have := (may_ends hma.out).2 x hx; dsimp only at this; omega
  have ebB : Hid (∀ x ∈ endsB, 0 ≤ x ∧ x < 256) := fun x hx => by have := (may_ends hmb.out).2 x hx; dsimp only at this; omega
  have rall : ∀ {l : List Int}, (∀ x ∈ l, 0 ≤ x ∧ x < 256) → Rep (ofS l) l := fun {l} hl => by
    have := rep_of hl l.length
    rwa [List.take_of_length_le (Nat.le_refl _)] at this
  have hr0 : Hid (RepSP ⟨ofS starts, ofS startsB⟩ (starts, startsB)) := ⟨rall sbA.out, rall sbB.out, (may_starts hma.out).1, (may_starts hmb.out).1⟩
  have hEA : Hid (Rep (ofS ends) ends) := rall ebA.out
  have hEB : Hid (Rep (ofS endsB) endsB) := rall ebB.out
  have HW : Hid (withOut ⟨(st : Int), (ev : Int), starts, ars, ends⟩ ⟨(sb : Int), (ev : Int), startsB, arsB, endsB⟩ = ((outW ⟨(st : Int), (ev : Int), starts, ars, ends⟩ ⟨(sb : Int), (ev : Int), startsB, arsB, endsB⟩).isNone, (outW ⟨(st : Int), (ev : Int), starts, ars, ends⟩ ⟨(sb : Int), (ev : Int), startsB, arsB, endsB⟩).getD [], 0)) := by
    show _ = _
    unfold withOut
    rw [if_pos ⟨hma.out, hmb.out⟩, if_pos rfl, if_pos ⟨by dsimp only; omega, by dsimp only; omega⟩]
  have HRB : Hid (refB ⟨(st : Int), (ev : Int), starts, ars, ends⟩ ⟨(sb : Int), (ev : Int), startsB, arsB, endsB⟩ = 0) := by show _ = _; unfold refB; rw [HW.out]
  clear rall
  go_enter Tryd.func26, Tryd.ntmps26
  go_wp2_with fail
  revert B KA KB
  generalize ((w.alloc (.cells (mcells ⟨(st : Int), (ev : Int), starts, ars, ends⟩ ⟨a1, c1, a2, c2, a3, c3⟩) 25)).alloc (.cells (mcells ⟨(sb : Int), (ev : Int), startsB, arsB, endsB⟩ ⟨b1, d1, b2, d2, b3, d3⟩) 25)) = V0
  intro B KA KB
  refine (wrefuse_any _ _ _ _ V0 (Hid.of (h.out.below B.out (Nat.le_refl _))) (Hid.of (h'.out.below B.out (Nat.le_refl _)))).mono ?_
  rintro e V1 ⟨rfl, hb⟩
  rw [HRB.out]
  replace B := Hid.of (B.out.trans (hb.mono B.out.size))
  replace KA := Hid.of (KA.out.below hb KA.out.lt)
  replace KB := Hid.of (KB.out.below hb KB.out.lt)
  clear hb
  go_wp2
  refine Code.wp_mono (Q := regQ fun a' W' => ∃ (p8 : Nat) (r17 r18 r19 r20 r21 r22 r23 : Value), a' = { tmps := #[mval ⟨(st : Int), (ev : Int), starts, ars, ends⟩ ⟨a1, c1, a2, c2, a3, c3⟩, mval ⟨(sb : Int), (ev : Int), startsB, arsB, endsB⟩ ⟨b1, d1, b2, d2, b3, d3⟩, .pointer (some ⟨w.heap.size, 0, none⟩), .pointer (some ⟨w.heap.size + 1, 0, none⟩), .bool false, .slice none 0 0, .int .i64 0, .int .i64 0, .pointer (some ⟨p8, 0, none⟩), undef, undef, mval ⟨(st : Int), (ev : Int), starts, ars, ends⟩ ⟨a1, c1, a2, c2, a3, c3⟩, mval ⟨(sb : Int), (ev : Int), startsB, arsB, endsB⟩ ⟨b1, d1, b2, d2, b3, d3⟩, .int .i64 0, .int .i64 0, .bool false, undef, r17, r18, r19, r20, r21, r22, r23, undef, undef, undef, undef, undef, undef, undef, undef, undef, undef, undef, undef, undef, undef, undef, undef], defers := [] } ∧ w.heap.size + 1 + 1 ≤ p8 ∧ PBk W' p8 ⟨ofS starts, ofS startsB⟩ ∧ Blk W' w.heap.size 25 (mcells ⟨(st : Int), (ev : Int), starts, ars, ends⟩ ⟨a1, c1, a2, c2, a3, c3⟩) ∧ Blk W' (w.heap.size + 1) 25 (mcells ⟨(sb : Int), (ev : Int), startsB, arsB, endsB⟩ ⟨b1, d1, b2, d2, b3, d3⟩) ∧ Below w.heap.size w W') ?aft ?reg
  case reg =>
    refine wp_region_held_drew (S := fun w' => w'.cell? ⟨w.heap.size, 0, none⟩ = some (.int .i64 st) ∧ w'.cell? ⟨w.heap.size, 1, none⟩ = some (.int .i64 ev) ∧ w'.cell? ⟨w.heap.size, 2, none⟩ = some (.slice a1 starts.length c1) ∧ w'.cell? ⟨w.heap.size, 3, none⟩ = some (.slice a2 ars.length c2) ∧ w'.cell? ⟨w.heap.size, 4, none⟩ = some (.slice a3 ends.length c3) ∧ w'.cell? ⟨w.heap.size + 1, 0, none⟩ = some (.int .i64 sb) ∧ w'.cell? ⟨w.heap.size + 1, 1, none⟩ = some (.int .i64 ev) ∧ w'.cell? ⟨w.heap.size + 1, 2, none⟩ = some (.slice b1 startsB.length d1) ∧ w'.cell? ⟨w.heap.size + 1, 3, none⟩ = some (.slice b2 arsB.length d2) ∧ w'.cell? ⟨w.heap.size + 1, 4, none⟩ = some (.slice b3 endsB.length d3)) (by kernel_rfl) (SA.out _ (Blk.drew KA.out) (Blk.drew KB.out)) (fun hS => ?_)
    replace B : Hid (Below w.heap.size w V1.drew) := B.out.drew
    replace KA : Hid (Blk V1.drew w.heap.size 25 (mcells ⟨(st : Int), (ev : Int), starts, ars, ends⟩ ⟨a1, c1, a2, c2, a3, c3⟩)) := Blk.drew KA.out
    replace KB : Hid (Blk V1.drew (w.heap.size + 1) 25 (mcells ⟨(sb : Int), (ev : Int), startsB, arsB, endsB⟩ ⟨b1, d1, b2, d2, b3, d3⟩)) := Blk.drew KB.out
    revert hS B KA KB
    generalize V1.drew = Y0
    intro hS B KA KB
    refine wpAnyH_take (i := 0) (v := .pointer (some ⟨w.heap.size, 2, none⟩)) rfl (by kernel_rfl) (by kernel_rfl) (by kernel_rfl) (fun _ _ _ h => h) (Or.inl ⟨by kernel_rfl, fun w' hw' => by obtain ⟨q0, q1, q2, q3, q4, q5, q6, q7, q8, q9⟩ := hw'; go_simp⟩) hS ?_
    refine wpAnyH_take (i := 1) (v := .slice a1 starts.length c1) rfl (by kernel_rfl) (by kernel_rfl) (by kernel_rfl) (fun _ _ _ h => h) (Or.inl ⟨by kernel_rfl, fun w' hw' => by obtain ⟨q0, q1, q2, q3, q4, q5, q6, q7, q8, q9⟩ := hw'; go_simp⟩) hS ?_
    refine wpAnyH_take (i := 3) (v := .pointer (some ⟨w.heap.size + 1, 2, none⟩)) rfl (by kernel_rfl) (by kernel_rfl) (by kernel_rfl) (fun _ _ _ h => h) (Or.inl ⟨by kernel_rfl, fun w' hw' => by obtain ⟨q0, q1, q2, q3, q4, q5, q6, q7, q8, q9⟩ := hw'; go_simp⟩) hS ?_
    refine wpAnyH_take (i := 4) (v := .slice b1 startsB.length d1) rfl (by kernel_rfl) (by kernel_rfl) (by kernel_rfl) (fun _ _ _ h => h) (Or.inl ⟨by kernel_rfl, fun w' hw' => by obtain ⟨q0, q1, q2, q3, q4, q5, q6, q7, q8, q9⟩ := hw'; go_simp⟩) hS ?_
    simp only [Act.put, List.setIfInBounds_toArray]
    refine wpAnyH_ready (rs := [2, 7]) (by kernel_rfl) (by simp) ?_
    refine AllReadyH.cons rfl (fun K' hK' => ?_) (AllReadyH.cons rfl (fun K' hK' => ?_) AllReadyH.nil)
    · clear hS
      go_simp
      refine (of_any a1 c1 starts Y0 (h.out.s.below B.out (Nat.le_refl _)) slA.out sbA.out).mono ?_
      rintro e Y1 ⟨rfl, hb⟩
      replace B := Hid.of (B.out.trans (hb.mono B.out.size))
      replace KA := Hid.of (KA.out.below hb KA.out.lt)
      replace KB := Hid.of (KB.out.below hb KB.out.lt)
      refine hK'.out _ _ (SA.out _ KA.out KB.out) (fun hS => ?_)
      clear hK' K' hb
      refine wpAnyH_ready (rs := [5, 7]) (by kernel_rfl) (by simp) ?_
      refine AllReadyH.cons rfl (fun K' hK' => ?_) (AllReadyH.cons rfl (fun K' hK' => ?_) AllReadyH.nil)
      · clear hS
        go_simp
        refine (of_any b1 d1 startsB Y1 (h'.out.s.below B.out (Nat.le_refl _)) slB.out sbB.out).mono ?_
        rintro e Y2 ⟨rfl, hb⟩
        replace B := Hid.of (B.out.trans (hb.mono B.out.size))
        replace KA := Hid.of (KA.out.below hb KA.out.lt)
        replace KB := Hid.of (KB.out.below hb KB.out.lt)
        refine hK'.out _ _ (SA.out _ KA.out KB.out) (fun hS => ?_)
        clear hK' K' hb
        refine wpAnyH_take (i := 6) (v := spval ⟨ofS starts, ofS startsB⟩) rfl (by kernel_rfl) (by kernel_rfl) (by kernel_rfl) (fun _ _ _ h => h) (Or.inl ⟨by kernel_rfl, fun w' hw' => by obtain ⟨q0, q1, q2, q3, q4, q5, q6, q7, q8, q9⟩ := hw'; go_simp⟩) hS ?_
        refine wpAnyH_ready (rs := [7]) (by kernel_rfl) (by simp) ?_
        refine AllReadyH.cons rfl (fun K' hK' => ?_) AllReadyH.nil
        clear hS
        go_simp
        have hb : Below Y2.heap.size Y2 (Y2.alloc (.cells #[.int .u64 0, .int .u64 0, .int .u64 0, .int .u64 0, .int .u64 0, .int .u64 0, .int .u64 0, .int .u64 0] 90)) := (Below.refl _ _).alloc (Nat.le_refl _) _
        have P8 := Hid.of (Nat.le_trans (Nat.succ_le_of_lt KB.out.lt) (Nat.le_refl Y2.heap.size))
        replace B := Hid.of (B.out.trans (hb.mono B.out.size))
        replace KA := Hid.of (KA.out.below hb KA.out.lt)
        replace KB := Hid.of (KB.out.below hb KB.out.lt)
        have K8 := Hid.of (Blk.new Y2 90 #[.int .u64 0, .int .u64 0, .int .u64 0, .int .u64 0, .int .u64 0, .int .u64 0, .int .u64 0, .int .u64 0])
        refine hK'.out _ _ (SA.out _ KA.out KB.out) (fun hS => ?_)
        clear hK' K' hb
        revert P8 B KA KB K8 hS
        generalize Y2.alloc (.cells #[.int .u64 0, .int .u64 0, .int .u64 0, .int .u64 0, .int .u64 0, .int .u64 0, .int .u64 0, .int .u64 0] 90) = Y3
        generalize Y2.heap.size = p8
        intro P8 B KA KB K8 hS
        refine wpAnyH_ready (rs := [8]) (by kernel_rfl) (by simp) ?_
        refine AllReadyH.cons rfl (fun K' hK' => ?_) AllReadyH.nil
        have f8 := K8.out.frozen
        have z0 := K8.out.cell 0 rfl
        have z1 := K8.out.cell 1 rfl
        have z2 := K8.out.cell 2 rfl
        have z3 := K8.out.cell 3 rfl
        have z4 := K8.out.cell 4 rfl
        have z5 := K8.out.cell 5 rfl
        have z6 := K8.out.cell 6 rfl
        have z7 := K8.out.cell 7 rfl
        go_simp
        replace B := Hid.of (below_set8 B.out (b' := p8) (show w.heap.size ≤ p8 by have := P8.out; omega) (.int .u64 (ofS starts 0)) (.int .u64 (ofS starts 1)) (.int .u64 (ofS starts 2)) (.int .u64 (ofS starts 3)) (.int .u64 (ofS startsB 0)) (.int .u64 (ofS startsB 1)) (.int .u64 (ofS startsB 2)) (.int .u64 (ofS startsB 3)))
        replace KA := Hid.of (Blk.other4' (Blk.other4' KA.out 0 (show w.heap.size ≠ p8 by have := P8.out; omega) (.int .u64 (ofS starts 0)) (.int .u64 (ofS starts 1)) (.int .u64 (ofS starts 2)) (.int .u64 (ofS starts 3))) 4 (show w.heap.size ≠ p8 by have := P8.out; omega) (.int .u64 (ofS startsB 0)) (.int .u64 (ofS startsB 1)) (.int .u64 (ofS startsB 2)) (.int .u64 (ofS startsB 3)))
        replace KB := Hid.of (Blk.other4' (Blk.other4' KB.out 0 (show w.heap.size + 1 ≠ p8 by have := P8.out; omega) (.int .u64 (ofS starts 0)) (.int .u64 (ofS starts 1)) (.int .u64 (ofS starts 2)) (.int .u64 (ofS starts 3))) 4 (show w.heap.size + 1 ≠ p8 by have := P8.out; omega) (.int .u64 (ofS startsB 0)) (.int .u64 (ofS startsB 1)) (.int .u64 (ofS startsB 2)) (.int .u64 (ofS startsB 3)))
        replace K8 := Hid.of (PBk.set8 K8.out ⟨ofS starts, ofS startsB⟩)
        refine hK'.out _ _ (SA.out _ KA.out KB.out) (fun hS6 => ?_)
        clear hK' K' f8 z0 z1 z2 z3 z4 z5 z6 z7 hS hS6
        refine wpAnyH_done (by kernel_rfl) ?_ _
        exact ⟨p8, _, _, _, _, _, _, _, rfl, P8.out, K8.out, KA.out, KB.out, B.out⟩
      · clear hS
        go_simp
        have hb : Below Y1.heap.size Y1 (Y1.alloc (.cells #[.int .u64 0, .int .u64 0, .int .u64 0, .int .u64 0, .int .u64 0, .int .u64 0, .int .u64 0, .int .u64 0] 90)) := (Below.refl _ _).alloc (Nat.le_refl _) _
        have P8 := Hid.of (Nat.le_trans (Nat.succ_le_of_lt KB.out.lt) (Nat.le_refl Y1.heap.size))
        replace B := Hid.of (B.out.trans (hb.mono B.out.size))
        replace KA := Hid.of (KA.out.below hb KA.out.lt)
        replace KB := Hid.of (KB.out.below hb KB.out.lt)
        have K8 := Hid.of (Blk.new Y1 90 #[.int .u64 0, .int .u64 0, .int .u64 0, .int .u64 0, .int .u64 0, .int .u64 0, .int .u64 0, .int .u64 0])
        refine hK'.out _ _ (SA.out _ KA.out KB.out) (fun hS => ?_)
        clear hK' K' hb
        revert P8 B KA KB K8 hS
        generalize Y1.alloc (.cells #[.int .u64 0, .int .u64 0, .int .u64 0, .int .u64 0, .int .u64 0, .int .u64 0, .int .u64 0, .int .u64 0] 90) = Y4
        generalize Y1.heap.size = p8
        intro P8 B KA KB K8 hS
        refine wpAnyH_ready (rs := [5]) (by kernel_rfl) (by simp) ?_
        refine AllReadyH.cons rfl (fun K' hK' => ?_) AllReadyH.nil
        clear hS
        go_simp
        refine (of_any b1 d1 startsB Y4 (h'.out.s.below B.out (Nat.le_refl _)) slB.out sbB.out).mono ?_
        rintro e Y5 ⟨rfl, hb⟩
        replace B := Hid.of (B.out.trans (hb.mono B.out.size))
        replace KA := Hid.of (KA.out.below hb KA.out.lt)
        replace KB := Hid.of (KB.out.below hb KB.out.lt)
        replace K8 := Hid.of (K8.out.below hb K8.out.lt)
        refine hK'.out _ _ (SA.out _ KA.out KB.out) (fun hS => ?_)
        clear hK' K' hb
        refine wpAnyH_take (i := 6) (v := spval ⟨ofS starts, ofS startsB⟩) rfl (by kernel_rfl) (by kernel_rfl) (by kernel_rfl) (fun _ _ _ h => h) (Or.inl ⟨by kernel_rfl, fun w' hw' => by obtain ⟨q0, q1, q2, q3, q4, q5, q6, q7, q8, q9⟩ := hw'; go_simp⟩) hS ?_
        refine wpAnyH_ready (rs := [8]) (by kernel_rfl) (by simp) ?_
        refine AllReadyH.cons rfl (fun K' hK' => ?_) AllReadyH.nil
        have f8 := K8.out.frozen
        have z0 := K8.out.cell 0 rfl
        have z1 := K8.out.cell 1 rfl
        have z2 := K8.out.cell 2 rfl
        have z3 := K8.out.cell 3 rfl
        have z4 := K8.out.cell 4 rfl
        have z5 := K8.out.cell 5 rfl
        have z6 := K8.out.cell 6 rfl
        have z7 := K8.out.cell 7 rfl
        go_simp
        replace B := Hid.of (below_set8 B.out (b' := p8) (show w.heap.size ≤ p8 by have := P8.out; omega) (.int .u64 (ofS starts 0)) (.int .u64 (ofS starts 1)) (.int .u64 (ofS starts 2)) (.int .u64 (ofS starts 3)) (.int .u64 (ofS startsB 0)) (.int .u64 (ofS startsB 1)) (.int .u64 (ofS startsB 2)) (.int .u64 (ofS startsB 3)))
        replace KA := Hid.of (Blk.other4' (Blk.other4' KA.out 0 (show w.heap.size ≠ p8 by have := P8.out; omega) (.int .u64 (ofS starts 0)) (.int .u64 (ofS starts 1)) (.int .u64 (ofS starts 2)) (.int .u64 (ofS starts 3))) 4 (show w.heap.size ≠ p8 by have := P8.out; omega) (.int .u64 (ofS startsB 0)) (.int .u64 (ofS startsB 1)) (.int .u64 (ofS startsB 2)) (.int .u64 (ofS startsB 3)))
        replace KB := Hid.of (Blk.other4' (Blk.other4' KB.out 0 (show w.heap.size + 1 ≠ p8 by have := P8.out; omega) (.int .u64 (ofS starts 0)) (.int .u64 (ofS starts 1)) (.int .u64 (ofS starts 2)) (.int .u64 (ofS starts 3))) 4 (show w.heap.size + 1 ≠ p8 by have := P8.out; omega) (.int .u64 (ofS startsB 0)) (.int .u64 (ofS startsB 1)) (.int .u64 (ofS startsB 2)) (.int .u64 (ofS startsB 3)))
        replace K8 := Hid.of (PBk.set8 K8.out ⟨ofS starts, ofS startsB⟩)
        refine hK'.out _ _ (SA.out _ KA.out KB.out) (fun hS6 => ?_)
        clear hK' K' f8 z0 z1 z2 z3 z4 z5 z6 z7 hS hS6
        refine wpAnyH_done (by kernel_rfl) ?_ _
        exact ⟨p8, _, _, _, _, _, _, _, rfl, P8.out, K8.out, KA.out, KB.out, B.out⟩
    · clear hS
      go_simp
      have hb : Below Y0.heap.size Y0 (Y0.alloc (.cells #[.int .u64 0, .int .u64 0, .int .u64 0, .int .u64 0, .int .u64 0, .int .u64 0, .int .u64 0, .int .u64 0] 90)) := (Below.refl _ _).alloc (Nat.le_refl _) _
      have P8 := Hid.of (Nat.le_trans (Nat.succ_le_of_lt KB.out.lt) (Nat.le_refl Y0.heap.size))
      replace B := Hid.of (B.out.trans (hb.mono B.out.size))
      replace KA := Hid.of (KA.out.below hb KA.out.lt)
      replace KB := Hid.of (KB.out.below hb KB.out.lt)
      have K8 := Hid.of (Blk.new Y0 90 #[.int .u64 0, .int .u64 0, .int .u64 0, .int .u64 0, .int .u64 0, .int .u64 0, .int .u64 0, .int .u64 0])
      refine hK'.out _ _ (SA.out _ KA.out KB.out) (fun hS => ?_)
      clear hK' K' hb
      revert P8 B KA KB K8 hS
      generalize Y0.alloc (.cells #[.int .u64 0, .int .u64 0, .int .u64 0, .int .u64 0, .int .u64 0, .int .u64 0, .int .u64 0, .int .u64 0] 90) = Y6
      generalize Y0.heap.size = p8
      intro P8 B KA KB K8 hS
      refine wpAnyH_ready (rs := [2]) (by kernel_rfl) (by simp) ?_
      refine AllReadyH.cons rfl (fun K' hK' => ?_) AllReadyH.nil
      clear hS
      go_simp
      refine (of_any a1 c1 starts Y6 (h.out.s.below B.out (Nat.le_refl _)) slA.out sbA.out).mono ?_
      rintro e Y7 ⟨rfl, hb⟩
      replace B := Hid.of (B.out.trans (hb.mono B.out.size))
      replace KA := Hid.of (KA.out.below hb KA.out.lt)
      replace KB := Hid.of (KB.out.below hb KB.out.lt)
      replace K8 := Hid.of (K8.out.below hb K8.out.lt)
      refine hK'.out _ _ (SA.out _ KA.out KB.out) (fun hS => ?_)
      clear hK' K' hb
      refine wpAnyH_ready (rs := [5]) (by kernel_rfl) (by simp) ?_
      refine AllReadyH.cons rfl (fun K' hK' => ?_) AllReadyH.nil
      clear hS
      go_simp
      refine (of_any b1 d1 startsB Y7 (h'.out.s.below B.out (Nat.le_refl _)) slB.out sbB.out).mono ?_
      rintro e Y8 ⟨rfl, hb⟩
      replace B := Hid.of (B.out.trans (hb.mono B.out.size))
      replace KA := Hid.of (KA.out.below hb KA.out.lt)
      replace KB := Hid.of (KB.out.below hb KB.out.lt)
      replace K8 := Hid.of (K8.out.below hb K8.out.lt)
      refine hK'.out _ _ (SA.out _ KA.out KB.out) (fun hS => ?_)
      clear hK' K' hb
      refine wpAnyH_take (i := 6) (v := spval ⟨ofS starts, ofS startsB⟩) rfl (by kernel_rfl) (by kernel_rfl) (by kernel_rfl) (fun _ _ _ h => h) (Or.inl ⟨by kernel_rfl, fun w' hw' => by obtain ⟨q0, q1, q2, q3, q4, q5, q6, q7, q8, q9⟩ := hw'; go_simp⟩) hS ?_
      refine wpAnyH_ready (rs := [8]) (by kernel_rfl) (by simp) ?_
      refine AllReadyH.cons rfl (fun K' hK' => ?_) AllReadyH.nil
      have f8 := K8.out.frozen
      have z0 := K8.out.cell 0 rfl
      have z1 := K8.out.cell 1 rfl
      have z2 := K8.out.cell 2 rfl
      have z3 := K8.out.cell 3 rfl
      have z4 := K8.out.cell 4 rfl
      have z5 := K8.out.cell 5 rfl
      have z6 := K8.out.cell 6 rfl
      have z7 := K8.out.cell 7 rfl
      go_simp
      replace B := Hid.of (below_set8 B.out (b' := p8) (show w.heap.size ≤ p8 by have := P8.out; omega) (.int .u64 (ofS starts 0)) (.int .u64 (ofS starts 1)) (.int .u64 (ofS starts 2)) (.int .u64 (ofS starts 3)) (.int .u64 (ofS startsB 0)) (.int .u64 (ofS startsB 1)) (.int .u64 (ofS startsB 2)) (.int .u64 (ofS startsB 3)))
      replace KA := Hid.of (Blk.other4' (Blk.other4' KA.out 0 (show w.heap.size ≠ p8 by have := P8.out; omega) (.int .u64 (ofS starts 0)) (.int .u64 (ofS starts 1)) (.int .u64 (ofS starts 2)) (.int .u64 (ofS starts 3))) 4 (show w.heap.size ≠ p8 by have := P8.out; omega) (.int .u64 (ofS startsB 0)) (.int .u64 (ofS startsB 1)) (.int .u64 (ofS startsB 2)) (.int .u64 (ofS startsB 3)))
      replace KB := Hid.of (Blk.other4' (Blk.other4' KB.out 0 (show w.heap.size + 1 ≠ p8 by have := P8.out; omega) (.int .u64 (ofS starts 0)) (.int .u64 (ofS starts 1)) (.int .u64 (ofS starts 2)) (.int .u64 (ofS starts 3))) 4 (show w.heap.size + 1 ≠ p8 by have := P8.out; omega) (.int .u64 (ofS startsB 0)) (.int .u64 (ofS startsB 1)) (.int .u64 (ofS startsB 2)) (.int .u64 (ofS startsB 3)))
      replace K8 := Hid.of (PBk.set8 K8.out ⟨ofS starts, ofS startsB⟩)
      refine hK'.out _ _ (SA.out _ KA.out KB.out) (fun hS6 => ?_)
      clear hK' K' f8 z0 z1 z2 z3 z4 z5 z6 z7 hS hS6
      refine wpAnyH_done (by kernel_rfl) ?_ _
      exact ⟨p8, _, _, _, _, _, _, _, rfl, P8.out, K8.out, KA.out, KB.out, B.out⟩
  case aft =>
    refine regQ_imp ?_
    rintro a' V2 ⟨p8, r17, r18, r19, r20, r21, r22, r23, rfl, q1, q2, q3, q4, q5⟩
    clear B KA KB
    have P8 := Hid.of q1
    have K8 := Hid.of q2
    have KA := Hid.of q3
    have KB := Hid.of q4
    have B := Hid.of q5
    clear q1 q2 q3 q4 q5
    have SB5 : Hid (∀ W, Blk W w.heap.size 25 (mcells ⟨(st : Int), (ev : Int), starts, ars, ends⟩ ⟨a1, c1, a2, c2, a3, c3⟩) → Blk W (w.heap.size + 1) 25 (mcells ⟨(sb : Int), (ev : Int), startsB, arsB, endsB⟩ ⟨b1, d1, b2, d2, b3, d3⟩) → PBk W p8 ⟨ofS starts, ofS startsB⟩ → W.cell? ⟨w.heap.size, 0, none⟩ = some (.int .i64 st) ∧ W.cell? ⟨w.heap.size, 1, none⟩ = some (.int .i64 ev) ∧ W.cell? ⟨w.heap.size, 2, none⟩ = some (.slice a1 starts.length c1) ∧ W.cell? ⟨w.heap.size, 3, none⟩ = some (.slice a2 ars.length c2) ∧ W.cell? ⟨w.heap.size, 4, none⟩ = some (.slice a3 ends.length c3) ∧ W.cell? ⟨w.heap.size + 1, 0, none⟩ = some (.int .i64 sb) ∧ W.cell? ⟨w.heap.size + 1, 1, none⟩ = some (.int .i64 ev) ∧ W.cell? ⟨w.heap.size + 1, 2, none⟩ = some (.slice b1 startsB.length d1) ∧ W.cell? ⟨w.heap.size + 1, 3, none⟩ = some (.slice b2 arsB.length d2) ∧ W.cell? ⟨w.heap.size + 1, 4, none⟩ = some (.slice b3 endsB.length d3) ∧ W.cell? ⟨p8, 0, none⟩ = some (.int .u64 (ofS starts 0)) ∧ W.cell? ⟨p8, 1, none⟩ = some (.int .u64 (ofS starts 1)) ∧ W.cell? ⟨p8, 2, none⟩ = some (.int .u64 (ofS starts 2)) ∧ W.cell? ⟨p8, 3, none⟩ = some (.int .u64 (ofS starts 3)) ∧ W.cell? ⟨p8, 4, none⟩ = some (.int .u64 (ofS startsB 0)) ∧ W.cell? ⟨p8, 5, none⟩ = some (.int .u64 (ofS startsB 1)) ∧ W.cell? ⟨p8, 6, none⟩ = some (.int .u64 (ofS startsB 2)) ∧ W.cell? ⟨p8, 7, none⟩ = some (.int .u64 (ofS startsB 3))) := fun W h1 h2 h3 => by
      obtain ⟨x0, x1, x2, x3, x4⟩ := mcell_at h1
      obtain ⟨y0, y1, y2, y3, y4⟩ := mcell_at h2
      obtain ⟨u0, u1, u2, u3, u4, u5, u6, u7⟩ := PBk.cells h3
      exact ⟨x0, x1, x2, x3, x4, y0, y1, y2, y3, y4, u0, u1, u2, u3, u4, u5, u6, u7⟩
    go_wp2_with fail
    refine wp_region_held_drew (S := fun w' => w'.cell? ⟨w.heap.size, 0, none⟩ = some (.int .i64 st) ∧ w'.cell? ⟨w.heap.size, 1, none⟩ = some (.int .i64 ev) ∧ w'.cell? ⟨w.heap.size, 2, none⟩ = some (.slice a1 starts.length c1) ∧ w'.cell? ⟨w.heap.size, 3, none⟩ = some (.slice a2 ars.length c2) ∧ w'.cell? ⟨w.heap.size, 4, none⟩ = some (.slice a3 ends.length c3) ∧ w'.cell? ⟨w.heap.size + 1, 0, none⟩ = some (.int .i64 sb) ∧ w'.cell? ⟨w.heap.size + 1, 1, none⟩ = some (.int .i64 ev) ∧ w'.cell? ⟨w.heap.size + 1, 2, none⟩ = some (.slice b1 startsB.length d1) ∧ w'.cell? ⟨w.heap.size + 1, 3, none⟩ = some (.slice b2 arsB.length d2) ∧ w'.cell? ⟨w.heap.size + 1, 4, none⟩ = some (.slice b3 endsB.length d3) ∧ w'.cell? ⟨p8, 0, none⟩ = some (.int .u64 (ofS starts 0)) ∧ w'.cell? ⟨p8, 1, none⟩ = some (.int .u64 (ofS starts 1)) ∧ w'.cell? ⟨p8, 2, none⟩ = some (.int .u64 (ofS starts 2)) ∧ w'.cell? ⟨p8, 3, none⟩ = some (.int .u64 (ofS starts 3)) ∧ w'.cell? ⟨p8, 4, none⟩ = some (.int .u64 (ofS startsB 0)) ∧ w'.cell? ⟨p8, 5, none⟩ = some (.int .u64 (ofS startsB 1)) ∧ w'.cell? ⟨p8, 6, none⟩ = some (.int .u64 (ofS startsB 2)) ∧ w'.cell? ⟨p8, 7, none⟩ = some (.int .u64 (ofS startsB 3))) (by kernel_rfl) (SB5.out _ (Blk.drew KA.out) (Blk.drew KB.out) (Blk.drew K8.out)) (fun hS => ?_)
    replace B : Hid (Below w.heap.size w V2.drew) := B.out.drew
    replace KA : Hid (Blk V2.drew w.heap.size 25 (mcells ⟨(st : Int), (ev : Int), starts, ars, ends⟩ ⟨a1, c1, a2, c2, a3, c3⟩)) := Blk.drew KA.out
    replace KB : Hid (Blk V2.drew (w.heap.size + 1) 25 (mcells ⟨(sb : Int), (ev : Int), startsB, arsB, endsB⟩ ⟨b1, d1, b2, d2, b3, d3⟩)) := Blk.drew KB.out
    replace K8 : Hid (PBk V2.drew p8 ⟨ofS starts, ofS startsB⟩) := Blk.drew K8.out
    revert hS B KA KB K8
    generalize V2.drew = Y0
    intro hS B KA KB K8
    refine wpAnyH_take (i := 0) (v := spval ⟨ofS starts, ofS startsB⟩) rfl (by kernel_rfl) (by kernel_rfl) (by kernel_rfl) (fun _ _ _ h => h) (Or.inl ⟨by kernel_rfl, fun w' hw' => by obtain ⟨q0, q1, q2, q3, q4, q5, q6, q7, q8, q9, q10, q11, q12, q13, q14, q15, q16, q17⟩ := hw'; go_simp⟩) hS ?_
    refine wpAnyH_take (i := 1) (v := .pointer (some ⟨w.heap.size, 1, none⟩)) rfl (by kernel_rfl) (by kernel_rfl) (by kernel_rfl) (fun _ _ _ h => h) (Or.inl ⟨by kernel_rfl, fun w' hw' => by obtain ⟨q0, q1, q2, q3, q4, q5, q6, q7, q8, q9, q10, q11, q12, q13, q14, q15, q16, q17⟩ := hw'; go_simp⟩) hS ?_
    refine wpAnyH_take (i := 2) (v := .int .i64 ev) rfl (by kernel_rfl) (by kernel_rfl) (by kernel_rfl) (fun _ _ _ h => h) (Or.inl ⟨by kernel_rfl, fun w' hw' => by obtain ⟨q0, q1, q2, q3, q4, q5, q6, q7, q8, q9, q10, q11, q12, q13, q14, q15, q16, q17⟩ := hw'; go_simp⟩) hS ?_
    refine wpAnyH_take (i := 3) (v := .agg #[.int .i64 st, .int .i64 ev, .slice a1 starts.length c1, .slice a2 ars.length c2, .slice a3 ends.length c3]) rfl (by kernel_rfl) (by kernel_rfl) (by kernel_rfl) (fun _ _ _ h => h) (Or.inl ⟨by kernel_rfl, fun w' hw' => by obtain ⟨q0, q1, q2, q3, q4, q5, q6, q7, q8, q9, q10, q11, q12, q13, q14, q15, q16, q17⟩ := hw'; go_simp⟩) hS ?_
    refine wpAnyH_take (i := 4) (v := .agg #[.int .i64 sb, .int .i64 ev, .slice b1 startsB.length d1, .slice b2 arsB.length d2, .slice b3 endsB.length d3]) rfl (by kernel_rfl) (by kernel_rfl) (by kernel_rfl) (fun _ _ _ h => h) (Or.inl ⟨by kernel_rfl, fun w' hw' => by obtain ⟨q0, q1, q2, q3, q4, q5, q6, q7, q8, q9, q10, q11, q12, q13, q14, q15, q16, q17⟩ := hw'; go_simp⟩) hS ?_
    refine wpAnyH_take (i := 6) (v := .agg #[.int .i64 st, .int .i64 ev, .slice a1 starts.length c1, .slice a2 ars.length c2, .slice a3 ends.length c3]) rfl (by kernel_rfl) (by kernel_rfl) (by kernel_rfl) (fun _ _ _ h => h) (Or.inl ⟨by kernel_rfl, fun w' hw' => by obtain ⟨q0, q1, q2, q3, q4, q5, q6, q7, q8, q9, q10, q11, q12, q13, q14, q15, q16, q17⟩ := hw'; go_simp⟩) hS ?_
    refine wpAnyH_take (i := 7) (v := .agg #[.int .i64 sb, .int .i64 ev, .slice b1 startsB.length d1, .slice b2 arsB.length d2, .slice b3 endsB.length d3]) rfl (by kernel_rfl) (by kernel_rfl) (by kernel_rfl) (fun _ _ _ h => h) (Or.inl ⟨by kernel_rfl, fun w' hw' => by obtain ⟨q0, q1, q2, q3, q4, q5, q6, q7, q8, q9, q10, q11, q12, q13, q14, q15, q16, q17⟩ := hw'; go_simp⟩) hS ?_
    simp only [Act.put, List.setIfInBounds_toArray]
    refine wpAnyH_ready (rs := [5]) (by kernel_rfl) (by simp) ?_
    refine AllReadyH.cons rfl (fun K' hK' => ?_) AllReadyH.nil
    clear hS
    go_simp
    refine (wleader_any st sb ev starts startsB ars arsB ends endsB a1 c1 a2 c2 a3 c3 b1 d1 b2 d2 b3 d3 hma hmb Y0 (Hid.of (h.out.below B.out (Nat.le_refl _))) (Hid.of (h'.out.below B.out (Nat.le_refl _)))).mono ?_
    rintro e Y51 ⟨pA, pB, LA, LC, rfl, wl, hb⟩
    replace B := Hid.of (B.out.trans (hb.mono B.out.size))
    replace KA := Hid.of (KA.out.below hb KA.out.lt)
    replace KB := Hid.of (KB.out.below hb KB.out.lt)
    replace K8 := Hid.of (K8.out.below hb K8.out.lt)
    have HWL := Hid.of wl
    refine hK'.out _ _ (SB5.out _ KA.out KB.out K8.out) (fun hS => ?_)
    clear hK' K' hb wl
    refine wpAnyH_ready (rs := [8]) (by kernel_rfl) (by simp) ?_
    refine AllReadyH.cons rfl (fun K' hK' => ?_) AllReadyH.nil
    clear hS
    go_simp
    refine (wapart_any st sb ev starts startsB ars arsB ends endsB a1 c1 a2 c2 a3 c3 b1 d1 b2 d2 b3 d3 hma hmb Y51 (Hid.of (h.out.below B.out (Nat.le_refl _))) (Hid.of (h'.out.below B.out (Nat.le_refl _)))).mono ?_
    rintro e Y52 ⟨qA, qB, rfl, sa1, sb1, hb⟩
    replace B := Hid.of (B.out.trans (hb.mono B.out.size))
    replace KA := Hid.of (KA.out.below hb KA.out.lt)
    replace KB := Hid.of (KB.out.below hb KB.out.lt)
    replace K8 := Hid.of (K8.out.below hb K8.out.lt)
    replace HWL := Hid.of (HWL.out.kept hb)
    have HQA := Hid.of sa1
    have HQB := Hid.of sb1
    refine hK'.out _ _ (SB5.out _ KA.out KB.out K8.out) (fun hS => ?_)
    clear hK' K' hb sa1 sb1
    refine wpAnyH_ready (rs := [9]) (by kernel_rfl) (by simp) ?_
    refine AllReadyH.cons rfl (fun K' hK' => ?_) AllReadyH.nil
    clear hS
    go_simp
    refine (wleast_out st sb ev starts startsB ars arsB ends endsB hma hmb z1 z2 ⟨ofS starts, ofS startsB⟩ hr0 pA pB qA qB LA LC (ofS ends) (ofS endsB) hEA hEB Y52 (Hid.of (hT.out.below B.out hT.out.lt)) HWL HQA HQB).mono ?_
    rintro e Y53 ⟨va, vc, n, bl, rfl, hn, hbl, hat, hmx, hb⟩
    replace B := Hid.of (B.out.trans (hb.mono B.out.size))
    replace KA := Hid.of (KA.out.below hb KA.out.lt)
    replace KB := Hid.of (KB.out.below hb KB.out.lt)
    replace K8 := Hid.of (K8.out.below hb K8.out.lt)
    replace HWL := Hid.of (HWL.out.kept hb)
    replace HQA := Hid.of (HQA.out.below hb HQA.out.lt)
    replace HQB := Hid.of (HQB.out.below hb HQB.out.lt)
    have HN := Hid.of hn
    have HBL := Hid.of hbl
    have HAT := Hid.of hat
    have HMX := Hid.of hmx
    refine hK'.out _ _ (SB5.out _ KA.out KB.out K8.out) (fun hS => ?_)
    clear hK' K' hb hn hbl hat hmx
    refine wpAnyH_take (i := 10) (v := .tuple #[.slice va n vc, .bool bl]) rfl (by kernel_rfl) (by kernel_rfl) (by kernel_rfl) (fun _ _ _ h => h) (Or.inl ⟨by kernel_rfl, fun w' hw' => by obtain ⟨q0, q1, q2, q3, q4, q5, q6, q7, q8, q9, q10, q11, q12, q13, q14, q15, q16, q17⟩ := hw'; go_simp⟩) hS ?_
    refine wpAnyH_take (i := 11) (v := .slice va n vc) rfl (by kernel_rfl) (by kernel_rfl) (by kernel_rfl) (fun _ _ _ h => h) (Or.inl ⟨by kernel_rfl, fun w' hw' => by obtain ⟨q0, q1, q2, q3, q4, q5, q6, q7, q8, q9, q10, q11, q12, q13, q14, q15, q16, q17⟩ := hw'; go_simp⟩) hS ?_
    refine wpAnyH_take (i := 12) (v := .bool bl) rfl (by kernel_rfl) (by kernel_rfl) (by kernel_rfl) (fun _ _ _ h => h) (Or.inl ⟨by kernel_rfl, fun w' hw' => by obtain ⟨q0, q1, q2, q3, q4, q5, q6, q7, q8, q9, q10, q11, q12, q13, q14, q15, q16, q17⟩ := hw'; go_simp⟩) hS ?_
    refine wpAnyH_take (i := 13) (v := .slice va n vc) rfl (by kernel_rfl) (by kernel_rfl) (by kernel_rfl) (fun _ _ _ h => h) (Or.inl ⟨by kernel_rfl, fun w' hw' => by obtain ⟨q0, q1, q2, q3, q4, q5, q6, q7, q8, q9, q10, q11, q12, q13, q14, q15, q16, q17⟩ := hw'; go_simp⟩) hS ?_
    refine wpAnyH_take (i := 14) (v := .bool bl) rfl (by kernel_rfl) (by kernel_rfl) (by kernel_rfl) (fun _ _ _ h => h) (Or.inl ⟨by kernel_rfl, fun w' hw' => by obtain ⟨q0, q1, q2, q3, q4, q5, q6, q7, q8, q9, q10, q11, q12, q13, q14, q15, q16, q17⟩ := hw'; go_simp⟩) hS ?_
    refine wpAnyH_done (by kernel_rfl) ?_ _
    clear hS
    go_wp2
    refine bodyPost_ret (v := .tuple #[.bool (!bl), .slice va n vc, .int .i64 0]) (by simp [results, go_sem]) rfl ?_
    have h1 : (!bl) = (outW ⟨(st : Int), (ev : Int), starts, ars, ends⟩ ⟨(sb : Int), (ev : Int), startsB, arsB, endsB⟩).isNone := by rw [HBL.out]; simp
    rw [h1, HN.out]
    exact withPost_ok HW.out HAT.out HMX.out B.out

set_option maxRecDepth 100000 in
set_option maxHeartbeats 4000000 in
theorem pWith_err (a b : Mach) (la lb : ML) (w : World) (h : Hid (MAt w a la)) (h' : Hid (MAt w b lb)) (c : Int) (hc : Hid (withOut a b = (false, [], c))) (h0 : (c != 0) = true) :
    Calls Tryd.prog 26 #[mval a la, mval b lb] w fun e w' => WithPost w a b e w' := by
  have B0 : Hid (Below w.heap.size w ((w.alloc (.cells (mcells a la) 25)).alloc (.cells (mcells b lb) 25))) := ((Below.refl _ _).alloc (Nat.le_refl _) _).alloc (by simp) _
  have HRB : Hid (refB a b = c) := by show _ = _; unfold refB; rw [hc.out]
  go_enter Tryd.func26, Tryd.ntmps26
  go_wp2_with fail
  revert B0
  generalize (w.alloc (.cells (mcells a la) 25)).alloc (.cells (mcells b lb) 25) = V0
  intro B0
  refine (wrefuse_any _ _ _ _ V0 (Hid.of (h.out.below B0.out (Nat.le_refl _))) (Hid.of (h'.out.below B0.out (Nat.le_refl _)))).mono ?_
  rintro e V1 ⟨rfl, hb⟩
  rw [HRB.out]
  have B1 := Hid.of (B0.out.trans (hb.mono B0.out.size))
  clear hb
  go_wp2
  exact bodyPost_ret (v := .tuple #[.bool false, .slice none 0 0, .int .i64 c]) (by simp [results, go_sem]) rfl (withPost_err hc.out B1.out)

theorem pWith_any (a b : Mach) (la lb : ML) (w : World) (h : MAt w a la) (h' : MAt w b lb) (hT : Tab w) :
    Calls Tryd.prog 26 #[mval a la, mval b lb] w fun e w' => WithPost w a b e w' := by
  by_cases hm : mayB a = true ∧ mayB b = true
  · by_cases he : a.ev = b.ev
    · by_cases hz : a.st ≤ 6 ∧ b.st ≤ 6
      · have hza := mayB_size hm.1
        have hzb := mayB_size hm.2
        unfold sizeOk at hza hzb
        obtain ⟨st, ev, starts, ars, ends⟩ := a
        obtain ⟨sb, eb, startsB, arsB, endsB⟩ := b
        obtain ⟨a1, c1, a2, c2, a3, c3⟩ := la
        obtain ⟨b1, d1, b2, d2, b3, d3⟩ := lb
        dsimp only at he hz hza hzb
        subst he
        obtain ⟨s, rfl⟩ : ∃ s : Nat, st = (s : Int) := ⟨st.toNat, by omega⟩
        obtain ⟨t, rfl⟩ : ∃ t : Nat, sb = (t : Int) := ⟨sb.toNat, by omega⟩
        obtain ⟨e, rfl⟩ : ∃ e : Nat, ev = (e : Int) := ⟨ev.toNat, by omega⟩
        exact pWith_ok s t e starts startsB ars arsB ends endsB a1 c1 a2 c2 a3 c3 b1 d1 b2 d2 b3 d3 (Hid.of hm.1) (Hid.of hm.2) w (Hid.of h) (Hid.of h') (Hid.of hT) (by omega) (by omega)
      · exact pWith_err a b la lb w (Hid.of h) (Hid.of h') 1 (by show _ = _; unfold withOut; rw [if_pos hm, if_pos he, if_neg hz]) rfl
    · exact pWith_err a b la lb w (Hid.of h) (Hid.of h') 3 (by show _ = _; unfold withOut; rw [if_pos hm, if_neg he]) rfl
  · exact pWith_err a b la lb w (Hid.of h) (Hid.of h') 2 (by show _ = _; unfold withOut; rw [if_neg hm]) rfl

end Go.Proofs.YtcbdjjkebpncmaaDoor
namespace Go.Proofs.YtcbdjjkebpncmaaDoor
open Go.RowKit
set_option linter.unusedVariables false

theorem zcell_at {W : World} {b : Nat} {t : TypeId} (h : Blk W b t zcells) : W.cell? ⟨b, 0, none⟩ = some (.int .i64 0) ∧ W.cell? ⟨b, 1, none⟩ = some (.int .i64 0) ∧ W.cell? ⟨b, 2, none⟩ = some (.slice none 0 0) ∧ W.cell? ⟨b, 3, none⟩ = some (.slice none 0 0) ∧ W.cell? ⟨b, 4, none⟩ = some (.slice none 0 0) :=
  ⟨h.cell 0 rfl, h.cell 1 rfl, h.cell 2 rfl, h.cell 3 rfl, h.cell 4 rfl⟩
theorem Blk.other5 {W : World} {b b' : Nat} {t : TypeId} {cs : Array Value} (h : Blk W b t cs) (hne : b ≠ b') (v0 v1 v2 v3 v4 : Value) : Blk (((((W.setCell ⟨b', 0, none⟩ v0).setCell ⟨b', 1, none⟩ v1).setCell ⟨b', 2, none⟩ v2).setCell ⟨b', 3, none⟩ v3).setCell ⟨b', 4, none⟩ v4) b t cs :=
  ((((h.other hne v0).other hne v1).other hne v2).other hne v3).other hne v4

theorem Blk.set5 {W : World} {b : Nat} {t : TypeId} (h : Blk W b t zcells) (v0 v1 v2 v3 v4 : Value) : Blk (((((W.setCell ⟨b, 0, none⟩ v0).setCell ⟨b, 1, none⟩ v1).setCell ⟨b, 2, none⟩ v2).setCell ⟨b, 3, none⟩ v3).setCell ⟨b, 4, none⟩ v4) b t #[v0, v1, v2, v3, v4] :=
  ((((h.set 0 v0).set 1 v1).set 2 v2).set 3 v3).set 4 v4
theorem below_set5 {W V : World} {B b' : Nat} (h : Below B V W) (hb : B ≤ b') (v0 v1 v2 v3 v4 : Value) : Below B V (((((W.setCell ⟨b', 0, none⟩ v0).setCell ⟨b', 1, none⟩ v1).setCell ⟨b', 2, none⟩ v2).setCell ⟨b', 3, none⟩ v3).setCell ⟨b', 4, none⟩ v4) :=
  ((((h.setCell (p := ⟨b', 0, none⟩) hb v0).setCell (p := ⟨b', 1, none⟩) hb v1).setCell (p := ⟨b', 2, none⟩) hb v2).setCell (p := ⟨b', 3, none⟩) hb v3).setCell (p := ⟨b', 4, none⟩) hb v4
theorem results_three {fn : Func} {p u v : Tmp} (h : fn.results = #[.cell p 25, .tmp u, .tmp v]) (tmps : Array Value) (w : World) (g : Nat) (m : Mach) (l : ML) (x y : Value) (hp : tmps.getD p undef = .pointer (some ⟨g, 0, none⟩)) (hu : tmps.getD u undef = x) (hv : tmps.getD v undef = y) (hB : Blk w g 25 (mcells m l)) :
    (results fn tmps).run Tryd.prog w = .ok (.tuple #[mval m l, x, y]) w := by
  obtain ⟨x0, x1, x2, x3, x4⟩ := mcell_at hB
  have e : (results fn tmps).run Tryd.prog w = ((asAddr (tmps.getD p undef)).run Tryd.prog w).andThen fun a w₁ => ((loadVar 25 a).run Tryd.prog w₁).andThen fun r w₂ => .ok (.tuple #[r, tmps.getD u undef, tmps.getD v undef]) w₂ := by
    simp only [results, h]
    simp [Sem.run_bind, Result.andThen]
  rw [e, hp, hu, hv]
  go_simp

abbrev m0 : Mach := ⟨0, 0, [], [], []⟩
abbrev ml0 : ML := ⟨none, 0, none, 0, none, 0⟩

end Go.Proofs.YtcbdjjkebpncmaaDoor
namespace Go.Proofs.YtcbdjjkebpncmaaDoor
open Go.RowKit
set_option linter.unusedVariables false

theorem ownsRow_lay2 {w : World} {B n : Nat} {v : Value} {vs : List Value} (h : w.ownsRow B 22 1 v n vs) (o o' : Obj) : ((w.alloc o).alloc o').drew.ownsRow B 22 1 v n vs := World.ownsRow.alloc (World.ownsRow.alloc h o) o'
theorem cell_lay2 (w : World) (o : Obj) (u : Value) (t : TypeId) : ∀ j x, [u][j]? = some x → ((w.alloc o).alloc (.cells #[u] t)).drew.cell? ((⟨w.heap.size + 1, 0, none⟩ : Addr).add j) = some x := by
  intro j x hx
  have : j = 0 := by have := (List.getElem?_eq_some_iff.1 hx).1; simp at this; omega
  subst this
  simp at hx
  subst hx
  have := (Blk.new (w.alloc o) t #[u]).cell 0 rfl
  rw [World.size_alloc] at this
  exact this
theorem cell_grown2 {w w' : World} {o o' : Obj} {B n : Nat} {v x : Value} {vs : List Value} {p : Addr} (hc : w.cell? p = some x) (g : ((w.alloc o).alloc o').drew.grownBy w' v.ownBlock) (h : w.ownsRow B 22 1 v n vs) (hp : p.block < B) : w'.cell? p = some x := by
  have hlt : p.block < w.heap.size := World.block_lt_of_cell? w p hc
  have e1 : w'.heap[p.block]? = w.heap[p.block]? := by
    rw [g.block p.block (by show _ < ((w.alloc o).alloc o').heap.size; simp; omega) (fun e => by have := (h.lt _ e.symm).1; omega)]
    show ((w.alloc o).alloc o').heap[p.block]? = _
    rw [Below.heap_alloc _ _ _ (by simp; omega), Below.heap_alloc _ _ _ hlt]
  rw [World.cell?_of_block (w := w) e1]; exact hc
theorem At.cells_of {w : World} {a : Option Addr} {xs : List Int} (h : At w a xs) {k : Nat} (hk : k < xs.length) : ∃ b off, a = some ⟨b, off, none⟩ ∧ b < w.heap.size ∧ Cells w b off xs := by
  rcases h with rfl | h
  · simp at hk
  · exact h
/-- What a call that hands back pairs leaves. -/
def Gives2 (w : World) (LL : List (List Int)) (e : Ending) (w' : World) : Prop := ∃ v, e = .returned v ∧ Own2 w' w.heap.size v LL ∧ Below w.heap.size w w'
theorem at_one (W : World) (x : Int) : At (W.alloc (.cells #[.int .i64 x] 3)) (some ⟨W.heap.size, 0, none⟩) [x] := by
  refine .inr ⟨_, 0, rfl, by simp, fun j hj => ?_⟩
  have : j = 0 := by simp at hj; omega
  subst this
  exact (Blk.new W 3 #[.int .i64 x]).cell 0 rfl
theorem Own2.lower {w : World} {B B' : Nat} {v : Value} {LL : List (List Int)} (h : Own2 w B v LL) (hB : B' ≤ B) : Own2 w B' v LL := by
  obtain ⟨vs, ho, hi⟩ := h
  refine ⟨vs, ⟨ho.1, ?_⟩, hi⟩
  rcases ho.2 with hn | ⟨g, cap, cur, e, hg, rest⟩
  · exact .inl hn
  · exact .inr ⟨g, cap, cur, e, Nat.le_trans hB hg, rest⟩
theorem mcell_at2 {W : World} {b : Nat} {m : Mach} {l : ML} (h : Blk W b 25 (mcells m l)) : W.cell? ⟨b, 0, none⟩ = some (.int .i64 m.st) ∧ W.cell? ⟨b, 1, none⟩ = some (.int .i64 m.ev) ∧ W.cell? ⟨b, 2, none⟩ = some (.slice l.a1 m.starts.length l.c1) ∧ W.cell? ⟨b, 3, none⟩ = some (.slice l.a2 m.arrows.length l.c2) ∧ W.cell? ⟨b, 4, none⟩ = some (.slice l.a3 m.ends.length l.c3) :=
  ⟨h.cell 0 rfl, h.cell 1 rfl, h.cell 2 rfl, h.cell 3 rfl, h.cell 4 rfl⟩

end Go.Proofs.YtcbdjjkebpncmaaDoor
namespace Go.Proofs.YtcbdjjkebpncmaaDoor
open Go.RowKit
set_option linter.unusedVariables false

/-- All blocks of X but b are as they were. -/
structure Kp (b : Nat) (X W : World) : Prop where
  size : X.heap.size ≤ W.heap.size
  same : ∀ k, k < X.heap.size → k ≠ b → W.heap[k]? = X.heap[k]?
theorem Kp.refl (b : Nat) (X : World) : Kp b X X := ⟨Nat.le_refl _, fun _ _ _ => rfl⟩
theorem Kp.alloc {b : Nat} {X W : World} (h : Kp b X W) (o : Obj) : Kp b X (W.alloc o) :=
  ⟨by rw [World.size_alloc]; exact Nat.le_succ_of_le h.size, fun k hk hne => (Below.heap_alloc W o k (Nat.lt_of_lt_of_le hk h.size)).trans (h.same k hk hne)⟩
theorem Kp.set {b : Nat} {X W : World} (h : Kp b X W) (j : Nat) (v : Value) : Kp b X (W.setCell ⟨b, j, none⟩ v) :=
  ⟨by simpa [World.setCell] using h.size, fun k hk hne => (Below.heap_setCell W ⟨b, j, none⟩ v k hne).trans (h.same k hk hne)⟩
theorem Kp.grown {b : Nat} {X W W' : World} {row : Option Nat} (h : Kp b X W) (g : W.grownBy W' row) (hr : ∀ k, row = some k → X.heap.size ≤ k) : Kp b X W' :=
  ⟨Nat.le_trans h.size g.size, fun k hk hne => (g.block k (Nat.lt_of_lt_of_le hk h.size) (fun e => by have := hr k e.symm; omega)).trans (h.same k hk hne)⟩
theorem Kp.blk {b k : Nat} {X W : World} {t : TypeId} {cs : Array Value} (h : Kp b X W) (hB : Blk X k t cs) (hne : k ≠ b) : Blk W k t cs := (h.same k hB.lt hne).trans hB

end Go.Proofs.YtcbdjjkebpncmaaDoor
namespace Go.Proofs.YtcbdjjkebpncmaaDoor
open Go.RowKit
set_option linter.unusedVariables false

theorem InnB.grow {W W' : World} {v : Value} {xs : List Int} {row : Option Nat} (h : InnB W v xs) (hx : v.ownBlock ≠ row) (g : W.grownBy W' row) : InnB W' v xs := by
  obtain ⟨a, c, h1, h2, h3, h4⟩ := h
  refine ⟨a, c, h1, h2, h3, ?_⟩
  rcases h4 with h4 | ⟨k, o, cs, e, hh, hc⟩
  · exact .inl h4
  · subst h1; subst e
    exact .inr ⟨k, o, cs, rfl, (g.block k (Array.getElem?_eq_some_iff.1 hh).1 hx).trans hh, hc⟩
theorem InnB.lt {W : World} {v : Value} {p : Int × Int} {k : Nat} (h : InnB W v [p.1, p.2]) (hk : v.ownBlock = some k) : k < W.heap.size := by
  obtain ⟨a, c, h1, h2, h3, h4⟩ := h
  rcases h4 with h4 | ⟨g, o, cs, e, hh, hc⟩
  · cases h4
  · subst h1; subst e
    cases hk
    exact (Array.getElem?_eq_some_iff.1 hh).1
theorem InnB.some {W : World} {v : Value} {p : Int × Int} (h : InnB W v [p.1, p.2]) : v.ownBlock ≠ none := by
  obtain ⟨a, c, h1, h2, h3, h4⟩ := h
  rcases h4 with h4 | ⟨g, o, cs, e, hh, hc⟩
  · cases h4
  · subst h1; subst e; intro h; cases h
theorem InnB.set {W : World} {v : Value} {xs : List Int} {b j : Nat} {t : TypeId} {cs : Array Value} (h : InnB W v xs) (hB : Blk W b t cs) (ht : t ≠ 3) (x : Value) : InnB (W.setCell ⟨b, j, none⟩ x) v xs :=
  h.kept fun g cs' hg => Below.heap_setCell W ⟨b, j, none⟩ x g (by
    show g ≠ b
    rintro rfl
    rw [show W.heap[g]? = _ from hB] at hg; cases hg; exact ht rfl)
/-- A row of the call's own that lies in a block of no integers leaves the inner slices alone. -/
theorem InnB.apart {W W' : World} {v v' : Value} {xs : List Int} {B s n : Nat} {e : TypeId} {vs : List Value} (h : InnB W v xs) (hr : W.ownsRow B e s v' n vs) (he : e ≠ 3) (g : W.grownBy W' v'.ownBlock) : InnB W' v xs :=
  h.kept fun k cs hk => g.block k (Array.getElem?_eq_some_iff.1 hk).1 (fun e1 => by
    obtain ⟨c, hc⟩ := own_type hr e1.symm
    rw [hk] at hc; cases hc; exact he rfl)
theorem own_innB {W : World} {B n : Nat} {v : Value} {xs : List Int} (h : W.ownsRow B 3 1 v n (xs.map (Value.int .i64))) (hn : xs.length = n) : InnB W v xs := by
  rcases h.2 with ⟨rfl, h0⟩ | ⟨g, cap, cur, rfl, hg, hh, hnc, hcm, hcs, ht⟩
  · have : xs = [] := List.eq_nil_of_length_eq_zero (by omega)
    subst this
    exact ⟨none, 0, rfl, Nat.le_refl _, Nat.zero_le _, .inl rfl⟩
  · refine ⟨_, cap, by rw [hn], by omega, hcm, .inr ⟨g, 0, cur, rfl, hh, fun j hj => ?_⟩⟩
    rw [Nat.zero_add, ← Array.getElem?_toList]
    have h1 : (cur.toList.take (n * 1))[j]? = some (.int .i64 (xs.getD j 0)) := by
      rw [ht, List.getElem?_map, List.getElem?_eq_getElem hj]; simp [List.getElem?_eq_getElem hj]
    rw [List.getElem?_take] at h1
    split at h1
    · exact h1
    · cases h1

abbrev bcells (ev : Int) (v2 : Value) : Array Value := #[.int .i64 0, .int .i64 ev, v2, .slice none 0 0, .slice none 0 0]
/-- Where the pairs of starts are laid: n starts, the pairs P. -/
structure PB (X W : World) (bm : Nat) (ev : Int) (v2 v13 : Value) (n : Nat) (P : List (Int × Int)) : Prop where
  blk : Blk W bm 25 (bcells ev v2)
  kp : Kp bm X W
  st : W.ownsRow X.heap.size 3 1 v2 n ((rngI n).map (Value.int .i64))
  ps : ∃ vs : List Value, W.ownsRow X.heap.size 22 1 v13 P.length vs ∧ ∀ (j : Nat) (x : Value) (p : Int × Int), vs[j]? = some x → P[j]? = some p → InnB W x [p.1, p.2] ∧ x.ownBlock ≠ v2.ownBlock

theorem PB.st1 {X W W1 : World} {bm n : Nat} {ev : Int} {v2 v2' v13 : Value} {P : List (Int × Int)} {o : Obj} (h : PB X W bm ev v2 v13 n P) (hbm : bm < X.heap.size)
    (o1 : W1.ownsRow X.heap.size 3 1 v2' (n + 1) ((rngI n).map (Value.int .i64) ++ [.int .i64 n])) (g : (W.alloc o).grownBy W1 v2.ownBlock) (hb : v2'.ownBlock = v2.ownBlock ∨ v2'.ownBlock = some (W.alloc o).heap.size) :
    Blk W1 bm 25 (bcells ev v2) ∧ PB X (W1.setCell ⟨bm, 2, none⟩ v2') bm ev v2' v13 (n + 1) P := by
  have hr : ∀ k, v2.ownBlock = some k → X.heap.size ≤ k := fun k hk => (h.st.lt k hk).1
  have b1 : Blk W1 bm 25 (bcells ev v2) := (g.block bm (h.blk.alloc o).lt (fun e => by have := hr bm e.symm; omega)).trans (h.blk.alloc o)
  obtain ⟨vs, ho, hi⟩ := h.ps
  refine ⟨b1, b1.set 2 v2', ((h.kp.alloc o).grown g hr).set 2 v2', ?_, vs, ?_, fun j x p h1 h2 => ?_⟩
  · rw [rngI_succ, List.map_append]; exact ownsRow_set o1 hbm v2'
  · exact ownsRow_set ((World.ownsRow.alloc ho o).kept g (own_apart (World.ownsRow.alloc ho o) (World.ownsRow.alloc h.st o) (by decide))) hbm v2'
  · obtain ⟨i1, i2⟩ := hi j x p h1 h2
    have i3 := i1.below ((Below.refl _ W).alloc (Nat.le_refl _) o)
    refine ⟨(i3.grow i2 g).set b1 (by decide) v2', ?_⟩
    rcases hb with hb | hb
    · rw [hb]; exact i2
    · rw [hb]
      intro e
      have := i1.lt e
      rw [World.size_alloc] at this
      omega
theorem PB.ps1 {X W W1 : World} {bm n : Nat} {ev x y : Int} {v2 v13 v13' : Value} {P : List (Int × Int)} {vs : List Value} {t : TypeId} (h : PB X W bm ev v2 v13 n P) (hbm : bm < X.heap.size)
    (ho : W.ownsRow X.heap.size 22 1 v13 P.length vs) (hi : ∀ (j : Nat) (x : Value) (p : Int × Int), vs[j]? = some x → P[j]? = some p → InnB W x [p.1, p.2] ∧ x.ownBlock ≠ v2.ownBlock)
    (o1 : W1.ownsRow X.heap.size 22 1 v13' (P.length + 1) (vs ++ [.slice (some ⟨W.heap.size, 0, none⟩) 2 2])) (g : ((W.alloc (.cells #[.int .i64 x, .int .i64 y] 3)).alloc (.cells #[.slice (some ⟨W.heap.size, 0, none⟩) 2 2] t)).drew.grownBy W1 v13.ownBlock) :
    PB X W1 bm ev v2 v13' n (P ++ [(x, y)]) := by
  have hr : ∀ k, v13.ownBlock = some k → X.heap.size ≤ k := fun k hk => (ho.lt k hk).1
  have hlay : Below W.heap.size W ((W.alloc (.cells #[.int .i64 x, .int .i64 y] 3)).alloc (.cells #[.slice (some ⟨W.heap.size, 0, none⟩) 2 2] t)).drew := (((Below.refl _ _).alloc (Nat.le_refl _) _).alloc (by simp) _).drew
  have hrow := ownsRow_lay2 ho (.cells #[.int .i64 x, .int .i64 y] 3) (.cells #[.slice (some ⟨W.heap.size, 0, none⟩) 2 2] t)
  have hb2 := h.blk.below hlay h.blk.lt
  have hl : vs.length = P.length := by have := ho.1; omega
  refine ⟨(g.block bm hb2.lt (fun e => by have := hr bm e.symm; omega)).trans hb2, Kp.grown ⟨Nat.le_trans h.kp.size hlay.size, fun k hk hne => (hlay.block k (Nat.lt_of_lt_of_le hk h.kp.size)).trans (h.kp.same k hk hne)⟩ g hr, ?_, vs ++ [.slice (some ⟨W.heap.size, 0, none⟩) 2 2], by rw [List.length_append]; exact o1, fun j z p h1 h2 => ?_⟩
  · have h3 := World.ownsRow.alloc (World.ownsRow.alloc h.st (.cells #[.int .i64 x, .int .i64 y] 3)) (.cells #[.slice (some ⟨W.heap.size, 0, none⟩) 2 2] t)
    exact World.ownsRow.kept (w := ((W.alloc (.cells #[.int .i64 x, .int .i64 y] 3)).alloc (.cells #[.slice (some ⟨W.heap.size, 0, none⟩) 2 2] t)).drew) h3 g (own_apart h3 hrow (by decide))
  · by_cases hj : j < P.length
    · rw [List.getElem?_append_left (by omega)] at h1
      rw [List.getElem?_append_left hj] at h2
      obtain ⟨i1, i2⟩ := hi j z p h1 h2
      exact ⟨(i1.below hlay).apart hrow (by decide) g, i2⟩
    · have hj2 : j < (P ++ [(x, y)]).length := (List.getElem?_eq_some_iff.1 h2).1
      have : j = P.length := by simp at hj2; omega
      subst this
      rw [List.getElem?_append_right (by omega)] at h1 h2
      rw [hl] at h1
      simp at h1 h2
      subst h1; subst h2
      refine ⟨((innB_new W x y).below (((Below.refl _ _).alloc (Nat.le_refl _) _).drew)).apart hrow (by decide) g, fun e => ?_⟩
      have := (h.st.lt W.heap.size e.symm).2
      omega

end Go.Proofs.YtcbdjjkebpncmaaDoor
