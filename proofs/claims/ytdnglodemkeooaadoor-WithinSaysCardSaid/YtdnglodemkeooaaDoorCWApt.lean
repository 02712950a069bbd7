/-
  The walk of within.apart.
-/
import Derived.Test.YtdnglodemkeooaaDoorCWLst
import Derived.Test.YtdnglodemkeooaaDoorG09
import Derived.Test.YtdnglodemkeooaaDoorG05
import Derived.Test.YtdnglodemkeooaaDoorCTrimBase
namespace Go.Proofs.YtdnglodemkeooaaDoor
open Go.RowKit
set_option linter.unusedVariables false

set_option maxRecDepth 100000 in
set_option maxHeartbeats 16000000 in
theorem wapart_any (st sb ev : Nat) (starts startsB : List Int) (ars arsB : List Arr) (ends endsB : List Int) (a1 : Option Addr) (c1 : Nat) (a2 : Option Addr) (c2 : Nat) (a3 : Option Addr) (c3 : Nat) (b1 : Option Addr) (d1 : Nat) (b2 : Option Addr) (d2 : Nat) (b3 : Option Addr) (d3 : Nat) (hma : Hid (mayB ⟨(st : Int), (ev : Int), starts, ars, ends⟩ = true)) (hmb : Hid (mayB ⟨(sb : Int), (ev : Int), startsB, arsB, endsB⟩ = true)) (w : World) (h : Hid (MAt w ⟨(st : Int), (ev : Int), starts, ars, ends⟩ ⟨a1, c1, a2, c2, a3, c3⟩)) (h' : Hid (MAt w ⟨(sb : Int), (ev : Int), startsB, arsB, endsB⟩ ⟨b1, d1, b2, d2, b3, d3⟩)) :
    Calls Tryd.prog 89 #[mval ⟨(st : Int), (ev : Int), starts, ars, ends⟩ ⟨a1, c1, a2, c2, a3, c3⟩, mval ⟨(sb : Int), (ev : Int), startsB, arsB, endsB⟩ ⟨b1, d1, b2, d2, b3, d3⟩] w fun e w' => ∃ pA pB, e = .returned (lookV pA pB) ∧ SB w' pA (ofS ends) ∧ SB w' pB (ofS endsB) ∧ Below w.heap.size w w' := by
  have B : Hid (Below w.heap.size w ((w.alloc (.cells (mcells ⟨(st : Int), (ev : Int), starts, ars, ends⟩ ⟨a1, c1, a2, c2, a3, c3⟩) 25)).alloc (.cells (mcells ⟨(sb : Int), (ev : Int), startsB, arsB, endsB⟩ ⟨b1, d1, b2, d2, b3, d3⟩) 25))) := ((Below.refl _ _).alloc (Nat.le_refl _) _).alloc (by simp) _
  have KA : Hid (Blk ((w.alloc (.cells (mcells ⟨(st : Int), (ev : Int), starts, ars, ends⟩ ⟨a1, c1, a2, c2, a3, c3⟩) 25)).alloc (.cells (mcells ⟨(sb : Int), (ev : Int), startsB, arsB, endsB⟩ ⟨b1, d1, b2, d2, b3, d3⟩) 25)) w.heap.size 25 (mcells ⟨(st : Int), (ev : Int), starts, ars, ends⟩ ⟨a1, c1, a2, c2, a3, c3⟩)) := (Blk.new w _ _).alloc _
  have KB : Hid (Blk ((w.alloc (.cells (mcells ⟨(st : Int), (ev : Int), starts, ars, ends⟩ ⟨a1, c1, a2, c2, a3, c3⟩) 25)).alloc (.cells (mcells ⟨(sb : Int), (ev : Int), startsB, arsB, endsB⟩ ⟨b1, d1, b2, d2, b3, d3⟩) 25)) (w.heap.size + 1) 25 (mcells ⟨(sb : Int), (ev : Int), startsB, arsB, endsB⟩ ⟨b1, d1, b2, d2, b3, d3⟩)) := by
    have := Blk.new (w.alloc (.cells (mcells ⟨(st : Int), (ev : Int), starts, ars, ends⟩ ⟨a1, c1, a2, c2, a3, c3⟩) 25)) 25 (mcells ⟨(sb : Int), (ev : Int), startsB, arsB, endsB⟩ ⟨b1, d1, b2, d2, b3, d3⟩)
    rwa [World.size_alloc] at this
  have hza := mayB_size hma.out
  have hzb := mayB_size hmb.out
  unfold sizeOk at hza hzb
  dsimp only at hza hzb
  have hst : st ≤ 256 := by omega
  have hsb : sb ≤ 256 := by omega
  have hev : ev ≤ 8 := by omega
  have hlA : Hid (ars.length ≤ 4096) := show _ ≤ _ by omega
  have hlB : Hid (arsB.length ≤ 4096) := show _ ≤ _ by omega
  clear hza hzb
  have SA : Hid (∀ W, Blk W w.heap.size 25 (mcells ⟨(st : Int), (ev : Int), starts, ars, ends⟩ ⟨a1, c1, a2, c2, a3, c3⟩) → Blk W (w.heap.size + 1) 25 (mcells ⟨(sb : Int), (ev : Int), startsB, arsB, endsB⟩ ⟨b1, d1, b2, d2, b3, d3⟩) → W.cell? ⟨w.heap.size, 0, none⟩ = some (.int .i64 st) ∧ W.cell? ⟨w.heap.size, 1, none⟩ = some (.int .i64 ev) ∧ W.cell? ⟨w.heap.size, 2, none⟩ = some (.slice a1 starts.length c1) ∧ W.cell? ⟨w.heap.size, 3, none⟩ = some (.slice a2 ars.length c2) ∧ W.cell? ⟨w.heap.size, 4, none⟩ = some (.slice a3 ends.length c3) ∧ W.cell? ⟨w.heap.size + 1, 0, none⟩ = some (.int .i64 sb) ∧ W.cell? ⟨w.heap.size + 1, 1, none⟩ = some (.int .i64 ev) ∧ W.cell? ⟨w.heap.size + 1, 2, none⟩ = some (.slice b1 startsB.length d1) ∧ W.cell? ⟨w.heap.size + 1, 3, none⟩ = some (.slice b2 arsB.length d2) ∧ W.cell? ⟨w.heap.size + 1, 4, none⟩ = some (.slice b3 endsB.length d3)) := fun W h1 h2 => by
    obtain ⟨x0, x1, x2, x3, x4⟩ := mcell_at h1
    obtain ⟨y0, y1, y2, y3, y4⟩ := mcell_at h2
    exact ⟨x0, x1, x2, x3, x4, y0, y1, y2, y3, y4⟩
  have elA : Hid (ends.length ≤ maxLen) := Nat.le_trans h.out.e1 h.out.e2
  have elB : Hid (endsB.length ≤ maxLen) := Nat.le_trans h'.out.e1 h'.out.e2
  have ebA : Hid (∀ x ∈ ends, 0 ≤ x ∧ x < 256) := fun x hx => by have := (may_ends hma.out).2 x hx; dsimp only at this; omega
  have ebB : Hid (∀ x ∈ endsB, 0 ≤ x ∧ x < 256) := fun x hx => by have := (may_ends hmb.out).2 x hx; dsimp only at this; omega
  go_enter Tryd.func89, Tryd.ntmps89
  go_wp2_with fail
  revert B KA KB
  generalize ((w.alloc (.cells (mcells ⟨(st : Int), (ev : Int), starts, ars, ends⟩ ⟨a1, c1, a2, c2, a3, c3⟩) 25)).alloc (.cells (mcells ⟨(sb : Int), (ev : Int), startsB, arsB, endsB⟩ ⟨b1, d1, b2, d2, b3, d3⟩) 25)) = V0
  intro B KA KB
  refine wp_region_held_drew (S := fun w' => w'.cell? ⟨w.heap.size, 0, none⟩ = some (.int .i64 st) ∧ w'.cell? ⟨w.heap.size, 1, none⟩ = some (.int .i64 ev) ∧ w'.cell? ⟨w.heap.size, 2, none⟩ = some (.slice a1 starts.length c1) ∧ w'.cell? ⟨w.heap.size, 3, none⟩ = some (.slice a2 ars.length c2) ∧ w'.cell? ⟨w.heap.size, 4, none⟩ = some (.slice a3 ends.length c3) ∧ w'.cell? ⟨w.heap.size + 1, 0, none⟩ = some (.int .i64 sb) ∧ w'.cell? ⟨w.heap.size + 1, 1, none⟩ = some (.int .i64 ev) ∧ w'.cell? ⟨w.heap.size + 1, 2, none⟩ = some (.slice b1 startsB.length d1) ∧ w'.cell? ⟨w.heap.size + 1, 3, none⟩ = some (.slice b2 arsB.length d2) ∧ w'.cell? ⟨w.heap.size + 1, 4, none⟩ = some (.slice b3 endsB.length d3)) (by kernel_rfl) (SA.out _ (Blk.drew KA.out) (Blk.drew KB.out)) (fun hS => ?_)
  replace B : Hid (Below w.heap.size w V0.drew) := B.out.drew
  replace KA : Hid (Blk V0.drew w.heap.size 25 (mcells ⟨(st : Int), (ev : Int), starts, ars, ends⟩ ⟨a1, c1, a2, c2, a3, c3⟩)) := Blk.drew KA.out
  replace KB : Hid (Blk V0.drew (w.heap.size + 1) 25 (mcells ⟨(sb : Int), (ev : Int), startsB, arsB, endsB⟩ ⟨b1, d1, b2, d2, b3, d3⟩)) := Blk.drew KB.out
  revert hS B KA KB
  generalize V0.drew = Y0
  intro hS B KA KB
  refine wpAnyH_take (i := 0) (v := .pointer (some ⟨w.heap.size, 4, none⟩)) rfl (by kernel_rfl) (by kernel_rfl) (by kernel_rfl) (fun _ _ _ h => h) (Or.inl ⟨by kernel_rfl, fun w' hw' => by obtain ⟨q0, q1, q2, q3, q4, q5, q6, q7, q8, q9⟩ := hw'; go_simp⟩) hS ?_
  refine wpAnyH_take (i := 1) (v := .slice a3 ends.length c3) rfl (by kernel_rfl) (by kernel_rfl) (by kernel_rfl) (fun _ _ _ h => h) (Or.inl ⟨by kernel_rfl, fun w' hw' => by obtain ⟨q0, q1, q2, q3, q4, q5, q6, q7, q8, q9⟩ := hw'; go_simp⟩) hS ?_
  refine wpAnyH_take (i := 3) (v := .pointer (some ⟨w.heap.size + 1, 4, none⟩)) rfl (by kernel_rfl) (by kernel_rfl) (by kernel_rfl) (fun _ _ _ h => h) (Or.inl ⟨by kernel_rfl, fun w' hw' => by obtain ⟨q0, q1, q2, q3, q4, q5, q6, q7, q8, q9⟩ := hw'; go_simp⟩) hS ?_
  refine wpAnyH_take (i := 4) (v := .slice b3 endsB.length d3) rfl (by kernel_rfl) (by kernel_rfl) (by kernel_rfl) (fun _ _ _ h => h) (Or.inl ⟨by kernel_rfl, fun w' hw' => by obtain ⟨q0, q1, q2, q3, q4, q5, q6, q7, q8, q9⟩ := hw'; go_simp⟩) hS ?_
  simp only [Act.put, List.setIfInBounds_toArray]
  refine wpAnyH_ready (rs := [2, 6, 7]) (by kernel_rfl) (by simp) ?_
  refine AllReadyH.cons rfl (fun K' hK' => ?_) (AllReadyH.cons rfl (fun K' hK' => ?_) (AllReadyH.cons rfl (fun K' hK' => ?_) AllReadyH.nil))
  · clear hS
    go_simp
    refine (of_any a3 c3 ends Y0 (h.out.e.below B.out (Nat.le_refl _)) elA.out ebA.out).mono ?_
    rintro e Y1 ⟨rfl, hb⟩
    replace B := Hid.of (B.out.trans (hb.mono B.out.size))
    replace KA := Hid.of (KA.out.below hb KA.out.lt)
    replace KB := Hid.of (KB.out.below hb KB.out.lt)
    refine hK'.out _ _ (SA.out _ KA.out KB.out) (fun hS => ?_)
    clear hK' K' hb
    refine wpAnyH_ready (rs := [5, 6, 7]) (by kernel_rfl) (by simp) ?_
    refine AllReadyH.cons rfl (fun K' hK' => ?_) (AllReadyH.cons rfl (fun K' hK' => ?_) (AllReadyH.cons rfl (fun K' hK' => ?_) AllReadyH.nil))
    · clear hS
      go_simp
      refine (of_any b3 d3 endsB Y1 (h'.out.e.below B.out (Nat.le_refl _)) elB.out ebB.out).mono ?_
      rintro e Y2 ⟨rfl, hb⟩
      replace B := Hid.of (B.out.trans (hb.mono B.out.size))
      replace KA := Hid.of (KA.out.below hb KA.out.lt)
      replace KB := Hid.of (KB.out.below hb KB.out.lt)
      refine hK'.out _ _ (SA.out _ KA.out KB.out) (fun hS => ?_)
      clear hK' K' hb
      refine wpAnyH_ready (rs := [6, 7]) (by kernel_rfl) (by simp) ?_
      refine AllReadyH.cons rfl (fun K' hK' => ?_) (AllReadyH.cons rfl (fun K' hK' => ?_) AllReadyH.nil)
      · clear hS
        go_simp
        have hb : Below Y2.heap.size Y2 (Y2.alloc (.cells #[.int .u64 0, .int .u64 0, .int .u64 0, .int .u64 0] 62)) := (Below.refl _ _).alloc (Nat.le_refl _) _
        have P5 := Hid.of (Nat.le_trans (Nat.succ_le_of_lt KB.out.lt) (Nat.le_refl Y2.heap.size))
        replace B := Hid.of (B.out.trans (hb.mono B.out.size))
        replace KA := Hid.of (KA.out.below hb KA.out.lt)
        replace KB := Hid.of (KB.out.below hb KB.out.lt)
        have K5 := Hid.of (Blk.new Y2 62 #[.int .u64 0, .int .u64 0, .int .u64 0, .int .u64 0])
        refine hK'.out _ _ (SA.out _ KA.out KB.out) (fun hS => ?_)
        clear hK' K' hb
        revert P5 B KA KB K5 hS
        generalize Y2.alloc (.cells #[.int .u64 0, .int .u64 0, .int .u64 0, .int .u64 0] 62) = Y3
        generalize Y2.heap.size = p5
        intro P5 B KA KB K5 hS
        refine wpAnyH_ready (rs := [7]) (by kernel_rfl) (by simp) ?_
        refine AllReadyH.cons rfl (fun K' hK' => ?_) AllReadyH.nil
        clear hS
        go_simp
        have hb : Below Y3.heap.size Y3 (Y3.alloc (.cells #[.int .u64 0, .int .u64 0, .int .u64 0, .int .u64 0] 62)) := (Below.refl _ _).alloc (Nat.le_refl _) _
        have P6 := Hid.of (Nat.le_trans (Nat.succ_le_of_lt KB.out.lt) (Nat.le_refl Y3.heap.size))
        have N56 := Hid.of (Nat.ne_of_lt K5.out.lt)
        replace B := Hid.of (B.out.trans (hb.mono B.out.size))
        replace KA := Hid.of (KA.out.below hb KA.out.lt)
        replace KB := Hid.of (KB.out.below hb KB.out.lt)
        replace K5 := Hid.of (K5.out.below hb K5.out.lt)
        have K6 := Hid.of (Blk.new Y3 62 #[.int .u64 0, .int .u64 0, .int .u64 0, .int .u64 0])
        refine hK'.out _ _ (SA.out _ KA.out KB.out) (fun hS => ?_)
        clear hK' K' hb
        revert P6 N56 B KA KB K5 K6 hS
        generalize Y3.alloc (.cells #[.int .u64 0, .int .u64 0, .int .u64 0, .int .u64 0] 62) = Y4
        generalize Y3.heap.size = p6
        intro P6 N56 B KA KB K5 K6 hS
        refine wpAnyH_ready (rs := [8]) (by kernel_rfl) (by simp) ?_
        refine AllReadyH.cons rfl (fun K' hK' => ?_) AllReadyH.nil
        have f5 := K5.out.frozen
        have z0 := K5.out.cell 0 rfl
        have z1 := K5.out.cell 1 rfl
        have z2 := K5.out.cell 2 rfl
        have z3 := K5.out.cell 3 rfl
        go_simp
        replace B := Hid.of (below_set4 B.out (b' := p5) (show w.heap.size ≤ p5 by have := P5.out; omega) (.int .u64 (ofS ends 0)) (.int .u64 (ofS ends 1)) (.int .u64 (ofS ends 2)) (.int .u64 (ofS ends 3)))
        replace KA := Hid.of (Blk.other4 KA.out (show w.heap.size ≠ p5 by have := P5.out; omega) (.int .u64 (ofS ends 0)) (.int .u64 (ofS ends 1)) (.int .u64 (ofS ends 2)) (.int .u64 (ofS ends 3)))
        replace KB := Hid.of (Blk.other4 KB.out (show w.heap.size + 1 ≠ p5 by have := P5.out; omega) (.int .u64 (ofS ends 0)) (.int .u64 (ofS ends 1)) (.int .u64 (ofS ends 2)) (.int .u64 (ofS ends 3)))
        replace K6 := Hid.of (Blk.other4 K6.out (Ne.symm N56.out) (.int .u64 (ofS ends 0)) (.int .u64 (ofS ends 1)) (.int .u64 (ofS ends 2)) (.int .u64 (ofS ends 3)))
        replace K5 := Hid.of (SB.set4 (S := zeroS) K5.out (ofS ends))
        refine hK'.out _ _ (SA.out _ KA.out KB.out) (fun hS6 => ?_)
        clear hK' K' f5 z0 z1 z2 z3 hS
        refine wpAnyH_ready (rs := [9]) (by kernel_rfl) (by simp) ?_
        refine AllReadyH.cons rfl (fun K' hK' => ?_) AllReadyH.nil
        have f6 := K6.out.frozen
        have z0 := K6.out.cell 0 rfl
        have z1 := K6.out.cell 1 rfl
        have z2 := K6.out.cell 2 rfl
        have z3 := K6.out.cell 3 rfl
        go_simp
        replace B := Hid.of (below_set4 B.out (b' := p6) (show w.heap.size ≤ p6 by have := P6.out; omega) (.int .u64 (ofS endsB 0)) (.int .u64 (ofS endsB 1)) (.int .u64 (ofS endsB 2)) (.int .u64 (ofS endsB 3)))
        replace KA := Hid.of (Blk.other4 KA.out (show w.heap.size ≠ p6 by have := P6.out; omega) (.int .u64 (ofS endsB 0)) (.int .u64 (ofS endsB 1)) (.int .u64 (ofS endsB 2)) (.int .u64 (ofS endsB 3)))
        replace KB := Hid.of (Blk.other4 KB.out (show w.heap.size + 1 ≠ p6 by have := P6.out; omega) (.int .u64 (ofS endsB 0)) (.int .u64 (ofS endsB 1)) (.int .u64 (ofS endsB 2)) (.int .u64 (ofS endsB 3)))
        replace K5 := Hid.of (Blk.other4 K5.out N56.out (.int .u64 (ofS endsB 0)) (.int .u64 (ofS endsB 1)) (.int .u64 (ofS endsB 2)) (.int .u64 (ofS endsB 3)))
        replace K6 := Hid.of (SB.set4 (S := zeroS) K6.out (ofS endsB))
        refine hK'.out _ _ (SA.out _ KA.out KB.out) (fun hS7 => ?_)
        clear hK' K' f6 z0 z1 z2 z3 hS6 hS7
        refine wpAnyH_done (by kernel_rfl) ?_ _
        go_wp2
        exact bodyPost_ret (v := lookV p5 p6) (by simp [results, go_sem]) rfl ⟨p5, p6, rfl, K5.out, K6.out, B.out⟩
      · clear hS
        go_simp
        have hb : Below Y2.heap.size Y2 (Y2.alloc (.cells #[.int .u64 0, .int .u64 0, .int .u64 0, .int .u64 0] 62)) := (Below.refl _ _).alloc (Nat.le_refl _) _
        have P6 := Hid.of (Nat.le_trans (Nat.succ_le_of_lt KB.out.lt) (Nat.le_refl Y2.heap.size))
        replace B := Hid.of (B.out.trans (hb.mono B.out.size))
        replace KA := Hid.of (KA.out.below hb KA.out.lt)
        replace KB := Hid.of (KB.out.below hb KB.out.lt)
        have K6 := Hid.of (Blk.new Y2 62 #[.int .u64 0, .int .u64 0, .int .u64 0, .int .u64 0])
        refine hK'.out _ _ (SA.out _ KA.out KB.out) (fun hS => ?_)
        clear hK' K' hb
        revert P6 B KA KB K6 hS
        generalize Y2.alloc (.cells #[.int .u64 0, .int .u64 0, .int .u64 0, .int .u64 0] 62) = Y5
        generalize Y2.heap.size = p6
        intro P6 B KA KB K6 hS
        refine wpAnyH_ready (rs := [6]) (by kernel_rfl) (by simp) ?_
        refine AllReadyH.cons rfl (fun K' hK' => ?_) AllReadyH.nil
        clear hS
        go_simp
        have hb : Below Y5.heap.size Y5 (Y5.alloc (.cells #[.int .u64 0, .int .u64 0, .int .u64 0, .int .u64 0] 62)) := (Below.refl _ _).alloc (Nat.le_refl _) _
        have P5 := Hid.of (Nat.le_trans (Nat.succ_le_of_lt KB.out.lt) (Nat.le_refl Y5.heap.size))
        have N56 := Hid.of (Nat.ne_of_gt K6.out.lt)
        replace B := Hid.of (B.out.trans (hb.mono B.out.size))
        replace KA := Hid.of (KA.out.below hb KA.out.lt)
        replace KB := Hid.of (KB.out.below hb KB.out.lt)
        replace K6 := Hid.of (K6.out.below hb K6.out.lt)
        have K5 := Hid.of (Blk.new Y5 62 #[.int .u64 0, .int .u64 0, .int .u64 0, .int .u64 0])
        refine hK'.out _ _ (SA.out _ KA.out KB.out) (fun hS => ?_)
        clear hK' K' hb
        revert P5 N56 B KA KB K6 K5 hS
        generalize Y5.alloc (.cells #[.int .u64 0, .int .u64 0, .int .u64 0, .int .u64 0] 62) = Y6
        generalize Y5.heap.size = p5
        intro P5 N56 B KA KB K6 K5 hS
        refine wpAnyH_ready (rs := [8]) (by kernel_rfl) (by simp) ?_
        refine AllReadyH.cons rfl (fun K' hK' => ?_) AllReadyH.nil
        have f5 := K5.out.frozen
        have z0 := K5.out.cell 0 rfl
        have z1 := K5.out.cell 1 rfl
        have z2 := K5.out.cell 2 rfl
        have z3 := K5.out.cell 3 rfl
        go_simp
        replace B := Hid.of (below_set4 B.out (b' := p5) (show w.heap.size ≤ p5 by have := P5.out; omega) (.int .u64 (ofS ends 0)) (.int .u64 (ofS ends 1)) (.int .u64 (ofS ends 2)) (.int .u64 (ofS ends 3)))
        replace KA := Hid.of (Blk.other4 KA.out (show w.heap.size ≠ p5 by have := P5.out; omega) (.int .u64 (ofS ends 0)) (.int .u64 (ofS ends 1)) (.int .u64 (ofS ends 2)) (.int .u64 (ofS ends 3)))
        replace KB := Hid.of (Blk.other4 KB.out (show w.heap.size + 1 ≠ p5 by have := P5.out; omega) (.int .u64 (ofS ends 0)) (.int .u64 (ofS ends 1)) (.int .u64 (ofS ends 2)) (.int .u64 (ofS ends 3)))
        replace K6 := Hid.of (Blk.other4 K6.out (Ne.symm N56.out) (.int .u64 (ofS ends 0)) (.int .u64 (ofS ends 1)) (.int .u64 (ofS ends 2)) (.int .u64 (ofS ends 3)))
        replace K5 := Hid.of (SB.set4 (S := zeroS) K5.out (ofS ends))
        refine hK'.out _ _ (SA.out _ KA.out KB.out) (fun hS6 => ?_)
        clear hK' K' f5 z0 z1 z2 z3 hS
        refine wpAnyH_ready (rs := [9]) (by kernel_rfl) (by simp) ?_
        refine AllReadyH.cons rfl (fun K' hK' => ?_) AllReadyH.nil
        have f6 := K6.out.frozen
        have z0 := K6.out.cell 0 rfl
        have z1 := K6.out.cell 1 rfl
        have z2 := K6.out.cell 2 rfl
        have z3 := K6.out.cell 3 rfl
        go_simp
        replace B := Hid.of (below_set4 B.out (b' := p6) (show w.heap.size ≤ p6 by have := P6.out; omega) (.int .u64 (ofS endsB 0)) (.int .u64 (ofS endsB 1)) (.int .u64 (ofS endsB 2)) (.int .u64 (ofS endsB 3)))
        replace KA := Hid.of (Blk.other4 KA.out (show w.heap.size ≠ p6 by have := P6.out; omega) (.int .u64 (ofS endsB 0)) (.int .u64 (ofS endsB 1)) (.int .u64 (ofS endsB 2)) (.int .u64 (ofS endsB 3)))
        replace KB := Hid.of (Blk.other4 KB.out (show w.heap.size + 1 ≠ p6 by have := P6.out; omega) (.int .u64 (ofS endsB 0)) (.int .u64 (ofS endsB 1)) (.int .u64 (ofS endsB 2)) (.int .u64 (ofS endsB 3)))
        replace K5 := Hid.of (Blk.other4 K5.out N56.out (.int .u64 (ofS endsB 0)) (.int .u64 (ofS endsB 1)) (.int .u64 (ofS endsB 2)) (.int .u64 (ofS endsB 3)))
        replace K6 := Hid.of (SB.set4 (S := zeroS) K6.out (ofS endsB))
        refine hK'.out _ _ (SA.out _ KA.out KB.out) (fun hS7 => ?_)
        clear hK' K' f6 z0 z1 z2 z3 hS6 hS7
        refine wpAnyH_done (by kernel_rfl) ?_ _
        go_wp2
        exact bodyPost_ret (v := lookV p5 p6) (by simp [results, go_sem]) rfl ⟨p5, p6, rfl, K5.out, K6.out, B.out⟩
    · clear hS
      go_simp
      have hb : Below Y1.heap.size Y1 (Y1.alloc (.cells #[.int .u64 0, .int .u64 0, .int .u64 0, .int .u64 0] 62)) := (Below.refl _ _).alloc (Nat.le_refl _) _
      have P5 := Hid.of (Nat.le_trans (Nat.succ_le_of_lt KB.out.lt) (Nat.le_refl Y1.heap.size))
      replace B := Hid.of (B.out.trans (hb.mono B.out.size))
      replace KA := Hid.of (KA.out.below hb KA.out.lt)
      replace KB := Hid.of (KB.out.below hb KB.out.lt)
      have K5 := Hid.of (Blk.new Y1 62 #[.int .u64 0, .int .u64 0, .int .u64 0, .int .u64 0])
      refine hK'.out _ _ (SA.out _ KA.out KB.out) (fun hS => ?_)
      clear hK' K' hb
      revert P5 B KA KB K5 hS
      generalize Y1.alloc (.cells #[.int .u64 0, .int .u64 0, .int .u64 0, .int .u64 0] 62) = Y7
      generalize Y1.heap.size = p5
      intro P5 B KA KB K5 hS
      refine wpAnyH_ready (rs := [5, 7]) (by kernel_rfl) (by simp) ?_
      refine AllReadyH.cons rfl (fun K' hK' => ?_) (AllReadyH.cons rfl (fun K' hK' => ?_) AllReadyH.nil)
      · clear hS
        go_simp
        refine (of_any b3 d3 endsB Y7 (h'.out.e.below B.out (Nat.le_refl _)) elB.out ebB.out).mono ?_
        rintro e Y8 ⟨rfl, hb⟩
        replace B := Hid.of (B.out.trans (hb.mono B.out.size))
        replace KA := Hid.of (KA.out.below hb KA.out.lt)
        replace KB := Hid.of (KB.out.below hb KB.out.lt)
        replace K5 := Hid.of (K5.out.below hb K5.out.lt)
        refine hK'.out _ _ (SA.out _ KA.out KB.out) (fun hS => ?_)
        clear hK' K' hb
        refine wpAnyH_ready (rs := [7]) (by kernel_rfl) (by simp) ?_
        refine AllReadyH.cons rfl (fun K' hK' => ?_) AllReadyH.nil
        clear hS
        go_simp
        have hb : Below Y8.heap.size Y8 (Y8.alloc (.cells #[.int .u64 0, .int .u64 0, .int .u64 0, .int .u64 0] 62)) := (Below.refl _ _).alloc (Nat.le_refl _) _
        have P6 := Hid.of (Nat.le_trans (Nat.succ_le_of_lt KB.out.lt) (Nat.le_refl Y8.heap.size))
        have N56 := Hid.of (Nat.ne_of_lt K5.out.lt)
        replace B := Hid.of (B.out.trans (hb.mono B.out.size))
        replace KA := Hid.of (KA.out.below hb KA.out.lt)
        replace KB := Hid.of (KB.out.below hb KB.out.lt)
        replace K5 := Hid.of (K5.out.below hb K5.out.lt)
        have K6 := Hid.of (Blk.new Y8 62 #[.int .u64 0, .int .u64 0, .int .u64 0, .int .u64 0])
        refine hK'.out _ _ (SA.out _ KA.out KB.out) (fun hS => ?_)
        clear hK' K' hb
        revert P6 N56 B KA KB K5 K6 hS
        generalize Y8.alloc (.cells #[.int .u64 0, .int .u64 0, .int .u64 0, .int .u64 0] 62) = Y9
        generalize Y8.heap.size = p6
        intro P6 N56 B KA KB K5 K6 hS
        refine wpAnyH_ready (rs := [8]) (by kernel_rfl) (by simp) ?_
        refine AllReadyH.cons rfl (fun K' hK' => ?_) AllReadyH.nil
        have f5 := K5.out.frozen
        have z0 := K5.out.cell 0 rfl
        have z1 := K5.out.cell 1 rfl
        have z2 := K5.out.cell 2 rfl
        have z3 := K5.out.cell 3 rfl
        go_simp
        replace B := Hid.of (below_set4 B.out (b' := p5) (show w.heap.size ≤ p5 by have := P5.out; omega) (.int .u64 (ofS ends 0)) (.int .u64 (ofS ends 1)) (.int .u64 (ofS ends 2)) (.int .u64 (ofS ends 3)))
        replace KA := Hid.of (Blk.other4 KA.out (show w.heap.size ≠ p5 by have := P5.out; omega) (.int .u64 (ofS ends 0)) (.int .u64 (ofS ends 1)) (.int .u64 (ofS ends 2)) (.int .u64 (ofS ends 3)))
        replace KB := Hid.of (Blk.other4 KB.out (show w.heap.size + 1 ≠ p5 by have := P5.out; omega) (.int .u64 (ofS ends 0)) (.int .u64 (ofS ends 1)) (.int .u64 (ofS ends 2)) (.int .u64 (ofS ends 3)))
        replace K6 := Hid.of (Blk.other4 K6.out (Ne.symm N56.out) (.int .u64 (ofS ends 0)) (.int .u64 (ofS ends 1)) (.int .u64 (ofS ends 2)) (.int .u64 (ofS ends 3)))
        replace K5 := Hid.of (SB.set4 (S := zeroS) K5.out (ofS ends))
        refine hK'.out _ _ (SA.out _ KA.out KB.out) (fun hS6 => ?_)
        clear hK' K' f5 z0 z1 z2 z3 hS
        refine wpAnyH_ready (rs := [9]) (by kernel_rfl) (by simp) ?_
        refine AllReadyH.cons rfl (fun K' hK' => ?_) AllReadyH.nil
        have f6 := K6.out.frozen
        have z0 := K6.out.cell 0 rfl
        have z1 := K6.out.cell 1 rfl
        have z2 := K6.out.cell 2 rfl
        have z3 := K6.out.cell 3 rfl
        go_simp
        replace B := Hid.of (below_set4 B.out (b' := p6) (show w.heap.size ≤ p6 by have := P6.out; omega) (.int .u64 (ofS endsB 0)) (.int .u64 (ofS endsB 1)) (.int .u64 (ofS endsB 2)) (.int .u64 (ofS endsB 3)))
        replace KA := Hid.of (Blk.other4 KA.out (show w.heap.size ≠ p6 by have := P6.out; omega) (.int .u64 (ofS endsB 0)) (.int .u64 (ofS endsB 1)) (.int .u64 (ofS endsB 2)) (.int .u64 (ofS endsB 3)))
        replace KB := Hid.of (Blk.other4 KB.out (show w.heap.size + 1 ≠ p6 by have := P6.out; omega) (.int .u64 (ofS endsB 0)) (.int .u64 (ofS endsB 1)) (.int .u64 (ofS endsB 2)) (.int .u64 (ofS endsB 3)))
        replace K5 := Hid.of (Blk.other4 K5.out N56.out (.int .u64 (ofS endsB 0)) (.int .u64 (ofS endsB 1)) (.int .u64 (ofS endsB 2)) (.int .u64 (ofS endsB 3)))
        replace K6 := Hid.of (SB.set4 (S := zeroS) K6.out (ofS endsB))
        refine hK'.out _ _ (SA.out _ KA.out KB.out) (fun hS7 => ?_)
        clear hK' K' f6 z0 z1 z2 z3 hS6 hS7
        refine wpAnyH_done (by kernel_rfl) ?_ _
        go_wp2
        exact bodyPost_ret (v := lookV p5 p6) (by simp [results, go_sem]) rfl ⟨p5, p6, rfl, K5.out, K6.out, B.out⟩
      · clear hS
        go_simp
        have hb : Below Y7.heap.size Y7 (Y7.alloc (.cells #[.int .u64 0, .int .u64 0, .int .u64 0, .int .u64 0] 62)) := (Below.refl _ _).alloc (Nat.le_refl _) _
        have P6 := Hid.of (Nat.le_trans (Nat.succ_le_of_lt KB.out.lt) (Nat.le_refl Y7.heap.size))
        have N56 := Hid.of (Nat.ne_of_lt K5.out.lt)
        replace B := Hid.of (B.out.trans (hb.mono B.out.size))
        replace KA := Hid.of (KA.out.below hb KA.out.lt)
        replace KB := Hid.of (KB.out.below hb KB.out.lt)
        replace K5 := Hid.of (K5.out.below hb K5.out.lt)
        have K6 := Hid.of (Blk.new Y7 62 #[.int .u64 0, .int .u64 0, .int .u64 0, .int .u64 0])
        refine hK'.out _ _ (SA.out _ KA.out KB.out) (fun hS => ?_)
        clear hK' K' hb
        revert P6 N56 B KA KB K5 K6 hS
        generalize Y7.alloc (.cells #[.int .u64 0, .int .u64 0, .int .u64 0, .int .u64 0] 62) = Y10
        generalize Y7.heap.size = p6
        intro P6 N56 B KA KB K5 K6 hS
        refine wpAnyH_ready (rs := [5]) (by kernel_rfl) (by simp) ?_
        refine AllReadyH.cons rfl (fun K' hK' => ?_) AllReadyH.nil
        clear hS
        go_simp
        refine (of_any b3 d3 endsB Y10 (h'.out.e.below B.out (Nat.le_refl _)) elB.out ebB.out).mono ?_
        rintro e Y11 ⟨rfl, hb⟩
        replace B := Hid.of (B.out.trans (hb.mono B.out.size))
        replace KA := Hid.of (KA.out.below hb KA.out.lt)
        replace KB := Hid.of (KB.out.below hb KB.out.lt)
        replace K5 := Hid.of (K5.out.below hb K5.out.lt)
        replace K6 := Hid.of (K6.out.below hb K6.out.lt)
        refine hK'.out _ _ (SA.out _ KA.out KB.out) (fun hS => ?_)
        clear hK' K' hb
        refine wpAnyH_ready (rs := [8]) (by kernel_rfl) (by simp) ?_
        refine AllReadyH.cons rfl (fun K' hK' => ?_) AllReadyH.nil
        have f5 := K5.out.frozen
        have z0 := K5.out.cell 0 rfl
        have z1 := K5.out.cell 1 rfl
        have z2 := K5.out.cell 2 rfl
        have z3 := K5.out.cell 3 rfl
        go_simp
        replace B := Hid.of (below_set4 B.out (b' := p5) (show w.heap.size ≤ p5 by have := P5.out; omega) (.int .u64 (ofS ends 0)) (.int .u64 (ofS ends 1)) (.int .u64 (ofS ends 2)) (.int .u64 (ofS ends 3)))
        replace KA := Hid.of (Blk.other4 KA.out (show w.heap.size ≠ p5 by have := P5.out; omega) (.int .u64 (ofS ends 0)) (.int .u64 (ofS ends 1)) (.int .u64 (ofS ends 2)) (.int .u64 (ofS ends 3)))
        replace KB := Hid.of (Blk.other4 KB.out (show w.heap.size + 1 ≠ p5 by have := P5.out; omega) (.int .u64 (ofS ends 0)) (.int .u64 (ofS ends 1)) (.int .u64 (ofS ends 2)) (.int .u64 (ofS ends 3)))
        replace K6 := Hid.of (Blk.other4 K6.out (Ne.symm N56.out) (.int .u64 (ofS ends 0)) (.int .u64 (ofS ends 1)) (.int .u64 (ofS ends 2)) (.int .u64 (ofS ends 3)))
        replace K5 := Hid.of (SB.set4 (S := zeroS) K5.out (ofS ends))
        refine hK'.out _ _ (SA.out _ KA.out KB.out) (fun hS6 => ?_)
        clear hK' K' f5 z0 z1 z2 z3 hS
        refine wpAnyH_ready (rs := [9]) (by kernel_rfl) (by simp) ?_
        refine AllReadyH.cons rfl (fun K' hK' => ?_) AllReadyH.nil
        have f6 := K6.out.frozen
        have z0 := K6.out.cell 0 rfl
        have z1 := K6.out.cell 1 rfl
        have z2 := K6.out.cell 2 rfl
        have z3 := K6.out.cell 3 rfl
        go_simp
        replace B := Hid.of (below_set4 B.out (b' := p6) (show w.heap.size ≤ p6 by have := P6.out; omega) (.int .u64 (ofS endsB 0)) (.int .u64 (ofS endsB 1)) (.int .u64 (ofS endsB 2)) (.int .u64 (ofS endsB 3)))
        replace KA := Hid.of (Blk.other4 KA.out (show w.heap.size ≠ p6 by have := P6.out; omega) (.int .u64 (ofS endsB 0)) (.int .u64 (ofS endsB 1)) (.int .u64 (ofS endsB 2)) (.int .u64 (ofS endsB 3)))
        replace KB := Hid.of (Blk.other4 KB.out (show w.heap.size + 1 ≠ p6 by have := P6.out; omega) (.int .u64 (ofS endsB 0)) (.int .u64 (ofS endsB 1)) (.int .u64 (ofS endsB 2)) (.int .u64 (ofS endsB 3)))
        replace K5 := Hid.of (Blk.other4 K5.out N56.out (.int .u64 (ofS endsB 0)) (.int .u64 (ofS endsB 1)) (.int .u64 (ofS endsB 2)) (.int .u64 (ofS endsB 3)))
        replace K6 := Hid.of (SB.set4 (S := zeroS) K6.out (ofS endsB))
        refine hK'.out _ _ (SA.out _ KA.out KB.out) (fun hS7 => ?_)
        clear hK' K' f6 z0 z1 z2 z3 hS6 hS7
        refine wpAnyH_done (by kernel_rfl) ?_ _
        go_wp2
        exact bodyPost_ret (v := lookV p5 p6) (by simp [results, go_sem]) rfl ⟨p5, p6, rfl, K5.out, K6.out, B.out⟩
    · clear hS
      go_simp
      have hb : Below Y1.heap.size Y1 (Y1.alloc (.cells #[.int .u64 0, .int .u64 0, .int .u64 0, .int .u64 0] 62)) := (Below.refl _ _).alloc (Nat.le_refl _) _
      have P6 := Hid.of (Nat.le_trans (Nat.succ_le_of_lt KB.out.lt) (Nat.le_refl Y1.heap.size))
      replace B := Hid.of (B.out.trans (hb.mono B.out.size))
      replace KA := Hid.of (KA.out.below hb KA.out.lt)
      replace KB := Hid.of (KB.out.below hb KB.out.lt)
      have K6 := Hid.of (Blk.new Y1 62 #[.int .u64 0, .int .u64 0, .int .u64 0, .int .u64 0])
      refine hK'.out _ _ (SA.out _ KA.out KB.out) (fun hS => ?_)
      clear hK' K' hb
      revert P6 B KA KB K6 hS
      generalize Y1.alloc (.cells #[.int .u64 0, .int .u64 0, .int .u64 0, .int .u64 0] 62) = Y12
      generalize Y1.heap.size = p6
      intro P6 B KA KB K6 hS
      refine wpAnyH_ready (rs := [5, 6]) (by kernel_rfl) (by simp) ?_
      refine AllReadyH.cons rfl (fun K' hK' => ?_) (AllReadyH.cons rfl (fun K' hK' => ?_) AllReadyH.nil)
      · clear hS
        go_simp
        refine (of_any b3 d3 endsB Y12 (h'.out.e.below B.out (Nat.le_refl _)) elB.out ebB.out).mono ?_
        rintro e Y13 ⟨rfl, hb⟩
        replace B := Hid.of (B.out.trans (hb.mono B.out.size))
        replace KA := Hid.of (KA.out.below hb KA.out.lt)
        replace KB := Hid.of (KB.out.below hb KB.out.lt)
        replace K6 := Hid.of (K6.out.below hb K6.out.lt)
        refine hK'.out _ _ (SA.out _ KA.out KB.out) (fun hS => ?_)
        clear hK' K' hb
        refine wpAnyH_ready (rs := [6]) (by kernel_rfl) (by simp) ?_
        refine AllReadyH.cons rfl (fun K' hK' => ?_) AllReadyH.nil
        clear hS
        go_simp
        have hb : Below Y13.heap.size Y13 (Y13.alloc (.cells #[.int .u64 0, .int .u64 0, .int .u64 0, .int .u64 0] 62)) := (Below.refl _ _).alloc (Nat.le_refl _) _
        have P5 := Hid.of (Nat.le_trans (Nat.succ_le_of_lt KB.out.lt) (Nat.le_refl Y13.heap.size))
        have N56 := Hid.of (Nat.ne_of_gt K6.out.lt)
        replace B := Hid.of (B.out.trans (hb.mono B.out.size))
        replace KA := Hid.of (KA.out.below hb KA.out.lt)
        replace KB := Hid.of (KB.out.below hb KB.out.lt)
        replace K6 := Hid.of (K6.out.below hb K6.out.lt)
        have K5 := Hid.of (Blk.new Y13 62 #[.int .u64 0, .int .u64 0, .int .u64 0, .int .u64 0])
        refine hK'.out _ _ (SA.out _ KA.out KB.out) (fun hS => ?_)
        clear hK' K' hb
        revert P5 N56 B KA KB K6 K5 hS
        generalize Y13.alloc (.cells #[.int .u64 0, .int .u64 0, .int .u64 0, .int .u64 0] 62) = Y14
        generalize Y13.heap.size = p5
        intro P5 N56 B KA KB K6 K5 hS
        refine wpAnyH_ready (rs := [8]) (by kernel_rfl) (by simp) ?_
        refine AllReadyH.cons rfl (fun K' hK' => ?_) AllReadyH.nil
        have f5 := K5.out.frozen
        have z0 := K5.out.cell 0 rfl
        have z1 := K5.out.cell 1 rfl
        have z2 := K5.out.cell 2 rfl
        have z3 := K5.out.cell 3 rfl
        go_simp
        replace B := Hid.of (below_set4 B.out (b' := p5) (show w.heap.size ≤ p5 by have := P5.out; omega) (.int .u64 (ofS ends 0)) (.int .u64 (ofS ends 1)) (.int .u64 (ofS ends 2)) (.int .u64 (ofS ends 3)))
        replace KA := Hid.of (Blk.other4 KA.out (show w.heap.size ≠ p5 by have := P5.out; omega) (.int .u64 (ofS ends 0)) (.int .u64 (ofS ends 1)) (.int .u64 (ofS ends 2)) (.int .u64 (ofS ends 3)))
        replace KB := Hid.of (Blk.other4 KB.out (show w.heap.size + 1 ≠ p5 by have := P5.out; omega) (.int .u64 (ofS ends 0)) (.int .u64 (ofS ends 1)) (.int .u64 (ofS ends 2)) (.int .u64 (ofS ends 3)))
        replace K6 := Hid.of (Blk.other4 K6.out (Ne.symm N56.out) (.int .u64 (ofS ends 0)) (.int .u64 (ofS ends 1)) (.int .u64 (ofS ends 2)) (.int .u64 (ofS ends 3)))
        replace K5 := Hid.of (SB.set4 (S := zeroS) K5.out (ofS ends))
        refine hK'.out _ _ (SA.out _ KA.out KB.out) (fun hS6 => ?_)
        clear hK' K' f5 z0 z1 z2 z3 hS
        refine wpAnyH_ready (rs := [9]) (by kernel_rfl) (by simp) ?_
        refine AllReadyH.cons rfl (fun K' hK' => ?_) AllReadyH.nil
        have f6 := K6.out.frozen
        have z0 := K6.out.cell 0 rfl
        have z1 := K6.out.cell 1 rfl
        have z2 := K6.out.cell 2 rfl
        have z3 := K6.out.cell 3 rfl
        go_simp
        replace B := Hid.of (below_set4 B.out (b' := p6) (show w.heap.size ≤ p6 by have := P6.out; omega) (.int .u64 (ofS endsB 0)) (.int .u64 (ofS endsB 1)) (.int .u64 (ofS endsB 2)) (.int .u64 (ofS endsB 3)))
        replace KA := Hid.of (Blk.other4 KA.out (show w.heap.size ≠ p6 by have := P6.out; omega) (.int .u64 (ofS endsB 0)) (.int .u64 (ofS endsB 1)) (.int .u64 (ofS endsB 2)) (.int .u64 (ofS endsB 3)))
        replace KB := Hid.of (Blk.other4 KB.out (show w.heap.size + 1 ≠ p6 by have := P6.out; omega) (.int .u64 (ofS endsB 0)) (.int .u64 (ofS endsB 1)) (.int .u64 (ofS endsB 2)) (.int .u64 (ofS endsB 3)))
        replace K5 := Hid.of (Blk.other4 K5.out N56.out (.int .u64 (ofS endsB 0)) (.int .u64 (ofS endsB 1)) (.int .u64 (ofS endsB 2)) (.int .u64 (ofS endsB 3)))
        replace K6 := Hid.of (SB.set4 (S := zeroS) K6.out (ofS endsB))
        refine hK'.out _ _ (SA.out _ KA.out KB.out) (fun hS7 => ?_)
        clear hK' K' f6 z0 z1 z2 z3 hS6 hS7
        refine wpAnyH_done (by kernel_rfl) ?_ _
        go_wp2
        exact bodyPost_ret (v := lookV p5 p6) (by simp [results, go_sem]) rfl ⟨p5, p6, rfl, K5.out, K6.out, B.out⟩
      · clear hS
        go_simp
        have hb : Below Y12.heap.size Y12 (Y12.alloc (.cells #[.int .u64 0, .int .u64 0, .int .u64 0, .int .u64 0] 62)) := (Below.refl _ _).alloc (Nat.le_refl _) _
        have P5 := Hid.of (Nat.le_trans (Nat.succ_le_of_lt KB.out.lt) (Nat.le_refl Y12.heap.size))
        have N56 := Hid.of (Nat.ne_of_gt K6.out.lt)
        replace B := Hid.of (B.out.trans (hb.mono B.out.size))
        replace KA := Hid.of (KA.out.below hb KA.out.lt)
        replace KB := Hid.of (KB.out.below hb KB.out.lt)
        replace K6 := Hid.of (K6.out.below hb K6.out.lt)
        have K5 := Hid.of (Blk.new Y12 62 #[.int .u64 0, .int .u64 0, .int .u64 0, .int .u64 0])
        refine hK'.out _ _ (SA.out _ KA.out KB.out) (fun hS => ?_)
        clear hK' K' hb
        revert P5 N56 B KA KB K6 K5 hS
        generalize Y12.alloc (.cells #[.int .u64 0, .int .u64 0, .int .u64 0, .int .u64 0] 62) = Y15
        generalize Y12.heap.size = p5
        intro P5 N56 B KA KB K6 K5 hS
        refine wpAnyH_ready (rs := [5]) (by kernel_rfl) (by simp) ?_
        refine AllReadyH.cons rfl (fun K' hK' => ?_) AllReadyH.nil
        clear hS
        go_simp
        refine (of_any b3 d3 endsB Y15 (h'.out.e.below B.out (Nat.le_refl _)) elB.out ebB.out).mono ?_
        rintro e Y16 ⟨rfl, hb⟩
        replace B := Hid.of (B.out.trans (hb.mono B.out.size))
        replace KA := Hid.of (KA.out.below hb KA.out.lt)
        replace KB := Hid.of (KB.out.below hb KB.out.lt)
        replace K6 := Hid.of (K6.out.below hb K6.out.lt)
        replace K5 := Hid.of (K5.out.below hb K5.out.lt)
        refine hK'.out _ _ (SA.out _ KA.out KB.out) (fun hS => ?_)
        clear hK' K' hb
        refine wpAnyH_ready (rs := [8]) (by kernel_rfl) (by simp) ?_
        refine AllReadyH.cons rfl (fun K' hK' => ?_) AllReadyH.nil
        have f5 := K5.out.frozen
        have z0 := K5.out.cell 0 rfl
        have z1 := K5.out.cell 1 rfl
        have z2 := K5.out.cell 2 rfl
        have z3 := K5.out.cell 3 rfl
        go_simp
        replace B := Hid.of (below_set4 B.out (b' := p5) (show w.heap.size ≤ p5 by have := P5.out; omega) (.int .u64 (ofS ends 0)) (.int .u64 (ofS ends 1)) (.int .u64 (ofS ends 2)) (.int .u64 (ofS ends 3)))
        replace KA := Hid.of (Blk.other4 KA.out (show w.heap.size ≠ p5 by have := P5.out; omega) (.int .u64 (ofS ends 0)) (.int .u64 (ofS ends 1)) (.int .u64 (ofS ends 2)) (.int .u64 (ofS ends 3)))
        replace KB := Hid.of (Blk.other4 KB.out (show w.heap.size + 1 ≠ p5 by have := P5.out; omega) (.int .u64 (ofS ends 0)) (.int .u64 (ofS ends 1)) (.int .u64 (ofS ends 2)) (.int .u64 (ofS ends 3)))
        replace K6 := Hid.of (Blk.other4 K6.out (Ne.symm N56.out) (.int .u64 (ofS ends 0)) (.int .u64 (ofS ends 1)) (.int .u64 (ofS ends 2)) (.int .u64 (ofS ends 3)))
        replace K5 := Hid.of (SB.set4 (S := zeroS) K5.out (ofS ends))
        refine hK'.out _ _ (SA.out _ KA.out KB.out) (fun hS6 => ?_)
        clear hK' K' f5 z0 z1 z2 z3 hS
        refine wpAnyH_ready (rs := [9]) (by kernel_rfl) (by simp) ?_
        refine AllReadyH.cons rfl (fun K' hK' => ?_) AllReadyH.nil
        have f6 := K6.out.frozen
        have z0 := K6.out.cell 0 rfl
        have z1 := K6.out.cell 1 rfl
        have z2 := K6.out.cell 2 rfl
        have z3 := K6.out.cell 3 rfl
        go_simp
        replace B := Hid.of (below_set4 B.out (b' := p6) (show w.heap.size ≤ p6 by have := P6.out; omega) (.int .u64 (ofS endsB 0)) (.int .u64 (ofS endsB 1)) (.int .u64 (ofS endsB 2)) (.int .u64 (ofS endsB 3)))
        replace KA := Hid.of (Blk.other4 KA.out (show w.heap.size ≠ p6 by have := P6.out; omega) (.int .u64 (ofS endsB 0)) (.int .u64 (ofS endsB 1)) (.int .u64 (ofS endsB 2)) (.int .u64 (ofS endsB 3)))
        replace KB := Hid.of (Blk.other4 KB.out (show w.heap.size + 1 ≠ p6 by have := P6.out; omega) (.int .u64 (ofS endsB 0)) (.int .u64 (ofS endsB 1)) (.int .u64 (ofS endsB 2)) (.int .u64 (ofS endsB 3)))
        replace K5 := Hid.of (Blk.other4 K5.out N56.out (.int .u64 (ofS endsB 0)) (.int .u64 (ofS endsB 1)) (.int .u64 (ofS endsB 2)) (.int .u64 (ofS endsB 3)))
        replace K6 := Hid.of (SB.set4 (S := zeroS) K6.out (ofS endsB))
        refine hK'.out _ _ (SA.out _ KA.out KB.out) (fun hS7 => ?_)
        clear hK' K' f6 z0 z1 z2 z3 hS6 hS7
        refine wpAnyH_done (by kernel_rfl) ?_ _
        go_wp2
        exact bodyPost_ret (v := lookV p5 p6) (by simp [results, go_sem]) rfl ⟨p5, p6, rfl, K5.out, K6.out, B.out⟩
  · clear hS
    go_simp
    have hb : Below Y0.heap.size Y0 (Y0.alloc (.cells #[.int .u64 0, .int .u64 0, .int .u64 0, .int .u64 0] 62)) := (Below.refl _ _).alloc (Nat.le_refl _) _
    have P5 := Hid.of (Nat.le_trans (Nat.succ_le_of_lt KB.out.lt) (Nat.le_refl Y0.heap.size))
    replace B := Hid.of (B.out.trans (hb.mono B.out.size))
    replace KA := Hid.of (KA.out.below hb KA.out.lt)
    replace KB := Hid.of (KB.out.below hb KB.out.lt)
    have K5 := Hid.of (Blk.new Y0 62 #[.int .u64 0, .int .u64 0, .int .u64 0, .int .u64 0])
    refine hK'.out _ _ (SA.out _ KA.out KB.out) (fun hS => ?_)
    clear hK' K' hb
    revert P5 B KA KB K5 hS
    generalize Y0.alloc (.cells #[.int .u64 0, .int .u64 0, .int .u64 0, .int .u64 0] 62) = Y17
    generalize Y0.heap.size = p5
    intro P5 B KA KB K5 hS
    refine wpAnyH_ready (rs := [2, 7]) (by kernel_rfl) (by simp) ?_
    refine AllReadyH.cons rfl (fun K' hK' => ?_) (AllReadyH.cons rfl (fun K' hK' => ?_) AllReadyH.nil)
    · clear hS
      go_simp
      refine (of_any a3 c3 ends Y17 (h.out.e.below B.out (Nat.le_refl _)) elA.out ebA.out).mono ?_
      rintro e Y18 ⟨rfl, hb⟩
      replace B := Hid.of (B.out.trans (hb.mono B.out.size))
      replace KA := Hid.of (KA.out.below hb KA.out.lt)
      replace KB := Hid.of (KB.out.below hb KB.out.lt)
      replace K5 := Hid.of (K5.out.below hb K5.out.lt)
      refine hK'.out _ _ (SA.out _ KA.out KB.out) (fun hS => ?_)
      clear hK' K' hb
      refine wpAnyH_ready (rs := [5, 7]) (by kernel_rfl) (by simp) ?_
      refine AllReadyH.cons rfl (fun K' hK' => ?_) (AllReadyH.cons rfl (fun K' hK' => ?_) AllReadyH.nil)
      · clear hS
        go_simp
        refine (of_any b3 d3 endsB Y18 (h'.out.e.below B.out (Nat.le_refl _)) elB.out ebB.out).mono ?_
        rintro e Y19 ⟨rfl, hb⟩
        replace B := Hid.of (B.out.trans (hb.mono B.out.size))
        replace KA := Hid.of (KA.out.below hb KA.out.lt)
        replace KB := Hid.of (KB.out.below hb KB.out.lt)
        replace K5 := Hid.of (K5.out.below hb K5.out.lt)
        refine hK'.out _ _ (SA.out _ KA.out KB.out) (fun hS => ?_)
        clear hK' K' hb
        refine wpAnyH_ready (rs := [7]) (by kernel_rfl) (by simp) ?_
        refine AllReadyH.cons rfl (fun K' hK' => ?_) AllReadyH.nil
        clear hS
        go_simp
        have hb : Below Y19.heap.size Y19 (Y19.alloc (.cells #[.int .u64 0, .int .u64 0, .int .u64 0, .int .u64 0] 62)) := (Below.refl _ _).alloc (Nat.le_refl _) _
        have P6 := Hid.of (Nat.le_trans (Nat.succ_le_of_lt KB.out.lt) (Nat.le_refl Y19.heap.size))
        have N56 := Hid.of (Nat.ne_of_lt K5.out.lt)
        replace B := Hid.of (B.out.trans (hb.mono B.out.size))
        replace KA := Hid.of (KA.out.below hb KA.out.lt)
        replace KB := Hid.of (KB.out.below hb KB.out.lt)
        replace K5 := Hid.of (K5.out.below hb K5.out.lt)
        have K6 := Hid.of (Blk.new Y19 62 #[.int .u64 0, .int .u64 0, .int .u64 0, .int .u64 0])
        refine hK'.out _ _ (SA.out _ KA.out KB.out) (fun hS => ?_)
        clear hK' K' hb
        revert P6 N56 B KA KB K5 K6 hS
        generalize Y19.alloc (.cells #[.int .u64 0, .int .u64 0, .int .u64 0, .int .u64 0] 62) = Y20
        generalize Y19.heap.size = p6
        intro P6 N56 B KA KB K5 K6 hS
        refine wpAnyH_ready (rs := [8]) (by kernel_rfl) (by simp) ?_
        refine AllReadyH.cons rfl (fun K' hK' => ?_) AllReadyH.nil
        have f5 := K5.out.frozen
        have z0 := K5.out.cell 0 rfl
        have z1 := K5.out.cell 1 rfl
        have z2 := K5.out.cell 2 rfl
        have z3 := K5.out.cell 3 rfl
        go_simp
        replace B := Hid.of (below_set4 B.out (b' := p5) (show w.heap.size ≤ p5 by have := P5.out; omega) (.int .u64 (ofS ends 0)) (.int .u64 (ofS ends 1)) (.int .u64 (ofS ends 2)) (.int .u64 (ofS ends 3)))
        replace KA := Hid.of (Blk.other4 KA.out (show w.heap.size ≠ p5 by have := P5.out; omega) (.int .u64 (ofS ends 0)) (.int .u64 (ofS ends 1)) (.int .u64 (ofS ends 2)) (.int .u64 (ofS ends 3)))
        replace KB := Hid.of (Blk.other4 KB.out (show w.heap.size + 1 ≠ p5 by have := P5.out; omega) (.int .u64 (ofS ends 0)) (.int .u64 (ofS ends 1)) (.int .u64 (ofS ends 2)) (.int .u64 (ofS ends 3)))
        replace K6 := Hid.of (Blk.other4 K6.out (Ne.symm N56.out) (.int .u64 (ofS ends 0)) (.int .u64 (ofS ends 1)) (.int .u64 (ofS ends 2)) (.int .u64 (ofS ends 3)))
        replace K5 := Hid.of (SB.set4 (S := zeroS) K5.out (ofS ends))
        refine hK'.out _ _ (SA.out _ KA.out KB.out) (fun hS6 => ?_)
        clear hK' K' f5 z0 z1 z2 z3 hS
        refine wpAnyH_ready (rs := [9]) (by kernel_rfl) (by simp) ?_
        refine AllReadyH.cons rfl (fun K' hK' => ?_) AllReadyH.nil
        have f6 := K6.out.frozen
        have z0 := K6.out.cell 0 rfl
        have z1 := K6.out.cell 1 rfl
        have z2 := K6.out.cell 2 rfl
        have z3 := K6.out.cell 3 rfl
        go_simp
        replace B := Hid.of (below_set4 B.out (b' := p6) (show w.heap.size ≤ p6 by have := P6.out; omega) (.int .u64 (ofS endsB 0)) (.int .u64 (ofS endsB 1)) (.int .u64 (ofS endsB 2)) (.int .u64 (ofS endsB 3)))
        replace KA := Hid.of (Blk.other4 KA.out (show w.heap.size ≠ p6 by have := P6.out; omega) (.int .u64 (ofS endsB 0)) (.int .u64 (ofS endsB 1)) (.int .u64 (ofS endsB 2)) (.int .u64 (ofS endsB 3)))
        replace KB := Hid.of (Blk.other4 KB.out (show w.heap.size + 1 ≠ p6 by have := P6.out; omega) (.int .u64 (ofS endsB 0)) (.int .u64 (ofS endsB 1)) (.int .u64 (ofS endsB 2)) (.int .u64 (ofS endsB 3)))
        replace K5 := Hid.of (Blk.other4 K5.out N56.out (.int .u64 (ofS endsB 0)) (.int .u64 (ofS endsB 1)) (.int .u64 (ofS endsB 2)) (.int .u64 (ofS endsB 3)))
        replace K6 := Hid.of (SB.set4 (S := zeroS) K6.out (ofS endsB))
        refine hK'.out _ _ (SA.out _ KA.out KB.out) (fun hS7 => ?_)
        clear hK' K' f6 z0 z1 z2 z3 hS6 hS7
        refine wpAnyH_done (by kernel_rfl) ?_ _
        go_wp2
        exact bodyPost_ret (v := lookV p5 p6) (by simp [results, go_sem]) rfl ⟨p5, p6, rfl, K5.out, K6.out, B.out⟩
      · clear hS
        go_simp
        have hb : Below Y18.heap.size Y18 (Y18.alloc (.cells #[.int .u64 0, .int .u64 0, .int .u64 0, .int .u64 0] 62)) := (Below.refl _ _).alloc (Nat.le_refl _) _
        have P6 := Hid.of (Nat.le_trans (Nat.succ_le_of_lt KB.out.lt) (Nat.le_refl Y18.heap.size))
        have N56 := Hid.of (Nat.ne_of_lt K5.out.lt)
        replace B := Hid.of (B.out.trans (hb.mono B.out.size))
        replace KA := Hid.of (KA.out.below hb KA.out.lt)
        replace KB := Hid.of (KB.out.below hb KB.out.lt)
        replace K5 := Hid.of (K5.out.below hb K5.out.lt)
        have K6 := Hid.of (Blk.new Y18 62 #[.int .u64 0, .int .u64 0, .int .u64 0, .int .u64 0])
        refine hK'.out _ _ (SA.out _ KA.out KB.out) (fun hS => ?_)
        clear hK' K' hb
        revert P6 N56 B KA KB K5 K6 hS
        generalize Y18.alloc (.cells #[.int .u64 0, .int .u64 0, .int .u64 0, .int .u64 0] 62) = Y21
        generalize Y18.heap.size = p6
        intro P6 N56 B KA KB K5 K6 hS
        refine wpAnyH_ready (rs := [5]) (by kernel_rfl) (by simp) ?_
        refine AllReadyH.cons rfl (fun K' hK' => ?_) AllReadyH.nil
        clear hS
        go_simp
        refine (of_any b3 d3 endsB Y21 (h'.out.e.below B.out (Nat.le_refl _)) elB.out ebB.out).mono ?_
        rintro e Y22 ⟨rfl, hb⟩
        replace B := Hid.of (B.out.trans (hb.mono B.out.size))
        replace KA := Hid.of (KA.out.below hb KA.out.lt)
        replace KB := Hid.of (KB.out.below hb KB.out.lt)
        replace K5 := Hid.of (K5.out.below hb K5.out.lt)
        replace K6 := Hid.of (K6.out.below hb K6.out.lt)
        refine hK'.out _ _ (SA.out _ KA.out KB.out) (fun hS => ?_)
        clear hK' K' hb
        refine wpAnyH_ready (rs := [8]) (by kernel_rfl) (by simp) ?_
        refine AllReadyH.cons rfl (fun K' hK' => ?_) AllReadyH.nil
        have f5 := K5.out.frozen
        have z0 := K5.out.cell 0 rfl
        have z1 := K5.out.cell 1 rfl
        have z2 := K5.out.cell 2 rfl
        have z3 := K5.out.cell 3 rfl
        go_simp
        replace B := Hid.of (below_set4 B.out (b' := p5) (show w.heap.size ≤ p5 by have := P5.out; omega) (.int .u64 (ofS ends 0)) (.int .u64 (ofS ends 1)) (.int .u64 (ofS ends 2)) (.int .u64 (ofS ends 3)))
        replace KA := Hid.of (Blk.other4 KA.out (show w.heap.size ≠ p5 by have := P5.out; omega) (.int .u64 (ofS ends 0)) (.int .u64 (ofS ends 1)) (.int .u64 (ofS ends 2)) (.int .u64 (ofS ends 3)))
        replace KB := Hid.of (Blk.other4 KB.out (show w.heap.size + 1 ≠ p5 by have := P5.out; omega) (.int .u64 (ofS ends 0)) (.int .u64 (ofS ends 1)) (.int .u64 (ofS ends 2)) (.int .u64 (ofS ends 3)))
        replace K6 := Hid.of (Blk.other4 K6.out (Ne.symm N56.out) (.int .u64 (ofS ends 0)) (.int .u64 (ofS ends 1)) (.int .u64 (ofS ends 2)) (.int .u64 (ofS ends 3)))
        replace K5 := Hid.of (SB.set4 (S := zeroS) K5.out (ofS ends))
        refine hK'.out _ _ (SA.out _ KA.out KB.out) (fun hS6 => ?_)
        clear hK' K' f5 z0 z1 z2 z3 hS
        refine wpAnyH_ready (rs := [9]) (by kernel_rfl) (by simp) ?_
        refine AllReadyH.cons rfl (fun K' hK' => ?_) AllReadyH.nil
        have f6 := K6.out.frozen
        have z0 := K6.out.cell 0 rfl
        have z1 := K6.out.cell 1 rfl
        have z2 := K6.out.cell 2 rfl
        have z3 := K6.out.cell 3 rfl
        go_simp
        replace B := Hid.of (below_set4 B.out (b' := p6) (show w.heap.size ≤ p6 by have := P6.out; omega) (.int .u64 (ofS endsB 0)) (.int .u64 (ofS endsB 1)) (.int .u64 (ofS endsB 2)) (.int .u64 (ofS endsB 3)))
        replace KA := Hid.of (Blk.other4 KA.out (show w.heap.size ≠ p6 by have := P6.out; omega) (.int .u64 (ofS endsB 0)) (.int .u64 (ofS endsB 1)) (.int .u64 (ofS endsB 2)) (.int .u64 (ofS endsB 3)))
        replace KB := Hid.of (Blk.other4 KB.out (show w.heap.size + 1 ≠ p6 by have := P6.out; omega) (.int .u64 (ofS endsB 0)) (.int .u64 (ofS endsB 1)) (.int .u64 (ofS endsB 2)) (.int .u64 (ofS endsB 3)))
        replace K5 := Hid.of (Blk.other4 K5.out N56.out (.int .u64 (ofS endsB 0)) (.int .u64 (ofS endsB 1)) (.int .u64 (ofS endsB 2)) (.int .u64 (ofS endsB 3)))
        replace K6 := Hid.of (SB.set4 (S := zeroS) K6.out (ofS endsB))
        refine hK'.out _ _ (SA.out _ KA.out KB.out) (fun hS7 => ?_)
        clear hK' K' f6 z0 z1 z2 z3 hS6 hS7
        refine wpAnyH_done (by kernel_rfl) ?_ _
        go_wp2
        exact bodyPost_ret (v := lookV p5 p6) (by simp [results, go_sem]) rfl ⟨p5, p6, rfl, K5.out, K6.out, B.out⟩
    · clear hS
      go_simp
      have hb : Below Y17.heap.size Y17 (Y17.alloc (.cells #[.int .u64 0, .int .u64 0, .int .u64 0, .int .u64 0] 62)) := (Below.refl _ _).alloc (Nat.le_refl _) _
      have P6 := Hid.of (Nat.le_trans (Nat.succ_le_of_lt KB.out.lt) (Nat.le_refl Y17.heap.size))
      have N56 := Hid.of (Nat.ne_of_lt K5.out.lt)
      replace B := Hid.of (B.out.trans (hb.mono B.out.size))
      replace KA := Hid.of (KA.out.below hb KA.out.lt)
      replace KB := Hid.of (KB.out.below hb KB.out.lt)
      replace K5 := Hid.of (K5.out.below hb K5.out.lt)
      have K6 := Hid.of (Blk.new Y17 62 #[.int .u64 0, .int .u64 0, .int .u64 0, .int .u64 0])
      refine hK'.out _ _ (SA.out _ KA.out KB.out) (fun hS => ?_)
      clear hK' K' hb
      revert P6 N56 B KA KB K5 K6 hS
      generalize Y17.alloc (.cells #[.int .u64 0, .int .u64 0, .int .u64 0, .int .u64 0] 62) = Y23
      generalize Y17.heap.size = p6
      intro P6 N56 B KA KB K5 K6 hS
      refine wpAnyH_ready (rs := [2]) (by kernel_rfl) (by simp) ?_
      refine AllReadyH.cons rfl (fun K' hK' => ?_) AllReadyH.nil
      clear hS
      go_simp
      refine (of_any a3 c3 ends Y23 (h.out.e.below B.out (Nat.le_refl _)) elA.out ebA.out).mono ?_
      rintro e Y24 ⟨rfl, hb⟩
      replace B := Hid.of (B.out.trans (hb.mono B.out.size))
      replace KA := Hid.of (KA.out.below hb KA.out.lt)
      replace KB := Hid.of (KB.out.below hb KB.out.lt)
      replace K5 := Hid.of (K5.out.below hb K5.out.lt)
      replace K6 := Hid.of (K6.out.below hb K6.out.lt)
      refine hK'.out _ _ (SA.out _ KA.out KB.out) (fun hS => ?_)
      clear hK' K' hb
      refine wpAnyH_ready (rs := [5]) (by kernel_rfl) (by simp) ?_
      refine AllReadyH.cons rfl (fun K' hK' => ?_) AllReadyH.nil
      clear hS
      go_simp
      refine (of_any b3 d3 endsB Y24 (h'.out.e.below B.out (Nat.le_refl _)) elB.out ebB.out).mono ?_
      rintro e Y25 ⟨rfl, hb⟩
      replace B := Hid.of (B.out.trans (hb.mono B.out.size))
      replace KA := Hid.of (KA.out.below hb KA.out.lt)
      replace KB := Hid.of (KB.out.below hb KB.out.lt)
      replace K5 := Hid.of (K5.out.below hb K5.out.lt)
      replace K6 := Hid.of (K6.out.below hb K6.out.lt)
      refine hK'.out _ _ (SA.out _ KA.out KB.out) (fun hS => ?_)
      clear hK' K' hb
      refine wpAnyH_ready (rs := [8]) (by kernel_rfl) (by simp) ?_
      refine AllReadyH.cons rfl (fun K' hK' => ?_) AllReadyH.nil
      have f5 := K5.out.frozen
      have z0 := K5.out.cell 0 rfl
      have z1 := K5.out.cell 1 rfl
      have z2 := K5.out.cell 2 rfl
      have z3 := K5.out.cell 3 rfl
      go_simp
      replace B := Hid.of (below_set4 B.out (b' := p5) (show w.heap.size ≤ p5 by have := P5.out; omega) (.int .u64 (ofS ends 0)) (.int .u64 (ofS ends 1)) (.int .u64 (ofS ends 2)) (.int .u64 (ofS ends 3)))
      replace KA := Hid.of (Blk.other4 KA.out (show w.heap.size ≠ p5 by have := P5.out; omega) (.int .u64 (ofS ends 0)) (.int .u64 (ofS ends 1)) (.int .u64 (ofS ends 2)) (.int .u64 (ofS ends 3)))
      replace KB := Hid.of (Blk.other4 KB.out (show w.heap.size + 1 ≠ p5 by have := P5.out; omega) (.int .u64 (ofS ends 0)) (.int .u64 (ofS ends 1)) (.int .u64 (ofS ends 2)) (.int .u64 (ofS ends 3)))
      replace K6 := Hid.of (Blk.other4 K6.out (Ne.symm N56.out) (.int .u64 (ofS ends 0)) (.int .u64 (ofS ends 1)) (.int .u64 (ofS ends 2)) (.int .u64 (ofS ends 3)))
      replace K5 := Hid.of (SB.set4 (S := zeroS) K5.out (ofS ends))
      refine hK'.out _ _ (SA.out _ KA.out KB.out) (fun hS6 => ?_)
      clear hK' K' f5 z0 z1 z2 z3 hS
      refine wpAnyH_ready (rs := [9]) (by kernel_rfl) (by simp) ?_
      refine AllReadyH.cons rfl (fun K' hK' => ?_) AllReadyH.nil
      have f6 := K6.out.frozen
      have z0 := K6.out.cell 0 rfl
      have z1 := K6.out.cell 1 rfl
      have z2 := K6.out.cell 2 rfl
      have z3 := K6.out.cell 3 rfl
      go_simp
      replace B := Hid.of (below_set4 B.out (b' := p6) (show w.heap.size ≤ p6 by have := P6.out; omega) (.int .u64 (ofS endsB 0)) (.int .u64 (ofS endsB 1)) (.int .u64 (ofS endsB 2)) (.int .u64 (ofS endsB 3)))
      replace KA := Hid.of (Blk.other4 KA.out (show w.heap.size ≠ p6 by have := P6.out; omega) (.int .u64 (ofS endsB 0)) (.int .u64 (ofS endsB 1)) (.int .u64 (ofS endsB 2)) (.int .u64 (ofS endsB 3)))
      replace KB := Hid.of (Blk.other4 KB.out (show w.heap.size + 1 ≠ p6 by have := P6.out; omega) (.int .u64 (ofS endsB 0)) (.int .u64 (ofS endsB 1)) (.int .u64 (ofS endsB 2)) (.int .u64 (ofS endsB 3)))
      replace K5 := Hid.of (Blk.other4 K5.out N56.out (.int .u64 (ofS endsB 0)) (.int .u64 (ofS endsB 1)) (.int .u64 (ofS endsB 2)) (.int .u64 (ofS endsB 3)))
      replace K6 := Hid.of (SB.set4 (S := zeroS) K6.out (ofS endsB))
      refine hK'.out _ _ (SA.out _ KA.out KB.out) (fun hS7 => ?_)
      clear hK' K' f6 z0 z1 z2 z3 hS6 hS7
      refine wpAnyH_done (by kernel_rfl) ?_ _
      go_wp2
      exact bodyPost_ret (v := lookV p5 p6) (by simp [results, go_sem]) rfl ⟨p5, p6, rfl, K5.out, K6.out, B.out⟩
  · clear hS
    go_simp
    have hb : Below Y0.heap.size Y0 (Y0.alloc (.cells #[.int .u64 0, .int .u64 0, .int .u64 0, .int .u64 0] 62)) := (Below.refl _ _).alloc (Nat.le_refl _) _
    have P6 := Hid.of (Nat.le_trans (Nat.succ_le_of_lt KB.out.lt) (Nat.le_refl Y0.heap.size))
    replace B := Hid.of (B.out.trans (hb.mono B.out.size))
    replace KA := Hid.of (KA.out.below hb KA.out.lt)
    replace KB := Hid.of (KB.out.below hb KB.out.lt)
    have K6 := Hid.of (Blk.new Y0 62 #[.int .u64 0, .int .u64 0, .int .u64 0, .int .u64 0])
    refine hK'.out _ _ (SA.out _ KA.out KB.out) (fun hS => ?_)
    clear hK' K' hb
    revert P6 B KA KB K6 hS
    generalize Y0.alloc (.cells #[.int .u64 0, .int .u64 0, .int .u64 0, .int .u64 0] 62) = Y26
    generalize Y0.heap.size = p6
    intro P6 B KA KB K6 hS
    refine wpAnyH_ready (rs := [2, 6]) (by kernel_rfl) (by simp) ?_
    refine AllReadyH.cons rfl (fun K' hK' => ?_) (AllReadyH.cons rfl (fun K' hK' => ?_) AllReadyH.nil)
    · clear hS
      go_simp
      refine (of_any a3 c3 ends Y26 (h.out.e.below B.out (Nat.le_refl _)) elA.out ebA.out).mono ?_
      rintro e Y27 ⟨rfl, hb⟩
      replace B := Hid.of (B.out.trans (hb.mono B.out.size))
      replace KA := Hid.of (KA.out.below hb KA.out.lt)
      replace KB := Hid.of (KB.out.below hb KB.out.lt)
      replace K6 := Hid.of (K6.out.below hb K6.out.lt)
      refine hK'.out _ _ (SA.out _ KA.out KB.out) (fun hS => ?_)
      clear hK' K' hb
      refine wpAnyH_ready (rs := [5, 6]) (by kernel_rfl) (by simp) ?_
      refine AllReadyH.cons rfl (fun K' hK' => ?_) (AllReadyH.cons rfl (fun K' hK' => ?_) AllReadyH.nil)
      · clear hS
        go_simp
        refine (of_any b3 d3 endsB Y27 (h'.out.e.below B.out (Nat.le_refl _)) elB.out ebB.out).mono ?_
        rintro e Y28 ⟨rfl, hb⟩
        replace B := Hid.of (B.out.trans (hb.mono B.out.size))
        replace KA := Hid.of (KA.out.below hb KA.out.lt)
        replace KB := Hid.of (KB.out.below hb KB.out.lt)
        replace K6 := Hid.of (K6.out.below hb K6.out.lt)
        refine hK'.out _ _ (SA.out _ KA.out KB.out) (fun hS => ?_)
        clear hK' K' hb
        refine wpAnyH_ready (rs := [6]) (by kernel_rfl) (by simp) ?_
        refine AllReadyH.cons rfl (fun K' hK' => ?_) AllReadyH.nil
        clear hS
        go_simp
        have hb : Below Y28.heap.size Y28 (Y28.alloc (.cells #[.int .u64 0, .int .u64 0, .int .u64 0, .int .u64 0] 62)) := (Below.refl _ _).alloc (Nat.le_refl _) _
        have P5 := Hid.of (Nat.le_trans (Nat.succ_le_of_lt KB.out.lt) (Nat.le_refl Y28.heap.size))
        have N56 := Hid.of (Nat.ne_of_gt K6.out.lt)
        replace B := Hid.of (B.out.trans (hb.mono B.out.size))
        replace KA := Hid.of (KA.out.below hb KA.out.lt)
        replace KB := Hid.of (KB.out.below hb KB.out.lt)
        replace K6 := Hid.of (K6.out.below hb K6.out.lt)
        have K5 := Hid.of (Blk.new Y28 62 #[.int .u64 0, .int .u64 0, .int .u64 0, .int .u64 0])
        refine hK'.out _ _ (SA.out _ KA.out KB.out) (fun hS => ?_)
        clear hK' K' hb
        revert P5 N56 B KA KB K6 K5 hS
        generalize Y28.alloc (.cells #[.int .u64 0, .int .u64 0, .int .u64 0, .int .u64 0] 62) = Y29
        generalize Y28.heap.size = p5
        intro P5 N56 B KA KB K6 K5 hS
        refine wpAnyH_ready (rs := [8]) (by kernel_rfl) (by simp) ?_
        refine AllReadyH.cons rfl (fun K' hK' => ?_) AllReadyH.nil
        have f5 := K5.out.frozen
        have z0 := K5.out.cell 0 rfl
        have z1 := K5.out.cell 1 rfl
        have z2 := K5.out.cell 2 rfl
        have z3 := K5.out.cell 3 rfl
        go_simp
        replace B := Hid.of (below_set4 B.out (b' := p5) (show w.heap.size ≤ p5 by have := P5.out; omega) (.int .u64 (ofS ends 0)) (.int .u64 (ofS ends 1)) (.int .u64 (ofS ends 2)) (.int .u64 (ofS ends 3)))
        replace KA := Hid.of (Blk.other4 KA.out (show w.heap.size ≠ p5 by have := P5.out; omega) (.int .u64 (ofS ends 0)) (.int .u64 (ofS ends 1)) (.int .u64 (ofS ends 2)) (.int .u64 (ofS ends 3)))
        replace KB := Hid.of (Blk.other4 KB.out (show w.heap.size + 1 ≠ p5 by have := P5.out; omega) (.int .u64 (ofS ends 0)) (.int .u64 (ofS ends 1)) (.int .u64 (ofS ends 2)) (.int .u64 (ofS ends 3)))
        replace K6 := Hid.of (Blk.other4 K6.out (Ne.symm N56.out) (.int .u64 (ofS ends 0)) (.int .u64 (ofS ends 1)) (.int .u64 (ofS ends 2)) (.int .u64 (ofS ends 3)))
        replace K5 := Hid.of (SB.set4 (S := zeroS) K5.out (ofS ends))
        refine hK'.out _ _ (SA.out _ KA.out KB.out) (fun hS6 => ?_)
        clear hK' K' f5 z0 z1 z2 z3 hS
        refine wpAnyH_ready (rs := [9]) (by kernel_rfl) (by simp) ?_
        refine AllReadyH.cons rfl (fun K' hK' => ?_) AllReadyH.nil
        have f6 := K6.out.frozen
        have z0 := K6.out.cell 0 rfl
        have z1 := K6.out.cell 1 rfl
        have z2 := K6.out.cell 2 rfl
        have z3 := K6.out.cell 3 rfl
        go_simp
        replace B := Hid.of (below_set4 B.out (b' := p6) (show w.heap.size ≤ p6 by have := P6.out; omega) (.int .u64 (ofS endsB 0)) (.int .u64 (ofS endsB 1)) (.int .u64 (ofS endsB 2)) (.int .u64 (ofS endsB 3)))
        replace KA := Hid.of (Blk.other4 KA.out (show w.heap.size ≠ p6 by have := P6.out; omega) (.int .u64 (ofS endsB 0)) (.int .u64 (ofS endsB 1)) (.int .u64 (ofS endsB 2)) (.int .u64 (ofS endsB 3)))
        replace KB := Hid.of (Blk.other4 KB.out (show w.heap.size + 1 ≠ p6 by have := P6.out; omega) (.int .u64 (ofS endsB 0)) (.int .u64 (ofS endsB 1)) (.int .u64 (ofS endsB 2)) (.int .u64 (ofS endsB 3)))
        replace K5 := Hid.of (Blk.other4 K5.out N56.out (.int .u64 (ofS endsB 0)) (.int .u64 (ofS endsB 1)) (.int .u64 (ofS endsB 2)) (.int .u64 (ofS endsB 3)))
        replace K6 := Hid.of (SB.set4 (S := zeroS) K6.out (ofS endsB))
        refine hK'.out _ _ (SA.out _ KA.out KB.out) (fun hS7 => ?_)
        clear hK' K' f6 z0 z1 z2 z3 hS6 hS7
        refine wpAnyH_done (by kernel_rfl) ?_ _
        go_wp2
        exact bodyPost_ret (v := lookV p5 p6) (by simp [results, go_sem]) rfl ⟨p5, p6, rfl, K5.out, K6.out, B.out⟩
      · clear hS
        go_simp
        have hb : Below Y27.heap.size Y27 (Y27.alloc (.cells #[.int .u64 0, .int .u64 0, .int .u64 0, .int .u64 0] 62)) := (Below.refl _ _).alloc (Nat.le_refl _) _
        have P5 := Hid.of (Nat.le_trans (Nat.succ_le_of_lt KB.out.lt) (Nat.le_refl Y27.heap.size))
        have N56 := Hid.of (Nat.ne_of_gt K6.out.lt)
        replace B := Hid.of (B.out.trans (hb.mono B.out.size))
        replace KA := Hid.of (KA.out.below hb KA.out.lt)
        replace KB := Hid.of (KB.out.below hb KB.out.lt)
        replace K6 := Hid.of (K6.out.below hb K6.out.lt)
        have K5 := Hid.of (Blk.new Y27 62 #[.int .u64 0, .int .u64 0, .int .u64 0, .int .u64 0])
        refine hK'.out _ _ (SA.out _ KA.out KB.out) (fun hS => ?_)
        clear hK' K' hb
        revert P5 N56 B KA KB K6 K5 hS
        generalize Y27.alloc (.cells #[.int .u64 0, .int .u64 0, .int .u64 0, .int .u64 0] 62) = Y30
        generalize Y27.heap.size = p5
        intro P5 N56 B KA KB K6 K5 hS
        refine wpAnyH_ready (rs := [5]) (by kernel_rfl) (by simp) ?_
        refine AllReadyH.cons rfl (fun K' hK' => ?_) AllReadyH.nil
        clear hS
        go_simp
        refine (of_any b3 d3 endsB Y30 (h'.out.e.below B.out (Nat.le_refl _)) elB.out ebB.out).mono ?_
        rintro e Y31 ⟨rfl, hb⟩
        replace B := Hid.of (B.out.trans (hb.mono B.out.size))
        replace KA := Hid.of (KA.out.below hb KA.out.lt)
        replace KB := Hid.of (KB.out.below hb KB.out.lt)
        replace K6 := Hid.of (K6.out.below hb K6.out.lt)
        replace K5 := Hid.of (K5.out.below hb K5.out.lt)
        refine hK'.out _ _ (SA.out _ KA.out KB.out) (fun hS => ?_)
        clear hK' K' hb
        refine wpAnyH_ready (rs := [8]) (by kernel_rfl) (by simp) ?_
        refine AllReadyH.cons rfl (fun K' hK' => ?_) AllReadyH.nil
        have f5 := K5.out.frozen
        have z0 := K5.out.cell 0 rfl
        have z1 := K5.out.cell 1 rfl
        have z2 := K5.out.cell 2 rfl
        have z3 := K5.out.cell 3 rfl
        go_simp
        replace B := Hid.of (below_set4 B.out (b' := p5) (show w.heap.size ≤ p5 by have := P5.out; omega) (.int .u64 (ofS ends 0)) (.int .u64 (ofS ends 1)) (.int .u64 (ofS ends 2)) (.int .u64 (ofS ends 3)))
        replace KA := Hid.of (Blk.other4 KA.out (show w.heap.size ≠ p5 by have := P5.out; omega) (.int .u64 (ofS ends 0)) (.int .u64 (ofS ends 1)) (.int .u64 (ofS ends 2)) (.int .u64 (ofS ends 3)))
        replace KB := Hid.of (Blk.other4 KB.out (show w.heap.size + 1 ≠ p5 by have := P5.out; omega) (.int .u64 (ofS ends 0)) (.int .u64 (ofS ends 1)) (.int .u64 (ofS ends 2)) (.int .u64 (ofS ends 3)))
        replace K6 := Hid.of (Blk.other4 K6.out (Ne.symm N56.out) (.int .u64 (ofS ends 0)) (.int .u64 (ofS ends 1)) (.int .u64 (ofS ends 2)) (.int .u64 (ofS ends 3)))
        replace K5 := Hid.of (SB.set4 (S := zeroS) K5.out (ofS ends))
        refine hK'.out _ _ (SA.out _ KA.out KB.out) (fun hS6 => ?_)
        clear hK' K' f5 z0 z1 z2 z3 hS
        refine wpAnyH_ready (rs := [9]) (by kernel_rfl) (by simp) ?_
        refine AllReadyH.cons rfl (fun K' hK' => ?_) AllReadyH.nil
        have f6 := K6.out.frozen
        have z0 := K6.out.cell 0 rfl
        have z1 := K6.out.cell 1 rfl
        have z2 := K6.out.cell 2 rfl
        have z3 := K6.out.cell 3 rfl
        go_simp
        replace B := Hid.of (below_set4 B.out (b' := p6) (show w.heap.size ≤ p6 by have := P6.out; omega) (.int .u64 (ofS endsB 0)) (.int .u64 (ofS endsB 1)) (.int .u64 (ofS endsB 2)) (.int .u64 (ofS endsB 3)))
        replace KA := Hid.of (Blk.other4 KA.out (show w.heap.size ≠ p6 by have := P6.out; omega) (.int .u64 (ofS endsB 0)) (.int .u64 (ofS endsB 1)) (.int .u64 (ofS endsB 2)) (.int .u64 (ofS endsB 3)))
        replace KB := Hid.of (Blk.other4 KB.out (show w.heap.size + 1 ≠ p6 by have := P6.out; omega) (.int .u64 (ofS endsB 0)) (.int .u64 (ofS endsB 1)) (.int .u64 (ofS endsB 2)) (.int .u64 (ofS endsB 3)))
        replace K5 := Hid.of (Blk.other4 K5.out N56.out (.int .u64 (ofS endsB 0)) (.int .u64 (ofS endsB 1)) (.int .u64 (ofS endsB 2)) (.int .u64 (ofS endsB 3)))
        replace K6 := Hid.of (SB.set4 (S := zeroS) K6.out (ofS endsB))
        refine hK'.out _ _ (SA.out _ KA.out KB.out) (fun hS7 => ?_)
        clear hK' K' f6 z0 z1 z2 z3 hS6 hS7
        refine wpAnyH_done (by kernel_rfl) ?_ _
        go_wp2
        exact bodyPost_ret (v := lookV p5 p6) (by simp [results, go_sem]) rfl ⟨p5, p6, rfl, K5.out, K6.out, B.out⟩
    · clear hS
      go_simp
      have hb : Below Y26.heap.size Y26 (Y26.alloc (.cells #[.int .u64 0, .int .u64 0, .int .u64 0, .int .u64 0] 62)) := (Below.refl _ _).alloc (Nat.le_refl _) _
      have P5 := Hid.of (Nat.le_trans (Nat.succ_le_of_lt KB.out.lt) (Nat.le_refl Y26.heap.size))
      have N56 := Hid.of (Nat.ne_of_gt K6.out.lt)
      replace B := Hid.of (B.out.trans (hb.mono B.out.size))
      replace KA := Hid.of (KA.out.below hb KA.out.lt)
      replace KB := Hid.of (KB.out.below hb KB.out.lt)
      replace K6 := Hid.of (K6.out.below hb K6.out.lt)
      have K5 := Hid.of (Blk.new Y26 62 #[.int .u64 0, .int .u64 0, .int .u64 0, .int .u64 0])
      refine hK'.out _ _ (SA.out _ KA.out KB.out) (fun hS => ?_)
      clear hK' K' hb
      revert P5 N56 B KA KB K6 K5 hS
      generalize Y26.alloc (.cells #[.int .u64 0, .int .u64 0, .int .u64 0, .int .u64 0] 62) = Y32
      generalize Y26.heap.size = p5
      intro P5 N56 B KA KB K6 K5 hS
      refine wpAnyH_ready (rs := [2]) (by kernel_rfl) (by simp) ?_
      refine AllReadyH.cons rfl (fun K' hK' => ?_) AllReadyH.nil
      clear hS
      go_simp
      refine (of_any a3 c3 ends Y32 (h.out.e.below B.out (Nat.le_refl _)) elA.out ebA.out).mono ?_
      rintro e Y33 ⟨rfl, hb⟩
      replace B := Hid.of (B.out.trans (hb.mono B.out.size))
      replace KA := Hid.of (KA.out.below hb KA.out.lt)
      replace KB := Hid.of (KB.out.below hb KB.out.lt)
      replace K6 := Hid.of (K6.out.below hb K6.out.lt)
      replace K5 := Hid.of (K5.out.below hb K5.out.lt)
      refine hK'.out _ _ (SA.out _ KA.out KB.out) (fun hS => ?_)
      clear hK' K' hb
      refine wpAnyH_ready (rs := [5]) (by kernel_rfl) (by simp) ?_
      refine AllReadyH.cons rfl (fun K' hK' => ?_) AllReadyH.nil
      clear hS
      go_simp
      refine (of_any b3 d3 endsB Y33 (h'.out.e.below B.out (Nat.le_refl _)) elB.out ebB.out).mono ?_
      rintro e Y34 ⟨rfl, hb⟩
      replace B := Hid.of (B.out.trans (hb.mono B.out.size))
      replace KA := Hid.of (KA.out.below hb KA.out.lt)
      replace KB := Hid.of (KB.out.below hb KB.out.lt)
      replace K6 := Hid.of (K6.out.below hb K6.out.lt)
      replace K5 := Hid.of (K5.out.below hb K5.out.lt)
      refine hK'.out _ _ (SA.out _ KA.out KB.out) (fun hS => ?_)
      clear hK' K' hb
      refine wpAnyH_ready (rs := [8]) (by kernel_rfl) (by simp) ?_
      refine AllReadyH.cons rfl (fun K' hK' => ?_) AllReadyH.nil
      have f5 := K5.out.frozen
      have z0 := K5.out.cell 0 rfl
      have z1 := K5.out.cell 1 rfl
      have z2 := K5.out.cell 2 rfl
      have z3 := K5.out.cell 3 rfl
      go_simp
      replace B := Hid.of (below_set4 B.out (b' := p5) (show w.heap.size ≤ p5 by have := P5.out; omega) (.int .u64 (ofS ends 0)) (.int .u64 (ofS ends 1)) (.int .u64 (ofS ends 2)) (.int .u64 (ofS ends 3)))
      replace KA := Hid.of (Blk.other4 KA.out (show w.heap.size ≠ p5 by have := P5.out; omega) (.int .u64 (ofS ends 0)) (.int .u64 (ofS ends 1)) (.int .u64 (ofS ends 2)) (.int .u64 (ofS ends 3)))
      replace KB := Hid.of (Blk.other4 KB.out (show w.heap.size + 1 ≠ p5 by have := P5.out; omega) (.int .u64 (ofS ends 0)) (.int .u64 (ofS ends 1)) (.int .u64 (ofS ends 2)) (.int .u64 (ofS ends 3)))
      replace K6 := Hid.of (Blk.other4 K6.out (Ne.symm N56.out) (.int .u64 (ofS ends 0)) (.int .u64 (ofS ends 1)) (.int .u64 (ofS ends 2)) (.int .u64 (ofS ends 3)))
      replace K5 := Hid.of (SB.set4 (S := zeroS) K5.out (ofS ends))
      refine hK'.out _ _ (SA.out _ KA.out KB.out) (fun hS6 => ?_)
      clear hK' K' f5 z0 z1 z2 z3 hS
      refine wpAnyH_ready (rs := [9]) (by kernel_rfl) (by simp) ?_
      refine AllReadyH.cons rfl (fun K' hK' => ?_) AllReadyH.nil
      have f6 := K6.out.frozen
      have z0 := K6.out.cell 0 rfl
      have z1 := K6.out.cell 1 rfl
      have z2 := K6.out.cell 2 rfl
      have z3 := K6.out.cell 3 rfl
      go_simp
      replace B := Hid.of (below_set4 B.out (b' := p6) (show w.heap.size ≤ p6 by have := P6.out; omega) (.int .u64 (ofS endsB 0)) (.int .u64 (ofS endsB 1)) (.int .u64 (ofS endsB 2)) (.int .u64 (ofS endsB 3)))
      replace KA := Hid.of (Blk.other4 KA.out (show w.heap.size ≠ p6 by have := P6.out; omega) (.int .u64 (ofS endsB 0)) (.int .u64 (ofS endsB 1)) (.int .u64 (ofS endsB 2)) (.int .u64 (ofS endsB 3)))
      replace KB := Hid.of (Blk.other4 KB.out (show w.heap.size + 1 ≠ p6 by have := P6.out; omega) (.int .u64 (ofS endsB 0)) (.int .u64 (ofS endsB 1)) (.int .u64 (ofS endsB 2)) (.int .u64 (ofS endsB 3)))
      replace K5 := Hid.of (Blk.other4 K5.out N56.out (.int .u64 (ofS endsB 0)) (.int .u64 (ofS endsB 1)) (.int .u64 (ofS endsB 2)) (.int .u64 (ofS endsB 3)))
      replace K6 := Hid.of (SB.set4 (S := zeroS) K6.out (ofS endsB))
      refine hK'.out _ _ (SA.out _ KA.out KB.out) (fun hS7 => ?_)
      clear hK' K' f6 z0 z1 z2 z3 hS6 hS7
      refine wpAnyH_done (by kernel_rfl) ?_ _
      go_wp2
      exact bodyPost_ret (v := lookV p5 p6) (by simp [results, go_sem]) rfl ⟨p5, p6, rfl, K5.out, K6.out, B.out⟩

end Go.Proofs.YtdnglodemkeooaaDoor
