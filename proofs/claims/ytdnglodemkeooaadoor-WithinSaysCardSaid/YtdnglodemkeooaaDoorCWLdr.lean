/-
  The walk of within.leader.
-/
import Derived.Test.YtdnglodemkeooaaDoorG54
import Derived.Test.YtdnglodemkeooaaDoorG16
import Derived.Test.YtdnglodemkeooaaDoorG05
namespace Go.Proofs.YtdnglodemkeooaaDoor
open Go.RowKit
set_option linter.unusedVariables false

set_option maxRecDepth 100000 in
set_option maxHeartbeats 16000000 in
theorem wleader_any (st sb ev : Nat) (starts startsB : List Int) (ars arsB : List Arr) (ends endsB : List Int) (a1 : Option Addr) (c1 : Nat) (a2 : Option Addr) (c2 : Nat) (a3 : Option Addr) (c3 : Nat) (b1 : Option Addr) (d1 : Nat) (b2 : Option Addr) (d2 : Nat) (b3 : Option Addr) (d3 : Nat) (hma : Hid (mayB ⟨(st : Int), (ev : Int), starts, ars, ends⟩ = true)) (hmb : Hid (mayB ⟨(sb : Int), (ev : Int), startsB, arsB, endsB⟩ = true)) (w : World) (h : Hid (MAt w ⟨(st : Int), (ev : Int), starts, ars, ends⟩ ⟨a1, c1, a2, c2, a3, c3⟩)) (h' : Hid (MAt w ⟨(sb : Int), (ev : Int), startsB, arsB, endsB⟩ ⟨b1, d1, b2, d2, b3, d3⟩)) :
    Calls Tryd.prog 88 #[mval ⟨(st : Int), (ev : Int), starts, ars, ends⟩ ⟨a1, c1, a2, c2, a3, c3⟩, mval ⟨(sb : Int), (ev : Int), startsB, arsB, endsB⟩ ⟨b1, d1, b2, d2, b3, d3⟩] w fun e w' => ∃ pA pB LA LC, e = .returned (wleadV pA pB) ∧ WL w' pA pB LA LC ev st sb (tabS ev ars) (tabS ev arsB) ∧ Below w.heap.size w w' := by
  have B : Hid (Below w.heap.size w ((w.alloc (.cells (mcells ⟨(st : Int), (ev : Int), starts, ars, ends⟩ ⟨a1, c1, a2, c2, a3, c3⟩) 25)).alloc (.cells (mcells ⟨(sb : Int), (ev : Int), startsB, arsB, endsB⟩ ⟨b1, d1, b2, d2, b3, d3⟩) 25))) := ((Below.refl _ _).alloc (Nat.le_refl _) _).alloc (by simp) _
  have KA : Hid (Blk ((w.alloc (.cells (mcells ⟨(st : Int), (ev : Int), starts, ars, ends⟩ ⟨a1, c1, a2, c2, a3, c3⟩) 25)).alloc (.cells (mcells ⟨(sb : Int), (ev : Int), startsB, arsB, endsB⟩ ⟨b1, d1, b2, d2, b3, d3⟩) 25)) w.heap.size 25 (mcells ⟨(st : Int), (ev : Int), starts, ars, ends⟩ ⟨a1, c1, a2, c2, a3, c3⟩)) := (Blk.new w _ _).alloc _
  have KB : Hid (Blk ((w.alloc (.cells (mcells ⟨(st : Int), (ev : Int), starts, ars, ends⟩ ⟨a1, c1, a2, c2, a3, c3⟩) 25)).alloc (.cells (mcells ⟨(sb : Int), (ev : Int), startsB, arsB, endsB⟩ ⟨b1, d1, b2, d2, b3, d3⟩) 25)) (w.heap.size + 1) 25 (mcells ⟨(sb : Int), (ev : Int), startsB, arsB, endsB⟩ ⟨b1, d1, b2, d2, b3, d3⟩)) := by
    have := Blk.new (w.alloc (.cells (mcells ⟨(st : Int), (ev : Int), starts, ars, ends⟩ ⟨a1, c1, a2, c2, a3, c3⟩) 25)) 25 (mcells ⟨(sb : Int), (ev : Int), startsB, arsB, endsB⟩ ⟨b1, d1, b2, d2, b3, d3⟩)
    rwa [World.size_alloc] at this
  have hza := mayB_size hma.out
  have hzb := mayB_size hmb.out
  unfold sizeOk at hza hzb
  dsimp only at hza hzb
  have hst : st ≤ 256 := by omega
  have hsb : sb ≤ 256 := by omega
  have hev : ev ≤ 8 := by omega
  have hlA : Hid (ars.length ≤ 4096) := show _ ≤ _ by omega
  have hlB : Hid (arsB.length ≤ 4096) := show _ ≤ _ by omega
  clear hza hzb
  have SA : Hid (∀ W, Blk W w.heap.size 25 (mcells ⟨(st : Int), (ev : Int), starts, ars, ends⟩ ⟨a1, c1, a2, c2, a3, c3⟩) → Blk W (w.heap.size + 1) 25 (mcells ⟨(sb : Int), (ev : Int), startsB, arsB, endsB⟩ ⟨b1, d1, b2, d2, b3, d3⟩) → W.cell? ⟨w.heap.size, 0, none⟩ = some (.int .i64 st) ∧ W.cell? ⟨w.heap.size, 1, none⟩ = some (.int .i64 ev) ∧ W.cell? ⟨w.heap.size, 2, none⟩ = some (.slice a1 starts.length c1) ∧ W.cell? ⟨w.heap.size, 3, none⟩ = some (.slice a2 ars.length c2) ∧ W.cell? ⟨w.heap.size, 4, none⟩ = some (.slice a3 ends.length c3) ∧ W.cell? ⟨w.heap.size + 1, 0, none⟩ = some (.int .i64 sb) ∧ W.cell? ⟨w.heap.size + 1, 1, none⟩ = some (.int .i64 ev) ∧ W.cell? ⟨w.heap.size + 1, 2, none⟩ = some (.slice b1 startsB.length d1) ∧ W.cell? ⟨w.heap.size + 1, 3, none⟩ = some (.slice b2 arsB.length d2) ∧ W.cell? ⟨w.heap.size + 1, 4, none⟩ = some (.slice b3 endsB.length d3)) := fun W h1 h2 => by
    obtain ⟨x0, x1, x2, x3, x4⟩ := mcell_at h1
    obtain ⟨y0, y1, y2, y3, y4⟩ := mcell_at h2
    exact ⟨x0, x1, x2, x3, x4, y0, y1, y2, y3, y4⟩
  go_enter Tryd.func88, Tryd.ntmps88
  go_wp2_with fail
  revert B KA KB
  generalize ((w.alloc (.cells (mcells ⟨(st : Int), (ev : Int), starts, ars, ends⟩ ⟨a1, c1, a2, c2, a3, c3⟩) 25)).alloc (.cells (mcells ⟨(sb : Int), (ev : Int), startsB, arsB, endsB⟩ ⟨b1, d1, b2, d2, b3, d3⟩) 25)) = V0
  intro B KA KB
  refine wp_region_held_drew (S := fun w' => w'.cell? ⟨w.heap.size, 0, none⟩ = some (.int .i64 st) ∧ w'.cell? ⟨w.heap.size, 1, none⟩ = some (.int .i64 ev) ∧ w'.cell? ⟨w.heap.size, 2, none⟩ = some (.slice a1 starts.length c1) ∧ w'.cell? ⟨w.heap.size, 3, none⟩ = some (.slice a2 ars.length c2) ∧ w'.cell? ⟨w.heap.size, 4, none⟩ = some (.slice a3 ends.length c3) ∧ w'.cell? ⟨w.heap.size + 1, 0, none⟩ = some (.int .i64 sb) ∧ w'.cell? ⟨w.heap.size + 1, 1, none⟩ = some (.int .i64 ev) ∧ w'.cell? ⟨w.heap.size + 1, 2, none⟩ = some (.slice b1 startsB.length d1) ∧ w'.cell? ⟨w.heap.size + 1, 3, none⟩ = some (.slice b2 arsB.length d2) ∧ w'.cell? ⟨w.heap.size + 1, 4, none⟩ = some (.slice b3 endsB.length d3)) (by kernel_rfl) (SA.out _ (Blk.drew KA.out) (Blk.drew KB.out)) (fun hS => ?_)
  replace B : Hid (Below w.heap.size w V0.drew) := B.out.drew
  replace KA : Hid (Blk V0.drew w.heap.size 25 (mcells ⟨(st : Int), (ev : Int), starts, ars, ends⟩ ⟨a1, c1, a2, c2, a3, c3⟩)) := Blk.drew KA.out
  replace KB : Hid (Blk V0.drew (w.heap.size + 1) 25 (mcells ⟨(sb : Int), (ev : Int), startsB, arsB, endsB⟩ ⟨b1, d1, b2, d2, b3, d3⟩)) := Blk.drew KB.out
  revert hS B KA KB
  generalize V0.drew = Y0
  intro hS B KA KB
  refine wpAnyH_take (i := 0) (v := .agg #[.int .i64 st, .int .i64 ev, .slice a1 starts.length c1, .slice a2 ars.length c2, .slice a3 ends.length c3]) rfl (by kernel_rfl) (by kernel_rfl) (by kernel_rfl) (fun _ _ _ h => h) (Or.inl ⟨by kernel_rfl, fun w' hw' => by obtain ⟨q0, q1, q2, q3, q4, q5, q6, q7, q8, q9⟩ := hw'; go_simp⟩) hS ?_
  refine wpAnyH_take (i := 2) (v := .agg #[.int .i64 sb, .int .i64 ev, .slice b1 startsB.length d1, .slice b2 arsB.length d2, .slice b3 endsB.length d3]) rfl (by kernel_rfl) (by kernel_rfl) (by kernel_rfl) (fun _ _ _ h => h) (Or.inl ⟨by kernel_rfl, fun w' hw' => by obtain ⟨q0, q1, q2, q3, q4, q5, q6, q7, q8, q9⟩ := hw'; go_simp⟩) hS ?_
  simp only [Act.put, List.setIfInBounds_toArray]
  refine wpAnyH_ready (rs := [1, 4, 5]) (by kernel_rfl) (by simp) ?_
  refine AllReadyH.cons rfl (fun K' hK' => ?_) (AllReadyH.cons rfl (fun K' hK' => ?_) (AllReadyH.cons rfl (fun K' hK' => ?_) AllReadyH.nil))
  · clear hS
    go_simp
    refine (leader_go st ev starts ars ends a1 c1 a2 c2 a3 c3 Y0 (Hid.of (h.out.below B.out (Nat.le_refl _))) hma hst hev hlA.out (Hid.of (may_arrs hma.out))).mono ?_
    rintro e Y1 ⟨LA, rfl, ldA, -, hb⟩
    replace B := Hid.of (B.out.trans (hb.mono B.out.size))
    replace KA := Hid.of (KA.out.below hb KA.out.lt)
    replace KB := Hid.of (KB.out.below hb KB.out.lt)
    have LDA := Hid.of ldA
    refine hK'.out _ _ (SA.out _ KA.out KB.out) (fun hS => ?_)
    clear hK' K' hb ldA
    refine wpAnyH_ready (rs := [3, 4, 5]) (by kernel_rfl) (by simp) ?_
    refine AllReadyH.cons rfl (fun K' hK' => ?_) (AllReadyH.cons rfl (fun K' hK' => ?_) (AllReadyH.cons rfl (fun K' hK' => ?_) AllReadyH.nil))
    · clear hS
      go_simp
      refine (leader_go sb ev startsB arsB endsB b1 d1 b2 d2 b3 d3 Y1 (Hid.of (h'.out.below B.out (Nat.le_refl _))) hmb hsb hev hlB.out (Hid.of (may_arrs hmb.out))).mono ?_
      rintro e Y2 ⟨LC, rfl, ldC, -, hb⟩
      replace B := Hid.of (B.out.trans (hb.mono B.out.size))
      replace KA := Hid.of (KA.out.below hb KA.out.lt)
      replace KB := Hid.of (KB.out.below hb KB.out.lt)
      replace LDA := Hid.of (LDA.out.kept hb)
      have LDC := Hid.of ldC
      refine hK'.out _ _ (SA.out _ KA.out KB.out) (fun hS => ?_)
      clear hK' K' hb ldC
      refine wpAnyH_ready (rs := [4, 5]) (by kernel_rfl) (by simp) ?_
      refine AllReadyH.cons rfl (fun K' hK' => ?_) (AllReadyH.cons rfl (fun K' hK' => ?_) AllReadyH.nil)
      · clear hS
        go_simp
        have hb : Below Y2.heap.size Y2 (Y2.alloc (.cells #[.nilFunc] 99)) := (Below.refl _ _).alloc (Nat.le_refl _) _
        have P5 := Hid.of (Nat.le_trans (Nat.succ_le_of_lt KB.out.lt) (Nat.le_refl Y2.heap.size))
        replace B := Hid.of (B.out.trans (hb.mono B.out.size))
        replace KA := Hid.of (KA.out.below hb KA.out.lt)
        replace KB := Hid.of (KB.out.below hb KB.out.lt)
        replace LDA := Hid.of (LDA.out.kept hb)
        replace LDC := Hid.of (LDC.out.kept hb)
        have K5 := Hid.of (Blk.new Y2 99 #[.nilFunc])
        refine hK'.out _ _ (SA.out _ KA.out KB.out) (fun hS => ?_)
        clear hK' K' hb
        revert P5 B KA KB LDA LDC K5 hS
        generalize Y2.alloc (.cells #[.nilFunc] 99) = Y3
        generalize Y2.heap.size = p5
        intro P5 B KA KB LDA LDC K5 hS
        refine wpAnyH_ready (rs := [5]) (by kernel_rfl) (by simp) ?_
        refine AllReadyH.cons rfl (fun K' hK' => ?_) AllReadyH.nil
        clear hS
        go_simp
        have hb : Below Y3.heap.size Y3 (Y3.alloc (.cells #[.nilFunc] 99)) := (Below.refl _ _).alloc (Nat.le_refl _) _
        have P6 := Hid.of (Nat.le_trans (Nat.succ_le_of_lt KB.out.lt) (Nat.le_refl Y3.heap.size))
        have N56 := Hid.of (Nat.ne_of_lt K5.out.lt)
        replace B := Hid.of (B.out.trans (hb.mono B.out.size))
        replace KA := Hid.of (KA.out.below hb KA.out.lt)
        replace KB := Hid.of (KB.out.below hb KB.out.lt)
        replace LDA := Hid.of (LDA.out.kept hb)
        replace LDC := Hid.of (LDC.out.kept hb)
        replace K5 := Hid.of (K5.out.below hb K5.out.lt)
        have K6 := Hid.of (Blk.new Y3 99 #[.nilFunc])
        refine hK'.out _ _ (SA.out _ KA.out KB.out) (fun hS => ?_)
        clear hK' K' hb
        revert P6 N56 B KA KB LDA LDC K5 K6 hS
        generalize Y3.alloc (.cells #[.nilFunc] 99) = Y4
        generalize Y3.heap.size = p6
        intro P6 N56 B KA KB LDA LDC K5 K6 hS
        refine wpAnyH_ready (rs := [6]) (by kernel_rfl) (by simp) ?_
        refine AllReadyH.cons rfl (fun K' hK' => ?_) AllReadyH.nil
        have f5 := K5.out.frozen 0
        have z5 := K5.out.cell 0 rfl
        go_simp
        have D1 := Hid.of (LDA.out.setF K5.out (v := leadV LA))
        have D2 := Hid.of (LDC.out.setF K5.out (v := leadV LA))
        replace B := Hid.of (B.out.setCell (p := ⟨p5, 0, none⟩) (show w.heap.size ≤ p5 by have := P5.out; omega) (leadV LA))
        replace KA := Hid.of (KA.out.other (j := 0) (show w.heap.size ≠ p5 by have := P5.out; omega) (leadV LA))
        replace KB := Hid.of (KB.out.other (j := 0) (show w.heap.size + 1 ≠ p5 by have := P5.out; omega) (leadV LA))
        replace K6 := Hid.of (K6.out.other (j := 0) (Ne.symm N56.out) (leadV LA))
        replace K5 := Hid.of (K5.out.set 0 (leadV LA))
        refine hK'.out _ _ (SA.out _ KA.out KB.out) (fun hS6 => ?_)
        clear hK' K' f5 z5 LDA LDC hS
        refine wpAnyH_ready (rs := [7]) (by kernel_rfl) (by simp) ?_
        refine AllReadyH.cons rfl (fun K' hK' => ?_) AllReadyH.nil
        have f6 := K6.out.frozen 0
        have z6 := K6.out.cell 0 rfl
        go_simp
        have E1 := Hid.of (D1.out.setF K6.out (v := leadV LC))
        have E2 := Hid.of (D2.out.setF K6.out (v := leadV LC))
        replace B := Hid.of (B.out.setCell (p := ⟨p6, 0, none⟩) (show w.heap.size ≤ p6 by have := P6.out; omega) (leadV LC))
        replace KA := Hid.of (KA.out.other (j := 0) (show w.heap.size ≠ p6 by have := P6.out; omega) (leadV LC))
        replace KB := Hid.of (KB.out.other (j := 0) (show w.heap.size + 1 ≠ p6 by have := P6.out; omega) (leadV LC))
        replace K5 := Hid.of (K5.out.other (j := 0) N56.out (leadV LC))
        replace K6 := Hid.of (K6.out.set 0 (leadV LC))
        refine hK'.out _ _ (SA.out _ KA.out KB.out) (fun hS7 => ?_)
        clear hK' K' f6 z6 D1 D2 hS6 hS7
        refine wpAnyH_done (by kernel_rfl) ?_ _
        go_wp2
        exact bodyPost_ret (v := wleadV p5 p6) (by simp [results, go_sem]) rfl ⟨p5, p6, LA, LC, rfl, ⟨K5.out, K6.out, E1.out, E2.out⟩, B.out⟩
      · clear hS
        go_simp
        have hb : Below Y2.heap.size Y2 (Y2.alloc (.cells #[.nilFunc] 99)) := (Below.refl _ _).alloc (Nat.le_refl _) _
        have P6 := Hid.of (Nat.le_trans (Nat.succ_le_of_lt KB.out.lt) (Nat.le_refl Y2.heap.size))
        replace B := Hid.of (B.out.trans (hb.mono B.out.size))
        replace KA := Hid.of (KA.out.below hb KA.out.lt)
        replace KB := Hid.of (KB.out.below hb KB.out.lt)
        replace LDA := Hid.of (LDA.out.kept hb)
        replace LDC := Hid.of (LDC.out.kept hb)
        have K6 := Hid.of (Blk.new Y2 99 #[.nilFunc])
        refine hK'.out _ _ (SA.out _ KA.out KB.out) (fun hS => ?_)
        clear hK' K' hb
        revert P6 B KA KB LDA LDC K6 hS
        generalize Y2.alloc (.cells #[.nilFunc] 99) = Y5
        generalize Y2.heap.size = p6
        intro P6 B KA KB LDA LDC K6 hS
        refine wpAnyH_ready (rs := [4]) (by kernel_rfl) (by simp) ?_
        refine AllReadyH.cons rfl (fun K' hK' => ?_) AllReadyH.nil
        clear hS
        go_simp
        have hb : Below Y5.heap.size Y5 (Y5.alloc (.cells #[.nilFunc] 99)) := (Below.refl _ _).alloc (Nat.le_refl _) _
        have P5 := Hid.of (Nat.le_trans (Nat.succ_le_of_lt KB.out.lt) (Nat.le_refl Y5.heap.size))
        have N56 := Hid.of (Nat.ne_of_gt K6.out.lt)
        replace B := Hid.of (B.out.trans (hb.mono B.out.size))
        replace KA := Hid.of (KA.out.below hb KA.out.lt)
        replace KB := Hid.of (KB.out.below hb KB.out.lt)
        replace LDA := Hid.of (LDA.out.kept hb)
        replace LDC := Hid.of (LDC.out.kept hb)
        replace K6 := Hid.of (K6.out.below hb K6.out.lt)
        have K5 := Hid.of (Blk.new Y5 99 #[.nilFunc])
        refine hK'.out _ _ (SA.out _ KA.out KB.out) (fun hS => ?_)
        clear hK' K' hb
        revert P5 N56 B KA KB LDA LDC K6 K5 hS
        generalize Y5.alloc (.cells #[.nilFunc] 99) = Y6
        generalize Y5.heap.size = p5
        intro P5 N56 B KA KB LDA LDC K6 K5 hS
        refine wpAnyH_ready (rs := [6]) (by kernel_rfl) (by simp) ?_
        refine AllReadyH.cons rfl (fun K' hK' => ?_) AllReadyH.nil
        have f5 := K5.out.frozen 0
        have z5 := K5.out.cell 0 rfl
        go_simp
        have D1 := Hid.of (LDA.out.setF K5.out (v := leadV LA))
        have D2 := Hid.of (LDC.out.setF K5.out (v := leadV LA))
        replace B := Hid.of (B.out.setCell (p := ⟨p5, 0, none⟩) (show w.heap.size ≤ p5 by have := P5.out; omega) (leadV LA))
        replace KA := Hid.of (KA.out.other (j := 0) (show w.heap.size ≠ p5 by have := P5.out; omega) (leadV LA))
        replace KB := Hid.of (KB.out.other (j := 0) (show w.heap.size + 1 ≠ p5 by have := P5.out; omega) (leadV LA))
        replace K6 := Hid.of (K6.out.other (j := 0) (Ne.symm N56.out) (leadV LA))
        replace K5 := Hid.of (K5.out.set 0 (leadV LA))
        refine hK'.out _ _ (SA.out _ KA.out KB.out) (fun hS6 => ?_)
        clear hK' K' f5 z5 LDA LDC hS
        refine wpAnyH_ready (rs := [7]) (by kernel_rfl) (by simp) ?_
        refine AllReadyH.cons rfl (fun K' hK' => ?_) AllReadyH.nil
        have f6 := K6.out.frozen 0
        have z6 := K6.out.cell 0 rfl
        go_simp
        have E1 := Hid.of (D1.out.setF K6.out (v := leadV LC))
        have E2 := Hid.of (D2.out.setF K6.out (v := leadV LC))
        replace B := Hid.of (B.out.setCell (p := ⟨p6, 0, none⟩) (show w.heap.size ≤ p6 by have := P6.out; omega) (leadV LC))
        replace KA := Hid.of (KA.out.other (j := 0) (show w.heap.size ≠ p6 by have := P6.out; omega) (leadV LC))
        replace KB := Hid.of (KB.out.other (j := 0) (show w.heap.size + 1 ≠ p6 by have := P6.out; omega) (leadV LC))
        replace K5 := Hid.of (K5.out.other (j := 0) N56.out (leadV LC))
        replace K6 := Hid.of (K6.out.set 0 (leadV LC))
        refine hK'.out _ _ (SA.out _ KA.out KB.out) (fun hS7 => ?_)
        clear hK' K' f6 z6 D1 D2 hS6 hS7
        refine wpAnyH_done (by kernel_rfl) ?_ _
        go_wp2
        exact bodyPost_ret (v := wleadV p5 p6) (by simp [results, go_sem]) rfl ⟨p5, p6, LA, LC, rfl, ⟨K5.out, K6.out, E1.out, E2.out⟩, B.out⟩
    · clear hS
      go_simp
      have hb : Below Y1.heap.size Y1 (Y1.alloc (.cells #[.nilFunc] 99)) := (Below.refl _ _).alloc (Nat.le_refl _) _
      have P5 := Hid.of (Nat.le_trans (Nat.succ_le_of_lt KB.out.lt) (Nat.le_refl Y1.heap.size))
      replace B := Hid.of (B.out.trans (hb.mono B.out.size))
      replace KA := Hid.of (KA.out.below hb KA.out.lt)
      replace KB := Hid.of (KB.out.below hb KB.out.lt)
      replace LDA := Hid.of (LDA.out.kept hb)
      have K5 := Hid.of (Blk.new Y1 99 #[.nilFunc])
      refine hK'.out _ _ (SA.out _ KA.out KB.out) (fun hS => ?_)
      clear hK' K' hb
      revert P5 B KA KB LDA K5 hS
      generalize Y1.alloc (.cells #[.nilFunc] 99) = Y7
      generalize Y1.heap.size = p5
      intro P5 B KA KB LDA K5 hS
      refine wpAnyH_ready (rs := [3, 5]) (by kernel_rfl) (by simp) ?_
      refine AllReadyH.cons rfl (fun K' hK' => ?_) (AllReadyH.cons rfl (fun K' hK' => ?_) AllReadyH.nil)
      · clear hS
        go_simp
        refine (leader_go sb ev startsB arsB endsB b1 d1 b2 d2 b3 d3 Y7 (Hid.of (h'.out.below B.out (Nat.le_refl _))) hmb hsb hev hlB.out (Hid.of (may_arrs hmb.out))).mono ?_
        rintro e Y8 ⟨LC, rfl, ldC, -, hb⟩
        replace B := Hid.of (B.out.trans (hb.mono B.out.size))
        replace KA := Hid.of (KA.out.below hb KA.out.lt)
        replace KB := Hid.of (KB.out.below hb KB.out.lt)
        replace LDA := Hid.of (LDA.out.kept hb)
        replace K5 := Hid.of (K5.out.below hb K5.out.lt)
        have LDC := Hid.of ldC
        refine hK'.out _ _ (SA.out _ KA.out KB.out) (fun hS => ?_)
        clear hK' K' hb ldC
        refine wpAnyH_ready (rs := [5]) (by kernel_rfl) (by simp) ?_
        refine AllReadyH.cons rfl (fun K' hK' => ?_) AllReadyH.nil
        clear hS
        go_simp
        have hb : Below Y8.heap.size Y8 (Y8.alloc (.cells #[.nilFunc] 99)) := (Below.refl _ _).alloc (Nat.le_refl _) _
        have P6 := Hid.of (Nat.le_trans (Nat.succ_le_of_lt KB.out.lt) (Nat.le_refl Y8.heap.size))
        have N56 := Hid.of (Nat.ne_of_lt K5.out.lt)
        replace B := Hid.of (B.out.trans (hb.mono B.out.size))
        replace KA := Hid.of (KA.out.below hb KA.out.lt)
        replace KB := Hid.of (KB.out.below hb KB.out.lt)
        replace LDA := Hid.of (LDA.out.kept hb)
        replace K5 := Hid.of (K5.out.below hb K5.out.lt)
        replace LDC := Hid.of (LDC.out.kept hb)
        have K6 := Hid.of (Blk.new Y8 99 #[.nilFunc])
        refine hK'.out _ _ (SA.out _ KA.out KB.out) (fun hS => ?_)
        clear hK' K' hb
        revert P6 N56 B KA KB LDA K5 LDC K6 hS
        generalize Y8.alloc (.cells #[.nilFunc] 99) = Y9
        generalize Y8.heap.size = p6
        intro P6 N56 B KA KB LDA K5 LDC K6 hS
        refine wpAnyH_ready (rs := [6]) (by kernel_rfl) (by simp) ?_
        refine AllReadyH.cons rfl (fun K' hK' => ?_) AllReadyH.nil
        have f5 := K5.out.frozen 0
        have z5 := K5.out.cell 0 rfl
        go_simp
        have D1 := Hid.of (LDA.out.setF K5.out (v := leadV LA))
        have D2 := Hid.of (LDC.out.setF K5.out (v := leadV LA))
        replace B := Hid.of (B.out.setCell (p := ⟨p5, 0, none⟩) (show w.heap.size ≤ p5 by have := P5.out; omega) (leadV LA))
        replace KA := Hid.of (KA.out.other (j := 0) (show w.heap.size ≠ p5 by have := P5.out; omega) (leadV LA))
        replace KB := Hid.of (KB.out.other (j := 0) (show w.heap.size + 1 ≠ p5 by have := P5.out; omega) (leadV LA))
        replace K6 := Hid.of (K6.out.other (j := 0) (Ne.symm N56.out) (leadV LA))
        replace K5 := Hid.of (K5.out.set 0 (leadV LA))
        refine hK'.out _ _ (SA.out _ KA.out KB.out) (fun hS6 => ?_)
        clear hK' K' f5 z5 LDA LDC hS
        refine wpAnyH_ready (rs := [7]) (by kernel_rfl) (by simp) ?_
        refine AllReadyH.cons rfl (fun K' hK' => ?_) AllReadyH.nil
        have f6 := K6.out.frozen 0
        have z6 := K6.out.cell 0 rfl
        go_simp
        have E1 := Hid.of (D1.out.setF K6.out (v := leadV LC))
        have E2 := Hid.of (D2.out.setF K6.out (v := leadV LC))
        replace B := Hid.of (B.out.setCell (p := ⟨p6, 0, none⟩) (show w.heap.size ≤ p6 by have := P6.out; omega) (leadV LC))
        replace KA := Hid.of (KA.out.other (j := 0) (show w.heap.size ≠ p6 by have := P6.out; omega) (leadV LC))
        replace KB := Hid.of (KB.out.other (j := 0) (show w.heap.size + 1 ≠ p6 by have := P6.out; omega) (leadV LC))
        replace K5 := Hid.of (K5.out.other (j := 0) N56.out (leadV LC))
        replace K6 := Hid.of (K6.out.set 0 (leadV LC))
        refine hK'.out _ _ (SA.out _ KA.out KB.out) (fun hS7 => ?_)
        clear hK' K' f6 z6 D1 D2 hS6 hS7
        refine wpAnyH_done (by kernel_rfl) ?_ _
        go_wp2
        exact bodyPost_ret (v := wleadV p5 p6) (by simp [results, go_sem]) rfl ⟨p5, p6, LA, LC, rfl, ⟨K5.out, K6.out, E1.out, E2.out⟩, B.out⟩
      · clear hS
        go_simp
        have hb : Below Y7.heap.size Y7 (Y7.alloc (.cells #[.nilFunc] 99)) := (Below.refl _ _).alloc (Nat.le_refl _) _
        have P6 := Hid.of (Nat.le_trans (Nat.succ_le_of_lt KB.out.lt) (Nat.le_refl Y7.heap.size))
        have N56 := Hid.of (Nat.ne_of_lt K5.out.lt)
        replace B := Hid.of (B.out.trans (hb.mono B.out.size))
        replace KA := Hid.of (KA.out.below hb KA.out.lt)
        replace KB := Hid.of (KB.out.below hb KB.out.lt)
        replace LDA := Hid.of (LDA.out.kept hb)
        replace K5 := Hid.of (K5.out.below hb K5.out.lt)
        have K6 := Hid.of (Blk.new Y7 99 #[.nilFunc])
        refine hK'.out _ _ (SA.out _ KA.out KB.out) (fun hS => ?_)
        clear hK' K' hb
        revert P6 N56 B KA KB LDA K5 K6 hS
        generalize Y7.alloc (.cells #[.nilFunc] 99) = Y10
        generalize Y7.heap.size = p6
        intro P6 N56 B KA KB LDA K5 K6 hS
        refine wpAnyH_ready (rs := [3]) (by kernel_rfl) (by simp) ?_
        refine AllReadyH.cons rfl (fun K' hK' => ?_) AllReadyH.nil
        clear hS
        go_simp
        refine (leader_go sb ev startsB arsB endsB b1 d1 b2 d2 b3 d3 Y10 (Hid.of (h'.out.below B.out (Nat.le_refl _))) hmb hsb hev hlB.out (Hid.of (may_arrs hmb.out))).mono ?_
        rintro e Y11 ⟨LC, rfl, ldC, -, hb⟩
        replace B := Hid.of (B.out.trans (hb.mono B.out.size))
        replace KA := Hid.of (KA.out.below hb KA.out.lt)
        replace KB := Hid.of (KB.out.below hb KB.out.lt)
        replace LDA := Hid.of (LDA.out.kept hb)
        replace K5 := Hid.of (K5.out.below hb K5.out.lt)
        replace K6 := Hid.of (K6.out.below hb K6.out.lt)
        have LDC := Hid.of ldC
        refine hK'.out _ _ (SA.out _ KA.out KB.out) (fun hS => ?_)
        clear hK' K' hb ldC
        refine wpAnyH_ready (rs := [6]) (by kernel_rfl) (by simp) ?_
        refine AllReadyH.cons rfl (fun K' hK' => ?_) AllReadyH.nil
        have f5 := K5.out.frozen 0
        have z5 := K5.out.cell 0 rfl
        go_simp
        have D1 := Hid.of (LDA.out.setF K5.out (v := leadV LA))
        have D2 := Hid.of (LDC.out.setF K5.out (v := leadV LA))
        replace B := Hid.of (B.out.setCell (p := ⟨p5, 0, none⟩) (show w.heap.size ≤ p5 by have := P5.out; omega) (leadV LA))
        replace KA := Hid.of (KA.out.other (j := 0) (show w.heap.size ≠ p5 by have := P5.out; omega) (leadV LA))
        replace KB := Hid.of (KB.out.other (j := 0) (show w.heap.size + 1 ≠ p5 by have := P5.out; omega) (leadV LA))
        replace K6 := Hid.of (K6.out.other (j := 0) (Ne.symm N56.out) (leadV LA))
        replace K5 := Hid.of (K5.out.set 0 (leadV LA))
        refine hK'.out _ _ (SA.out _ KA.out KB.out) (fun hS6 => ?_)
        clear hK' K' f5 z5 LDA LDC hS
        refine wpAnyH_ready (rs := [7]) (by kernel_rfl) (by simp) ?_
        refine AllReadyH.cons rfl (fun K' hK' => ?_) AllReadyH.nil
        have f6 := K6.out.frozen 0
        have z6 := K6.out.cell 0 rfl
        go_simp
        have E1 := Hid.of (D1.out.setF K6.out (v := leadV LC))
        have E2 := Hid.of (D2.out.setF K6.out (v := leadV LC))
        replace B := Hid.of (B.out.setCell (p := ⟨p6, 0, none⟩) (show w.heap.size ≤ p6 by have := P6.out; omega) (leadV LC))
        replace KA := Hid.of (KA.out.other (j := 0) (show w.heap.size ≠ p6 by have := P6.out; omega) (leadV LC))
        replace KB := Hid.of (KB.out.other (j := 0) (show w.heap.size + 1 ≠ p6 by have := P6.out; omega) (leadV LC))
        replace K5 := Hid.of (K5.out.other (j := 0) N56.out (leadV LC))
        replace K6 := Hid.of (K6.out.set 0 (leadV LC))
        refine hK'.out _ _ (SA.out _ KA.out KB.out) (fun hS7 => ?_)
        clear hK' K' f6 z6 D1 D2 hS6 hS7
        refine wpAnyH_done (by kernel_rfl) ?_ _
        go_wp2
        exact bodyPost_ret (v := wleadV p5 p6) (by simp [results, go_sem]) rfl ⟨p5, p6, LA, LC, rfl, ⟨K5.out, K6.out, E1.out, E2.out⟩, B.out⟩
    · clear hS
      go_simp
      have hb : Below Y1.heap.size Y1 (Y1.alloc (.cells #[.nilFunc] 99)) := (Below.refl _ _).alloc (Nat.le_refl _) _
      have P6 := Hid.of (Nat.le_trans (Nat.succ_le_of_lt KB.out.lt) (Nat.le_refl Y1.heap.size))
      replace B := Hid.of (B.out.trans (hb.mono B.out.size))
      replace KA := Hid.of (KA.out.below hb KA.out.lt)
      replace KB := Hid.of (KB.out.below hb KB.out.lt)
      replace LDA := Hid.of (LDA.out.kept hb)
      have K6 := Hid.of (Blk.new Y1 99 #[.nilFunc])
      refine hK'.out _ _ (SA.out _ KA.out KB.out) (fun hS => ?_)
      clear hK' K' hb
      revert P6 B KA KB LDA K6 hS
      generalize Y1.alloc (.cells #[.nilFunc] 99) = Y12
      generalize Y1.heap.size = p6
      intro P6 B KA KB LDA K6 hS
      refine wpAnyH_ready (rs := [3, 4]) (by kernel_rfl) (by simp) ?_
      refine AllReadyH.cons rfl (fun K' hK' => ?_) (AllReadyH.cons rfl (fun K' hK' => ?_) AllReadyH.nil)
      · clear hS
        go_simp
        refine (leader_go sb ev startsB arsB endsB b1 d1 b2 d2 b3 d3 Y12 (Hid.of (h'.out.below B.out (Nat.le_refl _))) hmb hsb hev hlB.out (Hid.of (may_arrs hmb.out))).mono ?_
        rintro e Y13 ⟨LC, rfl, ldC, -, hb⟩
        replace B := Hid.of (B.out.trans (hb.mono B.out.size))
        replace KA := Hid.of (KA.out.below hb KA.out.lt)
        replace KB := Hid.of (KB.out.below hb KB.out.lt)
        replace LDA := Hid.of (LDA.out.kept hb)
        replace K6 := Hid.of (K6.out.below hb K6.out.lt)
        have LDC := Hid.of ldC
        refine hK'.out _ _ (SA.out _ KA.out KB.out) (fun hS => ?_)
        clear hK' K' hb ldC
        refine wpAnyH_ready (rs := [4]) (by kernel_rfl) (by simp) ?_
        refine AllReadyH.cons rfl (fun K' hK' => ?_) AllReadyH.nil
        clear hS
        go_simp
        have hb : Below Y13.heap.size Y13 (Y13.alloc (.cells #[.nilFunc] 99)) := (Below.refl _ _).alloc (Nat.le_refl _) _
        have P5 := Hid.of (Nat.le_trans (Nat.succ_le_of_lt KB.out.lt) (Nat.le_refl Y13.heap.size))
        have N56 := Hid.of (Nat.ne_of_gt K6.out.lt)
        replace B := Hid.of (B.out.trans (hb.mono B.out.size))
        replace KA := Hid.of (KA.out.below hb KA.out.lt)
        replace KB := Hid.of (KB.out.below hb KB.out.lt)
        replace LDA := Hid.of (LDA.out.kept hb)
        replace K6 := Hid.of (K6.out.below hb K6.out.lt)
        replace LDC := Hid.of (LDC.out.kept hb)
        have K5 := Hid.of (Blk.new Y13 99 #[.nilFunc])
        refine hK'.out _ _ (SA.out _ KA.out KB.out) (fun hS => ?_)
        clear hK' K' hb
        revert P5 N56 B KA KB LDA K6 LDC K5 hS
        generalize Y13.alloc (.cells #[.nilFunc] 99) = Y14
        generalize Y13.heap.size = p5
        intro P5 N56 B KA KB LDA K6 LDC K5 hS
        refine wpAnyH_ready (rs := [6]) (by kernel_rfl) (by simp) ?_
        refine AllReadyH.cons rfl (fun K' hK' => ?_) AllReadyH.nil
        have f5 := K5.out.frozen 0
        have z5 := K5.out.cell 0 rfl
        go_simp
        have D1 := Hid.of (LDA.out.setF K5.out (v := leadV LA))
        have D2 := Hid.of (LDC.out.setF K5.out (v := leadV LA))
        replace B := Hid.of (B.out.setCell (p := ⟨p5, 0, none⟩) (show w.heap.size ≤ p5 by have := P5.out; omega) (leadV LA))
        replace KA := Hid.of (KA.out.other (j := 0) (show w.heap.size ≠ p5 by have := P5.out; omega) (leadV LA))
        replace KB := Hid.of (KB.out.other (j := 0) (show w.heap.size + 1 ≠ p5 by have := P5.out; omega) (leadV LA))
        replace K6 := Hid.of (K6.out.other (j := 0) (Ne.symm N56.out) (leadV LA))
        replace K5 := Hid.of (K5.out.set 0 (leadV LA))
        refine hK'.out _ _ (SA.out _ KA.out KB.out) (fun hS6 => ?_)
        clear hK' K' f5 z5 LDA LDC hS
        refine wpAnyH_ready (rs := [7]) (by kernel_rfl) (by simp) ?_
        refine AllReadyH.cons rfl (fun K' hK' => ?_) AllReadyH.nil
        have f6 := K6.out.frozen 0
        have z6 := K6.out.cell 0 rfl
        go_simp
        have E1 := Hid.of (D1.out.setF K6.out (v := leadV LC))
        have E2 := Hid.of (D2.out.setF K6.out (v := leadV LC))
        replace B := Hid.of (B.out.setCell (p := ⟨p6, 0, none⟩) (show w.heap.size ≤ p6 by have := P6.out; omega) (leadV LC))
        replace KA := Hid.of (KA.out.other (j := 0) (show w.heap.size ≠ p6 by have := P6.out; omega) (leadV LC))
        replace KB := Hid.of (KB.out.other (j := 0) (show w.heap.size + 1 ≠ p6 by have := P6.out; omega) (leadV LC))
        replace K5 := Hid.of (K5.out.other (j := 0) N56.out (leadV LC))
        replace K6 := Hid.of (K6.out.set 0 (leadV LC))
        refine hK'.out _ _ (SA.out _ KA.out KB.out) (fun hS7 => ?_)
        clear hK' K' f6 z6 D1 D2 hS6 hS7
        refine wpAnyH_done (by kernel_rfl) ?_ _
        go_wp2
        exact bodyPost_ret (v := wleadV p5 p6) (by simp [results, go_sem]) rfl ⟨p5, p6, LA, LC, rfl, ⟨K5.out, K6.out, E1.out, E2.out⟩, B.out⟩
      · clear hS
        go_simp
        have hb : Below Y12.heap.size Y12 (Y12.alloc (.cells #[.nilFunc] 99)) := (Below.refl _ _).alloc (Nat.le_refl _) _
        have P5 := Hid.of (Nat.le_trans (Nat.succ_le_of_lt KB.out.lt) (Nat.le_refl Y12.heap.size))
        have N56 := Hid.of (Nat.ne_of_gt K6.out.lt)
        replace B := Hid.of (B.out.trans (hb.mono B.out.size))
        replace KA := Hid.of (KA.out.below hb KA.out.lt)
        replace KB := Hid.of (KB.out.below hb KB.out.lt)
        replace LDA := Hid.of (LDA.out.kept hb)
        replace K6 := Hid.of (K6.out.below hb K6.out.lt)
        have K5 := Hid.of (Blk.new Y12 99 #[.nilFunc])
        refine hK'.out _ _ (SA.out _ KA.out KB.out) (fun hS => ?_)
        clear hK' K' hb
        revert P5 N56 B KA KB LDA K6 K5 hS
        generalize Y12.alloc (.cells #[.nilFunc] 99) = Y15
        generalize Y12.heap.size = p5
        intro P5 N56 B KA KB LDA K6 K5 hS
        refine wpAnyH_ready (rs := [3]) (by kernel_rfl) (by simp) ?_
        refine AllReadyH.cons rfl (fun K' hK' => ?_) AllReadyH.nil
        clear hS
        go_simp
        refine (leader_go sb ev startsB arsB endsB b1 d1 b2 d2 b3 d3 Y15 (Hid.of (h'.out.below B.out (Nat.le_refl _))) hmb hsb hev hlB.out (Hid.of (may_arrs hmb.out))).mono ?_
        rintro e Y16 ⟨LC, rfl, ldC, -, hb⟩
        replace B := Hid.of (B.out.trans (hb.mono B.out.size))
        replace KA := Hid.of (KA.out.below hb KA.out.lt)
        replace KB := Hid.of (KB.out.below hb KB.out.lt)
        replace LDA := Hid.of (LDA.out.kept hb)
        replace K6 := Hid.of (K6.out.below hb K6.out.lt)
        replace K5 := Hid.of (K5.out.below hb K5.out.lt)
        have LDC := Hid.of ldC
        refine hK'.out _ _ (SA.out _ KA.out KB.out) (fun hS => ?_)
        clear hK' K' hb ldC
        refine wpAnyH_ready (rs := [6]) (by kernel_rfl) (by simp) ?_
        refine AllReadyH.cons rfl (fun K' hK' => ?_) AllReadyH.nil
        have f5 := K5.out.frozen 0
        have z5 := K5.out.cell 0 rfl
        go_simp
        have D1 := Hid.of (LDA.out.setF K5.out (v := leadV LA))
        have D2 := Hid.of (LDC.out.setF K5.out (v := leadV LA))
        replace B := Hid.of (B.out.setCell (p := ⟨p5, 0, none⟩) (show w.heap.size ≤ p5 by have := P5.out; omega) (leadV LA))
        replace KA := Hid.of (KA.out.other (j := 0) (show w.heap.size ≠ p5 by have := P5.out; omega) (leadV LA))
        replace KB := Hid.of (KB.out.other (j := 0) (show w.heap.size + 1 ≠ p5 by have := P5.out; omega) (leadV LA))
        replace K6 := Hid.of (K6.out.other (j := 0) (Ne.symm N56.out) (leadV LA))
        replace K5 := Hid.of (K5.out.set 0 (leadV LA))
        refine hK'.out _ _ (SA.out _ KA.out KB.out) (fun hS6 => ?_)
        clear hK' K' f5 z5 LDA LDC hS
        refine wpAnyH_ready (rs := [7]) (by kernel_rfl) (by simp) ?_
        refine AllReadyH.cons rfl (fun K' hK' => ?_) AllReadyH.nil
        have f6 := K6.out.frozen 0
        have z6 := K6.out.cell 0 rfl
        go_simp
        have E1 := Hid.of (D1.out.setF K6.out (v := leadV LC))
        have E2 := Hid.of (D2.out.setF K6.out (v := leadV LC))
        replace B := Hid.of (B.out.setCell (p := ⟨p6, 0, none⟩) (show w.heap.size ≤ p6 by have := P6.out; omega) (leadV LC))
        replace KA := Hid.of (KA.out.other (j := 0) (show w.heap.size ≠ p6 by have := P6.out; omega) (leadV LC))
        replace KB := Hid.of (KB.out.other (j := 0) (show w.heap.size + 1 ≠ p6 by have := P6.out; omega) (leadV LC))
        replace K5 := Hid.of (K5.out.other (j := 0) N56.out (leadV LC))
        replace K6 := Hid.of (K6.out.set 0 (leadV LC))
        refine hK'.out _ _ (SA.out _ KA.out KB.out) (fun hS7 => ?_)
        clear hK' K' f6 z6 D1 D2 hS6 hS7
        refine wpAnyH_done (by kernel_rfl) ?_ _
        go_wp2
        exact bodyPost_ret (v := wleadV p5 p6) (by simp [results, go_sem]) rfl ⟨p5, p6, LA, LC, rfl, ⟨K5.out, K6.out, E1.out, E2.out⟩, B.out⟩
  · clear hS
    go_simp
    have hb : Below Y0.heap.size Y0 (Y0.alloc (.cells #[.nilFunc] 99)) := (Below.refl _ _).alloc (Nat.le_refl _) _
    have P5 := Hid.of (Nat.le_trans (Nat.succ_le_of_lt KB.out.lt) (Nat.le_refl Y0.heap.size))
    replace B := Hid.of (B.out.trans (hb.mono B.out.size))
    replace KA := Hid.of (KA.out.below hb KA.out.lt)
    replace KB := Hid.of (KB.out.below hb KB.out.lt)
    have K5 := Hid.of (Blk.new Y0 99 #[.nilFunc])
    refine hK'.out _ _ (SA.out _ KA.out KB.out) (fun hS => ?_)
    clear hK' K' hb
    revert P5 B KA KB K5 hS
    generalize Y0.alloc (.cells #[.nilFunc] 99) = Y17
    generalize Y0.heap.size = p5
    intro P5 B KA KB K5 hS
    refine wpAnyH_ready (rs := [1, 5]) (by kernel_rfl) (by simp) ?_
    refine AllReadyH.cons rfl (fun K' hK' => ?_) (AllReadyH.cons rfl (fun K' hK' => ?_) AllReadyH.nil)
    · clear hS
      go_simp
      refine (leader_go st ev starts ars ends a1 c1 a2 c2 a3 c3 Y17 (Hid.of (h.out.below B.out (Nat.le_refl _))) hma hst hev hlA.out (Hid.of (may_arrs hma.out))).mono ?_
      rintro e Y18 ⟨LA, rfl, ldA, -, hb⟩
      replace B := Hid.of (B.out.trans (hb.mono B.out.size))
      replace KA := Hid.of (KA.out.below hb KA.out.lt)
      replace KB := Hid.of (KB.out.below hb KB.out.lt)
      replace K5 := Hid.of (K5.out.below hb K5.out.lt)
      have LDA := Hid.of ldA
      refine hK'.out _ _ (SA.out _ KA.out KB.out) (fun hS => ?_)
      clear hK' K' hb ldA
      refine wpAnyH_ready (rs := [3, 5]) (by kernel_rfl) (by simp) ?_
      refine AllReadyH.cons rfl (fun K' hK' => ?_) (AllReadyH.cons rfl (fun K' hK' => ?_) AllReadyH.nil)
      · clear hS
        go_simp
        refine (leader_go sb ev startsB arsB endsB b1 d1 b2 d2 b3 d3 Y18 (Hid.of (h'.out.below B.out (Nat.le_refl _))) hmb hsb hev hlB.out (Hid.of (may_arrs hmb.out))).mono ?_
        rintro e Y19 ⟨LC, rfl, ldC, -, hb⟩
        replace B := Hid.of (B.out.trans (hb.mono B.out.size))
        replace KA := Hid.of (KA.out.below hb KA.out.lt)
        replace KB := Hid.of (KB.out.below hb KB.out.lt)
        replace K5 := Hid.of (K5.out.below hb K5.out.lt)
        replace LDA := Hid.of (LDA.out.kept hb)
        have LDC := Hid.of ldC
        refine hK'.out _ _ (SA.out _ KA.out KB.out) (fun hS => ?_)
        clear hK' K' hb ldC
        refine wpAnyH_ready (rs := [5]) (by kernel_rfl) (by simp) ?_
        refine AllReadyH.cons rfl (fun K' hK' => ?_) AllReadyH.nil
        clear hS
        go_simp
        have hb : Below Y19.heap.size Y19 (Y19.alloc (.cells #[.nilFunc] 99)) := (Below.refl _ _).alloc (Nat.le_refl _) _
        have P6 := Hid.of (Nat.le_trans (Nat.succ_le_of_lt KB.out.lt) (Nat.le_refl Y19.heap.size))
        have N56 := Hid.of (Nat.ne_of_lt K5.out.lt)
        replace B := Hid.of (B.out.trans (hb.mono B.out.size))
        replace KA := Hid.of (KA.out.below hb KA.out.lt)
        replace KB := Hid.of (KB.out.below hb KB.out.lt)
        replace K5 := Hid.of (K5.out.below hb K5.out.lt)
        replace LDA := Hid.of (LDA.out.kept hb)
        replace LDC := Hid.of (LDC.out.kept hb)
        have K6 := Hid.of (Blk.new Y19 99 #[.nilFunc])
        refine hK'.out _ _ (SA.out _ KA.out KB.out) (fun hS => ?_)
        clear hK' K' hb
        revert P6 N56 B KA KB K5 LDA LDC K6 hS
        generalize Y19.alloc (.cells #[.nilFunc] 99) = Y20
        generalize Y19.heap.size = p6
        intro P6 N56 B KA KB K5 LDA LDC K6 hS
        refine wpAnyH_ready (rs := [6]) (by kernel_rfl) (by simp) ?_
        refine AllReadyH.cons rfl (fun K' hK' => ?_) AllReadyH.nil
        have f5 := K5.out.frozen 0
        have z5 := K5.out.cell 0 rfl
        go_simp
        have D1 := Hid.of (LDA.out.setF K5.out (v := leadV LA))
        have D2 := Hid.of (LDC.out.setF K5.out (v := leadV LA))
        replace B := Hid.of (B.out.setCell (p := ⟨p5, 0, none⟩) (show w.heap.size ≤ p5 by have := P5.out; omega) (leadV LA))
        replace KA := Hid.of (KA.out.other (j := 0) (show w.heap.size ≠ p5 by have := P5.out; omega) (leadV LA))
        replace KB := Hid.of (KB.out.other (j := 0) (show w.heap.size + 1 ≠ p5 by have := P5.out; omega) (leadV LA))
        replace K6 := Hid.of (K6.out.other (j := 0) (Ne.symm N56.out) (leadV LA))
        replace K5 := Hid.of (K5.out.set 0 (leadV LA))
        refine hK'.out _ _ (SA.out _ KA.out KB.out) (fun hS6 => ?_)
        clear hK' K' f5 z5 LDA LDC hS
        refine wpAnyH_ready (rs := [7]) (by kernel_rfl) (by simp) ?_
        refine AllReadyH.cons rfl (fun K' hK' => ?_) AllReadyH.nil
        have f6 := K6.out.frozen 0
        have z6 := K6.out.cell 0 rfl
        go_simp
        have E1 := Hid.of (D1.out.setF K6.out (v := leadV LC))
        have E2 := Hid.of (D2.out.setF K6.out (v := leadV LC))
        replace B := Hid.of (B.out.setCell (p := ⟨p6, 0, none⟩) (show w.heap.size ≤ p6 by have := P6.out; omega) (leadV LC))
        replace KA := Hid.of (KA.out.other (j := 0) (show w.heap.size ≠ p6 by have := P6.out; omega) (leadV LC))
        replace KB := Hid.of (KB.out.other (j := 0) (show w.heap.size + 1 ≠ p6 by have := P6.out; omega) (leadV LC))
        replace K5 := Hid.of (K5.out.other (j := 0) N56.out (leadV LC))
        replace K6 := Hid.of (K6.out.set 0 (leadV LC))
        refine hK'.out _ _ (SA.out _ KA.out KB.out) (fun hS7 => ?_)
        clear hK' K' f6 z6 D1 D2 hS6 hS7
        refine wpAnyH_done (by kernel_rfl) ?_ _
        go_wp2
        exact bodyPost_ret (v := wleadV p5 p6) (by simp [results, go_sem]) rfl ⟨p5, p6, LA, LC, rfl, ⟨K5.out, K6.out, E1.out, E2.out⟩, B.out⟩
      · clear hS
        go_simp
        have hb : Below Y18.heap.size Y18 (Y18.alloc (.cells #[.nilFunc] 99)) := (Below.refl _ _).alloc (Nat.le_refl _) _
        have P6 := Hid.of (Nat.le_trans (Nat.succ_le_of_lt KB.out.lt) (Nat.le_refl Y18.heap.size))
        have N56 := Hid.of (Nat.ne_of_lt K5.out.lt)
        replace B := Hid.of (B.out.trans (hb.mono B.out.size))
        replace KA := Hid.of (KA.out.below hb KA.out.lt)
        replace KB := Hid.of (KB.out.below hb KB.out.lt)
        replace K5 := Hid.of (K5.out.below hb K5.out.lt)
        replace LDA := Hid.of (LDA.out.kept hb)
        have K6 := Hid.of (Blk.new Y18 99 #[.nilFunc])
        refine hK'.out _ _ (SA.out _ KA.out KB.out) (fun hS => ?_)
        clear hK' K' hb
        revert P6 N56 B KA KB K5 LDA K6 hS
        generalize Y18.alloc (.cells #[.nilFunc] 99) = Y21
        generalize Y18.heap.size = p6
        intro P6 N56 B KA KB K5 LDA K6 hS
        refine wpAnyH_ready (rs := [3]) (by kernel_rfl) (by simp) ?_
        refine AllReadyH.cons rfl (fun K' hK' => ?_) AllReadyH.nil
        clear hS
        go_simp
        refine (leader_go sb ev startsB arsB endsB b1 d1 b2 d2 b3 d3 Y21 (Hid.of (h'.out.below B.out (Nat.le_refl _))) hmb hsb hev hlB.out (Hid.of (may_arrs hmb.out))).mono ?_
        rintro e Y22 ⟨LC, rfl, ldC, -, hb⟩
        replace B := Hid.of (B.out.trans (hb.mono B.out.size))
        replace KA := Hid.of (KA.out.below hb KA.out.lt)
        replace KB := Hid.of (KB.out.below hb KB.out.lt)
        replace K5 := Hid.of (K5.out.below hb K5.out.lt)
        replace LDA := Hid.of (LDA.out.kept hb)
        replace K6 := Hid.of (K6.out.below hb K6.out.lt)
        have LDC := Hid.of ldC
        refine hK'.out _ _ (SA.out _ KA.out KB.out) (fun hS => ?_)
        clear hK' K' hb ldC
        refine wpAnyH_ready (rs := [6]) (by kernel_rfl) (by simp) ?_
        refine AllReadyH.cons rfl (fun K' hK' => ?_) AllReadyH.nil
        have f5 := K5.out.frozen 0
        have z5 := K5.out.cell 0 rfl
        go_simp
        have D1 := Hid.of (LDA.out.setF K5.out (v := leadV LA))
        have D2 := Hid.of (LDC.out.setF K5.out (v := leadV LA))
        replace B := Hid.of (B.out.setCell (p := ⟨p5, 0, none⟩) (show w.heap.size ≤ p5 by have := P5.out; omega) (leadV LA))
        replace KA := Hid.of (KA.out.other (j := 0) (show w.heap.size ≠ p5 by have := P5.out; omega) (leadV LA))
        replace KB := Hid.of (KB.out.other (j := 0) (show w.heap.size + 1 ≠ p5 by have := P5.out; omega) (leadV LA))
        replace K6 := Hid.of (K6.out.other (j := 0) (Ne.symm N56.out) (leadV LA))
        replace K5 := Hid.of (K5.out.set 0 (leadV LA))
        refine hK'.out _ _ (SA.out _ KA.out KB.out) (fun hS6 => ?_)
        clear hK' K' f5 z5 LDA LDC hS
        refine wpAnyH_ready (rs := [7]) (by kernel_rfl) (by simp) ?_
        refine AllReadyH.cons rfl (fun K' hK' => ?_) AllReadyH.nil
        have f6 := K6.out.frozen 0
        have z6 := K6.out.cell 0 rfl
        go_simp
        have E1 := Hid.of (D1.out.setF K6.out (v := leadV LC))
        have E2 := Hid.of (D2.out.setF K6.out (v := leadV LC))
        replace B := Hid.of (B.out.setCell (p := ⟨p6, 0, none⟩) (show w.heap.size ≤ p6 by have := P6.out; omega) (leadV LC))
        replace KA := Hid.of (KA.out.other (j := 0) (show w.heap.size ≠ p6 by have := P6.out; omega) (leadV LC))
        replace KB := Hid.of (KB.out.other (j := 0) (show w.heap.size + 1 ≠ p6 by have := P6.out; omega) (leadV LC))
        replace K5 := Hid.of (K5.out.other (j := 0) N56.out (leadV LC))
        replace K6 := Hid.of (K6.out.set 0 (leadV LC))
        refine hK'.out _ _ (SA.out _ KA.out KB.out) (fun hS7 => ?_)
        clear hK' K' f6 z6 D1 D2 hS6 hS7
        refine wpAnyH_done (by kernel_rfl) ?_ _
        go_wp2
        exact bodyPost_ret (v := wleadV p5 p6) (by simp [results, go_sem]) rfl ⟨p5, p6, LA, LC, rfl, ⟨K5.out, K6.out, E1.out, E2.out⟩, B.out⟩
    · clear hS
      go_simp
      have hb : Below Y17.heap.size Y17 (Y17.alloc (.cells #[.nilFunc] 99)) := (Below.refl _ _).alloc (Nat.le_refl _) _
      have P6 := Hid.of (Nat.le_trans (Nat.succ_le_of_lt KB.out.lt) (Nat.le_refl Y17.heap.size))
      have N56 := Hid.of (Nat.ne_of_lt K5.out.lt)
      replace B := Hid.of (B.out.trans (hb.mono B.out.size))
      replace KA := Hid.of (KA.out.below hb KA.out.lt)
      replace KB := Hid.of (KB.out.below hb KB.out.lt)
      replace K5 := Hid.of (K5.out.below hb K5.out.lt)
      have K6 := Hid.of (Blk.new Y17 99 #[.nilFunc])
      refine hK'.out _ _ (SA.out _ KA.out KB.out) (fun hS => ?_)
      clear hK' K' hb
      revert P6 N56 B KA KB K5 K6 hS
      generalize Y17.alloc (.cells #[.nilFunc] 99) = Y23
      generalize Y17.heap.size = p6
      intro P6 N56 B KA KB K5 K6 hS
      refine wpAnyH_ready (rs := [1]) (by kernel_rfl) (by simp) ?_
      refine AllReadyH.cons rfl (fun K' hK' => ?_) AllReadyH.nil
      clear hS
      go_simp
      refine (leader_go st ev starts ars ends a1 c1 a2 c2 a3 c3 Y23 (Hid.of (h.out.below B.out (Nat.le_refl _))) hma hst hev hlA.out (Hid.of (may_arrs hma.out))).mono ?_
      rintro e Y24 ⟨LA, rfl, ldA, -, hb⟩
      replace B := Hid.of (B.out.trans (hb.mono B.out.size))
      replace KA := Hid.of (KA.out.below hb KA.out.lt)
      replace KB := Hid.of (KB.out.below hb KB.out.lt)
      replace K5 := Hid.of (K5.out.below hb K5.out.lt)
      replace K6 := Hid.of (K6.out.below hb K6.out.lt)
      have LDA := Hid.of ldA
      refine hK'.out _ _ (SA.out _ KA.out KB.out) (fun hS => ?_)
      clear hK' K' hb ldA
      refine wpAnyH_ready (rs := [3]) (by kernel_rfl) (by simp) ?_
      refine AllReadyH.cons rfl (fun K' hK' => ?_) AllReadyH.nil
      clear hS
      go_simp
      refine (leader_go sb ev startsB arsB endsB b1 d1 b2 d2 b3 d3 Y24 (Hid.of (h'.out.below B.out (Nat.le_refl _))) hmb hsb hev hlB.out (Hid.of (may_arrs hmb.out))).mono ?_
      rintro e Y25 ⟨LC, rfl, ldC, -, hb⟩
      replace B := Hid.of (B.out.trans (hb.mono B.out.size))
      replace KA := Hid.of (KA.out.below hb KA.out.lt)
      replace KB := Hid.of (KB.out.below hb KB.out.lt)
      replace K5 := Hid.of (K5.out.below hb K5.out.lt)
      replace K6 := Hid.of (K6.out.below hb K6.out.lt)
      replace LDA := Hid.of (LDA.out.kept hb)
      have LDC := Hid.of ldC
      refine hK'.out _ _ (SA.out _ KA.out KB.out) (fun hS => ?_)
      clear hK' K' hb ldC
      refine wpAnyH_ready (rs := [6]) (by kernel_rfl) (by simp) ?_
      refine AllReadyH.cons rfl (fun K' hK' => ?_) AllReadyH.nil
      have f5 := K5.out.frozen 0
      have z5 := K5.out.cell 0 rfl
      go_simp
      have D1 := Hid.of (LDA.out.setF K5.out (v := leadV LA))
      have D2 := Hid.of (LDC.out.setF K5.out (v := leadV LA))
      replace B := Hid.of (B.out.setCell (p := ⟨p5, 0, none⟩) (show w.heap.size ≤ p5 by have := P5.out; omega) (leadV LA))
      replace KA := Hid.of (KA.out.other (j := 0) (show w.heap.size ≠ p5 by have := P5.out; omega) (leadV LA))
      replace KB := Hid.of (KB.out.other (j := 0) (show w.heap.size + 1 ≠ p5 by have := P5.out; omega) (leadV LA))
      replace K6 := Hid.of (K6.out.other (j := 0) (Ne.symm N56.out) (leadV LA))
      replace K5 := Hid.of (K5.out.set 0 (leadV LA))
      refine hK'.out _ _ (SA.out _ KA.out KB.out) (fun hS6 => ?_)
      clear hK' K' f5 z5 LDA LDC hS
      refine wpAnyH_ready (rs := [7]) (by kernel_rfl) (by simp) ?_
      refine AllReadyH.cons rfl (fun K' hK' => ?_) AllReadyH.nil
      have f6 := K6.out.frozen 0
      have z6 := K6.out.cell 0 rfl
      go_simp
      have E1 := Hid.of (D1.out.setF K6.out (v := leadV LC))
      have E2 := Hid.of (D2.out.setF K6.out (v := leadV LC))
      replace B := Hid.of (B.out.setCell (p := ⟨p6, 0, none⟩) (show w.heap.size ≤ p6 by have := P6.out; omega) (leadV LC))
      replace KA := Hid.of (KA.out.other (j := 0) (show w.heap.size ≠ p6 by have := P6.out; omega) (leadV LC))
      replace KB := Hid.of (KB.out.other (j := 0) (show w.heap.size + 1 ≠ p6 by have := P6.out; omega) (leadV LC))
      replace K5 := Hid.of (K5.out.other (j := 0) N56.out (leadV LC))
      replace K6 := Hid.of (K6.out.set 0 (leadV LC))
      refine hK'.out _ _ (SA.out _ KA.out KB.out) (fun hS7 => ?_)
      clear hK' K' f6 z6 D1 D2 hS6 hS7
      refine wpAnyH_done (by kernel_rfl) ?_ _
      go_wp2
      exact bodyPost_ret (v := wleadV p5 p6) (by simp [results, go_sem]) rfl ⟨p5, p6, LA, LC, rfl, ⟨K5.out, K6.out, E1.out, E2.out⟩, B.out⟩
  · clear hS
    go_simp
    have hb : Below Y0.heap.size Y0 (Y0.alloc (.cells #[.nilFunc] 99)) := (Below.refl _ _).alloc (Nat.le_refl _) _
    have P6 := Hid.of (Nat.le_trans (Nat.succ_le_of_lt KB.out.lt) (Nat.le_refl Y0.heap.size))
    replace B := Hid.of (B.out.trans (hb.mono B.out.size))
    replace KA := Hid.of (KA.out.below hb KA.out.lt)
    replace KB := Hid.of (KB.out.below hb KB.out.lt)
    have K6 := Hid.of (Blk.new Y0 99 #[.nilFunc])
    refine hK'.out _ _ (SA.out _ KA.out KB.out) (fun hS => ?_)
    clear hK' K' hb
    revert P6 B KA KB K6 hS
    generalize Y0.alloc (.cells #[.nilFunc] 99) = Y26
    generalize Y0.heap.size = p6
    intro P6 B KA KB K6 hS
    refine wpAnyH_ready (rs := [1, 4]) (by kernel_rfl) (by simp) ?_
    refine AllReadyH.cons rfl (fun K' hK' => ?_) (AllReadyH.cons rfl (fun K' hK' => ?_) AllReadyH.nil)
    · clear hS
      go_simp
      refine (leader_go st ev starts ars ends a1 c1 a2 c2 a3 c3 Y26 (Hid.of (h.out.below B.out (Nat.le_refl _))) hma hst hev hlA.out (Hid.of (may_arrs hma.out))).mono ?_
      rintro e Y27 ⟨LA, rfl, ldA, -, hb⟩
      replace B := Hid.of (B.out.trans (hb.mono B.out.size))
      replace KA := Hid.of (KA.out.below hb KA.out.lt)
      replace KB := Hid.of (KB.out.below hb KB.out.lt)
      replace K6 := Hid.of (K6.out.below hb K6.out.lt)
      have LDA := Hid.of ldA
      refine hK'.out _ _ (SA.out _ KA.out KB.out) (fun hS => ?_)
      clear hK' K' hb ldA
      refine wpAnyH_ready (rs := [3, 4]) (by kernel_rfl) (by simp) ?_
      refine AllReadyH.cons rfl (fun K' hK' => ?_) (AllReadyH.cons rfl (fun K' hK' => ?_) AllReadyH.nil)
      · clear hS
        go_simp
        refine (leader_go sb ev startsB arsB endsB b1 d1 b2 d2 b3 d3 Y27 (Hid.of (h'.out.below B.out (Nat.le_refl _))) hmb hsb hev hlB.out (Hid.of (may_arrs hmb.out))).mono ?_
        rintro e Y28 ⟨LC, rfl, ldC, -, hb⟩
        replace B := Hid.of (B.out.trans (hb.mono B.out.size))
        replace KA := Hid.of (KA.out.below hb KA.out.lt)
        replace KB := Hid.of (KB.out.below hb KB.out.lt)
        replace K6 := Hid.of (K6.out.below hb K6.out.lt)
        replace LDA := Hid.of (LDA.out.kept hb)
        have LDC := Hid.of ldC
        refine hK'.out _ _ (SA.out _ KA.out KB.out) (fun hS => ?_)
        clear hK' K' hb ldC
        refine wpAnyH_ready (rs := [4]) (by kernel_rfl) (by simp) ?_
        refine AllReadyH.cons rfl (fun K' hK' => ?_) AllReadyH.nil
        clear hS
        go_simp
        have hb : Below Y28.heap.size Y28 (Y28.alloc (.cells #[.nilFunc] 99)) := (Below.refl _ _).alloc (Nat.le_refl _) _
        have P5 := Hid.of (Nat.le_trans (Nat.succ_le_of_lt KB.out.lt) (Nat.le_refl Y28.heap.size))
        have N56 := Hid.of (Nat.ne_of_gt K6.out.lt)
        replace B := Hid.of (B.out.trans (hb.mono B.out.size))
        replace KA := Hid.of (KA.out.below hb KA.out.lt)
        replace KB := Hid.of (KB.out.below hb KB.out.lt)
        replace K6 := Hid.of (K6.out.below hb K6.out.lt)
        replace LDA := Hid.of (LDA.out.kept hb)
        replace LDC := Hid.of (LDC.out.kept hb)
        have K5 := Hid.of (Blk.new Y28 99 #[.nilFunc])
        refine hK'.out _ _ (SA.out _ KA.out KB.out) (fun hS => ?_)
        clear hK' K' hb
        revert P5 N56 B KA KB K6 LDA LDC K5 hS
        generalize Y28.alloc (.cells #[.nilFunc] 99) = Y29
        generalize Y28.heap.size = p5
        intro P5 N56 B KA KB K6 LDA LDC K5 hS
        refine wpAnyH_ready (rs := [6]) (by kernel_rfl) (by simp) ?_
        refine AllReadyH.cons rfl (fun K' hK' => ?_) AllReadyH.nil
        have f5 := K5.out.frozen 0
        have z5 := K5.out.cell 0 rfl
        go_simp
        have D1 := Hid.of (LDA.out.setF K5.out (v := leadV LA))
        have D2 := Hid.of (LDC.out.setF K5.out (v := leadV LA))
        replace B := Hid.of (B.out.setCell (p := ⟨p5, 0, none⟩) (show w.heap.size ≤ p5 by have := P5.out; omega) (leadV LA))
        replace KA := Hid.of (KA.out.other (j := 0) (show w.heap.size ≠ p5 by have := P5.out; omega) (leadV LA))
        replace KB := Hid.of (KB.out.other (j := 0) (show w.heap.size + 1 ≠ p5 by have := P5.out; omega) (leadV LA))
        replace K6 := Hid.of (K6.out.other (j := 0) (Ne.symm N56.out) (leadV LA))
        replace K5 := Hid.of (K5.out.set 0 (leadV LA))
        refine hK'.out _ _ (SA.out _ KA.out KB.out) (fun hS6 => ?_)
        clear hK' K' f5 z5 LDA LDC hS
        refine wpAnyH_ready (rs := [7]) (by kernel_rfl) (by simp) ?_
        refine AllReadyH.cons rfl (fun K' hK' => ?_) AllReadyH.nil
        have f6 := K6.out.frozen 0
        have z6 := K6.out.cell 0 rfl
        go_simp
        have E1 := Hid.of (D1.out.setF K6.out (v := leadV LC))
        have E2 := Hid.of (D2.out.setF K6.out (v := leadV LC))
        replace B := Hid.of (B.out.setCell (p := ⟨p6, 0, none⟩) (show w.heap.size ≤ p6 by have := P6.out; omega) (leadV LC))
        replace KA := Hid.of (KA.out.other (j := 0) (show w.heap.size ≠ p6 by have := P6.out; omega) (leadV LC))
        replace KB := Hid.of (KB.out.other (j := 0) (show w.heap.size + 1 ≠ p6 by have := P6.out; omega) (leadV LC))
        replace K5 := Hid.of (K5.out.other (j := 0) N56.out (leadV LC))
        replace K6 := Hid.of (K6.out.set 0 (leadV LC))
        refine hK'.out _ _ (SA.out _ KA.out KB.out) (fun hS7 => ?_)
        clear hK' K' f6 z6 D1 D2 hS6 hS7
        refine wpAnyH_done (by kernel_rfl) ?_ _
        go_wp2
        exact bodyPost_ret (v := wleadV p5 p6) (by simp [results, go_sem]) rfl ⟨p5, p6, LA, LC, rfl, ⟨K5.out, K6.out, E1.out, E2.out⟩, B.out⟩
      · clear hS
        go_simp
        have hb : Below Y27.heap.size Y27 (Y27.alloc (.cells #[.nilFunc] 99)) := (Below.refl _ _).alloc (Nat.le_refl _) _
        have P5 := Hid.of (Nat.le_trans (Nat.succ_le_of_lt KB.out.lt) (Nat.le_refl Y27.heap.size))
        have N56 := Hid.of (Nat.ne_of_gt K6.out.lt)
        replace B := Hid.of (B.out.trans (hb.mono B.out.size))
        replace KA := Hid.of (KA.out.below hb KA.out.lt)
        replace KB := Hid.of (KB.out.below hb KB.out.lt)
        replace K6 := Hid.of (K6.out.below hb K6.out.lt)
        replace LDA := Hid.of (LDA.out.kept hb)
        have K5 := Hid.of (Blk.new Y27 99 #[.nilFunc])
        refine hK'.out _ _ (SA.out _ KA.out KB.out) (fun hS => ?_)
        clear hK' K' hb
        revert P5 N56 B KA KB K6 LDA K5 hS
        generalize Y27.alloc (.cells #[.nilFunc] 99) = Y30
        generalize Y27.heap.size = p5
        intro P5 N56 B KA KB K6 LDA K5 hS
        refine wpAnyH_ready (rs := [3]) (by kernel_rfl) (by simp) ?_
        refine AllReadyH.cons rfl (fun K' hK' => ?_) AllReadyH.nil
        clear hS
        go_simp
        refine (leader_go sb ev startsB arsB endsB b1 d1 b2 d2 b3 d3 Y30 (Hid.of (h'.out.below B.out (Nat.le_refl _))) hmb hsb hev hlB.out (Hid.of (may_arrs hmb.out))).mono ?_
        rintro e Y31 ⟨LC, rfl, ldC, -, hb⟩
        replace B := Hid.of (B.out.trans (hb.mono B.out.size))
        replace KA := Hid.of (KA.out.below hb KA.out.lt)
        replace KB := Hid.of (KB.out.below hb KB.out.lt)
        replace K6 := Hid.of (K6.out.below hb K6.out.lt)
        replace LDA := Hid.of (LDA.out.kept hb)
        replace K5 := Hid.of (K5.out.below hb K5.out.lt)
        have LDC := Hid.of ldC
        refine hK'.out _ _ (SA.out _ KA.out KB.out) (fun hS => ?_)
        clear hK' K' hb ldC
        refine wpAnyH_ready (rs := [6]) (by kernel_rfl) (by simp) ?_
        refine AllReadyH.cons rfl (fun K' hK' => ?_) AllReadyH.nil
        have f5 := K5.out.frozen 0
        have z5 := K5.out.cell 0 rfl
        go_simp
        have D1 := Hid.of (LDA.out.setF K5.out (v := leadV LA))
        have D2 := Hid.of (LDC.out.setF K5.out (v := leadV LA))
        replace B := Hid.of (B.out.setCell (p := ⟨p5, 0, none⟩) (show w.heap.size ≤ p5 by have := P5.out; omega) (leadV LA))
        replace KA := Hid.of (KA.out.other (j := 0) (show w.heap.size ≠ p5 by have := P5.out; omega) (leadV LA))
        replace KB := Hid.of (KB.out.other (j := 0) (show w.heap.size + 1 ≠ p5 by have := P5.out; omega) (leadV LA))
        replace K6 := Hid.of (K6.out.other (j := 0) (Ne.symm N56.out) (leadV LA))
        replace K5 := Hid.of (K5.out.set 0 (leadV LA))
        refine hK'.out _ _ (SA.out _ KA.out KB.out) (fun hS6 => ?_)
        clear hK' K' f5 z5 LDA LDC hS
        refine wpAnyH_ready (rs := [7]) (by kernel_rfl) (by simp) ?_
        refine AllReadyH.cons rfl (fun K' hK' => ?_) AllReadyH.nil
        have f6 := K6.out.frozen 0
        have z6 := K6.out.cell 0 rfl
        go_simp
        have E1 := Hid.of (D1.out.setF K6.out (v := leadV LC))
        have E2 := Hid.of (D2.out.setF K6.out (v := leadV LC))
        replace B := Hid.of (B.out.setCell (p := ⟨p6, 0, none⟩) (show w.heap.size ≤ p6 by have := P6.out; omega) (leadV LC))
        replace KA := Hid.of (KA.out.other (j := 0) (show w.heap.size ≠ p6 by have := P6.out; omega) (leadV LC))
        replace KB := Hid.of (KB.out.other (j := 0) (show w.heap.size + 1 ≠ p6 by have := P6.out; omega) (leadV LC))
        replace K5 := Hid.of (K5.out.other (j := 0) N56.out (leadV LC))
        replace K6 := Hid.of (K6.out.set 0 (leadV LC))
        refine hK'.out _ _ (SA.out _ KA.out KB.out) (fun hS7 => ?_)
        clear hK' K' f6 z6 D1 D2 hS6 hS7
        refine wpAnyH_done (by kernel_rfl) ?_ _
        go_wp2
        exact bodyPost_ret (v := wleadV p5 p6) (by simp [results, go_sem]) rfl ⟨p5, p6, LA, LC, rfl, ⟨K5.out, K6.out, E1.out, E2.out⟩, B.out⟩
    · clear hS
      go_simp
      have hb : Below Y26.heap.size Y26 (Y26.alloc (.cells #[.nilFunc] 99)) := (Below.refl _ _).alloc (Nat.le_refl _) _
      have P5 := Hid.of (Nat.le_trans (Nat.succ_le_of_lt KB.out.lt) (Nat.le_refl Y26.heap.size))
      have N56 := Hid.of (Nat.ne_of_gt K6.out.lt)
      replace B := Hid.of (B.out.trans (hb.mono B.out.size))
      replace KA := Hid.of (KA.out.below hb KA.out.lt)
      replace KB := Hid.of (KB.out.below hb KB.out.lt)
      replace K6 := Hid.of (K6.out.below hb K6.out.lt)
      have K5 := Hid.of (Blk.new Y26 99 #[.nilFunc])
      refine hK'.out _ _ (SA.out _ KA.out KB.out) (fun hS => ?_)
      clear hK' K' hb
      revert P5 N56 B KA KB K6 K5 hS
      generalize Y26.alloc (.cells #[.nilFunc] 99) = Y32
      generalize Y26.heap.size = p5
      intro P5 N56 B KA KB K6 K5 hS
      refine wpAnyH_ready (rs := [1]) (by kernel_rfl) (by simp) ?_
      refine AllReadyH.cons rfl (fun K' hK' => ?_) AllReadyH.nil
      clear hS
      go_simp
      refine (leader_go st ev starts ars ends a1 c1 a2 c2 a3 c3 Y32 (Hid.of (h.out.below B.out (Nat.le_refl _))) hma hst hev hlA.out (Hid.of (may_arrs hma.out))).mono ?_
      rintro e Y33 ⟨LA, rfl, ldA, -, hb⟩
      replace B := Hid.of (B.out.trans (hb.mono B.out.size))
      replace KA := Hid.of (KA.out.below hb KA.out.lt)
      replace KB := Hid.of (KB.out.below hb KB.out.lt)
      replace K6 := Hid.of (K6.out.below hb K6.out.lt)
      replace K5 := Hid.of (K5.out.below hb K5.out.lt)
      have LDA := Hid.of ldA
      refine hK'.out _ _ (SA.out _ KA.out KB.out) (fun hS => ?_)
      clear hK' K' hb ldA
      refine wpAnyH_ready (rs := [3]) (by kernel_rfl) (by simp) ?_
      refine AllReadyH.cons rfl (fun K' hK' => ?_) AllReadyH.nil
      clear hS
      go_simp
      refine (leader_go sb ev startsB arsB endsB b1 d1 b2 d2 b3 d3 Y33 (Hid.of (h'.out.below B.out (Nat.le_refl _))) hmb hsb hev hlB.out (Hid.of (may_arrs hmb.out))).mono ?_
      rintro e Y34 ⟨LC, rfl, ldC, -, hb⟩
      replace B := Hid.of (B.out.trans (hb.mono B.out.size))
      replace KA := Hid.of (KA.out.below hb KA.out.lt)
      replace KB := Hid.of (KB.out.below hb KB.out.lt)
      replace K6 := Hid.of (K6.out.below hb K6.out.lt)
      replace K5 := Hid.of (K5.out.below hb K5.out.lt)
      replace LDA := Hid.of (LDA.out.kept hb)
      have LDC := Hid.of ldC
      refine hK'.out _ _ (SA.out _ KA.out KB.out) (fun hS => ?_)
      clear hK' K' hb ldC
      refine wpAnyH_ready (rs := [6]) (by kernel_rfl) (by simp) ?_
      refine AllReadyH.cons rfl (fun K' hK' => ?_) AllReadyH.nil
      have f5 := K5.out.frozen 0
      have z5 := K5.out.cell 0 rfl
      go_simp
      have D1 := Hid.of (LDA.out.setF K5.out (v := leadV LA))
      have D2 := Hid.of (LDC.out.setF K5.out (v := leadV LA))
      replace B := Hid.of (B.out.setCell (p := ⟨p5, 0, none⟩) (show w.heap.size ≤ p5 by have := P5.out; omega) (leadV LA))
      replace KA := Hid.of (KA.out.other (j := 0) (show w.heap.size ≠ p5 by have := P5.out; omega) (leadV LA))
      replace KB := Hid.of (KB.out.other (j := 0) (show w.heap.size + 1 ≠ p5 by have := P5.out; omega) (leadV LA))
      replace K6 := Hid.of (K6.out.other (j := 0) (Ne.symm N56.out) (leadV LA))
      replace K5 := Hid.of (K5.out.set 0 (leadV LA))
      refine hK'.out _ _ (SA.out _ KA.out KB.out) (fun hS6 => ?_)
      clear hK' K' f5 z5 LDA LDC hS
      refine wpAnyH_ready (rs := [7]) (by kernel_rfl) (by simp) ?_
      refine AllReadyH.cons rfl (fun K' hK' => ?_) AllReadyH.nil
      have f6 := K6.out.frozen 0
      have z6 := K6.out.cell 0 rfl
      go_simp
      have E1 := Hid.of (D1.out.setF K6.out (v := leadV LC))
      have E2 := Hid.of (D2.out.setF K6.out (v := leadV LC))
      replace B := Hid.of (B.out.setCell (p := ⟨p6, 0, none⟩) (show w.heap.size ≤ p6 by have := P6.out; omega) (leadV LC))
      replace KA := Hid.of (KA.out.other (j := 0) (show w.heap.size ≠ p6 by have := P6.out; omega) (leadV LC))
      replace KB := Hid.of (KB.out.other (j := 0) (show w.heap.size + 1 ≠ p6 by have := P6.out; omega) (leadV LC))
      replace K5 := Hid.of (K5.out.other (j := 0) N56.out (leadV LC))
      replace K6 := Hid.of (K6.out.set 0 (leadV LC))
      refine hK'.out _ _ (SA.out _ KA.out KB.out) (fun hS7 => ?_)
      clear hK' K' f6 z6 D1 D2 hS6 hS7
      refine wpAnyH_done (by kernel_rfl) ?_ _
      go_wp2
      exact bodyPost_ret (v := wleadV p5 p6) (by simp [results, go_sem]) rfl ⟨p5, p6, LA, LC, rfl, ⟨K5.out, K6.out, E1.out, E2.out⟩, B.out⟩

end Go.Proofs.YtdnglodemkeooaaDoor
