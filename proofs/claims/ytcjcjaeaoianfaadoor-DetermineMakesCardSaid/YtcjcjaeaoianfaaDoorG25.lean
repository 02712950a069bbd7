/-
  What the walk of jalousieref5.Hide knows of the memory; how many arrows there may be.
  The walk of determine.Make.
  The walk of determine.Is.
-/
import Derived.Test.YtcjcjaeaoianfaaDoorG24
import Derived.Test.YtcjcjaeaoianfaaDoorG07
import Derived.Test.YtcjcjaeaoianfaaDoorG18
import Derived.Test.YtcjcjaeaoianfaaDoorG21
import Derived.Test.YtcjcjaeaoianfaaDoorG20
import Derived.Test.YtcjcjaeaoianfaaDoorCDetA
namespace Go.Proofs.YtcjcjaeaoianfaaDoor
open Go.RowKit
set_option linter.unusedVariables false

theorem wide_len {m : Mach} (hm : mayB m = true) {seen ss : List Int} (hs : ∀ x ∈ ss, 0 ≤ x ∧ x < m.st) : (wideL m.arrows seen ss).length ≤ 256 := by
  have h2 := mayB_size hm
  unfold sizeOk at h2
  refine nodup_len 256 _ (inc_nodup (inc_wide _ _ _)) (fun x hx => ?_)
  have := wide_bd hm hs x hx
  omega
theorem hRow_len {m : Mach} (hm : mayB m = true) (seen : List Int) (f k : Nat) : (hRow m seen f k).length ≤ 256 := by
  unfold hRow; rw [List.length_map]; exact wide_len hm (step_bd hm)
theorem hFrom_succ (m : Mach) (seen : List Int) (f k : Nat) : hFrom m seen f (k + 1) = hFrom m seen f k ++ hRow m seen f k := by
  unfold hFrom; rw [List.range_succ, List.flatMap_append]; simp
theorem hAll_succ (m : Mach) (seen : List Int) (f : Nat) : hAll m seen (f + 1) = hAll m seen f ++ hFrom m seen f seen.length := by
  unfold hAll; rw [List.range_succ, List.flatMap_append]; simp
theorem hFrom_len {m : Mach} (hm : mayB m = true) (seen : List Int) (f : Nat) : ∀ k, (hFrom m seen f k).length ≤ k * 256
  | 0 => by simp [hFrom]
  | k + 1 => by
    rw [hFrom_succ, List.length_append]
    have := hFrom_len hm seen f k
    have := hRow_len hm seen f k
    omega
theorem hAll_len {m : Mach} (hm : mayB m = true) (seen : List Int) (h8 : seen.length ≤ 8) : ∀ f, (hAll m seen f).length ≤ f * 2048
  | 0 => by simp [hAll]
  | f + 1 => by
    rw [hAll_succ, List.length_append]
    have := hAll_len hm seen h8 f
    have := hFrom_len hm seen f seen.length
    omega

/-- The cells of the machine that is being made. -/
abbrev ncells (st : Int) (K : Nat) (vs va : Value) (a3 : Option Addr) (n c3 : Nat) : Array Value := #[.int .i64 st, .int .i64 K, vs, va, .slice a3 n c3]
/-- What Hide knows of the memory. -/
structure HN (w W : World) (B bm : Nat) (m : Mach) (l : ML) (K : Nat) (vs va : Value) (S : List Int) (A : List Arr) : Prop where
  bel : Below w.heap.size w W
  kb : Blk W w.heap.size 25 (mcells m l)
  rb : Blk W (w.heap.size + 1) 25 zcells
  nb : Blk W bm 25 (ncells m.st K vs va l.a3 m.ends.length l.c3)
  st : Own W B vs S
  ar : OwnA W B va A
  lo : w.heap.size + 1 < bm
  lB : bm < B
  hB : B ≤ W.heap.size
section
variable {w W : World} {B bm : Nat} {m : Mach} {l : ML} {K : Nat} {vs va : Value} {S : List Int} {A : List Arr}
theorem Own.keep {w w' : World} {B B' : Nat} {v : Value} {L : List Int} (h : Own w B v L) (hb : Below B' w w') (hB : w.heap.size ≤ B') : Own w' B v L :=
  own_same h (fun k hk => hb.block k (Nat.lt_of_lt_of_le (World.ownsRow.lt h k hk).2 hB))
theorem HN.below {W' : World} (h : HN w W B bm m l K vs va S A) (hb : Below W.heap.size W W') : HN w W' B bm m l K vs va S A :=
  ⟨h.bel.trans (hb.mono h.bel.size), h.kb.below hb h.kb.lt, h.rb.below hb h.rb.lt, h.nb.below hb h.nb.lt, h.st.keep hb (Nat.le_refl _), h.ar.kept hb (Nat.le_refl _), h.lo, h.lB, Nat.le_trans h.hB hb.size⟩
theorem HN.push {W2 W3 : World} {va' : Value} {x : Arr} (h : HN w W B bm m l K vs va S A) (hW3 : Below W.heap.size W W3) (o1 : OwnA W2 B va' (A ++ [x])) (g : W3.grownBy W2 va.ownBlock) :
    Blk W2 bm 25 (ncells m.st K vs va l.a3 m.ends.length l.c3) ∧ HN w (W2.setCell ⟨bm, 3, none⟩ va') B bm m l K vs va' S (A ++ [x]) ∧ ∀ vl L, Own W B vl L → Own (W2.setCell ⟨bm, 3, none⟩ va') B vl L := by
  have h3 := h.below hW3
  have lo := h.lo
  have lB := h.lB
  have low : ∀ j, j < B → W2.heap[j]? = W3.heap[j]? := fun j hj => g.block j (Nat.lt_of_lt_of_le hj h3.hB) (fun e => by have := (World.ownsRow.lt h3.ar j e.symm).1; omega)
  have nb2 : Blk W2 bm 25 (ncells m.st K vs va l.a3 m.ends.length l.c3) := (low bm lB).trans h3.nb
  have ints : ∀ vl L, Own W B vl L → Own (W2.setCell ⟨bm, 3, none⟩ va') B vl L := fun vl L hl => by
    have hl3 := hl.keep hW3 (Nat.le_refl _)
    refine own_same hl3 (fun k hk => ?_)
    have hk1 := World.ownsRow.lt hl3 k hk
    rw [Below.heap_setCell _ _ _ _ (show k ≠ bm by omega), g.block k hk1.2 (fun e => ?_)]
    rcases own_apart h3.ar hl3 (by decide) with r | r
    · rw [r] at e; cases e
    · exact r (e.symm.trans hk.symm)
  refine ⟨nb2, ⟨?_, ?_, ?_, nb2.set 3 va', ints vs S h.st, ownsRow_set o1 lB va', lo, lB, ?_⟩, ints⟩
  · exact (h3.bel.grown g h3.bel.size (fun j hj => Nat.le_trans (by omega) (World.ownsRow.lt h3.ar j hj).1)).setCell (p := ⟨bm, 3, none⟩) (show w.heap.size ≤ bm by omega) _
  · exact Blk.other ((low _ (by omega)).trans h3.kb) (by omega) _
  · exact Blk.other ((low _ (by omega)).trans h3.rb) (by omega) _
  · have := g.size
    have := h3.hB
    simp [World.setCell]; omega
theorem HN.mcells (h : HN w W B bm m l K vs va S A) : W.cell? ⟨w.heap.size, 0, none⟩ = some (.int .i64 m.st) ∧ W.cell? ⟨w.heap.size, 1, none⟩ = some (.int .i64 m.ev) ∧ W.cell? ⟨w.heap.size, 2, none⟩ = some (.slice l.a1 m.starts.length l.c1) ∧ W.cell? ⟨w.heap.size, 3, none⟩ = some (.slice l.a2 m.arrows.length l.c2) ∧ W.cell? ⟨w.heap.size, 4, none⟩ = some (.slice l.a3 m.ends.length l.c3) :=
  ⟨h.kb.cell 0 rfl, h.kb.cell 1 rfl, h.kb.cell 2 rfl, h.kb.cell 3 rfl, h.kb.cell 4 rfl⟩
end

end Go.Proofs.YtcjcjaeaoianfaaDoor
namespace Go.Proofs.YtcjcjaeaoianfaaDoor
open Go.RowKit
set_option linter.unusedVariables false

set_option maxRecDepth 100000 in
set_option maxHeartbeats 4000000 in
theorem dmake_err (m : Mach) (l : ML) (w : World) (h : Hid (MAt w m l)) (hm : Hid (mayB m = false)) :
    Calls Tryd.prog 32 #[mval m l] w fun e w' => MakePost w m e w' := by
  have B0 : Hid (Below w.heap.size w ((w.alloc (.cells (mcells m l) 25)).alloc (.cells zcells 25))) := ((Below.refl _ _).alloc (Nat.le_refl _) _).alloc (by simp) _
  have R0 : Hid (Blk ((w.alloc (.cells (mcells m l) 25)).alloc (.cells zcells 25)) (w.heap.size + 1) 25 zcells) := by
    have := Blk.new (w.alloc (.cells (mcells m l) 25)) 25 zcells
    rwa [World.size_alloc] at this
  go_enter Tryd.func32, Tryd.ntmps32
  go_wp2_with fail
  revert B0 R0
  generalize (w.alloc (.cells (mcells m l) 25)).alloc (.cells zcells 25) = V0
  intro B0 R0
  refine (pMay_any m l _ (h.out.below B0.out (Nat.le_refl _))).mono ?_
  rintro e V ⟨rfl, hb1⟩
  rw [hm.out]
  have B1 := Hid.of (B0.out.trans (hb1.mono B0.out.size))
  have R1 := Hid.of (R0.out.below hb1 R0.out.lt)
  clear hb1 B0 R0
  obtain ⟨r0, r1, r2, r3, r4⟩ := zcell_at R1.out
  have rz := R1.out.frozen
  have RR : Hid (Blk _ (w.heap.size + 1) 25 (mcells m0 ml0)) := R1.out.set5 (.int .i64 0) (.int .i64 0) (.slice none 0 0) (.slice none 0 0) (.slice none 0 0)
  go_wp2
  refine bodyPost_ret (v := .tuple #[mval m0 ml0, .slice none 0 0, .int .i64 2]) ?_ rfl (makePost_err (detOut_bad hm.out) (below_set5 B1.out (b' := w.heap.size + 1) (by omega) _ _ _ _ _))
  exact results_three (p := 2) (u := 3) (v := 4) rfl _ _ (w.heap.size + 1) m0 ml0 _ _ rfl rfl rfl RR.out

theorem at_oneD (W : World) (x : Int) : At (W.alloc (.cells #[.int .i64 x] 3)) (some ⟨W.heap.size, 0, none⟩) [x] := by
  refine .inr ⟨W.heap.size, 0, rfl, by simp, fun j hj => ?_⟩
  have hj : j = 0 := by simp at hj; exact hj
  subst hj
  exact (Blk.new W 3 #[.int .i64 x]).cell 0 rfl

theorem make_some {st ev : Nat} {starts : List Int} {ars : List Arr} {ends : List Int} {s : DS} {SL : List (Nat → Nat)} (h : RepL SL s.sets) (hr : Rep (ofS ends) ends) : detM ⟨(st : Int), (ev : Int), starts, ars, ends⟩ s = ⟨(SL.length : Int), (ev : Int), [0], s.ar, meetFrom (ofS ends) 0 SL⟩ := by
  unfold detM endsD
  rw [h.len, meet_ends hr 0 h]

set_option maxRecDepth 100000 in
set_option maxHeartbeats 8000000 in
theorem dmake_ok (st ev : Nat) (starts : List Int) (ars : List Arr) (ends : List Int) (a1 : Option Addr) (c1 : Nat) (a2 : Option Addr) (c2 : Nat) (a3 : Option Addr) (c3 : Nat) (w : World) (h : Hid (MAt w ⟨(st : Int), (ev : Int), starts, ars, ends⟩ ⟨a1, c1, a2, c2, a3, c3⟩)) (hm : Hid (mayB ⟨(st : Int), (ev : Int), starts, ars, ends⟩ = true)) (hT : Hid (Tab w)) :
    Calls Tryd.prog 32 #[mval ⟨(st : Int), (ev : Int), starts, ars, ends⟩ ⟨a1, c1, a2, c2, a3, c3⟩] w fun e w' => MakePost w ⟨(st : Int), (ev : Int), starts, ars, ends⟩ e w' := by
  have hz := mayB_size hm.out
  unfold sizeOk at hz
  dsimp only at hz
  have hst : st ≤ 256 := by omega
  have hev : ev ≤ 8 := by omega
  have hlen : Hid (ars.length ≤ 4096) := show _ ≤ _ by omega
  clear hz
  have hsl : Hid (starts.length ≤ maxLen) := Nat.le_trans h.out.s1 h.out.s2
  have hel : Hid (ends.length ≤ maxLen) := Nat.le_trans h.out.e1 h.out.e2
  have hsb : Hid (∀ x ∈ starts, 0 ≤ x ∧ x < 256) := fun x hx => by have := (may_starts hm.out).2 x hx; dsimp only at this; omega
  have heb : Hid (∀ x ∈ ends, 0 ≤ x ∧ x < 256) := fun x hx => by have := (may_ends hm.out).2 x hx; dsimp only at this; omega
  have hrs : Hid (Rep (ofS starts) starts) := by
    have := rep_of hsb.out starts.length
    rwa [List.take_of_length_le (Nat.le_refl _)] at this
  have hre : Hid (Rep (ofS ends) ends) := by
    have := rep_of heb.out ends.length
    rwa [List.take_of_length_le (Nat.le_refl _)] at this
  have B0 : Hid (Below w.heap.size w ((w.alloc (.cells (mcells ⟨(st : Int), (ev : Int), starts, ars, ends⟩ ⟨a1, c1, a2, c2, a3, c3⟩) 25)).alloc (.cells zcells 25))) := ((Below.refl _ _).alloc (Nat.le_refl _) _).alloc (by simp) _
  have K0 : Hid (Blk ((w.alloc (.cells (mcells ⟨(st : Int), (ev : Int), starts, ars, ends⟩ ⟨a1, c1, a2, c2, a3, c3⟩) 25)).alloc (.cells zcells 25)) w.heap.size 25 (mcells ⟨(st : Int), (ev : Int), starts, ars, ends⟩ ⟨a1, c1, a2, c2, a3, c3⟩)) := (Blk.new w _ _).alloc _
  have R0 : Hid (Blk ((w.alloc (.cells (mcells ⟨(st : Int), (ev : Int), starts, ars, ends⟩ ⟨a1, c1, a2, c2, a3, c3⟩) 25)).alloc (.cells zcells 25)) (w.heap.size + 1) 25 zcells) := by
    have := Blk.new (w.alloc (.cells (mcells ⟨(st : Int), (ev : Int), starts, ars, ends⟩ ⟨a1, c1, a2, c2, a3, c3⟩) 25)) 25 zcells
    rwa [World.size_alloc] at this
  go_enter Tryd.func32, Tryd.ntmps32
  go_wp2_with fail
  revert B0 K0 R0
  generalize (w.alloc (.cells (mcells ⟨(st : Int), (ev : Int), starts, ars, ends⟩ ⟨a1, c1, a2, c2, a3, c3⟩) 25)).alloc (.cells zcells 25) = V0
  intro B0 K0 R0
  refine (pMay_any ⟨(st : Int), (ev : Int), starts, ars, ends⟩ ⟨a1, c1, a2, c2, a3, c3⟩ _ (h.out.below B0.out (Nat.le_refl _))).mono ?_
  rintro e V ⟨rfl, hb1⟩
  rw [hm.out]
  have B1 : Hid (Below w.heap.size w V.drew) := (B0.out.trans (hb1.mono B0.out.size)).drew
  have K1 : Hid (Blk V.drew w.heap.size 25 (mcells ⟨(st : Int), (ev : Int), starts, ars, ends⟩ ⟨a1, c1, a2, c2, a3, c3⟩)) := Blk.drew (K0.out.below hb1 K0.out.lt)
  have R1 : Hid (Blk V.drew (w.heap.size + 1) 25 zcells) := Blk.drew (R0.out.below hb1 R0.out.lt)
  clear hb1 B0 K0 R0
  go_wp2
  refine wp_region_held_drew (S := fun w' => w'.cell? ⟨w.heap.size, 0, none⟩ = some (.int .i64 st) ∧ w'.cell? ⟨w.heap.size, 1, none⟩ = some (.int .i64 ev) ∧ w'.cell? ⟨w.heap.size, 2, none⟩ = some (.slice a1 starts.length c1) ∧ w'.cell? ⟨w.heap.size, 3, none⟩ = some (.slice a2 ars.length c2) ∧ w'.cell? ⟨w.heap.size, 4, none⟩ = some (.slice a3 ends.length c3)) (by kernel_rfl) (mcell_at K1.out) (fun hS0 => ?_)
  revert B1 K1 R1 hS0
  generalize V.drew = Y0
  intro B1 K1 R1 hS0
  refine wpAnyH_take (i := 0) (v := .pointer (some ⟨w.heap.size, 2, none⟩)) rfl (by kernel_rfl) (by kernel_rfl) (by kernel_rfl) (fun _ _ _ h => h) (Or.inl ⟨by kernel_rfl, fun w' hw' => by obtain ⟨q0, q1, q2, q3, q4⟩ := hw'; go_simp⟩) hS0 ?_
  refine wpAnyH_take (i := 1) (v := .slice a1 starts.length c1) rfl (by kernel_rfl) (by kernel_rfl) (by kernel_rfl) (fun _ _ _ h => h) (Or.inl ⟨by kernel_rfl, fun w' hw' => by obtain ⟨q0, q1, q2, q3, q4⟩ := hw'; go_simp⟩) hS0 ?_
  refine wpAnyH_take (i := 3) (v := .pointer (some ⟨w.heap.size, 1, none⟩)) rfl (by kernel_rfl) (by kernel_rfl) (by kernel_rfl) (fun _ _ _ h => h) (Or.inl ⟨by kernel_rfl, fun w' hw' => by obtain ⟨q0, q1, q2, q3, q4⟩ := hw'; go_simp⟩) hS0 ?_
  refine wpAnyH_take (i := 4) (v := .int .i64 ev) rfl (by kernel_rfl) (by kernel_rfl) (by kernel_rfl) (fun _ _ _ h => h) (Or.inl ⟨by kernel_rfl, fun w' hw' => by obtain ⟨q0, q1, q2, q3, q4⟩ := hw'; go_simp⟩) hS0 ?_
  refine wpAnyH_take (i := 5) (v := .agg #[.int .i64 st, .int .i64 ev, .slice a1 starts.length c1, .slice a2 ars.length c2, .slice a3 ends.length c3]) rfl (by kernel_rfl) (by kernel_rfl) (by kernel_rfl) (fun _ _ _ h => h) (Or.inl ⟨by kernel_rfl, fun w' hw' => by obtain ⟨q0, q1, q2, q3, q4⟩ := hw'; go_simp⟩) hS0 ?_
  simp only [Act.put, List.setIfInBounds_toArray]
  refine wpAnyH_ready (rs := [2]) (by kernel_rfl) (by simp) ?_
  refine AllReadyH.cons rfl (fun K' hK' => ?_) AllReadyH.nil
  go_simp
  refine (of_any a1 c1 starts _ (h.out.s.below B1.out (Nat.le_refl _)) hsl.out hsb.out).mono ?_
  rintro e Y1 ⟨rfl, hb1⟩
  have B2 := Hid.of (B1.out.trans (hb1.mono B1.out.size))
  have K2 := Hid.of (K1.out.below hb1 K1.out.lt)
  have R2 := Hid.of (R1.out.below hb1 R1.out.lt)
  refine hK'.out _ _ (mcell_at K2.out) (fun hS1 => ?_)
  clear hK' K' hb1 B1 K1 R1 hS0
  refine wpAnyH_ready (rs := [6]) (by kernel_rfl) (by simp) ?_
  refine AllReadyH.cons rfl (fun K' hK' => ?_) AllReadyH.nil
  go_simp
  refine (leader_go st ev starts ars ends a1 c1 a2 c2 a3 c3 _ (Hid.of (h.out.below B2.out (Nat.le_refl _))) hm hst hev hlen.out (Hid.of (may_arrs hm.out))).mono ?_
  rintro e Y2 ⟨L, rfl, hLD, hLa, hb2⟩
  have B3 := Hid.of (B2.out.trans (hb2.mono B2.out.size))
  have K3 := Hid.of (K2.out.below hb2 K2.out.lt)
  have R3 := Hid.of (R2.out.below hb2 R2.out.lt)
  have HLD := Hid.of hLD
  refine hK'.out _ _ (mcell_at K3.out) (fun hS2 => ?_)
  clear hK' K' hb2 B2 K2 R2 hS1 hLD hLa
  refine wpAnyH_ready (rs := [7]) (by kernel_rfl) (by simp) ?_
  refine AllReadyH.cons rfl (fun K' hK' => ?_) AllReadyH.nil
  go_simp
  refine (find_any0 st ev starts ars ends hm (ofS starts) hrs L _ (Hid.of (hT.out.below B3.out hT.out.lt)) HLD).mono ?_
  intro e Y3 hfp
  unfold FindPost at hfp
  have hY2 : Hid (w.heap.size + 2 ≤ Y2.heap.size) := R3.out.lt
  cases hd : detS ⟨(st : Int), (ev : Int), starts, ars, ends⟩ with
  | none =>
    rw [hd] at hfp
    obtain ⟨rfl, hb3⟩ := hfp
    have HDN := Hid.of (detOut_none hm.out hd)
    have B4 := Hid.of (B3.out.trans (hb3.mono B3.out.size))
    have K4 := Hid.of (K3.out.below hb3 K3.out.lt)
    have R4 := Hid.of (R3.out.below hb3 R3.out.lt)
    refine hK'.out _ _ (mcell_at K4.out) (fun hS3 => ?_)
    clear hK' K' hb3 B3 K3 R3 hS2 hd HLD
    refine wpAnyH_take (i := 8) (v := .tuple #[.slice none 0 0, .slice none 0 0, .bool false]) rfl (by kernel_rfl) (by kernel_rfl) (by kernel_rfl) (fun _ _ _ h => h) (Or.inl ⟨by kernel_rfl, fun w' hw' => by obtain ⟨q0, q1, q2, q3, q4⟩ := hw'; go_simp⟩) hS3 ?_
    refine wpAnyH_take (i := 9) (v := .slice none 0 0) rfl (by kernel_rfl) (by kernel_rfl) (by kernel_rfl) (fun _ _ _ h => h) (Or.inl ⟨by kernel_rfl, fun w' hw' => by obtain ⟨q0, q1, q2, q3, q4⟩ := hw'; go_simp⟩) hS3 ?_
    refine wpAnyH_take (i := 10) (v := .slice none 0 0) rfl (by kernel_rfl) (by kernel_rfl) (by kernel_rfl) (fun _ _ _ h => h) (Or.inl ⟨by kernel_rfl, fun w' hw' => by obtain ⟨q0, q1, q2, q3, q4⟩ := hw'; go_simp⟩) hS3 ?_
    refine wpAnyH_take (i := 11) (v := .bool false) rfl (by kernel_rfl) (by kernel_rfl) (by kernel_rfl) (fun _ _ _ h => h) (Or.inl ⟨by kernel_rfl, fun w' hw' => by obtain ⟨q0, q1, q2, q3, q4⟩ := hw'; go_simp⟩) hS3 ?_
    refine wpAnyH_take (i := 12) (v := .slice none 0 0) rfl (by kernel_rfl) (by kernel_rfl) (by kernel_rfl) (fun _ _ _ h => h) (Or.inl ⟨by kernel_rfl, fun w' hw' => by obtain ⟨q0, q1, q2, q3, q4⟩ := hw'; go_simp⟩) hS3 ?_
    refine wpAnyH_take (i := 13) (v := .slice none 0 0) rfl (by kernel_rfl) (by kernel_rfl) (by kernel_rfl) (fun _ _ _ h => h) (Or.inl ⟨by kernel_rfl, fun w' hw' => by obtain ⟨q0, q1, q2, q3, q4⟩ := hw'; go_simp⟩) hS3 ?_
    refine wpAnyH_take (i := 14) (v := .bool false) rfl (by kernel_rfl) (by kernel_rfl) (by kernel_rfl) (fun _ _ _ h => h) (Or.inl ⟨by kernel_rfl, fun w' hw' => by obtain ⟨q0, q1, q2, q3, q4⟩ := hw'; go_simp⟩) hS3 ?_
    refine wpAnyH_done (by kernel_rfl) ?_ _
    obtain ⟨r0, r1, r2, r3, r4⟩ := zcell_at R4.out
    have rz := R4.out.frozen
    have RR : Hid (Blk _ (w.heap.size + 1) 25 (mcells m0 ml0)) := R4.out.set5 (.int .i64 0) (.int .i64 0) (.slice none 0 0) (.slice none 0 0) (.slice none 0 0)
    simp only [Act.put, List.setIfInBounds_toArray]
    go_wp2
    refine bodyPost_ret (v := .tuple #[mval m0 ml0, .slice none 0 0, .int .i64 1]) ?_ rfl (makePost_err HDN.out (below_set5 B4.out (b' := w.heap.size + 1) (by omega) _ _ _ _ _))
    exact results_three (p := 2) (u := 3) (v := 4) rfl _ _ (w.heap.size + 1) m0 ml0 _ _ rfl rfl rfl RR.out
  | some s =>
    rw [hd] at hfp
    obtain ⟨vs, va, SL, rfl, hRL, hOS, hOA, hb3⟩ := hfp
    have HDN := Hid.of (detOut_some hm.out hd)
    have H256 := Hid.of (detS_di hm.out hd).2
    have D4 : Hid (DB w Y3 ⟨(st : Int), (ev : Int), starts, ars, ends⟩ ⟨a1, c1, a2, c2, a3, c3⟩ vs va SL s.ar) := ⟨B3.out.trans (hb3.mono B3.out.size), K3.out.below hb3 K3.out.lt, R3.out.below hb3 R3.out.lt, ownsRow_low hOS hY2.out, ownsRow_low hOA hY2.out, hT.out.below (B3.out.trans (hb3.mono B3.out.size)) hT.out.lt⟩
    refine hK'.out _ _ (mcell_at D4.out.kb) (fun hS3 => ?_)
    clear hK' K' hb3 B3 K3 R3 hS2 hd hOS hOA HLD
    obtain ⟨va8, vc8, hvs, -, -, -⟩ := own_form2 D4.out.ss
    subst hvs
    obtain ⟨fa, fc, hva, fl1, fl2, fl3⟩ := own_form2 D4.out.ar
    subst hva
    refine wpAnyH_take (i := 8) (v := .tuple #[.slice va8 SL.length vc8, .slice fa s.ar.length fc, .bool true]) rfl (by kernel_rfl) (by kernel_rfl) (by kernel_rfl) (fun _ _ _ h => h) (Or.inl ⟨by kernel_rfl, fun w' hw' => by obtain ⟨q0, q1, q2, q3, q4⟩ := hw'; go_simp⟩) hS3 ?_
    refine wpAnyH_take (i := 9) (v := .slice va8 SL.length vc8) rfl (by kernel_rfl) (by kernel_rfl) (by kernel_rfl) (fun _ _ _ h => h) (Or.inl ⟨by kernel_rfl, fun w' hw' => by obtain ⟨q0, q1, q2, q3, q4⟩ := hw'; go_simp⟩) hS3 ?_
    refine wpAnyH_take (i := 10) (v := .slice fa s.ar.length fc) rfl (by kernel_rfl) (by kernel_rfl) (by kernel_rfl) (fun _ _ _ h => h) (Or.inl ⟨by kernel_rfl, fun w' hw' => by obtain ⟨q0, q1, q2, q3, q4⟩ := hw'; go_simp⟩) hS3 ?_
    refine wpAnyH_take (i := 11) (v := .bool true) rfl (by kernel_rfl) (by kernel_rfl) (by kernel_rfl) (fun _ _ _ h => h) (Or.inl ⟨by kernel_rfl, fun w' hw' => by obtain ⟨q0, q1, q2, q3, q4⟩ := hw'; go_simp⟩) hS3 ?_
    refine wpAnyH_take (i := 12) (v := .slice va8 SL.length vc8) rfl (by kernel_rfl) (by kernel_rfl) (by kernel_rfl) (fun _ _ _ h => h) (Or.inl ⟨by kernel_rfl, fun w' hw' => by obtain ⟨q0, q1, q2, q3, q4⟩ := hw'; go_simp⟩) hS3 ?_
    refine wpAnyH_take (i := 13) (v := .slice fa s.ar.length fc) rfl (by kernel_rfl) (by kernel_rfl) (by kernel_rfl) (fun _ _ _ h => h) (Or.inl ⟨by kernel_rfl, fun w' hw' => by obtain ⟨q0, q1, q2, q3, q4⟩ := hw'; go_simp⟩) hS3 ?_
    refine wpAnyH_take (i := 14) (v := .bool true) rfl (by kernel_rfl) (by kernel_rfl) (by kernel_rfl) (fun _ _ _ h => h) (Or.inl ⟨by kernel_rfl, fun w' hw' => by obtain ⟨q0, q1, q2, q3, q4⟩ := hw'; go_simp⟩) hS3 ?_
    refine wpAnyH_done (by kernel_rfl) ?_ _
    have HRL := Hid.of hRL
    have hSLl : SL.length ≤ 256 := by rw [hRL.len]; exact H256.out
    have hok : Hid (∀ S ∈ SL, okS S) := fun S hS => by
      obtain ⟨j, hj⟩ := List.mem_iff_getElem?.1 hS
      obtain ⟨l', -, q, -⟩ := hRL.rep j S hj
      exact q.ok
    have HME : Hid (detM ⟨(st : Int), (ev : Int), starts, ars, ends⟩ s = ⟨(SL.length : Int), (ev : Int), [0], s.ar, meetFrom (ofS ends) 0 SL⟩) := make_some HRL.out hre.out
    have HSE : Hid (s.sets = SL.map rowS) := HRL.out.map.symm
    clear hRL hS3
    simp only [Act.put, List.setIfInBounds_toArray]
    go_wp2
    have hbd : Below Y3.heap.size Y3 Y3.drew := (Below.refl _ _).drew
    have D := Hid.of (D4.out.below hbd)
    refine wp_region_held_drew (S := fun w' => w'.cell? ⟨w.heap.size, 1, none⟩ = some (.int .i64 ev) ∧ w'.cell? ⟨w.heap.size, 4, none⟩ = some (.slice a3 ends.length c3)) (by kernel_rfl) D4.out.cells (fun hS0 => ?_)
    clear D4 hbd
    revert D hS0
    generalize Y3.drew = Z0
    intro D hS0
    refine wpAnyH_take (i := 0) (v := .slice va8 SL.length vc8) rfl (by kernel_rfl) (by kernel_rfl) (by kernel_rfl) (fun _ _ _ h => h) (Or.inl ⟨by kernel_rfl, fun w' hw' => by obtain ⟨q0, q1⟩ := hw'; go_simp⟩) hS0 ?_
    refine wpAnyH_take (i := 1) (v := .int .i64 SL.length) rfl (by kernel_rfl) (by kernel_rfl) (by kernel_rfl) (fun _ _ _ h => h) (Or.inl ⟨by kernel_rfl, fun w' hw' => by obtain ⟨q0, q1⟩ := hw'; go_simp⟩) hS0 ?_
    refine wpAnyH_take (i := 2) (v := .pointer (some ⟨w.heap.size, 1, none⟩)) rfl (by kernel_rfl) (by kernel_rfl) (by kernel_rfl) (fun _ _ _ h => h) (Or.inl ⟨by kernel_rfl, fun w' hw' => by obtain ⟨q0, q1⟩ := hw'; go_simp⟩) hS0 ?_
    refine wpAnyH_take (i := 3) (v := .int .i64 ev) rfl (by kernel_rfl) (by kernel_rfl) (by kernel_rfl) (fun _ _ _ h => h) (Or.inl ⟨by kernel_rfl, fun w' hw' => by obtain ⟨q0, q1⟩ := hw'; go_simp⟩) hS0 ?_
    refine wpAnyH_take (i := 5) (v := .slice fa s.ar.length fc) rfl (by kernel_rfl) (by kernel_rfl) (by kernel_rfl) (fun _ _ _ h => h) (Or.inl ⟨by kernel_rfl, fun w' hw' => by obtain ⟨q0, q1⟩ := hw'; go_simp⟩) hS0 ?_
    refine wpAnyH_take (i := 6) (v := .slice va8 SL.length vc8) rfl (by kernel_rfl) (by kernel_rfl) (by kernel_rfl) (fun _ _ _ h => h) (Or.inl ⟨by kernel_rfl, fun w' hw' => by obtain ⟨q0, q1⟩ := hw'; go_simp⟩) hS0 ?_
    refine wpAnyH_take (i := 7) (v := .pointer (some ⟨w.heap.size, 4, none⟩)) rfl (by kernel_rfl) (by kernel_rfl) (by kernel_rfl) (fun _ _ _ h => h) (Or.inl ⟨by kernel_rfl, fun w' hw' => by obtain ⟨q0, q1⟩ := hw'; go_simp⟩) hS0 ?_
    refine wpAnyH_take (i := 8) (v := .slice a3 ends.length c3) rfl (by kernel_rfl) (by kernel_rfl) (by kernel_rfl) (fun _ _ _ h => h) (Or.inl ⟨by kernel_rfl, fun w' hw' => by obtain ⟨q0, q1⟩ := hw'; go_simp⟩) hS0 ?_
    refine wpAnyH_take (i := 12) (v := .slice va8 SL.length vc8) rfl (by kernel_rfl) (by kernel_rfl) (by kernel_rfl) (fun _ _ _ h => h) (Or.inl ⟨by kernel_rfl, fun w' hw' => by obtain ⟨q0, q1⟩ := hw'; go_simp⟩) hS0 ?_
    simp only [Act.put, List.setIfInBounds_toArray]
    refine wpAnyH_ready (rs := [4, 9]) (by kernel_rfl) (by simp) ?_
    refine AllReadyH.cons rfl (fun K' hK' => ?_) (AllReadyH.cons rfl (fun K' hK' => ?_) AllReadyH.nil)
    · go_simp
      have hb : Below Z0.heap.size Z0 (Z0.alloc (.cells #[.int .i64 0] 3)) := (Below.refl _ _).alloc (Nat.le_refl _) _
      have D' := Hid.of (D.out.below hb)
      have A4n := Hid.of (at_oneD Z0 0)
      have P4 : Hid (w.heap.size + 2 ≤ Z0.heap.size) := D.out.rb.lt
      refine hK'.out _ _ D'.out.cells (fun hSn => ?_)
      clear hK' K' hb D hS0 
      revert D' A4n hSn
      generalize Z0.alloc (.cells #[.int .i64 0] 3) = Z1
      revert P4
      generalize Z0.heap.size = p
      intro P4 D  A4 hS1
      refine wpAnyH_ready (rs := [9]) (by kernel_rfl) (by simp) ?_
      refine AllReadyH.cons rfl (fun K' hK' => ?_) AllReadyH.nil
      go_simp
      refine (of_any a3 c3 ends _ (h.out.e.below D.out.bel (Nat.le_refl _)) hel.out heb.out).mono ?_
      rintro e Z2 ⟨rfl, hb⟩
      have D' := Hid.of (D.out.below hb)
      have A4' := Hid.of (A4.out.below hb (Nat.le_refl _))
      refine hK'.out _ _ D'.out.cells (fun hS2 => ?_)
      clear hK' K' hb D hS1 A4
      have D := D'
      have A4 := A4'
      clear D' A4'
      refine wpAnyH_ready (rs := [10]) (by kernel_rfl) (by simp) ?_
      refine AllReadyH.cons rfl (fun K' hK' => ?_) AllReadyH.nil
      go_simp
      refine (meeting_any (w.heap.size + 2) _ SL (ofS ends) _ (Hid.of D.out.ss) hSLl hok (Hid.of hre.out.ok)).mono ?_
      rintro e Z3 ⟨ve, rfl, oe, hb⟩
      obtain ⟨ea, ec, rfl, -, -, -, -⟩ := oe.at2
      have En := Hid.of (oe.low (show w.heap.size + 2 ≤ _ from D.out.rb.lt))
      clear oe
      have D' := Hid.of (D.out.below hb)
      have A4' := Hid.of (A4.out.below hb (Nat.le_refl _))
      refine hK'.out _ _ D'.out.cells (fun hS3 => ?_)
      clear hK' K' hb D hS2 A4
      have D := D'
      have A4 := A4'
      have E := En
      clear D' A4' En
      refine wpAnyH_take (i := 11) (v := .agg #[.int .i64 SL.length, .int .i64 ev, .slice (some ⟨p, 0, none⟩) 1 1, .slice fa s.ar.length fc, .slice ea (meetFrom (ofS ends) 0 SL).length ec]) rfl (by kernel_rfl) (by kernel_rfl) (by kernel_rfl) (fun _ _ _ h => h) (Or.inl ⟨by kernel_rfl, fun w' hw' => by obtain ⟨q0, q1⟩ := hw'; go_simp⟩) hS3 ?_
      refine wpAnyH_ready (rs := [13]) (by kernel_rfl) (by simp) ?_
      refine AllReadyH.cons rfl (fun K' hK' => ?_) AllReadyH.nil
      go_simp
      refine (rowsS_any (w.heap.size + 2) _ SL _ (Hid.of D.out.ss) hSLl hok (Hid.of D.out.tab)).mono ?_
      rintro e Z4 ⟨vr, rfl, orr, hb⟩
      obtain ⟨ra, rc, rfl, -, -, -, -⟩ := orr.at
      have RWn := Hid.of (orr.low (show w.heap.size + 2 ≤ _ from D.out.rb.lt))
      clear orr
      have D' := Hid.of (D.out.below hb)
      have A4' := Hid.of (A4.out.below hb (Nat.le_refl _))
      have E' := Hid.of (E.out.keep hb (Nat.le_refl _))
      refine hK'.out _ _ D'.out.cells (fun hS4 => ?_)
      clear hK' K' hb D hS3 A4 E
      have D := D'
      have A4 := A4'
      have E := E'
      have RW := RWn
      clear D' A4' E' RWn
      refine wpAnyH_ready (rs := [14]) (by kernel_rfl) (by simp) ?_
      refine AllReadyH.cons rfl (fun K' hK' => ?_) AllReadyH.nil
      obtain ⟨r0, r1, r2, r3, r4⟩ := zcell_at D.out.rb
      have rz := D.out.rb.frozen
      obtain ⟨xa, xc, xe, xt, x1, x2, x3⟩ := Own.at2 E.out
      cases xe
      obtain ⟨ya, yc, ye, yt, y1, y2, y3⟩ := OwnA.at D.out.ar
      cases ye
      have hMX : MAt Z4 ⟨(SL.length : Int), (ev : Int), [0], s.ar, meetFrom (ofS ends) 0 SL⟩ ⟨some ⟨p, 0, none⟩, 1, fa, fc, ea, ec⟩ := ⟨A4.out, yt, xt, Nat.le_refl _, (show (1 : Nat) ≤ maxLen by decide), (fun h => by cases h), y1, y2, y3, x1, x2, x3⟩
      have hFX : FrM (w.heap.size + 2) ⟨(SL.length : Int), (ev : Int), [0], s.ar, meetFrom (ofS ends) 0 SL⟩ ⟨some ⟨p, 0, none⟩, 1, fa, fc, ea, ec⟩ := ⟨.inr ⟨p, 0, rfl, P4.out⟩, OwnA.fr D.out.ar, Own.fr E.out⟩
      have hLF := Hid.of (dleaf D.out.bel D.out.rb hMX hFX RW.out)
      have hne : w.heap.size ≠ w.heap.size + 1 := by omega
      have KK := ((((D.out.kb.other hne (j := 0) (.int .i64 SL.length)).other hne (j := 1) (.int .i64 ev)).other hne (j := 2) (.slice (some ⟨p, 0, none⟩) 1 1)).other hne (j := 3) (.slice fa s.ar.length fc)).other hne (j := 4) (.slice ea (meetFrom (ofS ends) 0 SL).length ec)
      go_simp
      refine hK'.out _ _ ⟨KK.cell 1 rfl, KK.cell 4 rfl⟩ (fun hSZ => ?_)
      clear hK' K' r0 r1 r2 r3 r4 rz hMX hFX
      refine wpAnyH_take (i := 15) (v := .slice ra (SL.map rowS).length rc) rfl (by kernel_rfl) (by kernel_rfl) (by kernel_rfl) (fun _ _ _ h => h) (Or.inl ⟨by kernel_rfl, fun w' hw' => by obtain ⟨q0, q1⟩ := hw'; go_simp⟩) hSZ ?_
      refine wpAnyH_take (i := 16) (v := .int .i64 0) rfl (by kernel_rfl) (by kernel_rfl) (by kernel_rfl) (fun _ _ _ h => h) (Or.inl ⟨by kernel_rfl, fun w' hw' => by obtain ⟨q0, q1⟩ := hw'; go_simp⟩) hSZ ?_
      refine wpAnyH_done (by kernel_rfl) ?_ _
      clear KK hSZ
      go_wp2
      refine bodyPost_ret (v := .tuple #[mval ⟨(SL.length : Int), (ev : Int), [0], s.ar, meetFrom (ofS ends) 0 SL⟩ ⟨some ⟨p, 0, none⟩, 1, fa, fc, ea, ec⟩, .slice ra SL.length rc, .int .i64 0]) ?_ rfl ?_
      · exact results_three (p := 2) (u := 3) (v := 4) rfl _ _ (w.heap.size + 1) ⟨(SL.length : Int), (ev : Int), [0], s.ar, meetFrom (ofS ends) 0 SL⟩ ⟨some ⟨p, 0, none⟩, 1, fa, fc, ea, ec⟩ _ _ rfl rfl rfl hLF.out.1
      · unfold MakePost
        rw [HDN.out]
        dsimp only
        rw [HME.out, HSE.out]
        obtain ⟨za, zc, ze, zt, z1, z2, z3⟩ := hLF.out.2.2.1.at
        cases ze
        exact ⟨_, _, _, (by rw [List.length_map]), hLF.out.2.1, zt, (by rw [List.length_map]; exact hSLl), hLF.out.2.2.2⟩
    · go_simp
      refine (of_any a3 c3 ends _ (h.out.e.below D.out.bel (Nat.le_refl _)) hel.out heb.out).mono ?_
      rintro e Z1 ⟨rfl, hb⟩
      have D' := Hid.of (D.out.below hb)
      refine hK'.out _ _ D'.out.cells (fun hS1 => ?_)
      clear hK' K' hb D hS0 
      have D := D'
      clear D'
      refine wpAnyH_ready (rs := [4, 10]) (by kernel_rfl) (by simp) ?_
      refine AllReadyH.cons rfl (fun K' hK' => ?_) (AllReadyH.cons rfl (fun K' hK' => ?_) AllReadyH.nil)
      · go_simp
        have hb : Below Z1.heap.size Z1 (Z1.alloc (.cells #[.int .i64 0] 3)) := (Below.refl _ _).alloc (Nat.le_refl _) _
        have D' := Hid.of (D.out.below hb)
        have A4n := Hid.of (at_oneD Z1 0)
        have P4 : Hid (w.heap.size + 2 ≤ Z1.heap.size) := D.out.rb.lt
        refine hK'.out _ _ D'.out.cells (fun hSn => ?_)
        clear hK' K' hb D hS1 
        revert D' A4n hSn
        generalize Z1.alloc (.cells #[.int .i64 0] 3) = Z2
        revert P4
        generalize Z1.heap.size = p
        intro P4 D  A4 hS2
        refine wpAnyH_ready (rs := [10]) (by kernel_rfl) (by simp) ?_
        refine AllReadyH.cons rfl (fun K' hK' => ?_) AllReadyH.nil
        go_simp
        refine (meeting_any (w.heap.size + 2) _ SL (ofS ends) _ (Hid.of D.out.ss) hSLl hok (Hid.of hre.out.ok)).mono ?_
        rintro e Z3 ⟨ve, rfl, oe, hb⟩
        obtain ⟨ea, ec, rfl, -, -, -, -⟩ := oe.at2
        have En := Hid.of (oe.low (show w.heap.size + 2 ≤ _ from D.out.rb.lt))
        clear oe
        have D' := Hid.of (D.out.below hb)
        have A4' := Hid.of (A4.out.below hb (Nat.le_refl _))
        refine hK'.out _ _ D'.out.cells (fun hS3 => ?_)
        clear hK' K' hb D hS2 A4
        have D := D'
        have A4 := A4'
        have E := En
        clear D' A4' En
        refine wpAnyH_take (i := 11) (v := .agg #[.int .i64 SL.length, .int .i64 ev, .slice (some ⟨p, 0, none⟩) 1 1, .slice fa s.ar.length fc, .slice ea (meetFrom (ofS ends) 0 SL).length ec]) rfl (by kernel_rfl) (by kernel_rfl) (by kernel_rfl) (fun _ _ _ h => h) (Or.inl ⟨by kernel_rfl, fun w' hw' => by obtain ⟨q0, q1⟩ := hw'; go_simp⟩) hS3 ?_
        refine wpAnyH_ready (rs := [13]) (by kernel_rfl) (by simp) ?_
        refine AllReadyH.cons rfl (fun K' hK' => ?_) AllReadyH.nil
        go_simp
        refine (rowsS_any (w.heap.size + 2) _ SL _ (Hid.of D.out.ss) hSLl hok (Hid.of D.out.tab)).mono ?_
        rintro e Z4 ⟨vr, rfl, orr, hb⟩
        obtain ⟨ra, rc, rfl, -, -, -, -⟩ := orr.at
        have RWn := Hid.of (orr.low (show w.heap.size + 2 ≤ _ from D.out.rb.lt))
        clear orr
        have D' := Hid.of (D.out.below hb)
        have A4' := Hid.of (A4.out.below hb (Nat.le_refl _))
        have E' := Hid.of (E.out.keep hb (Nat.le_refl _))
        refine hK'.out _ _ D'.out.cells (fun hS4 => ?_)
        clear hK' K' hb D hS3 A4 E
        have D := D'
        have A4 := A4'
        have E := E'
        have RW := RWn
        clear D' A4' E' RWn
        refine wpAnyH_ready (rs := [14]) (by kernel_rfl) (by simp) ?_
        refine AllReadyH.cons rfl (fun K' hK' => ?_) AllReadyH.nil
        obtain ⟨r0, r1, r2, r3, r4⟩ := zcell_at D.out.rb
        have rz := D.out.rb.frozen
        obtain ⟨xa, xc, xe, xt, x1, x2, x3⟩ := Own.at2 E.out
        cases xe
        obtain ⟨ya, yc, ye, yt, y1, y2, y3⟩ := OwnA.at D.out.ar
        cases ye
        have hMX : MAt Z4 ⟨(SL.length : Int), (ev : Int), [0], s.ar, meetFrom (ofS ends) 0 SL⟩ ⟨some ⟨p, 0, none⟩, 1, fa, fc, ea, ec⟩ := ⟨A4.out, yt, xt, Nat.le_refl _, (show (1 : Nat) ≤ maxLen by decide), (fun h => by cases h), y1, y2, y3, x1, x2, x3⟩
        have hFX : FrM (w.heap.size + 2) ⟨(SL.length : Int), (ev : Int), [0], s.ar, meetFrom (ofS ends) 0 SL⟩ ⟨some ⟨p, 0, none⟩, 1, fa, fc, ea, ec⟩ := ⟨.inr ⟨p, 0, rfl, P4.out⟩, OwnA.fr D.out.ar, Own.fr E.out⟩
        have hLF := Hid.of (dleaf D.out.bel D.out.rb hMX hFX RW.out)
        have hne : w.heap.size ≠ w.heap.size + 1 := by omega
        have KK := ((((D.out.kb.other hne (j := 0) (.int .i64 SL.length)).other hne (j := 1) (.int .i64 ev)).other hne (j := 2) (.slice (some ⟨p, 0, none⟩) 1 1)).other hne (j := 3) (.slice fa s.ar.length fc)).other hne (j := 4) (.slice ea (meetFrom (ofS ends) 0 SL).length ec)
        go_simp
        refine hK'.out _ _ ⟨KK.cell 1 rfl, KK.cell 4 rfl⟩ (fun hSZ => ?_)
        clear hK' K' r0 r1 r2 r3 r4 rz hMX hFX
        refine wpAnyH_take (i := 15) (v := .slice ra (SL.map rowS).length rc) rfl (by kernel_rfl) (by kernel_rfl) (by kernel_rfl) (fun _ _ _ h => h) (Or.inl ⟨by kernel_rfl, fun w' hw' => by obtain ⟨q0, q1⟩ := hw'; go_simp⟩) hSZ ?_
        refine wpAnyH_take (i := 16) (v := .int .i64 0) rfl (by kernel_rfl) (by kernel_rfl) (by kernel_rfl) (fun _ _ _ h => h) (Or.inl ⟨by kernel_rfl, fun w' hw' => by obtain ⟨q0, q1⟩ := hw'; go_simp⟩) hSZ ?_
        refine wpAnyH_done (by kernel_rfl) ?_ _
        clear KK hSZ
        go_wp2
        refine bodyPost_ret (v := .tuple #[mval ⟨(SL.length : Int), (ev : Int), [0], s.ar, meetFrom (ofS ends) 0 SL⟩ ⟨some ⟨p, 0, none⟩, 1, fa, fc, ea, ec⟩, .slice ra SL.length rc, .int .i64 0]) ?_ rfl ?_
        · exact results_three (p := 2) (u := 3) (v := 4) rfl _ _ (w.heap.size + 1) ⟨(SL.length : Int), (ev : Int), [0], s.ar, meetFrom (ofS ends) 0 SL⟩ ⟨some ⟨p, 0, none⟩, 1, fa, fc, ea, ec⟩ _ _ rfl rfl rfl hLF.out.1
        · unfold MakePost
          rw [HDN.out]
          dsimp only
          rw [HME.out, HSE.out]
          obtain ⟨za, zc, ze, zt, z1, z2, z3⟩ := hLF.out.2.2.1.at
          cases ze
          exact ⟨_, _, _, (by rw [List.length_map]), hLF.out.2.1, zt, (by rw [List.length_map]; exact hSLl), hLF.out.2.2.2⟩
      · go_simp
        refine (meeting_any (w.heap.size + 2) _ SL (ofS ends) _ (Hid.of D.out.ss) hSLl hok (Hid.of hre.out.ok)).mono ?_
        rintro e Z2 ⟨ve, rfl, oe, hb⟩
        obtain ⟨ea, ec, rfl, -, -, -, -⟩ := oe.at2
        have En := Hid.of (oe.low (show w.heap.size + 2 ≤ _ from D.out.rb.lt))
        clear oe
        have D' := Hid.of (D.out.below hb)
        refine hK'.out _ _ D'.out.cells (fun hS2 => ?_)
        clear hK' K' hb D hS1 
        have D := D'
        have E := En
        clear D' En
        refine wpAnyH_ready (rs := [4, 13]) (by kernel_rfl) (by simp) ?_
        refine AllReadyH.cons rfl (fun K' hK' => ?_) (AllReadyH.cons rfl (fun K' hK' => ?_) AllReadyH.nil)
        · go_simp
          have hb : Below Z2.heap.size Z2 (Z2.alloc (.cells #[.int .i64 0] 3)) := (Below.refl _ _).alloc (Nat.le_refl _) _
          have D' := Hid.of (D.out.below hb)
          have E' := Hid.of (E.out.keep hb (Nat.le_refl _))
          have A4n := Hid.of (at_oneD Z2 0)
          have P4 : Hid (w.heap.size + 2 ≤ Z2.heap.size) := D.out.rb.lt
          refine hK'.out _ _ D'.out.cells (fun hSn => ?_)
          clear hK' K' hb D hS2 E
          revert D' A4n E' hSn
          generalize Z2.alloc (.cells #[.int .i64 0] 3) = Z3
          revert P4
          generalize Z2.heap.size = p
          intro P4 D E A4 hS3
          refine wpAnyH_take (i := 11) (v := .agg #[.int .i64 SL.length, .int .i64 ev, .slice (some ⟨p, 0, none⟩) 1 1, .slice fa s.ar.length fc, .slice ea (meetFrom (ofS ends) 0 SL).length ec]) rfl (by kernel_rfl) (by kernel_rfl) (by kernel_rfl) (fun _ _ _ h => h) (Or.inl ⟨by kernel_rfl, fun w' hw' => by obtain ⟨q0, q1⟩ := hw'; go_simp⟩) hS3 ?_
          refine wpAnyH_ready (rs := [13]) (by kernel_rfl) (by simp) ?_
          refine AllReadyH.cons rfl (fun K' hK' => ?_) AllReadyH.nil
          go_simp
          refine (rowsS_any (w.heap.size + 2) _ SL _ (Hid.of D.out.ss) hSLl hok (Hid.of D.out.tab)).mono ?_
          rintro e Z4 ⟨vr, rfl, orr, hb⟩
          obtain ⟨ra, rc, rfl, -, -, -, -⟩ := orr.at
          have RWn := Hid.of (orr.low (show w.heap.size + 2 ≤ _ from D.out.rb.lt))
          clear orr
          have D' := Hid.of (D.out.below hb)
          have A4' := Hid.of (A4.out.below hb (Nat.le_refl _))
          have E' := Hid.of (E.out.keep hb (Nat.le_refl _))
          refine hK'.out _ _ D'.out.cells (fun hS4 => ?_)
          clear hK' K' hb D hS3 A4 E
          have D := D'
          have A4 := A4'
          have E := E'
          have RW := RWn
          clear D' A4' E' RWn
          refine wpAnyH_ready (rs := [14]) (by kernel_rfl) (by simp) ?_
          refine AllReadyH.cons rfl (fun K' hK' => ?_) AllReadyH.nil
          obtain ⟨r0, r1, r2, r3, r4⟩ := zcell_at D.out.rb
          have rz := D.out.rb.frozen
          obtain ⟨xa, xc, xe, xt, x1, x2, x3⟩ := Own.at2 E.out
          cases xe
          obtain ⟨ya, yc, ye, yt, y1, y2, y3⟩ := OwnA.at D.out.ar
          cases ye
          have hMX : MAt Z4 ⟨(SL.length : Int), (ev : Int), [0], s.ar, meetFrom (ofS ends) 0 SL⟩ ⟨some ⟨p, 0, none⟩, 1, fa, fc, ea, ec⟩ := ⟨A4.out, yt, xt, Nat.le_refl _, (show (1 : Nat) ≤ maxLen by decide), (fun h => by cases h), y1, y2, y3, x1, x2, x3⟩
          have hFX : FrM (w.heap.size + 2) ⟨(SL.length : Int), (ev : Int), [0], s.ar, meetFrom (ofS ends) 0 SL⟩ ⟨some ⟨p, 0, none⟩, 1, fa, fc, ea, ec⟩ := ⟨.inr ⟨p, 0, rfl, P4.out⟩, OwnA.fr D.out.ar, Own.fr E.out⟩
          have hLF := Hid.of (dleaf D.out.bel D.out.rb hMX hFX RW.out)
          have hne : w.heap.size ≠ w.heap.size + 1 := by omega
          have KK := ((((D.out.kb.other hne (j := 0) (.int .i64 SL.length)).other hne (j := 1) (.int .i64 ev)).other hne (j := 2) (.slice (some ⟨p, 0, none⟩) 1 1)).other hne (j := 3) (.slice fa s.ar.length fc)).other hne (j := 4) (.slice ea (meetFrom (ofS ends) 0 SL).length ec)
          go_simp
          refine hK'.out _ _ ⟨KK.cell 1 rfl, KK.cell 4 rfl⟩ (fun hSZ => ?_)
          clear hK' K' r0 r1 r2 r3 r4 rz hMX hFX
          refine wpAnyH_take (i := 15) (v := .slice ra (SL.map rowS).length rc) rfl (by kernel_rfl) (by kernel_rfl) (by kernel_rfl) (fun _ _ _ h => h) (Or.inl ⟨by kernel_rfl, fun w' hw' => by obtain ⟨q0, q1⟩ := hw'; go_simp⟩) hSZ ?_
          refine wpAnyH_take (i := 16) (v := .int .i64 0) rfl (by kernel_rfl) (by kernel_rfl) (by kernel_rfl) (fun _ _ _ h => h) (Or.inl ⟨by kernel_rfl, fun w' hw' => by obtain ⟨q0, q1⟩ := hw'; go_simp⟩) hSZ ?_
          refine wpAnyH_done (by kernel_rfl) ?_ _
          clear KK hSZ
          go_wp2
          refine bodyPost_ret (v := .tuple #[mval ⟨(SL.length : Int), (ev : Int), [0], s.ar, meetFrom (ofS ends) 0 SL⟩ ⟨some ⟨p, 0, none⟩, 1, fa, fc, ea, ec⟩, .slice ra SL.length rc, .int .i64 0]) ?_ rfl ?_
          · exact results_three (p := 2) (u := 3) (v := 4) rfl _ _ (w.heap.size + 1) ⟨(SL.length : Int), (ev : Int), [0], s.ar, meetFrom (ofS ends) 0 SL⟩ ⟨some ⟨p, 0, none⟩, 1, fa, fc, ea, ec⟩ _ _ rfl rfl rfl hLF.out.1
          · unfold MakePost
            rw [HDN.out]
            dsimp only
            rw [HME.out, HSE.out]
            obtain ⟨za, zc, ze, zt, z1, z2, z3⟩ := hLF.out.2.2.1.at
            cases ze
            exact ⟨_, _, _, (by rw [List.length_map]), hLF.out.2.1, zt, (by rw [List.length_map]; exact hSLl), hLF.out.2.2.2⟩
        · go_simp
          refine (rowsS_any (w.heap.size + 2) _ SL _ (Hid.of D.out.ss) hSLl hok (Hid.of D.out.tab)).mono ?_
          rintro e Z3 ⟨vr, rfl, orr, hb⟩
          obtain ⟨ra, rc, rfl, -, -, -, -⟩ := orr.at
          have RWn := Hid.of (orr.low (show w.heap.size + 2 ≤ _ from D.out.rb.lt))
          clear orr
          have D' := Hid.of (D.out.below hb)
          have E' := Hid.of (E.out.keep hb (Nat.le_refl _))
          refine hK'.out _ _ D'.out.cells (fun hS3 => ?_)
          clear hK' K' hb D hS2 E
          have D := D'
          have E := E'
          have RW := RWn
          clear D' E' RWn
          refine wpAnyH_ready (rs := [4]) (by kernel_rfl) (by simp) ?_
          refine AllReadyH.cons rfl (fun K' hK' => ?_) AllReadyH.nil
          go_simp
          have hb : Below Z3.heap.size Z3 (Z3.alloc (.cells #[.int .i64 0] 3)) := (Below.refl _ _).alloc (Nat.le_refl _) _
          have D' := Hid.of (D.out.below hb)
          have E' := Hid.of (E.out.keep hb (Nat.le_refl _))
          have RW' := Hid.of (RW.out.below hb)
          have A4n := Hid.of (at_oneD Z3 0)
          have P4 : Hid (w.heap.size + 2 ≤ Z3.heap.size) := D.out.rb.lt
          refine hK'.out _ _ D'.out.cells (fun hSn => ?_)
          clear hK' K' hb D hS3 E RW
          revert D' A4n E' RW' hSn
          generalize Z3.alloc (.cells #[.int .i64 0] 3) = Z4
          revert P4
          generalize Z3.heap.size = p
          intro P4 D E RW A4 hS4
          refine wpAnyH_take (i := 11) (v := .agg #[.int .i64 SL.length, .int .i64 ev, .slice (some ⟨p, 0, none⟩) 1 1, .slice fa s.ar.length fc, .slice ea (meetFrom (ofS ends) 0 SL).length ec]) rfl (by kernel_rfl) (by kernel_rfl) (by kernel_rfl) (fun _ _ _ h => h) (Or.inl ⟨by kernel_rfl, fun w' hw' => by obtain ⟨q0, q1⟩ := hw'; go_simp⟩) hS4 ?_
          refine wpAnyH_ready (rs := [14]) (by kernel_rfl) (by simp) ?_
          refine AllReadyH.cons rfl (fun K' hK' => ?_) AllReadyH.nil
          obtain ⟨r0, r1, r2, r3, r4⟩ := zcell_at D.out.rb
          have rz := D.out.rb.frozen
          obtain ⟨xa, xc, xe, xt, x1, x2, x3⟩ := Own.at2 E.out
          cases xe
          obtain ⟨ya, yc, ye, yt, y1, y2, y3⟩ := OwnA.at D.out.ar
          cases ye
          have hMX : MAt Z4 ⟨(SL.length : Int), (ev : Int), [0], s.ar, meetFrom (ofS ends) 0 SL⟩ ⟨some ⟨p, 0, none⟩, 1, fa, fc, ea, ec⟩ := ⟨A4.out, yt, xt, Nat.le_refl _, (show (1 : Nat) ≤ maxLen by decide), (fun h => by cases h), y1, y2, y3, x1, x2, x3⟩
          have hFX : FrM (w.heap.size + 2) ⟨(SL.length : Int), (ev : Int), [0], s.ar, meetFrom (ofS ends) 0 SL⟩ ⟨some ⟨p, 0, none⟩, 1, fa, fc, ea, ec⟩ := ⟨.inr ⟨p, 0, rfl, P4.out⟩, OwnA.fr D.out.ar, Own.fr E.out⟩
          have hLF := Hid.of (dleaf D.out.bel D.out.rb hMX hFX RW.out)
          have hne : w.heap.size ≠ w.heap.size + 1 := by omega
          have KK := ((((D.out.kb.other hne (j := 0) (.int .i64 SL.length)).other hne (j := 1) (.int .i64 ev)).other hne (j := 2) (.slice (some ⟨p, 0, none⟩) 1 1)).other hne (j := 3) (.slice fa s.ar.length fc)).other hne (j := 4) (.slice ea (meetFrom (ofS ends) 0 SL).length ec)
          go_simp
          refine hK'.out _ _ ⟨KK.cell 1 rfl, KK.cell 4 rfl⟩ (fun hSZ => ?_)
          clear hK' K' r0 r1 r2 r3 r4 rz hMX hFX
          refine wpAnyH_take (i := 15) (v := .slice ra (SL.map rowS).length rc) rfl (by kernel_rfl) (by kernel_rfl) (by kernel_rfl) (fun _ _ _ h => h) (Or.inl ⟨by kernel_rfl, fun w' hw' => by obtain ⟨q0, q1⟩ := hw'; go_simp⟩) hSZ ?_
          refine wpAnyH_take (i := 16) (v := .int .i64 0) rfl (by kernel_rfl) (by kernel_rfl) (by kernel_rfl) (fun _ _ _ h => h) (Or.inl ⟨by kernel_rfl, fun w' hw' => by obtain ⟨q0, q1⟩ := hw'; go_simp⟩) hSZ ?_
          refine wpAnyH_done (by kernel_rfl) ?_ _
          clear KK hSZ
          go_wp2
          refine bodyPost_ret (v := .tuple #[mval ⟨(SL.length : Int), (ev : Int), [0], s.ar, meetFrom (ofS ends) 0 SL⟩ ⟨some ⟨p, 0, none⟩, 1, fa, fc, ea, ec⟩, .slice ra SL.length rc, .int .i64 0]) ?_ rfl ?_
          · exact results_three (p := 2) (u := 3) (v := 4) rfl _ _ (w.heap.size + 1) ⟨(SL.length : Int), (ev : Int), [0], s.ar, meetFrom (ofS ends) 0 SL⟩ ⟨some ⟨p, 0, none⟩, 1, fa, fc, ea, ec⟩ _ _ rfl rfl rfl hLF.out.1
          · unfold MakePost
            rw [HDN.out]
            dsimp only
            rw [HME.out, HSE.out]
            obtain ⟨za, zc, ze, zt, z1, z2, z3⟩ := hLF.out.2.2.1.at
            cases ze
            exact ⟨_, _, _, (by rw [List.length_map]), hLF.out.2.1, zt, (by rw [List.length_map]; exact hSLl), hLF.out.2.2.2⟩

theorem dMake_any (m : Mach) (l : ML) (w : World) (h : MAt w m l) (hT : Tab w) : Calls Tryd.prog 32 #[mval m l] w fun e w' => MakePost w m e w' := by
  cases hm : mayB m with
  | false => exact dmake_err m l w (Hid.of h) (Hid.of hm)
  | true =>
    have hz := mayB_size hm
    obtain ⟨st, ev, starts, ars, ends⟩ := m
    obtain ⟨a1, c1, a2, c2, a3, c3⟩ := l
    obtain ⟨z1, z2, z3, z4, z5⟩ := hz
    simp only at z1 z2 z3 z4 z5
    obtain ⟨s, rfl⟩ : ∃ s : Nat, st = (s : Int) := ⟨st.toNat, by omega⟩
    obtain ⟨v, rfl⟩ : ∃ v : Nat, ev = (v : Int) := ⟨ev.toNat, by omega⟩
    exact dmake_ok s v starts ars ends a1 c1 a2 c2 a3 c3 w (Hid.of h) (Hid.of hm) (Hid.of hT)

end Go.Proofs.YtcjcjaeaoianfaaDoor
namespace Go.Proofs.YtcjcjaeaoianfaaDoor
open Go.RowKit
set_option linter.unusedVariables false

theorem detB_no1 {m : Mach} (h : mayB m = false) : detB m = false := by unfold detB; rw [h]; rfl
theorem detB_no2 {m : Mach} (h : ¬ m.starts.length = 1) : detB m = false := by unfold detB; simp [h]
theorem detB_no3 {m : Mach} (h : ¬ (m.arrows.length : Int) = m.st * m.ev) : detB m = false := by unfold detB; simp [h]
theorem detB_go {m : Mach} (h1 : mayB m = true) (h2 : m.starts.length = 1) (h3 : (m.arrows.length : Int) = m.st * m.ev) : detB m = goD m.ev 0 (m.arrows.drop 0) := by
  unfold detB; simp [h1, h2, h3]
theorem goD_yes {ev : Int} {ars : List Arr} {k : Nat} {a : Arr} {b : Bool} (h : k < ars.length) (ha : Hid (a = ars[k]?.getD arr0)) (e : Hid (b = goD ev k (ars.drop k))) (hx : a.f * ev + a.e = (k : Int)) : Hid (b = goD ev (k + 1) (ars.drop (k + 1))) := by
  show b = _
  rw [e.out, dropA h, ← ha.out, goD, if_pos hx]
theorem goD_no {ev : Int} {ars : List Arr} {k : Nat} {a : Arr} {b : Bool} (h : k < ars.length) (ha : Hid (a = ars[k]?.getD arr0)) (e : Hid (b = goD ev k (ars.drop k))) (hx : ¬ a.f * ev + a.e = (k : Int)) : false = b := by
  rw [e.out, dropA h, ← ha.out, goD, if_neg hx]
theorem goD_end {ev : Int} {ars : List Arr} {k : Nat} {b : Bool} (h : ¬ k < ars.length) (e : Hid (b = goD ev k (ars.drop k))) : true = b := by
  rw [e.out, List.drop_eq_nil_of_le (by omega)]; rfl

set_option maxRecDepth 100000 in
set_option maxHeartbeats 4000000 in
theorem detIs_any (m : Mach) (l : ML) (w : World) (h : Hid (MAt w m l)) :
    Calls Tryd.prog 31 #[mval m l] w fun e w' => e = .returned (.bool (detB m)) ∧ Below w.heap.size w w' := by
  have B0 : Hid (Below w.heap.size w (w.alloc (.cells (mcells m l) 25))) := (Below.refl _ _).alloc (Nat.le_refl _) _
  have K0 : Hid (Blk (w.alloc (.cells (mcells m l) 25)) w.heap.size 25 (mcells m l)) := Blk.new w _ _
  go_enter Tryd.func31, Tryd.ntmps31
  go_wp2_with fail
  revert B0 K0
  generalize w.alloc (.cells (mcells m l) 25) = V0
  intro B0 K0
  refine (pMay_any m l _ (h.out.below B0.out (Nat.le_refl _))).mono ?_
  rintro e V ⟨rfl, hb1⟩
  have B1 := Hid.of (B0.out.trans (hb1.mono B0.out.size))
  have K1 := Hid.of (K0.out.below hb1 K0.out.lt)
  clear hb1 B0 K0
  cases hm : mayB m with
  | false =>
    have HF := Hid.of (detB_no1 hm)
    clear hm
    go_wp2
    go_ret
    exact ⟨ret_bool HF.out.symm, B1.out⟩
  | true =>
    have hz := mayB_size hm
    have hin := Hid.of (may_arrs hm)
    have hlo := Hid.of h.out.a1
    have HMY := Hid.of hm
    obtain ⟨st, ev, starts, ars, ends⟩ := m
    obtain ⟨a1, c1, a2, c2, a3, c3⟩ := l
    obtain ⟨z1, z2, z3, z4, z5⟩ := hz
    simp only at z1 z2 z3 z4 z5
    obtain ⟨s, rfl⟩ : ∃ s : Nat, st = (s : Int) := ⟨st.toNat, by omega⟩
    obtain ⟨v, rfl⟩ : ∃ v : Nat, ev = (v : Int) := ⟨ev.toNat, by omega⟩
    have hN : s * v ≤ 256 * 8 := Nat.mul_le_mul (by omega) (by omega)
    obtain ⟨N, HN⟩ : ∃ N, Hid (N = s * v) := ⟨_, rfl⟩
    rw [← HN.out] at hN
    have hw0 : IntKind.i64.wrap ((s : Int) * (v : Int)) = (N : Int) := by rw [IntKind.wrap_i64, ← Int.natCast_mul, ← HN.out]; omega
    obtain ⟨x0, x1, x2, x3, x4⟩ := mcell_at K1.out
    dsimp only at x0 x1 x2 x3 x4
    clear hm
    by_cases h1 : starts.length = 1
    · have d1 : ((starts.length : Int) != 1) = false := by rw [h1]; rfl
      have H1 := Hid.of h1
      clear h1
      by_cases h2 : ars.length = N
      · have d2 : ((ars.length : Int) != (N : Int)) = false := by rw [h2]; simp
        have HG : Hid (detB ⟨(s : Int), (v : Int), starts, ars, ends⟩ = goD (v : Int) 0 (ars.drop 0)) := detB_go HMY.out H1.out (by show (ars.length : Int) = (s : Int) * (v : Int); rw [h2, HN.out, Int.natCast_mul])
        have H2 := Hid.of h2
        clear h2
        go_wp2
        go_loopw [28] (fun i wr => ∃ k : Nat, k ≤ ars.length ∧ i = .int .i64 k ∧ Hid (Blk wr w.heap.size 25 (mcells ⟨(s : Int), (v : Int), starts, ars, ends⟩ ⟨a1, c1, a2, c2, a3, c3⟩)) ∧ Hid (Below w.heap.size w wr) ∧ Hid (detB ⟨(s : Int), (v : Int), starts, ars, ends⟩ = goD (v : Int) k (ars.drop k))) (fun i _ => ars.length - (intOf i).toNat)
        case atStart => exact ⟨0, Nat.zero_le _, rfl, K1, B1, HG⟩
        case round =>
          clear x0 x1 x2 x3 x4 K1 B1 HG
          obtain ⟨k, hk, rfl, KB, HB, HE⟩ := hrel
          by_cases hlt : k < ars.length
          · obtain ⟨b, off, rfl, hb, hc⟩ : ∃ b off, a2 = some ⟨b, off, none⟩ ∧ b < w.heap.size ∧ CellsA w b off ars := by
              rcases h.out.a with h0 | ⟨b, off, h0⟩
              · have h0 : ars = [] := h0
                rw [h0] at hlt; simp at hlt
              · exact ⟨b, off, h0⟩
            obtain ⟨a, HA, y1, y2, y3⟩ := hc.at hlt
            replace y1 := (HB.out.cell (p := ⟨b, off + k * 3, none⟩) hb).trans y1
            replace y2 := (HB.out.cell (p := ⟨b, off + k * 3 + 1, none⟩) hb).trans y2
            replace y3 := (HB.out.cell (p := ⟨b, off + k * 3 + 2, none⟩) hb).trans y3
            have hia : arrIn (s : Int) (v : Int) a := by
              have h := HA.out
              rw [List.getElem?_eq_getElem hlt, Option.getD_some] at h
              rw [h]; exact hin.out _ (List.getElem_mem hlt)
            obtain ⟨f, ef⟩ : ∃ f : Nat, a.f = (f : Int) := ⟨a.f.toNat, by omega⟩
            obtain ⟨e, ee⟩ : ∃ e : Nat, a.e = (e : Int) := ⟨a.e.toNat, by omega⟩
            rw [ef] at y1
            rw [ee] at y2
            obtain ⟨q, hq⟩ : ∃ q, q = f * v := ⟨_, rfl⟩
            have hfv : f * v ≤ 256 * 8 := Nat.mul_le_mul (by omega) (by omega)
            have hw1 : IntKind.i64.wrap ((f : Int) * (v : Int)) = (q : Int) := by rw [IntKind.wrap_i64, ← Int.natCast_mul, ← hq]; omega
            have he8 : e ≤ 8 := by omega
            have hq8 : q ≤ 256 * 8 := by omega
            obtain ⟨p, hp⟩ : ∃ p, p = q + e := ⟨_, rfl⟩
            have hw2 : IntKind.i64.wrap ((q : Int) + (e : Int)) = (p : Int) := by rw [IntKind.wrap_i64]; omega
            have HC : Hid (a.f * (v : Int) + a.e = (p : Int)) := by show _ = _; rw [ef, ee, ← Int.natCast_mul, ← hq]; omega
            have z1 : (wr.alloc (.cells #[.int .i64 f, .int .i64 e, .int .i64 a.t] 51)).cell? ⟨w.heap.size, 1, none⟩ = some (.int .i64 v) := (KB.out.alloc _).cell 1 rfl
            have KB' := Hid.of (KB.out.alloc (.cells #[.int .i64 f, .int .i64 e, .int .i64 a.t] 51))
            have HB' := Hid.of (HB.out.alloc HB.out.size (.cells #[.int .i64 f, .int .i64 e, .int .i64 a.t] 51))
            clear hq hp hia ef ee hfv KB HB
            by_cases hpk : p = k
            · have d3 : ((p : Int) != (k : Int)) = false := by rw [hpk]; simp
              have HY := goD_yes hlt HA HE (by rw [HC.out, hpk])
              clear hpk
              go_wp2
              go_roundw
              case rel => exact ⟨k + 1, by omega, by go_num, KB', HB', HY⟩
              case measure => simp [intOf]; omega
            · have d3 : ((p : Int) != (k : Int)) = true := by rw [bne_iff_ne]; omega
              have HY := Hid.of (goD_no hlt HA HE (by rw [HC.out]; omega))
              clear hpk
              go_wp2
              go_ret
              exact ⟨ret_bool HY.out, HB'.out⟩
          · go_wp2
            go_ret
            exact ⟨ret_bool (goD_end hlt HE), HB.out⟩
      · have d2 : ((ars.length : Int) != (N : Int)) = true := by rw [bne_iff_ne]; omega
        have HF : Hid (detB ⟨(s : Int), (v : Int), starts, ars, ends⟩ = false) := detB_no3 (by show ¬ (ars.length : Int) = (s : Int) * (v : Int); rw [← Int.natCast_mul, ← HN.out]; omega)
        clear h2
        go_wp2
        go_ret
        exact ⟨ret_bool HF.out.symm, B1.out⟩
    · have d1 : ((starts.length : Int) != 1) = true := by rw [bne_iff_ne]; omega
      have HF : Hid (detB ⟨(s : Int), (v : Int), starts, ars, ends⟩ = false) := detB_no2 h1
      clear h1
      go_wp2
      go_ret
      exact ⟨ret_bool HF.out.symm, B1.out⟩

end Go.Proofs.YtcjcjaeaoianfaaDoor
