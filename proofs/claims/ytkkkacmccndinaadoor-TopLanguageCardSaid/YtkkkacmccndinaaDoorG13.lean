/-
  The walk of Set.Row: the row of a set's numbers.
  Set.Row once more: the row is in memory of its own.
  What the walk of jalousieref5.Hide knows of the memory; how many arrows there may be.
  What the walk of jalousieref6.Make knows of the memory.
  Plain: the machine of sets: how its sets are found, in the reference's order; what is determined. No program, no model.
-/
import Derived.Test.YtkkkacmccndinaaDoorCSetIter
import Derived.Test.YtkkkacmccndinaaDoorG05
import Derived.Test.YtkkkacmccndinaaDoorG08
import Derived.Test.YtkkkacmccndinaaDoorG07
import Derived.Test.YtkkkacmccndinaaDoorG06
namespace Go.Proofs.YtkkkacmccndinaaDoor
open Go.RowKit Go.Shelf
set_option linter.unusedVariables false
attribute [local go_sem] Oper.semAt_some

/-- A set's numbers, each with a bound. -/
theorem nb_of {N : Nat} : ∀ (l : List Nat), (∀ k ∈ l, k < N) → ∃ xs : List (NB N), xs.map (·.1) = l
  | [], _ => ⟨[], rfl⟩
  | a :: r, h => by
    obtain ⟨xs, hx⟩ := nb_of r (fun k hk => h k (by simp [hk]))
    exact ⟨⟨a, h a (by simp)⟩ :: xs, by simp [hx]⟩

def nbInts {N : Nat} (pre : List (NB N)) : List Int := pre.map fun x => (x.1 : Int)
theorem nbInts_snoc {N : Nat} (pre : List (NB N)) (x : NB N) : nbInts (pre ++ [x]) = nbInts pre ++ [(x.1 : Int)] := by simp [nbInts]
theorem nbInts_len {N : Nat} (pre : List (NB N)) : (nbInts pre).length = pre.length := by simp [nbInts]

set_option maxRecDepth 100000 in
set_option maxHeartbeats 4000000 in
theorem row_in (S : Nat → Nat) (hS : okS S) (w : World) (hT : Tab w) :
    CallsIn Fence.wide 5 Tryd.prog 45 #[sval S] w fun e W' => Gives w (rowS S) e W' := by
  obtain ⟨i0, hi, hz0, hz1, hz2⟩ := info_parts Tryd.infoInt
  obtain ⟨xs, hxs⟩ := nb_of (N := 256) (allS S) (fun k hk => ((mem_allS S k).1 hk).1)
  have hlen : xs.length ≤ 256 := by have := allS_len S; rw [← hxs, List.length_map] at this; exact this
  have hrow : nbInts xs = rowS S := by unfold nbInts rowS; rw [← hxs, List.map_map]; rfl
  refine callsIn_of_wp_marks Tryd.func45 rfl trivial ?_ rfl
  simp only [Tryd.ntmps45, List.size_toArray, List.length_cons, List.length_nil, Nat.reduceAdd, Nat.reduceSub, Array.replicate_succ, Array.replicate_zero, List.push_toArray, List.append_toArray, List.nil_append, List.cons_append]
  gi_wp2_with (refine ⟨trivial, ?_⟩; refine CallsIn.mono (callsIn_wide.2 (all_any S _)) ?_; rintro e w1 ⟨rfl, rfl⟩)
  have bO : Boxed (((w.alloc (.cells (scells S) 58)).alloc (.cells #[.slice none 0 0] 22)).alloc (.cells (scells S) 58)) (w.heap.size + 1) 22 (.slice none 0 0) := by
    have := (Boxed.new (w.alloc (.cells (scells S) 58)) 22 (.slice none 0 0)).alloc (.cells (scells S) 58)
    rwa [World.size_alloc] at this
  have bN : SB (((w.alloc (.cells (scells S) 58)).alloc (.cells #[.slice none 0 0] 22)).alloc (.cells (scells S) 58)) (w.heap.size + 1 + 1) S := by
    have := Blk.new ((w.alloc (.cells (scells S) 58)).alloc (.cells #[.slice none 0 0] 22)) 58 (scells S)
    rwa [World.size_alloc, World.size_alloc] at this
  have hB0 : Below w.heap.size w (((w.alloc (.cells (scells S) 58)).alloc (.cells #[.slice none 0 0] 22)).alloc (.cells (scells S) 58)) := (((Below.refl _ w).alloc (Nat.le_refl _) _).alloc (by simp) _).alloc (by simp; omega) _
  have hsz : (((w.alloc (.cells (scells S) 58)).alloc (.cells #[.slice none 0 0] 22)).alloc (.cells (scells S) 58)).heap.size = w.heap.size + 3 := by simp
  have hT0 := hT.below hB0 hT.lt
  revert bO bN hB0 hsz hT0
  generalize ((w.alloc (.cells (scells S) 58)).alloc (.cells #[.slice none 0 0] 22)).alloc (.cells (scells S) 58) = W0
  intro bO bN hB0 hsz hT0
  refine wpIn_rangeFunc_ownG rfl (by omega) (gf := 108) (lb := #[.pointer (some ⟨w.heap.size + 1 + 1, 0, none⟩)]) rfl trivial (enters_of Tryd.func108 (by kernel_rfl) rfl)
    (all_stops 4 (by omega) (w.heap.size + 1 + 1) w.heap.size S hS xs hxs hT.lt W0 (by omega) bN hT0) belowK_t (belowK_b (by omega)) (Below.refl _ _) (fun _ => rfl)
    (fun pre W => (∃ v, Boxed W (w.heap.size + 1) 22 v ∧ W.ownsRow w.heap.size 3 1 v (nbInts pre).length ((nbInts pre).map (Value.int .i64)) ∧ True) ∧ Below w.heap.size w W)
    (fun _ _ _ => False)
    (OwnFrom.and (Go.Own.from (holdsRow_own w.heap.size (w.heap.size + 1) 22 3 1 (fun pre : List (NB 256) => (nbInts pre).length) (fun pre => (nbInts pre).map (Value.int .i64)) (fun _ _ => True)) _) (ownFrom_below (Nat.le_refl _) (by omega)))
    (fun _ _ _ _ _ hs _ _ => hs)
    ⟨⟨_, bO, World.ownsRow_nil _ _ _ _, trivial⟩, hB0⟩
    (fun x => { tmps := #[sval S, .pointer (some ⟨w.heap.size, 0, none⟩), .slice none 0 0, .pointer (some ⟨w.heap.size + 1, 0, none⟩), .int .i64 (x.1 : Int), sval S, .func (.func 108) #[] #[.pointer (some ⟨w.heap.size + 1 + 1, 0, none⟩)], .int .i64 (x.1 : Int), undef, undef, undef, undef, undef], defers := [] }) ?assign ?body ?done ?stop
  case assign =>
    intro l x W K hK
    gi_wp2
    exact hK
  case body =>
    rintro l pre x W ⟨⟨v, hv, hrw, -⟩, hB⟩ hlt
    have hc := hv.cell
    have hpl := nbInts_len pre
    have HL := Hid.of hpl
    have hl2 : (nbInts pre).length ≤ 256 := by omega
    clear hpl
    gi_wp2_with (gi_at_builtin; refine wpListIn_append_own _ rfl _ _ 22 rfl w.heap.size 3 i0 (.int .i64 0) 1 8 Tryd.underlying22 hi hz0 hz1 hz2 rfl (by decide) _ _ _ rfl (hrw.alloc _) ⟨W.heap.size, 0, none⟩ 1 1 [.int .i64 (x.1 : Int)] rfl rfl (cell_one_new _ _ _) (by simp [Value.oneCell']) (by unfold maxLen; omega) (by omega) (by have := hB.size; simp; omega) ?_; intro v' w1 hown' hgrow _; obtain ⟨g', cap', rfl⟩ := ownsRow_succ hown'; obtain ⟨hv1, hv2, hr2, hk2, hb2⟩ := hv.appended (by decide) hrw hB.size (by omega) hown' hgrow; have hc1 := hv1.cell; have hf1 := hv1.frozen)
    exact ⟨hk2.from _, hb2, ⟨_, hv2, by rw [nbInts_snoc]; simpa using hr2, trivial⟩, hB.trans hb2⟩
  case done =>
    rintro D ys W hD rfl ⟨⟨v, hv, hrw, -⟩, hB⟩ hK
    have hc := hv.cell
    rw [hrow] at hrw
    gi_wp2
    refine ⟨by simp, .inl ⟨_, _, rfl, run_takeDeferred hK, ?_⟩⟩
    refine ⟨_, results_tmp rfl _ _ _, ?_⟩
    exact gives_of_own (B := w.heap.size) (show Own _ _ v (rowS S) from ownsRow_putObj hrw _ hK rfl) (hB.trans (belowK_b (w := w) (Nat.le_refl _) W D _ _ (by omega) hK rfl rfl))
  case stop =>
    rintro D c pre W _ _ h _
    exact h.elim

theorem row_any (S : Nat → Nat) (w : World) (hS : okS S) (hT : Tab w) : Calls Tryd.prog 45 #[sval S] w fun e W' => Gives w (rowS S) e W' :=
  callsIn_wide.1 (row_in S hS w hT)

end Go.Proofs.YtkkkacmccndinaaDoor
namespace Go.Proofs.YtkkkacmccndinaaDoor
open Go.RowKit Go.Shelf
set_option linter.unusedVariables false
attribute [local go_sem] Oper.semAt_some

set_option maxRecDepth 100000 in
set_option maxHeartbeats 4000000 in
theorem rowO_in (S : Nat → Nat) (hS : okS S) (w : World) (hT : Tab w) :
    CallsIn Fence.wide 5 Tryd.prog 45 #[sval S] w fun e W' => GivesO w (rowS S) e W' := by
  obtain ⟨i0, hi, hz0, hz1, hz2⟩ := info_parts Tryd.infoInt
  obtain ⟨xs, hxs⟩ := nb_of (N := 256) (allS S) (fun k hk => ((mem_allS S k).1 hk).1)
  have hlen : xs.length ≤ 256 := by have := allS_len S; rw [← hxs, List.length_map] at this; exact this
  have hrow : nbInts xs = rowS S := by unfold nbInts rowS; rw [← hxs, List.map_map]; rfl
  refine callsIn_of_wp_marks Tryd.func45 rfl trivial ?_ rfl
  simp only [Tryd.ntmps45, List.size_toArray, List.length_cons, List.length_nil, Nat.reduceAdd, Nat.reduceSub, Array.replicate_succ, Array.replicate_zero, List.push_toArray, List.append_toArray, List.nil_append, List.cons_append]
  gi_wp2_with (refine ⟨trivial, ?_⟩; refine CallsIn.mono (callsIn_wide.2 (all_any S _)) ?_; rintro e w1 ⟨rfl, rfl⟩)
  have bO : Boxed (((w.alloc (.cells (scells S) 58)).alloc (.cells #[.slice none 0 0] 22)).alloc (.cells (scells S) 58)) (w.heap.size + 1) 22 (.slice none 0 0) := by
    have := (Boxed.new (w.alloc (.cells (scells S) 58)) 22 (.slice none 0 0)).alloc (.cells (scells S) 58)
    rwa [World.size_alloc] at this
  have bN : SB (((w.alloc (.cells (scells S) 58)).alloc (.cells #[.slice none 0 0] 22)).alloc (.cells (scells S) 58)) (w.heap.size + 1 + 1) S := by
    have := Blk.new ((w.alloc (.cells (scells S) 58)).alloc (.cells #[.slice none 0 0] 22)) 58 (scells S)
    rwa [World.size_alloc, World.size_alloc] at this
  have hB0 : Below w.heap.size w (((w.alloc (.cells (scells S) 58)).alloc (.cells #[.slice none 0 0] 22)).alloc (.cells (scells S) 58)) := (((Below.refl _ w).alloc (Nat.le_refl _) _).alloc (by simp) _).alloc (by simp; omega) _
  have hsz : (((w.alloc (.cells (scells S) 58)).alloc (.cells #[.slice none 0 0] 22)).alloc (.cells (scells S) 58)).heap.size = w.heap.size + 3 := by simp
  have hT0 := hT.below hB0 hT.lt
  revert bO bN hB0 hsz hT0
  generalize ((w.alloc (.cells (scells S) 58)).alloc (.cells #[.slice none 0 0] 22)).alloc (.cells (scells S) 58) = W0
  intro bO bN hB0 hsz hT0
  refine wpIn_rangeFunc_ownG rfl (by omega) (gf := 108) (lb := #[.pointer (some ⟨w.heap.size + 1 + 1, 0, none⟩)]) rfl trivial (enters_of Tryd.func108 (by kernel_rfl) rfl)
    (all_stops 4 (by omega) (w.heap.size + 1 + 1) w.heap.size S hS xs hxs hT.lt W0 (by omega) bN hT0) belowK_t (belowK_b (by omega)) (Below.refl _ _) (fun _ => rfl)
    (fun pre W => (∃ v, Boxed W (w.heap.size + 1) 22 v ∧ W.ownsRow w.heap.size 3 1 v (nbInts pre).length ((nbInts pre).map (Value.int .i64)) ∧ True) ∧ Below w.heap.size w W)
    (fun _ _ _ => False)
    (OwnFrom.and (Go.Own.from (holdsRow_own w.heap.size (w.heap.size + 1) 22 3 1 (fun pre : List (NB 256) => (nbInts pre).length) (fun pre => (nbInts pre).map (Value.int .i64)) (fun _ _ => True)) _) (ownFrom_below (Nat.le_refl _) (by omega)))
    (fun _ _ _ _ _ hs _ _ => hs)
    ⟨⟨_, bO, World.ownsRow_nil _ _ _ _, trivial⟩, hB0⟩
    (fun x => { tmps := #[sval S, .pointer (some ⟨w.heap.size, 0, none⟩), .slice none 0 0, .pointer (some ⟨w.heap.size + 1, 0, none⟩), .int .i64 (x.1 : Int), sval S, .func (.func 108) #[] #[.pointer (some ⟨w.heap.size + 1 + 1, 0, none⟩)], .int .i64 (x.1 : Int), undef, undef, undef, undef, undef], defers := [] }) ?assign ?body ?done ?stop
  case assign =>
    intro l x W K hK
    gi_wp2
    exact hK
  case body =>
    rintro l pre x W ⟨⟨v, hv, hrw, -⟩, hB⟩ hlt
    have hc := hv.cell
    have hpl := nbInts_len pre
    have HL := Hid.of hpl
    have hl2 : (nbInts pre).length ≤ 256 := by omega
    clear hpl
    gi_wp2_with (gi_at_builtin; refine wpListIn_append_own _ rfl _ _ 22 rfl w.heap.size 3 i0 (.int .i64 0) 1 8 Tryd.underlying22 hi hz0 hz1 hz2 rfl (by decide) _ _ _ rfl (hrw.alloc _) ⟨W.heap.size, 0, none⟩ 1 1 [.int .i64 (x.1 : Int)] rfl rfl (cell_one_new _ _ _) (by simp [Value.oneCell']) (by unfold maxLen; omega) (by omega) (by have := hB.size; simp; omega) ?_; intro v' w1 hown' hgrow _; obtain ⟨g', cap', rfl⟩ := ownsRow_succ hown'; obtain ⟨hv1, hv2, hr2, hk2, hb2⟩ := hv.appended (by decide) hrw hB.size (by omega) hown' hgrow; have hc1 := hv1.cell; have hf1 := hv1.frozen)
    exact ⟨hk2.from _, hb2, ⟨_, hv2, by rw [nbInts_snoc]; simpa using hr2, trivial⟩, hB.trans hb2⟩
  case done =>
    rintro D ys W hD rfl ⟨⟨v, hv, hrw, -⟩, hB⟩ hK
    have hc := hv.cell
    rw [hrow] at hrw
    gi_wp2
    refine ⟨by simp, .inl ⟨_, _, rfl, run_takeDeferred hK, ?_⟩⟩
    refine ⟨_, results_tmp rfl _ _ _, ?_⟩
    exact ⟨v, rfl, (show Own _ _ v (rowS S) from ownsRow_putObj hrw _ hK rfl), hB.trans (belowK_b (w := w) (Nat.le_refl _) W D _ _ (by omega) hK rfl rfl)⟩
  case stop =>
    rintro D c pre W _ _ h _
    exact h.elim

theorem rowO_any (S : Nat → Nat) (w : World) (hS : okS S) (hT : Tab w) : Calls Tryd.prog 45 #[sval S] w fun e W' => GivesO w (rowS S) e W' :=
  callsIn_wide.1 (rowO_in S hS w hT)

end Go.Proofs.YtkkkacmccndinaaDoor
namespace Go.Proofs.YtkkkacmccndinaaDoor
open Go.RowKit
set_option linter.unusedVariables false

theorem wide_len {m : Mach} (hm : mayB m = true) {seen ss : List Int} (hs : ∀ x ∈ ss, 0 ≤ x ∧ x < m.st) : (wideL m.arrows seen ss).length ≤ 256 := by
  have h2 := mayB_size hm
  unfold sizeOk at h2
  refine nodup_len 256 _ (inc_nodup (inc_wide _ _ _)) (fun x hx => ?_)
  have := wide_bd hm hs x hx
  omega
theorem hRow_len {m : Mach} (hm : mayB m = true) (seen : List Int) (f k : Nat) : (hRow m seen f k).length ≤ 256 := by
  unfold hRow; rw [List.length_map]; exact wide_len hm (step_bd hm)
theorem hFrom_succ (m : Mach) (seen : List Int) (f k : Nat) : hFrom m seen f (k + 1) = hFrom m seen f k ++ hRow m seen f k := by
  unfold hFrom; rw [List.range_succ, List.flatMap_append]; simp
theorem hAll_succ (m : Mach) (seen : List Int) (f : Nat) : hAll m seen (f + 1) = hAll m seen f ++ hFrom m seen f seen.length := by
  unfold hAll; rw [List.range_succ, List.flatMap_append]; simp
theorem hFrom_len {m : Mach} (hm : mayB m = true) (seen : List Int) (f : Nat) : ∀ k, (hFrom m seen f k).length ≤ k * 256
  | 0 => by simp [hFrom]
  | k + 1 => by
    rw [hFrom_succ, List.length_append]
    have := hFrom_len hm seen f k
    have := hRow_len hm seen f k
    omega
theorem hAll_len {m : Mach} (hm : mayB m = true) (seen : List Int) (h8 : seen.length ≤ 8) : ∀ f, (hAll m seen f).length ≤ f * 2048
  | 0 => by simp [hAll]
  | f + 1 => by
    rw [hAll_succ, List.length_append]
    have := hAll_len hm seen h8 f
    have := hFrom_len hm seen f seen.length
    omega

/-- The cells of the machine that is being made. -/
abbrev ncells (st : Int) (K : Nat) (vs va : Value) (a3 : Option Addr) (n c3 : Nat) : Array Value := #[.int .i64 st, .int .i64 K, vs, va, .slice a3 n c3]
/-- What Hide knows of the memory. -/
structure HN (w W : World) (B bm : Nat) (m : Mach) (l : ML) (K : Nat) (vs va : Value) (S : List Int) (A : List Arr) : Prop where
  bel : Below w.heap.size w W
  kb : Blk W w.heap.size 25 (mcells m l)
  rb : Blk W (w.heap.size + 1) 25 zcells
  nb : Blk W bm 25 (ncells m.st K vs va l.a3 m.ends.length l.c3)
  st : Own W B vs S
  ar : OwnA W B va A
  lo : w.heap.size + 1 < bm
  lB : bm < B
  hB : B ≤ W.heap.size
section
variable {w W : World} {B bm : Nat} {m : Mach} {l : ML} {K : Nat} {vs va : Value} {S : List Int} {A : List Arr}
theorem Own.keep {w w' : World} {B B' : Nat} {v : Value} {L : List Int} (h : Own w B v L) (hb : Below B' w w') (hB : w.heap.size ≤ B') : Own w' B v L :=
  own_same h (fun k hk => hb.block k (Nat.lt_of_lt_of_le (World.ownsRow.lt h k hk).2 hB))
theorem HN.below {W' : World} (h : HN w W B bm m l K vs va S A) (hb : Below W.heap.size W W') : HN w W' B bm m l K vs va S A :=
  ⟨h.bel.trans (hb.mono h.bel.size), h.kb.below hb h.kb.lt, h.rb.below hb h.rb.lt, h.nb.below hb h.nb.lt, h.st.keep hb (Nat.le_refl _), h.ar.kept hb (Nat.le_refl _), h.lo, h.lB, Nat.le_trans h.hB hb.size⟩
theorem HN.push {W2 W3 : World} {va' : Value} {x : Arr} (h : HN w W B bm m l K vs va S A) (hW3 : Below W.heap.size W W3) (o1 : OwnA W2 B va' (A ++ [x])) (g : W3.grownBy W2 va.ownBlock) :
    Blk W2 bm 25 (ncells m.st K vs va l.a3 m.ends.length l.c3) ∧ HN w (W2.setCell ⟨bm, 3, none⟩ va') B bm m l K vs va' S (A ++ [x]) ∧ ∀ vl L, Own W B vl L → Own (W2.setCell ⟨bm, 3, none⟩ va') B vl L := by
  have h3 := h.below hW3
  have lo := h.lo
  have lB := h.lB
  have low : ∀ j, j < B → W2.heap[j]? = W3.heap[j]? := fun j hj => g.block j (Nat.lt_of_lt_of_le hj h3.hB) (fun e => by have := (World.ownsRow.lt h3.ar j e.symm).1; omega)
  have nb2 : Blk W2 bm 25 (ncells m.st K vs va l.a3 m.ends.length l.c3) := (low bm lB).trans h3.nb
  have ints : ∀ vl L, Own W B vl L → Own (W2.setCell ⟨bm, 3, none⟩ va') B vl L := fun vl L hl => by
    have hl3 := hl.keep hW3 (Nat.le_refl _)
    refine own_same hl3 (fun k hk => ?_)
    have hk1 := World.ownsRow.lt hl3 k hk
    rw [Below.heap_setCell _ _ _ _ (show k ≠ bm by omega), g.block k hk1.2 (fun e => ?_)]
    rcases own_apart h3.ar hl3 (by decide) with r | r
    · rw [r] at e; cases e
    · exact r (e.symm.trans hk.symm)
  refine ⟨nb2, ⟨?_, ?_, ?_, nb2.set 3 va', ints vs S h.st, ownsRow_set o1 lB va', lo, lB, ?_⟩, ints⟩
  · exact (h3.bel.grown g h3.bel.size (fun j hj => Nat.le_trans (by omega) (World.ownsRow.lt h3.ar j hj).1)).setCell (p := ⟨bm, 3, none⟩) (show w.heap.size ≤ bm by omega) _
  · exact Blk.other ((low _ (by omega)).trans h3.kb) (by omega) _
  · exact Blk.other ((low _ (by omega)).trans h3.rb) (by omega) _
  · have := g.size
    have := h3.hB
    simp [World.setCell]; omega
theorem HN.mcells (h : HN w W B bm m l K vs va S A) : W.cell? ⟨w.heap.size, 0, none⟩ = some (.int .i64 m.st) ∧ W.cell? ⟨w.heap.size, 1, none⟩ = some (.int .i64 m.ev) ∧ W.cell? ⟨w.heap.size, 2, none⟩ = some (.slice l.a1 m.starts.length l.c1) ∧ W.cell? ⟨w.heap.size, 3, none⟩ = some (.slice l.a2 m.arrows.length l.c2) ∧ W.cell? ⟨w.heap.size, 4, none⟩ = some (.slice l.a3 m.ends.length l.c3) :=
  ⟨h.kb.cell 0 rfl, h.kb.cell 1 rfl, h.kb.cell 2 rfl, h.kb.cell 3 rfl, h.kb.cell 4 rfl⟩
end

end Go.Proofs.YtkkkacmccndinaaDoor
namespace Go.Proofs.YtkkkacmccndinaaDoor
open Go.RowKit
set_option linter.unusedVariables false

/-- The cells of the machine that is being made. -/
abbrev rcells (st : Int) (ev : Int) (b0 : Nat) (va ve : Value) : Array Value := #[.int .i64 st, .int .i64 ev, .slice (some ⟨b0, 0, none⟩) 1 1, va, ve]
/-- What Make knows of the memory while sets are found. -/
structure RN (w W : World) (b0 : Nat) (m : Mach) (l : ML) (v6 va : Value) (LL : List (List Int)) (A : List Arr) : Prop where
  bel : Below w.heap.size w W
  kb : Blk W w.heap.size 25 (mcells m l)
  rb : Blk W (w.heap.size + 1) 25 zcells
  s0 : Blk W b0 3 #[.int .i64 0]
  nb : Blk W (b0 + 1) 25 (rcells 0 m.ev b0 va (.slice none 0 0))
  ss : OwnN w.heap.size W (b0 + 2) v6 LL
  ar : OwnA W (b0 + 2) va A
  lo : w.heap.size + 1 < b0
  hB : b0 + 2 ≤ W.heap.size
section
variable {w W : World} {b0 : Nat} {m : Mach} {l : ML} {v6 va : Value} {LL : List (List Int)} {A : List Arr}
theorem RN.below {W' : World} (h : RN w W b0 m l v6 va LL A) (hb : Below W.heap.size W W') : RN w W' b0 m l v6 va LL A :=
  ⟨h.bel.trans (hb.mono h.bel.size), h.kb.below hb h.kb.lt, h.rb.below hb h.rb.lt, h.s0.below hb h.s0.lt, h.nb.below hb h.nb.lt, h.ss.below hb h.bel.size, h.ar.kept hb (Nat.le_refl _), h.lo, Nat.le_trans h.hB hb.size⟩
theorem RN.mcells (h : RN w W b0 m l v6 va LL A) : W.cell? ⟨w.heap.size, 0, none⟩ = some (.int .i64 m.st) ∧ W.cell? ⟨w.heap.size, 1, none⟩ = some (.int .i64 m.ev) ∧ W.cell? ⟨w.heap.size, 2, none⟩ = some (.slice l.a1 m.starts.length l.c1) ∧ W.cell? ⟨w.heap.size, 3, none⟩ = some (.slice l.a2 m.arrows.length l.c2) ∧ W.cell? ⟨w.heap.size, 4, none⟩ = some (.slice l.a3 m.ends.length l.c3) :=
  ⟨h.kb.cell 0 rfl, h.kb.cell 1 rfl, h.kb.cell 2 rfl, h.kb.cell 3 rfl, h.kb.cell 4 rfl⟩
/-- One set more. -/
theorem RN.pushS {W2 W3 : World} {v6' x : Value} {xs : List Int} {vs : List Value} (h : RN w W b0 m l v6 va LL A) (hW3 : Below W.heap.size W W3) (ho : W3.ownsRow (b0 + 2) 22 1 v6 LL.length vs) (hi : ∀ (j : Nat) (x : Value) (xs : List Int), vs[j]? = some x → LL[j]? = some xs → InnN w.heap.size W3 x xs) (hx : InnN w.heap.size W3 x xs) (o1 : W2.ownsRow (b0 + 2) 22 1 v6' (LL.length + 1) (vs ++ [x])) (g : W3.grownBy W2 v6.ownBlock) :
    RN w W2 b0 m l v6' va (LL ++ [xs]) A := by
  have h3 := h.below hW3
  have lo := h.lo
  have low : ∀ j, j < b0 + 2 → W2.heap[j]? = W3.heap[j]? := fun j hj => g.block j (Nat.lt_of_lt_of_le hj h3.hB) (fun e => by have := (World.ownsRow.lt ho j e.symm).1; omega)
  have hty : ∀ (q : Nat) (cs : Array Value) (t : TypeId), t ≠ 22 → W3.heap[q]? = some (.cells cs t (0, 0)) → W2.heap[q]? = W3.heap[q]? := fun q cs t ht hq => g.block q (Array.getElem?_eq_some_iff.1 hq).1 (fun e => by
    obtain ⟨c2, h2⟩ := own_type ho e.symm
    rw [hq] at h2; cases h2; exact ht rfl)
  have kp : ∀ {y : Value} {ys : List Int}, InnN w.heap.size W3 y ys → InnN w.heap.size W2 y ys := fun hy => hy.kept g.size (fun j hj => low j (by omega)) (fun q cs hq => hty q cs _ (by decide) hq)
  refine ⟨h3.bel.grown g h3.bel.size (fun j hj => Nat.le_trans (by omega) (World.ownsRow.lt ho j hj).1), (low _ (by omega)).trans h3.kb, (low _ (by omega)).trans h3.rb, (low _ (by omega)).trans h3.s0, (low _ (by omega)).trans h3.nb, ?_, ?_, lo, Nat.le_trans h3.hB g.size⟩
  · have hl : vs.length = LL.length := by have := ho.1; omega
    refine ⟨vs ++ [x], by rw [List.length_append]; exact o1, fun j y ys a b => ?_⟩
    by_cases hj : j < LL.length
    · rw [List.getElem?_append_left (by omega)] at a
      rw [List.getElem?_append_left hj] at b
      exact kp (hi j y ys a b)
    · have hj2 : j < (LL ++ [xs]).length := (List.getElem?_eq_some_iff.1 b).1
      have : j = LL.length := by simp at hj2; omega
      subst this
      rw [List.getElem?_append_right (by omega)] at a b
      rw [hl] at a
      simp at a b
      subst a; subst b
      exact kp hx
  · refine own_same h3.ar (fun k hk => ?_)
    obtain ⟨cs, hc⟩ := own_type h3.ar hk
    exact hty k cs _ (by decide) hc
/-- One arrow more. -/
theorem RN.pushA {W2 W3 : World} {va' : Value} {x : Arr} (h : RN w W b0 m l v6 va LL A) (hW3 : Below W.heap.size W W3) (o1 : OwnA W2 (b0 + 2) va' (A ++ [x])) (g : W3.grownBy W2 va.ownBlock) :
    Blk W2 (b0 + 1) 25 (rcells 0 m.ev b0 va (.slice none 0 0)) ∧ RN w (W2.setCell ⟨b0 + 1, 3, none⟩ va') b0 m l v6 va' LL (A ++ [x]) := by
  have h3 := h.below hW3
  have lo := h.lo
  have low : ∀ j, j < b0 + 2 → W2.heap[j]? = W3.heap[j]? := fun j hj => g.block j (Nat.lt_of_lt_of_le hj h3.hB) (fun e => by have := (World.ownsRow.lt h3.ar j e.symm).1; omega)
  have hty : ∀ (q : Nat) (cs : Array Value) (t : TypeId), t ≠ 54 → W3.heap[q]? = some (.cells cs t (0, 0)) → W2.heap[q]? = W3.heap[q]? := fun q cs t ht hq => g.block q (Array.getElem?_eq_some_iff.1 hq).1 (fun e => by
    obtain ⟨c2, h2⟩ := own_type h3.ar e.symm
    rw [hq] at h2; cases h2; exact ht rfl)
  have nb2 : Blk W2 (b0 + 1) 25 (rcells 0 m.ev b0 va (.slice none 0 0)) := (low _ (by omega)).trans h3.nb
  have nb3 : W3.heap[b0 + 1]? = some (.cells (rcells 0 m.ev b0 va (.slice none 0 0)) 25 (0, 0)) := h3.nb
  refine ⟨nb2, ⟨?_, Blk.other ((low _ (by omega)).trans h3.kb) (by omega) _, Blk.other ((low _ (by omega)).trans h3.rb) (by omega) _, Blk.other ((low _ (by omega)).trans h3.s0) (by omega) _, nb2.set 3 va', ?_, ownsRow_set o1 (by omega) va', lo, ?_⟩⟩
  · exact (h3.bel.grown g h3.bel.size (fun j hj => Nat.le_trans (by omega) (World.ownsRow.lt h3.ar j hj).1)).setCell (p := ⟨b0 + 1, 3, none⟩) (show w.heap.size ≤ b0 + 1 by omega) _
  · refine h3.ss.kept ?_ (fun k hk => ?_) (fun j hj => ?_) (fun q cs hq => ?_)
    · have := g.size; simpa [World.setCell] using this
    · obtain ⟨vs, ho, -⟩ := h3.ss
      have := (World.ownsRow.lt ho k hk).1
      obtain ⟨cs, hc⟩ := own_type ho hk
      rw [Below.heap_setCell _ _ _ _ (show k ≠ b0 + 1 by omega), hty k cs _ (by decide) hc]
    · rw [Below.heap_setCell _ _ _ _ (show j ≠ b0 + 1 by omega), low j (by omega)]
    · rw [Below.heap_setCell _ _ _ _ (show q ≠ b0 + 1 from fun e => by rw [e, nb3] at hq; cases hq), hty q cs _ (by decide) hq]
  · have := g.size
    have := h3.hB
    simp [World.setCell]; omega
/-- What lies where, for the loop over the ends. -/
theorem RN.get (h : RN w W b0 m l v6 va LL A) {k : Nat} {xs : List Int} (hk : LL[k]? = some xs) : ∃ g cap a c, v6 = .slice (some ⟨g, 0, none⟩) LL.length cap ∧ g < W.heap.size ∧ g ≠ b0 + 1 ∧ g ≠ w.heap.size + 1 ∧ W.cell? ⟨g, k, none⟩ = some (.slice a xs.length c) ∧ xs.length ≤ maxLen ∧ (xs = [] ∨ ∃ q o, a = some ⟨q, o, none⟩ ∧ q < W.heap.size ∧ q ≠ b0 + 1 ∧ q ≠ w.heap.size + 1 ∧ Cells W q o xs) := by
  obtain ⟨g, cap, x, h1, h2, h3, h4, a, c, rfl, h5, h6⟩ := h.ss.get hk
  have lo := h.lo
  have nb : W.heap[b0 + 1]? = some (.cells (rcells 0 m.ev b0 va (.slice none 0 0)) 25 (0, 0)) := h.nb
  have rb : W.heap[w.heap.size + 1]? = some (.cells zcells 25 (0, 0)) := h.rb
  refine ⟨g, cap, a, c, h1, h3, by omega, by omega, h4, h5, ?_⟩
  rcases h6 with h6 | ⟨q, o, e, hlt, hc, h6⟩
  · exact .inl h6
  · refine .inr ⟨q, o, e, hlt, ?_, ?_, hc⟩
    · rcases h6 with h6 | ⟨cs, h6⟩
      · omega
      · intro e; rw [e, nb] at h6; cases h6
    · rcases h6 with h6 | ⟨cs, h6⟩
      · omega
      · intro e; rw [e, rb] at h6; cases h6
end
theorem at_kp {W X : World} {b : Nat} {a : Option Addr} {xs : List Int} {P : Nat → Prop} (h : xs = [] ∨ ∃ q o, a = some ⟨q, o, none⟩ ∧ q < X.heap.size ∧ q ≠ b ∧ P q ∧ Cells X q o xs) (kp : Kp b X W) : At W a xs := by
  rcases h with h | ⟨q, o, e, h1, h2, -, h3⟩
  · exact .inl h
  · exact .inr ⟨q, o, e, Nat.lt_of_lt_of_le h1 kp.size, cells_block h3 (kp.same q h1 h2)⟩

theorem RN.fin {w W0 W W' : World} {b0 : Nat} {m : Mach} {l : ML} {v6 va : Value} {LL : List (List Int)} {A : List Arr} (h : RN w W0 b0 m l v6 va LL A) (kp : Kp (b0 + 1) W0 W) (hz : W.heap.size ≤ W'.heap.size) (hs : ∀ q, q ≠ w.heap.size + 1 → W'.heap[q]? = W.heap[q]?) : ∃ a cap, v6 = .slice a LL.length cap ∧ At2 W' a LL := by
  obtain ⟨a, cap, e, -⟩ := h.ss.at2
  refine ⟨a, cap, e, ?_⟩
  cases hL : LL with
  | nil => exact .inl rfl
  | cons x r =>
    have h0 : LL[0]? = some x := by rw [hL]; rfl
    obtain ⟨g, cap', a', c', e', hg, hg1, hg2, -⟩ := h.get h0
    rw [e] at e'
    have ea : a = some ⟨g, 0, none⟩ := by cases e'; rfl
    have hW : ∀ q, q < W0.heap.size → q ≠ b0 + 1 → q ≠ w.heap.size + 1 → W'.heap[q]? = W0.heap[q]? := fun q h1 h2 h3 => (hs q h3).trans (kp.same q h1 h2)
    refine .inr ⟨g, 0, ea, Nat.lt_of_lt_of_le hg (Nat.le_trans kp.size hz), fun k xs hk => ?_⟩
    rw [← hL] at hk
    obtain ⟨g2, cap2, a2, c2, e2, hg3, hg4, hg5, cx, hxl, hin⟩ := h.get hk
    rw [e, ea] at e2
    have eg : g = g2 := by cases e2; rfl
    subst eg
    refine ⟨a2, c2, ?_, ?_, hxl⟩
    · rw [Nat.zero_add, World.cell?_of_block (w := W0) (hW g hg3 hg4 hg5)]; exact cx
    · rcases hin with hin | ⟨q, o, eq, q1, q2, q3, q4⟩
      · exact .inl hin
      · exact .inr ⟨q, o, eq, Nat.lt_of_lt_of_le q1 (Nat.le_trans kp.size hz), cells_block q4 (hW q q1 q2 q3)⟩
theorem Kp.below {b : Nat} {X W W' : World} (h : Kp b X W) (hb : Below W.heap.size W W') : Kp b X W' := ⟨Nat.le_trans h.size hb.size, fun k hk hn => (hb.block k (Nat.lt_of_lt_of_le hk h.size)).trans (h.same k hk hn)⟩
theorem heap_set5 (W : World) (b : Nat) (v0 v1 v2 v3 v4 : Value) : ∀ q, q ≠ b → (((((W.setCell ⟨b, 0, none⟩ v0).setCell ⟨b, 1, none⟩ v1).setCell ⟨b, 2, none⟩ v2).setCell ⟨b, 3, none⟩ v3).setCell ⟨b, 4, none⟩ v4).heap[q]? = W.heap[q]? := fun q hq => by
  rw [Below.heap_setCell _ _ _ _ hq, Below.heap_setCell _ _ _ _ hq, Below.heap_setCell _ _ _ _ hq, Below.heap_setCell _ _ _ _ hq, Below.heap_setCell _ _ _ _ hq]
theorem size_set5 (W : World) (b : Nat) (v0 v1 v2 v3 v4 : Value) : W.heap.size ≤ (((((W.setCell ⟨b, 0, none⟩ v0).setCell ⟨b, 1, none⟩ v1).setCell ⟨b, 2, none⟩ v2).setCell ⟨b, 3, none⟩ v3).setCell ⟨b, 4, none⟩ v4).heap.size := by simp [World.setCell]

end Go.Proofs.YtkkkacmccndinaaDoor
namespace Go.Proofs.YtkkkacmccndinaaDoor
open Go.RowKit
set_option linter.unusedVariables false

/-- A set's place; as many as there are: it is new. -/
def findL : List (List Int) → List Int → Nat
  | [], _ => 0
  | a :: r, s => if a = s then 0 else findL r s + 1
theorem findL_le : ∀ (L : List (List Int)) (s : List Int), findL L s ≤ L.length
  | [], _ => Nat.le_refl _
  | a :: r, s => by
    have := findL_le r s
    unfold findL; split <;> simp <;> omega
theorem findL_get : ∀ {L : List (List Int)} {s : List Int}, findL L s < L.length → L[findL L s]? = some s
  | [], _, h => by simp [findL] at h
  | a :: r, s, h => by
    unfold findL at h ⊢
    by_cases e : a = s
    · rw [if_pos e]; simp [e]
    · rw [if_neg e] at h ⊢
      have : findL r s < r.length := by simp at h; omega
      simpa using findL_get this
theorem findL_new : ∀ {L : List (List Int)} {s : List Int}, findL L s = L.length ↔ s ∉ L
  | [], s => by simp [findL]
  | a :: r, s => by
    unfold findL
    by_cases e : a = s
    · rw [if_pos e]; simp [e]
    · rw [if_neg e]
      have := findL_new (L := r) (s := s)
      simp only [List.length_cons, Nat.add_right_cancel_iff, List.mem_cons, not_or]
      rw [this]
      exact ⟨fun h => ⟨fun h' => e h'.symm, h⟩, fun h => h.2⟩
theorem findL_at : ∀ {L : List (List Int)} {k : Nat} {s : List Int}, L.Nodup → L[k]? = some s → findL L s = k
  | [], k, s, _, h => by simp at h
  | a :: r, 0, s, _, h => by
    have : a = s := by simpa using h
    simp [findL, this]
  | a :: r, k + 1, s, hn, h => by
    have h : r[k]? = some s := by simpa using h
    have h1 : a ≠ s := fun e => (List.nodup_cons.1 hn).1 (by rw [e]; exact List.mem_of_getElem? h)
    unfold findL
    rw [if_neg h1, findL_at (List.nodup_cons.1 hn).2 h]

/-- What has been found: the sets, the arrows. -/
structure DS where
  sets : List (List Int)
  ar : List Arr
/-- One event more, at the set k. -/
def dStep (ars : List Arr) (k : Nat) (s : DS) (e : Nat) : DS :=
  ⟨if findL s.sets (stepL ars (s.sets[k]?.getD []) (e : Int)) = s.sets.length then s.sets ++ [stepL ars (s.sets[k]?.getD []) (e : Int)] else s.sets, s.ar ++ [⟨(k : Int), (e : Int), (findL s.sets (stepL ars (s.sets[k]?.getD []) (e : Int)) : Nat)⟩]⟩
def dRow (ars : List Arr) (k : Nat) (s : DS) (n : Nat) : DS := (List.range n).foldl (dStep ars k) s
theorem dRow_zero (ars : List Arr) (k : Nat) (s : DS) : dRow ars k s 0 = s := rfl
theorem dRow_succ (ars : List Arr) (k : Nat) (s : DS) (n : Nat) : dRow ars k s (n + 1) = dStep ars k (dRow ars k s n) n := by
  unfold dRow; rw [List.range_succ, List.foldl_append]; rfl
def dGo (ars : List Arr) (ev : Nat) : Nat → Nat → DS → Option DS
  | 0, _, s => some s
  | f + 1, k, s => if k < s.sets.length then (if 256 < (dRow ars k s ev).sets.length then none else dGo ars ev f (k + 1) (dRow ars k s ev)) else some s
def detS (m : Mach) : Option DS := dGo m.arrows m.ev.toNat 257 0 ⟨[m.starts], []⟩
/-- The numbers of the sets that have an end. -/
def endsFrom (ends : List Int) : Nat → List (List Int) → List Int
  | _, [] => []
  | k, a :: r => if 0 < (a.filter fun n => hasB ends n == true).length then (k : Int) :: endsFrom ends (k + 1) r else endsFrom ends (k + 1) r
theorem endsFrom_cons (ends : List Int) (k : Nat) (a : List Int) (r : List (List Int)) : endsFrom ends k (a :: r) = if 0 < (a.filter fun n => hasB ends n == true).length then (k : Int) :: endsFrom ends (k + 1) r else endsFrom ends (k + 1) r := rfl
def endsD (ends : List Int) (sets : List (List Int)) : List Int := endsFrom ends 0 sets
def detM (m : Mach) (s : DS) : Mach := ⟨s.sets.length, m.ev, [0], s.ar, endsD m.ends s.sets⟩

theorem endsFrom_snoc (ends : List Int) : ∀ (L : List (List Int)) (k : Nat) (a : List Int), endsFrom ends k (L ++ [a]) = endsFrom ends k L ++ (if 0 < (a.filter fun n => hasB ends n == true).length then [((k + L.length : Nat) : Int)] else [])
  | [], k, a => by simp only [List.nil_append, endsFrom, List.length_nil, Nat.add_zero]
  | b :: r, k, a => by
    rw [List.cons_append]
    unfold endsFrom
    rw [endsFrom_snoc ends r (k + 1) a, List.length_cons, show k + 1 + r.length = k + (r.length + 1) by omega]
    by_cases h : 0 < (b.filter fun n => hasB ends n == true).length
    · rw [if_pos h, if_pos h, List.cons_append]
    · rw [if_neg h, if_neg h]
theorem endsD_take {ends : List Int} {L : List (List Int)} {k : Nat} {a : List Int} (h : L[k]? = some a) : endsD ends (L.take (k + 1)) = if 0 < (a.filter fun n => hasB ends n == true).length then endsD ends (L.take k) ++ [(k : Int)] else endsD ends (L.take k) := by
  have hk := (List.getElem?_eq_some_iff.1 h).1
  have e : L.take (k + 1) = L.take k ++ [a] := by rw [List.take_add_one, h]; rfl
  unfold endsD
  rw [e, endsFrom_snoc, List.length_take, Nat.min_eq_left (by omega), Nat.zero_add]
  split
  · rfl
  · rw [List.append_nil]
theorem endsFrom_len (ends : List Int) : ∀ (k : Nat) (L : List (List Int)), (endsFrom ends k L).length ≤ L.length
  | _, [] => Nat.le_refl _
  | k, a :: r => by
    have := endsFrom_len ends (k + 1) r
    unfold endsFrom; split <;> simp <;> omega
theorem mem_endsFrom (ends : List Int) : ∀ (L : List (List Int)) (k : Nat) (x : Int), x ∈ endsFrom ends k L ↔ ∃ j a, L[j]? = some a ∧ x = ((k + j : Nat) : Int) ∧ ∃ y ∈ a, y ∈ ends
  | [], k, x => by simp [endsFrom]
  | b :: r, k, x => by
    have hpos : 0 < (b.filter fun n => hasB ends n == true).length ↔ ∃ y ∈ b, y ∈ ends := by
      rw [List.length_pos_iff_exists_mem]
      constructor
      · rintro ⟨y, hy⟩
        obtain ⟨h1, h2⟩ := List.mem_filter.1 hy
        exact ⟨y, h1, (hasB_iff _ _).1 (by simpa using h2)⟩
      · rintro ⟨y, h1, h2⟩
        exact ⟨y, List.mem_filter.2 ⟨h1, by simpa using (hasB_iff _ _).2 h2⟩⟩
    have ih := mem_endsFrom ends r (k + 1) x
    have hr : (∃ j a, (b :: r)[j]? = some a ∧ x = ((k + j : Nat) : Int) ∧ ∃ y ∈ a, y ∈ ends) ↔ (x = (k : Int) ∧ ∃ y ∈ b, y ∈ ends) ∨ (∃ j a, r[j]? = some a ∧ x = ((k + 1 + j : Nat) : Int) ∧ ∃ y ∈ a, y ∈ ends) := by
      constructor
      · rintro ⟨j, a, h1, h2, h3⟩
        rcases j with _ | j
        · have e : b = a := by simpa using h1
          subst e
          exact .inl ⟨by simpa using h2, h3⟩
        · exact .inr ⟨j, a, by simpa using h1, by rw [h2]; congr 1; omega, h3⟩
      · rintro (⟨h1, h2⟩ | ⟨j, a, h1, h2, h3⟩)
        · exact ⟨0, b, rfl, by simpa using h1, h2⟩
        · exact ⟨j + 1, a, by simpa using h1, by rw [h2]; congr 1; omega, h3⟩
    rw [hr, ← ih, endsFrom_cons]
    by_cases h : 0 < (b.filter fun n => hasB ends n == true).length
    · rw [if_pos h, List.mem_cons]
      have := hpos.1 h
      constructor
      · rintro (h1 | h1)
        · exact .inl ⟨h1, this⟩
        · exact .inr h1
      · rintro (h1 | h1)
        · exact .inl h1.1
        · exact .inr h1
    · rw [if_neg h]
      constructor
      · exact .inr
      · rintro (h1 | h1)
        · exact absurd (hpos.2 h1.2) h
        · exact h1
theorem inc_endsFrom (ends : List Int) : ∀ (L : List (List Int)) (k : Nat), Inc (endsFrom ends k L)
  | [], k => by simp [endsFrom, Inc]
  | b :: r, k => by
    unfold endsFrom
    split
    · rw [Inc, List.pairwise_cons]
      refine ⟨fun x hx => ?_, inc_endsFrom ends r (k + 1)⟩
      obtain ⟨j, a, -, h2, -⟩ := (mem_endsFrom ends r (k + 1) x).1 hx
      omega
    · exact inc_endsFrom ends r (k + 1)

/-! What is found only grows. -/
theorem dStep_pre (ars : List Arr) (k : Nat) (s : DS) (e : Nat) : ∃ t, (dStep ars k s e).sets = s.sets ++ t ∧ t.length ≤ 1 := by
  unfold dStep
  dsimp only
  split
  · exact ⟨_, rfl, by simp⟩
  · exact ⟨[], by simp, by simp⟩
theorem dRow_pre (ars : List Arr) (k : Nat) (s : DS) : ∀ n, ∃ t, (dRow ars k s n).sets = s.sets ++ t ∧ t.length ≤ n
  | 0 => ⟨[], by simp [dRow_zero], by simp⟩
  | n + 1 => by
    obtain ⟨t, h1, h2⟩ := dRow_pre ars k s n
    obtain ⟨u, h3, h4⟩ := dStep_pre ars k (dRow ars k s n) n
    exact ⟨t ++ u, by rw [dRow_succ, h3, h1, List.append_assoc], by rw [List.length_append]; omega⟩
theorem dRow_mono (ars : List Arr) (k : Nat) (s : DS) (n : Nat) : ∀ j, (dRow ars k s n).sets.length ≤ (dRow ars k s (n + j)).sets.length
  | 0 => Nat.le_refl _
  | j + 1 => by
    have := dRow_mono ars k s n j
    obtain ⟨u, h3, h4⟩ := dStep_pre ars k (dRow ars k s (n + j)) (n + j)
    rw [← Nat.add_assoc, dRow_succ, h3, List.length_append]; omega
theorem dRow_ar (ars : List Arr) (k : Nat) (s : DS) : ∀ n, (dRow ars k s n).ar.length = s.ar.length + n
  | 0 => rfl
  | n + 1 => by rw [dRow_succ]; unfold dStep; simp only [List.length_append, List.length_cons, List.length_nil]; rw [dRow_ar ars k s n]; omega
theorem dGo_none {ars : List Arr} {ev f k : Nat} {s : DS} (hk : k < s.sets.length) (hB : 256 < (dRow ars k s ev).sets.length) (hf : 0 < f) : dGo ars ev f k s = none := by
  obtain ⟨g, rfl⟩ : ∃ g, f = g + 1 := ⟨f - 1, by omega⟩
  rw [dGo, if_pos hk, if_pos hB]
theorem dGo_next {ars : List Arr} {ev f k : Nat} {s : DS} (hk : k < s.sets.length) (hB : ¬ 256 < (dRow ars k s ev).sets.length) (hf : 0 < f) : dGo ars ev f k s = dGo ars ev (f - 1) (k + 1) (dRow ars k s ev) := by
  obtain ⟨g, rfl⟩ : ∃ g, f = g + 1 := ⟨f - 1, by omega⟩
  rw [dGo, if_pos hk, if_neg hB]; rfl
theorem dGo_end {ars : List Arr} {ev f k : Nat} {s : DS} (hk : ¬ k < s.sets.length) : dGo ars ev f k s = some s := by
  cases f with
  | zero => rfl
  | succ g => rw [dGo, if_neg hk]

/-! What holds of what is found. -/
structure DI (m : Mach) (ev : Nat) (n : Nat) (s : DS) : Prop where
  nd : s.sets.Nodup
  hd : s.sets[0]? = some m.starts
  inc : ∀ l ∈ s.sets, Inc l ∧ ∀ x ∈ l, 0 ≤ x ∧ x < m.st
  len : s.ar.length = n
  ar : ∀ i, i < n → ∃ f e t : Nat, ∃ l, s.ar[i]? = some ⟨(f : Int), (e : Int), (t : Int)⟩ ∧ f * ev + e = i ∧ e < ev ∧ s.sets[f]? = some l ∧ s.sets[t]? = some (stepL m.arrows l (e : Int))
theorem DI.pos {m : Mach} {ev n : Nat} {s : DS} (h : DI m ev n s) : 0 < s.sets.length := (List.getElem?_eq_some_iff.1 h.hd).1
theorem stepIn {m : Mach} (hm : mayB m = true) (ss : List Int) (e : Int) : Inc (stepL m.arrows ss e) ∧ ∀ x ∈ stepL m.arrows ss e, 0 ≤ x ∧ x < m.st := by
  refine ⟨inc_srt _, fun x hx => ?_⟩
  obtain ⟨a, ha, -, -, rfl⟩ := (mem_stepL _ _ _ _).1 hx
  have := may_arrs hm a ha
  exact ⟨this.2.2.1, this.2.2.2.1⟩
theorem di_step {m : Mach} (hm : mayB m = true) {ev k e : Nat} {s : DS} (h : DI m ev (k * ev + e) s) (hk : k < s.sets.length) (he : e < ev) : DI m ev (k * ev + (e + 1)) (dStep m.arrows k s e) := by
  obtain ⟨l, hl⟩ : ∃ l, s.sets[k]? = some l := ⟨_, List.getElem?_eq_getElem hk⟩
  obtain ⟨to, hto⟩ : ∃ to, to = stepL m.arrows l (e : Int) := ⟨_, rfl⟩
  have e1 : dStep m.arrows k s e = ⟨if findL s.sets to = s.sets.length then s.sets ++ [to] else s.sets, s.ar ++ [⟨(k : Int), (e : Int), (findL s.sets to : Nat)⟩]⟩ := by
    unfold dStep; rw [hl, Option.getD_some, ← hto]
  have hin := stepIn hm l (e : Int)
  rw [← hto] at hin
  have hlk : ∀ (j : Nat) (x : List Int), s.sets[j]? = some x → (if findL s.sets to = s.sets.length then s.sets ++ [to] else s.sets)[j]? = some x := by
    intro j x hj
    split
    · rw [List.getElem?_append_left (List.getElem?_eq_some_iff.1 hj).1]; exact hj
    · exact hj
  have hnew : (if findL s.sets to = s.sets.length then s.sets ++ [to] else s.sets)[findL s.sets to]? = some to := by
    have := findL_le s.sets to
    split
    · rename_i h1
      rw [h1, List.getElem?_append_right (Nat.le_refl _)]; simp
    · exact findL_get (by omega)
  rw [e1]
  refine ⟨?_, hlk 0 _ h.hd, ?_, ?_, ?_⟩
  · dsimp only
    split
    · rename_i h1
      rw [List.nodup_append]
      exact ⟨h.nd, by simp, fun x hx y hy e => by simp at hy; subst hy; subst e; exact findL_new.1 h1 hx⟩
    · exact h.nd
  · dsimp only
    intro x hx
    split at hx
    · rcases List.mem_append.1 hx with hx | hx
      · exact h.inc x hx
      · have : x = to := by simpa using hx
        rw [this]; exact hin
    · exact h.inc x hx
  · simp only [List.length_append, List.length_cons, List.length_nil, h.len]; omega
  · intro i hi
    by_cases hlt : i < k * ev + e
    · obtain ⟨f, e', t, l', h1, h2, h3, h4, h5⟩ := h.ar i hlt
      exact ⟨f, e', t, l', by rw [List.getElem?_append_left (by rw [h.len]; exact hlt)]; exact h1, h2, h3, hlk _ _ h4, hlk _ _ h5⟩
    · have hi' : i = k * ev + e := by omega
      refine ⟨k, e, findL s.sets to, l, ?_, hi'.symm, he, hlk _ _ hl, by rw [← hto]; exact hnew⟩
      rw [List.getElem?_append_right (by rw [h.len]; omega), h.len, hi']; simp
theorem di_row {m : Mach} (hm : mayB m = true) {ev k : Nat} {s : DS} (h : DI m ev (k * ev) s) (hk : k < s.sets.length) : ∀ n, n ≤ ev → DI m ev (k * ev + n) (dRow m.arrows k s n)
  | 0, _ => h
  | n + 1, hn => by
    rw [dRow_succ]
    obtain ⟨t, ht, -⟩ := dRow_pre m.arrows k s n
    exact di_step hm (di_row hm h hk n (by omega)) (by rw [ht, List.length_append]; omega) (by omega)
theorem di_go {m : Mach} (hm : mayB m = true) {ev : Nat} : ∀ (f k : Nat) (s s' : DS), DI m ev (k * ev) s → k ≤ s.sets.length → s.sets.length ≤ 256 → 257 ≤ f + k → dGo m.arrows ev f k s = some s' → DI m ev (s'.sets.length * ev) s' ∧ s'.sets.length ≤ 256
  | 0, k, s, s', h, hk, h256, hf, e => by omega
  | f + 1, k, s, s', h, hk, h256, hf, e => by
    rw [dGo] at e
    by_cases hlt : k < s.sets.length
    · rw [if_pos hlt] at e
      by_cases hB : 256 < (dRow m.arrows k s ev).sets.length
      · rw [if_pos hB] at e; cases e
      · rw [if_neg hB] at e
        obtain ⟨t, ht, -⟩ := dRow_pre m.arrows k s ev
        refine di_go hm f (k + 1) _ s' ?_ (by rw [ht, List.length_append]; omega) (by omega) (by omega) e
        have := di_row hm h hlt ev (Nat.le_refl _)
        rw [Nat.succ_mul]; exact this
    · rw [if_neg hlt] at e
      have e := Option.some.inj e
      subst e
      have : k = s.sets.length := by omega
      rw [← this]
      exact ⟨h, by omega⟩
theorem di_start {m : Mach} (hm : mayB m = true) (ev : Nat) : DI m ev (0 * ev) ⟨[m.starts], []⟩ := by
  refine ⟨by simp, rfl, fun l hl => ?_, by simp, fun i hi => by omega⟩
  have : l = m.starts := by simpa using hl
  rw [this]; exact may_starts hm
theorem detS_di {m : Mach} (hm : mayB m = true) {s : DS} (h : detS m = some s) : DI m m.ev.toNat (s.sets.length * m.ev.toNat) s ∧ s.sets.length ≤ 256 :=
  di_go hm 257 0 _ s (di_start hm _) (by simp) (by simp) (by omega) h

end Go.Proofs.YtkkkacmccndinaaDoor
