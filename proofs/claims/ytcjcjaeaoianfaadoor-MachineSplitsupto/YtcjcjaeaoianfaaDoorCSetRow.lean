/-
  The walk of Set.Row: the row of a set's numbers.
-/
import Derived.Test.YtcjcjaeaoianfaaDoorCSetIter
namespace Go.Proofs.YtcjcjaeaoianfaaDoor
open Go.RowKit Go.Shelf
set_option linter.unusedVariables false
attribute [local go_sem] Oper.semAt_some

/-- A set's numbers, each with a bound. -/
theorem nb_of {N : Nat} : ∀ (l : List Nat), (∀ k ∈ l, k < N) → ∃ xs : List (NB N), xs.map (·.1) = l
  | [], _ => ⟨[], rfl⟩
  | a :: r, h => by
    obtain ⟨xs, hx⟩ := nb_of r (fun k hk => h k (by simp [hk]))
    exact ⟨⟨a, h a (by simp)⟩ :: xs, by simp [hx]⟩

def nbInts {N : Nat} (pre : List (NB N)) : List Int := pre.map fun x => (x.1 : Int)
theorem nbInts_snoc {N : Nat} (pre : List (NB N)) (x : NB N) : nbInts (pre ++ [x]) = nbInts pre ++ [(x.1 : Int)] := by simp [nbInts]
theorem nbInts_len {N : Nat} (pre : List (NB N)) : (nbInts pre).length = pre.length := by simp [nbInts]

set_option maxRecDepth 100000 in
set_option maxHeartbeats 4000000 in
theorem row_in (S : Nat → Nat) (hS : okS S) (w : World) (hT : Tab w) :
    CallsIn Fence.wide 5 Tryd.prog 39 #[sval S] w fun e W' => Gives w (rowS S) e W' := by
  obtain ⟨i0, hi, hz0, hz1, hz2⟩ := info_parts Tryd.infoInt
  obtain ⟨xs, hxs⟩ := nb_of (N := 256) (allS S) (fun k hk => ((mem_allS S k).1 hk).1)
  have hlen : xs.length ≤ 256 := by have := allS_len S; rw [← hxs, List.length_map] at this; exact this
  have hrow : nbInts xs = rowS S := by unfold nbInts rowS; rw [← hxs, List.map_map]; rfl
  refine callsIn_of_wp_marks Tryd.func39 rfl trivial ?_ rfl
  simp only [Tryd.ntmps39, List.size_toArray, List.length_cons, List.length_nil, Nat.reduceAdd, Nat.reduceSub, Array.replicate_succ, Array.replicate_zero, List.push_toArray, List.append_toArray, List.nil_append, List.cons_append]
  gi_wp2_with (refine ⟨trivial, ?_⟩; refine CallsIn.mono (callsIn_wide.2 (all_any S _)) ?_; rintro e w1 ⟨rfl, rfl⟩)
  have bO : Boxed (((w.alloc (.cells (scells S) 55)).alloc (.cells #[.slice none 0 0] 22)).alloc (.cells (scells S) 55)) (w.heap.size + 1) 22 (.slice none 0 0) := by
    have := (Boxed.new (w.alloc (.cells (scells S) 55)) 22 (.slice none 0 0)).alloc (.cells (scells S) 55)
    rwa [World.size_alloc] at this
  have bN : SB (((w.alloc (.cells (scells S) 55)).alloc (.cells #[.slice none 0 0] 22)).alloc (.cells (scells S) 55)) (w.heap.size + 1 + 1) S := by
    have := Blk.new ((w.alloc (.cells (scells S) 55)).alloc (.cells #[.slice none 0 0] 22)) 55 (scells S)
    rwa [World.size_alloc, World.size_alloc] at this
  have hB0 : Below w.heap.size w (((w.alloc (.cells (scells S) 55)).alloc (.cells #[.slice none 0 0] 22)).alloc (.cells (scells S) 55)) := (((Below.refl _ w).alloc (Nat.le_refl _) _).alloc (by simp) _).alloc (by simp; omega) _
  have hsz : (((w.alloc (.cells (scells S) 55)).alloc (.cells #[.slice none 0 0] 22)).alloc (.cells (scells S) 55)).heap.size = w.heap.size + 3 := by simp
  have hT0 := hT.below hB0 hT.lt
  revert bO bN hB0 hsz hT0
  generalize ((w.alloc (.cells (scells S) 55)).alloc (.cells #[.slice none 0 0] 22)).alloc (.cells (scells S) 55) = W0
  intro bO bN hB0 hsz hT0
  refine wpIn_rangeFunc_ownG rfl (by omega) (gf := 99) (lb := #[.pointer (some ⟨w.heap.size + 1 + 1, 0, none⟩)]) rfl trivial (enters_of Tryd.func99 (by kernel_rfl) rfl)
    (all_stops 4 (by omega) (w.heap.size + 1 + 1) w.heap.size S hS xs hxs hT.lt W0 (by omega) bN hT0) belowK_t (belowK_b (by omega)) (Below.refl _ _) (fun _ => rfl)
    (fun pre W => (∃ v, Boxed W (w.heap.size + 1) 22 v ∧ W.ownsRow w.heap.size 3 1 v (nbInts pre).length ((nbInts pre).map (Value.int .i64)) ∧ True) ∧ Below w.heap.size w W)
    (fun _ _ _ => False)
    (OwnFrom.and (Go.Own.from (holdsRow_own w.heap.size (w.heap.size + 1) 22 3 1 (fun pre : List (NB 256) => (nbInts pre).length) (fun pre => (nbInts pre).map (Value.int .i64)) (fun _ _ => True)) _) (ownFrom_below (Nat.le_refl _) (by omega)))
    (fun _ _ _ _ _ hs _ _ => hs)
    ⟨⟨_, bO, World.ownsRow_nil _ _ _ _, trivial⟩, hB0⟩
    (fun x => { tmps := #[sval S, .pointer (some ⟨w.heap.size, 0, none⟩), .slice none 0 0, .pointer (some ⟨w.heap.size + 1, 0, none⟩), .int .i64 (x.1 : Int), sval S, .func (.func 99) #[] #[.pointer (some ⟨w.heap.size + 1 + 1, 0, none⟩)], .int .i64 (x.1 : Int), undef, undef, undef, undef, undef], defers := [] }) ?assign ?body ?done ?stop
  case assign =>
    intro l x W K hK
    gi_wp2
    exact hK
  case body =>
    rintro l pre x W ⟨⟨v, hv, hrw, -⟩, hB⟩ hlt
    have hc := hv.cell
    have hpl := nbInts_len pre
    have HL := Hid.of hpl
    have hl2 : (nbInts pre).length ≤ 256 := by omega
    clear hpl
    gi_wp2_with (gi_at_builtin; refine wpListIn_append_own _ rfl _ _ 22 rfl w.heap.size 3 i0 (.int .i64 0) 1 8 Tryd.underlying22 hi hz0 hz1 hz2 rfl (by decide) _ _ _ rfl (hrw.alloc _) ⟨W.heap.size, 0, none⟩ 1 1 [.int .i64 (x.1 : Int)] rfl rfl (cell_one_new _ _ _) (by simp [Value.oneCell']) (by unfold maxLen; omega) (by omega) (by have := hB.size; simp; omega) ?_; intro v' w1 hown' hgrow _; obtain ⟨g', cap', rfl⟩ := ownsRow_succ hown'; obtain ⟨hv1, hv2, hr2, hk2, hb2⟩ := hv.appended (by decide) hrw hB.size (by omega) hown' hgrow; have hc1 := hv1.cell; have hf1 := hv1.frozen)
    exact ⟨hk2.from _, hb2, ⟨_, hv2, by rw [nbInts_snoc]; simpa using hr2, trivial⟩, hB.trans hb2⟩
  case done =>
    rintro D ys W hD rfl ⟨⟨v, hv, hrw, -⟩, hB⟩ hK
    have hc := hv.cell
    rw [hrow] at hrw
    gi_wp2
    refine ⟨by simp, .inl ⟨_, _, rfl, run_takeDeferred hK, ?_⟩⟩
    refine ⟨_, results_tmp rfl _ _ _, ?_⟩
    exact gives_of_own (B := w.heap.size) (show Own _ _ v (rowS S) from ownsRow_putObj hrw _ hK rfl) (hB.trans (belowK_b (w := w) (Nat.le_refl _) W D _ _ (by omega) hK rfl rfl))
  case stop =>
    rintro D c pre W _ _ h _
    exact h.elim

theorem row_any (S : Nat → Nat) (w : World) (hS : okS S) (hT : Tab w) : Calls Tryd.prog 39 #[sval S] w fun e W' => Gives w (rowS S) e W' :=
  callsIn_wide.1 (row_in S hS w hT)

end Go.Proofs.YtcjcjaeaoianfaaDoor
