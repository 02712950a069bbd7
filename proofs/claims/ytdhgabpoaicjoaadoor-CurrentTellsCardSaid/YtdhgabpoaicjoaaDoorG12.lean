/-
  The walk of Set.Row: the row of a set's numbers.
  A table of sets in memory, and what the closure of machine.Leader knows.
  Small facts on sets in memory, for the walks that range over a set or fill a table of sets.
  '==' of two sets, as the model runs it.
-/
import Derived.Test.YtdhgabpoaicjoaaDoorCSetIter
import Derived.Test.YtdhgabpoaicjoaaDoorG03
import Derived.Laws.MakeOwn
import Derived.OwnWalk
import Derived.Deep.RegionWith
import Derived.Test.YtdhgabpoaicjoaaDoorCSBase
import Derived.Laws.StructEq
import Derived.ChangeKeysEq
namespace Go.Proofs.YtdhgabpoaicjoaaDoor
open Go.RowKit Go.Shelf
set_option linter.unusedVariables false
attribute [local go_sem] Oper.semAt_some

/-- A set's numbers, each with a bound. -/
theorem nb_of {N : Nat} : ∀ (l : List Nat), (∀ k ∈ l, k < N) → ∃ xs : List (NB N), xs.map (·.1) = l
  | [], _ => ⟨[], rfl⟩
  | a :: r, h => by
    obtain ⟨xs, hx⟩ := nb_of r (fun k hk => h k (by simp [hk]))
    exact ⟨⟨a, h a (by simp)⟩ :: xs, by simp [hx]⟩

def nbInts {N : Nat} (pre : List (NB N)) : List Int := pre.map fun x => (x.1 : Int)
theorem nbInts_snoc {N : Nat} (pre : List (NB N)) (x : NB N) : nbInts (pre ++ [x]) = nbInts pre ++ [(x.1 : Int)] := by simp [nbInts]
theorem nbInts_len {N : Nat} (pre : List (NB N)) : (nbInts pre).length = pre.length := by simp [nbInts]

set_option maxRecDepth 100000 in
set_option maxHeartbeats 4000000 in
theorem row_in (S : Nat → Nat) (hS : okS S) (w : World) (hT : Tab w) :
    CallsIn Fence.wide 5 Tryd.prog 54 #[sval S] w fun e W' => Gives w (rowS S) e W' := by
  obtain ⟨i0, hi, hz0, hz1, hz2⟩ := info_parts Tryd.infoInt
  obtain ⟨xs, hxs⟩ := nb_of (N := 256) (allS S) (fun k hk => ((mem_allS S k).1 hk).1)
  have hlen : xs.length ≤ 256 := by have := allS_len S; rw [← hxs, List.length_map] at this; exact this
  have hrow : nbInts xs = rowS S := by unfold nbInts rowS; rw [← hxs, List.map_map]; rfl
  refine callsIn_of_wp_marks Tryd.func54 rfl trivial ?_ rfl
  simp only [Tryd.ntmps54, List.size_toArray, List.length_cons, List.length_nil, Nat.reduceAdd, Nat.reduceSub, Array.replicate_succ, Array.replicate_zero, List.push_toArray, List.append_toArray, List.nil_append, List.cons_append]
  gi_wp2_with (refine ⟨trivial, ?_⟩; refine CallsIn.mono (callsIn_wide.2 (all_any S _)) ?_; rintro e w1 ⟨rfl, rfl⟩)
  have bO : Boxed (((w.alloc (.cells (scells S) 65)).alloc (.cells #[.slice none 0 0] 22)).alloc (.cells (scells S) 65)) (w.heap.size + 1) 22 (.slice none 0 0) := by
    have := (Boxed.new (w.alloc (.cells (scells S) 65)) 22 (.slice none 0 0)).alloc (.cells (scells S) 65)
    rwa [World.size_alloc] at this
  have bN : SB (((w.alloc (.cells (scells S) 65)).alloc (.cells #[.slice none 0 0] 22)).alloc (.cells (scells S) 65)) (w.heap.size + 1 + 1) S := by
    have := Blk.new ((w.alloc (.cells (scells S) 65)).alloc (.cells #[.slice none 0 0] 22)) 65 (scells S)
    rwa [World.size_alloc, World.size_alloc] at this
  have hB0 : Below w.heap.size w (((w.alloc (.cells (scells S) 65)).alloc (.cells #[.slice none 0 0] 22)).alloc (.cells (scells S) 65)) := (((Below.refl _ w).alloc (Nat.le_refl _) _).alloc (by simp) _).alloc (by simp; omega) _
  have hsz : (((w.alloc (.cells (scells S) 65)).alloc (.cells #[.slice none 0 0] 22)).alloc (.cells (scells S) 65)).heap.size = w.heap.size + 3 := by simp
  have hT0 := hT.below hB0 hT.lt
  revert bO bN hB0 hsz hT0
  generalize ((w.alloc (.cells (scells S) 65)).alloc (.cells #[.slice none 0 0] 22)).alloc (.cells (scells S) 65) = W0
  intro bO bN hB0 hsz hT0
  refine wpIn_rangeFunc_ownG rfl (by omega) (gf := 135) (lb := #[.pointer (some ⟨w.heap.size + 1 + 1, 0, none⟩)]) rfl trivial (enters_of Tryd.func135 (by kernel_rfl) rfl)
    (all_stops 4 (by omega) (w.heap.size + 1 + 1) w.heap.size S hS xs hxs hT.lt W0 (by omega) bN hT0) belowK_t (belowK_b (by omega)) (Below.refl _ _) (fun _ => rfl)
    (fun pre W => (∃ v, Boxed W (w.heap.size + 1) 22 v ∧ W.ownsRow w.heap.size 3 1 v (nbInts pre).length ((nbInts pre).map (Value.int .i64)) ∧ True) ∧ Below w.heap.size w W)
    (fun _ _ _ => False)
    (OwnFrom.and (Go.Own.from (holdsRow_own w.heap.size (w.heap.size + 1) 22 3 1 (fun pre : List (NB 256) => (nbInts pre).length) (fun pre => (nbInts pre).map (Value.int .i64)) (fun _ _ => True)) _) (ownFrom_below (Nat.le_refl _) (by omega)))
    (fun _ _ _ _ _ hs _ _ => hs)
    ⟨⟨_, bO, World.ownsRow_nil _ _ _ _, trivial⟩, hB0⟩
    (fun x => { tmps := #[sval S, .pointer (some ⟨w.heap.size, 0, none⟩), .slice none 0 0, .pointer (some ⟨w.heap.size + 1, 0, none⟩), .int .i64 (x.1 : Int), sval S, .func (.func 135) #[] #[.pointer (some ⟨w.heap.size + 1 + 1, 0, none⟩)], .int .i64 (x.1 : Int), undef, undef, undef, undef, undef], defers := [] }) ?assign ?body ?done ?stop
  case assign =>
    intro l x W K hK
    gi_wp2
    exact hK
  case body =>
    rintro l pre x W ⟨⟨v, hv, hrw, -⟩, hB⟩ hlt
    have hc := hv.cell
    have hpl := nbInts_len pre
    have HL := Hid.of hpl
    have hl2 : (nbInts pre).length ≤ 256 := by omega
    clear hpl
    gi_wp2_with (gi_at_builtin; refine wpListIn_append_own _ rfl _ _ 22 rfl w.heap.size 3 i0 (.int .i64 0) 1 8 Tryd.underlying22 hi hz0 hz1 hz2 rfl (by decide) _ _ _ rfl (hrw.alloc _) ⟨W.heap.size, 0, none⟩ 1 1 [.int .i64 (x.1 : Int)] rfl rfl (cell_one_new _ _ _) (by simp [Value.oneCell']) (by unfold maxLen; omega) (by omega) (by have := hB.size; simp; omega) ?_; intro v' w1 hown' hgrow _; obtain ⟨g', cap', rfl⟩ := ownsRow_succ hown'; obtain ⟨hv1, hv2, hr2, hk2, hb2⟩ := hv.appended (by decide) hrw hB.size (by omega) hown' hgrow; have hc1 := hv1.cell; have hf1 := hv1.frozen)
    exact ⟨hk2.from _, hb2, ⟨_, hv2, by rw [nbInts_snoc]; simpa using hr2, trivial⟩, hB.trans hb2⟩
  case done =>
    rintro D ys W hD rfl ⟨⟨v, hv, hrw, -⟩, hB⟩ hK
    have hc := hv.cell
    rw [hrow] at hrw
    gi_wp2
    refine ⟨by simp, .inl ⟨_, _, rfl, run_takeDeferred hK, ?_⟩⟩
    refine ⟨_, results_tmp rfl _ _ _, ?_⟩
    exact gives_of_own (B := w.heap.size) (show Own _ _ v (rowS S) from ownsRow_putObj hrw _ hK rfl) (hB.trans (belowK_b (w := w) (Nat.le_refl _) W D _ _ (by omega) hK rfl rfl))
  case stop =>
    rintro D c pre W _ _ h _
    exact h.elim

theorem row_any (S : Nat → Nat) (w : World) (hS : okS S) (hT : Tab w) : Calls Tryd.prog 54 #[sval S] w fun e W' => Gives w (rowS S) e W' :=
  callsIn_wide.1 (row_in S hS w hT)

end Go.Proofs.YtdhgabpoaicjoaaDoor
namespace Go.Proofs.YtdhgabpoaicjoaaDoor
open Go.RowKit Go.Shelf
set_option linter.unusedVariables false
attribute [local go_sem] Oper.semAt_some

/-- A table of N sets lies in block g. -/
def TB (W : World) (g N : Nat) (T : Nat → Nat → Nat) : Prop := ∃ cs, Blk W g 65 cs ∧ cs.size = N * 4 ∧ ∀ p j, p < N → j < 4 → cs[p * 4 + j]? = some (.int .u64 (T p j))

theorem TB.cells {W : World} {g N : Nat} {T : Nat → Nat → Nat} (h : TB W g N T) {p : Nat} (hp : p < N) : W.cell? ⟨g, p * 4, none⟩ = some (.int .u64 (T p 0)) ∧ W.cell? ⟨g, p * 4 + 1, none⟩ = some (.int .u64 (T p 1)) ∧ W.cell? ⟨g, p * 4 + 2, none⟩ = some (.int .u64 (T p 2)) ∧ W.cell? ⟨g, p * 4 + 3, none⟩ = some (.int .u64 (T p 3)) := by
  obtain ⟨cs, hb, hs, hc⟩ := h
  exact ⟨hb.cell _ (hc p 0 hp (by omega)), hb.cell _ (hc p 1 hp (by omega)), hb.cell _ (hc p 2 hp (by omega)), hb.cell _ (hc p 3 hp (by omega))⟩
theorem TB.below {W W' : World} {g N B : Nat} {T : Nat → Nat → Nat} (h : TB W g N T) (hb : Below B W W') (hB : g < B) : TB W' g N T := by
  obtain ⟨cs, h1, h2, h3⟩ := h
  exact ⟨cs, h1.below hb hB, h2, h3⟩
theorem TB.lt {W : World} {g N : Nat} {T : Nat → Nat → Nat} (h : TB W g N T) : g < W.heap.size := by
  obtain ⟨cs, h1, h2, h3⟩ := h
  exact h1.lt

/-- The blocks that machine.Leader's closure knows: isEvent's, events', to's, the table, within's own. -/
structure LB where
  pi : Nat
  pe : Nat
  pt : Nat
  pg : Nat
  pb : Nat
def LB.all (L : LB) (P : Nat → Prop) : Prop := P L.pi ∧ P L.pe ∧ P L.pt ∧ P L.pg ∧ P L.pb
theorem LB.all.imp {L : LB} {P Q : Nat → Prop} (h : L.all P) (hi : ∀ n, P n → Q n) : L.all Q := ⟨hi _ h.1, hi _ h.2.1, hi _ h.2.2.1, hi _ h.2.2.2.1, hi _ h.2.2.2.2⟩
theorem LB.all.and {L : LB} {P Q : Nat → Prop} (h : L.all P) (h' : L.all Q) : L.all fun n => P n ∧ Q n := ⟨⟨h.1, h'.1⟩, ⟨h.2.1, h'.2.1⟩, ⟨h.2.2.1, h'.2.2.1⟩, ⟨h.2.2.2.1, h'.2.2.2.1⟩, ⟨h.2.2.2.2, h'.2.2.2.2⟩⟩
/-- The closure. -/
abbrev leadV (L : LB) : Value := .func (.func 114) #[] #[.pointer (some ⟨L.pi, 0, none⟩), .pointer (some ⟨L.pe, 0, none⟩), .pointer (some ⟨L.pt, 0, none⟩)]
abbrev isV (pb : Nat) : Value := .func (.func 131) #[] #[.pointer (some ⟨pb, 0, none⟩)]
/-- What the closure knows. -/
structure LD (W : World) (L : LB) (ev N : Nat) (T : Nat → Nat → Nat) : Prop where
  is : Boxed W L.pi 122 (isV L.pb)
  evb : Boxed W L.pe 3 (.int .i64 ev)
  to : Boxed W L.pt 80 (.slice (some ⟨L.pg, 0, none⟩) N N)
  tab : TB W L.pg N T
  bd : Boxed W L.pb 3 (.int .i64 ev)
theorem LD.below {W W' : World} {B : Nat} {L : LB} {ev N : Nat} {T : Nat → Nat → Nat} (h : LD W L ev N T) (hb : Below B W W') (hB : L.all (· < B)) : LD W' L ev N T :=
  ⟨(hb.block _ hB.1).trans h.is, (hb.block _ hB.2.1).trans h.evb, (hb.block _ hB.2.2.1).trans h.to, h.tab.below hb hB.2.2.2.1, (hb.block _ hB.2.2.2.2).trans h.bd⟩
theorem LD.lt {W : World} {L : LB} {ev N : Nat} {T : Nat → Nat → Nat} (h : LD W L ev N T) : L.all (· < W.heap.size) := ⟨h.is.lt, h.evb.lt, h.to.lt, h.tab.lt, h.bd.lt⟩
theorem LD.kept {W W' : World} {L : LB} {ev N : Nat} {T : Nat → Nat → Nat} (h : LD W L ev N T) (hb : Below W.heap.size W W') : LD W' L ev N T := h.below hb h.lt


theorem TB.frozen {W : World} {g N : Nat} {T : Nat → Nat → Nat} (h : TB W g N T) (j : Nat) : W.frozen? ⟨g, j, none⟩ = false := by
  obtain ⟨cs, h1, h2, h3⟩ := h
  exact h1.frozen j

/-- One set of the table stored anew. -/
theorem TB.store {W : World} {g N p : Nat} {T : Nat → Nat → Nat} (h : TB W g N T) (hp : p < N) (U : Nat → Nat) :
    TB ((((W.setCell ⟨g, p * 4, none⟩ (.int .u64 (U 0))).setCell ⟨g, p * 4 + 1, none⟩ (.int .u64 (U 1))).setCell ⟨g, p * 4 + 2, none⟩ (.int .u64 (U 2))).setCell ⟨g, p * 4 + 3, none⟩ (.int .u64 (U 3))) g N (fun q => if q = p then U else T q) := by
  obtain ⟨cs, h1, h2, h3⟩ := h
  refine ⟨_, (((h1.set (p * 4) _).set (p * 4 + 1) _).set (p * 4 + 2) _).set (p * 4 + 3) _, by simp [h2], fun q j hq hj => ?_⟩
  simp only [Array.getElem?_setIfInBounds, Array.size_setIfInBounds]
  by_cases e : q = p
  · subst e
    have hj' : j = 0 ∨ j = 1 ∨ j = 2 ∨ j = 3 := by omega
    rcases hj' with rfl | rfl | rfl | rfl
    · simp [show q * 4 < cs.size by omega]
    · simp [show q * 4 + 1 < cs.size by omega]
    · simp [show q * 4 + 2 < cs.size by omega]
    · simp [show q * 4 + 3 < cs.size by omega]
  · have a0 : ¬ p * 4 = q * 4 + j := by omega
    have a1 : ¬ p * 4 + 1 = q * 4 + j := by omega
    have a2 : ¬ p * 4 + 2 = q * 4 + j := by omega
    have a3 : ¬ p * 4 + 3 = q * 4 + j := by omega
    rw [if_neg a3, if_neg a2, if_neg a1, if_neg a0, h3 q j hq hj, if_neg e]

theorem TB.made {W : World} {g N : Nat} (h : Blk W g 65 (madeCells #[.int .u64 0, .int .u64 0, .int .u64 0, .int .u64 0] (N * 4))) : TB W g N (fun _ => zeroS) := by
  refine ⟨_, h, size_madeCells _ _, fun p j hp hj => ?_⟩
  have hlt : p * 4 + j < N * 4 := by omega
  unfold madeCells
  rw [Array.getElem?_map, Array.getElem?_range, if_pos hlt]
  have hj' : j = 0 ∨ j = 1 ∨ j = 2 ∨ j = 3 := by omega
  have hm : (p * 4 + j) % 4 = j := by omega
  simp only [Option.map_some, List.size_toArray, List.length_cons, List.length_nil, Nat.reduceAdd, hm]
  rcases hj' with rfl | rfl | rfl | rfl <;> rfl

end Go.Proofs.YtdhgabpoaicjoaaDoor
namespace Go.Proofs.YtdhgabpoaicjoaaDoor
open Go.RowKit Go.Shelf
set_option linter.unusedVariables false
attribute [local go_sem] Oper.semAt_some

theorem Tryd.infoSet : (Tryd.prog.info? 65).map (fun i => (i.zero, i.size, i.bytes)) = some (some (sval zeroS), 4, 32) := by kernel_rfl

/-- What holds where a region is left as it should be. -/
def regQ (R : Act → World → Prop) : Exit → Act → World → Prop
  | .normal, a, w => R a w
  | _, _, _ => False
theorem regQ_imp {R : Act → World → Prop} {Q : Exit → Act → World → Prop} (h : ∀ a w, R a w → Q .normal a w) : ∀ e a w, regQ R e a w → Q e a w := fun e a w hr => by
  cases e <;> first | exact h a w hr | exact hr.elim

theorem Blk.other4' {W : World} {b b' : Nat} {t : TypeId} {cs : Array Value} (h : Blk W b t cs) (j : Nat) (hne : b ≠ b') (v0 v1 v2 v3 : Value) : Blk ((((W.setCell ⟨b', j, none⟩ v0).setCell ⟨b', j + 1, none⟩ v1).setCell ⟨b', j + 2, none⟩ v2).setCell ⟨b', j + 3, none⟩ v3) b t cs :=
  (((h.other hne v0).other hne v1).other hne v2).other hne v3
theorem below_set4' {W V : World} {B b' : Nat} (h : Below B V W) (j : Nat) (hb : B ≤ b') (v0 v1 v2 v3 : Value) : Below B V ((((W.setCell ⟨b', j, none⟩ v0).setCell ⟨b', j + 1, none⟩ v1).setCell ⟨b', j + 2, none⟩ v2).setCell ⟨b', j + 3, none⟩ v3) :=
  (((h.setCell (p := ⟨b', j, none⟩) hb v0).setCell (p := ⟨b', j + 1, none⟩) hb v1).setCell (p := ⟨b', j + 2, none⟩) hb v2).setCell (p := ⟨b', j + 3, none⟩) hb v3

theorem lead_ix {st ev x e : Nat} (hx : x < st) (he : e < ev) : x * ev + e < st * ev := by
  have : (x + 1) * ev ≤ st * ev := Nat.mul_le_mul_right _ hx
  rw [Nat.add_mul] at this
  omega

theorem own_SB {β : Type} (B : Nat) (S : β → Nat → Nat) : Go.Own (fun (s : β) W => SB W B (S s)) := by
  intro s W W' row h hg hr
  obtain ⟨hlt, hk⟩ := Array.getElem?_eq_some_iff.1 h
  exact (grownBy_keeps_cells hg hr (k := B) h rfl).trans h

def nbNats {N : Nat} (pre : List (NB N)) : List Nat := pre.map fun x => x.1
theorem nbNats_snoc {N : Nat} (pre : List (NB N)) (x : NB N) : nbNats (pre ++ [x]) = nbNats pre ++ [x.1] := by simp [nbNats]

theorem lead1_ix {st ev x e : Nat} (hx : x < st) (he : e < ev) : x * ev + e < st * ev := by
  have : (x + 1) * ev ≤ st * ev := Nat.mul_le_mul_right _ hx
  rw [Nat.add_mul] at this
  omega

end Go.Proofs.YtdhgabpoaicjoaaDoor
namespace Go.Proofs.YtdhgabpoaicjoaaDoor
open Go.RowKit
set_option linter.unusedVariables false

theorem Tryd.guardSet : Tryd.prog.eqGuardType Tryd.prog.depth 65 = false := by kernel_rfl
theorem Tryd.infoU64 : (Tryd.prog.info? 63).map (fun i => (i.zero, i.size, i.bytes)) = some (some (.int .u64 0), 1, 8) := by kernel_rfl

theorem run_guard_set (op : BinOp) (x y : Operand) (xs ys : Array Value) (w : World) : (eqGuard op 65 x y (.agg xs) (.agg ys)).run Tryd.prog w = .ok () w := run_eqGuard_agg w op 65 x y xs ys Tryd.guardSet

theorem run_equalIn_set (S : Nat → Nat) (w : World) : (Op.equalIn 10000 65 (sval S) (.agg #[.int .u64 0, .int .u64 0, .int .u64 0, .int .u64 0])).run Tryd.prog w = .ok (emptyB S) w := by
  obtain ⟨i0, hi, hz0, hz1, hz2⟩ := info_parts Tryd.infoU64
  rw [run_equalIn_array w 9999 _ _ Tryd.underlying65 hi]
  have hc : Tryd.prog.cellsOf 63 = 1 := by kernel_rfl
  have hl : List.range 4 = [0, 1, 2, 3] := rfl
  rw [hc, hl]
  unfold emptyB
  by_cases h0 : S 0 = 0 <;> by_cases h1 : S 1 = 0 <;> by_cases h2 : S 2 = 0 <;> by_cases h3 : S 3 = 0 <;> simp [Op.eqItems, go_sem, h0, h1, h2, h3]

end Go.Proofs.YtdhgabpoaicjoaaDoor
