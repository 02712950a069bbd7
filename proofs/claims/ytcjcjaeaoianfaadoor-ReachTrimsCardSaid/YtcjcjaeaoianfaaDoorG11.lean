/-
  The walk of Set.Row: the row of a set's numbers.
  A table of sets in memory, and what the closure of machine.Leader knows.
  Small facts on sets in memory, for the walks that range over a set or fill a table of sets.
  What is said on the way through reach.part: what lies where.
-/
import Derived.Test.YtcjcjaeaoianfaaDoorCSetIter
import Derived.Test.YtcjcjaeaoianfaaDoorG03
import Derived.Laws.MakeOwn
import Derived.OwnWalk
import Derived.Deep.RegionWith
import Derived.Test.YtcjcjaeaoianfaaDoorG06
import Derived.Test.YtcjcjaeaoianfaaDoorG07
import Derived.Deep.RegionHeld3
namespace Go.Proofs.YtcjcjaeaoianfaaDoor
open Go.RowKit Go.Shelf
set_option linter.unusedVariables false
attribute [local go_sem] Oper.semAt_some

/-- A set's numbers, each with a bound. -/
theorem nb_of {N : Nat} : ∀ (l : List Nat), (∀ k ∈ l, k < N) → ∃ xs : List (NB N), xs.map (·.1) = l
  | [], _ => ⟨[], rfl⟩
  | a :: r, h => by
    obtain ⟨xs, hx⟩ := nb_of r (fun k hk => h k (by simp [hk]))
    exact ⟨⟨a, h a (by simp)⟩ :: xs, by simp [hx]⟩

def nbInts {N : Nat} (pre : List (NB N)) : List Int := pre.map fun x => (x.1 : Int)
theorem nbInts_snoc {N : Nat} (pre : List (NB N)) (x : NB N) : nbInts (pre ++ [x]) = nbInts pre ++ [(x.1 : Int)] := by simp [nbInts]
theorem nbInts_len {N : Nat} (pre : List (NB N)) : (nbInts pre).length = pre.length := by simp [nbInts]

set_option maxRecDepth 100000 in
set_option maxHeartbeats 4000000 in
theorem row_in (S : Nat → Nat) (hS : okS S) (w : World) (hT : Tab w) :
    CallsIn Fence.wide 5 Tryd.prog 39 #[sval S] w fun e W' => Gives w (rowS S) e W' := by
  obtain ⟨i0, hi, hz0, hz1, hz2⟩ := info_parts Tryd.infoInt
  obtain ⟨xs, hxs⟩ := nb_of (N := 256) (allS S) (fun k hk => ((mem_allS S k).1 hk).1)
  have hlen : xs.length ≤ 256 := by have := allS_len S; rw [← hxs, List.length_map] at this; exact this
  have hrow : nbInts xs = rowS S := by unfold nbInts rowS; rw [← hxs, List.map_map]; rfl
  refine callsIn_of_wp_marks Tryd.func39 rfl trivial ?_ rfl
  simp only [Tryd.ntmps39, List.size_toArray, List.length_cons, List.length_nil, Nat.reduceAdd, Nat.reduceSub, Array.replicate_succ, Array.replicate_zero, List.push_toArray, List.append_toArray, List.nil_append, List.cons_append]
  gi_wp2_with (refine ⟨trivial, ?_⟩; refine CallsIn.mono (callsIn_wide.2 (all_any S _)) ?_; rintro e w1 ⟨rfl, rfl⟩)
  have bO : Boxed (((w.alloc (.cells (scells S) 55)).alloc (.cells #[.slice none 0 0] 22)).alloc (.cells (scells S) 55)) (w.heap.size + 1) 22 (.slice none 0 0) := by
    have := (Boxed.new (w.alloc (.cells (scells S) 55)) 22 (.slice none 0 0)).alloc (.cells (scells S) 55)
    rwa [World.size_alloc] at this
  have bN : SB (((w.alloc (.cells (scells S) 55)).alloc (.cells #[.slice none 0 0] 22)).alloc (.cells (scells S) 55)) (w.heap.size + 1 + 1) S := by
    have := Blk.new ((w.alloc (.cells (scells S) 55)).alloc (.cells #[.slice none 0 0] 22)) 55 (scells S)
    rwa [World.size_alloc, World.size_alloc] at this
  have hB0 : Below w.heap.size w (((w.alloc (.cells (scells S) 55)).alloc (.cells #[.slice none 0 0] 22)).alloc (.cells (scells S) 55)) := (((Below.refl _ w).alloc (Nat.le_refl _) _).alloc (by simp) _).alloc (by simp; omega) _
  have hsz : (((w.alloc (.cells (scells S) 55)).alloc (.cells #[.slice none 0 0] 22)).alloc (.cells (scells S) 55)).heap.size = w.heap.size + 3 := by simp
  have hT0 := hT.below hB0 hT.lt
  revert bO bN hB0 hsz hT0
  generalize ((w.alloc (.cells (scells S) 55)).alloc (.cells #[.slice none 0 0] 22)).alloc (.cells (scells S) 55) = W0
  intro bO bN hB0 hsz hT0
  refine wpIn_rangeFunc_ownG rfl (by omega) (gf := 99) (lb := #[.pointer (some ⟨w.heap.size + 1 + 1, 0, none⟩)]) rfl trivial (enters_of Tryd.func99 (by kernel_rfl) rfl)
    (all_stops 4 (by omega) (w.heap.size + 1 + 1) w.heap.size S hS xs hxs hT.lt W0 (by omega) bN hT0) belowK_t (belowK_b (by omega)) (Below.refl _ _) (fun _ => rfl)
    (fun pre W => (∃ v, Boxed W (w.heap.size + 1) 22 v ∧ W.ownsRow w.heap.size 3 1 v (nbInts pre).length ((nbInts pre).map (Value.int .i64)) ∧ True) ∧ Below w.heap.size w W)
    (fun _ _ _ => False)
    (OwnFrom.and (Go.Own.from (holdsRow_own w.heap.size (w.heap.size + 1) 22 3 1 (fun pre : List (NB 256) => (nbInts pre).length) (fun pre => (nbInts pre).map (Value.int .i64)) (fun _ _ => True)) _) (ownFrom_below (Nat.le_refl _) (by omega)))
    (fun _ _ _ _ _ hs _ _ => hs)
    ⟨⟨_, bO, World.ownsRow_nil _ _ _ _, trivial⟩, hB0⟩
    (fun x => { tmps := #[sval S, .pointer (some ⟨w.heap.size, 0, none⟩), .slice none 0 0, .pointer (some ⟨w.heap.size + 1, 0, none⟩), .int .i64 (x.1 : Int), sval S, .func (.func 99) #[] #[.pointer (some ⟨w.heap.size + 1 + 1, 0, none⟩)], .int .i64 (x.1 : Int), undef, undef, undef, undef, undef], defers := [] }) ?assign ?body ?done ?stop
  case assign =>
    intro l x W K hK
    gi_wp2
    exact hK
  case body =>
    rintro l pre x W ⟨⟨v, hv, hrw, -⟩, hB⟩ hlt
    have hc := hv.cell
    have hpl := nbInts_len pre
    have HL := Hid.of hpl
    have hl2 : (nbInts pre).length ≤ 256 := by omega
    clear hpl
    gi_wp2_with (gi_at_builtin; refine wpListIn_append_own _ rfl _ _ 22 rfl w.heap.size 3 i0 (.int .i64 0) 1 8 Tryd.underlying22 hi hz0 hz1 hz2 rfl (by decide) _ _ _ rfl (hrw.alloc _) ⟨W.heap.size, 0, none⟩ 1 1 [.int .i64 (x.1 : Int)] rfl rfl (cell_one_new _ _ _) (by simp [Value.oneCell']) (by unfold maxLen; omega) (by omega) (by have := hB.size; simp; omega) ?_; intro v' w1 hown' hgrow _; obtain ⟨g', cap', rfl⟩ := ownsRow_succ hown'; obtain ⟨hv1, hv2, hr2, hk2, hb2⟩ := hv.appended (by decide) hrw hB.size (by omega) hown' hgrow; have hc1 := hv1.cell; have hf1 := hv1.frozen)
    exact ⟨hk2.from _, hb2, ⟨_, hv2, by rw [nbInts_snoc]; simpa using hr2, trivial⟩, hB.trans hb2⟩
  case done =>
    rintro D ys W hD rfl ⟨⟨v, hv, hrw, -⟩, hB⟩ hK
    have hc := hv.cell
    rw [hrow] at hrw
    gi_wp2
    refine ⟨by simp, .inl ⟨_, _, rfl, run_takeDeferred hK, ?_⟩⟩
    refine ⟨_, results_tmp rfl _ _ _, ?_⟩
    exact gives_of_own (B := w.heap.size) (show Own _ _ v (rowS S) from ownsRow_putObj hrw _ hK rfl) (hB.trans (belowK_b (w := w) (Nat.le_refl _) W D _ _ (by omega) hK rfl rfl))
  case stop =>
    rintro D c pre W _ _ h _
    exact h.elim

theorem row_any (S : Nat → Nat) (w : World) (hS : okS S) (hT : Tab w) : Calls Tryd.prog 39 #[sval S] w fun e W' => Gives w (rowS S) e W' :=
  callsIn_wide.1 (row_in S hS w hT)

end Go.Proofs.YtcjcjaeaoianfaaDoor
namespace Go.Proofs.YtcjcjaeaoianfaaDoor
open Go.RowKit Go.Shelf
set_option linter.unusedVariables false
attribute [local go_sem] Oper.semAt_some

/-- A table of N sets lies in block g. -/
def TB (W : World) (g N : Nat) (T : Nat → Nat → Nat) : Prop := ∃ cs, Blk W g 55 cs ∧ cs.size = N * 4 ∧ ∀ p j, p < N → j < 4 → cs[p * 4 + j]? = some (.int .u64 (T p j))

theorem TB.cells {W : World} {g N : Nat} {T : Nat → Nat → Nat} (h : TB W g N T) {p : Nat} (hp : p < N) : W.cell? ⟨g, p * 4, none⟩ = some (.int .u64 (T p 0)) ∧ W.cell? ⟨g, p * 4 + 1, none⟩ = some (.int .u64 (T p 1)) ∧ W.cell? ⟨g, p * 4 + 2, none⟩ = some (.int .u64 (T p 2)) ∧ W.cell? ⟨g, p * 4 + 3, none⟩ = some (.int .u64 (T p 3)) := by
  obtain ⟨cs, hb, hs, hc⟩ := h
  exact ⟨hb.cell _ (hc p 0 hp (by omega)), hb.cell _ (hc p 1 hp (by omega)), hb.cell _ (hc p 2 hp (by omega)), hb.cell _ (hc p 3 hp (by omega))⟩
theorem TB.below {W W' : World} {g N B : Nat} {T : Nat → Nat → Nat} (h : TB W g N T) (hb : Below B W W') (hB : g < B) : TB W' g N T := by
  obtain ⟨cs, h1, h2, h3⟩ := h
  exact ⟨cs, h1.below hb hB, h2, h3⟩
theorem TB.lt {W : World} {g N : Nat} {T : Nat → Nat → Nat} (h : TB W g N T) : g < W.heap.size := by
  obtain ⟨cs, h1, h2, h3⟩ := h
  exact h1.lt

/-- The blocks that machine.Leader's closure knows: isEvent's, events', to's, the table, within's own. -/
structure LB where
  pi : Nat
  pe : Nat
  pt : Nat
  pg : Nat
  pb : Nat
def LB.all (L : LB) (P : Nat → Prop) : Prop := P L.pi ∧ P L.pe ∧ P L.pt ∧ P L.pg ∧ P L.pb
theorem LB.all.imp {L : LB} {P Q : Nat → Prop} (h : L.all P) (hi : ∀ n, P n → Q n) : L.all Q := ⟨hi _ h.1, hi _ h.2.1, hi _ h.2.2.1, hi _ h.2.2.2.1, hi _ h.2.2.2.2⟩
theorem LB.all.and {L : LB} {P Q : Nat → Prop} (h : L.all P) (h' : L.all Q) : L.all fun n => P n ∧ Q n := ⟨⟨h.1, h'.1⟩, ⟨h.2.1, h'.2.1⟩, ⟨h.2.2.1, h'.2.2.1⟩, ⟨h.2.2.2.1, h'.2.2.2.1⟩, ⟨h.2.2.2.2, h'.2.2.2.2⟩⟩
/-- The closure. -/
abbrev leadV (L : LB) : Value := .func (.func 93) #[] #[.pointer (some ⟨L.pi, 0, none⟩), .pointer (some ⟨L.pe, 0, none⟩), .pointer (some ⟨L.pt, 0, none⟩)]
abbrev isV (pb : Nat) : Value := .func (.func 94) #[] #[.pointer (some ⟨pb, 0, none⟩)]
/-- What the closure knows. -/
structure LD (W : World) (L : LB) (ev N : Nat) (T : Nat → Nat → Nat) : Prop where
  is : Boxed W L.pi 95 (isV L.pb)
  evb : Boxed W L.pe 3 (.int .i64 ev)
  to : Boxed W L.pt 80 (.slice (some ⟨L.pg, 0, none⟩) N N)
  tab : TB W L.pg N T
  bd : Boxed W L.pb 3 (.int .i64 ev)
theorem LD.below {W W' : World} {B : Nat} {L : LB} {ev N : Nat} {T : Nat → Nat → Nat} (h : LD W L ev N T) (hb : Below B W W') (hB : L.all (· < B)) : LD W' L ev N T :=
  ⟨(hb.block _ hB.1).trans h.is, (hb.block _ hB.2.1).trans h.evb, (hb.block _ hB.2.2.1).trans h.to, h.tab.below hb hB.2.2.2.1, (hb.block _ hB.2.2.2.2).trans h.bd⟩
theorem LD.lt {W : World} {L : LB} {ev N : Nat} {T : Nat → Nat → Nat} (h : LD W L ev N T) : L.all (· < W.heap.size) := ⟨h.is.lt, h.evb.lt, h.to.lt, h.tab.lt, h.bd.lt⟩
theorem LD.kept {W W' : World} {L : LB} {ev N : Nat} {T : Nat → Nat → Nat} (h : LD W L ev N T) (hb : Below W.heap.size W W') : LD W' L ev N T := h.below hb h.lt


theorem TB.frozen {W : World} {g N : Nat} {T : Nat → Nat → Nat} (h : TB W g N T) (j : Nat) : W.frozen? ⟨g, j, none⟩ = false := by
  obtain ⟨cs, h1, h2, h3⟩ := h
  exact h1.frozen j

/-- One set of the table stored anew. -/
theorem TB.store {W : World} {g N p : Nat} {T : Nat → Nat → Nat} (h : TB W g N T) (hp : p < N) (U : Nat → Nat) :
    TB ((((W.setCell ⟨g, p * 4, none⟩ (.int .u64 (U 0))).setCell ⟨g, p * 4 + 1, none⟩ (.int .u64 (U 1))).setCell ⟨g, p * 4 + 2, none⟩ (.int .u64 (U 2))).setCell ⟨g, p * 4 + 3, none⟩ (.int .u64 (U 3))) g N (fun q => if q = p then U else T q) := by
  obtain ⟨cs, h1, h2, h3⟩ := h
  refine ⟨_, (((h1.set (p * 4) _).set (p * 4 + 1) _).set (p * 4 + 2) _).set (p * 4 + 3) _, by simp [h2], fun q j hq hj => ?_⟩
  simp only [Array.getElem?_setIfInBounds, Array.size_setIfInBounds]
  by_cases e : q = p
  · subst e
    have hj' : j = 0 ∨ j = 1 ∨ j = 2 ∨ j = 3 := by omega
    rcases hj' with rfl | rfl | rfl | rfl
    · simp [show q * 4 < cs.size by omega]
    · simp [show q * 4 + 1 < cs.size by omega]
    · simp [show q * 4 + 2 < cs.size by omega]
    · simp [show q * 4 + 3 < cs.size by omega]
  · have a0 : ¬ p * 4 = q * 4 + j := by omega
    have a1 : ¬ p * 4 + 1 = q * 4 + j := by omega
    have a2 : ¬ p * 4 + 2 = q * 4 + j := by omega
    have a3 : ¬ p * 4 + 3 = q * 4 + j := by omega
    rw [if_neg a3, if_neg a2, if_neg a1, if_neg a0, h3 q j hq hj, if_neg e]

theorem TB.made {W : World} {g N : Nat} (h : Blk W g 55 (madeCells #[.int .u64 0, .int .u64 0, .int .u64 0, .int .u64 0] (N * 4))) : TB W g N (fun _ => zeroS) := by
  refine ⟨_, h, size_madeCells _ _, fun p j hp hj => ?_⟩
  have hlt : p * 4 + j < N * 4 := by omega
  unfold madeCells
  rw [Array.getElem?_map, Array.getElem?_range, if_pos hlt]
  have hj' : j = 0 ∨ j = 1 ∨ j = 2 ∨ j = 3 := by omega
  have hm : (p * 4 + j) % 4 = j := by omega
  simp only [Option.map_some, List.size_toArray, List.length_cons, List.length_nil, Nat.reduceAdd, hm]
  rcases hj' with rfl | rfl | rfl | rfl <;> rfl

end Go.Proofs.YtcjcjaeaoianfaaDoor
namespace Go.Proofs.YtcjcjaeaoianfaaDoor
open Go.RowKit Go.Shelf
set_option linter.unusedVariables false
attribute [local go_sem] Oper.semAt_some

theorem Tryd.infoSet : (Tryd.prog.info? 55).map (fun i => (i.zero, i.size, i.bytes)) = some (some (sval zeroS), 4, 32) := by kernel_rfl

/-- What holds where a region is left as it should be. -/
def regQ (R : Act → World → Prop) : Exit → Act → World → Prop
  | .normal, a, w => R a w
  | _, _, _ => False
theorem regQ_imp {R : Act → World → Prop} {Q : Exit → Act → World → Prop} (h : ∀ a w, R a w → Q .normal a w) : ∀ e a w, regQ R e a w → Q e a w := fun e a w hr => by
  cases e <;> first | exact h a w hr | exact hr.elim

theorem Blk.other4' {W : World} {b b' : Nat} {t : TypeId} {cs : Array Value} (h : Blk W b t cs) (j : Nat) (hne : b ≠ b') (v0 v1 v2 v3 : Value) : Blk ((((W.setCell ⟨b', j, none⟩ v0).setCell ⟨b', j + 1, none⟩ v1).setCell ⟨b', j + 2, none⟩ v2).setCell ⟨b', j + 3, none⟩ v3) b t cs :=
  (((h.other hne v0).other hne v1).other hne v2).other hne v3
theorem below_set4' {W V : World} {B b' : Nat} (h : Below B V W) (j : Nat) (hb : B ≤ b') (v0 v1 v2 v3 : Value) : Below B V ((((W.setCell ⟨b', j, none⟩ v0).setCell ⟨b', j + 1, none⟩ v1).setCell ⟨b', j + 2, none⟩ v2).setCell ⟨b', j + 3, none⟩ v3) :=
  (((h.setCell (p := ⟨b', j, none⟩) hb v0).setCell (p := ⟨b', j + 1, none⟩) hb v1).setCell (p := ⟨b', j + 2, none⟩) hb v2).setCell (p := ⟨b', j + 3, none⟩) hb v3

theorem lead_ix {st ev x e : Nat} (hx : x < st) (he : e < ev) : x * ev + e < st * ev := by
  have : (x + 1) * ev ≤ st * ev := Nat.mul_le_mul_right _ hx
  rw [Nat.add_mul] at this
  omega

theorem own_SB {β : Type} (B : Nat) (S : β → Nat → Nat) : Go.Own (fun (s : β) W => SB W B (S s)) := by
  intro s W W' row h hg hr
  obtain ⟨hlt, hk⟩ := Array.getElem?_eq_some_iff.1 h
  exact (grownBy_keeps_cells hg hr (k := B) h rfl).trans h

def nbNats {N : Nat} (pre : List (NB N)) : List Nat := pre.map fun x => x.1
theorem nbNats_snoc {N : Nat} (pre : List (NB N)) (x : NB N) : nbNats (pre ++ [x]) = nbNats pre ++ [x.1] := by simp [nbNats]

theorem lead1_ix {st ev x e : Nat} (hx : x < st) (he : e < ev) : x * ev + e < st * ev := by
  have : (x + 1) * ev ≤ st * ev := Nat.mul_le_mul_right _ hx
  rw [Nat.add_mul] at this
  omega

end Go.Proofs.YtcjcjaeaoianfaaDoor
namespace Go.Proofs.YtcjcjaeaoianfaaDoor
open Go.RowKit
set_option linter.unusedVariables false

theorem Own.kept {w w' : World} {B B' : Nat} {v : Value} {L : List Int} (h : Own w B v L) (hb : Below B' w w') (hB : w.heap.size ≤ B') : Own w' B v L := by
  refine ⟨h.1, ?_⟩
  rcases h.2 with hn | ⟨g, cap, cur, rfl, hg, hgg, rest⟩
  · exact .inl hn
  · exact .inr ⟨g, cap, cur, rfl, hg, (hb.block g (Nat.lt_of_lt_of_le (Array.getElem?_eq_some_iff.1 hgg).1 hB)).trans hgg, rest⟩

theorem AtX.set5 {w : World} {r bn : Nat} {a : Option Addr} {xs : List Int} (h : AtX w r bn a xs) (v0 v1 v2 v3 v4 : Value) : AtX (((((w.setCell ⟨bn, 0, none⟩ v0).setCell ⟨bn, 1, none⟩ v1).setCell ⟨bn, 2, none⟩ v2).setCell ⟨bn, 3, none⟩ v3).setCell ⟨bn, 4, none⟩ v4) r bn a xs :=
  ((((h.set v0).set v1).set v2).set v3).set v4
/-- Where a slice lies, and its room. -/
structure AtC (w : World) (r bn : Nat) (a : Option Addr) (c : Nat) (xs : List Int) : Prop where
  at' : AtX w r bn a xs
  c1 : xs.length ≤ c
  c2 : c ≤ maxLen
  c3 : a = none → c = 0
  lo : xs = [] ∨ ∃ b off, a = some ⟨b, off, none⟩ ∧ r < b
theorem own_atC {w : World} {B n c : Nat} {a : Option Addr} {xs : List Int} (h : Own w B (.slice a n c) xs) (r bn : Nat) (hr : r < B) (hn : bn < B ∨ w.heap.size ≤ bn) : AtC w r bn a c xs := by
  obtain ⟨a', c', e, h1, h2, h3, h4⟩ := own_atX h r bn hr hn
  cases e
  refine ⟨h1, h2, h3, h4, ?_⟩
  rcases h.cells_of with ⟨-, h0⟩ | ⟨g, cap, h0, h5, -, -, -⟩
  · exact .inl h0
  · cases h0; exact .inr ⟨g, 0, rfl, by omega⟩
theorem AtC.below {w w' : World} {r bn c : Nat} {a : Option Addr} {xs : List Int} (h : AtC w r bn a c xs) (hb : Below w.heap.size w w') : AtC w' r bn a c xs := ⟨h.at'.below hb, h.c1, h.c2, h.c3, h.lo⟩
theorem AtC.set5 {w : World} {r bn c : Nat} {a : Option Addr} {xs : List Int} (h : AtC w r bn a c xs) (v0 v1 v2 v3 v4 : Value) : AtC (((((w.setCell ⟨bn, 0, none⟩ v0).setCell ⟨bn, 1, none⟩ v1).setCell ⟨bn, 2, none⟩ v2).setCell ⟨bn, 3, none⟩ v3).setCell ⟨bn, 4, none⟩ v4) r bn a c xs := ⟨h.at'.set5 v0 v1 v2 v3 v4, h.c1, h.c2, h.c3, h.lo⟩
abbrev ocells (M ev : Int) (sa : Option Addr) (sn sc : Nat) (v : Value) (ea : Option Addr) (en ec : Nat) : Array Value := #[.int .i64 M, .int .i64 ev, .slice sa sn sc, v, .slice ea en ec]
/-- What the walk knows where the machine has been laid out. -/
structure PI (w V W : World) (b6 : Nat) (m : Mach) (T : List Int) (M : Int) (sa : Option Addr) (sc : Nat) (ea : Option Addr) (ec : Nat) : Prop where
  out : Blk W b6 25 (ocells M m.ev sa (placesL T m.starts).length sc (.slice none 0 0) ea (placesL T m.ends).length ec)
  bel : Below V.heap.size V W
  lo : V.heap.size ≤ b6
  aS : AtC W (w.heap.size + 1) b6 sa sc (placesL T m.starts)
  aE : AtC W (w.heap.size + 1) b6 ea ec (placesL T m.ends)

theorem Kp.atC {bn r c : Nat} {X W : World} {a : Option Addr} {xs : List Int} (h : Kp bn X W) (ha : AtC X r bn a c xs) : AtC W r bn a c xs := by
  refine ⟨?_, ha.c1, ha.c2, ha.c3, ha.lo⟩
  rcases ha.at' with h0 | ⟨b, off, h1, h2, h3, h4⟩
  · exact .inl h0
  · exact .inr ⟨b, off, h1, h2, Nat.lt_of_lt_of_le h3 h.size, fun j hj => (World.cell?_of_block (w := X) (h.same b h3 h2.1)).trans (h4 j hj)⟩
theorem AtC.setr5 {w : World} {r bn c : Nat} {a : Option Addr} {xs : List Int} (h : AtC w r bn a c xs) (v0 v1 v2 v3 v4 : Value) : AtC (((((w.setCell ⟨r, 0, none⟩ v0).setCell ⟨r, 1, none⟩ v1).setCell ⟨r, 2, none⟩ v2).setCell ⟨r, 3, none⟩ v3).setCell ⟨r, 4, none⟩ v4) r bn a c xs :=
  ⟨((((h.at'.setr v0).setr v1).setr v2).setr v3).setr v4, h.c1, h.c2, h.c3, h.lo⟩
theorem OwnA.set {W : World} {B b j : Nat} {v : Value} {L : List Arr} (h : OwnA W B v L) (hb : b < B) (x : Value) : OwnA (W.setCell ⟨b, j, none⟩ x) B v L := by
  refine ⟨h.1, ?_⟩
  rcases h.2 with hn | ⟨g, cap, cur, rfl, hg, hgg, rest⟩
  · exact .inl hn
  · exact .inr ⟨g, cap, cur, rfl, hg, (Below.heap_setCell W ⟨b, j, none⟩ x g (by show g ≠ b; omega)).trans hgg, rest⟩
theorem OwnA.set5 {W : World} {B b : Nat} {v : Value} {L : List Arr} (h : OwnA W B v L) (hb : b < B) (v0 v1 v2 v3 v4 : Value) : OwnA (((((W.setCell ⟨b, 0, none⟩ v0).setCell ⟨b, 1, none⟩ v1).setCell ⟨b, 2, none⟩ v2).setCell ⟨b, 3, none⟩ v3).setCell ⟨b, 4, none⟩ v4) B v L :=
  ((((h.set hb v0).set hb v1).set hb v2).set hb v3).set hb v4

/-- What holds from round to round: the machine's block, its arrows so far. -/
structure PL (w X W : World) (b6 : Nat) (m : Mach) (T : List Int) (M : Int) (sa : Option Addr) (sc : Nat) (ea : Option Addr) (ec : Nat) (v : Value) (L : List Arr) : Prop where
  out : Blk W b6 25 (ocells M m.ev sa (placesL T m.starts).length sc v ea (placesL T m.ends).length ec)
  own : OwnA W X.heap.size v L
  kp : Kp b6 X W
  bel : Below w.heap.size w W
theorem PL.alloc {w X W : World} {b6 : Nat} {m : Mach} {T : List Int} {M : Int} {sa : Option Addr} {sc : Nat} {ea : Option Addr} {ec : Nat} {v : Value} {L : List Arr} (h : PL w X W b6 m T M sa sc ea ec v L) (o : Obj) : PL w X (W.alloc o) b6 m T M sa sc ea ec v L :=
  ⟨h.out.alloc o, World.ownsRow.alloc h.own o, h.kp.alloc o, h.bel.alloc h.bel.size o⟩
/-- One arrow more. -/
theorem PL.grow {w X W W' : World} {b6 : Nat} {m : Mach} {T : List Int} {M : Int} {sa : Option Addr} {sc : Nat} {ea : Option Addr} {ec : Nat} {v v' : Value} {L L' : List Arr} {o o' : Obj} (h : PL w X W b6 m T M sa sc ea ec v L) (hlo : w.heap.size ≤ b6) (hX : b6 < X.heap.size) (hown : OwnA W' X.heap.size v' L') (g : ((W.alloc o).alloc o').grownBy W' v.ownBlock) :
    Blk W' b6 25 (ocells M m.ev sa (placesL T m.starts).length sc v ea (placesL T m.ends).length ec) ∧ PL w X (W'.setCell ⟨b6, 3, none⟩ v') b6 m T M sa sc ea ec v' L' := by
  have h2 := (h.alloc o).alloc o'
  have hr : ∀ j, v.ownBlock = some j → X.heap.size ≤ j := fun j hj => (World.ownsRow.lt h.own j hj).1
  have b1 : Blk W' b6 25 (ocells M m.ev sa (placesL T m.starts).length sc v ea (placesL T m.ends).length ec) := (g.block b6 h2.out.lt (fun e => by have := hr b6 e.symm; omega)).trans h2.out
  have hwX : w.heap.size ≤ X.heap.size := Nat.le_trans hlo (Nat.le_of_lt hX)
  refine ⟨b1, b1.set 3 v', hown.set hX v', (h2.kp.grown g hr).set 3 v', ?_⟩
  exact (h2.bel.grown g h2.bel.size (fun j hj => Nat.le_trans hwX (hr j hj))).setCell (p := ⟨b6, 3, none⟩) hlo v'

/-- A machine's slices lie from block B on. -/
structure FrM (B : Nat) (m : Mach) (l : ML) : Prop where
  s : m.starts = [] ∨ ∃ b off, l.a1 = some ⟨b, off, none⟩ ∧ B ≤ b
  a : m.arrows = [] ∨ ∃ b off, l.a2 = some ⟨b, off, none⟩ ∧ B ≤ b
  e : m.ends = [] ∨ ∃ b off, l.a3 = some ⟨b, off, none⟩ ∧ B ≤ b
theorem At.set {w : World} {a : Option Addr} {xs : List Int} {B b j : Nat} (h : At w a xs) (hf : xs = [] ∨ ∃ b off, a = some ⟨b, off, none⟩ ∧ B ≤ b) (hb : b < B) (v : Value) : At (w.setCell ⟨b, j, none⟩ v) a xs := by
  rcases h with h | ⟨g, off, h1, h2, h3⟩
  · exact .inl h
  · rcases hf with hf | ⟨g', off', h1', h4⟩
    · exact .inl hf
    · rw [h1] at h1'; cases h1'
      exact .inr ⟨g, off, h1, by rw [size_set]; exact h2, fun i hi => (World.cell?_of_block (w := w) (Below.heap_setCell w ⟨b, j, none⟩ v g (by show g ≠ b; omega))).trans (h3 i hi)⟩
theorem AtA.set {w : World} {a : Option Addr} {xs : List Arr} {B b j : Nat} (h : AtA w a xs) (hf : xs = [] ∨ ∃ b off, a = some ⟨b, off, none⟩ ∧ B ≤ b) (hb : b < B) (v : Value) : AtA (w.setCell ⟨b, j, none⟩ v) a xs := by
  rcases h with h | ⟨g, off, h1, h2, h3⟩
  · exact .inl h
  · rcases hf with hf | ⟨g', off', h1', h4⟩
    · exact .inl hf
    · rw [h1] at h1'; cases h1'
      have e : ∀ q, (w.setCell ⟨b, j, none⟩ v).cell? ⟨g, q, none⟩ = w.cell? ⟨g, q, none⟩ := fun q => World.cell?_of_block (w := w) (Below.heap_setCell w ⟨b, j, none⟩ v g (by show g ≠ b; omega))
      exact .inr ⟨g, off, h1, by rw [size_set]; exact h2, fun i hi => by rw [e, e, e]; exact h3 i hi⟩
theorem MAt.set {w : World} {m : Mach} {l : ML} {B b j : Nat} (h : MAt w m l) (hf : FrM B m l) (hb : b < B) (v : Value) : MAt (w.setCell ⟨b, j, none⟩ v) m l :=
  ⟨h.s.set hf.s hb v, h.a.set hf.a hb v, h.e.set hf.e hb v, h.s1, h.s2, h.s3, h.a1, h.a2, h.a3, h.e1, h.e2, h.e3⟩
theorem MAt.set5 {w : World} {m : Mach} {l : ML} {B b : Nat} (h : MAt w m l) (hf : FrM B m l) (hb : b < B) (v0 v1 v2 v3 v4 : Value) : MAt (((((w.setCell ⟨b, 0, none⟩ v0).setCell ⟨b, 1, none⟩ v1).setCell ⟨b, 2, none⟩ v2).setCell ⟨b, 3, none⟩ v3).setCell ⟨b, 4, none⟩ v4) m l :=
  ((((h.set hf hb v0).set hf hb v1).set hf hb v2).set hf hb v3).set hf hb v4
theorem At.set5 {w : World} {a : Option Addr} {xs : List Int} {B b : Nat} (h : At w a xs) (hf : xs = [] ∨ ∃ b off, a = some ⟨b, off, none⟩ ∧ B ≤ b) (hb : b < B) (v0 v1 v2 v3 v4 : Value) : At (((((w.setCell ⟨b, 0, none⟩ v0).setCell ⟨b, 1, none⟩ v1).setCell ⟨b, 2, none⟩ v2).setCell ⟨b, 3, none⟩ v3).setCell ⟨b, 4, none⟩ v4) a xs :=
  ((((h.set hf hb v0).set hf hb v1).set hf hb v2).set hf hb v3).set hf hb v4
theorem Own.fr {w : World} {B n c : Nat} {a : Option Addr} {xs : List Int} (h : Own w B (.slice a n c) xs) : xs = [] ∨ ∃ b off, a = some ⟨b, off, none⟩ ∧ B ≤ b := by
  rcases h.cells_of with ⟨-, h0⟩ | ⟨g, cap, h0, h5, -, -, -⟩
  · exact .inl h0
  · cases h0; exact .inr ⟨g, 0, rfl, h5⟩
theorem OwnA.fr {w : World} {B n c : Nat} {a : Option Addr} {xs : List Arr} (h : OwnA w B (.slice a n c) xs) : xs = [] ∨ ∃ b off, a = some ⟨b, off, none⟩ ∧ B ≤ b := by
  rcases h.forms with ⟨-, h0⟩ | ⟨g, cap, h0, h5, -⟩
  · exact .inl h0
  · cases h0; exact .inr ⟨g, 0, rfl, h5⟩
theorem fr_mono {a : Option Addr} {n : Prop} {B B' : Nat} (h : n ∨ ∃ b off, a = some ⟨b, off, none⟩ ∧ B ≤ b) (hB : B' ≤ B) : n ∨ ∃ b off, a = some ⟨b, off, none⟩ ∧ B' ≤ b := by
  rcases h with h | ⟨b, off, h1, h2⟩
  · exact .inl h
  · exact .inr ⟨b, off, h1, by omega⟩

/-- The machine of those states that stay. -/
def partM (m : Mach) (T : List Int) (M : Int) : Mach := ⟨M, m.ev, placesL T m.starts, trimA T m.arrows, placesL T m.ends⟩

end Go.Proofs.YtcjcjaeaoianfaaDoor
