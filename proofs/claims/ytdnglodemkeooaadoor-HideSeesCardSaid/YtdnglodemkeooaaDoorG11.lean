/-
  The walk of Set.Row: the row of a set's numbers.
  A table of sets in memory, and what the closure of machine.Leader knows.
  Small facts on sets in memory, for the walks that range over a set or fill a table of sets.
  Plain: arrows put in order one after the other.
  Plain mathematics of a machine trimmed: the states that are in both, numbered anew; it accepts the same words. No program, no model.
  Plain mathematics of what a set of states leads to, in any number of steps. No program, no model.
  The walks of Set.Meet and Set.Less.
-/
import Derived.Test.YtdnglodemkeooaaDoorCSetIter
import Derived.Laws.MakeOwn
import Derived.Test.YtdnglodemkeooaaDoorG04
import Derived.OwnWalk
import Derived.Deep.RegionWith
import Derived.Test.YtdnglodemkeooaaDoorG03
import Derived.Laws.BitsAllLaws
import Derived.Test.YtdnglodemkeooaaDoorCSetOps
namespace Go.Proofs.YtdnglodemkeooaaDoor
open Go.RowKit Go.Shelf
set_option linter.unusedVariables false
attribute [local go_sem] Oper.semAt_some

/-- A set's numbers, each with a bound. -/
theorem nb_of {N : Nat} : ∀ (l : List Nat), (∀ k ∈ l, k < N) → ∃ xs : List (NB N), xs.map (·.1) = l
  | [], _ => ⟨[], rfl⟩
  | a :: r, h => by
    obtain ⟨xs, hx⟩ := nb_of r (fun k hk => h k (by simp [hk]))
    exact ⟨⟨a, h a (by simp)⟩ :: xs, by simp [hx]⟩

def nbInts {N : Nat} (pre : List (NB N)) : List Int := pre.map fun x => (x.1 : Int)
theorem nbInts_snoc {N : Nat} (pre : List (NB N)) (x : NB N) : nbInts (pre ++ [x]) = nbInts pre ++ [(x.1 : Int)] := by simp [nbInts]
theorem nbInts_len {N : Nat} (pre : List (NB N)) : (nbInts pre).length = pre.length := by simp [nbInts]

set_option maxRecDepth 100000 in
set_option maxHeartbeats 4000000 in
theorem row_in (S : Nat → Nat) (hS : okS S) (w : World) (hT : Tab w) :
    CallsIn Fence.wide 5 Tryd.prog 50 #[sval S] w fun e W' => Gives w (rowS S) e W' := by
  obtain ⟨i0, hi, hz0, hz1, hz2⟩ := info_parts Tryd.infoInt
  obtain ⟨xs, hxs⟩ := nb_of (N := 256) (allS S) (fun k hk => ((mem_allS S k).1 hk).1)
  have hlen : xs.length ≤ 256 := by have := allS_len S; rw [← hxs, List.length_map] at this; exact this
  have hrow : nbInts xs = rowS S := by unfold nbInts rowS; rw [← hxs, List.map_map]; rfl
  refine callsIn_of_wp_marks Tryd.func50 rfl trivial ?_ rfl
  simp only [Tryd.ntmps50, List.size_toArray, List.length_cons, List.length_nil, Nat.reduceAdd, Nat.reduceSub, Array.replicate_succ, Array.replicate_zero, List.push_toArray, List.append_toArray, List.nil_append, List.cons_append]
  gi_wp2_with (refine ⟨trivial, ?_⟩; refine CallsIn.mono (callsIn_wide.2 (all_any S _)) ?_; rintro e w1 ⟨rfl, rfl⟩)
  have bO : Boxed (((w.alloc (.cells (scells S) 62)).alloc (.cells #[.slice none 0 0] 22)).alloc (.cells (scells S) 62)) (w.heap.size + 1) 22 (.slice none 0 0) := by
    have := (Boxed.new (w.alloc (.cells (scells S) 62)) 22 (.slice none 0 0)).alloc (.cells (scells S) 62)
    rwa [World.size_alloc] at this
  have bN : SB (((w.alloc (.cells (scells S) 62)).alloc (.cells #[.slice none 0 0] 22)).alloc (.cells (scells S) 62)) (w.heap.size + 1 + 1) S := by
    have := Blk.new ((w.alloc (.cells (scells S) 62)).alloc (.cells #[.slice none 0 0] 22)) 62 (scells S)
    rwa [World.size_alloc, World.size_alloc] at this
  have hB0 : Below w.heap.size w (((w.alloc (.cells (scells S) 62)).alloc (.cells #[.slice none 0 0] 22)).alloc (.cells (scells S) 62)) := (((Below.refl _ w).alloc (Nat.le_refl _) _).alloc (by simp) _).alloc (by simp; omega) _
  have hsz : (((w.alloc (.cells (scells S) 62)).alloc (.cells #[.slice none 0 0] 22)).alloc (.cells (scells S) 62)).heap.size = w.heap.size + 3 := by simp
  have hT0 := hT.below hB0 hT.lt
  revert bO bN hB0 hsz hT0
  generalize ((w.alloc (.cells (scells S) 62)).alloc (.cells #[.slice none 0 0] 22)).alloc (.cells (scells S) 62) = W0
  intro bO bN hB0 hsz hT0
  refine wpIn_rangeFunc_ownG rfl (by omega) (gf := 122) (lb := #[.pointer (some ⟨w.heap.size + 1 + 1, 0, none⟩)]) rfl trivial (enters_of Tryd.func122 (by kernel_rfl) rfl)
    (all_stops 4 (by omega) (w.heap.size + 1 + 1) w.heap.size S hS xs hxs hT.lt W0 (by omega) bN hT0) belowK_t (belowK_b (by omega)) (Below.refl _ _) (fun _ => rfl)
    (fun pre W => (∃ v, Boxed W (w.heap.size + 1) 22 v ∧ W.ownsRow w.heap.size 3 1 v (nbInts pre).length ((nbInts pre).map (Value.int .i64)) ∧ True) ∧ Below w.heap.size w W)
    (fun _ _ _ => False)
    (OwnFrom.and (Go.Own.from (holdsRow_own w.heap.size (w.heap.size + 1) 22 3 1 (fun pre : List (NB 256) => (nbInts pre).length) (fun pre => (nbInts pre).map (Value.int .i64)) (fun _ _ => True)) _) (ownFrom_below (Nat.le_refl _) (by omega)))
    (fun _ _ _ _ _ hs _ _ => hs)
    ⟨⟨_, bO, World.ownsRow_nil _ _ _ _, trivial⟩, hB0⟩
    (fun x => { tmps := #[sval S, .pointer (some ⟨w.heap.size, 0, none⟩), .slice none 0 0, .pointer (some ⟨w.heap.size + 1, 0, none⟩), .int .i64 (x.1 : Int), sval S, .func (.func 122) #[] #[.pointer (some ⟨w.heap.size + 1 + 1, 0, none⟩)], .int .i64 (x.1 : Int), undef, undef, undef, undef, undef], defers := [] }) ?assign ?body ?done ?stop
  case assign =>
    intro l x W K hK
    gi_wp2
    exact hK
  case body =>
    rintro l pre x W ⟨⟨v, hv, hrw, -⟩, hB⟩ hlt
    have hc := hv.cell
    have hpl := nbInts_len pre
    have HL := Hid.of hpl
    have hl2 : (nbInts pre).length ≤ 256 := by omega
    clear hpl
    gi_wp2_with (gi_at_builtin; refine wpListIn_append_own _ rfl _ _ 22 rfl w.heap.size 3 i0 (.int .i64 0) 1 8 Tryd.underlying22 hi hz0 hz1 hz2 rfl (by decide) _ _ _ rfl (hrw.alloc _) ⟨W.heap.size, 0, none⟩ 1 1 [.int .i64 (x.1 : Int)] rfl rfl (cell_one_new _ _ _) (by simp [Value.oneCell']) (by unfold maxLen; omega) (by omega) (by have := hB.size; simp; omega) ?_; intro v' w1 hown' hgrow _; obtain ⟨g', cap', rfl⟩ := ownsRow_succ hown'; obtain ⟨hv1, hv2, hr2, hk2, hb2⟩ := hv.appended (by decide) hrw hB.size (by omega) hown' hgrow; have hc1 := hv1.cell; have hf1 := hv1.frozen)
    exact ⟨hk2.from _, hb2, ⟨_, hv2, by rw [nbInts_snoc]; simpa using hr2, trivial⟩, hB.trans hb2⟩
  case done =>
    rintro D ys W hD rfl ⟨⟨v, hv, hrw, -⟩, hB⟩ hK
    have hc := hv.cell
    rw [hrow] at hrw
    gi_wp2
    refine ⟨by simp, .inl ⟨_, _, rfl, run_takeDeferred hK, ?_⟩⟩
    refine ⟨_, results_tmp rfl _ _ _, ?_⟩
    exact gives_of_own (B := w.heap.size) (show Own _ _ v (rowS S) from ownsRow_putObj hrw _ hK rfl) (hB.trans (belowK_b (w := w) (Nat.le_refl _) W D _ _ (by omega) hK rfl rfl))
  case stop =>
    rintro D c pre W _ _ h _
    exact h.elim

theorem row_any (S : Nat → Nat) (w : World) (hS : okS S) (hT : Tab w) : Calls Tryd.prog 50 #[sval S] w fun e W' => Gives w (rowS S) e W' :=
  callsIn_wide.1 (row_in S hS w hT)

end Go.Proofs.YtdnglodemkeooaaDoor
namespace Go.Proofs.YtdnglodemkeooaaDoor
open Go.RowKit Go.Shelf
set_option linter.unusedVariables false
attribute [local go_sem] Oper.semAt_some

/-- A table of N sets lies in block g. -/
def TB (W : World) (g N : Nat) (T : Nat → Nat → Nat) : Prop := ∃ cs, Blk W g 62 cs ∧ cs.size = N * 4 ∧ ∀ p j, p < N → j < 4 → cs[p * 4 + j]? = some (.int .u64 (T p j))

theorem TB.cells {W : World} {g N : Nat} {T : Nat → Nat → Nat} (h : TB W g N T) {p : Nat} (hp : p < N) : W.cell? ⟨g, p * 4, none⟩ = some (.int .u64 (T p 0)) ∧ W.cell? ⟨g, p * 4 + 1, none⟩ = some (.int .u64 (T p 1)) ∧ W.cell? ⟨g, p * 4 + 2, none⟩ = some (.int .u64 (T p 2)) ∧ W.cell? ⟨g, p * 4 + 3, none⟩ = some (.int .u64 (T p 3)) := by
  obtain ⟨cs, hb, hs, hc⟩ := h
  exact ⟨hb.cell _ (hc p 0 hp (by omega)), hb.cell _ (hc p 1 hp (by omega)), hb.cell _ (hc p 2 hp (by omega)), hb.cell _ (hc p 3 hp (by omega))⟩
theorem TB.below {W W' : World} {g N B : Nat} {T : Nat → Nat → Nat} (h : TB W g N T) (hb : Below B W W') (hB : g < B) : TB W' g N T := by
  obtain ⟨cs, h1, h2, h3⟩ := h
  exact ⟨cs, h1.below hb hB, h2, h3⟩
theorem TB.lt {W : World} {g N : Nat} {T : Nat → Nat → Nat} (h : TB W g N T) : g < W.heap.size := by
  obtain ⟨cs, h1, h2, h3⟩ := h
  exact h1.lt

/-- The blocks that machine.Leader's closure knows: isEvent's, events', to's, the table, within's own. -/
structure LB where
  pi : Nat
  pe : Nat
  pt : Nat
  pg : Nat
  pb : Nat
def LB.all (L : LB) (P : Nat → Prop) : Prop := P L.pi ∧ P L.pe ∧ P L.pt ∧ P L.pg ∧ P L.pb
theorem LB.all.imp {L : LB} {P Q : Nat → Prop} (h : L.all P) (hi : ∀ n, P n → Q n) : L.all Q := ⟨hi _ h.1, hi _ h.2.1, hi _ h.2.2.1, hi _ h.2.2.2.1, hi _ h.2.2.2.2⟩
/-- The closure. -/
abbrev leadV (L : LB) : Value := .func (.func 112) #[] #[.pointer (some ⟨L.pi, 0, none⟩), .pointer (some ⟨L.pe, 0, none⟩), .pointer (some ⟨L.pt, 0, none⟩)]
abbrev isV (pb : Nat) : Value := .func (.func 117) #[] #[.pointer (some ⟨pb, 0, none⟩)]
/-- What the closure knows. -/
structure LD (W : World) (L : LB) (ev N : Nat) (T : Nat → Nat → Nat) : Prop where
  is : Boxed W L.pi 114 (isV L.pb)
  evb : Boxed W L.pe 3 (.int .i64 ev)
  to : Boxed W L.pt 89 (.slice (some ⟨L.pg, 0, none⟩) N N)
  tab : TB W L.pg N T
  bd : Boxed W L.pb 3 (.int .i64 ev)
theorem LD.below {W W' : World} {B : Nat} {L : LB} {ev N : Nat} {T : Nat → Nat → Nat} (h : LD W L ev N T) (hb : Below B W W') (hB : L.all (· < B)) : LD W' L ev N T :=
  ⟨(hb.block _ hB.1).trans h.is, (hb.block _ hB.2.1).trans h.evb, (hb.block _ hB.2.2.1).trans h.to, h.tab.below hb hB.2.2.2.1, (hb.block _ hB.2.2.2.2).trans h.bd⟩
theorem LD.lt {W : World} {L : LB} {ev N : Nat} {T : Nat → Nat → Nat} (h : LD W L ev N T) : L.all (· < W.heap.size) := ⟨h.is.lt, h.evb.lt, h.to.lt, h.tab.lt, h.bd.lt⟩
theorem LD.kept {W W' : World} {L : LB} {ev N : Nat} {T : Nat → Nat → Nat} (h : LD W L ev N T) (hb : Below W.heap.size W W') : LD W' L ev N T := h.below hb h.lt

theorem TB.frozen {W : World} {g N : Nat} {T : Nat → Nat → Nat} (h : TB W g N T) (j : Nat) : W.frozen? ⟨g, j, none⟩ = false := by
  obtain ⟨cs, h1, h2, h3⟩ := h
  exact h1.frozen j

/-- One set of the table stored anew. -/
theorem TB.store {W : World} {g N p : Nat} {T : Nat → Nat → Nat} (h : TB W g N T) (hp : p < N) (U : Nat → Nat) :
    TB ((((W.setCell ⟨g, p * 4, none⟩ (.int .u64 (U 0))).setCell ⟨g, p * 4 + 1, none⟩ (.int .u64 (U 1))).setCell ⟨g, p * 4 + 2, none⟩ (.int .u64 (U 2))).setCell ⟨g, p * 4 + 3, none⟩ (.int .u64 (U 3))) g N (fun q => if q = p then U else T q) := by
  obtain ⟨cs, h1, h2, h3⟩ := h
  refine ⟨_, (((h1.set (p * 4) _).set (p * 4 + 1) _).set (p * 4 + 2) _).set (p * 4 + 3) _, by simp [h2], fun q j hq hj => ?_⟩
  simp only [Array.getElem?_setIfInBounds, Array.size_setIfInBounds]
  by_cases e : q = p
  · subst e
    have hj' : j = 0 ∨ j = 1 ∨ j = 2 ∨ j = 3 := by omega
    rcases hj' with rfl | rfl | rfl | rfl
    · simp [show q * 4 < cs.size by omega]
    · simp [show q * 4 + 1 < cs.size by omega]
    · simp [show q * 4 + 2 < cs.size by omega]
    · simp [show q * 4 + 3 < cs.size by omega]
  · have a0 : ¬ p * 4 = q * 4 + j := by omega
    have a1 : ¬ p * 4 + 1 = q * 4 + j := by omega
    have a2 : ¬ p * 4 + 2 = q * 4 + j := by omega
    have a3 : ¬ p * 4 + 3 = q * 4 + j := by omega
    rw [if_neg a3, if_neg a2, if_neg a1, if_neg a0, h3 q j hq hj, if_neg e]

theorem TB.made {W : World} {g N : Nat} (h : Blk W g 62 (madeCells #[.int .u64 0, .int .u64 0, .int .u64 0, .int .u64 0] (N * 4))) : TB W g N (fun _ => zeroS) := by
  refine ⟨_, h, size_madeCells _ _, fun p j hp hj => ?_⟩
  have hlt : p * 4 + j < N * 4 := by omega
  unfold madeCells
  rw [Array.getElem?_map, Array.getElem?_range, if_pos hlt]
  have hj' : j = 0 ∨ j = 1 ∨ j = 2 ∨ j = 3 := by omega
  have hm : (p * 4 + j) % 4 = j := by omega
  simp only [Option.map_some, List.size_toArray, List.length_cons, List.length_nil, Nat.reduceAdd, hm]
  rcases hj' with rfl | rfl | rfl | rfl <;> rfl

end Go.Proofs.YtdnglodemkeooaaDoor
namespace Go.Proofs.YtdnglodemkeooaaDoor
open Go.RowKit Go.Shelf
set_option linter.unusedVariables false
attribute [local go_sem] Oper.semAt_some

theorem Tryd.infoSet : (Tryd.prog.info? 62).map (fun i => (i.zero, i.size, i.bytes)) = some (some (sval zeroS), 4, 32) := by kernel_rfl

/-- What holds where a region is left as it should be. -/
def regQ (R : Act → World → Prop) : Exit → Act → World → Prop
  | .normal, a, w => R a w
  | _, _, _ => False
theorem regQ_imp {R : Act → World → Prop} {Q : Exit → Act → World → Prop} (h : ∀ a w, R a w → Q .normal a w) : ∀ e a w, regQ R e a w → Q e a w := fun e a w hr => by
  cases e <;> first | exact h a w hr | exact hr.elim

theorem Blk.other4' {W : World} {b b' : Nat} {t : TypeId} {cs : Array Value} (h : Blk W b t cs) (j : Nat) (hne : b ≠ b') (v0 v1 v2 v3 : Value) : Blk ((((W.setCell ⟨b', j, none⟩ v0).setCell ⟨b', j + 1, none⟩ v1).setCell ⟨b', j + 2, none⟩ v2).setCell ⟨b', j + 3, none⟩ v3) b t cs :=
  (((h.other hne v0).other hne v1).other hne v2).other hne v3
theorem below_set4' {W V : World} {B b' : Nat} (h : Below B V W) (j : Nat) (hb : B ≤ b') (v0 v1 v2 v3 : Value) : Below B V ((((W.setCell ⟨b', j, none⟩ v0).setCell ⟨b', j + 1, none⟩ v1).setCell ⟨b', j + 2, none⟩ v2).setCell ⟨b', j + 3, none⟩ v3) :=
  (((h.setCell (p := ⟨b', j, none⟩) hb v0).setCell (p := ⟨b', j + 1, none⟩) hb v1).setCell (p := ⟨b', j + 2, none⟩) hb v2).setCell (p := ⟨b', j + 3, none⟩) hb v3

theorem lead_ix {st ev x e : Nat} (hx : x < st) (he : e < ev) : x * ev + e < st * ev := by
  have : (x + 1) * ev ≤ st * ev := Nat.mul_le_mul_right _ hx
  rw [Nat.add_mul] at this
  omega

theorem own_SB {β : Type} (B : Nat) (S : β → Nat → Nat) : Go.Own (fun (s : β) W => SB W B (S s)) := by
  intro s W W' row h hg hr
  obtain ⟨hlt, hk⟩ := Array.getElem?_eq_some_iff.1 h
  exact (grownBy_keeps_cells hg hr (k := B) h rfl).trans h

def nbNats {N : Nat} (pre : List (NB N)) : List Nat := pre.map fun x => x.1
theorem nbNats_snoc {N : Nat} (pre : List (NB N)) (x : NB N) : nbNats (pre ++ [x]) = nbNats pre ++ [x.1] := by simp [nbNats]

theorem lead1_ix {st ev x e : Nat} (hx : x < st) (he : e < ev) : x * ev + e < st * ev := by
  have : (x + 1) * ev ≤ st * ev := Nat.mul_le_mul_right _ hx
  rw [Nat.add_mul] at this
  omega

end Go.Proofs.YtdnglodemkeooaaDoor
namespace Go.Proofs.YtdnglodemkeooaaDoor
open Go.RowKit

def insA (x : Arr) : List Arr → List Arr
  | [] => [x]
  | y :: r => if aheadB y x = true then y :: insA x r else if arrEq y x then y :: r else x :: y :: r
def srtA (l : List Arr) : List Arr := l.foldl (fun out x => insA x out) []

theorem getA_succ (y : Arr) (r : List Arr) (j : Nat) : (y :: r)[j + 1]?.getD arr0 = r[j]?.getD arr0 := by simp

theorem insA_put {x : Arr} : ∀ {L : List Arr} {p : Nat}, p ≤ L.length → (∀ j, j < p → aheadB (L[j]?.getD arr0) x = true) → (p = L.length ∨ (aheadB (L[p]?.getD arr0) x = false ∧ ¬ arrEq (L[p]?.getD arr0) x)) → insA x L = L.take p ++ x :: L.drop p
  | [], p, hp, _, _ => by
    have : p = 0 := by simpa using hp
    subst this; simp [insA]
  | y :: r, 0, _, _, h => by
    rcases h with h | ⟨h, h'⟩
    · simp at h
    · have h : aheadB y x = false := by simpa using h
      have h' : ¬ arrEq y x := by simpa using h'
      simp only [insA, List.take_zero, List.drop_zero, List.nil_append]
      rw [if_neg (by rw [h]; simp), if_neg h']
  | y :: r, p + 1, hp, hl, h => by
    have h0 : aheadB y x = true := by simpa using hl 0 (by omega)
    have := insA_put (x := x) (L := r) (p := p) (by simpa using hp) (fun j hj => by have := hl (j + 1) (by omega); rwa [getA_succ] at this) (by
      rcases h with h | h
      · left; simpa using h
      · right; rwa [getA_succ] at h)
    simp only [insA]
    rw [if_pos h0, this]
    simp
theorem insA_same {x : Arr} : ∀ {L : List Arr} {p : Nat}, p < L.length → (∀ j, j < p → aheadB (L[j]?.getD arr0) x = true) → aheadB (L[p]?.getD arr0) x = false → arrEq (L[p]?.getD arr0) x → insA x L = L
  | [], p, hp, _, _, _ => by simp at hp
  | y :: r, 0, _, _, h, h' => by
    have h : aheadB y x = false := by simpa using h
    have h' : arrEq y x := by simpa using h'
    simp only [insA]
    rw [if_neg (by rw [h]; simp), if_pos h']
  | y :: r, p + 1, hp, hl, h, h' => by
    have h0 : aheadB y x = true := by simpa using hl 0 (by omega)
    have := insA_same (x := x) (L := r) (p := p) (by simpa using hp) (fun j hj => by have := hl (j + 1) (by omega); rwa [getA_succ] at this) (by rwa [getA_succ] at h) (by rwa [getA_succ] at h')
    simp only [insA]
    rw [if_pos h0, this]
theorem insA_len (x : Arr) : ∀ L, (insA x L).length ≤ L.length + 1
  | [] => by simp [insA]
  | y :: r => by
    unfold insA
    have := insA_len x r
    split
    · simp; omega
    · split <;> simp
theorem srtA_len (l : List Arr) : (srtA l).length ≤ l.length := by
  have : ∀ (l : List Arr) o, (l.foldl (fun out x => insA x out) o).length ≤ o.length + l.length := by
    intro l
    induction l with
    | nil => intro o; simp
    | cons x r ih => intro o; have h1 := ih (insA x o); have h2 := insA_len x o; simp only [List.foldl_cons, List.length_cons]; omega
  have h := this l []
  simpa [srtA] using h
theorem srtA_take {ars : List Arr} {k : Nat} {x : Arr} (h : k < ars.length) (hx : Hid (x = ars[k]?.getD arr0)) : srtA (ars.take (k + 1)) = insA x (srtA (ars.take k)) := by
  have hx := hx.out
  rw [List.getElem?_eq_getElem h, Option.getD_some] at hx
  rw [List.take_add_one, List.getElem?_eq_getElem h, Option.toList_some, hx]
  unfold srtA
  rw [List.foldl_append]; rfl

end Go.Proofs.YtdnglodemkeooaaDoor
namespace Go.Proofs.YtdnglodemkeooaaDoor
open Go.RowKit
set_option linter.unusedVariables false

/-- The states that are in both. -/
def trimL (m : Mach) : List Int := (reachL m).filter (fun n => hasB (liveL m) n == true)
/-- The arrows between them, numbered anew. -/
def trimA (T : List Int) (ars : List Arr) : List Arr := (ars.filter fun a => decide (0 ≤ placeI T a.f) && decide (0 ≤ placeI T a.t)).map fun a => ⟨placeI T a.f, a.e, placeI T a.t⟩
def trimM (m : Mach) : Mach := ⟨if (trimL m).length = 0 then 1 else (trimL m).length, m.ev, placesL (trimL m) m.starts, srtA (trimA (trimL m) m.arrows), placesL (trimL m) m.ends⟩

theorem trimA_take {T : List Int} {ars : List Arr} {k : Nat} {a : Arr} (h : k < ars.length) (ha : Hid (a = ars[k]?.getD arr0)) : trimA T (ars.take (k + 1)) = if (decide (0 ≤ placeI T a.f) && decide (0 ≤ placeI T a.t)) = true then trimA T (ars.take k) ++ [⟨placeI T a.f, a.e, placeI T a.t⟩] else trimA T (ars.take k) := by
  have ha := ha.out
  rw [List.getElem?_eq_getElem h, Option.getD_some] at ha
  unfold trimA
  rw [List.take_add_one, List.getElem?_eq_getElem h, List.filter_append, List.map_append, ← ha]
  by_cases c : (decide (0 ≤ placeI T a.f) && decide (0 ≤ placeI T a.t)) = true
  · rw [if_pos c]; simp only [Option.toList_some, List.filter_cons, c, if_true, List.filter_nil, List.map_cons, List.map_nil]
  · rw [if_neg c]; simp only [Option.toList_some, List.filter_cons, c, Bool.false_eq_true, if_false, List.filter_nil, List.map_nil, List.append_nil]
theorem trimA_len (T : List Int) (ars : List Arr) : (trimA T ars).length ≤ ars.length := by unfold trimA; rw [List.length_map]; exact List.length_filter_le _ _

/-! Places. -/
theorem placeN_some : ∀ {l : List Int} {n : Int} {j : Nat}, placeN l n = some j → l[j]? = some n
  | [], _, _, h => by simp [placeN] at h
  | x :: r, n, j, h => by
    unfold placeN at h
    by_cases hx : x = n
    · rw [if_pos hx] at h; cases h; simp [hx]
    · rw [if_neg hx] at h
      cases hp : placeN r n with
      | none => rw [hp] at h; cases h
      | some i => rw [hp] at h; cases h; simpa using placeN_some hp
theorem placeN_mem : ∀ {l : List Int} {n : Int}, n ∈ l → ∃ j, placeN l n = some j
  | [], _, h => by simp at h
  | x :: r, n, h => by
    unfold placeN
    by_cases hx : x = n
    · exact ⟨0, by rw [if_pos hx]⟩
    · rw [if_neg hx]
      rcases List.mem_cons.1 h with h | h
      · exact absurd h.symm hx
      · obtain ⟨j, hj⟩ := placeN_mem h
        exact ⟨j + 1, by rw [hj]; rfl⟩
theorem placeI_of {l : List Int} {n : Int} {j : Nat} (h : placeN l n = some j) : placeI l n = j := by unfold placeI placeF; rw [h]; simp
theorem placeI_nn (l : List Int) (n : Int) : 0 ≤ placeI l n ↔ n ∈ l := by
  constructor
  · intro h
    cases hp : placeN l n with
    | none => unfold placeI placeF at h; rw [hp] at h; simp at h
    | some j => exact List.mem_of_getElem? (placeN_some hp)
  · intro h
    obtain ⟨j, hj⟩ := placeN_mem h
    rw [placeI_of hj]; omega
theorem placeI_lt {l : List Int} {n : Int} (h : n ∈ l) : placeI l n < l.length := by
  obtain ⟨j, hj⟩ := placeN_mem h
  have := placeF_lt l n j hj
  rw [placeI_of hj]; omega
theorem placeI_mono {l : List Int} (hl : Inc l) {x y : Int} (hx : x ∈ l) (hy : y ∈ l) : placeI l x < placeI l y ↔ x < y := by
  obtain ⟨i, hi⟩ := placeN_mem hx
  obtain ⟨j, hj⟩ := placeN_mem hy
  rw [placeI_of hi, placeI_of hj]
  obtain ⟨i1, i2⟩ := List.getElem?_eq_some_iff.1 (placeN_some hi)
  obtain ⟨j1, j2⟩ := List.getElem?_eq_some_iff.1 (placeN_some hj)
  have hp := List.pairwise_iff_getElem.1 hl
  constructor
  · intro h
    have := hp i j i1 j1 (by omega)
    rwa [i2, j2] at this
  · intro h
    rcases Nat.lt_trichotomy i j with h1 | h1 | h1
    · omega
    · subst h1; rw [i2] at j2; omega
    · have := hp j i j1 i1 h1
      rw [i2, j2] at this; omega
/-! Rows and arrows in order. -/
theorem rowB_iff (n : Int) (hn : n ≤ 2147483648) (l : List Int) : rowB n l = true ↔ Inc l ∧ ∀ x ∈ l, 0 ≤ x ∧ x < n := by
  unfold rowB
  rw [goIs_iff]
  constructor
  · rintro ⟨h1, h2⟩; exact ⟨h1, fun x hx => by have := h2 x hx; omega⟩
  · rintro ⟨h1, h2⟩; exact ⟨h1, fun x hx => by have := h2 x hx; omega⟩
abbrev IncA (l : List Arr) : Prop := l.Pairwise (fun a b => aheadB a b = true)
theorem aheadB_iff (a b : Arr) : aheadB a b = true ↔ a.f < b.f ∨ (a.f = b.f ∧ (a.e < b.e ∨ (a.e = b.e ∧ a.t < b.t))) := by
  unfold aheadB
  split
  · split
    · simp only [decide_eq_true_eq]; omega
    · simp only [decide_eq_true_eq]; omega
  · simp only [decide_eq_true_eq]; omega
theorem aheadB_trans {a b c : Arr} (h : aheadB a b = true) (k : aheadB b c = true) : aheadB a c = true := by
  rw [aheadB_iff] at *; omega
theorem arrsFrom_iff (st ev : Int) : ∀ (ars : List Arr) (p : Option Arr), arrsFrom st ev p ars = true ↔ (∀ a ∈ ars, arrIn st ev a) ∧ IncA ars ∧ ∀ a ∈ ars, behindB p a = true
  | [], p => by simp [arrsFrom]
  | b :: r, p => by
    unfold arrsFrom
    by_cases hc : arrIn st ev b ∧ behindB p b = true
    · rw [if_pos hc, arrsFrom_iff st ev r (some b)]
      constructor
      · rintro ⟨h1, h2, h3⟩
        refine ⟨?_, List.pairwise_cons.2 ⟨fun a ha => h3 a ha, h2⟩, ?_⟩
        · intro a ha
          rcases List.mem_cons.1 ha with rfl | ha
          · exact hc.1
          · exact h1 a ha
        · intro a ha
          rcases List.mem_cons.1 ha with rfl | ha
          · exact hc.2
          · cases p with
            | none => rfl
            | some q => exact aheadB_trans (b := b) hc.2 (h3 a ha)
      · rintro ⟨h1, h2, h3⟩
        obtain ⟨k1, k2⟩ := List.pairwise_cons.1 h2
        exact ⟨fun a ha => h1 a (by simp [ha]), k2, k1⟩
    · rw [if_neg hc]
      constructor
      · intro h; cases h
      · rintro ⟨h1, h2, h3⟩
        exact absurd ⟨h1 b (by simp), h3 b (by simp)⟩ hc
theorem insA_last {x : Arr} : ∀ {L : List Arr}, (∀ a ∈ L, aheadB a x = true) → insA x L = L ++ [x]
  | [], _ => rfl
  | y :: r, h => by
    unfold insA
    rw [if_pos (h y (by simp)), insA_last (fun a ha => h a (by simp [ha]))]; rfl
theorem srtA_go : ∀ (l o : List Arr), IncA (o ++ l) → l.foldl (fun out x => insA x out) o = o ++ l
  | [], o, _ => by simp
  | x :: r, o, h => by
    have h1 : ∀ a ∈ o, aheadB a x = true := fun a ha => (List.pairwise_append.1 h).2.2 a ha x (by simp)
    rw [List.foldl_cons, insA_last h1, srtA_go r (o ++ [x]) (by simpa using h)]
    simp
theorem srtA_id {l : List Arr} (h : IncA l) : srtA l = l := by
  have := srtA_go l [] (by simpa using h)
  simpa [srtA] using this

/-! What is come to, of a machine that may be. -/
theorem may_arrs {m : Mach} (hm : mayB m = true) : ∀ a ∈ m.arrows, arrIn m.st m.ev a := ((arrsFrom_iff _ _ _ _).1 (mayB_arrs hm)).1
theorem may_inc {m : Mach} (hm : mayB m = true) : IncA m.arrows := ((arrsFrom_iff _ _ _ _).1 (mayB_arrs hm)).2.1
theorem may_starts {m : Mach} (hm : mayB m = true) : Inc m.starts ∧ ∀ x ∈ m.starts, 0 ≤ x ∧ x < m.st := (rowB_iff _ (by have := mayB_size hm; unfold sizeOk at this; omega) _).1 (mayB_starts hm)
theorem may_ends {m : Mach} (hm : mayB m = true) : Inc m.ends ∧ ∀ x ∈ m.ends, 0 ≤ x ∧ x < m.st := (rowB_iff _ (by have := mayB_size hm; unfold sizeOk at this; omega) _).1 (mayB_ends hm)
theorem mem_reach {m : Mach} (hm : mayB m = true) (x : Int) : x ∈ reachL m ↔ Rch (·.f) (·.t) m.arrows m.starts x := by
  have hz := mayB_size hm
  unfold sizeOk at hz
  have hs := may_starts hm
  have ha := may_arrs hm
  unfold reachL
  rw [mem_srt]
  exact mem_close (fun a h => by have := ha a h; omega) (inc_nodup hs.1) (fun y hy => by have := hs.2 y hy; omega) x
theorem mem_live {m : Mach} (hm : mayB m = true) (x : Int) : x ∈ liveL m ↔ Rch (·.t) (·.f) m.arrows m.ends x := by
  have hz := mayB_size hm
  unfold sizeOk at hz
  have hs := may_ends hm
  have ha := may_arrs hm
  unfold liveL
  rw [mem_srt]
  exact mem_close (fun a h => by have := ha a h; omega) (inc_nodup hs.1) (fun y hy => by have := hs.2 y hy; omega) x
theorem rch_bd {fr to : Arr → Int} {ars : List Arr} {l : List Int} {n x : Int} (hl : ∀ x ∈ l, 0 ≤ x ∧ x < n) (ha : ∀ a ∈ ars, 0 ≤ to a ∧ to a < n) (h : Rch fr to ars l x) : 0 ≤ x ∧ x < n :=
  h (fun x => 0 ≤ x ∧ x < n) ⟨hl, fun a h _ => ha a h⟩
theorem reach_bd {m : Mach} (hm : mayB m = true) {x : Int} (h : x ∈ reachL m) : 0 ≤ x ∧ x < m.st :=
  rch_bd (may_starts hm).2 (fun a ha => by have := may_arrs hm a ha; omega) ((mem_reach hm x).1 h)
theorem mem_trim (m : Mach) (x : Int) : x ∈ trimL m ↔ x ∈ reachL m ∧ x ∈ liveL m := by
  unfold trimL
  rw [List.mem_filter, beq_iff_eq, hasB_iff]
theorem inc_trim (m : Mach) : Inc (trimL m) := (inc_srt _).filter _
theorem trim_le {m : Mach} (hm : mayB m = true) : (trimL m).length ≤ m.st.toNat := by
  have hz := mayB_size hm
  unfold sizeOk at hz
  exact nodup_len _ _ (inc_nodup (inc_trim m)) (fun x hx => by have := reach_bd hm ((mem_trim m x).1 hx).1; omega)

/-! The trimmed machine may be. -/
theorem inc_trimA {T : List Int} {ars : List Arr} (hT : Inc T) (ha : IncA ars) : IncA (trimA T ars) := by
  unfold trimA
  refine List.pairwise_map.2 ?_
  refine (ha.filter _).imp_of_mem ?_
  intro a b h1 h2 hab
  simp only [List.mem_filter, Bool.and_eq_true, decide_eq_true_eq, placeI_nn] at h1 h2
  rw [aheadB_iff] at hab ⊢
  dsimp only
  have m1 := placeI_mono hT h1.2.1 h2.2.1
  have m2 := placeI_mono hT h1.2.2 h2.2.2
  rcases hab with h | ⟨h, h'⟩
  · exact .inl (m1.2 h)
  · refine .inr ⟨by rw [h], ?_⟩
    rcases h' with h' | ⟨h', h''⟩
    · exact .inl h'
    · exact .inr ⟨h', m2.2 h''⟩
theorem srt_trimA {m : Mach} (hm : mayB m = true) : srtA (trimA (trimL m) m.arrows) = trimA (trimL m) m.arrows := srtA_id (inc_trimA (inc_trim m) (may_inc hm))
/-! The trimmed machine accepts the same words. -/
theorem accepts_iff (m : Mach) (word : List Int) : acceptsB m word = true ↔ ∃ x ∈ afterL m.arrows m.starts word, x ∈ m.ends := by
  unfold acceptsB acceptsL
  rw [decide_eq_true_eq, List.length_pos_iff_exists_mem]
  simp only [List.mem_filter, beq_iff_eq, hasB_iff]
end Go.Proofs.YtdnglodemkeooaaDoor
namespace Go.Proofs.YtdnglodemkeooaaDoor
open Go.RowKit
set_option linter.unusedVariables false

/-- What both have; what the first one alone has. -/
def meetS (S T : Nat → Nat) : Nat → Nat := fun k => S k &&& T k
def lessS (S T : Nat → Nat) : Nat → Nat := fun k => S k &&& (18446744073709551615 - T k)
theorem okS_meet {S T : Nat → Nat} (h : okS S) : okS (meetS S T) := fun k => Nat.lt_of_le_of_lt Nat.and_le_left (h k)
theorem okS_less {S T : Nat → Nat} (h : okS S) : okS (lessS S T) := fun k => Nat.lt_of_le_of_lt Nat.and_le_left (h k)
theorem hasS_meet (S T : Nat → Nat) (n : Nat) : hasS (meetS S T) n = (hasS S n && hasS T n) := by simp [hasS, meetS]
theorem hasS_less {S T : Nat → Nat} (h : okS T) (n : Nat) : hasS (lessS S T) n = (hasS S n && !hasS T n) := by
  unfold hasS lessS
  rw [Nat.testBit_and]
  have e : 18446744073709551615 - T (n / 64) = 2 ^ 64 - (T (n / 64) + 1) := by
    show _ = 18446744073709551616 - _
    omega
  rw [e, Nat.testBit_two_pow_sub_succ (h _)]
  have : n % 64 < 64 := by omega
  simp [this]

/-- The table: where each state leads in one step. -/
def tabKStep (fr to : Arr → Int) (T : Nat → Nat → Nat) (a : Arr) : Nat → Nat → Nat := fun p => if p = (fr a).toNat then withS (T p) (to a).toNat else T p
def tabK (fr to : Arr → Int) (ars : List Arr) : Nat → Nat → Nat := ars.foldl (tabKStep fr to) (fun _ => zeroS)
theorem tabK_take {fr to : Arr → Int} {ars : List Arr} {k : Nat} {a : Arr} (h : k < ars.length) (ha : Hid (a = ars[k]?.getD arr0)) : tabK fr to (ars.take (k + 1)) = tabKStep fr to (tabK fr to (ars.take k)) a := by
  have ha := ha.out
  rw [List.getElem?_eq_getElem h, Option.getD_some] at ha
  unfold tabK
  rw [List.take_add_one, List.getElem?_eq_getElem h, ← ha]
  simp [List.foldl_append]
theorem okS_tabKStep {fr to : Arr → Int} {T : Nat → Nat → Nat} (h : ∀ p, okS (T p)) (a : Arr) : ∀ p, okS (tabKStep fr to T a p) := fun p => by
  unfold tabKStep; split
  · exact okS_with (h p) _
  · exact h p
theorem okS_foldTabK {fr to : Arr → Int} : ∀ (ars : List Arr) (T : Nat → Nat → Nat), (∀ p, okS (T p)) → ∀ p, okS (ars.foldl (tabKStep fr to) T p)
  | [], _, h => h
  | a :: r, T, h => okS_foldTabK r _ (okS_tabKStep h a)
theorem okS_tabK (fr to : Arr → Int) (ars : List Arr) (p : Nat) : okS (tabK fr to ars p) := okS_foldTabK ars _ (fun _ => okS_zero) p
theorem has_foldTabK {fr to : Arr → Int} {p n : Nat} : ∀ (ars : List Arr) (T : Nat → Nat → Nat), hasS (ars.foldl (tabKStep fr to) T p) n = true ↔ hasS (T p) n = true ∨ ∃ a ∈ ars, p = (fr a).toNat ∧ n = (to a).toNat
  | [], T => by simp
  | a :: r, T => by
    rw [List.foldl_cons, has_foldTabK r]
    have e : hasS (tabKStep fr to T a p) n = true ↔ hasS (T p) n = true ∨ (p = (fr a).toNat ∧ n = (to a).toNat) := by
      unfold tabKStep
      by_cases h : p = (fr a).toNat
      · rw [if_pos h, hasS_with, Bool.or_eq_true, decide_eq_true_eq]; simp [h]
      · rw [if_neg h]; simp [h]
    rw [e]
    simp only [List.mem_cons, exists_eq_or_imp]
    rw [or_assoc]
theorem has_tabK (fr to : Arr → Int) (p n : Nat) (ars : List Arr) : hasS (tabK fr to ars p) n = true ↔ ∃ a ∈ ars, p = (fr a).toNat ∧ n = (to a).toNat := by
  unfold tabK; rw [has_foldTabK]; simp [hasS_zero]

/-- Where states lead to, by a table. -/
def toF (T : Nat → Nat → Nat) (ns : List Nat) : Nat → Nat := ns.foldl (fun o n => joinS o (T n)) zeroS
theorem toF_snoc (T : Nat → Nat → Nat) (ns : List Nat) (n : Nat) : toF T (ns ++ [n]) = joinS (toF T ns) (T n) := by simp [toF, List.foldl_append]
theorem ok_toG {T : Nat → Nat → Nat} (h : ∀ p, okS (T p)) : ∀ (ns : List Nat) (o : Nat → Nat), okS o → okS (ns.foldl (fun o n => joinS o (T n)) o)
  | [], _, ho => ho
  | n :: r, o, ho => ok_toG h r _ (okS_join ho (h _))
theorem ok_toF {T : Nat → Nat → Nat} (h : ∀ p, okS (T p)) (ns : List Nat) : okS (toF T ns) := ok_toG h ns _ okS_zero
theorem has_toG {T : Nat → Nat → Nat} {k : Nat} : ∀ (ns : List Nat) (o : Nat → Nat), hasS (ns.foldl (fun o n => joinS o (T n)) o) k = true ↔ hasS o k = true ∨ ∃ n ∈ ns, hasS (T n) k = true
  | [], o => by simp
  | n :: r, o => by
    rw [List.foldl_cons, has_toG r, hasS_join, Bool.or_eq_true]
    simp only [List.mem_cons, exists_eq_or_imp]
    rw [or_assoc]
theorem has_toF (T : Nat → Nat → Nat) (k : Nat) (ns : List Nat) : hasS (toF T ns) k = true ↔ ∃ n ∈ ns, hasS (T n) k = true := by
  unfold toF; rw [has_toG]; simp [hasS_zero]

/-- What holds from round to round: F is found, R of it is fresh. -/
structure Spr (fr to : Arr → Int) (ars : List Arr) (l : List Int) (F R : Nat → Nat) : Prop where
  okF : okS F
  okR : okS R
  sub : ∀ n, n < 256 → hasS R n = true → hasS F n = true
  rch : ∀ n : Nat, n < 256 → hasS F n = true → Rch fr to ars l (n : Int)
  start : ∀ x ∈ l, hasS F x.toNat = true
  shut : ∀ a ∈ ars, hasS F (fr a).toNat = true → hasS R (fr a).toNat = false → hasS F (to a).toNat = true

theorem spr_start {fr to : Arr → Int} {ars : List Arr} {l : List Int} (hl : ∀ x ∈ l, 0 ≤ x ∧ x < 256) : Spr fr to ars l (ofS l) (ofS l) := by
  have hr : Rep (ofS l) l := by
    have := rep_of hl l.length
    rwa [List.take_of_length_le (Nat.le_refl _)] at this
  refine ⟨hr.ok, hr.ok, fun _ _ h => h, fun n hn h => rch_start ((hr.mem n hn).1 h), fun x hx => ?_, fun a _ h1 h2 => by rw [h1] at h2; cases h2⟩
  have := hl x hx
  exact (hr.mem x.toNat (by omega)).2 (by rwa [Int.toNat_of_nonneg this.1])
/-- What comes in one round. -/
def frS (fr to : Arr → Int) (ars : List Arr) (F R : Nat → Nat) : Nat → Nat := lessS (toF (tabK fr to ars) (allS R)) F
theorem spr_step {fr to : Arr → Int} {ars : List Arr} {l : List Int} {F R : Nat → Nat} (hin : ∀ a ∈ ars, (0 ≤ fr a ∧ fr a < 256) ∧ 0 ≤ to a ∧ to a < 256) (h : Spr fr to ars l F R) : Spr fr to ars l (joinS F (frS fr to ars F R)) (frS fr to ars F R) := by
  have o1 : okS (frS fr to ars F R) := okS_less (ok_toF (okS_tabK fr to ars) _)
  have hf : ∀ n, hasS (frS fr to ars F R) n = (hasS (toF (tabK fr to ars) (allS R)) n && !hasS F n) := fun n => hasS_less h.okF n
  have hr : ∀ n, n < 256 → hasS (frS fr to ars F R) n = true → Rch fr to ars l (n : Int) := fun n hn hx => by
    rw [hf, Bool.and_eq_true, has_toF] at hx
    obtain ⟨⟨k, hk, ht⟩, -⟩ := hx
    obtain ⟨a, ha, e1, e2⟩ := (has_tabK _ _ _ _ _).1 ht
    obtain ⟨k1, k2⟩ := (mem_allS _ _).1 hk
    have hb := hin a ha
    have := h.rch k k1 (h.sub k k1 k2)
    rw [show (k : Int) = fr a by omega] at this
    rw [show (n : Int) = to a by omega]
    exact rch_step ha this
  refine ⟨okS_join h.okF o1, o1, fun n _ hx => by rw [hasS_join, hx]; simp, fun n hn hx => ?_, fun x hx => by rw [hasS_join, h.start x hx]; rfl, fun a ha h1 h2 => ?_⟩
  · rw [hasS_join, Bool.or_eq_true] at hx
    rcases hx with hx | hx
    · exact h.rch n hn hx
    · exact hr n hn hx
  · rw [hasS_join, h2, Bool.or_false] at h1
    have hb := hin a ha
    rw [hasS_join]
    cases hR : hasS R (fr a).toNat with
    | false => rw [h.shut a ha h1 hR]; rfl
    | true =>
      have ht : hasS (toF (tabK fr to ars) (allS R)) (to a).toNat = true := (has_toF _ _ _).2 ⟨(fr a).toNat, (mem_allS _ _).2 ⟨by omega, hR⟩, (has_tabK _ _ _ _ _).2 ⟨a, ha, rfl, rfl⟩⟩
      rw [hf, ht]
      cases hasS F (to a).toNat <;> rfl
theorem empty_has {S : Nat → Nat} (he : emptyB S = true) (n : Nat) (hn : n < 256) : hasS S n = false := by
  obtain ⟨e0, e1, e2, e3⟩ := of_decide_eq_true he
  unfold hasS
  have hk : n / 64 = 0 ∨ n / 64 = 1 ∨ n / 64 = 2 ∨ n / 64 = 3 := by omega
  rcases hk with hk | hk | hk | hk <;> rw [hk] <;> simp [e0, e1, e2, e3]
theorem empty_not {S : Nat → Nat} (ho : okS S) (he : emptyB S = false) : ∃ n, n < 256 ∧ hasS S n = true := by
  apply Classical.byContradiction
  intro hn
  have hw : ∀ i, i < 4 → S i = 0 := fun i hi => word_zero (ho i) fun j hj => by
    cases hb : (S i).testBit j with
    | false => rfl
    | true =>
      exfalso
      apply hn
      refine ⟨64 * i + j, by omega, ?_⟩
      unfold hasS
      rw [show (64 * i + j) / 64 = i by omega, show (64 * i + j) % 64 = j by omega]
      exact hb
  have : emptyB S = true := decide_eq_true ⟨hw 0 (by omega), hw 1 (by omega), hw 2 (by omega), hw 3 (by omega)⟩
  rw [this] at he; cases he
theorem spr_end {fr to : Arr → Int} {ars : List Arr} {l : List Int} {F R : Nat → Nat} (hl : ∀ x ∈ l, 0 ≤ x ∧ x < 256) (hin : ∀ a ∈ ars, (0 ≤ fr a ∧ fr a < 256) ∧ 0 ≤ to a ∧ to a < 256) (h : Spr fr to ars l F R) (he : emptyB R = true) (x : Int) : x ∈ rowS F ↔ Rch fr to ars l x := by
  rw [mem_rowS]
  constructor
  · rintro ⟨h0, h1, h2⟩
    have := h.rch x.toNat (by omega) h2
    rwa [Int.toNat_of_nonneg h0] at this
  · intro hx
    refine hx (fun x => 0 ≤ x ∧ x < 256 ∧ hasS F x.toNat = true) ⟨fun y hy => ⟨(hl y hy).1, (hl y hy).2, h.start y hy⟩, fun a ha ⟨h1, h2, h3⟩ => ?_⟩
    have hb := hin a ha
    exact ⟨hb.2.1, hb.2.2, h.shut a ha h3 (empty_has he _ (by omega))⟩
/-- What falls from round to round. -/
def msr (F R : Nat → Nat) : Nat := 2 * (256 - (allS F).length) + (emptyB R == false).toNat
theorem allS_filter {F G : Nat → Nat} (h : ∀ n, n < 256 → hasS F n = true → hasS G n = true) : allS F = (allS G).filter fun n => hasS F n := by
  apply natInc_ext (inc_fromS F 4 0) ((inc_fromS G 4 0).filter _)
  intro x
  show x ∈ allS F ↔ x ∈ (allS G).filter _
  rw [List.mem_filter, mem_allS, mem_allS]
  constructor
  · rintro ⟨h1, h2⟩; exact ⟨⟨h1, h x h1 h2⟩, h2⟩
  · rintro ⟨⟨h1, _⟩, h2⟩; exact ⟨h1, h2⟩
theorem msr_lt {fr to : Arr → Int} {ars : List Arr} {l : List Int} {F R : Nat → Nat} (h : Spr fr to ars l F R) (he : emptyB R = false) : msr (joinS F (frS fr to ars F R)) (frS fr to ars F R) < msr F R := by
  have o1 : okS (frS fr to ars F R) := okS_less (ok_toF (okS_tabK fr to ars) _)
  have hf := allS_filter (F := F) (G := joinS F (frS fr to ars F R)) (fun n _ hx => by rw [hasS_join, hx]; rfl)
  have hl2 := allS_len (joinS F (frS fr to ars F R))
  unfold msr
  rw [he]
  cases hE : emptyB (frS fr to ars F R) with
  | true =>
    have : (allS F).length ≤ (allS (joinS F (frS fr to ars F R))).length := by rw [hf]; exact List.length_filter_le _ _
    simp
    omega
  | false =>
    obtain ⟨n, hn, hx⟩ := empty_not o1 hE
    have : (allS F).length < (allS (joinS F (frS fr to ars F R))).length := by
      rw [hf]
      apply List.length_filter_lt_length_iff_exists.2
      refine ⟨n, (mem_allS _ _).2 ⟨hn, by rw [hasS_join, hx]; simp⟩, ?_⟩
      have := hx
      unfold frS at this
      rw [hasS_less h.okF, Bool.and_eq_true] at this
      have h2 : hasS F n = false := by simpa using this.2
      rw [h2]; simp
    simp
    omega

theorem inc_reach (m : Mach) : Inc (reachL m) := inc_srt _
theorem inc_live (m : Mach) : Inc (liveL m) := inc_srt _
theorem row_reach {m : Mach} (hm : mayB m = true) {F : Nat → Nat} (h : ∀ x, x ∈ rowS F ↔ Rch (·.f) (·.t) m.arrows m.starts x) : rowS F = reachL m :=
  inc_ext (inc_rowS F) (inc_reach m) (fun x => (h x).trans (mem_reach hm x).symm)
theorem row_live {m : Mach} (hm : mayB m = true) {F : Nat → Nat} (h : ∀ x, x ∈ rowS F ↔ Rch (·.t) (·.f) m.arrows m.ends x) : rowS F = liveL m :=
  inc_ext (inc_rowS F) (inc_live m) (fun x => (h x).trans (mem_live hm x).symm)
theorem row_trim {m : Mach} {F G : Nat → Nat} (hF : rowS F = reachL m) (hG : rowS G = liveL m) : rowS (meetS F G) = trimL m := by
  refine inc_ext (inc_rowS _) (inc_trim m) (fun x => ?_)
  rw [mem_trim, ← hF, ← hG, mem_rowS, mem_rowS, mem_rowS, hasS_meet, Bool.and_eq_true]
  constructor
  · rintro ⟨h0, h1, h2, h3⟩; exact ⟨⟨h0, h1, h2⟩, h0, h1, h3⟩
  · rintro ⟨⟨h0, h1, h2⟩, -, -, h3⟩; exact ⟨h0, h1, h2, h3⟩

end Go.Proofs.YtdnglodemkeooaaDoor
namespace Go.Proofs.YtdnglodemkeooaaDoor
open Go.RowKit
set_option linter.unusedVariables false

theorem andw_words {S T : Nat → Nat} (h : okS S) (h' : okS T) (k : Nat) : bits .and .u64 (S k : Int) (T k : Int) = ((S k &&& T k : Nat) : Int) := bits_and_u64_nat _ _ (h k) (h' k)
theorem less_words {S T : Nat → Nat} (h : okS S) (h' : okS T) (k : Nat) : bits .andNot .u64 (S k : Int) (T k : Int) = ((S k &&& (18446744073709551615 - T k) : Nat) : Int) := u64_andNot_nat _ _ (h k) (h' k)

/-- The first k words met. -/
def mixM (k : Nat) (S T : Nat → Nat) : Nat → Nat := fun j => if j < k then S j &&& T j else S j

theorem mixM_step0 {S T : Nat → Nat} (h : okS S) (h' : okS T) : (scells (mixM 0 S T)).setIfInBounds 0 (.int .u64 (bits .and .u64 (mixM 0 S T 0) (T 0))) = scells (mixM 1 S T) := by
  show (#[.int .u64 (bits .and .u64 (S 0) (T 0)), .int .u64 (S 1), .int .u64 (S 2), .int .u64 (S 3)] : Array Value) = _
  rw [andw_words h h']; rfl
theorem mixM_step1 {S T : Nat → Nat} (h : okS S) (h' : okS T) : (scells (mixM 1 S T)).setIfInBounds 1 (.int .u64 (bits .and .u64 (mixM 1 S T 1) (T 1))) = scells (mixM 2 S T) := by
  show (#[.int .u64 (mixM 1 S T 0), .int .u64 (bits .and .u64 (S 1) (T 1)), .int .u64 (S 2), .int .u64 (S 3)] : Array Value) = _
  rw [andw_words h h']; rfl
theorem mixM_step2 {S T : Nat → Nat} (h : okS S) (h' : okS T) : (scells (mixM 2 S T)).setIfInBounds 2 (.int .u64 (bits .and .u64 (mixM 2 S T 2) (T 2))) = scells (mixM 3 S T) := by
  show (#[.int .u64 (mixM 2 S T 0), .int .u64 (mixM 2 S T 1), .int .u64 (bits .and .u64 (S 2) (T 2)), .int .u64 (S 3)] : Array Value) = _
  rw [andw_words h h']; rfl
theorem mixM_step3 {S T : Nat → Nat} (h : okS S) (h' : okS T) : (scells (mixM 3 S T)).setIfInBounds 3 (.int .u64 (bits .and .u64 (mixM 3 S T 3) (T 3))) = scells (mixM 4 S T) := by
  show (#[.int .u64 (mixM 3 S T 0), .int .u64 (mixM 3 S T 1), .int .u64 (mixM 3 S T 2), .int .u64 (bits .and .u64 (S 3) (T 3))] : Array Value) = _
  rw [andw_words h h']; rfl

set_option maxHeartbeats 2000000 in
theorem meet_any (S T : Nat → Nat) (w : World) (h : okS S) (h' : okS T) :
    Calls Tryd.prog 57 #[sval S, sval T] w fun e w' => e = .returned (sval (meetS S T)) ∧ Below w.heap.size w w' := by
  go_enter Tryd.func57, Tryd.ntmps57
  go_wp2
  go_loopw [6] (fun i wr => ∃ k : Nat, k ≤ 4 ∧ i = .int .i64 k ∧ SB wr w.heap.size (mixM k S T) ∧ SB wr (w.heap.size + 1) T ∧ SB wr (w.heap.size + 2) zeroS ∧ Below w.heap.size w wr) (fun i _ => 4 - (intOf i).toNat)
  case atStart =>
    refine ⟨0, by omega, rfl, ((Blk.new w _ _).alloc _).alloc _, ?_, ?_, (((Below.refl _ _).alloc (Nat.le_refl _) _).alloc (by simp) _).alloc (by simp; omega) _⟩
    · have := (Blk.new (w.alloc (.cells (scells S) 62)) 62 (scells T)).alloc (.cells (scells zeroS) 62)
      rwa [World.size_alloc] at this
    · have := (Blk.new ((w.alloc (.cells (scells S) 62)).alloc (.cells (scells T) 62)) 62 (scells zeroS))
      rwa [World.size_alloc, World.size_alloc] at this
  case round =>
    obtain ⟨k, hk, rfl, s1, s2, s3, hB⟩ := hrel
    have hk' : k = 4 ∨ k = 0 ∨ k = 1 ∨ k = 2 ∨ k = 3 := by omega
    obtain ⟨p0, p1, p2, p3⟩ := s1.cells
    obtain ⟨q0, q1, q2, q3⟩ := s2.cells
    have fz := s1.frozen
    rcases hk' with rfl | rfl | rfl | rfl | rfl
    · obtain ⟨r0, r1, r2, r3⟩ := s3.cells
      have fz3 := s3.frozen
      have e4 : Hid (scells (mixM 4 S T) = scells (meetS S T)) := rfl
      have k1 := (((s3.set 0 (.int .u64 (mixM 4 S T 0))).set 1 (.int .u64 (mixM 4 S T 1))).set 2 (.int .u64 (mixM 4 S T 2))).set 3 (.int .u64 (mixM 4 S T 3))
      have k2 := Hid.of k1
      clear k1
      go_wp2
      have k1 := k2.out
      refine bodyPost_ret (v := sval (meetS S T)) ?_ rfl ⟨rfl, (((hB.setCell (p := ⟨w.heap.size + 1 + 1, 0, none⟩) (by simp; omega) _).setCell (p := ⟨w.heap.size + 1 + 1, 1, none⟩) (by simp; omega) _).setCell (p := ⟨w.heap.size + 1 + 1, 2, none⟩) (by simp; omega) _).setCell (p := ⟨w.heap.size + 1 + 1, 3, none⟩) (by simp; omega) _⟩
      exact results_cell_row (g := w.heap.size + 2) (p := 4) rfl _ _ _ _ _ _ rfl k1 Tryd.underlying62 rfl (by kernel_rfl)
    · go_wp2
      go_region
      go_wp2
      exact ⟨⟨1, by omega, rfl, (by have := s1.set 0 (.int .u64 (bits .and .u64 (mixM 0 S T 0) (T 0))); rwa [mixM_step0 h h'] at this), s2.other (by omega) _, s3.other (by omega) _, (hB.setCell (p := ⟨w.heap.size, 0, none⟩) (by simp) _).drew⟩, by simp [intOf]⟩
    · go_wp2
      go_region
      go_wp2
      exact ⟨⟨2, by omega, rfl, (by have := s1.set 1 (.int .u64 (bits .and .u64 (mixM 1 S T 1) (T 1))); rwa [mixM_step1 h h'] at this), s2.other (by omega) _, s3.other (by omega) _, (hB.setCell (p := ⟨w.heap.size, 1, none⟩) (by simp) _).drew⟩, by simp [intOf]⟩
    · go_wp2
      go_region
      go_wp2
      exact ⟨⟨3, by omega, rfl, (by have := s1.set 2 (.int .u64 (bits .and .u64 (mixM 2 S T 2) (T 2))); rwa [mixM_step2 h h'] at this), s2.other (by omega) _, s3.other (by omega) _, (hB.setCell (p := ⟨w.heap.size, 2, none⟩) (by simp) _).drew⟩, by simp [intOf]⟩
    · go_wp2
      go_region
      go_wp2
      exact ⟨⟨4, by omega, rfl, (by have := s1.set 3 (.int .u64 (bits .and .u64 (mixM 3 S T 3) (T 3))); rwa [mixM_step3 h h'] at this), s2.other (by omega) _, s3.other (by omega) _, (hB.setCell (p := ⟨w.heap.size, 3, none⟩) (by simp) _).drew⟩, by simp [intOf]⟩

/-- The first k words less. -/
def mixL (k : Nat) (S T : Nat → Nat) : Nat → Nat := fun j => if j < k then S j &&& (18446744073709551615 - T j) else S j

theorem mixL_step0 {S T : Nat → Nat} (h : okS S) (h' : okS T) : (scells (mixL 0 S T)).setIfInBounds 0 (.int .u64 (bits .andNot .u64 (mixL 0 S T 0) (T 0))) = scells (mixL 1 S T) := by
  show (#[.int .u64 (bits .andNot .u64 (S 0) (T 0)), .int .u64 (S 1), .int .u64 (S 2), .int .u64 (S 3)] : Array Value) = _
  rw [less_words h h']; rfl
theorem mixL_step1 {S T : Nat → Nat} (h : okS S) (h' : okS T) : (scells (mixL 1 S T)).setIfInBounds 1 (.int .u64 (bits .andNot .u64 (mixL 1 S T 1) (T 1))) = scells (mixL 2 S T) := by
  show (#[.int .u64 (mixL 1 S T 0), .int .u64 (bits .andNot .u64 (S 1) (T 1)), .int .u64 (S 2), .int .u64 (S 3)] : Array Value) = _
  rw [less_words h h']; rfl
theorem mixL_step2 {S T : Nat → Nat} (h : okS S) (h' : okS T) : (scells (mixL 2 S T)).setIfInBounds 2 (.int .u64 (bits .andNot .u64 (mixL 2 S T 2) (T 2))) = scells (mixL 3 S T) := by
  show (#[.int .u64 (mixL 2 S T 0), .int .u64 (mixL 2 S T 1), .int .u64 (bits .andNot .u64 (S 2) (T 2)), .int .u64 (S 3)] : Array Value) = _
  rw [less_words h h']; rfl
theorem mixL_step3 {S T : Nat → Nat} (h : okS S) (h' : okS T) : (scells (mixL 3 S T)).setIfInBounds 3 (.int .u64 (bits .andNot .u64 (mixL 3 S T 3) (T 3))) = scells (mixL 4 S T) := by
  show (#[.int .u64 (mixL 3 S T 0), .int .u64 (mixL 3 S T 1), .int .u64 (mixL 3 S T 2), .int .u64 (bits .andNot .u64 (S 3) (T 3))] : Array Value) = _
  rw [less_words h h']; rfl

set_option maxHeartbeats 2000000 in
theorem less_any (S T : Nat → Nat) (w : World) (h : okS S) (h' : okS T) :
    Calls Tryd.prog 124 #[sval S, sval T] w fun e w' => e = .returned (sval (lessS S T)) ∧ Below w.heap.size w w' := by
  go_enter Tryd.func124, Tryd.ntmps124
  go_wp2
  go_loopw [6] (fun i wr => ∃ k : Nat, k ≤ 4 ∧ i = .int .i64 k ∧ SB wr w.heap.size (mixL k S T) ∧ SB wr (w.heap.size + 1) T ∧ SB wr (w.heap.size + 2) zeroS ∧ Below w.heap.size w wr) (fun i _ => 4 - (intOf i).toNat)
  case atStart =>
    refine ⟨0, by omega, rfl, ((Blk.new w _ _).alloc _).alloc _, ?_, ?_, (((Below.refl _ _).alloc (Nat.le_refl _) _).alloc (by simp) _).alloc (by simp; omega) _⟩
    · have := (Blk.new (w.alloc (.cells (scells S) 62)) 62 (scells T)).alloc (.cells (scells zeroS) 62)
      rwa [World.size_alloc] at this
    · have := (Blk.new ((w.alloc (.cells (scells S) 62)).alloc (.cells (scells T) 62)) 62 (scells zeroS))
      rwa [World.size_alloc, World.size_alloc] at this
  case round =>
    obtain ⟨k, hk, rfl, s1, s2, s3, hB⟩ := hrel
    have hk' : k = 4 ∨ k = 0 ∨ k = 1 ∨ k = 2 ∨ k = 3 := by omega
    obtain ⟨p0, p1, p2, p3⟩ := s1.cells
    obtain ⟨q0, q1, q2, q3⟩ := s2.cells
    have fz := s1.frozen
    rcases hk' with rfl | rfl | rfl | rfl | rfl
    · obtain ⟨r0, r1, r2, r3⟩ := s3.cells
      have fz3 := s3.frozen
      have e4 : Hid (scells (mixL 4 S T) = scells (lessS S T)) := rfl
      have k1 := (((s3.set 0 (.int .u64 (mixL 4 S T 0))).set 1 (.int .u64 (mixL 4 S T 1))).set 2 (.int .u64 (mixL 4 S T 2))).set 3 (.int .u64 (mixL 4 S T 3))
      have k2 := Hid.of k1
      clear k1
      go_wp2
      have k1 := k2.out
      refine bodyPost_ret (v := sval (lessS S T)) ?_ rfl ⟨rfl, (((hB.setCell (p := ⟨w.heap.size + 1 + 1, 0, none⟩) (by simp; omega) _).setCell (p := ⟨w.heap.size + 1 + 1, 1, none⟩) (by simp; omega) _).setCell (p := ⟨w.heap.size + 1 + 1, 2, none⟩) (by simp; omega) _).setCell (p := ⟨w.heap.size + 1 + 1, 3, none⟩) (by simp; omega) _⟩
      exact results_cell_row (g := w.heap.size + 2) (p := 4) rfl _ _ _ _ _ _ rfl k1 Tryd.underlying62 rfl (by kernel_rfl)
    · go_wp2
      go_region
      go_wp2
      exact ⟨⟨1, by omega, rfl, (by have := s1.set 0 (.int .u64 (bits .andNot .u64 (mixL 0 S T 0) (T 0))); rwa [mixL_step0 h h'] at this), s2.other (by omega) _, s3.other (by omega) _, (hB.setCell (p := ⟨w.heap.size, 0, none⟩) (by simp) _).drew⟩, by simp [intOf]⟩
    · go_wp2
      go_region
      go_wp2
      exact ⟨⟨2, by omega, rfl, (by have := s1.set 1 (.int .u64 (bits .andNot .u64 (mixL 1 S T 1) (T 1))); rwa [mixL_step1 h h'] at this), s2.other (by omega) _, s3.other (by omega) _, (hB.setCell (p := ⟨w.heap.size, 1, none⟩) (by simp) _).drew⟩, by simp [intOf]⟩
    · go_wp2
      go_region
      go_wp2
      exact ⟨⟨3, by omega, rfl, (by have := s1.set 2 (.int .u64 (bits .andNot .u64 (mixL 2 S T 2) (T 2))); rwa [mixL_step2 h h'] at this), s2.other (by omega) _, s3.other (by omega) _, (hB.setCell (p := ⟨w.heap.size, 2, none⟩) (by simp) _).drew⟩, by simp [intOf]⟩
    · go_wp2
      go_region
      go_wp2
      exact ⟨⟨4, by omega, rfl, (by have := s1.set 3 (.int .u64 (bits .andNot .u64 (mixL 3 S T 3) (T 3))); rwa [mixL_step3 h h'] at this), s2.other (by omega) _, s3.other (by omega) _, (hB.setCell (p := ⟨w.heap.size, 3, none⟩) (by simp) _).drew⟩, by simp [intOf]⟩

end Go.Proofs.YtdnglodemkeooaaDoor
