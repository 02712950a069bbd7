/-
  A map from signs of states to numbers, as the model runs it: the numbers in the order in which the signs came.
  A table of sets in memory, and what the closure of machine.Leader knows.
  Small facts on sets in memory, for the walks that range over a set or fill a table of sets.
  Plain mathematics of what a set of states leads to, in any number of steps. No program, no model.
  The walks of Set.Meet and Set.Less.
-/
import Derived.Test.YtkkkacmccndinaaDoorG19
import Derived.Test.YtkkkacmccndinaaDoorG20
import Derived.Test.YtkkkacmccndinaaDoorG13
import Derived.Test.YtkkkacmccndinaaDoorG03
import Derived.Laws.MakeOwn
import Derived.OwnWalk
import Derived.Deep.RegionWith
import Derived.Test.YtkkkacmccndinaaDoorG06
import Derived.Test.YtkkkacmccndinaaDoorG07
import Derived.Test.YtkkkacmccndinaaDoorCSetOps
import Derived.Laws.BitsAllLaws
namespace Go.Proofs.YtkkkacmccndinaaDoor
open Go.RowKit
set_option linter.unusedVariables false

/-- A sign: nine numbers. -/
abbrev gvalL (l : List Nat) : Value := .agg (l.map fun (x : Nat) => Value.int .i64 (x : Int)).toArray
def okG (l : List Nat) : Prop := l.length = 9 ∧ ∀ x ∈ l, x ≤ 256
theorem nine {l : List Nat} (h : l.length = 9) : ∃ a b c d e f g i j, l = [a, b, c, d, e, f, g, i, j] := by
  match l, h with
  | [a, b, c, d, e, f, g, i, j], _ => exact ⟨a, b, c, d, e, f, g, i, j, rfl⟩
theorem wf_i64 {n : Nat} (h : n ≤ 256) : (Lit.int .i64 (n : Int)).wf = true := by
  have h1 : IntKind.i64.min = -9223372036854775808 := rfl
  have h2 : IntKind.i64.max = 9223372036854775807 := rfl
  simp [Lit.wf, h1, h2]; omega
theorem rowG : (150 : TypeId) < Tryd.prog.types.size := of_decide_eq_true (by kernel_rfl)
theorem wideG : (match Tryd.prog.underlying 150 with | some (.array _ _) | some (.struct _) => true | _ => false) = true := by kernel_rfl
set_option maxRecDepth 100000 in
theorem lawG : WideMaps.KeyLaw Tryd.prog 150 := deep_law_laid laidOutS (m := 5) (by omega) rowG (by kernel_rfl) wideG
set_option maxRecDepth 100000 in
theorem keyG {l : List Nat} (h : okG l) : ∃ k, keyOf Tryd.prog 150 (gvalL l) = some k := by
  obtain ⟨a0, a1, a2, a3, a4, a5, a6, a7, a8, rfl⟩ := nine h.1
  have h0 := wf_i64 (h.2 a0 (by simp))
  have h1 := wf_i64 (h.2 a1 (by simp))
  have h2 := wf_i64 (h.2 a2 (by simp))
  have h3 := wf_i64 (h.2 a3 (by simp))
  have h4 := wf_i64 (h.2 a4 (by simp))
  have h5 := wf_i64 (h.2 a5 (by simp))
  have h6 := wf_i64 (h.2 a6 (by simp))
  have h7 := wf_i64 (h.2 a7 (by simp))
  have h8 := wf_i64 (h.2 a8 (by simp))
  have hk : Tryd.prog.keyType 150 = true := by kernel_rfl
  have hp : Tryd.prog.cellsOf 150 = 9 := by kernel_rfl
  have hc : Tryd.prog.cellsOf 148 = 8 := by kernel_rfl
  have hci : Tryd.prog.cellsOf 3 = 1 := by kernel_rfl
  have hs : ∃ m, Tryd.prog.types.size = m + 1 + 1 := ⟨Tryd.prog.types.size - 2, by have : 2 ≤ Tryd.prog.types.size := of_decide_eq_true (by kernel_rfl); omega⟩
  obtain ⟨m, hm⟩ := hs
  show ∃ k, keyOf Tryd.prog 150 (.agg #[.int .i64 a0, .int .i64 a1, .int .i64 a2, .int .i64 a3, .int .i64 a4, .int .i64 a5, .int .i64 a6, .int .i64 a7, .int .i64 a8]) = some k
  unfold keyOf
  simp only [Tryd.underlying150]
  rw [if_pos (by simp [hk, Value.formed, Tryd.underlying150, hp]), hm]
  unfold Program.keyLits
  simp only [Tryd.underlying150, Value.cells]
  have hr : List.range 8 = [0, 1, 2, 3, 4, 5, 6, 7] := rfl
  simp [hp, hc, hci, Program.keyLits, Tryd.underlying148, Tryd.underlying3, hr, h0, h1, h2, h3, h4, h5, h6, h7, h8]
theorem map_inj : ∀ {l t : List Nat}, (l.map fun (x : Nat) => Value.int .i64 (x : Int)) = (t.map fun (x : Nat) => Value.int .i64 (x : Int)) → l = t
  | [], [], _ => rfl
  | [], _ :: _, h => by simp at h
  | _ :: _, [], h => by simp at h
  | a :: l, b :: t, h => by
    rw [List.map_cons, List.map_cons] at h
    injection h with h1 h2
    injection h1 with _ h1
    have e : a = b := by omega
    rw [e, map_inj h2]
theorem gvalL_inj {l t : List Nat} (h : gvalL l = gvalL t) : l = t := by
  have h1 : (l.map fun (x : Nat) => Value.int .i64 (x : Int)).toArray = (t.map fun (x : Nat) => Value.int .i64 (x : Int)).toArray := by injection h
  have h2 : (l.map fun (x : Nat) => Value.int .i64 (x : Int)) = (t.map fun (x : Nat) => Value.int .i64 (x : Int)) := by simpa using h1
  exact map_inj h2
/-- A thing's place in a list. -/
def idxD {σ : Type} [DecidableEq σ] (L : List σ) (s : σ) : Nat := L.idxOf s
theorem idxD_eq {σ : Type} [DecidableEq σ] {L : List σ} (hnd : L.Nodup) {s : σ} {j : Nat} (h : L[j]? = some s) : idxD L s = j := by
  have h4 := List.idxOf_lt_length_of_mem (List.mem_of_getElem? h)
  have h5 : L[L.idxOf s]? = some s := by rw [List.getElem?_eq_getElem h4]; exact congrArg some (List.getElem_idxOf h4)
  exact (List.getElem?_inj h4 hnd).1 (h5.trans h.symm)
def entT (k : Nat) (l : List Nat) : MapEntry := { key := gvalL l, val := .int .i64 k, born := k }
def entsT (L : List (List Nat)) : Array MapEntry := (L.mapIdx entT).toArray
theorem entsT_snoc (L : List (List Nat)) (l : List Nat) : entsT (L ++ [l]) = (entsT L).push (entT L.length l) := by
  unfold entsT; rw [List.mapIdx_concat]; simp
theorem find_sign {L : List (List Nat)} (hL : ∀ l ∈ L, okG l) (hnd : L.Nodup) {s : List Nat} (hs : okG s) (w : World) :
    (Instr.findKey 150 (gvalL s) (entsT L).toList).run Tryd.prog w = .ok (if s ∈ L then some (idxD L s, .int .i64 (idxD L s : Nat)) else none) w := by
  obtain ⟨kl, hl⟩ := keyG hs
  have hget : ∀ (j : Nat) e, (entsT L).toList[j]? = some e → ∃ T, L[j]? = some T ∧ e = entT j T := by
    intro j e h
    simp only [entsT] at h
    rw [List.getElem?_mapIdx] at h
    cases hq : L[j]? with
    | none => rw [hq] at h; cases h
    | some q => rw [hq] at h; exact ⟨q, rfl, (Option.some.inj h).symm⟩
  have hes : ∀ e ∈ (entsT L).toList, ∃ l, keyOf Tryd.prog 150 e.key = some l := by
    intro e he
    obtain ⟨j, hj⟩ := List.mem_iff_getElem?.1 he
    obtain ⟨T, hT, rfl⟩ := hget j e hj
    exact keyG (hL T (List.mem_of_getElem? hT))
  rcases lawG.find w hl (entsT L).toList hes with ⟨h1, h2⟩ | ⟨j, e, h1, h2, h3⟩
  · have hn : s ∉ L := fun hm => by
      obtain ⟨j, hj⟩ := List.mem_iff_getElem?.1 hm
      refine h2 (entT j s) (List.mem_of_getElem? (i := j) ?_) rfl
      simp only [entsT]
      rw [List.getElem?_mapIdx, hj]; rfl
    rw [h1, if_neg hn]
  · obtain ⟨T, hT, rfl⟩ := hget j e h2
    have e1 : T = s := gvalL_inj h3
    subst e1
    have hm := List.mem_of_getElem? hT
    have hj : idxD L T = j := idxD_eq hnd hT
    rw [h1, if_pos hm, hj]; rfl
theorem mapG : Tryd.prog.underlying 147 = some (.map 150 3) := by kernel_rfl
theorem lookT_known {L : List (List Nat)} (hL : ∀ l ∈ L, okG l) (hnd : L.Nodup) {s : List Nat} (hs : okG s) {w : World} {r c : Nat} (hm : w.heap[r]? = some (.map (entsT L) c)) (h : s ∈ L) :
    (Instr.lookup 147 (.map (some r)) (gvalL s) true).run Tryd.prog w = .ok (.tuple #[(.int .i64 (idxD L s : Nat)), .bool true]) w := by
  obtain ⟨kl, hl⟩ := keyG hs
  have h1 := find_sign hL hnd hs w
  rw [if_pos h] at h1
  simp [Instr.lookup, run_underlying mapG, MapKept.run_getObj_map hm, lawG.check w _ hl, h1, Result.andThen]
theorem lookT_new {L : List (List Nat)} (hL : ∀ l ∈ L, okG l) (hnd : L.Nodup) {s : List Nat} (hs : okG s) {w : World} {r c : Nat} (hm : w.heap[r]? = some (.map (entsT L) c)) (h : s ∉ L) :
    (Instr.lookup 147 (.map (some r)) (gvalL s) true).run Tryd.prog w = .ok (.tuple #[.int .i64 0, .bool false]) w := by
  obtain ⟨kl, hl⟩ := keyG hs
  have h1 := find_sign hL hnd hs w
  rw [if_neg h] at h1
  simp [Instr.lookup, run_underlying mapG, MapKept.run_getObj_map hm, lawG.check w _ hl, h1, Result.andThen]
theorem updT_new {L : List (List Nat)} (hL : ∀ l ∈ L, okG l) (hnd : L.Nodup) {s : List Nat} (hs : okG s) {w : World} {r : Nat} (hm : w.heap[r]? = some (.map (entsT L) L.length)) (h : s ∉ L) :
    (Instr.mapUpdate 147 (.map (some r)) (gvalL s) (.int .i64 (L.length : Nat))).run Tryd.prog w = .ok () (setMap w r (.map (entsT (L ++ [s])) (L.length + 1))) := by
  obtain ⟨kl, hl⟩ := keyG hs
  have h1 := find_sign hL hnd hs w
  rw [if_neg h] at h1
  simp [Instr.mapUpdate, run_underlying mapG, MapKept.run_getObj_map hm, lawG.check w _ hl, h1, MapKept.run_setObj_map _ hm, Result.andThen, setMap, entsT_snoc, entT]

/-! Signs in a row of cells. -/
/-- The sign at x of a row of numbers. -/
def sigF (F : Nat → Nat) (x : Nat) : List Nat := [F (x * 9), F (x * 9 + 1), F (x * 9 + 2), F (x * 9 + 3), F (x * 9 + 4), F (x * 9 + 5), F (x * 9 + 6), F (x * 9 + 7), F (x * 9 + 8)]
theorem sigF_ok {F : Nat → Nat} (h : ∀ j, F j ≤ 256) (x : Nat) : okG (sigF F x) := by
  refine ⟨rfl, fun y hy => ?_⟩
  unfold sigF at hy
  simp only [List.mem_cons, List.not_mem_nil, or_false] at hy
  rcases hy with e | e | e | e | e | e | e | e | e <;> rw [e] <;> exact h _
theorem sigF_iff (F : Nat → Nat) (x y : Nat) : sigF F x = sigF F y ↔ ∀ i, i < 9 → F (x * 9 + i) = F (y * 9 + i) := by
  unfold sigF
  simp only [List.cons.injEq, and_true]
  constructor
  · rintro ⟨h0, h1, h2, h3, h4, h5, h6, h7, h8⟩ i hi
    match i, hi with
    | 0, _ => exact h0
    | 1, _ => exact h1
    | 2, _ => exact h2
    | 3, _ => exact h3
    | 4, _ => exact h4
    | 5, _ => exact h5
    | 6, _ => exact h6
    | 7, _ => exact h7
    | 8, _ => exact h8
    | i + 9, hi => omega
  · intro h
    exact ⟨h 0 (by omega), h 1 (by omega), h 2 (by omega), h 3 (by omega), h 4 (by omega), h 5 (by omega), h 6 (by omega), h 7 (by omega), h 8 (by omega)⟩
/-- The signs that ends give. -/
def endC (E : List Int) (j : Nat) : Nat := if j % 9 = 0 ∧ hasB E ((j / 9 : Nat) : Int) = true then 1 else 0
/-- The signs that classes give. -/
def stepC (D : List Arr) (ev : Nat) (c : Nat → Nat) (j : Nat) : Nat := if j % 9 = 0 then c (j / 9) else if j % 9 - 1 < ev then c (toI D ((j / 9 : Nat) : Int) ((j % 9 - 1 : Nat) : Int)).toNat else 0
theorem mod9 (x : Nat) {i : Nat} (hi : i < 9) : (x * 9 + i) % 9 = i ∧ (x * 9 + i) / 9 = x := by omega
theorem endC_iff (E : List Int) (x y : Nat) : sigF (endC E) x = sigF (endC E) y ↔ hasB E (x : Int) = hasB E (y : Int) := by
  rw [sigF_iff]
  unfold endC
  constructor
  · intro h
    have := h 0 (by omega)
    rw [(mod9 x (i := 0) (by omega)).1, (mod9 x (i := 0) (by omega)).2, (mod9 y (i := 0) (by omega)).1, (mod9 y (i := 0) (by omega)).2] at this
    cases hx : hasB E (x : Int) <;> cases hy : hasB E (y : Int) <;> simp_all
  · intro h i hi
    rw [(mod9 x hi).1, (mod9 x hi).2, (mod9 y hi).1, (mod9 y hi).2, h]
theorem stepC_iff {d : Mach} {ev : Nat} (he : d.ev = (ev : Int)) (h8 : ev ≤ 8) (c : Nat → Nat) (x y : Nat) : sigF (stepC d.arrows ev c) x = sigF (stepC d.arrows ev c) y ↔ sgn d c x = sgn d c y := by
  rw [sigF_iff, sgn_iff]
  unfold stepC
  constructor
  · intro h
    refine ⟨?_, fun e h1 => ?_⟩
    · have := h 0 (by omega)
      rw [(mod9 x (i := 0) (by omega)).1, (mod9 x (i := 0) (by omega)).2, (mod9 y (i := 0) (by omega)).1, (mod9 y (i := 0) (by omega)).2] at this
      simpa using this
    · have := h (e + 1) (by omega)
      rw [(mod9 x (i := e + 1) (by omega)).1, (mod9 x (i := e + 1) (by omega)).2, (mod9 y (i := e + 1) (by omega)).1, (mod9 y (i := e + 1) (by omega)).2, if_neg (show ¬ (e + 1 = 0) by omega), if_neg (show ¬ (e + 1 = 0) by omega), Nat.add_sub_cancel, if_pos (show e < ev by omega), if_pos (show e < ev by omega)] at this
      exact this
  · rintro ⟨h1, h2⟩ i hi
    rw [(mod9 x hi).1, (mod9 x hi).2, (mod9 y hi).1, (mod9 y hi).2]
    by_cases e0 : i = 0
    · rw [if_pos e0, if_pos e0]; exact h1
    · rw [if_neg e0, if_neg e0]
      by_cases e1 : i - 1 < ev
      · rw [if_pos e1, if_pos e1]; exact h2 _ (by omega)
      · rw [if_neg e1, if_neg e1]

end Go.Proofs.YtkkkacmccndinaaDoor
namespace Go.Proofs.YtkkkacmccndinaaDoor
open Go.RowKit Go.Shelf
set_option linter.unusedVariables false
attribute [local go_sem] Oper.semAt_some

/-- A table of N sets lies in block g. -/
def TB (W : World) (g N : Nat) (T : Nat → Nat → Nat) : Prop := ∃ cs, Blk W g 58 cs ∧ cs.size = N * 4 ∧ ∀ p j, p < N → j < 4 → cs[p * 4 + j]? = some (.int .u64 (T p j))

theorem TB.cells {W : World} {g N : Nat} {T : Nat → Nat → Nat} (h : TB W g N T) {p : Nat} (hp : p < N) : W.cell? ⟨g, p * 4, none⟩ = some (.int .u64 (T p 0)) ∧ W.cell? ⟨g, p * 4 + 1, none⟩ = some (.int .u64 (T p 1)) ∧ W.cell? ⟨g, p * 4 + 2, none⟩ = some (.int .u64 (T p 2)) ∧ W.cell? ⟨g, p * 4 + 3, none⟩ = some (.int .u64 (T p 3)) := by
  obtain ⟨cs, hb, hs, hc⟩ := h
  exact ⟨hb.cell _ (hc p 0 hp (by omega)), hb.cell _ (hc p 1 hp (by omega)), hb.cell _ (hc p 2 hp (by omega)), hb.cell _ (hc p 3 hp (by omega))⟩
theorem TB.below {W W' : World} {g N B : Nat} {T : Nat → Nat → Nat} (h : TB W g N T) (hb : Below B W W') (hB : g < B) : TB W' g N T := by
  obtain ⟨cs, h1, h2, h3⟩ := h
  exact ⟨cs, h1.below hb hB, h2, h3⟩
theorem TB.lt {W : World} {g N : Nat} {T : Nat → Nat → Nat} (h : TB W g N T) : g < W.heap.size := by
  obtain ⟨cs, h1, h2, h3⟩ := h
  exact h1.lt

/-- The blocks that machine.Leader's closure knows: isEvent's, events', to's, the table, within's own. -/
structure LB where
  pi : Nat
  pe : Nat
  pt : Nat
  pg : Nat
  pb : Nat
def LB.all (L : LB) (P : Nat → Prop) : Prop := P L.pi ∧ P L.pe ∧ P L.pt ∧ P L.pg ∧ P L.pb
theorem LB.all.imp {L : LB} {P Q : Nat → Prop} (h : L.all P) (hi : ∀ n, P n → Q n) : L.all Q := ⟨hi _ h.1, hi _ h.2.1, hi _ h.2.2.1, hi _ h.2.2.2.1, hi _ h.2.2.2.2⟩
theorem LB.all.and {L : LB} {P Q : Nat → Prop} (h : L.all P) (h' : L.all Q) : L.all fun n => P n ∧ Q n := ⟨⟨h.1, h'.1⟩, ⟨h.2.1, h'.2.1⟩, ⟨h.2.2.1, h'.2.2.1⟩, ⟨h.2.2.2.1, h'.2.2.2.1⟩, ⟨h.2.2.2.2, h'.2.2.2.2⟩⟩
/-- The closure. -/
abbrev leadV (L : LB) : Value := .func (.func 95) #[] #[.pointer (some ⟨L.pi, 0, none⟩), .pointer (some ⟨L.pe, 0, none⟩), .pointer (some ⟨L.pt, 0, none⟩)]
abbrev isV (pb : Nat) : Value := .func (.func 103) #[] #[.pointer (some ⟨pb, 0, none⟩)]
/-- What the closure knows. -/
structure LD (W : World) (L : LB) (ev N : Nat) (T : Nat → Nat → Nat) : Prop where
  is : Boxed W L.pi 106 (isV L.pb)
  evb : Boxed W L.pe 3 (.int .i64 ev)
  to : Boxed W L.pt 73 (.slice (some ⟨L.pg, 0, none⟩) N N)
  tab : TB W L.pg N T
  bd : Boxed W L.pb 3 (.int .i64 ev)
theorem LD.below {W W' : World} {B : Nat} {L : LB} {ev N : Nat} {T : Nat → Nat → Nat} (h : LD W L ev N T) (hb : Below B W W') (hB : L.all (· < B)) : LD W' L ev N T :=
  ⟨(hb.block _ hB.1).trans h.is, (hb.block _ hB.2.1).trans h.evb, (hb.block _ hB.2.2.1).trans h.to, h.tab.below hb hB.2.2.2.1, (hb.block _ hB.2.2.2.2).trans h.bd⟩
theorem LD.lt {W : World} {L : LB} {ev N : Nat} {T : Nat → Nat → Nat} (h : LD W L ev N T) : L.all (· < W.heap.size) := ⟨h.is.lt, h.evb.lt, h.to.lt, h.tab.lt, h.bd.lt⟩
theorem LD.kept {W W' : World} {L : LB} {ev N : Nat} {T : Nat → Nat → Nat} (h : LD W L ev N T) (hb : Below W.heap.size W W') : LD W' L ev N T := h.below hb h.lt


theorem TB.frozen {W : World} {g N : Nat} {T : Nat → Nat → Nat} (h : TB W g N T) (j : Nat) : W.frozen? ⟨g, j, none⟩ = false := by
  obtain ⟨cs, h1, h2, h3⟩ := h
  exact h1.frozen j

/-- One set of the table stored anew. -/
theorem TB.store {W : World} {g N p : Nat} {T : Nat → Nat → Nat} (h : TB W g N T) (hp : p < N) (U : Nat → Nat) :
    TB ((((W.setCell ⟨g, p * 4, none⟩ (.int .u64 (U 0))).setCell ⟨g, p * 4 + 1, none⟩ (.int .u64 (U 1))).setCell ⟨g, p * 4 + 2, none⟩ (.int .u64 (U 2))).setCell ⟨g, p * 4 + 3, none⟩ (.int .u64 (U 3))) g N (fun q => if q = p then U else T q) := by
  obtain ⟨cs, h1, h2, h3⟩ := h
  refine ⟨_, (((h1.set (p * 4) _).set (p * 4 + 1) _).set (p * 4 + 2) _).set (p * 4 + 3) _, by simp [h2], fun q j hq hj => ?_⟩
  simp only [Array.getElem?_setIfInBounds, Array.size_setIfInBounds]
  by_cases e : q = p
  · subst e
    have hj' : j = 0 ∨ j = 1 ∨ j = 2 ∨ j = 3 := by omega
    rcases hj' with rfl | rfl | rfl | rfl
    · simp [show q * 4 < cs.size by omega]
    · simp [show q * 4 + 1 < cs.size by omega]
    · simp [show q * 4 + 2 < cs.size by omega]
    · simp [show q * 4 + 3 < cs.size by omega]
  · have a0 : ¬ p * 4 = q * 4 + j := by omega
    have a1 : ¬ p * 4 + 1 = q * 4 + j := by omega
    have a2 : ¬ p * 4 + 2 = q * 4 + j := by omega
    have a3 : ¬ p * 4 + 3 = q * 4 + j := by omega
    rw [if_neg a3, if_neg a2, if_neg a1, if_neg a0, h3 q j hq hj, if_neg e]

theorem TB.made {W : World} {g N : Nat} (h : Blk W g 58 (madeCells #[.int .u64 0, .int .u64 0, .int .u64 0, .int .u64 0] (N * 4))) : TB W g N (fun _ => zeroS) := by
  refine ⟨_, h, size_madeCells _ _, fun p j hp hj => ?_⟩
  have hlt : p * 4 + j < N * 4 := by omega
  unfold madeCells
  rw [Array.getElem?_map, Array.getElem?_range, if_pos hlt]
  have hj' : j = 0 ∨ j = 1 ∨ j = 2 ∨ j = 3 := by omega
  have hm : (p * 4 + j) % 4 = j := by omega
  simp only [Option.map_some, List.size_toArray, List.length_cons, List.length_nil, Nat.reduceAdd, hm]
  rcases hj' with rfl | rfl | rfl | rfl <;> rfl

end Go.Proofs.YtkkkacmccndinaaDoor
namespace Go.Proofs.YtkkkacmccndinaaDoor
open Go.RowKit Go.Shelf
set_option linter.unusedVariables false
attribute [local go_sem] Oper.semAt_some

theorem Tryd.infoSet : (Tryd.prog.info? 58).map (fun i => (i.zero, i.size, i.bytes)) = some (some (sval zeroS), 4, 32) := by kernel_rfl

/-- What holds where a region is left as it should be. -/
def regQ (R : Act → World → Prop) : Exit → Act → World → Prop
  | .normal, a, w => R a w
  | _, _, _ => False
theorem regQ_imp {R : Act → World → Prop} {Q : Exit → Act → World → Prop} (h : ∀ a w, R a w → Q .normal a w) : ∀ e a w, regQ R e a w → Q e a w := fun e a w hr => by
  cases e <;> first | exact h a w hr | exact hr.elim

theorem Blk.other4' {W : World} {b b' : Nat} {t : TypeId} {cs : Array Value} (h : Blk W b t cs) (j : Nat) (hne : b ≠ b') (v0 v1 v2 v3 : Value) : Blk ((((W.setCell ⟨b', j, none⟩ v0).setCell ⟨b', j + 1, none⟩ v1).setCell ⟨b', j + 2, none⟩ v2).setCell ⟨b', j + 3, none⟩ v3) b t cs :=
  (((h.other hne v0).other hne v1).other hne v2).other hne v3
theorem below_set4' {W V : World} {B b' : Nat} (h : Below B V W) (j : Nat) (hb : B ≤ b') (v0 v1 v2 v3 : Value) : Below B V ((((W.setCell ⟨b', j, none⟩ v0).setCell ⟨b', j + 1, none⟩ v1).setCell ⟨b', j + 2, none⟩ v2).setCell ⟨b', j + 3, none⟩ v3) :=
  (((h.setCell (p := ⟨b', j, none⟩) hb v0).setCell (p := ⟨b', j + 1, none⟩) hb v1).setCell (p := ⟨b', j + 2, none⟩) hb v2).setCell (p := ⟨b', j + 3, none⟩) hb v3

theorem lead_ix {st ev x e : Nat} (hx : x < st) (he : e < ev) : x * ev + e < st * ev := by
  have : (x + 1) * ev ≤ st * ev := Nat.mul_le_mul_right _ hx
  rw [Nat.add_mul] at this
  omega

theorem own_SB {β : Type} (B : Nat) (S : β → Nat → Nat) : Go.Own (fun (s : β) W => SB W B (S s)) := by
  intro s W W' row h hg hr
  obtain ⟨hlt, hk⟩ := Array.getElem?_eq_some_iff.1 h
  exact (grownBy_keeps_cells hg hr (k := B) h rfl).trans h

def nbNats {N : Nat} (pre : List (NB N)) : List Nat := pre.map fun x => x.1
theorem nbNats_snoc {N : Nat} (pre : List (NB N)) (x : NB N) : nbNats (pre ++ [x]) = nbNats pre ++ [x.1] := by simp [nbNats]

theorem lead1_ix {st ev x e : Nat} (hx : x < st) (he : e < ev) : x * ev + e < st * ev := by
  have : (x + 1) * ev ≤ st * ev := Nat.mul_le_mul_right _ hx
  rw [Nat.add_mul] at this
  omega

end Go.Proofs.YtkkkacmccndinaaDoor
namespace Go.Proofs.YtkkkacmccndinaaDoor
open Go.RowKit
set_option linter.unusedVariables false

/-- What both have; what the first one alone has. -/
def meetS (S T : Nat → Nat) : Nat → Nat := fun k => S k &&& T k
def lessS (S T : Nat → Nat) : Nat → Nat := fun k => S k &&& (18446744073709551615 - T k)
theorem okS_meet {S T : Nat → Nat} (h : okS S) : okS (meetS S T) := fun k => Nat.lt_of_le_of_lt Nat.and_le_left (h k)
theorem okS_less {S T : Nat → Nat} (h : okS S) : okS (lessS S T) := fun k => Nat.lt_of_le_of_lt Nat.and_le_left (h k)
theorem hasS_meet (S T : Nat → Nat) (n : Nat) : hasS (meetS S T) n = (hasS S n && hasS T n) := by simp [hasS, meetS]
theorem hasS_less {S T : Nat → Nat} (h : okS T) (n : Nat) : hasS (lessS S T) n = (hasS S n && !hasS T n) := by
  unfold hasS lessS
  rw [Nat.testBit_and]
  have e : 18446744073709551615 - T (n / 64) = 2 ^ 64 - (T (n / 64) + 1) := by
    show _ = 18446744073709551616 - _
    omega
  rw [e, Nat.testBit_two_pow_sub_succ (h _)]
  have : n % 64 < 64 := by omega
  simp [this]

/-- The table: where each state leads in one step. -/
def tabKStep (fr to : Arr → Int) (T : Nat → Nat → Nat) (a : Arr) : Nat → Nat → Nat := fun p => if p = (fr a).toNat then withS (T p) (to a).toNat else T p
def tabK (fr to : Arr → Int) (ars : List Arr) : Nat → Nat → Nat := ars.foldl (tabKStep fr to) (fun _ => zeroS)
theorem tabK_take {fr to : Arr → Int} {ars : List Arr} {k : Nat} {a : Arr} (h : k < ars.length) (ha : Hid (a = ars[k]?.getD arr0)) : tabK fr to (ars.take (k + 1)) = tabKStep fr to (tabK fr to (ars.take k)) a := by
  have ha := ha.out
  rw [List.getElem?_eq_getElem h, Option.getD_some] at ha
  unfold tabK
  rw [List.take_add_one, List.getElem?_eq_getElem h, ← ha]
  simp [List.foldl_append]
theorem okS_tabKStep {fr to : Arr → Int} {T : Nat → Nat → Nat} (h : ∀ p, okS (T p)) (a : Arr) : ∀ p, okS (tabKStep fr to T a p) := fun p => by
  unfold tabKStep; split
  · exact okS_with (h p) _
  · exact h p
theorem okS_foldTabK {fr to : Arr → Int} : ∀ (ars : List Arr) (T : Nat → Nat → Nat), (∀ p, okS (T p)) → ∀ p, okS (ars.foldl (tabKStep fr to) T p)
  | [], _, h => h
  | a :: r, T, h => okS_foldTabK r _ (okS_tabKStep h a)
theorem okS_tabK (fr to : Arr → Int) (ars : List Arr) (p : Nat) : okS (tabK fr to ars p) := okS_foldTabK ars _ (fun _ => okS_zero) p
theorem has_foldTabK {fr to : Arr → Int} {p n : Nat} : ∀ (ars : List Arr) (T : Nat → Nat → Nat), hasS (ars.foldl (tabKStep fr to) T p) n = true ↔ hasS (T p) n = true ∨ ∃ a ∈ ars, p = (fr a).toNat ∧ n = (to a).toNat
  | [], T => by simp
  | a :: r, T => by
    rw [List.foldl_cons, has_foldTabK r]
    have e : hasS (tabKStep fr to T a p) n = true ↔ hasS (T p) n = true ∨ (p = (fr a).toNat ∧ n = (to a).toNat) := by
      unfold tabKStep
      by_cases h : p = (fr a).toNat
      · rw [if_pos h, hasS_with, Bool.or_eq_true, decide_eq_true_eq]; simp [h]
      · rw [if_neg h]; simp [h]
    rw [e]
    simp only [List.mem_cons, exists_eq_or_imp]
    rw [or_assoc]
theorem has_tabK (fr to : Arr → Int) (p n : Nat) (ars : List Arr) : hasS (tabK fr to ars p) n = true ↔ ∃ a ∈ ars, p = (fr a).toNat ∧ n = (to a).toNat := by
  unfold tabK; rw [has_foldTabK]; simp [hasS_zero]

/-- Where states lead to, by a table. -/
def toF (T : Nat → Nat → Nat) (ns : List Nat) : Nat → Nat := ns.foldl (fun o n => joinS o (T n)) zeroS
theorem toF_snoc (T : Nat → Nat → Nat) (ns : List Nat) (n : Nat) : toF T (ns ++ [n]) = joinS (toF T ns) (T n) := by simp [toF, List.foldl_append]
theorem ok_toG {T : Nat → Nat → Nat} (h : ∀ p, okS (T p)) : ∀ (ns : List Nat) (o : Nat → Nat), okS o → okS (ns.foldl (fun o n => joinS o (T n)) o)
  | [], _, ho => ho
  | n :: r, o, ho => ok_toG h r _ (okS_join ho (h _))
theorem ok_toF {T : Nat → Nat → Nat} (h : ∀ p, okS (T p)) (ns : List Nat) : okS (toF T ns) := ok_toG h ns _ okS_zero
theorem has_toG {T : Nat → Nat → Nat} {k : Nat} : ∀ (ns : List Nat) (o : Nat → Nat), hasS (ns.foldl (fun o n => joinS o (T n)) o) k = true ↔ hasS o k = true ∨ ∃ n ∈ ns, hasS (T n) k = true
  | [], o => by simp
  | n :: r, o => by
    rw [List.foldl_cons, has_toG r, hasS_join, Bool.or_eq_true]
    simp only [List.mem_cons, exists_eq_or_imp]
    rw [or_assoc]
theorem has_toF (T : Nat → Nat → Nat) (k : Nat) (ns : List Nat) : hasS (toF T ns) k = true ↔ ∃ n ∈ ns, hasS (T n) k = true := by
  unfold toF; rw [has_toG]; simp [hasS_zero]

/-- What holds from round to round: F is found, R of it is fresh. -/
structure Spr (fr to : Arr → Int) (ars : List Arr) (l : List Int) (F R : Nat → Nat) : Prop where
  okF : okS F
  okR : okS R
  sub : ∀ n, n < 256 → hasS R n = true → hasS F n = true
  rch : ∀ n : Nat, n < 256 → hasS F n = true → Rch fr to ars l (n : Int)
  start : ∀ x ∈ l, hasS F x.toNat = true
  shut : ∀ a ∈ ars, hasS F (fr a).toNat = true → hasS R (fr a).toNat = false → hasS F (to a).toNat = true

theorem spr_start {fr to : Arr → Int} {ars : List Arr} {l : List Int} (hl : ∀ x ∈ l, 0 ≤ x ∧ x < 256) : Spr fr to ars l (ofS l) (ofS l) := by
  have hr : Rep (ofS l) l := by
    have := rep_of hl l.length
    rwa [List.take_of_length_le (Nat.le_refl _)] at this
  refine ⟨hr.ok, hr.ok, fun _ _ h => h, fun n hn h => rch_start ((hr.mem n hn).1 h), fun x hx => ?_, fun a _ h1 h2 => by rw [h1] at h2; cases h2⟩
  have := hl x hx
  exact (hr.mem x.toNat (by omega)).2 (by rwa [Int.toNat_of_nonneg this.1])
/-- What comes in one round. -/
def frS (fr to : Arr → Int) (ars : List Arr) (F R : Nat → Nat) : Nat → Nat := lessS (toF (tabK fr to ars) (allS R)) F
theorem spr_step {fr to : Arr → Int} {ars : List Arr} {l : List Int} {F R : Nat → Nat} (hin : ∀ a ∈ ars, (0 ≤ fr a ∧ fr a < 256) ∧ 0 ≤ to a ∧ to a < 256) (h : Spr fr to ars l F R) : Spr fr to ars l (joinS F (frS fr to ars F R)) (frS fr to ars F R) := by
  have o1 : okS (frS fr to ars F R) := okS_less (ok_toF (okS_tabK fr to ars) _)
  have hf : ∀ n, hasS (frS fr to ars F R) n = (hasS (toF (tabK fr to ars) (allS R)) n && !hasS F n) := fun n => hasS_less h.okF n
  have hr : ∀ n, n < 256 → hasS (frS fr to ars F R) n = true → Rch fr to ars l (n : Int) := fun n hn hx => by
    rw [hf, Bool.and_eq_true, has_toF] at hx
    obtain ⟨⟨k, hk, ht⟩, -⟩ := hx
    obtain ⟨a, ha, e1, e2⟩ := (has_tabK _ _ _ _ _).1 ht
    obtain ⟨k1, k2⟩ := (mem_allS _ _).1 hk
    have hb := hin a ha
    have := h.rch k k1 (h.sub k k1 k2)
    rw [show (k : Int) = fr a by omega] at this
    rw [show (n : Int) = to a by omega]
    exact rch_step ha this
  refine ⟨okS_join h.okF o1, o1, fun n _ hx => by rw [hasS_join, hx]; simp, fun n hn hx => ?_, fun x hx => by rw [hasS_join, h.start x hx]; rfl, fun a ha h1 h2 => ?_⟩
  · rw [hasS_join, Bool.or_eq_true] at hx
    rcases hx with hx | hx
    · exact h.rch n hn hx
    · exact hr n hn hx
  · rw [hasS_join, h2, Bool.or_false] at h1
    have hb := hin a ha
    rw [hasS_join]
    cases hR : hasS R (fr a).toNat with
    | false => rw [h.shut a ha h1 hR]; rfl
    | true =>
      have ht : hasS (toF (tabK fr to ars) (allS R)) (to a).toNat = true := (has_toF _ _ _).2 ⟨(fr a).toNat, (mem_allS _ _).2 ⟨by omega, hR⟩, (has_tabK _ _ _ _ _).2 ⟨a, ha, rfl, rfl⟩⟩
      rw [hf, ht]
      cases hasS F (to a).toNat <;> rfl
theorem empty_has {S : Nat → Nat} (he : emptyB S = true) (n : Nat) (hn : n < 256) : hasS S n = false := by
  obtain ⟨e0, e1, e2, e3⟩ := of_decide_eq_true he
  unfold hasS
  have hk : n / 64 = 0 ∨ n / 64 = 1 ∨ n / 64 = 2 ∨ n / 64 = 3 := by omega
  rcases hk with hk | hk | hk | hk <;> rw [hk] <;> simp [e0, e1, e2, e3]
theorem empty_not {S : Nat → Nat} (ho : okS S) (he : emptyB S = false) : ∃ n, n < 256 ∧ hasS S n = true := by
  apply Classical.byContradiction
  intro hn
  have hw : ∀ i, i < 4 → S i = 0 := fun i hi => word_zero (ho i) fun j hj => by
    cases hb : (S i).testBit j with
    | false => rfl
    | true =>
      exfalso
      apply hn
      refine ⟨64 * i + j, by omega, ?_⟩
      unfold hasS
      rw [show (64 * i + j) / 64 = i by omega, show (64 * i + j) % 64 = j by omega]
      exact hb
  have : emptyB S = true := decide_eq_true ⟨hw 0 (by omega), hw 1 (by omega), hw 2 (by omega), hw 3 (by omega)⟩
  rw [this] at he; cases he
theorem spr_end {fr to : Arr → Int} {ars : List Arr} {l : List Int} {F R : Nat → Nat} (hl : ∀ x ∈ l, 0 ≤ x ∧ x < 256) (hin : ∀ a ∈ ars, (0 ≤ fr a ∧ fr a < 256) ∧ 0 ≤ to a ∧ to a < 256) (h : Spr fr to ars l F R) (he : emptyB R = true) (x : Int) : x ∈ rowS F ↔ Rch fr to ars l x := by
  rw [mem_rowS]
  constructor
  · rintro ⟨h0, h1, h2⟩
    have := h.rch x.toNat (by omega) h2
    rwa [Int.toNat_of_nonneg h0] at this
  · intro hx
    refine hx (fun x => 0 ≤ x ∧ x < 256 ∧ hasS F x.toNat = true) ⟨fun y hy => ⟨(hl y hy).1, (hl y hy).2, h.start y hy⟩, fun a ha ⟨h1, h2, h3⟩ => ?_⟩
    have hb := hin a ha
    exact ⟨hb.2.1, hb.2.2, h.shut a ha h3 (empty_has he _ (by omega))⟩
/-- What falls from round to round. -/
def msr (F R : Nat → Nat) : Nat := 2 * (256 - (allS F).length) + (emptyB R == false).toNat
theorem allS_filter {F G : Nat → Nat} (h : ∀ n, n < 256 → hasS F n = true → hasS G n = true) : allS F = (allS G).filter fun n => hasS F n := by
  apply natInc_ext (inc_fromS F 4 0) ((inc_fromS G 4 0).filter _)
  intro x
  show x ∈ allS F ↔ x ∈ (allS G).filter _
  rw [List.mem_filter, mem_allS, mem_allS]
  constructor
  · rintro ⟨h1, h2⟩; exact ⟨⟨h1, h x h1 h2⟩, h2⟩
  · rintro ⟨⟨h1, _⟩, h2⟩; exact ⟨h1, h2⟩
theorem msr_lt {fr to : Arr → Int} {ars : List Arr} {l : List Int} {F R : Nat → Nat} (h : Spr fr to ars l F R) (he : emptyB R = false) : msr (joinS F (frS fr to ars F R)) (frS fr to ars F R) < msr F R := by
  have o1 : okS (frS fr to ars F R) := okS_less (ok_toF (okS_tabK fr to ars) _)
  have hf := allS_filter (F := F) (G := joinS F (frS fr to ars F R)) (fun n _ hx => by rw [hasS_join, hx]; rfl)
  have hl2 := allS_len (joinS F (frS fr to ars F R))
  unfold msr
  rw [he]
  cases hE : emptyB (frS fr to ars F R) with
  | true =>
    have : (allS F).length ≤ (allS (joinS F (frS fr to ars F R))).length := by rw [hf]; exact List.length_filter_le _ _
    simp
    omega
  | false =>
    obtain ⟨n, hn, hx⟩ := empty_not o1 hE
    have : (allS F).length < (allS (joinS F (frS fr to ars F R))).length := by
      rw [hf]
      apply List.length_filter_lt_length_iff_exists.2
      refine ⟨n, (mem_allS _ _).2 ⟨hn, by rw [hasS_join, hx]; simp⟩, ?_⟩
      have := hx
      unfold frS at this
      rw [hasS_less h.okF, Bool.and_eq_true] at this
      have h2 : hasS F n = false := by simpa using this.2
      rw [h2]; simp
    simp
    omega

theorem inc_reach (m : Mach) : Inc (reachL m) := inc_srt _
theorem inc_live (m : Mach) : Inc (liveL m) := inc_srt _
theorem row_reach {m : Mach} (hm : mayB m = true) {F : Nat → Nat} (h : ∀ x, x ∈ rowS F ↔ Rch (·.f) (·.t) m.arrows m.starts x) : rowS F = reachL m :=
  inc_ext (inc_rowS F) (inc_reach m) (fun x => (h x).trans (mem_reach hm x).symm)
theorem row_live {m : Mach} (hm : mayB m = true) {F : Nat → Nat} (h : ∀ x, x ∈ rowS F ↔ Rch (·.t) (·.f) m.arrows m.ends x) : rowS F = liveL m :=
  inc_ext (inc_rowS F) (inc_live m) (fun x => (h x).trans (mem_live hm x).symm)
theorem row_trim {m : Mach} {F G : Nat → Nat} (hF : rowS F = reachL m) (hG : rowS G = liveL m) : rowS (meetS F G) = trimL m := by
  refine inc_ext (inc_rowS _) (inc_trim m) (fun x => ?_)
  rw [mem_trim, ← hF, ← hG, mem_rowS, mem_rowS, mem_rowS, hasS_meet, Bool.and_eq_true]
  constructor
  · rintro ⟨h0, h1, h2, h3⟩; exact ⟨⟨h0, h1, h2⟩, h0, h1, h3⟩
  · rintro ⟨⟨h0, h1, h2⟩, -, -, h3⟩; exact ⟨h0, h1, h2, h3⟩

end Go.Proofs.YtkkkacmccndinaaDoor
namespace Go.Proofs.YtkkkacmccndinaaDoor
open Go.RowKit
set_option linter.unusedVariables false

theorem andw_words {S T : Nat → Nat} (h : okS S) (h' : okS T) (k : Nat) : bits .and .u64 (S k : Int) (T k : Int) = ((S k &&& T k : Nat) : Int) := bits_and_u64_nat _ _ (h k) (h' k)
theorem less_words {S T : Nat → Nat} (h : okS S) (h' : okS T) (k : Nat) : bits .andNot .u64 (S k : Int) (T k : Int) = ((S k &&& (18446744073709551615 - T k) : Nat) : Int) := u64_andNot_nat _ _ (h k) (h' k)

/-- The first k words met. -/
def mixM (k : Nat) (S T : Nat → Nat) : Nat → Nat := fun j => if j < k then S j &&& T j else S j

theorem mixM_step0 {S T : Nat → Nat} (h : okS S) (h' : okS T) : (scells (mixM 0 S T)).setIfInBounds 0 (.int .u64 (bits .and .u64 (mixM 0 S T 0) (T 0))) = scells (mixM 1 S T) := by
  show (#[.int .u64 (bits .and .u64 (S 0) (T 0)), .int .u64 (S 1), .int .u64 (S 2), .int .u64 (S 3)] : Array Value) = _
  rw [andw_words h h']; rfl
theorem mixM_step1 {S T : Nat → Nat} (h : okS S) (h' : okS T) : (scells (mixM 1 S T)).setIfInBounds 1 (.int .u64 (bits .and .u64 (mixM 1 S T 1) (T 1))) = scells (mixM 2 S T) := by
  show (#[.int .u64 (mixM 1 S T 0), .int .u64 (bits .and .u64 (S 1) (T 1)), .int .u64 (S 2), .int .u64 (S 3)] : Array Value) = _
  rw [andw_words h h']; rfl
theorem mixM_step2 {S T : Nat → Nat} (h : okS S) (h' : okS T) : (scells (mixM 2 S T)).setIfInBounds 2 (.int .u64 (bits .and .u64 (mixM 2 S T 2) (T 2))) = scells (mixM 3 S T) := by
  show (#[.int .u64 (mixM 2 S T 0), .int .u64 (mixM 2 S T 1), .int .u64 (bits .and .u64 (S 2) (T 2)), .int .u64 (S 3)] : Array Value) = _
  rw [andw_words h h']; rfl
theorem mixM_step3 {S T : Nat → Nat} (h : okS S) (h' : okS T) : (scells (mixM 3 S T)).setIfInBounds 3 (.int .u64 (bits .and .u64 (mixM 3 S T 3) (T 3))) = scells (mixM 4 S T) := by
  show (#[.int .u64 (mixM 3 S T 0), .int .u64 (mixM 3 S T 1), .int .u64 (mixM 3 S T 2), .int .u64 (bits .and .u64 (S 3) (T 3))] : Array Value) = _
  rw [andw_words h h']; rfl

set_option maxHeartbeats 2000000 in
theorem meet_any (S T : Nat → Nat) (w : World) (h : okS S) (h' : okS T) :
    Calls Tryd.prog 51 #[sval S, sval T] w fun e w' => e = .returned (sval (meetS S T)) ∧ Below w.heap.size w w' := by
  go_enter Tryd.func51, Tryd.ntmps51
  go_wp2
  go_loopw [6] (fun i wr => ∃ k : Nat, k ≤ 4 ∧ i = .int .i64 k ∧ SB wr w.heap.size (mixM k S T) ∧ SB wr (w.heap.size + 1) T ∧ SB wr (w.heap.size + 2) zeroS ∧ Below w.heap.size w wr) (fun i _ => 4 - (intOf i).toNat)
  case atStart =>
    refine ⟨0, by omega, rfl, ((Blk.new w _ _).alloc _).alloc _, ?_, ?_, (((Below.refl _ _).alloc (Nat.le_refl _) _).alloc (by simp) _).alloc (by simp; omega) _⟩
    · have := (Blk.new (w.alloc (.cells (scells S) 58)) 58 (scells T)).alloc (.cells (scells zeroS) 58)
      rwa [World.size_alloc] at this
    · have := (Blk.new ((w.alloc (.cells (scells S) 58)).alloc (.cells (scells T) 58)) 58 (scells zeroS))
      rwa [World.size_alloc, World.size_alloc] at this
  case round =>
    obtain ⟨k, hk, rfl, s1, s2, s3, hB⟩ := hrel
    have hk' : k = 4 ∨ k = 0 ∨ k = 1 ∨ k = 2 ∨ k = 3 := by omega
    obtain ⟨p0, p1, p2, p3⟩ := s1.cells
    obtain ⟨q0, q1, q2, q3⟩ := s2.cells
    have fz := s1.frozen
    rcases hk' with rfl | rfl | rfl | rfl | rfl
    · obtain ⟨r0, r1, r2, r3⟩ := s3.cells
      have fz3 := s3.frozen
      have e4 : Hid (scells (mixM 4 S T) = scells (meetS S T)) := rfl
      have k1 := (((s3.set 0 (.int .u64 (mixM 4 S T 0))).set 1 (.int .u64 (mixM 4 S T 1))).set 2 (.int .u64 (mixM 4 S T 2))).set 3 (.int .u64 (mixM 4 S T 3))
      have k2 := Hid.of k1
      clear k1
      go_wp2
      have k1 := k2.out
      refine bodyPost_ret (v := sval (meetS S T)) ?_ rfl ⟨rfl, (((hB.setCell (p := ⟨w.heap.size + 1 + 1, 0, none⟩) (by simp; omega) _).setCell (p := ⟨w.heap.size + 1 + 1, 1, none⟩) (by simp; omega) _).setCell (p := ⟨w.heap.size + 1 + 1, 2, none⟩) (by simp; omega) _).setCell (p := ⟨w.heap.size + 1 + 1, 3, none⟩) (by simp; omega) _⟩
      exact results_cell_row (g := w.heap.size + 2) (p := 4) rfl _ _ _ _ _ _ rfl k1 Tryd.underlying58 rfl (by kernel_rfl)
    · go_wp2
      go_region
      go_wp2
      exact ⟨⟨1, by omega, rfl, (by have := s1.set 0 (.int .u64 (bits .and .u64 (mixM 0 S T 0) (T 0))); rwa [mixM_step0 h h'] at this), s2.other (by omega) _, s3.other (by omega) _, (hB.setCell (p := ⟨w.heap.size, 0, none⟩) (by simp) _).drew⟩, by simp [intOf]⟩
    · go_wp2
      go_region
      go_wp2
      exact ⟨⟨2, by omega, rfl, (by have := s1.set 1 (.int .u64 (bits .and .u64 (mixM 1 S T 1) (T 1))); rwa [mixM_step1 h h'] at this), s2.other (by omega) _, s3.other (by omega) _, (hB.setCell (p := ⟨w.heap.size, 1, none⟩) (by simp) _).drew⟩, by simp [intOf]⟩
    · go_wp2
      go_region
      go_wp2
      exact ⟨⟨3, by omega, rfl, (by have := s1.set 2 (.int .u64 (bits .and .u64 (mixM 2 S T 2) (T 2))); rwa [mixM_step2 h h'] at this), s2.other (by omega) _, s3.other (by omega) _, (hB.setCell (p := ⟨w.heap.size, 2, none⟩) (by simp) _).drew⟩, by simp [intOf]⟩
    · go_wp2
      go_region
      go_wp2
      exact ⟨⟨4, by omega, rfl, (by have := s1.set 3 (.int .u64 (bits .and .u64 (mixM 3 S T 3) (T 3))); rwa [mixM_step3 h h'] at this), s2.other (by omega) _, s3.other (by omega) _, (hB.setCell (p := ⟨w.heap.size, 3, none⟩) (by simp) _).drew⟩, by simp [intOf]⟩

/-- The first k words less. -/
def mixL (k : Nat) (S T : Nat → Nat) : Nat → Nat := fun j => if j < k then S j &&& (18446744073709551615 - T j) else S j

theorem mixL_step0 {S T : Nat → Nat} (h : okS S) (h' : okS T) : (scells (mixL 0 S T)).setIfInBounds 0 (.int .u64 (bits .andNot .u64 (mixL 0 S T 0) (T 0))) = scells (mixL 1 S T) := by
  show (#[.int .u64 (bits .andNot .u64 (S 0) (T 0)), .int .u64 (S 1), .int .u64 (S 2), .int .u64 (S 3)] : Array Value) = _
  rw [less_words h h']; rfl
theorem mixL_step1 {S T : Nat → Nat} (h : okS S) (h' : okS T) : (scells (mixL 1 S T)).setIfInBounds 1 (.int .u64 (bits .andNot .u64 (mixL 1 S T 1) (T 1))) = scells (mixL 2 S T) := by
  show (#[.int .u64 (mixL 1 S T 0), .int .u64 (bits .andNot .u64 (S 1) (T 1)), .int .u64 (S 2), .int .u64 (S 3)] : Array Value) = _
  rw [less_words h h']; rfl
theorem mixL_step2 {S T : Nat → Nat} (h : okS S) (h' : okS T) : (scells (mixL 2 S T)).setIfInBounds 2 (.int .u64 (bits .andNot .u64 (mixL 2 S T 2) (T 2))) = scells (mixL 3 S T) := by
  show (#[.int .u64 (mixL 2 S T 0), .int .u64 (mixL 2 S T 1), .int .u64 (bits .andNot .u64 (S 2) (T 2)), .int .u64 (S 3)] : Array Value) = _
  rw [less_words h h']; rfl
theorem mixL_step3 {S T : Nat → Nat} (h : okS S) (h' : okS T) : (scells (mixL 3 S T)).setIfInBounds 3 (.int .u64 (bits .andNot .u64 (mixL 3 S T 3) (T 3))) = scells (mixL 4 S T) := by
  show (#[.int .u64 (mixL 3 S T 0), .int .u64 (mixL 3 S T 1), .int .u64 (mixL 3 S T 2), .int .u64 (bits .andNot .u64 (S 3) (T 3))] : Array Value) = _
  rw [less_words h h']; rfl

set_option maxHeartbeats 2000000 in
theorem less_any (S T : Nat → Nat) (w : World) (h : okS S) (h' : okS T) :
    Calls Tryd.prog 110 #[sval S, sval T] w fun e w' => e = .returned (sval (lessS S T)) ∧ Below w.heap.size w w' := by
  go_enter Tryd.func110, Tryd.ntmps110
  go_wp2
  go_loopw [6] (fun i wr => ∃ k : Nat, k ≤ 4 ∧ i = .int .i64 k ∧ SB wr w.heap.size (mixL k S T) ∧ SB wr (w.heap.size + 1) T ∧ SB wr (w.heap.size + 2) zeroS ∧ Below w.heap.size w wr) (fun i _ => 4 - (intOf i).toNat)
  case atStart =>
    refine ⟨0, by omega, rfl, ((Blk.new w _ _).alloc _).alloc _, ?_, ?_, (((Below.refl _ _).alloc (Nat.le_refl _) _).alloc (by simp) _).alloc (by simp; omega) _⟩
    · have := (Blk.new (w.alloc (.cells (scells S) 58)) 58 (scells T)).alloc (.cells (scells zeroS) 58)
      rwa [World.size_alloc] at this
    · have := (Blk.new ((w.alloc (.cells (scells S) 58)).alloc (.cells (scells T) 58)) 58 (scells zeroS))
      rwa [World.size_alloc, World.size_alloc] at this
  case round =>
    obtain ⟨k, hk, rfl, s1, s2, s3, hB⟩ := hrel
    have hk' : k = 4 ∨ k = 0 ∨ k = 1 ∨ k = 2 ∨ k = 3 := by omega
    obtain ⟨p0, p1, p2, p3⟩ := s1.cells
    obtain ⟨q0, q1, q2, q3⟩ := s2.cells
    have fz := s1.frozen
    rcases hk' with rfl | rfl | rfl | rfl | rfl
    · obtain ⟨r0, r1, r2, r3⟩ := s3.cells
      have fz3 := s3.frozen
      have e4 : Hid (scells (mixL 4 S T) = scells (lessS S T)) := rfl
      have k1 := (((s3.set 0 (.int .u64 (mixL 4 S T 0))).set 1 (.int .u64 (mixL 4 S T 1))).set 2 (.int .u64 (mixL 4 S T 2))).set 3 (.int .u64 (mixL 4 S T 3))
      have k2 := Hid.of k1
      clear k1
      go_wp2
      have k1 := k2.out
      refine bodyPost_ret (v := sval (lessS S T)) ?_ rfl ⟨rfl, (((hB.setCell (p := ⟨w.heap.size + 1 + 1, 0, none⟩) (by simp; omega) _).setCell (p := ⟨w.heap.size + 1 + 1, 1, none⟩) (by simp; omega) _).setCell (p := ⟨w.heap.size + 1 + 1, 2, none⟩) (by simp; omega) _).setCell (p := ⟨w.heap.size + 1 + 1, 3, none⟩) (by simp; omega) _⟩
      exact results_cell_row (g := w.heap.size + 2) (p := 4) rfl _ _ _ _ _ _ rfl k1 Tryd.underlying58 rfl (by kernel_rfl)
    · go_wp2
      go_region
      go_wp2
      exact ⟨⟨1, by omega, rfl, (by have := s1.set 0 (.int .u64 (bits .andNot .u64 (mixL 0 S T 0) (T 0))); rwa [mixL_step0 h h'] at this), s2.other (by omega) _, s3.other (by omega) _, (hB.setCell (p := ⟨w.heap.size, 0, none⟩) (by simp) _).drew⟩, by simp [intOf]⟩
    · go_wp2
      go_region
      go_wp2
      exact ⟨⟨2, by omega, rfl, (by have := s1.set 1 (.int .u64 (bits .andNot .u64 (mixL 1 S T 1) (T 1))); rwa [mixL_step1 h h'] at this), s2.other (by omega) _, s3.other (by omega) _, (hB.setCell (p := ⟨w.heap.size, 1, none⟩) (by simp) _).drew⟩, by simp [intOf]⟩
    · go_wp2
      go_region
      go_wp2
      exact ⟨⟨3, by omega, rfl, (by have := s1.set 2 (.int .u64 (bits .andNot .u64 (mixL 2 S T 2) (T 2))); rwa [mixL_step2 h h'] at this), s2.other (by omega) _, s3.other (by omega) _, (hB.setCell (p := ⟨w.heap.size, 2, none⟩) (by simp) _).drew⟩, by simp [intOf]⟩
    · go_wp2
      go_region
      go_wp2
      exact ⟨⟨4, by omega, rfl, (by have := s1.set 3 (.int .u64 (bits .andNot .u64 (mixL 3 S T 3) (T 3))); rwa [mixL_step3 h h'] at this), s2.other (by omega) _, s3.other (by omega) _, (hB.setCell (p := ⟨w.heap.size, 3, none⟩) (by simp) _).drew⟩, by simp [intOf]⟩

end Go.Proofs.YtkkkacmccndinaaDoor
