/-
  A machine that came in, opened: its value is a machine's, and its three slices lie in memory.
  '==' and '!=' on two arrows, as the model runs them.
  Plain: arrows put in order one after the other.
  Plain mathematics of machines beside one another: pairs as they are found, arrows between them. No program, no model.
  Plain mathematics of what can be come to along arrows: rounds over all arrows, till nothing comes more. No program, no model.
-/
import Derived.Test.YtcbdjjkebpncmaaDoorG03
import Derived.ProofKit
import Derived.OpenShut
import Derived.ShutString
import Derived.ChangeOld
import Derived.Below
import Derived.Deep.Slices
import Derived.Deep.Strs
import Derived.Laws.StructEq
namespace Go.Proofs.YtcbdjjkebpncmaaDoor
open Go.ChangeShapes Go.WideShapes Go.ChangeAt Go.RowKit Go.Deep
set_option linter.unusedVariables false
set_option maxRecDepth 100000

theorem addr_add (b off j : Nat) : (⟨b, off, none⟩ : Addr).add j = ⟨b, off + j, none⟩ := by unfold Addr.add; split <;> simp_all

theorem bulk_one {H : Type} (d : DataW H) : 1 ≤ Rows.uptoBulk d := by
  cases d with
  | lit l => cases l <;> simp [Rows.uptoBulk]
  | nil => simp [Rows.uptoBulk]
  | ptr d => simp [Rows.uptoBulk]
  | slice elems spare => simp [Rows.uptoBulk]
  | agg parts => simp [Rows.uptoBulk]
  | iface t d => simp [Rows.uptoBulk]
  | map entries => simp [Rows.uptoBulk]
  | held h => simp [Rows.uptoBulk]
theorem bulk_len {H : Type} (l : List (DataW H)) : l.length ≤ Rows.uptoBulkAll l := by
  induction l with
  | nil => simp [Rows.uptoBulkAll]
  | cons x r ih => have := bulk_one x; simp only [Rows.uptoBulkAll, List.length_cons]; omega
theorem bulk_slice {H : Type} (elems spare : List (DataW H)) : elems.length ≤ Rows.uptoBulk (.slice elems spare) := by
  have h1 := bulk_len elems
  simp only [Rows.uptoBulk]
  omega

/-- A slice of integers that came in. -/
structure Sl (w : World) (a : Option Addr) (c : Nat) (xs : List Int) : Prop where
  at_ : At w a xs
  le : xs.length ≤ c
  max : c ≤ maxLen
  nil : a = none → c = 0

theorem Sl.len {w : World} {a : Option Addr} {c : Nat} {xs : List Int} (h : Sl w a c xs) : xs.length ≤ maxLen := Nat.le_trans h.le h.max
theorem Sl.below {w w' : World} {a : Option Addr} {c : Nat} {xs : List Int} {B : Nat} (h : Sl w a c xs) (hb : Below B w w') (hB : w.heap.size ≤ B) : Sl w' a c xs := ⟨h.at_.below hb hB, h.le, h.max, h.nil⟩

section
variable {H : Type} {enc : TypeId × Value → H} {W : World}

theorem ints_of_trod {fuel : Nat} {cs : List Value} {x : DataW H × List MemPlace} (h : DataW.trod enc Tryd.prog W 0 (fun _ => true) true fuel 22 cs = some x) :
    ∃ a cap xs, cs = [.slice a (List.length (α := Int) xs) cap] ∧ xs.length ≤ cap ∧ cap ≤ maxLen ∧ At W a xs ∧ (a = none → cap = 0) ∧ xs.length ≤ Rows.uptoBulk x.1 := by
  rcases open_ints Tryd.underlying22 Tryd.underlying3 (by kernel_rfl) h with ⟨rfl, _⟩ | ⟨⟨b, off, sp⟩, len, cap, zs, rfl, _, hl, hm, hz, hx, hc, _⟩
  · exact ⟨none, 0, [], rfl, Nat.le_refl _, Nat.zero_le _, .inl rfl, fun _ => rfl, Nat.zero_le _⟩
  · simp only [if_true] at hz
    by_cases h0 : len = 0
    · subst h0
      exact ⟨_, cap, [], rfl, Nat.zero_le _, hm, .inl rfl, (fun h => by cases h), Nat.zero_le _⟩
    · have hn : sp = none := by simpa [Addr.add] using World.cell?_spot (hc 0 (by omega))
      subst hn
      have hlen : (zs.take len).length = len := by rw [List.length_take]; omega
      refine ⟨_, cap, zs.take len, by rw [hlen], by omega, hm, .inr ⟨b, off, rfl, ?_, fun j hj => ?_⟩, (fun h => by cases h), ?_⟩
      · exact World.block_lt_of_cell? W ⟨b, off, none⟩ (by simpa [Addr.add] using hc 0 (by omega))
      · have := hc j (by omega)
        rw [show (⟨b, off, none⟩ : Addr).add j = ⟨b, off + j, none⟩ from by simp [Addr.add]] at this
        rw [this]
        simp only [List.getD_eq_getElem?_getD]
        rw [List.getElem?_take_of_lt (by omega)]
      · rw [hx]
        have := bulk_slice (H := H) (lits .i64 (zs.take len)) (lits .i64 (zs.drop len))
        simp only [lits, List.length_map] at this
        exact this

theorem arrow_of_trod {fuel : Nat} {cs : List Value} {x : DataW H × List MemPlace} (h : DataW.trod enc Tryd.prog W 0 (fun _ => true) true fuel 52 cs = some x) :
    ∃ a : Arr, cs = [.int .i64 a.f, .int .i64 a.e, .int .i64 a.t] := by
  obtain ⟨y0, y1, y2, n, _, hl, h0, h1, h2⟩ := trod_struct3 Tryd.underlying52 h
  have hl3 : cs.length = 3 := hl.trans (by kernel_rfl)
  match cs, hl3 with
  | [c0, c1, c2], _ =>
    obtain ⟨n0, e0, _, _⟩ := DataW.trod_int Tryd.underlying3 h0
    obtain ⟨n1, e1, _, _⟩ := DataW.trod_int Tryd.underlying3 h1
    obtain ⟨n2, e2, _, _⟩ := DataW.trod_int Tryd.underlying3 h2
    rw [show Tryd.prog.cellsOf 3 = 1 by kernel_rfl] at e0 e1 e2
    simp at e0 e1 e2
    exact ⟨⟨n0, n1, n2⟩, by rw [e0, e1, e2]⟩

theorem arrows_of_trod {fuel : Nat} {cs : List Value} {x : DataW H × List MemPlace} (h : DataW.trod enc Tryd.prog W 0 (fun _ => true) true fuel 23 cs = some x) :
    ∃ a cap ars, cs = [.slice a (List.length (α := Arr) ars) cap] ∧ ars.length ≤ cap ∧ cap ≤ maxLen ∧ AtA W a ars ∧ (a = none → cap = 0) := by
  rcases open_slice Tryd.underlying23 h with ⟨rfl, _⟩ | ⟨⟨b, off, sp⟩, len, cap, m, n, D, Pl, rfl, _, hl, hm, hmm, _, hx⟩
  · exact ⟨none, 0, [], rfl, Nat.le_refl _, Nat.zero_le _, .inl rfl, fun _ => rfl⟩
  · simp only [if_true] at hmm
    rw [hmm] at hx
    have hsz : Tryd.prog.cellsOf 52 = 3 := by kernel_rfl
    rw [hsz] at hx
    have hA : ∀ i, i < cap → ∃ a : Arr, ∀ j, j < 3 → W.cell? ((Addr.add ⟨b, off, sp⟩ (i * 3)).add j) = [Value.int .i64 a.f, .int .i64 a.e, .int .i64 a.t][j]? := by
      intro i hi
      obtain ⟨cs', h1, h2⟩ := hx i hi
      obtain ⟨a, rfl⟩ := arrow_of_trod h2
      exact ⟨a, (World.cells?_some h1).2.2⟩
    by_cases h0 : len = 0
    · subst h0
      exact ⟨_, cap, [], rfl, Nat.zero_le _, hm, .inl rfl, fun h => by cases h⟩
    · obtain ⟨f, hf⟩ := @choose_lt Arr ⟨arr0⟩ cap (fun i a => ∀ j, j < 3 → W.cell? ((Addr.add ⟨b, off, sp⟩ (i * 3)).add j) = [Value.int .i64 a.f, .int .i64 a.e, .int .i64 a.t][j]?) hA
      have hn : sp = none := by
        have := World.cell?_spot (hf 0 (by omega) 0 (by omega))
        simpa [Addr.add] using this
      subst hn
      have hlen : ((List.range len).map f).length = len := by simp
      have hc : CellsA W b off ((List.range len).map f) := fun j hj => by
        rw [hlen] at hj
        have e : ((List.range len).map f)[j]?.getD arr0 = f j := by simp [List.getElem?_map, List.getElem?_range hj]
        have h0' := hf j (by omega) 0 (by omega)
        have h1' := hf j (by omega) 1 (by omega)
        have h2' := hf j (by omega) 2 (by omega)
        rw [e]
        rw [addr_add, addr_add] at h0' h1' h2'
        exact ⟨h0', h1', h2'⟩
      refine ⟨_, cap, (List.range len).map f, by rw [hlen], by rw [hlen]; exact hl, hm, .inr ⟨b, off, rfl, ?_, hc⟩, fun h => by cases h⟩
      have := (hc 0 (by rw [hlen]; omega)).1
      exact World.block_lt_of_cell? W ⟨b, off + 0 * 3, none⟩ this

theorem array5 {α : Type} {cs : Array α} (h : cs.size = 5) : ∃ c0 c1 c2 c3 c4, cs = #[c0, c1, c2, c3, c4] := by
  obtain ⟨l⟩ := cs
  match l, h with
  | [c0, c1, c2, c3, c4], _ => exact ⟨c0, c1, c2, c3, c4, rfl⟩

theorem mach_of_cells {fuel : Nat} {c0 c1 c2 c3 c4 : Value} {x : DataW H × List MemPlace} (h : DataW.trod enc Tryd.prog W 0 (fun _ => true) true fuel 25 [c0, c1, c2, c3, c4] = some x) : ∃ m l, Value.agg #[c0, c1, c2, c3, c4] = mval m l ∧ MAt W m l := by
  obtain ⟨xs, n, _, _, _, hlen, hf⟩ := DataW.trod_struct Tryd.underlying25 h
  have hlen5 : xs.length = 5 := hlen
  match xs, hlen5 with
  | [y0, y1, y2, y3, y4], _ =>
    have i1 : Tryd.prog.cellsOf 3 = 1 := by kernel_rfl
    have i2 : Tryd.prog.cellsOf 22 = 1 := by kernel_rfl
    have i3 : Tryd.prog.cellsOf 23 = 1 := by kernel_rfl
    have h0 := hf 0 { name := "States", type := 3, offset := 0, embedded := false, tag := "", pkgPath := "", byteOffset := 0 } rfl
    have h1 := hf 1 { name := "Events", type := 3, offset := 1, embedded := false, tag := "", pkgPath := "", byteOffset := 8 } rfl
    have h2 := hf 2 { name := "Starts", type := 22, offset := 2, embedded := false, tag := "", pkgPath := "", byteOffset := 16 } rfl
    have h3 := hf 3 { name := "Arrows", type := 23, offset := 3, embedded := false, tag := "", pkgPath := "", byteOffset := 40 } rfl
    have h4 := hf 4 { name := "Ends", type := 22, offset := 4, embedded := false, tag := "", pkgPath := "", byteOffset := 64 } rfl
    dsimp only at h0 h1 h2 h3 h4
    simp only [i1, i2, i3, List.drop_succ_cons, List.drop_zero, List.take_succ_cons, List.take_zero, List.getElem?_cons_zero, List.getElem?_cons_succ] at h0 h1 h2 h3 h4
    obtain ⟨st, e0, _, _⟩ := DataW.trod_int Tryd.underlying3 h0
    obtain ⟨ev, e1, _, _⟩ := DataW.trod_int Tryd.underlying3 h1
    obtain ⟨a1, k1, starts, e2, s1, s2, s3, s4, s5⟩ := ints_of_trod h2
    obtain ⟨a2, k2, arrows, e3, r1, r2, r3, r4⟩ := arrows_of_trod h3
    obtain ⟨a3, k3, ends, e4, t1, t2, t3, t4, t5⟩ := ints_of_trod h4
    simp only [List.cons.injEq, and_true] at e0 e1 e2 e3 e4
    subst e0 e1 e2 e3 e4
    exact ⟨⟨st, ev, starts, arrows, ends⟩, ⟨a1, k1, a2, k2, a3, k3⟩, rfl, ⟨s3, r3, t3, s1, s2, s4, r1, r2, r4, t1, t2, t4⟩⟩

/-- A MACHINE THAT CAME IN. -/
theorem open_mach {base : Nat} {v : Value} {d : DataW H} {p : List MemPlace} (hv : Value.okWide Tryd.prog W .any base 25 v) (h : DataW.Trod enc Tryd.prog W 0 (fun _ => true) true 25 v d p) : ∃ m l, v = mval m l ∧ MAt W m l := by
  obtain ⟨cs, rfl, hsz⟩ := okWide_struct Tryd.underlying25 hv
  obtain ⟨c0, c1, c2, c3, c4, rfl⟩ := array5 (hsz.trans (by kernel_rfl))
  obtain ⟨fuel, hf⟩ := h
  exact mach_of_cells (by simpa [Value.cells] using hf)

/-- A SLICE OF INTEGERS THAT CAME IN. -/
theorem open_sl {base : Nat} {v : Value} {d : DataW H} {p : List MemPlace} (hv : Value.okWide Tryd.prog W .any base 22 v) (h : DataW.Trod enc Tryd.prog W 0 (fun _ => true) true 22 v d p) : ∃ a c xs, v = .slice a (List.length (α := Int) xs) c ∧ Sl W a c xs ∧ xs.length ≤ Rows.uptoBulk d := by
  obtain ⟨a, len, cap, rfl⟩ := okWide_slice Tryd.underlying22 hv
  obtain ⟨fuel, hf⟩ := h
  obtain ⟨a', c', xs, e, h1, h2, h3, h4, h5⟩ := ints_of_trod (by simpa [Value.cells] using hf)
  simp only [List.cons.injEq, and_true, Value.slice.injEq] at e
  obtain ⟨rfl, rfl, rfl⟩ := e
  exact ⟨a, cap, xs, rfl, ⟨h3, h1, h2, h4⟩, h5⟩
end

end Go.Proofs.YtcbdjjkebpncmaaDoor
namespace Go.Proofs.YtcbdjjkebpncmaaDoor
open Go.RowKit
set_option linter.unusedVariables false

abbrev arrEq (a b : Arr) : Prop := a.f = b.f ∧ a.e = b.e ∧ a.t = b.t
def arrEqB (a b : Arr) : Bool := decide (arrEq a b)

abbrev aval (a : Arr) : Value := .agg #[.int .i64 a.f, .int .i64 a.e, .int .i64 a.t]

theorem Tryd.fieldsArrow : Tryd.prog.underlying 52 = some (.struct (Tryd.prog.fieldsOf 52)) := by unfold Program.fieldsOf; rw [Tryd.underlying52]
theorem Tryd.stoodArrow : Tryd.prog.stoodInHeld 52 = false := by kernel_rfl
theorem Tryd.guardArrow : Tryd.prog.eqGuardType Tryd.prog.depth 52 = false := by kernel_rfl

theorem run_equalIn_arrow (a b : Arr) (w : World) : (Op.equalIn 10000 52 (aval a) (aval b)).run Tryd.prog w = .ok (arrEqB a b) w := by
  rw [run_equalIn_agg w 9999 52 _ _ Tryd.fieldsArrow Tryd.stoodArrow]
  have hf : (Tryd.prog.fieldsOf 52).toList = [{ name := "From", type := 3, offset := 0, embedded := false, tag := "", pkgPath := "", byteOffset := 0 }, { name := "Event", type := 3, offset := 1, embedded := false, tag := "", pkgPath := "", byteOffset := 8 }, { name := "To", type := 3, offset := 2, embedded := false, tag := "", pkgPath := "", byteOffset := 16 }] := by unfold Program.fieldsOf; rw [Tryd.underlying52]
  rw [hf]
  obtain ⟨a1, a2, a3⟩ := a
  obtain ⟨b1, b2, b3⟩ := b
  by_cases h1 : a1 = b1 <;> by_cases h2 : a2 = b2 <;> by_cases h3 : a3 = b3 <;> simp [Op.eqFields, go_sem, arrEqB, arrEq, h1, h2, h3]

theorem run_guard_arrow (op : BinOp) (x y : Operand) (xs ys : Array Value) (w : World) : (eqGuard op 52 x y (.agg xs) (.agg ys)).run Tryd.prog w = .ok () w := run_eqGuard_agg w op 52 x y xs ys Tryd.guardArrow

/-- Are two lists of arrows one? -/
def sameA : List Arr → List Arr → Bool
  | [], [] => true
  | a :: r, b :: s => if arrEq a b then sameA r s else false
  | _, _ => false

end Go.Proofs.YtcbdjjkebpncmaaDoor
namespace Go.Proofs.YtcbdjjkebpncmaaDoor
open Go.RowKit

def insA (x : Arr) : List Arr → List Arr
  | [] => [x]
  | y :: r => if aheadB y x = true then y :: insA x r else if arrEq y x then y :: r else x :: y :: r
def srtA (l : List Arr) : List Arr := l.foldl (fun out x => insA x out) []

theorem getA_succ (y : Arr) (r : List Arr) (j : Nat) : (y :: r)[j + 1]?.getD arr0 = r[j]?.getD arr0 := by simp

theorem insA_put {x : Arr} : ∀ {L : List Arr} {p : Nat}, p ≤ L.length → (∀ j, j < p → aheadB (L[j]?.getD arr0) x = true) → (p = L.length ∨ (aheadB (L[p]?.getD arr0) x = false ∧ ¬ arrEq (L[p]?.getD arr0) x)) → insA x L = L.take p ++ x :: L.drop p
  | [], p, hp, _, _ => by
    have : p = 0 := by simpa using hp
    subst this; simp [insA]
  | y :: r, 0, _, _, h => by
    rcases h with h | ⟨h, h'⟩
    · simp at h
    · have h : aheadB y x = false := by simpa using h
      have h' : ¬ arrEq y x := by simpa using h'
      simp only [insA, List.take_zero, List.drop_zero, List.nil_append]
      rw [if_neg (by rw [h]; simp), if_neg h']
  | y :: r, p + 1, hp, hl, h => by
    have h0 : aheadB y x = true := by simpa using hl 0 (by omega)
    have := insA_put (x := x) (L := r) (p := p) (by simpa using hp) (fun j hj => by have := hl (j + 1) (by omega); rwa [getA_succ] at this) (by
      rcases h with h | h
      · left; simpa using h
      · right; rwa [getA_succ] at h)
    simp only [insA]
    rw [if_pos h0, this]
    simp
theorem insA_same {x : Arr} : ∀ {L : List Arr} {p : Nat}, p < L.length → (∀ j, j < p → aheadB (L[j]?.getD arr0) x = true) → aheadB (L[p]?.getD arr0) x = false → arrEq (L[p]?.getD arr0) x → insA x L = L
  | [], p, hp, _, _, _ => by simp at hp
  | y :: r, 0, _, _, h, h' => by
    have h : aheadB y x = false := by simpa using h
    have h' : arrEq y x := by simpa using h'
    simp only [insA]
    rw [if_neg (by rw [h]; simp), if_pos h']
  | y :: r, p + 1, hp, hl, h, h' => by
    have h0 : aheadB y x = true := by simpa using hl 0 (by omega)
    have := insA_same (x := x) (L := r) (p := p) (by simpa using hp) (fun j hj => by have := hl (j + 1) (by omega); rwa [getA_succ] at this) (by rwa [getA_succ] at h) (by rwa [getA_succ] at h')
    simp only [insA]
    rw [if_pos h0, this]
theorem insA_len (x : Arr) : ∀ L, (insA x L).length ≤ L.length + 1
  | [] => by simp [insA]
  | y :: r => by
    unfold insA
    have := insA_len x r
    split
    · simp; omega
    · split <;> simp
theorem srtA_len (l : List Arr) : (srtA l).length ≤ l.length := by
  have : ∀ (l : List Arr) o, (l.foldl (fun out x => insA x out) o).length ≤ o.length + l.length := by
    intro l
    induction l with
    | nil => intro o; simp
    | cons x r ih => intro o; have h1 := ih (insA x o); have h2 := insA_len x o; simp only [List.foldl_cons, List.length_cons]; omega
  have h := this l []
  simpa [srtA] using h
theorem srtA_take {ars : List Arr} {k : Nat} {x : Arr} (h : k < ars.length) (hx : Hid (x = ars[k]?.getD arr0)) : srtA (ars.take (k + 1)) = insA x (srtA (ars.take k)) := by
  have hx := hx.out
  rw [List.getElem?_eq_getElem h, Option.getD_some] at hx
  rw [List.take_add_one, List.getElem?_eq_getElem h, Option.toList_some, hx]
  unfold srtA
  rw [List.foldl_append]; rfl

end Go.Proofs.YtcbdjjkebpncmaaDoor
namespace Go.Proofs.YtcbdjjkebpncmaaDoor
open Go.RowKit
set_option linter.unusedVariables false

/-- A pair's place, or how many there are. -/
def findP : List (Int × Int) → Int → Int → Nat
  | [], _, _ => 0
  | p :: r, x, y => if p.1 = x ∧ p.2 = y then 0 else findP r x y + 1
theorem findP_le : ∀ (L : List (Int × Int)) (x y : Int), findP L x y ≤ L.length
  | [], _, _ => Nat.le_refl _
  | p :: r, x, y => by
    unfold findP
    have := findP_le r x y
    split <;> simp <;> omega
/-- All pairs of one of both. -/
def crossP (S T : List Int) : List (Int × Int) := S.flatMap fun x => T.map fun y => (x, y)
theorem crossP_take {S T : List Int} {k : Nat} {x : Int} (h : k < S.length) (hx : Hid (x = S[k]?.getD 0)) : crossP (S.take (k + 1)) T = crossP (S.take k) T ++ T.map fun y => (x, y) := by
  have hx := hx.out
  rw [List.getElem?_eq_getElem h, Option.getD_some] at hx
  unfold crossP
  rw [List.take_add_one, List.getElem?_eq_getElem h, List.flatMap_append, ← hx]
  simp
theorem mapP_take {T : List Int} {q : Nat} {x y : Int} (h : q < T.length) (hy : Hid (y = T[q]?.getD 0)) : ((T.take (q + 1)).map fun z => (x, z)) = ((T.take q).map fun z => (x, z)) ++ [(x, y)] := by
  have hy := hy.out
  rw [List.getElem?_eq_getElem h, Option.getD_some] at hy
  rw [List.take_add_one, List.getElem?_eq_getElem h, List.map_append, ← hy]
  simp
theorem crossP_len : ∀ (S T : List Int), (crossP S T).length = S.length * T.length
  | [], T => by simp [crossP]
  | x :: r, T => by
    have := crossP_len r T
    unfold crossP at this ⊢
    rw [List.flatMap_cons, List.length_append, this, List.length_map, List.length_cons, Nat.succ_mul]; omega
theorem crossP_le {S T : List Int} (hS : S.length ≤ 4096) (hT : T.length ≤ 4096) (k : Nat) : (crossP (S.take k) T).length ≤ 16777216 := by
  rw [crossP_len]
  exact Nat.le_trans (Nat.mul_le_mul (Nat.le_trans (List.length_take_le' _ _) hS) hT) (by decide)
/-- Where a pair leads to. -/
def leadsP (ars brs : List Arr) (p : Int × Int) (e : Int) (inA inB : Bool) : List (Int × Int) :=
  if (inA || inB) = true then crossP (if inA = true then stepL ars [p.1] e else [p.1]) (if inB = true then stepL brs [p.2] e else [p.2]) else []
/-- Pairs found, and arrows. -/
structure BS where
  ps : List (Int × Int)
  ar : List Arr
/-- One pair that is led to. -/
def bAdd (i : Nat) (e : Int) (s : BS) (p : Int × Int) : BS :=
  ⟨if findP s.ps p.1 p.2 = s.ps.length then s.ps ++ [p] else s.ps, s.ar ++ [⟨(i : Int), e, (findP s.ps p.1 p.2 : Nat)⟩]⟩
/-- What a pair leads to, at one event. -/
def bEv (a b : Mach) (ofA ofB : List Int) (i : Nat) (p : Int × Int) (s : BS) (e : Int) : BS := (leadsP a.arrows b.arrows p e (hasB ofA e) (hasB ofB e)).foldl (bAdd i e) s
/-- .. at the first k events. -/
def bEvs (a b : Mach) (ofA ofB : List Int) (i : Nat) (p : Int × Int) (s : BS) (k : Nat) : BS := (List.range k).foldl (fun (s : BS) (e : Nat) => bEv a b ofA ofB i p s (e : Int)) s
def bPair (a b : Mach) (ofA ofB : List Int) (s : BS) (i : Nat) : BS := bEvs a b ofA ofB i (s.ps[i]?.getD (0, 0)) s a.ev.toNat
/-- Too many? -/
def bBig (s : BS) : Bool := decide (256 < s.ps.length) || decide (4096 < s.ar.length)
def bGo (a b : Mach) (ofA ofB : List Int) : Nat → Nat → BS → Option BS
  | 0, _, s => some s
  | f + 1, i, s => if i < s.ps.length then (if bBig (bPair a b ofA ofB s i) = true then none else bGo a b ofA ofB f (i + 1) (bPair a b ofA ofB s i)) else some s
/-- 0, 1, .., n - 1. -/
def rngI (n : Nat) : List Int := (List.range n).map fun k : Nat => (k : Int)
theorem rngI_succ (n : Nat) : rngI (n + 1) = rngI n ++ [(n : Int)] := by simp [rngI, List.range_succ]
theorem rngI_len (n : Nat) : (rngI n).length = n := by simp [rngI]
def besideS (a b : Mach) (ofA ofB : List Int) : Option BS := bGo a b ofA ofB 300 0 ⟨crossP a.starts b.starts, []⟩
/-- Which pairs are ends. -/
def endsP (a b : Mach) (L : List (Int × Int)) (n : Nat) : List Int := (rngI n).filter fun k => (hasB a.ends (L[k.toNat]?.getD (0, 0)).1 && hasB b.ends (L[k.toNat]?.getD (0, 0)).2)
def besideM (a b : Mach) (s : BS) : Mach := ⟨if s.ps.length = 0 then 1 else s.ps.length, a.ev, rngI (crossP a.starts b.starts).length, srtA s.ar, endsP a b s.ps s.ps.length⟩

theorem bEvs_succ (a b : Mach) (ofA ofB : List Int) (i : Nat) (p : Int × Int) (s : BS) (k : Nat) : bEvs a b ofA ofB i p s (k + 1) = bEv a b ofA ofB i p (bEvs a b ofA ofB i p s k) (k : Int) := by
  unfold bEvs; rw [List.range_succ, List.foldl_append]; rfl
theorem bAdd_take {i : Nat} {e : Int} {s : BS} {L : List (Int × Int)} {k : Nat} {p : Int × Int} (hp : Hid (L[k]? = some p)) : (L.take (k + 1)).foldl (bAdd i e) s = bAdd i e ((L.take k).foldl (bAdd i e) s) p := by
  obtain ⟨h1, h2⟩ := List.getElem?_eq_some_iff.1 hp.out
  rw [List.take_add_one, hp.out, List.foldl_append]; rfl
theorem bAdd_ps (i : Nat) (e : Int) (s : BS) (p : Int × Int) : ∃ t, (bAdd i e s p).ps = s.ps ++ t ∧ t.length ≤ 1 := by
  unfold bAdd
  by_cases h : findP s.ps p.1 p.2 = s.ps.length
  · exact ⟨[p], by simp [h], by simp⟩
  · exact ⟨[], by simp [h], by simp⟩
theorem bFold_ps (i : Nat) (e : Int) : ∀ (L : List (Int × Int)) (s : BS), ∃ t, (L.foldl (bAdd i e) s).ps = s.ps ++ t ∧ t.length ≤ L.length
  | [], s => ⟨[], by simp, by simp⟩
  | p :: r, s => by
    obtain ⟨t, h1, h2⟩ := bAdd_ps i e s p
    obtain ⟨t', h3, h4⟩ := bFold_ps i e r (bAdd i e s p)
    exact ⟨t ++ t', by rw [List.foldl_cons, h3, h1, List.append_assoc], by simp; omega⟩
theorem bFold_ar (i : Nat) (e : Int) : ∀ (L : List (Int × Int)) (s : BS), (L.foldl (bAdd i e) s).ar.length = s.ar.length + L.length
  | [], s => by simp
  | p :: r, s => by
    rw [List.foldl_cons, bFold_ar i e r]
    simp [bAdd]; omega
theorem leadsP_len (a b : Mach) (p : Int × Int) (e : Int) (x y : Bool) (ha : a.arrows.length ≤ 4096) (hb : b.arrows.length ≤ 4096) : (leadsP a.arrows b.arrows p e x y).length ≤ 16777216 := by
  unfold leadsP
  split
  · rw [crossP_len]
    refine Nat.le_trans (show _ ≤ 4096 * 4096 from Nat.mul_le_mul ?_ ?_) (by decide)
    · split
      · exact Nat.le_trans (stepL_len _ _ _) ha
      · simp
    · split
      · exact Nat.le_trans (stepL_len _ _ _) hb
      · simp
  · simp
/-- What the events so far have brought: bounds, and the pairs stay where they are. -/
theorem bEvs_bd (a b : Mach) (ofA ofB : List Int) (i : Nat) (p : Int × Int) (s : BS) (ha : a.arrows.length ≤ 4096) (hb : b.arrows.length ≤ 4096) : ∀ k, (∃ t, (bEvs a b ofA ofB i p s k).ps = s.ps ++ t ∧ t.length ≤ k * 16777216) ∧ (bEvs a b ofA ofB i p s k).ar.length ≤ s.ar.length + k * 16777216
  | 0 => ⟨⟨[], by simp [bEvs], by simp⟩, by simp [bEvs]⟩
  | k + 1 => by
    obtain ⟨⟨t, h1, h2⟩, h3⟩ := bEvs_bd a b ofA ofB i p s ha hb k
    rw [bEvs_succ]
    unfold bEv
    have hl := leadsP_len a b p (k : Int) (hasB ofA (k : Int)) (hasB ofB (k : Int)) ha hb
    obtain ⟨t', h4, h5⟩ := bFold_ps i (k : Int) (leadsP a.arrows b.arrows p (k : Int) (hasB ofA (k : Int)) (hasB ofB (k : Int))) (bEvs a b ofA ofB i p s k)
    have h6 := bFold_ar i (k : Int) (leadsP a.arrows b.arrows p (k : Int) (hasB ofA (k : Int)) (hasB ofB (k : Int))) (bEvs a b ofA ofB i p s k)
    refine ⟨⟨t ++ t', by rw [h4, h1, List.append_assoc], by rw [List.length_append, Nat.succ_mul]; omega⟩, ?_⟩
    rw [h6, Nat.succ_mul]; omega

end Go.Proofs.YtcbdjjkebpncmaaDoor
namespace Go.Proofs.YtcbdjjkebpncmaaDoor
open Go.RowKit
set_option linter.unusedVariables false

/-- One arrow gone along: what it leads to, if it leads from what is there and is not there yet. -/
def along (fr to : Arr → Int) (l : List Int) (a : Arr) : List Int := if (hasB l (fr a) && !hasB l (to a)) = true then l ++ [to a] else l
/-- One round over the arrows. -/
def sweep (fr to : Arr → Int) (ars : List Arr) (l : List Int) : List Int := ars.foldl (along fr to) l
/-- At most k rounds, till nothing comes more. -/
def closeN (fr to : Arr → Int) (ars : List Arr) : Nat → List Int → List Int
  | 0, l => l
  | k + 1, l => if (sweep fr to ars l).length = l.length then sweep fr to ars l else closeN fr to ars k (sweep fr to ars l)

/-- What can be come to. -/
structure Come (fr to : Arr → Int) (ars : List Arr) (l0 : List Int) (P : Int → Prop) : Prop where
  start : ∀ x ∈ l0, P x
  step : ∀ a ∈ ars, P (fr a) → P (to a)
/-- .. from l0: in whatever holds l0 and is closed. -/
def Rch (fr to : Arr → Int) (ars : List Arr) (l0 : List Int) (x : Int) : Prop := ∀ P : Int → Prop, Come fr to ars l0 P → P x

theorem rch_start {fr to : Arr → Int} {ars : List Arr} {l0 : List Int} {x : Int} (h : x ∈ l0) : Rch fr to ars l0 x := fun _ hP => hP.start x h
theorem rch_step {fr to : Arr → Int} {ars : List Arr} {l0 : List Int} {a : Arr} (ha : a ∈ ars) (h : Rch fr to ars l0 (fr a)) : Rch fr to ars l0 (to a) := fun P hP => hP.step a ha (h P hP)

theorem hasB_iff (l : List Int) (x : Int) : hasB l x = true ↔ x ∈ l := by simp [hasB]
theorem along_sub {fr to : Arr → Int} {l : List Int} {a : Arr} : ∀ x ∈ l, x ∈ along fr to l a := fun x hx => by
  unfold along; split
  · exact List.mem_append_left _ hx
  · exact hx
theorem along_len {fr to : Arr → Int} (l : List Int) (a : Arr) : l.length ≤ (along fr to l a).length ∧ (along fr to l a).length ≤ l.length + 1 := by
  unfold along; split
  · simp
  · simp
theorem sweep_sub {fr to : Arr → Int} : ∀ {ars : List Arr} {l : List Int}, ∀ x ∈ l, x ∈ sweep fr to ars l
  | [], _, _, h => h
  | a :: r, l, x, h => sweep_sub (ars := r) (l := along fr to l a) x (along_sub x h)
theorem sweep_le {fr to : Arr → Int} : ∀ (ars : List Arr) (l : List Int), l.length ≤ (sweep fr to ars l).length
  | [], _ => Nat.le_refl _
  | a :: r, l => Nat.le_trans (along_len l a).1 (sweep_le r _)
theorem sweep_le2 {fr to : Arr → Int} : ∀ (ars : List Arr) (l : List Int), (sweep fr to ars l).length ≤ l.length + ars.length
  | [], _ => Nat.le_refl _
  | a :: r, l => by
    have h1 := (along_len (fr := fr) (to := to) l a).2
    have h2 := sweep_le2 (fr := fr) (to := to) r (along fr to l a)
    show (sweep fr to r (along fr to l a)).length ≤ _
    simp only [List.length_cons]; omega
/-- If no round brings more, nothing can be gone along. -/
theorem sweep_closed {fr to : Arr → Int} : ∀ {ars : List Arr} {l : List Int}, (sweep fr to ars l).length = l.length → sweep fr to ars l = l ∧ ∀ a ∈ ars, fr a ∈ l → to a ∈ l
  | [], l, _ => ⟨rfl, by simp⟩
  | a :: r, l, h => by
    have h1 := (along_len (fr := fr) (to := to) l a).1
    have h2 := sweep_le (fr := fr) (to := to) r (along fr to l a)
    have h3 : (sweep fr to r (along fr to l a)).length = l.length := h
    have e : (along fr to l a).length = l.length := by omega
    have hn : ¬ (hasB l (fr a) && !hasB l (to a)) = true := fun hc => by
      unfold along at e; rw [if_pos hc] at e; simp at e
    have ea : along fr to l a = l := by unfold along; rw [if_neg hn]
    rw [ea] at h3
    obtain ⟨k1, k2⟩ := sweep_closed (ars := r) (l := l) h3
    refine ⟨by show sweep fr to r (along fr to l a) = l; rw [ea]; exact k1, fun b hb => ?_⟩
    rcases List.mem_cons.1 hb with rfl | hb
    · intro hf
      apply Classical.byContradiction
      intro ht
      apply hn
      rw [Bool.and_eq_true, hasB_iff]
      refine ⟨hf, ?_⟩
      cases h4 : hasB l (to b) with
      | false => rfl
      | true => exact absurd ((hasB_iff _ _).1 h4) ht
    · exact k2 b hb

theorem along_nodup {fr to : Arr → Int} {l : List Int} (h : l.Nodup) (a : Arr) : (along fr to l a).Nodup := by
  unfold along
  split
  · rename_i hc
    rw [Bool.and_eq_true] at hc
    have : to a ∉ l := fun hm => by have h1 := (hasB_iff l (to a)).2 hm; rw [h1] at hc; exact absurd hc.2 (by simp)
    rw [List.nodup_append]
    exact ⟨h, by simp, fun x hx y hy => by rw [List.mem_singleton.1 hy]; rintro rfl; exact this hx⟩
  · exact h
theorem sweep_nodup {fr to : Arr → Int} : ∀ {ars : List Arr} {l : List Int}, l.Nodup → (sweep fr to ars l).Nodup
  | [], _, h => h
  | a :: r, l, h => sweep_nodup (ars := r) (along_nodup h a)
theorem along_in {fr to : Arr → Int} {P : Int → Prop} {l : List Int} {a : Arr} (hl : ∀ x ∈ l, P x) (ha : P (fr a) → P (to a)) : ∀ x ∈ along fr to l a, P x := by
  unfold along
  split
  · rename_i hc
    rw [Bool.and_eq_true, hasB_iff] at hc
    intro x hx
    rcases List.mem_append.1 hx with hx | hx
    · exact hl x hx
    · rw [List.mem_singleton.1 hx]; exact ha (hl _ hc.1)
  · exact hl
theorem sweep_in {fr to : Arr → Int} {P : Int → Prop} : ∀ {ars : List Arr} {l : List Int}, (∀ x ∈ l, P x) → (∀ a ∈ ars, P (fr a) → P (to a)) → ∀ x ∈ sweep fr to ars l, P x
  | [], _, hl, _ => hl
  | a :: r, l, hl, ha => sweep_in (ars := r) (along_in hl (ha a (by simp))) (fun b hb => ha b (by simp [hb]))
theorem closeN_in {fr to : Arr → Int} {P : Int → Prop} {ars : List Arr} (ha : ∀ a ∈ ars, P (fr a) → P (to a)) : ∀ (k : Nat) {l : List Int}, (∀ x ∈ l, P x) → ∀ x ∈ closeN fr to ars k l, P x
  | 0, _, hl => hl
  | k + 1, l, hl => by
    unfold closeN
    split
    · exact sweep_in hl ha
    · exact closeN_in ha k (sweep_in hl ha)
theorem closeN_sub {fr to : Arr → Int} {ars : List Arr} : ∀ (k : Nat) {l : List Int}, ∀ x ∈ l, x ∈ closeN fr to ars k l
  | 0, _, _, h => h
  | k + 1, l, x, h => by
    unfold closeN
    split
    · exact sweep_sub x h
    · exact closeN_sub k x (sweep_sub x h)
theorem nodup_len : ∀ (n : Nat) (l : List Int), l.Nodup → (∀ x ∈ l, 0 ≤ x ∧ x < n) → l.length ≤ n := by
  intro n l hn hb
  have hs : srt l = (srt l) := rfl
  have hi := inc_srt l
  have hm : ∀ x ∈ srt l, 0 ≤ x ∧ x < n := fun x hx => hb x ((mem_srt x l).1 hx)
  have hlen : (srt l).length ≤ n := by
    have := goIs_len (n : Int) (srt l) (-1) (by omega) ((goIs_iff _ _ _).2 ⟨hi, fun x hx => by have := hm x hx; omega⟩)
    omega
  have hp : l.Perm (srt l) := (List.perm_ext_iff_of_nodup hn (hi.imp (fun h => by omega))).2 (fun x => (mem_srt x l).symm)
  rw [hp.length_eq]; exact hlen
/-- Enough rounds: what comes is closed. -/
theorem closeN_closed {fr to : Arr → Int} {ars : List Arr} {n : Nat} (hb : ∀ a ∈ ars, 0 ≤ to a ∧ to a < n) : ∀ (k : Nat) {l : List Int}, l.Nodup → (∀ x ∈ l, 0 ≤ x ∧ x < n) → (l = [] ∨ n < l.length + k) →
    ∀ a ∈ ars, fr a ∈ closeN fr to ars k l → to a ∈ closeN fr to ars k l
  | 0, l, hn, hl, hk => by
    intro a ha hf
    rcases hk with rfl | hk
    · simp [closeN] at hf
    · have := nodup_len n l hn hl; omega
  | k + 1, l, hn, hl, hk => by
    unfold closeN
    split
    · rename_i he
      obtain ⟨k1, k2⟩ := sweep_closed he
      rw [k1]; exact k2
    · rename_i he
      refine closeN_closed hb k (sweep_nodup hn) (sweep_in hl (fun a ha _ => hb a ha)) (.inr ?_)
      have h1 := sweep_le (fr := fr) (to := to) ars l
      rcases hk with rfl | hk
      · exfalso
        apply he
        have : ∀ (r : List Arr), sweep fr to r [] = [] := fun r => by
          induction r with
          | nil => rfl
          | cons a r ih => show sweep fr to r (along fr to [] a) = []; rw [show along fr to [] a = [] by simp [along, hasB]]; exact ih
        rw [this]
      · omega
theorem mem_close {fr to : Arr → Int} {ars : List Arr} {n : Nat} {l : List Int} (hb : ∀ a ∈ ars, 0 ≤ to a ∧ to a < n) (hn : l.Nodup) (hl : ∀ x ∈ l, 0 ≤ x ∧ x < n) (x : Int) : x ∈ closeN fr to ars n l ↔ Rch fr to ars l x := by
  constructor
  · exact fun h => closeN_in (fun a ha h => rch_step ha h) n (fun y hy => rch_start hy) x h
  · intro h
    refine h (fun y => y ∈ closeN fr to ars n l) ⟨fun y hy => closeN_sub n y hy, closeN_closed hb n hn hl ?_⟩
    cases l with
    | nil => exact .inl rfl
    | cons y r => right; simp only [List.length_cons]; omega

/-- Reach and Live, as the references answer them. -/
def reachL (m : Mach) : List Int := srt (closeN (·.f) (·.t) m.arrows m.st.toNat m.starts)
def liveL (m : Mach) : List Int := srt (closeN (·.t) (·.f) m.arrows m.st.toNat m.ends)

theorem inc_nodup {l : List Int} (h : Inc l) : l.Nodup := h.imp (fun h => by omega)

theorem sweep_take {fr to : Arr → Int} {ars : List Arr} {k : Nat} {a : Arr} {l : List Int} (h : k < ars.length) (ha : Hid (a = ars[k]?.getD arr0)) : sweep fr to (ars.take (k + 1)) l = along fr to (sweep fr to (ars.take k) l) a := by
  have ha := ha.out
  rw [List.getElem?_eq_getElem h, Option.getD_some] at ha
  unfold sweep
  rw [List.take_add_one, List.getElem?_eq_getElem h, List.foldl_append, ← ha]; rfl
theorem closeN_len {fr to : Arr → Int} {ars : List Arr} {c : Nat} (hc : ars.length ≤ c) : ∀ (k : Nat) (l : List Int), (closeN fr to ars k l).length ≤ l.length + k * c
  | 0, l => by simp [closeN]
  | k + 1, l => by
    unfold closeN
    have h1 := sweep_le2 (fr := fr) (to := to) ars l
    have h2 : (k + 1) * c = k * c + c := Nat.succ_mul k c
    split
    · omega
    · have := closeN_len (fr := fr) (to := to) hc k (sweep fr to ars l); omega

end Go.Proofs.YtcbdjjkebpncmaaDoor
