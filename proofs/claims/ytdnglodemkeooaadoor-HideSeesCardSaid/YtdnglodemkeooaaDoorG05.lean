/-
  A machine that came in, opened: its value is a machine's, and its three slices lie in memory.
  What is said of a slice of arrows that a call has made ('OwnA'): its cells, a piece of it from the front, one arrow more, another slice behind it.
  The walk of row.Is: it answers 'rowB n xs'.
  The walks of machine.within and of its closure.
  The walks of cmp.Compare, cmp.Or (at integers) and of machine.compare: which of two arrows stands ahead.
  The walk of machine.compare.
-/
import Derived.ProofKit
import Derived.OpenShut
import Derived.ShutString
import Derived.ChangeOld
import Derived.Below
import Derived.Deep.Slices
import Derived.Deep.Strs
import Derived.Test.YtdnglodemkeooaaDoorG04
import Derived.Deep.RegionLaw
import Derived.Deep.QuietTactic
import Derived.BigQuiet
import Derived.Test.YtdnglodemkeooaaDoorG03
import Derived.Laws.EntriesVeiled
import Derived.Laws.Bits64b
import Derived.BigRegion
import Derived.Deep.RegionHeld3
namespace Go.Proofs.YtdnglodemkeooaaDoor
open Go.ChangeShapes Go.WideShapes Go.ChangeAt Go.RowKit Go.Deep
set_option linter.unusedVariables false
set_option maxRecDepth 100000

theorem addr_add (b off j : Nat) : (⟨b, off, none⟩ : Addr).add j = ⟨b, off + j, none⟩ := by unfold Addr.add; split <;> simp_all

theorem bulk_one {H : Type} (d : DataW H) : 1 ≤ Rows.uptoBulk d := by
  cases d with
  | lit l => cases l <;> simp [Rows.uptoBulk]
  | nil => simp [Rows.uptoBulk]
  | ptr d => simp [Rows.uptoBulk]
  | slice elems spare => simp [Rows.uptoBulk]
  | agg parts => simp [Rows.uptoBulk]
  | iface t d => simp [Rows.uptoBulk]
  | map entries => simp [Rows.uptoBulk]
  | held h => simp [Rows.uptoBulk]
theorem bulk_len {H : Type} (l : List (DataW H)) : l.length ≤ Rows.uptoBulkAll l := by
  induction l with
  | nil => simp [Rows.uptoBulkAll]
  | cons x r ih => have := bulk_one x; simp only [Rows.uptoBulkAll, List.length_cons]; omega
theorem bulk_slice {H : Type} (elems spare : List (DataW H)) : elems.length ≤ Rows.uptoBulk (.slice elems spare) := by
  have h1 := bulk_len elems
  simp only [Rows.uptoBulk]
  omega

/-- A slice of integers that came in. -/
structure Sl (w : World) (a : Option Addr) (c : Nat) (xs : List Int) : Prop where
  at_ : At w a xs
  le : xs.length ≤ c
  max : c ≤ maxLen
  nil : a = none → c = 0

theorem Sl.len {w : World} {a : Option Addr} {c : Nat} {xs : List Int} (h : Sl w a c xs) : xs.length ≤ maxLen := Nat.le_trans h.le h.max
section
variable {H : Type} {enc : TypeId × Value → H} {W : World}

theorem ints_of_trod {fuel : Nat} {cs : List Value} {x : DataW H × List MemPlace} (h : DataW.trod enc Tryd.prog W 0 (fun _ => true) true fuel 22 cs = some x) :
    ∃ a cap xs, cs = [.slice a (List.length (α := Int) xs) cap] ∧ xs.length ≤ cap ∧ cap ≤ maxLen ∧ At W a xs ∧ (a = none → cap = 0) ∧ xs.length ≤ Rows.uptoBulk x.1 := by
  rcases open_ints Tryd.underlying22 Tryd.underlying3 (by kernel_rfl) h with ⟨rfl, _⟩ | ⟨⟨b, off, sp⟩, len, cap, zs, rfl, _, hl, hm, hz, hx, hc, _⟩
  · exact ⟨none, 0, [], rfl, Nat.le_refl _, Nat.zero_le _, .inl rfl, fun _ => rfl, Nat.zero_le _⟩
  · simp only [if_true] at hz
    by_cases h0 : len = 0
    · subst h0
      exact ⟨_, cap, [], rfl, Nat.zero_le _, hm, .inl rfl, (fun h => by cases h), Nat.zero_le _⟩
    · have hn : sp = none := by simpa [Addr.add] using World.cell?_spot (hc 0 (by omega))
      subst hn
      have hlen : (zs.take len).length = len := by rw [List.length_take]; omega
      refine ⟨_, cap, zs.take len, by rw [hlen], by omega, hm, .inr ⟨b, off, rfl, ?_, fun j hj => ?_⟩, (fun h => by cases h), ?_⟩
      · exact World.block_lt_of_cell? W ⟨b, off, none⟩ (by simpa [Addr.add] using hc 0 (by omega))
      · have := hc j (by omega)
        rw [show (⟨b, off, none⟩ : Addr).add j = ⟨b, off + j, none⟩ from by simp [Addr.add]] at this
        rw [this]
        simp only [List.getD_eq_getElem?_getD]
        rw [List.getElem?_take_of_lt (by omega)]
      · rw [hx]
        have := bulk_slice (H := H) (lits .i64 (zs.take len)) (lits .i64 (zs.drop len))
        simp only [lits, List.length_map] at this
        exact this

theorem arrow_of_trod {fuel : Nat} {cs : List Value} {x : DataW H × List MemPlace} (h : DataW.trod enc Tryd.prog W 0 (fun _ => true) true fuel 58 cs = some x) :
    ∃ a : Arr, cs = [.int .i64 a.f, .int .i64 a.e, .int .i64 a.t] := by
  obtain ⟨y0, y1, y2, n, _, hl, h0, h1, h2⟩ := trod_struct3 Tryd.underlying58 h
  have hl3 : cs.length = 3 := hl.trans (by kernel_rfl)
  match cs, hl3 with
  | [c0, c1, c2], _ =>
    obtain ⟨n0, e0, _, _⟩ := DataW.trod_int Tryd.underlying3 h0
    obtain ⟨n1, e1, _, _⟩ := DataW.trod_int Tryd.underlying3 h1
    obtain ⟨n2, e2, _, _⟩ := DataW.trod_int Tryd.underlying3 h2
    rw [show Tryd.prog.cellsOf 3 = 1 by kernel_rfl] at e0 e1 e2
    simp at e0 e1 e2
    exact ⟨⟨n0, n1, n2⟩, by rw [e0, e1, e2]⟩

theorem arrows_of_trod {fuel : Nat} {cs : List Value} {x : DataW H × List MemPlace} (h : DataW.trod enc Tryd.prog W 0 (fun _ => true) true fuel 23 cs = some x) :
    ∃ a cap ars, cs = [.slice a (List.length (α := Arr) ars) cap] ∧ ars.length ≤ cap ∧ cap ≤ maxLen ∧ AtA W a ars ∧ (a = none → cap = 0) := by
  rcases open_slice Tryd.underlying23 h with ⟨rfl, _⟩ | ⟨⟨b, off, sp⟩, len, cap, m, n, D, Pl, rfl, _, hl, hm, hmm, _, hx⟩
  · exact ⟨none, 0, [], rfl, Nat.le_refl _, Nat.zero_le _, .inl rfl, fun _ => rfl⟩
  · simp only [if_true] at hmm
    rw [hmm] at hx
    have hsz : Tryd.prog.cellsOf 58 = 3 := by kernel_rfl
    rw [hsz] at hx
    have hA : ∀ i, i < cap → ∃ a : Arr, ∀ j, j < 3 → W.cell? ((Addr.add ⟨b, off, sp⟩ (i * 3)).add j) = [Value.int .i64 a.f, .int .i64 a.e, .int .i64 a.t][j]? := by
      intro i hi
      obtain ⟨cs', h1, h2⟩ := hx i hi
      obtain ⟨a, rfl⟩ := arrow_of_trod h2
      exact ⟨a, (World.cells?_some h1).2.2⟩
    by_cases h0 : len = 0
    · subst h0
      exact ⟨_, cap, [], rfl, Nat.zero_le _, hm, .inl rfl, fun h => by cases h⟩
    · obtain ⟨f, hf⟩ := @choose_lt Arr ⟨arr0⟩ cap (fun i a => ∀ j, j < 3 → W.cell? ((Addr.add ⟨b, off, sp⟩ (i * 3)).add j) = [Value.int .i64 a.f, .int .i64 a.e, .int .i64 a.t][j]?) hA
      have hn : sp = none := by
        have := World.cell?_spot (hf 0 (by omega) 0 (by omega))
        simpa [Addr.add] using this
      subst hn
      have hlen : ((List.range len).map f).length = len := by simp
      have hc : CellsA W b off ((List.range len).map f) := fun j hj => by
        rw [hlen] at hj
        have e : ((List.range len).map f)[j]?.getD arr0 = f j := by simp [List.getElem?_map, List.getElem?_range hj]
        have h0' := hf j (by omega) 0 (by omega)
        have h1' := hf j (by omega) 1 (by omega)
        have h2' := hf j (by omega) 2 (by omega)
        rw [e]
        rw [addr_add, addr_add] at h0' h1' h2'
        exact ⟨h0', h1', h2'⟩
      refine ⟨_, cap, (List.range len).map f, by rw [hlen], by rw [hlen]; exact hl, hm, .inr ⟨b, off, rfl, ?_, hc⟩, fun h => by cases h⟩
      have := (hc 0 (by rw [hlen]; omega)).1
      exact World.block_lt_of_cell? W ⟨b, off + 0 * 3, none⟩ this

theorem array5 {α : Type} {cs : Array α} (h : cs.size = 5) : ∃ c0 c1 c2 c3 c4, cs = #[c0, c1, c2, c3, c4] := by
  obtain ⟨l⟩ := cs
  match l, h with
  | [c0, c1, c2, c3, c4], _ => exact ⟨c0, c1, c2, c3, c4, rfl⟩

theorem mach_of_cells {fuel : Nat} {c0 c1 c2 c3 c4 : Value} {x : DataW H × List MemPlace} (h : DataW.trod enc Tryd.prog W 0 (fun _ => true) true fuel 25 [c0, c1, c2, c3, c4] = some x) : ∃ m l, Value.agg #[c0, c1, c2, c3, c4] = mval m l ∧ MAt W m l := by
  obtain ⟨xs, n, _, _, _, hlen, hf⟩ := DataW.trod_struct Tryd.underlying25 h
  have hlen5 : xs.length = 5 := hlen
  match xs, hlen5 with
  | [y0, y1, y2, y3, y4], _ =>
    have i1 : Tryd.prog.cellsOf 3 = 1 := by kernel_rfl
    have i2 : Tryd.prog.cellsOf 22 = 1 := by kernel_rfl
    have i3 : Tryd.prog.cellsOf 23 = 1 := by kernel_rfl
    have h0 := hf 0 { name := "States", type := 3, offset := 0, embedded := false, tag := "", pkgPath := "", byteOffset := 0 } rfl
    have h1 := hf 1 { name := "Events", type := 3, offset := 1, embedded := false, tag := "", pkgPath := "", byteOffset := 8 } rfl
    have h2 := hf 2 { name := "Starts", type := 22, offset := 2, embedded := false, tag := "", pkgPath := "", byteOffset := 16 } rfl
    have h3 := hf 3 { name := "Arrows", type := 23, offset := 3, embedded := false, tag := "", pkgPath := "", byteOffset := 40 } rfl
    have h4 := hf 4 { name := "Ends", type := 22, offset := 4, embedded := false, tag := "", pkgPath := "", byteOffset := 64 } rfl
    dsimp only at h0 h1 h2 h3 h4
    simp only [i1, i2, i3, List.drop_succ_cons, List.drop_zero, List.take_succ_cons, List.take_zero, List.getElem?_cons_zero, List.getElem?_cons_succ] at h0 h1 h2 h3 h4
    obtain ⟨st, e0, _, _⟩ := DataW.trod_int Tryd.underlying3 h0
    obtain ⟨ev, e1, _, _⟩ := DataW.trod_int Tryd.underlying3 h1
    obtain ⟨a1, k1, starts, e2, s1, s2, s3, s4, s5⟩ := ints_of_trod h2
    obtain ⟨a2, k2, arrows, e3, r1, r2, r3, r4⟩ := arrows_of_trod h3
    obtain ⟨a3, k3, ends, e4, t1, t2, t3, t4, t5⟩ := ints_of_trod h4
    simp only [List.cons.injEq, and_true] at e0 e1 e2 e3 e4
    subst e0 e1 e2 e3 e4
    exact ⟨⟨st, ev, starts, arrows, ends⟩, ⟨a1, k1, a2, k2, a3, k3⟩, rfl, ⟨s3, r3, t3, s1, s2, s4, r1, r2, r4, t1, t2, t4⟩⟩

/-- A MACHINE THAT CAME IN. -/
theorem open_mach {base : Nat} {v : Value} {d : DataW H} {p : List MemPlace} (hv : Value.okWide Tryd.prog W .any base 25 v) (h : DataW.Trod enc Tryd.prog W 0 (fun _ => true) true 25 v d p) : ∃ m l, v = mval m l ∧ MAt W m l := by
  obtain ⟨cs, rfl, hsz⟩ := okWide_struct Tryd.underlying25 hv
  obtain ⟨c0, c1, c2, c3, c4, rfl⟩ := array5 (hsz.trans (by kernel_rfl))
  obtain ⟨fuel, hf⟩ := h
  exact mach_of_cells (by simpa [Value.cells] using hf)

/-- A SLICE OF INTEGERS THAT CAME IN. -/
theorem open_sl {base : Nat} {v : Value} {d : DataW H} {p : List MemPlace} (hv : Value.okWide Tryd.prog W .any base 22 v) (h : DataW.Trod enc Tryd.prog W 0 (fun _ => true) true 22 v d p) : ∃ a c xs, v = .slice a (List.length (α := Int) xs) c ∧ Sl W a c xs ∧ xs.length ≤ Rows.uptoBulk d := by
  obtain ⟨a, len, cap, rfl⟩ := okWide_slice Tryd.underlying22 hv
  obtain ⟨fuel, hf⟩ := h
  obtain ⟨a', c', xs, e, h1, h2, h3, h4, h5⟩ := ints_of_trod (by simpa [Value.cells] using hf)
  simp only [List.cons.injEq, and_true, Value.slice.injEq] at e
  obtain ⟨rfl, rfl, rfl⟩ := e
  exact ⟨a, cap, xs, rfl, ⟨h3, h1, h2, h4⟩, h5⟩
end

end Go.Proofs.YtdnglodemkeooaaDoor
namespace Go.Proofs.YtdnglodemkeooaaDoor
open Go.RowKit
set_option linter.unusedVariables false

theorem Tryd.infoArrow : (Tryd.prog.info? 58).map (fun i => (i.zero, i.size, i.bytes)) = some (some (aval arr0), 3, 24) := by kernel_rfl

def aflat : List Arr → List Value
  | [] => []
  | a :: r => .int .i64 a.f :: .int .i64 a.e :: .int .i64 a.t :: aflat r

theorem aflat_len : ∀ L : List Arr, (aflat L).length = L.length * 3
  | [] => rfl
  | a :: r => by simp only [aflat, List.length_cons, aflat_len r]; omega
theorem aflat_append : ∀ L M : List Arr, aflat (L ++ M) = aflat L ++ aflat M
  | [], M => rfl
  | a :: r, M => by simp only [List.cons_append, aflat, aflat_append r M]
theorem aflat_take : ∀ (L : List Arr) (p : Nat), (aflat L).take (p * 3) = aflat (L.take p)
  | [], p => by simp [aflat]
  | a :: r, 0 => by simp [aflat]
  | a :: r, p + 1 => by rw [show (p + 1) * 3 = p * 3 + 1 + 1 + 1 by omega]; simp only [aflat, List.take_succ_cons, aflat_take r p]
theorem aflat_at : ∀ {L : List Arr} {k : Nat}, k < L.length → (aflat L)[k * 3]? = some (.int .i64 (L[k]?.getD arr0).f) ∧ (aflat L)[k * 3 + 1]? = some (.int .i64 (L[k]?.getD arr0).e) ∧ (aflat L)[k * 3 + 2]? = some (.int .i64 (L[k]?.getD arr0).t)
  | [], k, h => by simp at h
  | a :: r, 0, _ => by simp [aflat]
  | a :: r, k + 1, h => by
    have := aflat_at (L := r) (k := k) (by simpa using h)
    rw [show (k + 1) * 3 = k * 3 + 1 + 1 + 1 by omega]
    simpa [aflat] using this

/-- The slice v is in memory made from block B on, and holds the arrows L. -/
def OwnA (w : World) (B : Nat) (v : Value) (L : List Arr) : Prop := w.ownsRow B 58 3 v L.length (aflat L)

theorem ownA_nil (w : World) (B : Nat) : OwnA w B (.slice none 0 0) [] := World.ownsRow_nil _ _ _ _
theorem ownA_empty (w : World) (B : Nat) (h : B ≤ w.heap.size) : OwnA (w.alloc (.cells #[] 58)) B (.slice (some ⟨w.heap.size, 0, none⟩) 0 0) [] := World.ownsRow_lit w #[] 0 h (Nat.zero_le _) rfl

theorem addr0_add (g j : Nat) : (⟨g, 0, none⟩ : Addr).add j = ⟨g, 0 + j, none⟩ := by unfold Addr.add; split <;> simp_all

theorem OwnA.forms {w : World} {B : Nat} {v : Value} {L : List Arr} (h : OwnA w B v L) : (v = .slice none 0 0 ∧ L = []) ∨ ∃ g cap, v = .slice (some ⟨g, 0, none⟩) L.length cap ∧ B ≤ g ∧ g < w.heap.size ∧ CellsA w g 0 L ∧ L.length ≤ cap ∧ cap ≤ maxLen := by
  rcases h.2 with ⟨rfl, hn⟩ | ⟨g, cap, cur, rfl, hg, hh, hnc, hcm, hcs, ht⟩
  · exact .inl ⟨rfl, List.eq_nil_of_length_eq_zero hn⟩
  · refine .inr ⟨g, cap, rfl, hg, (Array.getElem?_eq_some_iff.1 hh).1, fun j hj => ?_, hnc, hcm⟩
    obtain ⟨h1, h2, h3⟩ := aflat_at hj
    have c1 := h.cells (g := g) rfl _ _ h1
    have c2 := h.cells (g := g) rfl _ _ h2
    have c3 := h.cells (g := g) rfl _ _ h3
    rw [addr0_add] at c1 c2 c3
    exact ⟨c1, c2, c3⟩

theorem OwnA.at {w : World} {B : Nat} {v : Value} {L : List Arr} (h : OwnA w B v L) : ∃ a cap, v = .slice a L.length cap ∧ AtA w a L ∧ L.length ≤ cap ∧ cap ≤ maxLen ∧ (a = none → cap = 0) := by
  rcases h.forms with ⟨rfl, rfl⟩ | ⟨g, cap, rfl, _, hg, hc, h1, h2⟩
  · exact ⟨none, 0, rfl, .inl rfl, Nat.le_refl _, Nat.zero_le _, fun _ => rfl⟩
  · exact ⟨some ⟨g, 0, none⟩, cap, rfl, .inr ⟨g, 0, rfl, hg, hc⟩, h1, h2, fun h => by cases h⟩

theorem OwnA.take {w : World} {B g n cap : Nat} {L : List Arr} (h : OwnA w B (.slice (some ⟨g, 0, none⟩) n cap) L) {p : Nat} (hp : p ≤ L.length) : OwnA w B (.slice (some ⟨g, 0, none⟩) p cap) (L.take p) := by
  have hl : (L.take p).length = p := by rw [List.length_take]; omega
  rcases h.2 with ⟨h0, _⟩ | ⟨g', cap', cur, h0, hg, hh, hnc, hcm, hcs, ht⟩
  · simp at h0
  · simp only [Value.slice.injEq, Option.some.injEq, Addr.mk.injEq, and_true] at h0
    obtain ⟨rfl, rfl, rfl⟩ := h0
    refine ⟨by rw [aflat_len], .inr ⟨g, cap, cur, by rw [hl], hg, hh, by omega, hcm, hcs, ?_⟩⟩
    rw [hl, ← aflat_take, ← ht, List.take_take]
    congr 1
    omega

theorem OwnA.kept {w w' : World} {B B' : Nat} {v : Value} {L : List Arr} (h : OwnA w B v L) (hb : Below B' w w') (hB : w.heap.size ≤ B') : OwnA w' B v L := by
  refine ⟨h.1, ?_⟩
  rcases h.2 with hn | ⟨g, cap, cur, rfl, hg, hgg, rest⟩
  · exact .inl hn
  · exact .inr ⟨g, cap, cur, rfl, hg, (hb.block g (Nat.lt_of_lt_of_le (Array.getElem?_eq_some_iff.1 hgg).1 hB)).trans hgg, rest⟩

theorem cells_news {w : World} {b off : Nat} {M : List Arr} (hc : CellsA w b off M) : ∀ j u, (aflat M)[j]? = some u → w.cell? ((⟨b, off, none⟩ : Addr).add j) = some u := by
  intro j u hu
  have hj : j < M.length * 3 := by rw [← aflat_len]; exact (List.getElem?_eq_some_iff.1 hu).1
  have hk : j / 3 < M.length := by omega
  obtain ⟨h1, h2, h3⟩ := aflat_at hk
  obtain ⟨c1, c2, c3⟩ := hc _ hk
  have ha : (⟨b, off, none⟩ : Addr).add j = ⟨b, off + j, none⟩ := by unfold Addr.add; split <;> simp_all
  rw [ha]
  have hm : j % 3 = 0 ∨ j % 3 = 1 ∨ j % 3 = 2 := by omega
  rcases hm with hm | hm | hm
  · have e : j / 3 * 3 = j := by omega
    rw [e] at h1 c1
    rw [hu] at h1
    rw [c1, h1]
  · have e : j / 3 * 3 + 1 = j := by omega
    rw [e] at h2
    rw [show off + j / 3 * 3 + 1 = off + j by omega] at c2
    rw [hu] at h2
    rw [c2, h2]
  · have e : j / 3 * 3 + 2 = j := by omega
    rw [e] at h3
    rw [show off + j / 3 * 3 + 2 = off + j by omega] at c3
    rw [hu] at h3
    rw [c3, h3]
theorem aflat_one : ∀ (M : List Arr), ∀ u ∈ aflat M, u.oneCell' = true
  | [], u, h => by simp [aflat] at h
  | a :: r, u, h => by
    simp only [aflat, List.mem_cons] at h
    rcases h with rfl | rfl | rfl | h
    · rfl
    · rfl
    · rfl
    · exact aflat_one r u h

section
variable {P : Program} {ops : Array Oper} {o : Oper} {a : Act} {w : World} {K : Act → World → Prop} {Q : Exit → Act → World → Prop} {E : Prop}

/-- append onto a row of the call's own, as one step of a region that draws. -/
theorem step_append_own (hg : o.guard = none) (s x : Operand) (t : TypeId) (hop : o.op = Op.call { callee := Callee.builtin Builtin.append, args := #[s, x], argTypes := #[t, t] })
    (base : Nat) (e : TypeId) (i : TypeInfo) (z : Value) (size bytes : Nat) (h1 : P.underlying t = some (.slice e)) (h2 : P.info? e = some i) (h3 : i.zero = some z) (h4 : i.size = size) (h5 : i.bytes = bytes) (h6 : z.cells.size = size) (h7 : 0 < size)
    (v : Value) (n : Nat) (xs : List Value) (hs : a.eval s = v) (hown : w.ownsRow base e size v n xs)
    (ad : Addr) (m c : Nat) (news : List Value) (hx : a.eval x = .slice (some ad) m c) (hn : news.length = m * size) (hc : ∀ j u, news[j]? = some u → w.cell? (ad.add j) = some u) (h1c : ∀ u ∈ news, u.oneCell' = true)
    (b1 : n + m ≤ maxLen) (b2 : (n + m) * bytes ≤ 140737488355328) (hbase : base ≤ w.heap.size)
    (hK : ∀ v' w', w'.ownsRow base e size v' (n + m) (xs ++ news) → w.grownBy w' v.ownBlock → K (a.put o.dst v') w') :
    if Region.wanted o (yielded ops a.tmps) = true then Oper.wp P o a w K Q else E := by
  have hw : Region.wanted o (yielded ops a.tmps) = true := by simp [Region.wanted, hg]
  rw [if_pos hw]
  obtain ⟨v', w', hrun, r1, r2, _⟩ := run_append_own (P := P) w base t o.type e i z size bytes h1 h2 h3 h4 h5 h6 h7 v n xs hown ad m c news hn hc h1c b1 b2 hbase
  unfold Oper.wp
  simp [execOp, hop, resolve, invoke, builtin, hs, hx, hrun, Result.andThen]
  exact hK v' w' r1 r2
end

theorem cell_three_new (w : World) (a b c : Value) (T : TypeId) : ∀ j u, [a, b, c][j]? = some u → (w.alloc (.cells #[a, b, c] T)).cell? ((⟨w.heap.size, 0, none⟩ : Addr).add j) = some u := by
  intro j u hu
  rw [addr0_add, Nat.zero_add, World.cell?_alloc_at _ _ _ _ rfl]
  match j, hu with
  | 0, hu => simpa using hu
  | 1, hu => simpa using hu
  | 2, hu => simpa using hu
  | j + 3, hu => simp at hu

section
variable {P : Program} (w : World)
theorem wp_append_nilA {o : Oper} {a : Act} {K : Act → World → Prop} {Q : Exit → Act → World → Prop} (s x : Operand) (t : TypeId)
    (ho : o.op = .call { callee := .builtin .append, args := #[s, x], argTypes := #[t, t] })
    (base : Nat) (e : TypeId) (i : TypeInfo) (size : Nat) (ht : P.underlying t = some (.slice e)) (hi : P.info? e = some i)
    (v : Value) (n : Nat) (xs : List Value) (hs : a.eval s = v) (hown : w.ownsRow base e size v n xs) (hx : a.eval x = .slice none 0 0)
    (h : K (a.put o.dst v) w) : o.wp P a w K Q := by
  have hr := run_append_owned_none (P := P) w base t o.type e i size ht hi v n xs hown
  unfold Oper.wp execOp
  simp only [ho, resolve, invoke, builtin, Sem.run_bind, Sem.run_pure, Result.andThen_ok, List.map_toArray, List.map_cons, List.map_nil, hs, hx, hr]
  exact h

/-- append(v, y...): v is a row of arrows of the call's own, y any slice of arrows (nil among them). -/
theorem wpList_append_arrs {ops : Array Oper} {rest : List Oper} {o : Oper} {a : Act} {Q : Exit → Act → World → Prop} (hgd : o.guard = none) (s x : Operand) (t : TypeId)
    (ho : o.op = .call { callee := .builtin .append, args := #[s, x], argTypes := #[t, t] })
    (B : Nat) (i : TypeInfo) (ht : P.underlying t = some (.slice 58)) (hi : P.info? 58 = some i) (hz : i.zero = some (aval arr0)) (hsize : i.size = 3) (hby : i.bytes = 24)
    (v : Value) (L : List Arr) (hs : a.eval s = v) (hown : OwnA w B v L)
    (ad : Option Addr) (c : Nat) (ys : List Arr) (hx : a.eval x = .slice ad ys.length c) (hat : AtA w ad ys) (hnil : ad = none → c = 0)
    (hroom : (L.length + ys.length) * 24 ≤ 140737488355328) (hbase : B ≤ w.heap.size)
    (h : ∀ v' w', OwnA w' B v' (L ++ ys) → w.grownBy w' v.ownBlock → (v ≠ .slice none 0 0 → v' ≠ .slice none 0 0) → wpList P ops Q rest (a.put o.dst v') w') : wpList P ops Q (o :: rest) a w := by
  cases ad with
  | none =>
    have hy : ys = [] := by
      rcases hat with h | ⟨b, off, h, _⟩
      · exact h
      · cases h
    subst hy
    rw [hnil rfl] at hx
    refine wpList_plain hgd fun _ hK => wp_append_nilA w s x t ho B 58 i 3 ht hi v _ _ hs hown hx (hK _ _ (h v w ?_ ⟨rfl, rfl, rfl, Nat.le_refl _, fun _ _ _ => rfl⟩ (fun h => h)))
    rw [List.append_nil]; exact hown
  | some ad =>
    refine wpList_append_own w hgd s x t ho B 58 i (aval arr0) 3 24 ht hi hz hsize hby rfl (by decide) v _ _ hs hown ad ys.length c (aflat ys) hx (aflat_len ys) ?_ (aflat_one ys) (by unfold maxLen; omega) hroom hbase ?_
    · rcases hat with h0 | ⟨b, off, h0, _, hc⟩
      · subst h0; intro j u hu; simp [aflat] at hu
      · cases h0; exact cells_news hc
    · intro v' w' ho' hg hnn
      refine h v' w' ?_ hg (fun hv hv' => hv (hnn.1 hv').1)
      unfold OwnA
      rw [List.length_append, aflat_append]
      exact ho'
end

end Go.Proofs.YtdnglodemkeooaaDoor
namespace Go.Proofs.YtdnglodemkeooaaDoor
open Go.RowKit

theorem rowB_start1 {n : Int} (h : n ≤ 2147483648) (xs : List Int) : rowB n xs = goIs (-1) n xs := by unfold rowB; rw [show min n 2147483648 = n by omega]
theorem rowB_start2 {n : Int} (h : 2147483648 < n) (xs : List Int) : rowB n xs = goIs (-1) 2147483648 xs := by unfold rowB; rw [show min n 2147483648 = 2147483648 by omega]

set_option maxHeartbeats 400000 in
theorem rowIs_some (b off cap : Nat) (xs : List Int) (n : Int) (w : World) (hl : xs.length ≤ 9223372036854775807) (hc : Cells w b off xs) :
    Calls Tryd.prog 23 #[.slice (some ⟨b, off, none⟩) xs.length cap, .int .i64 n] w fun e w' => e = .returned (.bool (rowB n xs)) ∧ w' = w := by
  by_cases hn : n ≤ 2147483648
  · have HS : Hid (rowB n xs = goIs (-1) n (xs.drop 0)) := rowB_start1 hn xs
    go_enter Tryd.func23, Tryd.ntmps23
    go_wp2
    go_loop [5, 12] (fun l i => ∃ (k : Nat) (last : Int), k ≤ xs.length ∧ i = .int .i64 k ∧ l = .int .i64 last ∧ Hid (rowB n xs = goIs last n (xs.drop k))) (fun _ i => xs.length - (intOf i).toNat)
    case atStart => exact ⟨0, -1, Nat.zero_le _, rfl, rfl, HS⟩
    case round =>
      obtain ⟨k, last, hk, rfl, rfl, he⟩ := hrel
      by_cases hlt : k < xs.length
      · obtain ⟨x, HX, hcell⟩ := hc.at hlt
        by_cases h1 : x ≤ last
        · go_wp2
          go_ret
          exact ⟨ret_bool (is_no hlt he HX (.inl h1)), rfl⟩
        · by_cases h2 : n ≤ x
          · go_wp2
            go_ret
            exact ⟨ret_bool (is_no hlt he HX (.inr h2)), rfl⟩
          · go_wp2
            go_round
            case rel => exact ⟨k + 1, x, by omega, by go_num, rfl, is_yes hlt he HX (by omega)⟩
            case measure => simp [intOf]; omega
      · go_wp2
        go_ret
        exact ⟨ret_bool (is_end hlt he), rfl⟩
  · have HS : Hid (rowB n xs = goIs (-1) 2147483648 (xs.drop 0)) := rowB_start2 (by omega) xs
    go_enter Tryd.func23, Tryd.ntmps23
    go_wp2
    go_loop [5, 12] (fun l i => ∃ (k : Nat) (last : Int), k ≤ xs.length ∧ i = .int .i64 k ∧ l = .int .i64 last ∧ Hid (rowB n xs = goIs last 2147483648 (xs.drop k))) (fun _ i => xs.length - (intOf i).toNat)
    case atStart => exact ⟨0, -1, Nat.zero_le _, rfl, rfl, HS⟩
    case round =>
      obtain ⟨k, last, hk, rfl, rfl, he⟩ := hrel
      by_cases hlt : k < xs.length
      · obtain ⟨x, HX, hcell⟩ := hc.at hlt
        by_cases h1 : x ≤ last
        · go_wp2
          go_ret
          exact ⟨ret_bool (is_no hlt he HX (.inl h1)), rfl⟩
        · by_cases h2 : 2147483648 ≤ x
          · go_wp2
            go_ret
            exact ⟨ret_bool (is_no hlt he HX (.inr h2)), rfl⟩
          · go_wp2
            go_round
            case rel => exact ⟨k + 1, x, by omega, by go_num, rfl, is_yes hlt he HX (by omega)⟩
            case measure => simp [intOf]; omega
      · go_wp2
        go_ret
        exact ⟨ret_bool (is_end hlt he), rfl⟩

set_option maxHeartbeats 400000 in
theorem rowIs_nil (a : Option Addr) (cap : Nat) (n : Int) (w : World) :
    Calls Tryd.prog 23 #[.slice a 0 cap, .int .i64 n] w fun e w' => e = .returned (.bool true) ∧ w' = w := by
  go_enter Tryd.func23, Tryd.ntmps23
  go_wp2
  all_goals
    refine wp_loop_rounds 1 ?_
    rw [rounds_succ]
    go_wp2
    go_ret
    exact ⟨rfl, rfl⟩

theorem rowIs_any (a : Option Addr) (cap : Nat) (xs : List Int) (n : Int) (w : World) (hs : At w a xs) (hl : xs.length ≤ maxLen) :
    Calls Tryd.prog 23 #[.slice a xs.length cap, .int .i64 n] w fun e w' => e = .returned (.bool (rowB n xs)) ∧ w' = w := by
  rcases hs with rfl | ⟨b, off, rfl, -, hc⟩
  · exact rowIs_nil a cap n w
  · exact rowIs_some b off cap xs n w hl hc

end Go.Proofs.YtdnglodemkeooaaDoor
namespace Go.Proofs.YtdnglodemkeooaaDoor
open Go.RowKit
set_option linter.unusedVariables false

set_option maxHeartbeats 400000 in
theorem within_any (b : Int) (w : World) :
    Calls Tryd.prog 91 #[.int .i64 b] w fun e w' => e = .returned (.func (.func 117) #[] #[.pointer (some ⟨w.heap.size, 0, none⟩)]) ∧ w' = w.alloc (.cells #[.int .i64 b] 3) := by
  have hmf : ∀ (fn : Fn) (first cap : Array Value) (w : World), (Instr.makeFunc fn first cap).run Tryd.prog w = .ok (.func fn first cap) w := fun _ _ _ _ => rfl
  go_enter Tryd.func91, Tryd.ntmps91
  go_wp2
  go_ret
  exact ⟨rfl, rfl⟩

/-- Is a number from 0 to below a bound? -/
def inB (b n : Int) : Bool := decide (0 ≤ n ∧ n < b)

set_option maxHeartbeats 400000 in
theorem within1_any (b n : Int) (B : Nat) (w : World) (hc : w.cell? ⟨B, 0, none⟩ = some (.int .i64 b)) :
    Calls Tryd.prog 117 #[.int .i64 n, .pointer (some ⟨B, 0, none⟩)] w fun e w' => e = .returned (.bool (inB b n)) ∧ w' = w := by
  by_cases h1 : 0 ≤ n
  · by_cases h2 : n < b
    · have hr : Hid (true = inB b n) := show true = inB b n by simp [inB, h1, h2]
      have f1 : decide (0 ≤ n) = true := by simpa using h1
      have f2 : decide (n < b) = true := by simpa using h2
      go_enter Tryd.func117, Tryd.ntmps117
      go_wp2
      go_ret
      exact ⟨ret_bool hr.out, rfl⟩
    · have hr : Hid (false = inB b n) := show false = inB b n by simp [inB]; omega
      have f1 : decide (0 ≤ n) = true := by simpa using h1
      have f2 : decide (n < b) = false := by simpa using h2
      go_enter Tryd.func117, Tryd.ntmps117
      go_wp2
      go_ret
      exact ⟨ret_bool hr.out, rfl⟩
  · have hr : Hid (false = inB b n) := show false = inB b n by simp [inB]; omega
    have f1 : decide (0 ≤ n) = false := by simpa using h1
    go_enter Tryd.func117, Tryd.ntmps117
    go_wp2
    go_ret
    exact ⟨ret_bool hr.out, rfl⟩

end Go.Proofs.YtdnglodemkeooaaDoor
namespace Go.Proofs.YtdnglodemkeooaaDoor
open Go.RowKit
set_option linter.unusedVariables false
set_option maxRecDepth 100000

set_option maxHeartbeats 400000 in
theorem isNaN_any (x : Int) (w : World) : Calls Tryd.prog 142 #[.int .i64 x] w fun e w' => e = .returned (.bool false) ∧ w' = w := by
  have h : (x != x) = false := by simp
  go_enter Tryd.func142, Tryd.ntmps142
  go_wp2
  go_ret
  exact ⟨rfl, rfl⟩

/-- -1, 0 or 1. -/
def cmpI (x y : Int) : Int := if x < y then -1 else if y < x then 1 else 0

theorem ret_i64 {a b : Int} (h : a = b) : Ending.returned (.int .i64 a) = .returned (.int .i64 b) := by rw [h]

set_option maxHeartbeats 1000000 in
theorem cmp_any (x y : Int) (w : World) : Calls Tryd.prog 119 #[.int .i64 x, .int .i64 y] w fun e w' => e = .returned (.int .i64 (cmpI x y)) ∧ w' = w := by
  have c1 := isNaN_any x
  have c2 := isNaN_any y
  by_cases h1 : x < y
  · have hr : Hid ((-1 : Int) = cmpI x y) := by show _ = _; simp [cmpI, h1]
    have f1 : decide (x < y) = true := by simpa using h1
    go_enter Tryd.func119, Tryd.ntmps119
    go_wp2_with (first | (go_at_call 142; refine (c1 _).mono ?_; rintro e w' ⟨rfl, rfl⟩) | (go_at_call 142; refine (c2 _).mono ?_; rintro e w' ⟨rfl, rfl⟩))
    go_ret
    exact ⟨ret_i64 hr.out, rfl⟩
  · have f1 : decide (x < y) = false := by simpa using h1
    by_cases h2 : y < x
    · have hr : Hid ((1 : Int) = cmpI x y) := by show _ = _; simp [cmpI, h1, h2]
      have f2 : decide (y < x) = true := by simpa using h2
      go_enter Tryd.func119, Tryd.ntmps119
      go_wp2_with (first | (go_at_call 142; refine (c1 _).mono ?_; rintro e w' ⟨rfl, rfl⟩) | (go_at_call 142; refine (c2 _).mono ?_; rintro e w' ⟨rfl, rfl⟩))
      go_ret
      exact ⟨ret_i64 hr.out, rfl⟩
    · have hr : Hid ((0 : Int) = cmpI x y) := by show _ = _; simp [cmpI, h1, h2]
      have f2 : decide (y < x) = false := by simpa using h2
      go_enter Tryd.func119, Tryd.ntmps119
      go_wp2_with (first | (go_at_call 142; refine (c1 _).mono ?_; rintro e w' ⟨rfl, rfl⟩) | (go_at_call 142; refine (c2 _).mono ?_; rintro e w' ⟨rfl, rfl⟩))
      go_ret
      exact ⟨ret_i64 hr.out, rfl⟩

/-- The first that is not 0. -/
def orI (x y z : Int) : Int := if x = 0 then (if y = 0 then z else y) else x

set_option maxHeartbeats 1000000 in
theorem or_any (x y z : Int) (b : Nat) (w : World) (h0 : w.cell? ⟨b, 0, none⟩ = some (.int .i64 x)) (h1 : w.cell? ⟨b, 1, none⟩ = some (.int .i64 y)) (h2 : w.cell? ⟨b, 2, none⟩ = some (.int .i64 z)) :
    Calls Tryd.prog 118 #[.slice (some ⟨b, 0, none⟩) 3 3] w fun e w' => e = .returned (.int .i64 (orI x y z)) ∧ w' = w := by
  by_cases e0 : x = 0
  · subst e0
    by_cases e1 : y = 0
    · subst e1
      by_cases e2 : z = 0
      · subst e2
        go_enter Tryd.func118, Tryd.ntmps118
        go_wp2
        refine wp_loop_rounds 4 ?_
        rw [rounds_succ]
        go_wp2
        rw [rounds_succ]
        go_wp2
        rw [rounds_succ]
        go_wp2
        rw [rounds_succ]
        go_wp2
        go_ret
        exact ⟨ret_i64 (by simp [orI]), rfl⟩
      · have f2 : (z == 0) = false := by simpa using e2
        have f2' : (z != 0) = true := by simpa using e2
        have hr : Hid (z = orI 0 0 z) := by show _ = _; simp [orI]
        go_enter Tryd.func118, Tryd.ntmps118
        go_wp2
        refine wp_loop_rounds 4 ?_
        rw [rounds_succ]
        go_wp2
        rw [rounds_succ]
        go_wp2
        rw [rounds_succ]
        go_wp2
        go_ret
        exact ⟨ret_i64 hr.out, rfl⟩
    · have f1 : (y == 0) = false := by simpa using e1
      have f1' : (y != 0) = true := by simpa using e1
      have hr : Hid (y = orI 0 y z) := by show _ = _; simp [orI, e1]
      go_enter Tryd.func118, Tryd.ntmps118
      go_wp2
      refine wp_loop_rounds 4 ?_
      rw [rounds_succ]
      go_wp2
      rw [rounds_succ]
      go_wp2
      go_ret
      exact ⟨ret_i64 hr.out, rfl⟩
  · have f0 : (x == 0) = false := by simpa using e0
    have f0' : (x != 0) = true := by simpa using e0
    have hr : Hid (x = orI x y z) := by show _ = _; simp [orI, e0]
    go_enter Tryd.func118, Tryd.ntmps118
    go_wp2
    refine wp_loop_rounds 4 ?_
    rw [rounds_succ]
    go_wp2
    go_ret
    exact ⟨ret_i64 hr.out, rfl⟩

/-- Which of two arrows stands ahead, by its sign. -/
def cmpA (a b : Arr) : Int := orI (cmpI a.f b.f) (cmpI a.e b.e) (cmpI a.t b.t)

theorem cmpA_ahead (a b : Arr) : decide (0 ≤ cmpA a b) = !aheadB a b := by
  unfold cmpA aheadB orI cmpI
  by_cases h1 : a.f < b.f
  · simp [h1, show ¬ a.f = b.f by omega]
  · by_cases h2 : b.f < a.f
    · simp [h1, h2, show ¬ a.f = b.f by omega]
    · have e : a.f = b.f := by omega
      by_cases h3 : a.e < b.e
      · simp [e, h3, show ¬ a.e = b.e by omega]
      · by_cases h4 : b.e < a.e
        · simp [e, h3, h4, show ¬ a.e = b.e by omega]
        · have e' : a.e = b.e := by omega
          by_cases h5 : a.t < b.t
          · simp [e, e', h5]
          · by_cases h6 : b.t < a.t
            · simp [e, e', h5, h6]
            · simp [e, e', h5, h6]

end Go.Proofs.YtdnglodemkeooaaDoor
namespace Go.Proofs.YtdnglodemkeooaaDoor
open Go.RowKit
set_option linter.unusedVariables false

/-- An arrow's cells. -/
abbrev acells (a : Arr) : Array Value := #[.int .i64 a.f, .int .i64 a.e, .int .i64 a.t]

set_option maxRecDepth 100000 in
set_option maxHeartbeats 4000000 in
theorem compare_any (a b : Arr) (w : World) :
    Calls Tryd.prog 92 #[.agg (acells a), .agg (acells b)] w fun e w' => e = .returned (.int .i64 (cmpA a b)) ∧ Below w.heap.size w w' := by
  have k1 : Blk ((w.alloc (.cells (acells a) 58)).alloc (.cells (acells b) 58)) w.heap.size 58 (acells a) := (Blk.new w _ _).alloc _
  have k2 : Blk ((w.alloc (.cells (acells a) 58)).alloc (.cells (acells b) 58)) (w.heap.size + 1) 58 (acells b) := by
    have := Blk.new (w.alloc (.cells (acells a) 58)) 58 (acells b)
    rwa [World.size_alloc] at this
  have hB : Below w.heap.size w ((w.alloc (.cells (acells a) 58)).alloc (.cells (acells b) 58)) := ((Below.refl _ _).alloc (Nat.le_refl _) _).alloc (by simp) _
  have hsz : ((w.alloc (.cells (acells a) 58)).alloc (.cells (acells b) 58)).heap.size = w.heap.size + 2 := by simp
  have K1 := Hid.of k1
  have K2 := Hid.of k2
  have HB := Hid.of hB
  have HS := Hid.of hsz
  clear k1 k2 hB hsz
  go_enter Tryd.func92, Tryd.ntmps92
  go_wp2
  revert K1 K2 HB HS
  generalize (w.alloc (.cells (acells a) 58)).alloc (.cells (acells b) 58) = V
  intro K1 K2 HB HS
  have a0 : V.cell? ⟨w.heap.size, 0, none⟩ = some (.int .i64 a.f) := K1.out.cell 0 rfl
  have a1 : V.cell? ⟨w.heap.size, 1, none⟩ = some (.int .i64 a.e) := K1.out.cell 1 rfl
  have a2 : V.cell? ⟨w.heap.size, 2, none⟩ = some (.int .i64 a.t) := K1.out.cell 2 rfl
  have b0 : V.cell? ⟨w.heap.size + 1, 0, none⟩ = some (.int .i64 b.f) := K2.out.cell 0 rfl
  have b1 : V.cell? ⟨w.heap.size + 1, 1, none⟩ = some (.int .i64 b.e) := K2.out.cell 1 rfl
  have b2 : V.cell? ⟨w.heap.size + 1, 2, none⟩ = some (.int .i64 b.t) := K2.out.cell 2 rfl
  have hs := HS.out
  have hn1 : w.heap.size < V.heap.size := by omega
  have hn2 : w.heap.size + 1 < V.heap.size := by omega
  have n1 := World.new_ne V _ a0
  have n2 := World.new_ne V _ b0
  go_region_held3 (fun w' => w'.cell? ⟨w.heap.size, 0, none⟩ = some (.int .i64 a.f) ∧ w'.cell? ⟨w.heap.size, 1, none⟩ = some (.int .i64 a.e) ∧ w'.cell? ⟨w.heap.size, 2, none⟩ = some (.int .i64 a.t) ∧ w'.cell? ⟨w.heap.size + 1, 0, none⟩ = some (.int .i64 b.f) ∧ w'.cell? ⟨w.heap.size + 1, 1, none⟩ = some (.int .i64 b.e) ∧ w'.cell? ⟨w.heap.size + 1, 2, none⟩ = some (.int .i64 b.t)) (go_keep) (first | (go_at_call 119; refine (cmp_any _ _ _).mono ?_; rintro e w1 ⟨rfl, rfl⟩) | (go_at_call 118; refine (or_any (cmpI a.f b.f) (cmpI a.e b.e) (cmpI a.t b.t) _ _ (by go_simp) (by go_simp) (by go_simp)).mono ?_; rintro e w1 ⟨rfl, rfl⟩))
  go_wp2
  go_ret
  exact ⟨rfl, (HB.out.alloc HB.out.size _).drew⟩

end Go.Proofs.YtdnglodemkeooaaDoor
