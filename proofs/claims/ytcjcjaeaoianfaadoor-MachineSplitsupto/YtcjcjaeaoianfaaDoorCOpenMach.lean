/-
  A machine that came in, opened: its value is a machine's, and its three slices lie in memory.
-/
import Derived.Test.YtcjcjaeaoianfaaDoorCMBase
import Derived.ProofKit
import Derived.OpenShut
import Derived.ShutString
import Derived.ChangeOld
import Derived.Below
import Derived.Deep.Slices
import Derived.Deep.Strs
namespace Go.Proofs.YtcjcjaeaoianfaaDoor
open Go.ChangeShapes Go.WideShapes Go.ChangeAt Go.RowKit Go.Deep
set_option linter.unusedVariables false
set_option maxRecDepth 100000

theorem addr_add (b off j : Nat) : (⟨b, off, none⟩ : Addr).add j = ⟨b, off + j, none⟩ := by unfold Addr.add; split <;> simp_all

theorem bulk_one {H : Type} (d : DataW H) : 1 ≤ Rows.uptoBulk d := by
  cases d with
  | lit l => cases l <;> simp [Rows.uptoBulk]
  | nil => simp [Rows.uptoBulk]
  | ptr d => simp [Rows.uptoBulk]
  | slice elems spare => simp [Rows.uptoBulk]
  | agg parts => simp [Rows.uptoBulk]
  | iface t d => simp [Rows.uptoBulk]
  | map entries => simp [Rows.uptoBulk]
  | held h => simp [Rows.uptoBulk]
theorem bulk_len {H : Type} (l : List (DataW H)) : l.length ≤ Rows.uptoBulkAll l := by
  induction l with
  | nil => simp [Rows.uptoBulkAll]
  | cons x r ih => have := bulk_one x; simp only [Rows.uptoBulkAll, List.length_cons]; omega
theorem bulk_slice {H : Type} (elems spare : List (DataW H)) : elems.length ≤ Rows.uptoBulk (.slice elems spare) := by
  have h1 := bulk_len elems
  simp only [Rows.uptoBulk]
  omega

/-- A slice of integers that came in. -/
structure Sl (w : World) (a : Option Addr) (c : Nat) (xs : List Int) : Prop where
  at_ : At w a xs
  le : xs.length ≤ c
  max : c ≤ maxLen
  nil : a = none → c = 0

theorem Sl.len {w : World} {a : Option Addr} {c : Nat} {xs : List Int} (h : Sl w a c xs) : xs.length ≤ maxLen := Nat.le_trans h.le h.max
theorem Sl.below {w w' : World} {a : Option Addr} {c : Nat} {xs : List Int} {B : Nat} (h : Sl w a c xs) (hb : Below B w w') (hB : w.heap.size ≤ B) : Sl w' a c xs := ⟨h.at_.below hb hB, h.le, h.max, h.nil⟩

section
variable {H : Type} {enc : TypeId × Value → H} {W : World}

theorem ints_of_trod {fuel : Nat} {cs : List Value} {x : DataW H × List MemPlace} (h : DataW.trod enc Tryd.prog W 0 (fun _ => true) true fuel 22 cs = some x) :
    ∃ a cap xs, cs = [.slice a (List.length (α := Int) xs) cap] ∧ xs.length ≤ cap ∧ cap ≤ maxLen ∧ At W a xs ∧ (a = none → cap = 0) ∧ xs.length ≤ Rows.uptoBulk x.1 := by
  rcases open_ints Tryd.underlying22 Tryd.underlying3 (by kernel_rfl) h with ⟨rfl, _⟩ | ⟨⟨b, off, sp⟩, len, cap, zs, rfl, _, hl, hm, hz, hx, hc, _⟩
  · exact ⟨none, 0, [], rfl, Nat.le_refl _, Nat.zero_le _, .inl rfl, fun _ => rfl, Nat.zero_le _⟩
  · simp only [if_true] at hz
    by_cases h0 : len = 0
    · subst h0
      exact ⟨_, cap, [], rfl, Nat.zero_le _, hm, .inl rfl, (fun h => by cases h), Nat.zero_le _⟩
    · have hn : sp = none := by simpa [Addr.add] using World.cell?_spot (hc 0 (by omega))
      subst hn
      have hlen : (zs.take len).length = len := by rw [List.length_take]; omega
      refine ⟨_, cap, zs.take len, by rw [hlen], by omega, hm, .inr ⟨b, off, rfl, ?_, fun j hj => ?_⟩, (fun h => by cases h), ?_⟩
      · exact World.block_lt_of_cell? W ⟨b, off, none⟩ (by simpa [Addr.add] using hc 0 (by omega))
      · have := hc j (by omega)
        rw [show (⟨b, off, none⟩ : Addr).add j = ⟨b, off + j, none⟩ from by simp [Addr.add]] at this
        rw [this]
        simp only [List.getD_eq_getElem?_getD]
        rw [List.getElem?_take_of_lt (by omega)]
      · rw [hx]
        have := bulk_slice (H := H) (lits .i64 (zs.take len)) (lits .i64 (zs.drop len))
        simp only [lits, List.length_map] at this
        exact this

theorem arrow_of_trod {fuel : Nat} {cs : List Value} {x : DataW H × List MemPlace} (h : DataW.trod enc Tryd.prog W 0 (fun _ => true) true fuel 51 cs = some x) :
    ∃ a : Arr, cs = [.int .i64 a.f, .int .i64 a.e, .int .i64 a.t] := by
  obtain ⟨y0, y1, y2, n, _, hl, h0, h1, h2⟩ := trod_struct3 Tryd.underlying51 h
  have hl3 : cs.length = 3 := hl.trans (by kernel_rfl)
  match cs, hl3 with
  | [c0, c1, c2], _ =>
    obtain ⟨n0, e0, _, _⟩ := DataW.trod_int Tryd.underlying3 h0
    obtain ⟨n1, e1, _, _⟩ := DataW.trod_int Tryd.underlying3 h1
    obtain ⟨n2, e2, _, _⟩ := DataW.trod_int Tryd.underlying3 h2
    rw [show Tryd.prog.cellsOf 3 = 1 by kernel_rfl] at e0 e1 e2
    simp at e0 e1 e2
    exact ⟨⟨n0, n1, n2⟩, by rw [e0, e1, e2]⟩

theorem arrows_of_trod {fuel : Nat} {cs : List Value} {x : DataW H × List MemPlace} (h : DataW.trod enc Tryd.prog W 0 (fun _ => true) true fuel 23 cs = some x) :
    ∃ a cap ars, cs = [.slice a (List.length (α := Arr) ars) cap] ∧ ars.length ≤ cap ∧ cap ≤ maxLen ∧ AtA W a ars ∧ (a = none → cap = 0) := by
  rcases open_slice Tryd.underlying23 h with ⟨rfl, _⟩ | ⟨⟨b, off, sp⟩, len, cap, m, n, D, Pl, rfl, _, hl, hm, hmm, _, hx⟩
  · exact ⟨none, 0, [], rfl, Nat.le_refl _, Nat.zero_le _, .inl rfl, fun _ => rfl⟩
  · simp only [if_true] at hmm
    rw [hmm] at hx
    have hsz : Tryd.prog.cellsOf 51 = 3 := by kernel_rfl
    rw [hsz] at hx
    have hA : ∀ i, i < cap → ∃ a : Arr, ∀ j, j < 3 → W.cell? ((Addr.add ⟨b, off, sp⟩ (i * 3)).add j) = [Value.int .i64 a.f, .int .i64 a.e, .int .i64 a.t][j]? := by
      intro i hi
      obtain ⟨cs', h1, h2⟩ := hx i hi
      obtain ⟨a, rfl⟩ := arrow_of_trod h2
      exact ⟨a, (World.cells?_some h1).2.2⟩
    by_cases h0 : len = 0
    · subst h0
      exact ⟨_, cap, [], rfl, Nat.zero_le _, hm, .inl rfl, fun h => by cases h⟩
    · obtain ⟨f, hf⟩ := @choose_lt Arr ⟨arr0⟩ cap (fun i a => ∀ j, j < 3 → W.cell? ((Addr.add ⟨b, off, sp⟩ (i * 3)).add j) = [Value.int .i64 a.f, .int .i64 a.e, .int .i64 a.t][j]?) hA
      have hn : sp = none := by
        have := World.cell?_spot (hf 0 (by omega) 0 (by omega))
        simpa [Addr.add] using this
      subst hn
      have hlen : ((List.range len).map f).length = len := by simp
      have hc : CellsA W b off ((List.range len).map f) := fun j hj => by
        rw [hlen] at hj
        have e : ((List.range len).map f)[j]?.getD arr0 = f j := by simp [List.getElem?_map, List.getElem?_range hj]
        have h0' := hf j (by omega) 0 (by omega)
        have h1' := hf j (by omega) 1 (by omega)
        have h2' := hf j (by omega) 2 (by omega)
        rw [e]
        rw [addr_add, addr_add] at h0' h1' h2'
        exact ⟨h0', h1', h2'⟩
      refine ⟨_, cap, (List.range len).map f, by rw [hlen], by rw [hlen]; exact hl, hm, .inr ⟨b, off, rfl, ?_, hc⟩, fun h => by cases h⟩
      have := (hc 0 (by rw [hlen]; omega)).1
      exact World.block_lt_of_cell? W ⟨b, off + 0 * 3, none⟩ this

theorem array5 {α : Type} {cs : Array α} (h : cs.size = 5) : ∃ c0 c1 c2 c3 c4, cs = #[c0, c1, c2, c3, c4] := by
  obtain ⟨l⟩ := cs
  match l, h with
  | [c0, c1, c2, c3, c4], _ => exact ⟨c0, c1, c2, c3, c4, rfl⟩

theorem mach_of_cells {fuel : Nat} {c0 c1 c2 c3 c4 : Value} {x : DataW H × List MemPlace} (h : DataW.trod enc Tryd.prog W 0 (fun _ => true) true fuel 25 [c0, c1, c2, c3, c4] = some x) : ∃ m l, Value.agg #[c0, c1, c2, c3, c4] = mval m l ∧ MAt W m l := by
  obtain ⟨xs, n, _, _, _, hlen, hf⟩ := DataW.trod_struct Tryd.underlying25 h
  have hlen5 : xs.length = 5 := hlen
  match xs, hlen5 with
  | [y0, y1, y2, y3, y4], _ =>
    have i1 : Tryd.prog.cellsOf 3 = 1 := by kernel_rfl
    have i2 : Tryd.prog.cellsOf 22 = 1 := by kernel_rfl
    have i3 : Tryd.prog.cellsOf 23 = 1 := by kernel_rfl
    have h0 := hf 0 { name := "States", type := 3, offset := 0, embedded := false, tag := "", pkgPath := "", byteOffset := 0 } rfl
    have h1 := hf 1 { name := "Events", type := 3, offset := 1, embedded := false, tag := "", pkgPath := "", byteOffset := 8 } rfl
    have h2 := hf 2 { name := "Starts", type := 22, offset := 2, embedded := false, tag := "", pkgPath := "", byteOffset := 16 } rfl
    have h3 := hf 3 { name := "Arrows", type := 23, offset := 3, embedded := false, tag := "", pkgPath := "", byteOffset := 40 } rfl
    have h4 := hf 4 { name := "Ends", type := 22, offset := 4, embedded := false, tag := "", pkgPath := "", byteOffset := 64 } rfl
    dsimp only at h0 h1 h2 h3 h4
    simp only [i1, i2, i3, List.drop_succ_cons, List.drop_zero, List.take_succ_cons, List.take_zero, List.getElem?_cons_zero, List.getElem?_cons_succ] at h0 h1 h2 h3 h4
    obtain ⟨st, e0, _, _⟩ := DataW.trod_int Tryd.underlying3 h0
    obtain ⟨ev, e1, _, _⟩ := DataW.trod_int Tryd.underlying3 h1
    obtain ⟨a1, k1, starts, e2, s1, s2, s3, s4, s5⟩ := ints_of_trod h2
    obtain ⟨a2, k2, arrows, e3, r1, r2, r3, r4⟩ := arrows_of_trod h3
    obtain ⟨a3, k3, ends, e4, t1, t2, t3, t4, t5⟩ := ints_of_trod h4
    simp only [List.cons.injEq, and_true] at e0 e1 e2 e3 e4
    subst e0 e1 e2 e3 e4
    exact ⟨⟨st, ev, starts, arrows, ends⟩, ⟨a1, k1, a2, k2, a3, k3⟩, rfl, ⟨s3, r3, t3, s1, s2, s4, r1, r2, r4, t1, t2, t4⟩⟩

/-- A MACHINE THAT CAME IN. -/
theorem open_mach {base : Nat} {v : Value} {d : DataW H} {p : List MemPlace} (hv : Value.okWide Tryd.prog W .any base 25 v) (h : DataW.Trod enc Tryd.prog W 0 (fun _ => true) true 25 v d p) : ∃ m l, v = mval m l ∧ MAt W m l := by
  obtain ⟨cs, rfl, hsz⟩ := okWide_struct Tryd.underlying25 hv
  obtain ⟨c0, c1, c2, c3, c4, rfl⟩ := array5 (hsz.trans (by kernel_rfl))
  obtain ⟨fuel, hf⟩ := h
  exact mach_of_cells (by simpa [Value.cells] using hf)

/-- A SLICE OF INTEGERS THAT CAME IN. -/
theorem open_sl {base : Nat} {v : Value} {d : DataW H} {p : List MemPlace} (hv : Value.okWide Tryd.prog W .any base 22 v) (h : DataW.Trod enc Tryd.prog W 0 (fun _ => true) true 22 v d p) : ∃ a c xs, v = .slice a (List.length (α := Int) xs) c ∧ Sl W a c xs ∧ xs.length ≤ Rows.uptoBulk d := by
  obtain ⟨a, len, cap, rfl⟩ := okWide_slice Tryd.underlying22 hv
  obtain ⟨fuel, hf⟩ := h
  obtain ⟨a', c', xs, e, h1, h2, h3, h4, h5⟩ := ints_of_trod (by simpa [Value.cells] using hf)
  simp only [List.cons.injEq, and_true, Value.slice.injEq] at e
  obtain ⟨rfl, rfl, rfl⟩ := e
  exact ⟨a, cap, xs, rfl, ⟨h3, h1, h2, h4⟩, h5⟩
end

end Go.Proofs.YtcjcjaeaoianfaaDoor
