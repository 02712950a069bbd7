/-
  A machine that came in, opened: its value is a machine's, and its three slices lie in memory.
  How long a list of integers that comes in may be: what the reach of a call says.
  What is said of one block of memory: its cells.
  Plain: a search, level by level, of what words lead to; the least words. No program, no model.
  Plain mathematics of what can be come to along arrows: rounds over all arrows, till nothing comes more. No program, no model.
-/
import Derived.Test.YtdhgabpoaicjoaaDoorG03
import Derived.ProofKit
import Derived.OpenShut
import Derived.ShutString
import Derived.ChangeOld
import Derived.Below
import Derived.Deep.Slices
import Derived.Deep.Strs
import Derived.SizedLaws
import Derived.RangeFuncBox
namespace Go.Proofs.YtdhgabpoaicjoaaDoor
open Go.ChangeShapes Go.WideShapes Go.ChangeAt Go.RowKit Go.Deep
set_option linter.unusedVariables false
set_option maxRecDepth 100000

theorem addr_add (b off j : Nat) : (⟨b, off, none⟩ : Addr).add j = ⟨b, off + j, none⟩ := by unfold Addr.add; split <;> simp_all

theorem bulk_one {H : Type} (d : DataW H) : 1 ≤ Rows.uptoBulk d := by
  cases d with
  | lit l => cases l <;> simp [Rows.uptoBulk]
  | nil => simp [Rows.uptoBulk]
  | ptr d => simp [Rows.uptoBulk]
  | slice elems spare => simp [Rows.uptoBulk]
  | agg parts => simp [Rows.uptoBulk]
  | iface t d => simp [Rows.uptoBulk]
  | map entries => simp [Rows.uptoBulk]
  | held h => simp [Rows.uptoBulk]
theorem bulk_len {H : Type} (l : List (DataW H)) : l.length ≤ Rows.uptoBulkAll l := by
  induction l with
  | nil => simp [Rows.uptoBulkAll]
  | cons x r ih => have := bulk_one x; simp only [Rows.uptoBulkAll, List.length_cons]; omega
theorem bulk_slice {H : Type} (elems spare : List (DataW H)) : elems.length ≤ Rows.uptoBulk (.slice elems spare) := by
  have h1 := bulk_len elems
  simp only [Rows.uptoBulk]
  omega

/-- A slice of integers that came in. -/
structure Sl (w : World) (a : Option Addr) (c : Nat) (xs : List Int) : Prop where
  at_ : At w a xs
  le : xs.length ≤ c
  max : c ≤ maxLen
  nil : a = none → c = 0

theorem Sl.len {w : World} {a : Option Addr} {c : Nat} {xs : List Int} (h : Sl w a c xs) : xs.length ≤ maxLen := Nat.le_trans h.le h.max
theorem Sl.below {w w' : World} {a : Option Addr} {c : Nat} {xs : List Int} {B : Nat} (h : Sl w a c xs) (hb : Below B w w') (hB : w.heap.size ≤ B) : Sl w' a c xs := ⟨h.at_.below hb hB, h.le, h.max, h.nil⟩

section
variable {H : Type} {enc : TypeId × Value → H} {W : World}

theorem ints_of_trod {fuel : Nat} {cs : List Value} {x : DataW H × List MemPlace} (h : DataW.trod enc Tryd.prog W 0 (fun _ => true) true fuel 22 cs = some x) :
    ∃ a cap xs, cs = [.slice a (List.length (α := Int) xs) cap] ∧ xs.length ≤ cap ∧ cap ≤ maxLen ∧ At W a xs ∧ (a = none → cap = 0) ∧ xs.length ≤ Rows.uptoBulk x.1 := by
  rcases open_ints Tryd.underlying22 Tryd.underlying3 (by kernel_rfl) h with ⟨rfl, _⟩ | ⟨⟨b, off, sp⟩, len, cap, zs, rfl, _, hl, hm, hz, hx, hc, _⟩
  · exact ⟨none, 0, [], rfl, Nat.le_refl _, Nat.zero_le _, .inl rfl, fun _ => rfl, Nat.zero_le _⟩
  · simp only [if_true] at hz
    by_cases h0 : len = 0
    · subst h0
      exact ⟨_, cap, [], rfl, Nat.zero_le _, hm, .inl rfl, (fun h => by cases h), Nat.zero_le _⟩
    · have hn : sp = none := by simpa [Addr.add] using World.cell?_spot (hc 0 (by omega))
      subst hn
      have hlen : (zs.take len).length = len := by rw [List.length_take]; omega
      refine ⟨_, cap, zs.take len, by rw [hlen], by omega, hm, .inr ⟨b, off, rfl, ?_, fun j hj => ?_⟩, (fun h => by cases h), ?_⟩
      · exact World.block_lt_of_cell? W ⟨b, off, none⟩ (by simpa [Addr.add] using hc 0 (by omega))
      · have := hc j (by omega)
        rw [show (⟨b, off, none⟩ : Addr).add j = ⟨b, off + j, none⟩ from by simp [Addr.add]] at this
        rw [this]
        simp only [List.getD_eq_getElem?_getD]
        rw [List.getElem?_take_of_lt (by omega)]
      · rw [hx]
        have := bulk_slice (H := H) (lits .i64 (zs.take len)) (lits .i64 (zs.drop len))
        simp only [lits, List.length_map] at this
        exact this

theorem arrow_of_trod {fuel : Nat} {cs : List Value} {x : DataW H × List MemPlace} (h : DataW.trod enc Tryd.prog W 0 (fun _ => true) true fuel 61 cs = some x) :
    ∃ a : Arr, cs = [.int .i64 a.f, .int .i64 a.e, .int .i64 a.t] := by
  obtain ⟨y0, y1, y2, n, _, hl, h0, h1, h2⟩ := trod_struct3 Tryd.underlying61 h
  have hl3 : cs.length = 3 := hl.trans (by kernel_rfl)
  match cs, hl3 with
  | [c0, c1, c2], _ =>
    obtain ⟨n0, e0, _, _⟩ := DataW.trod_int Tryd.underlying3 h0
    obtain ⟨n1, e1, _, _⟩ := DataW.trod_int Tryd.underlying3 h1
    obtain ⟨n2, e2, _, _⟩ := DataW.trod_int Tryd.underlying3 h2
    rw [show Tryd.prog.cellsOf 3 = 1 by kernel_rfl] at e0 e1 e2
    simp at e0 e1 e2
    exact ⟨⟨n0, n1, n2⟩, by rw [e0, e1, e2]⟩

theorem arrows_of_trod {fuel : Nat} {cs : List Value} {x : DataW H × List MemPlace} (h : DataW.trod enc Tryd.prog W 0 (fun _ => true) true fuel 23 cs = some x) :
    ∃ a cap ars, cs = [.slice a (List.length (α := Arr) ars) cap] ∧ ars.length ≤ cap ∧ cap ≤ maxLen ∧ AtA W a ars ∧ (a = none → cap = 0) := by
  rcases open_slice Tryd.underlying23 h with ⟨rfl, _⟩ | ⟨⟨b, off, sp⟩, len, cap, m, n, D, Pl, rfl, _, hl, hm, hmm, _, hx⟩
  · exact ⟨none, 0, [], rfl, Nat.le_refl _, Nat.zero_le _, .inl rfl, fun _ => rfl⟩
  · simp only [if_true] at hmm
    rw [hmm] at hx
    have hsz : Tryd.prog.cellsOf 61 = 3 := by kernel_rfl
    rw [hsz] at hx
    have hA : ∀ i, i < cap → ∃ a : Arr, ∀ j, j < 3 → W.cell? ((Addr.add ⟨b, off, sp⟩ (i * 3)).add j) = [Value.int .i64 a.f, .int .i64 a.e, .int .i64 a.t][j]? := by
      intro i hi
      obtain ⟨cs', h1, h2⟩ := hx i hi
      obtain ⟨a, rfl⟩ := arrow_of_trod h2
      exact ⟨a, (World.cells?_some h1).2.2⟩
    by_cases h0 : len = 0
    · subst h0
      exact ⟨_, cap, [], rfl, Nat.zero_le _, hm, .inl rfl, fun h => by cases h⟩
    · obtain ⟨f, hf⟩ := @choose_lt Arr ⟨arr0⟩ cap (fun i a => ∀ j, j < 3 → W.cell? ((Addr.add ⟨b, off, sp⟩ (i * 3)).add j) = [Value.int .i64 a.f, .int .i64 a.e, .int .i64 a.t][j]?) hA
      have hn : sp = none := by
        have := World.cell?_spot (hf 0 (by omega) 0 (by omega))
        simpa [Addr.add] using this
      subst hn
      have hlen : ((List.range len).map f).length = len := by simp
      have hc : CellsA W b off ((List.range len).map f) := fun j hj => by
        rw [hlen] at hj
        have e : ((List.range len).map f)[j]?.getD arr0 = f j := by simp [List.getElem?_map, List.getElem?_range hj]
        have h0' := hf j (by omega) 0 (by omega)
        have h1' := hf j (by omega) 1 (by omega)
        have h2' := hf j (by omega) 2 (by omega)
        rw [e]
        rw [addr_add, addr_add] at h0' h1' h2'
        exact ⟨h0', h1', h2'⟩
      refine ⟨_, cap, (List.range len).map f, by rw [hlen], by rw [hlen]; exact hl, hm, .inr ⟨b, off, rfl, ?_, hc⟩, fun h => by cases h⟩
      have := (hc 0 (by rw [hlen]; omega)).1
      exact World.block_lt_of_cell? W ⟨b, off + 0 * 3, none⟩ this

theorem array5 {α : Type} {cs : Array α} (h : cs.size = 5) : ∃ c0 c1 c2 c3 c4, cs = #[c0, c1, c2, c3, c4] := by
  obtain ⟨l⟩ := cs
  match l, h with
  | [c0, c1, c2, c3, c4], _ => exact ⟨c0, c1, c2, c3, c4, rfl⟩

theorem mach_of_cells {fuel : Nat} {c0 c1 c2 c3 c4 : Value} {x : DataW H × List MemPlace} (h : DataW.trod enc Tryd.prog W 0 (fun _ => true) true fuel 25 [c0, c1, c2, c3, c4] = some x) : ∃ m l, Value.agg #[c0, c1, c2, c3, c4] = mval m l ∧ MAt W m l := by
  obtain ⟨xs, n, _, _, _, hlen, hf⟩ := DataW.trod_struct Tryd.underlying25 h
  have hlen5 : xs.length = 5 := hlen
  match xs, hlen5 with
  | [y0, y1, y2, y3, y4], _ =>
    have i1 : Tryd.prog.cellsOf 3 = 1 := by kernel_rfl
    have i2 : Tryd.prog.cellsOf 22 = 1 := by kernel_rfl
    have i3 : Tryd.prog.cellsOf 23 = 1 := by kernel_rfl
    have h0 := hf 0 { name := "States", type := 3, offset := 0, embedded := false, tag := "", pkgPath := "", byteOffset := 0 } rfl
    have h1 := hf 1 { name := "Events", type := 3, offset := 1, embedded := false, tag := "", pkgPath := "", byteOffset := 8 } rfl
    have h2 := hf 2 { name := "Starts", type := 22, offset := 2, embedded := false, tag := "", pkgPath := "", byteOffset := 16 } rfl
    have h3 := hf 3 { name := "Arrows", type := 23, offset := 3, embedded := false, tag := "", pkgPath := "", byteOffset := 40 } rfl
    have h4 := hf 4 { name := "Ends", type := 22, offset := 4, embedded := false, tag := "", pkgPath := "", byteOffset := 64 } rfl
    dsimp only at h0 h1 h2 h3 h4
    simp only [i1, i2, i3, List.drop_succ_cons, List.drop_zero, List.take_succ_cons, List.take_zero, List.getElem?_cons_zero, List.getElem?_cons_succ] at h0 h1 h2 h3 h4
    obtain ⟨st, e0, _, _⟩ := DataW.trod_int Tryd.underlying3 h0
    obtain ⟨ev, e1, _, _⟩ := DataW.trod_int Tryd.underlying3 h1
    obtain ⟨a1, k1, starts, e2, s1, s2, s3, s4, s5⟩ := ints_of_trod h2
    obtain ⟨a2, k2, arrows, e3, r1, r2, r3, r4⟩ := arrows_of_trod h3
    obtain ⟨a3, k3, ends, e4, t1, t2, t3, t4, t5⟩ := ints_of_trod h4
    simp only [List.cons.injEq, and_true] at e0 e1 e2 e3 e4
    subst e0 e1 e2 e3 e4
    exact ⟨⟨st, ev, starts, arrows, ends⟩, ⟨a1, k1, a2, k2, a3, k3⟩, rfl, ⟨s3, r3, t3, s1, s2, s4, r1, r2, r4, t1, t2, t4⟩⟩

/-- A MACHINE THAT CAME IN. -/
theorem open_mach {base : Nat} {v : Value} {d : DataW H} {p : List MemPlace} (hv : Value.okWide Tryd.prog W .any base 25 v) (h : DataW.Trod enc Tryd.prog W 0 (fun _ => true) true 25 v d p) : ∃ m l, v = mval m l ∧ MAt W m l := by
  obtain ⟨cs, rfl, hsz⟩ := okWide_struct Tryd.underlying25 hv
  obtain ⟨c0, c1, c2, c3, c4, rfl⟩ := array5 (hsz.trans (by kernel_rfl))
  obtain ⟨fuel, hf⟩ := h
  exact mach_of_cells (by simpa [Value.cells] using hf)

/-- A SLICE OF INTEGERS THAT CAME IN. -/
theorem open_sl {base : Nat} {v : Value} {d : DataW H} {p : List MemPlace} (hv : Value.okWide Tryd.prog W .any base 22 v) (h : DataW.Trod enc Tryd.prog W 0 (fun _ => true) true 22 v d p) : ∃ a c xs, v = .slice a (List.length (α := Int) xs) c ∧ Sl W a c xs ∧ xs.length ≤ Rows.uptoBulk d := by
  obtain ⟨a, len, cap, rfl⟩ := okWide_slice Tryd.underlying22 hv
  obtain ⟨fuel, hf⟩ := h
  obtain ⟨a', c', xs, e, h1, h2, h3, h4, h5⟩ := ints_of_trod (by simpa [Value.cells] using hf)
  simp only [List.cons.injEq, and_true, Value.slice.injEq] at e
  obtain ⟨rfl, rfl, rfl⟩ := e
  exact ⟨a, cap, xs, rfl, ⟨h3, h1, h2, h4⟩, h5⟩
end

end Go.Proofs.YtdhgabpoaicjoaaDoor
namespace Go.Proofs.YtdhgabpoaicjoaaDoor
open Go.ChangeShapes Go.WideShapes Go.ChangeAt Go.RowKit Go.Deep
set_option linter.unusedVariables false
set_option maxRecDepth 100000

theorem bytesInt : Tryd.prog.bytesOf 3 = 8 := by kernel_rfl
theorem len_sized {H : Type} {enc : TypeId × Value → H} {W : World} {ts : List TypeId} {ds : List (DataW H)} {j len c : Nat} {a : Option Addr} {d : DataW H} {p : List MemPlace} (hz : (DataW.weightsEach Tryd.prog ts ds).all (· ≤ reachBytes) = true) (ht : ts[j]? = some 22) (hd : ds[j]? = some d) (h : DataW.Trod enc Tryd.prog W 0 (fun _ => true) true 22 (.slice a len c) d p) : len ≤ 17592186044416 := by
  obtain ⟨fuel, hf⟩ := h
  have hf : DataW.trod enc Tryd.prog W 0 (fun _ => true) true fuel 22 [.slice a len c] = some (d, p) := by simpa [Value.cells] using hf
  rcases open_ints Tryd.underlying22 Tryd.underlying3 (by kernel_rfl) hf with ⟨e, _⟩ | ⟨a', len', cap', zs, e, _, hl, hm, hzs, hx, hc, _⟩
  · simp only [List.cons.injEq, and_true, Value.slice.injEq] at e
    omega
  · simp only [List.cons.injEq, and_true, Value.slice.injEq] at e
    obtain ⟨-, rfl, -⟩ := e
    simp only [if_true] at hzs
    have hdx : d = .slice (lits .i64 (zs.take len)) (lits .i64 (zs.drop len)) := congrArg Prod.fst hx
    rw [hdx] at hd
    have h1 := sized_slice hz ht hd Tryd.underlying22
    rw [bytesInt] at h1
    have h2 := reachBytes_lt
    simp only [lits, List.length_map, List.length_take] at h1
    omega

end Go.Proofs.YtdhgabpoaicjoaaDoor
namespace Go.Proofs.YtdhgabpoaicjoaaDoor
open Go.RowKit
set_option linter.unusedVariables false

/-- Block b is cells of type t, which hold cs. -/
def Blk (W : World) (b : Nat) (t : TypeId) (cs : Array Value) : Prop := W.heap[b]? = some (.cells cs t (0, 0))

theorem Blk.lt {W : World} {b : Nat} {t : TypeId} {cs : Array Value} (h : Blk W b t cs) : b < W.heap.size := (Array.getElem?_eq_some_iff.1 h).1
theorem Blk.cell {W : World} {b : Nat} {t : TypeId} {cs : Array Value} (h : Blk W b t cs) (j : Nat) {v : Value} (hv : cs[j]? = some v) : W.cell? ⟨b, j, none⟩ = some v := by simp [World.cell?, show W.heap[b]? = _ from h, hv]
theorem Blk.frozen {W : World} {b : Nat} {t : TypeId} {cs : Array Value} (h : Blk W b t cs) (j : Nat) : W.frozen? ⟨b, j, none⟩ = false := by simp [World.frozen?, show W.heap[b]? = _ from h]
theorem Blk.new (W : World) (t : TypeId) (cs : Array Value) : Blk (W.alloc (.cells cs t)) W.heap.size t cs := World.alloc_heap_new W _
theorem Blk.alloc {W : World} {b : Nat} {t : TypeId} {cs : Array Value} (h : Blk W b t cs) (o : Obj) : Blk (W.alloc o) b t cs := (Below.heap_alloc W o b h.lt).trans h
theorem Blk.below {W W' : World} {b B : Nat} {t : TypeId} {cs : Array Value} (h : Blk W b t cs) (hb : Below B W W') (hB : b < B) : Blk W' b t cs := (hb.block b hB).trans h
theorem Blk.other {W : World} {b b' j : Nat} {t : TypeId} {cs : Array Value} (h : Blk W b t cs) (hne : b ≠ b') (v : Value) : Blk (W.setCell ⟨b', j, none⟩ v) b t cs := (Below.heap_setCell W ⟨b', j, none⟩ v b hne).trans h
theorem Blk.set {W : World} {b : Nat} {t : TypeId} {cs : Array Value} (h : Blk W b t cs) (j : Nat) (v : Value) : Blk (W.setCell ⟨b, j, none⟩ v) b t (cs.setIfInBounds j v) := by
  obtain ⟨hlt, hk⟩ := Array.getElem?_eq_some_iff.1 h
  show (W.heap.modify b _)[b]? = _
  rw [Array.getElem?_eq_getElem (by rw [Array.size_modify]; exact hlt), Array.getElem_modify_self, hk]
  rfl
theorem Blk.drew {W : World} {b : Nat} {t : TypeId} {cs : Array Value} (h : Blk W b t cs) : Blk W.drew b t cs := h

theorem Hid.of {p : Prop} (h : p) : Hid p := h

end Go.Proofs.YtdhgabpoaicjoaaDoor
namespace Go.Proofs.YtdhgabpoaicjoaaDoor
open Go.RowKit
set_option linter.unusedVariables false
set_option linter.unusedSectionVars false

/-! Which of two lists is the lesser one (G1). -/
def lexB : List Int → List Int → Bool
  | x :: a, y :: b => if x = y then lexB a b else decide (x < y)
  | _, _ => false
def lessB (a b : List Int) : Bool := if a.length = b.length then lexB a b else decide (a.length < b.length)
theorem lexB_irrefl : ∀ a, lexB a a = false
  | [] => rfl
  | x :: a => by unfold lexB; rw [if_pos rfl]; exact lexB_irrefl a
theorem lexB_trans : ∀ {a b c : List Int}, lexB a b = true → lexB b c = true → lexB a c = true
  | [], _, _, h, _ => by simp [lexB] at h
  | _ :: _, [], _, h, _ => by simp [lexB] at h
  | _ :: _, _ :: _, [], _, h => by simp [lexB] at h
  | x :: a, y :: b, z :: c, h, k => by
    unfold lexB at h k ⊢
    by_cases e1 : x = y
    · rw [if_pos e1] at h
      by_cases e2 : y = z
      · rw [if_pos e2] at k
        rw [if_pos (e1.trans e2)]
        exact lexB_trans h k
      · rw [if_neg e2] at k
        rw [if_neg (by omega)]
        have := of_decide_eq_true k
        exact decide_eq_true (by omega)
    · rw [if_neg e1] at h
      have h := of_decide_eq_true h
      by_cases e2 : y = z
      · rw [if_neg (by omega)]
        exact decide_eq_true (by omega)
      · rw [if_neg e2] at k
        have k := of_decide_eq_true k
        rw [if_neg (by omega)]
        exact decide_eq_true (by omega)
theorem lexB_total : ∀ {a b : List Int}, a.length = b.length → a ≠ b → lexB a b = true ∨ lexB b a = true
  | [], [], _, h => absurd rfl h
  | [], _ :: _, h, _ => by simp at h
  | _ :: _, [], h, _ => by simp at h
  | x :: a, y :: b, hl, h => by
    unfold lexB
    by_cases e : x = y
    · subst e
      rw [if_pos rfl, if_pos rfl]
      exact lexB_total (by simpa using hl) (fun e => h (by rw [e]))
    · rw [if_neg e, if_neg (fun h => e h.symm)]
      by_cases h1 : x < y
      · exact .inl (decide_eq_true h1)
      · exact .inr (decide_eq_true (by omega))
theorem lexB_snoc : ∀ {a b : List Int} (x y : Int), a.length = b.length → lexB a b = true → lexB (a ++ [x]) (b ++ [y]) = true
  | [], _, _, _, _, h => by simp [lexB] at h
  | _ :: _, [], _, _, h, _ => by simp at h
  | u :: a, v :: b, x, y, hl, h => by
    rw [List.cons_append, List.cons_append]
    unfold lexB at h ⊢
    by_cases e : u = v
    · rw [if_pos e] at h ⊢
      exact lexB_snoc x y (by simpa using hl) h
    · rw [if_neg e] at h ⊢
      exact h
theorem lexB_last : ∀ (a : List Int) {x y : Int}, x < y → lexB (a ++ [x]) (a ++ [y]) = true
  | [], x, y, h => by
    show lexB [x] [y] = true
    unfold lexB; rw [if_neg (by omega)]; exact decide_eq_true h
  | u :: a, x, y, h => by
    rw [List.cons_append, List.cons_append]
    unfold lexB
    rw [if_pos rfl]
    exact lexB_last a h
theorem lessB_irrefl (a : List Int) : lessB a a = false := by unfold lessB; rw [if_pos rfl]; exact lexB_irrefl a
theorem lessB_len {a b : List Int} (h : lessB a b = true) : a.length ≤ b.length := by
  unfold lessB at h
  by_cases e : a.length = b.length
  · omega
  · rw [if_neg e] at h
    have := of_decide_eq_true h; omega
theorem lessB_trans {a b c : List Int} (h : lessB a b = true) (k : lessB b c = true) : lessB a c = true := by
  have l1 := lessB_len h
  have l2 := lessB_len k
  unfold lessB at h k ⊢
  by_cases e1 : a.length = b.length
  · rw [if_pos e1] at h
    by_cases e2 : b.length = c.length
    · rw [if_pos e2] at k
      rw [if_pos (e1.trans e2)]
      exact lexB_trans h k
    · rw [if_neg (by omega)]
      exact decide_eq_true (by omega)
  · rw [if_neg (by omega)]
    exact decide_eq_true (by omega)
theorem lessB_total {a b : List Int} (h : a ≠ b) : lessB a b = true ∨ lessB b a = true := by
  unfold lessB
  by_cases e : a.length = b.length
  · rw [if_pos e, if_pos e.symm]
    exact lexB_total e h
  · rw [if_neg e, if_neg (fun h => e h.symm)]
    by_cases h1 : a.length < b.length
    · exact .inl (decide_eq_true h1)
    · exact .inr (decide_eq_true (by omega))
theorem lessB_snoc {a b : List Int} (x y : Int) (h : lessB a b = true) : lessB (a ++ [x]) (b ++ [y]) = true := by
  have l1 := lessB_len h
  unfold lessB at h ⊢
  simp only [List.length_append, List.length_cons, List.length_nil]
  by_cases e : a.length = b.length
  · rw [if_pos e] at h
    rw [if_pos (by omega)]
    exact lexB_snoc x y e h
  · rw [if_neg (by omega)]
    exact decide_eq_true (by omega)
theorem lessB_last (a : List Int) {x y : Int} (h : x < y) : lessB (a ++ [x]) (a ++ [y]) = true := by
  unfold lessB; rw [if_pos (by simp)]; exact lexB_last a h
theorem lessB_more (a : List Int) (x : Int) : lessB a (a ++ [x]) = true := by
  unfold lessB; rw [if_neg (by simp)]; exact decide_eq_true (by simp)
/-- Lesser, or the same. -/
def leW (a b : List Int) : Prop := a = b ∨ lessB a b = true
theorem leW_refl (a : List Int) : leW a a := .inl rfl
theorem leW_trans {a b c : List Int} (h : leW a b) (k : leW b c) : leW a c := by
  rcases h with rfl | h
  · exact k
  · rcases k with rfl | k
    · exact .inr h
    · exact .inr (lessB_trans h k)
theorem leW_snoc {a b : List Int} (x : Int) (h : leW a b) : leW (a ++ [x]) (b ++ [x]) := by
  rcases h with rfl | h
  · exact .inl rfl
  · exact .inr (lessB_snoc x x h)
theorem leW_not {a b : List Int} (h : leW a b) : lessB b a = false := by
  cases hk : lessB b a with
  | false => rfl
  | true =>
    rcases h with rfl | h
    · rw [lessB_irrefl] at hk; cases hk
    · have := lessB_trans h hk; rw [lessB_irrefl] at this; cases this
theorem nil_le (a : List Int) : leW [] a := by
  cases a with
  | nil => exact .inl rfl
  | cons x r => exact .inr (by unfold lessB; rw [if_neg (by simp)]; exact decide_eq_true (by simp))

/-! The search. -/
section
variable {σ : Type} [DecidableEq σ] (δ : σ → Nat → σ)
def runF (s : σ) (u : List Int) : σ := u.foldl (fun s e => δ s e.toNat) s
theorem runF_snoc (s : σ) (u : List Int) (e : Int) : runF δ s (u ++ [e]) = δ (runF δ s u) e.toNat := by simp [runF, List.foldl_append]
/-- Is a place among some? -/
def knownB (l : List (σ × List Int)) (s : σ) : Bool := l.any fun p => decide (p.1 = s)
theorem knownB_iff (l : List (σ × List Int)) (s : σ) : knownB l s = true ↔ ∃ p ∈ l, p.1 = s := by simp [knownB]
/-- One event more, from place x. -/
def bfStep (x : σ × List Int) (l : List (σ × List Int)) (e : Nat) : List (σ × List Int) := if knownB l (δ x.1 e) = true then l else l ++ [(δ x.1 e, x.2 ++ [(e : Int)])]
def bfRow (x : σ × List Int) (l : List (σ × List Int)) (n : Nat) : List (σ × List Int) := (List.range n).foldl (bfStep δ x) l
theorem bfRow_succ (x : σ × List Int) (l : List (σ × List Int)) (n : Nat) : bfRow δ x l (n + 1) = bfStep δ x (bfRow δ x l n) n := by
  unfold bfRow; rw [List.range_succ, List.foldl_append]; rfl
def bfGo (ev : Nat) : Nat → Nat → List (σ × List Int) → List (σ × List Int)
  | 0, _, l => l
  | f + 1, k, l => match l[k]? with
    | none => l
    | some x => bfGo ev f (k + 1) (bfRow δ x l ev)
theorem bfStep_pre (x : σ × List Int) (l : List (σ × List Int)) (e : Nat) : ∃ t, bfStep δ x l e = l ++ t := by
  unfold bfStep; split
  · exact ⟨[], by simp⟩
  · exact ⟨_, rfl⟩
theorem bfRow_pre (x : σ × List Int) (l : List (σ × List Int)) : ∀ n, ∃ t, bfRow δ x l n = l ++ t
  | 0 => ⟨[], by simp [bfRow]⟩
  | n + 1 => by
    obtain ⟨t, h⟩ := bfRow_pre x l n
    obtain ⟨u, h'⟩ := bfStep_pre δ x (bfRow δ x l n) n
    exact ⟨t ++ u, by rw [bfRow_succ, h', h, List.append_assoc]⟩
theorem bfGo_pre (ev : Nat) : ∀ (f k : Nat) (l : List (σ × List Int)), ∃ t, bfGo δ ev f k l = l ++ t
  | 0, k, l => ⟨[], by simp [bfGo]⟩
  | f + 1, k, l => by
    unfold bfGo
    cases l[k]? with
    | none => exact ⟨[], by simp⟩
    | some x =>
      obtain ⟨t, h⟩ := bfRow_pre δ x l ev
      obtain ⟨u, h'⟩ := bfGo_pre ev f (k + 1) (bfRow δ x l ev)
      exact ⟨t ++ u, by show bfGo δ ev f (k + 1) (bfRow δ x l ev) = _; rw [h', h, List.append_assoc]⟩

/-- What holds when all events of the first k places, and the first n of the place k, have been gone on from. -/
structure BI (s0 : σ) (ev k n : Nat) (l : List (σ × List Int)) : Prop where
  nd : (l.map (·.1)).Nodup
  hd : l[0]? = some (s0, [])
  run : ∀ p ∈ l, p.1 = runF δ s0 p.2 ∧ ∀ e ∈ p.2, 0 ≤ e ∧ e < (ev : Int)
  inc : l.Pairwise (fun p q => lessB p.2 q.2 = true)
  cl : ∀ (i : Nat) (x : σ × List Int), l[i]? = some x → ∀ e : Nat, e < ev → (i < k ∨ (i = k ∧ e < n)) → ∃ y ∈ l, y.1 = δ x.1 e ∧ leW y.2 (x.2 ++ [(e : Int)])
  top : ∀ p ∈ l, p.2 = [] ∨ ∃ (i : Nat) (x : σ × List Int) (e : Nat), l[i]? = some x ∧ p.2 = x.2 ++ [(e : Int)] ∧ (i < k ∨ (i = k ∧ e < n))
theorem bi_start (s0 : σ) (ev : Nat) : BI δ s0 ev 0 0 [(s0, [])] := by
  refine ⟨by simp, rfl, fun p hp => ?_, by simp, fun i x hx e he h => by omega, fun p hp => ?_⟩
  · have : p = (s0, []) := by simpa using hp
    subst this; exact ⟨rfl, by simp⟩
  · have : p = (s0, []) := by simpa using hp
    subst this; exact .inl rfl
theorem bi_step {s0 : σ} {ev k n : Nat} {l : List (σ × List Int)} {x : σ × List Int} (h : BI δ s0 ev k n l) (hx : l[k]? = some x) (hn : n < ev) : BI δ s0 ev k (n + 1) (bfStep δ x l n) := by
  have hxm := List.mem_of_getElem? hx
  have hklt := (List.getElem?_eq_some_iff.1 hx).1
  -- every word so far is lesser than the new one
  have hless : ∀ p ∈ l, lessB p.2 (x.2 ++ [(n : Int)]) = true := by
    intro p hp
    rcases h.top p hp with h0 | ⟨i, y, e, hy, h1, h2⟩
    · rw [h0]
      rcases nil_le (x.2 ++ [(n : Int)]) with h3 | h3
      · have := congrArg List.length h3; simp at this
      · exact h3
    · rw [h1]
      rcases h2 with h2 | ⟨h2, h3⟩
      · have hlt := (List.getElem?_eq_some_iff.1 hy).1
        have := List.pairwise_iff_getElem.1 h.inc i k hlt hklt h2
        rw [(List.getElem?_eq_some_iff.1 hy).2, (List.getElem?_eq_some_iff.1 hx).2] at this
        exact lessB_snoc _ _ this
      · subst h2
        rw [hx] at hy
        have := Option.some.inj hy
        subst this
        exact lessB_last _ (by omega)
  by_cases hk : knownB l (δ x.1 n) = true
  · have e : bfStep δ x l n = l := by unfold bfStep; rw [if_pos hk]
    rw [e]
    refine ⟨h.nd, h.hd, h.run, h.inc, fun i y hy e he hi => ?_, fun p hp => ?_⟩
    · by_cases h1 : i < k ∨ (i = k ∧ e < n)
      · exact h.cl i y hy e he h1
      · have hik : i = k := by omega
        have hen : e = n := by omega
        subst hik; subst hen
        rw [hx] at hy
        have := Option.some.inj hy
        subst this
        obtain ⟨q, hq, e1⟩ := (knownB_iff _ _).1 hk
        exact ⟨q, hq, e1, .inr (hless q hq)⟩
    · rcases h.top p hp with h0 | ⟨i, y, e, hy, h1, h2⟩
      · exact .inl h0
      · exact .inr ⟨i, y, e, hy, h1, by omega⟩
  · have e : bfStep δ x l n = l ++ [(δ x.1 n, x.2 ++ [(n : Int)])] := by unfold bfStep; rw [if_neg hk]
    rw [e]
    have hx2 := h.run x hxm
    refine ⟨?_, ?_, ?_, ?_, ?_, ?_⟩
    · rw [List.map_append, List.nodup_append]
      refine ⟨h.nd, by simp, fun a ha b hb e => ?_⟩
      have hb : b = δ x.1 n := by simpa using hb
      subst hb; subst e
      obtain ⟨q, hq, e1⟩ := List.mem_map.1 ha
      exact hk ((knownB_iff _ _).2 ⟨q, hq, e1⟩)
    · rw [List.getElem?_append_left (List.getElem?_eq_some_iff.1 h.hd).1]; exact h.hd
    · intro p hp
      rcases List.mem_append.1 hp with hp | hp
      · exact h.run p hp
      · have : p = (δ x.1 n, x.2 ++ [(n : Int)]) := by simpa using hp
        subst this
        refine ⟨by rw [runF_snoc, ← hx2.1]; simp, fun e he => ?_⟩
        rcases List.mem_append.1 he with he | he
        · exact hx2.2 e he
        · have : e = (n : Int) := by simpa using he
          omega
    · rw [List.pairwise_append]
      refine ⟨h.inc, by simp, fun p hp q hq => ?_⟩
      have : q = (δ x.1 n, x.2 ++ [(n : Int)]) := by simpa using hq
      subst this
      exact hless p hp
    · intro i y hy e he hi
      have hil : i < l.length := by rcases hi with hi | hi <;> omega
      rw [List.getElem?_append_left hil] at hy
      by_cases h1 : i < k ∨ (i = k ∧ e < n)
      · obtain ⟨q, hq, e1, e2⟩ := h.cl i y hy e he h1
        exact ⟨q, List.mem_append_left _ hq, e1, e2⟩
      · have hik : i = k := by omega
        have hen : n = e := by omega
        subst hik; subst hen
        rw [hx] at hy
        have := Option.some.inj hy
        subst this
        exact ⟨(δ x.1 n, x.2 ++ [(n : Int)]), List.mem_append_right _ (by simp), rfl, leW_refl _⟩
    · intro p hp
      have hlk : ∀ (i : Nat) (y : σ × List Int), l[i]? = some y → (l ++ [(δ x.1 n, x.2 ++ [(n : Int)])])[i]? = some y := fun i y hy => by
        rw [List.getElem?_append_left (List.getElem?_eq_some_iff.1 hy).1]; exact hy
      rcases List.mem_append.1 hp with hp | hp
      · rcases h.top p hp with h0 | ⟨i, y, e, hy, h1, h2⟩
        · exact .inl h0
        · exact .inr ⟨i, y, e, hlk i y hy, h1, by omega⟩
      · have : p = (δ x.1 n, x.2 ++ [(n : Int)]) := by simpa using hp
        subst this
        exact .inr ⟨k, x, n, hlk k x hx, rfl, .inr ⟨rfl, by omega⟩⟩
theorem bi_row {s0 : σ} {ev k : Nat} {l : List (σ × List Int)} {x : σ × List Int} (h : BI δ s0 ev k 0 l) (hx : l[k]? = some x) : ∀ n, n ≤ ev → BI δ s0 ev k n (bfRow δ x l n)
  | 0, _ => h
  | n + 1, hn => by
    rw [bfRow_succ]
    obtain ⟨t, ht⟩ := bfRow_pre δ x l n
    exact bi_step δ (bi_row h hx n (by omega)) (by rw [ht, List.getElem?_append_left (List.getElem?_eq_some_iff.1 hx).1]; exact hx) (by omega)
theorem bi_next {s0 : σ} {ev k : Nat} {l : List (σ × List Int)} {x : σ × List Int} (h : BI δ s0 ev k 0 l) (hx : l[k]? = some x) : BI δ s0 ev (k + 1) 0 (bfRow δ x l ev) := by
  have h' := bi_row δ h hx ev (Nat.le_refl _)
  refine ⟨h'.nd, h'.hd, h'.run, h'.inc, fun i y hy e he hi => h'.cl i y hy e he (by omega), fun p hp => ?_⟩
  rcases h'.top p hp with h0 | ⟨i, y, e, hy, h1, h2⟩
  · exact .inl h0
  · exact .inr ⟨i, y, e, hy, h1, by omega⟩
/-- Where all places have been gone on from, each word's place is there, with a word that is no greater. -/
theorem bi_all {s0 : σ} {ev : Nat} {l : List (σ × List Int)} (h : BI δ s0 ev l.length 0 l) : ∀ (u : List Int), (∀ e ∈ u, 0 ≤ e ∧ e < (ev : Int)) → ∃ p ∈ l, p.1 = runF δ s0 u ∧ leW p.2 u := by
  have key : ∀ (n : Nat) (u : List Int), u.length = n → (∀ e ∈ u, 0 ≤ e ∧ e < (ev : Int)) → ∃ p ∈ l, p.1 = runF δ s0 u ∧ leW p.2 u := by
    intro n
    induction n with
    | zero =>
      intro u hu _
      have : u = [] := List.eq_nil_of_length_eq_zero hu
      subst this
      exact ⟨_, List.mem_of_getElem? h.hd, rfl, leW_refl _⟩
    | succ n ih =>
      intro u hu hb
      have hne : u ≠ [] := fun e => by rw [e] at hu; simp at hu
      have hsp := (List.dropLast_concat_getLast hne).symm
      obtain ⟨v, z, e⟩ : ∃ v z, u = v ++ [z] := ⟨_, _, hsp⟩
      subst e
      have hv : v.length = n := by simpa using hu
      obtain ⟨p, hp, e1, e2⟩ := ih v hv (fun y hy => hb y (by simp [hy]))
      have hz := hb z (by simp)
      obtain ⟨i, hi⟩ := List.mem_iff_getElem?.1 hp
      obtain ⟨q, hq, e3, e4⟩ := h.cl i p hi z.toNat (by omega) (.inl (List.getElem?_eq_some_iff.1 hi).1)
      refine ⟨q, hq, by rw [e3, e1, runF_snoc], ?_⟩
      have hc : ((z.toNat : Nat) : Int) = z := by omega
      rw [hc] at e4
      exact leW_trans e4 (leW_snoc z e2)
  exact fun u hb => key u.length u rfl hb
end

end Go.Proofs.YtdhgabpoaicjoaaDoor
namespace Go.Proofs.YtdhgabpoaicjoaaDoor
open Go.RowKit
set_option linter.unusedVariables false

/-- One arrow gone along: what it leads to, if it leads from what is there and is not there yet. -/
def along (fr to : Arr → Int) (l : List Int) (a : Arr) : List Int := if (hasB l (fr a) && !hasB l (to a)) = true then l ++ [to a] else l
/-- One round over the arrows. -/
def sweep (fr to : Arr → Int) (ars : List Arr) (l : List Int) : List Int := ars.foldl (along fr to) l
/-- At most k rounds, till nothing comes more. -/
def closeN (fr to : Arr → Int) (ars : List Arr) : Nat → List Int → List Int
  | 0, l => l
  | k + 1, l => if (sweep fr to ars l).length = l.length then sweep fr to ars l else closeN fr to ars k (sweep fr to ars l)

/-- What can be come to. -/
structure Come (fr to : Arr → Int) (ars : List Arr) (l0 : List Int) (P : Int → Prop) : Prop where
  start : ∀ x ∈ l0, P x
  step : ∀ a ∈ ars, P (fr a) → P (to a)
/-- .. from l0: in whatever holds l0 and is closed. -/
def Rch (fr to : Arr → Int) (ars : List Arr) (l0 : List Int) (x : Int) : Prop := ∀ P : Int → Prop, Come fr to ars l0 P → P x

theorem rch_start {fr to : Arr → Int} {ars : List Arr} {l0 : List Int} {x : Int} (h : x ∈ l0) : Rch fr to ars l0 x := fun _ hP => hP.start x h
theorem rch_step {fr to : Arr → Int} {ars : List Arr} {l0 : List Int} {a : Arr} (ha : a ∈ ars) (h : Rch fr to ars l0 (fr a)) : Rch fr to ars l0 (to a) := fun P hP => hP.step a ha (h P hP)

theorem hasB_iff (l : List Int) (x : Int) : hasB l x = true ↔ x ∈ l := by simp [hasB]
theorem along_sub {fr to : Arr → Int} {l : List Int} {a : Arr} : ∀ x ∈ l, x ∈ along fr to l a := fun x hx => by
  unfold along; split
  · exact List.mem_append_left _ hx
  · exact hx
theorem along_len {fr to : Arr → Int} (l : List Int) (a : Arr) : l.length ≤ (along fr to l a).length ∧ (along fr to l a).length ≤ l.length + 1 := by
  unfold along; split
  · simp
  · simp
theorem sweep_sub {fr to : Arr → Int} : ∀ {ars : List Arr} {l : List Int}, ∀ x ∈ l, x ∈ sweep fr to ars l
  | [], _, _, h => h
  | a :: r, l, x, h => sweep_sub (ars := r) (l := along fr to l a) x (along_sub x h)
theorem sweep_le {fr to : Arr → Int} : ∀ (ars : List Arr) (l : List Int), l.length ≤ (sweep fr to ars l).length
  | [], _ => Nat.le_refl _
  | a :: r, l => Nat.le_trans (along_len l a).1 (sweep_le r _)
theorem sweep_le2 {fr to : Arr → Int} : ∀ (ars : List Arr) (l : List Int), (sweep fr to ars l).length ≤ l.length + ars.length
  | [], _ => Nat.le_refl _
  | a :: r, l => by
    have h1 := (along_len (fr := fr) (to := to) l a).2
    have h2 := sweep_le2 (fr := fr) (to := to) r (along fr to l a)
    show (sweep fr to r (along fr to l a)).length ≤ _
    simp only [List.length_cons]; omega
/-- If no round brings more, nothing can be gone along. -/
theorem sweep_closed {fr to : Arr → Int} : ∀ {ars : List Arr} {l : List Int}, (sweep fr to ars l).length = l.length → sweep fr to ars l = l ∧ ∀ a ∈ ars, fr a ∈ l → to a ∈ l
  | [], l, _ => ⟨rfl, by simp⟩
  | a :: r, l, h => by
    have h1 := (along_len (fr := fr) (to := to) l a).1
    have h2 := sweep_le (fr := fr) (to := to) r (along fr to l a)
    have h3 : (sweep fr to r (along fr to l a)).length = l.length := h
    have e : (along fr to l a).length = l.length := by omega
    have hn : ¬ (hasB l (fr a) && !hasB l (to a)) = true := fun hc => by
      unfold along at e; rw [if_pos hc] at e; simp at e
    have ea : along fr to l a = l := by unfold along; rw [if_neg hn]
    rw [ea] at h3
    obtain ⟨k1, k2⟩ := sweep_closed (ars := r) (l := l) h3
    refine ⟨by show sweep fr to r (along fr to l a) = l; rw [ea]; exact k1, fun b hb => ?_⟩
    rcases List.mem_cons.1 hb with rfl | hb
    · intro hf
      apply Classical.byContradiction
      intro ht
      apply hn
      rw [Bool.and_eq_true, hasB_iff]
      refine ⟨hf, ?_⟩
      cases h4 : hasB l (to b) with
      | false => rfl
      | true => exact absurd ((hasB_iff _ _).1 h4) ht
    · exact k2 b hb

theorem along_nodup {fr to : Arr → Int} {l : List Int} (h : l.Nodup) (a : Arr) : (along fr to l a).Nodup := by
  unfold along
  split
  · rename_i hc
    rw [Bool.and_eq_true] at hc
    have : to a ∉ l := fun hm => by have h1 := (hasB_iff l (to a)).2 hm; rw [h1] at hc; exact absurd hc.2 (by simp)
    rw [List.nodup_append]
    exact ⟨h, by simp, fun x hx y hy => by rw [List.mem_singleton.1 hy]; rintro rfl; exact this hx⟩
  · exact h
theorem sweep_nodup {fr to : Arr → Int} : ∀ {ars : List Arr} {l : List Int}, l.Nodup → (sweep fr to ars l).Nodup
  | [], _, h => h
  | a :: r, l, h => sweep_nodup (ars := r) (along_nodup h a)
theorem along_in {fr to : Arr → Int} {P : Int → Prop} {l : List Int} {a : Arr} (hl : ∀ x ∈ l, P x) (ha : P (fr a) → P (to a)) : ∀ x ∈ along fr to l a, P x := by
  unfold along
  split
  · rename_i hc
    rw [Bool.and_eq_true, hasB_iff] at hc
    intro x hx
    rcases List.mem_append.1 hx with hx | hx
    · exact hl x hx
    · rw [List.mem_singleton.1 hx]; exact ha (hl _ hc.1)
  · exact hl
theorem sweep_in {fr to : Arr → Int} {P : Int → Prop} : ∀ {ars : List Arr} {l : List Int}, (∀ x ∈ l, P x) → (∀ a ∈ ars, P (fr a) → P (to a)) → ∀ x ∈ sweep fr to ars l, P x
  | [], _, hl, _ => hl
  | a :: r, l, hl, ha => sweep_in (ars := r) (along_in hl (ha a (by simp))) (fun b hb => ha b (by simp [hb]))
theorem closeN_in {fr to : Arr → Int} {P : Int → Prop} {ars : List Arr} (ha : ∀ a ∈ ars, P (fr a) → P (to a)) : ∀ (k : Nat) {l : List Int}, (∀ x ∈ l, P x) → ∀ x ∈ closeN fr to ars k l, P x
  | 0, _, hl => hl
  | k + 1, l, hl => by
    unfold closeN
    split
    · exact sweep_in hl ha
    · exact closeN_in ha k (sweep_in hl ha)
theorem closeN_sub {fr to : Arr → Int} {ars : List Arr} : ∀ (k : Nat) {l : List Int}, ∀ x ∈ l, x ∈ closeN fr to ars k l
  | 0, _, _, h => h
  | k + 1, l, x, h => by
    unfold closeN
    split
    · exact sweep_sub x h
    · exact closeN_sub k x (sweep_sub x h)
theorem nodup_len : ∀ (n : Nat) (l : List Int), l.Nodup → (∀ x ∈ l, 0 ≤ x ∧ x < n) → l.length ≤ n := by
  intro n l hn hb
  have hs : srt l = (srt l) := rfl
  have hi := inc_srt l
  have hm : ∀ x ∈ srt l, 0 ≤ x ∧ x < n := fun x hx => hb x ((mem_srt x l).1 hx)
  have hlen : (srt l).length ≤ n := by
    have := goIs_len (n : Int) (srt l) (-1) (by omega) ((goIs_iff _ _ _).2 ⟨hi, fun x hx => by have := hm x hx; omega⟩)
    omega
  have hp : l.Perm (srt l) := (List.perm_ext_iff_of_nodup hn (hi.imp (fun h => by omega))).2 (fun x => (mem_srt x l).symm)
  rw [hp.length_eq]; exact hlen
/-- Enough rounds: what comes is closed. -/
theorem closeN_closed {fr to : Arr → Int} {ars : List Arr} {n : Nat} (hb : ∀ a ∈ ars, 0 ≤ to a ∧ to a < n) : ∀ (k : Nat) {l : List Int}, l.Nodup → (∀ x ∈ l, 0 ≤ x ∧ x < n) → (l = [] ∨ n < l.length + k) →
    ∀ a ∈ ars, fr a ∈ closeN fr to ars k l → to a ∈ closeN fr to ars k l
  | 0, l, hn, hl, hk => by
    intro a ha hf
    rcases hk with rfl | hk
    · simp [closeN] at hf
    · have := nodup_len n l hn hl; omega
  | k + 1, l, hn, hl, hk => by
    unfold closeN
    split
    · rename_i he
      obtain ⟨k1, k2⟩ := sweep_closed he
      rw [k1]; exact k2
    · rename_i he
      refine closeN_closed hb k (sweep_nodup hn) (sweep_in hl (fun a ha _ => hb a ha)) (.inr ?_)
      have h1 := sweep_le (fr := fr) (to := to) ars l
      rcases hk with rfl | hk
      · exfalso
        apply he
        have : ∀ (r : List Arr), sweep fr to r [] = [] := fun r => by
          induction r with
          | nil => rfl
          | cons a r ih => show sweep fr to r (along fr to [] a) = []; rw [show along fr to [] a = [] by simp [along, hasB]]; exact ih
        rw [this]
      · omega
theorem mem_close {fr to : Arr → Int} {ars : List Arr} {n : Nat} {l : List Int} (hb : ∀ a ∈ ars, 0 ≤ to a ∧ to a < n) (hn : l.Nodup) (hl : ∀ x ∈ l, 0 ≤ x ∧ x < n) (x : Int) : x ∈ closeN fr to ars n l ↔ Rch fr to ars l x := by
  constructor
  · exact fun h => closeN_in (fun a ha h => rch_step ha h) n (fun y hy => rch_start hy) x h
  · intro h
    refine h (fun y => y ∈ closeN fr to ars n l) ⟨fun y hy => closeN_sub n y hy, closeN_closed hb n hn hl ?_⟩
    cases l with
    | nil => exact .inl rfl
    | cons y r => right; simp only [List.length_cons]; omega

/-- Reach and Live, as the references answer them. -/
def reachL (m : Mach) : List Int := srt (closeN (·.f) (·.t) m.arrows m.st.toNat m.starts)
def liveL (m : Mach) : List Int := srt (closeN (·.t) (·.f) m.arrows m.st.toNat m.ends)

theorem inc_nodup {l : List Int} (h : Inc l) : l.Nodup := h.imp (fun h => by omega)

theorem sweep_take {fr to : Arr → Int} {ars : List Arr} {k : Nat} {a : Arr} {l : List Int} (h : k < ars.length) (ha : Hid (a = ars[k]?.getD arr0)) : sweep fr to (ars.take (k + 1)) l = along fr to (sweep fr to (ars.take k) l) a := by
  have ha := ha.out
  rw [List.getElem?_eq_getElem h, Option.getD_some] at ha
  unfold sweep
  rw [List.take_add_one, List.getElem?_eq_getElem h, List.foldl_append, ← ha]; rfl
theorem closeN_len {fr to : Arr → Int} {ars : List Arr} {c : Nat} (hc : ars.length ≤ c) : ∀ (k : Nat) (l : List Int), (closeN fr to ars k l).length ≤ l.length + k * c
  | 0, l => by simp [closeN]
  | k + 1, l => by
    unfold closeN
    have h1 := sweep_le2 (fr := fr) (to := to) ars l
    have h2 : (k + 1) * c = k * c + c := Nat.succ_mul k c
    split
    · omega
    · have := closeN_len (fr := fr) (to := to) hc k (sweep fr to ars l); omega

end Go.Proofs.YtdhgabpoaicjoaaDoor
