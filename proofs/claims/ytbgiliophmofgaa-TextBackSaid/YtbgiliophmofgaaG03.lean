/-
  Small facts on rows that a call has made: their blocks are apart by their types; a block that is another object.
  slices.Insert of one element into a row of the call's own, at lists of integers and of arrows.
  The walk of row.Is: it answers 'rowB n xs'.
  The walks of machine.within and of its closure.
  The walks of cmp.Compare, cmp.Or (at integers) and of machine.compare: which of two arrows stands ahead.
  The walk of machine.compare.
-/
import Derived.Test.YtbgiliophmofgaaG02
import Derived.Test.YtbgiliophmofgaaG01
import Derived.Laws.CopyRow
import Derived.Lib.Overlaps
import Derived.Lib.AppendZerosOnto
import Derived.Deep.RegionLaw
import Derived.Deep.QuietTactic
import Derived.BigQuiet
import Derived.Laws.EntriesVeiled
import Derived.Laws.Bits64b
import Derived.BigRegion
import Derived.Deep.RegionHeld3
namespace Go.Proofs.Ytbgiliophmofgaa
open Go.RowKit
set_option linter.unusedVariables false

theorem own_type {W : World} {B s n k : Nat} {e : TypeId} {v : Value} {xs : List Value} (h : W.ownsRow B e s v n xs) (hk : v.ownBlock = some k) : ∃ cs, W.heap[k]? = some (.cells cs e (0, 0)) := by
  rcases h.2 with ⟨rfl, -⟩ | ⟨g, cap, cur, rfl, hg, hh, -⟩
  · cases hk
  · cases hk; exact ⟨cur, hh⟩
theorem own_form2 {W : World} {B s n : Nat} {e : TypeId} {v : Value} {xs : List Value} (h : W.ownsRow B e s v n xs) : ∃ a c, v = .slice a n c ∧ n ≤ c ∧ c ≤ maxLen ∧ (a = none → c = 0) := by
  rcases h.2 with ⟨rfl, rfl⟩ | ⟨g, cap, cur, rfl, -, -, h1, h2, -⟩
  · exact ⟨none, 0, rfl, Nat.le_refl _, Nat.zero_le _, fun _ => rfl⟩
  · exact ⟨_, cap, rfl, h1, h2, fun h => by cases h⟩
theorem own_same {W W' : World} {B s n : Nat} {e : TypeId} {v : Value} {xs : List Value} (h : W.ownsRow B e s v n xs) (hb : ∀ k, v.ownBlock = some k → W'.heap[k]? = W.heap[k]?) : W'.ownsRow B e s v n xs := by
  refine ⟨h.1, ?_⟩
  rcases h.2 with hn | ⟨g, cap, cur, rfl, hg, hgg, rest⟩
  · exact .inl hn
  · exact .inr ⟨g, cap, cur, rfl, hg, (hb g rfl).trans hgg, rest⟩
theorem cells_three (W W' : World) (hW : W'.heap = W.heap) (t : TypeId) (x y z : Value) : ∀ j u, ([x, y, z] : List Value)[j]? = some u → (W'.alloc (.cells #[x, y, z] t)).cell? ((⟨W.heap.size, 0, none⟩ : Addr).add j) = some u := by
  intro j u hu
  rw [addr0_add, Nat.zero_add, ← hW]
  exact (Blk.new W' t #[x, y, z]).cell j (by rw [← Array.getElem?_toList]; exact hu)
end Go.Proofs.Ytbgiliophmofgaa
namespace Go.Proofs.Ytbgiliophmofgaa
open Go.RowKit
set_option linter.unusedVariables false

theorem run_copy_rowS {P : Program} (w : World) (dT sT ty elem : TypeId) (g o dLen dCap : Nat) (a : Addr) (sLen sCap : Nat) (cur : Array Value) (t : TypeId) (cs : List Value) (size m : Nat)
    (hu : P.underlying dT = some (.slice elem)) (hs : (P.info? elem).map (·.size) = some size)
    (hg : w.heap[g]? = some (.cells cur t (0, 0))) (hm : m = Nat.min sLen dLen) (hn : cs.length = m * size)
    (hsrc : ∀ j v, cs[j]? = some v → w.cell? (a.add j) = some v) (hfit : o + cs.length ≤ cur.size) (h1 : ∀ v ∈ cs, v.oneCell' = true) :
    (Builtin.copy_ #[dT, sT] ty #[.slice (some ⟨g, o, none⟩) dLen dCap, .slice (some a) sLen sCap]).run P w =
      .ok (goInt m) (w.setRow g (cur.toList.take o ++ cs ++ cur.toList.drop (o + cs.length)).toArray) := by
  have hl := run_loadCells_list (P := P) w a cs hsrc
  have hst := run_storeCells_at P g o t cs 0 cur w hg (by simpa using hfit) h1
  subst hm
  cases hq : P.info? elem with
  | none => simp [hq] at hs
  | some i =>
    have hi : i.size = size := by simpa [hq] using hs
    simp [Builtin.copy_, run_underlying hu, Builtin.lenOf, Builtin.firstCells, sizeOf, typeInfo, hq, hi, ← hn, hl, hst]
theorem setRow_heap_ne (w : World) (g q : Nat) (cs : Array Value) (h : q ≠ g) : (w.setRow g cs).heap[q]? = w.heap[q]? := by
  unfold World.setRow
  show (w.heap.modify g _)[q]? = _
  rw [Array.getElem?_modify, if_neg (Ne.symm h)]
theorem setRow_size (w : World) (g : Nat) (cs : Array Value) : (w.setRow g cs).heap.size = w.heap.size := by
  show (w.heap.modify g _).size = _
  rw [Array.size_modify]
/-- An element is set in. -/
def insAt (s k : Nat) (x xs : List Value) : List Value := xs.take (k * s) ++ x ++ xs.drop (k * s)
theorem grow_list (s a b k n : Nat) (r0 r1 r2 x xs Z : List Value) (ha : a = k * s) (hb : b = (k + 1) * s) (hl : xs.length = n * s) (hx : x.length = s) (hk : k < n) (h0 : r0 = xs.take (k * s) ++ Z) (hZ : s ≤ Z.length) (h1 : r1 = r0.take a ++ x ++ r0.drop (a + x.length)) (h2 : r2 = r1.take b ++ xs.drop (k * s) ++ r1.drop (b + (xs.drop (k * s)).length)) : r2.take ((n + 1) * s) = insAt s k x xs := by
  have e1 : (k + 1) * s = k * s + s := by rw [Nat.add_mul, Nat.one_mul]
  have e2 : (k + 1) * s ≤ n * s := Nat.mul_le_mul_right _ hk
  have e3 : (n + 1) * s = n * s + s := by rw [Nat.add_mul, Nat.one_mul]
  have htl : (xs.take (k * s)).length = k * s := by rw [List.length_take]; omega
  have hr1 : r1 = (xs.take (k * s) ++ x) ++ r0.drop (a + x.length) := by
    rw [h1, h0, ha, List.take_append_of_le_length (by omega), List.take_take, Nat.min_self]
  have hr2 : r2 = insAt s k x xs ++ r1.drop (b + (xs.drop (k * s)).length) := by
    rw [h2]
    congr 1
    unfold insAt
    rw [hr1, List.take_append_of_le_length (by rw [List.length_append, htl, hx, hb]; omega), List.take_of_length_le (by rw [List.length_append, htl, hx, hb]; omega)]
  have hil : (insAt s k x xs).length = (n + 1) * s := by
    unfold insAt
    simp only [List.length_append, htl, List.length_drop]
    omega
  rw [hr2, List.take_append_of_le_length (by omega), List.take_of_length_le (by omega)]
theorem insAt_len (s k n : Nat) (x xs : List Value) (hx : x.length = s) (hl : xs.length = n * s) (hk : k ≤ n) : (insAt s k x xs).length = (n + 1) * s := by
  have h1 : k * s ≤ n * s := Nat.mul_le_mul_right _ hk
  have h3 : (n + 1) * s = n * s + s := by rw [Nat.add_mul, Nat.one_mul]
  unfold insAt
  simp only [List.length_append, List.length_take, List.length_drop]
  omega
theorem ins_list (s : Nat) (c xs x : List Value) (n k : Nat) (ht : c.take (n * s) = xs) (hl : xs.length = n * s) (hx : x.length = 1 * s) (hc : (n + 1) * s ≤ c.length) (hk : k < n) :
    (c.take ((k + 1) * s) ++ xs.drop (k * s) ++ c.drop ((n + 1) * s)).take (k * s) ++ x ++ (c.take ((k + 1) * s) ++ xs.drop (k * s) ++ c.drop ((n + 1) * s)).drop (k * s + 1 * s) = insAt s k x xs ++ c.drop ((n + 1) * s) := by
  have h1 : (k + 1) * s = k * s + s := by rw [Nat.add_mul, Nat.one_mul]
  have h2 : (k + 1) * s ≤ n * s := Nat.mul_le_mul_right _ hk
  have h3 : (n + 1) * s = n * s + s := by rw [Nat.add_mul, Nat.one_mul]
  have hcl : (c.take ((k + 1) * s)).length = k * s + s := by rw [List.length_take]; omega
  have e : c.take ((k + 1) * s) ++ xs.drop (k * s) ++ c.drop ((n + 1) * s) = c.take ((k + 1) * s) ++ (xs.drop (k * s) ++ c.drop ((n + 1) * s)) := List.append_assoc _ _ _
  rw [e, List.take_append_of_le_length (by omega), List.take_take, Nat.min_eq_left (by omega), Nat.one_mul, List.drop_append, List.drop_of_length_le (by omega), List.nil_append, hcl, Nat.sub_self, List.drop_zero]
  unfold insAt
  rw [← ht, List.take_take, Nat.min_eq_left (by omega)]
  simp

theorem Try.infoIntI : (Try.prog.info? 3).map (fun i => (i.zero, i.size, i.bytes)) = some (some (.int .i64 0), 1, 8) := by kernel_rfl
set_option maxRecDepth 100000 in
set_option maxHeartbeats 8000000 in
theorem insI_end (W : World) (B : Nat) (v : Value) (xs x : List Value) (n vb : Nat) (h0 : Hid (W.ownsRow B 3 1 v n xs)) (hB : Hid (B ≤ W.heap.size)) (hx : x.length = 1) (h1 : Hid (∀ u ∈ x, u.oneCell' = true)) (hv : Hid (Blk W vb 3 x.toArray)) (hn : n ≤ 5000) :
    Calls Try.prog 74 #[v, .int .i64 n, .slice (some ⟨vb, 0, none⟩) 1 1] W fun e W' => ∃ v', e = .returned v' ∧ W'.ownsRow B 3 1 v' (n + 1) (xs ++ x) ∧ W.grownBy W' v.ownBlock ∧ (v'.ownBlock = v.ownBlock ∨ v'.ownBlock = some W.heap.size) := by
  obtain ⟨i0, hi, hz0, hz1, hz2⟩ := info_parts Try.infoIntI
  obtain ⟨va, vc, hva, hle, hmx, -⟩ := own_form2 h0.out
  subst hva
  unfold maxLen at hmx
  go_enter Try.func74, Try.ntmps74
  have hxc : ∀ j u, x[j]? = some u → W.cell? ((⟨vb, 0, none⟩ : Addr).add j) = some u := fun j u hj => by
    rw [addr0_add, Nat.zero_add]; exact hv.out.cell j (by simpa using hj)
  have HXC := Hid.of hxc
  clear hxc
  cases va with
  | none =>
    have hn0 : n = 0 ∧ vc = 0 := by
      rcases h0.out.2 with ⟨e1, e2⟩ | ⟨g, cap, cur, e1, -⟩
      · cases e1; exact ⟨rfl, rfl⟩
      · cases e1
    obtain ⟨rfl, rfl⟩ := hn0
    go_wp2_with (at_builtin; refine wpList_append_block _ rfl (.tmp 23) (.tmp 24) 23 rfl B 3 i0 _ 1 8 Try.underlying23 hi hz0 hz1 hz2 rfl (by decide) _ _ _ rfl h0.out ⟨vb, 0, none⟩ 1 1 x rfl (by rw [hx]) HXC.out h1.out (by decide) (by unfold maxLen; omega) (by omega) hB.out ?_)
    intro v9 W2 o9 g9 n9
    obtain ⟨a2, c2, hv2, -, -, -⟩ := own_form2 o9
    subst hv2
    have O9 := Hid.of o9
    have G9 := Hid.of g9
    have N9 := Hid.of n9
    clear o9 g9 n9
    go_wp2
    go_ret
    exact ⟨_, rfl, O9.out, G9.out, N9.out⟩
  | some a =>
    obtain ⟨g, off, sp⟩ := a
    have hoff : off = 0 ∧ sp = none := by
      rcases h0.out.2 with ⟨e1, -⟩ | ⟨g, cap, cur, e1, -⟩
      · cases e1
      · cases e1; exact ⟨rfl, rfl⟩
    obtain ⟨rfl, rfl⟩ := hoff
    by_cases hcn : vc = n
    · subst hcn
      go_wp2_with (at_builtin; refine wpList_append_block _ rfl (.tmp 23) (.tmp 24) 23 rfl B 3 i0 _ 1 8 Try.underlying23 hi hz0 hz1 hz2 rfl (by decide) _ _ _ rfl h0.out ⟨vb, 0, none⟩ 1 1 x rfl (by rw [hx]) HXC.out h1.out (by decide) (by unfold maxLen; omega) (by omega) hB.out ?_)
      intro v9 W2 o9 g9 n9
      obtain ⟨a2, c2, hv2, -, -, -⟩ := own_form2 o9
      subst hv2
      have O9 := Hid.of o9
      have G9 := Hid.of g9
      have N9 := Hid.of n9
      clear o9 g9 n9
      go_wp2
      go_ret
      exact ⟨_, rfl, O9.out, G9.out, N9.out⟩
    · have hcn2 : ¬ n = vc := fun e => hcn e.symm
      go_wp2_with (at_builtin; refine wpList_append_block _ rfl (.tmp 23) (.tmp 24) 23 rfl B 3 i0 _ 1 8 Try.underlying23 hi hz0 hz1 hz2 rfl (by decide) _ _ _ rfl h0.out ⟨vb, 0, none⟩ 1 1 x rfl (by rw [hx]) HXC.out h1.out (by decide) (by unfold maxLen; omega) (by omega) hB.out ?_)
      intro v9 W2 o9 g9 n9
      obtain ⟨a2, c2, hv2, -, -, -⟩ := own_form2 o9
      subst hv2
      have O9 := Hid.of o9
      have G9 := Hid.of g9
      have N9 := Hid.of n9
      clear o9 g9 n9
      go_wp2
      go_ret
      exact ⟨_, rfl, O9.out, G9.out, N9.out⟩
set_option maxRecDepth 100000 in
set_option maxHeartbeats 8000000 in
theorem insI_room (W : World) (B : Nat) (xs x : List Value) (n k vb g vc : Nat) (cur : Array Value) (hg : Hid (W.heap[g]? = some (.cells cur 3 (0, 0)))) (hcs : Hid (cur.size = vc * 1)) (hct : Hid (cur.toList.take (n * 1) = xs)) (hxl : Hid (xs.length = n * 1)) (hx : Hid (x.length = 1)) (h1 : Hid (∀ u ∈ x, u.oneCell' = true)) (h2 : Hid (∀ u ∈ xs, u.oneCell' = true)) (hv : Hid (Blk W vb 3 x.toArray)) (hBg : B ≤ g) (hvg : vb ≠ g) (hn : n ≤ 5000) (hk : k < n) (hroom : n + 1 ≤ vc) (hmx : vc ≤ maxLen) :
    Calls Try.prog 74 #[.slice (some ⟨g, 0, none⟩) n vc, .int .i64 k, .slice (some ⟨vb, 0, none⟩) 1 1] W fun e W' => ∃ v', e = .returned v' ∧ W'.ownsRow B 3 1 v' (n + 1) (insAt 1 k x xs) ∧ W.grownBy W' (some g) ∧ (v'.ownBlock = some g ∨ v'.ownBlock = some W.heap.size) := by
  have HMX := Hid.of hmx
  unfold maxLen at hmx
  have hz2 : ¬ ((k : Int) = (n : Int)) := by omega
  have hz3 : ((k : Int) == (n : Int)) = false := beq_eq_false_iff_ne.2 (by omega)
  have hw1 : IntKind.i64.wrap ((k : Int) + 1) = (k : Int) + 1 := by rw [IntKind.wrap_i64]; omega
  have hw2 : IntKind.i64.wrap ((n : Int) + 1) = (n : Int) + 1 := by rw [IntKind.wrap_i64]; omega
  have hb1 : (0 : Int) ≤ (k : Int) + 1 := by omega
  have hb2 : ¬ (vc = k + 1) := by omega
  have hb3 : (k : Int) ≤ (n : Int) + 1 := by omega
  have hb4 : ¬ (vc = k) := by omega
  have hb7 : k ≤ n := by omega
  have hb8 : (k : Int) ≤ (n : Int) := by omega
  have hb9 : (k : Int) + 1 ≤ (n : Int) + 1 := by omega
  have htn : ((k : Int) + 1).toNat = k + 1 := by omega
  have hb5 : (n : Int) + 1 ≤ (vc : Int) := by omega
  have hb6 : ¬ ((vc : Int) < (n : Int) + 1) := by omega
  have hov : ∀ (V : World) o lb cb, V.heap = W.heap → (callFunc 87 #[.slice (some ⟨vb, 0, none⟩) 1 1, .slice (some ⟨g, o, none⟩) lb cb]).run Try.prog V = .ok (.value (.bool false)) V := fun V o lb cb hV => by
    rw [run_callFunc_extern Try.func87 (by kernel_rfl) (by kernel_rfl) (by kernel_rfl) (e := Extern.SlicesOverlaps.overlaps #[23, 23] #[4]) (by kernel_rfl),
      Lib.run_overlaps_apart V 23 4 3 Try.underlying23 1 (fun w => by obtain ⟨i0, hi, hz0, hz1, hz2⟩ := info_parts Try.infoIntI; simp [sizeOf, typeInfo, hi, hz1]) ⟨vb, 0, none⟩ ⟨g, o, none⟩ 1 1 lb cb hvg 3 3 x.toArray.size cur.size
        (by have := hv.out; unfold Blk at this; simp [World.shape?, hV, this]) (by have := hg.out; simp [World.shape?, hV, this]) (by have := hcs.out; omega)
        (by have := hv.out; unfold Blk at this; simp [World.frozen?, hV, this]) (by have := hv.out; unfold Blk at this; simp [World.frozen?, hV, this])]
    rfl
  go_enter Try.func74, Try.ntmps74
  have hR1 : Hid (∀ V : World, V.heap = W.heap → ∀ (o1 o2 l1 l2 c1 c2 : Nat) (ty : TypeId), o1 = (k + 1) * 1 → o2 = k * 1 → l1 = n - k → l2 = n + 1 - k → (Builtin.copy_ #[23, 23] ty #[.slice (some ⟨g, o1, none⟩) l1 c1, .slice (some ⟨g, o2, none⟩) l2 c2]).run Try.prog V = .ok (goInt (n - k : Nat)) (V.setRow g (cur.toList.take ((k + 1) * 1) ++ xs.drop (k * 1) ++ cur.toList.drop ((n + 1) * 1)).toArray)) := fun V hV o1 o2 l1 l2 c1 c2 ty e1 e2 e3 e4 => by
    subst e1; subst e2; subst e3; subst e4
    have hxl' := hxl.out
    have hcs' := hcs.out
    have := run_copy_rowS (P := Try.prog) V 23 23 ty 3 g ((k + 1) * 1) (n - k) c1 ⟨g, k * 1, none⟩ (n + 1 - k) c2 cur 3 (xs.drop (k * 1)) 1 (n - k) Try.underlying23 (by obtain ⟨i0, hi, hz0, hz1, hz2⟩ := info_parts Try.infoIntI; simp [hi, hz1]) (by rw [hV]; exact hg.out) (by simp only [Nat.min_def]; split <;> omega) (by rw [List.length_drop]; omega)
      (fun j u hj => by
        rw [List.getElem?_drop] at hj
        have hlt := (List.getElem?_eq_some_iff.1 hj).1
        rw [← hct.out, List.getElem?_take_of_lt (by omega)] at hj
        rw [Addr.add_lit]
        simp only [World.cell?, hV, hg.out]
        rw [← Array.getElem?_toList]; exact hj)
      (by rw [List.length_drop]; omega) (fun u hu => h2.out u (List.mem_of_mem_drop hu))
    have hd : (k + 1) * 1 + (xs.drop (k * 1)).length = (n + 1) * 1 := by rw [List.length_drop, hxl']; omega
    rw [hd] at this
    exact this
  obtain ⟨row1, HR1⟩ : ∃ r, Hid (r = (cur.toList.take ((k + 1) * 1) ++ xs.drop (k * 1) ++ cur.toList.drop ((n + 1) * 1)).toArray) := ⟨_, rfl⟩
  obtain ⟨row2, HR2⟩ : ∃ r, Hid (r = (insAt 1 k x xs ++ cur.toList.drop ((n + 1) * 1)).toArray) := ⟨_, rfl⟩
  rw [← HR1.out] at hR1
  have hR2 : Hid (∀ V U : World, U.heap = W.heap → V.heap = (U.setRow g row1).heap → ∀ (o1 l1 c1 : Nat) (ty : TypeId), o1 = k * 1 → l1 = n + 1 - k → (Builtin.copy_ #[23, 23] ty #[.slice (some ⟨g, o1, none⟩) l1 c1, .slice (some ⟨vb, 0, none⟩) 1 1]).run Try.prog V = .ok (goInt (1 : Nat)) (V.setRow g row2)) := fun V U hU hV o1 l1 c1 ty e1 e2 => by
    subst e1; subst e2
    have hxl' := hxl.out
    have hcs' := hcs.out
    have hx' := hx.out
    have hgg : V.heap[g]? = some (.cells row1 3 (0, 0)) := by
      rw [hV]; exact setRow_heap U g cur row1 3 (0, 0) (by rw [hU]; exact hg.out)
    have hrl : row1.size = cur.size := by
      rw [HR1.out]; simp only [List.size_toArray, List.length_append, List.length_take, List.length_drop, Array.length_toList]; omega
    have := run_copy_rowS (P := Try.prog) V 23 23 ty 3 g (k * 1) (n + 1 - k) c1 ⟨vb, 0, none⟩ 1 1 row1 3 x 1 1 Try.underlying23 (by obtain ⟨i0, hi, hz0, hz1, hz2⟩ := info_parts Try.infoIntI; simp [hi, hz1]) hgg (by simp only [Nat.min_def]; split <;> omega) (by rw [hx']) 
      (fun j u hj => by
        rw [Addr.add_lit, Nat.zero_add]
        have hb : V.heap[vb]? = some (.cells x.toArray 3 (0, 0)) := by
          rw [hV, setRow_heap_ne U g vb row1 hvg, hU]; exact hv.out
        simp only [World.cell?, hb]
        simpa using hj)
      (by rw [hrl, hcs', hx']; omega) (h1.out)
    rw [this, HR2.out]
    congr 3
    rw [HR1.out, hx']
    exact ins_list 1 cur.toList xs x n k hct.out hxl' hx' (by rw [Array.length_toList, hcs']; exact Nat.mul_le_mul_right _ hroom) hk
  go_wp2_with (simp only [hov])
  have hq1 := hR1.out W.drew rfl (k + 1) (k) (n - k) (n + 1 - k) (vc - (k + 1)) (vc - k) 3 (by omega) (by omega) (by omega) (by omega)
  have hq2 := hR2.out (W.drew.setRow g row1) W.drew rfl rfl (k) (n + 1 - k) (vc - k) 3 (by omega) (by omega)
  go_region
  go_wp2
  go_ret
  have hg1 : (W.drew.setRow g row1).heap[g]? = some (.cells row1 3 (0, 0)) := setRow_heap W.drew g cur row1 _ _ hg.out
  refine ⟨_, rfl, ⟨insAt_len 1 k n x xs hx.out hxl.out (by omega), .inr ⟨g, vc, row2, rfl, hBg, setRow_heap (W.drew.setRow g row1) g row1 row2 _ _ hg1, hroom, HMX.out, ?_, ?_⟩⟩, ⟨rfl, rfl, rfl, ?_, fun q hq hne => ?_⟩, .inl rfl⟩
  · have h1 := insAt_len 1 k n x xs hx.out hxl.out (by omega)
    have h2 := hcs.out
    rw [HR2.out]
    simp only [List.size_toArray, List.length_append, List.length_drop, Array.length_toList, h1]
    omega
  · rw [HR2.out, List.take_append_of_le_length (by rw [insAt_len 1 k n x xs hx.out hxl.out (by omega)]; exact Nat.le_refl _), List.take_of_length_le (by rw [insAt_len 1 k n x xs hx.out hxl.out (by omega)]; exact Nat.le_refl _)]
  · show W.heap.size ≤ ((W.drew.setRow g row1).setRow g row2).heap.size
    simp [World.setRow]
  · have hqg : q ≠ g := fun e => hne (by rw [e])
    rw [setRow_heap_ne _ g q row2 hqg, setRow_heap_ne _ g q row1 hqg]
    rfl
set_option maxRecDepth 100000 in
set_option maxHeartbeats 8000000 in
theorem insI_grow (W : World) (B : Nat) (xs x : List Value) (n k vb g vc : Nat) (cur : Array Value) (hg : Hid (W.heap[g]? = some (.cells cur 3 (0, 0)))) (hcs : Hid (cur.size = vc * 1)) (hct : Hid (cur.toList.take (n * 1) = xs)) (hxl : Hid (xs.length = n * 1)) (hx : Hid (x.length = 1)) (h1 : Hid (∀ u ∈ x, u.oneCell' = true)) (h2 : Hid (∀ u ∈ xs, u.oneCell' = true)) (hv : Hid (Blk W vb 3 x.toArray)) (hBW : B ≤ W.heap.size) (hn : n ≤ 5000) (hk : k < n) (hnc : n ≤ vc) (hroom : vc < n + 1) :
    Calls Try.prog 74 #[.slice (some ⟨g, 0, none⟩) n vc, .int .i64 k, .slice (some ⟨vb, 0, none⟩) 1 1] W fun e W' => ∃ v', e = .returned v' ∧ W'.ownsRow B 3 1 v' (n + 1) (insAt 1 k x xs) ∧ W.grownBy W' (some g) ∧ (v'.ownBlock = some g ∨ v'.ownBlock = some W.heap.size) := by
  obtain ⟨i0, hi, hz0, hz1, hz2⟩ := info_parts Try.infoIntI
  have hvc : vc = n := by omega
  subst hvc
  have hgl : g < W.heap.size := (Array.getElem?_eq_some_iff.1 hg.out).1
  have hvl : vb < W.heap.size := hv.out.lt
  have hz2' : ¬ ((k : Int) = (vc : Int)) := by omega
  have hz3 : ((k : Int) == (vc : Int)) = false := beq_eq_false_iff_ne.2 (by omega)
  have hw1 : IntKind.i64.wrap ((k : Int) + 1) = (k : Int) + 1 := by rw [IntKind.wrap_i64]; omega
  have hw2 : IntKind.i64.wrap ((vc : Int) + 1) = (vc : Int) + 1 := by rw [IntKind.wrap_i64]; omega
  have hw3 : IntKind.i64.wrap ((vc : Int) + 1 - (k : Int)) = (vc : Int) + 1 - (k : Int) := by rw [IntKind.wrap_i64]; omega
  have hb1 : (0 : Int) ≤ (k : Int) + 1 := by omega
  have hb4 : ¬ (vc = k) := by omega
  have hb6 : (vc : Int) < (vc : Int) + 1 := by omega
  have hb7 : k ≤ vc := by omega
  have hb8 : (k : Int) ≤ (vc : Int) := by omega
  have hb9 : (k : Int) + 1 ≤ (vc : Int) + 1 := by omega
  have hba : (k : Int) ≤ (vc : Int) + 1 := by omega
  have htn : ((k : Int) + 1).toNat = k + 1 := by omega
  have hkk : (vc : Int) + 1 - (k : Int) = ((vc + 1 - k : Nat) : Int) := by omega
  have hik : k + (vc + 1 - k) = vc + 1 := by omega
  have hold : (Builtin.firstCells i0.size k (.slice (some ⟨g, 0, none⟩) k vc)).run Try.prog W.drew = .ok (xs.take (k * 1)).toArray W.drew := by
    rw [hz1]
    have hxl' := hxl.out
    exact run_firstCells_some W.drew 1 k ⟨g, 0, none⟩ k vc (xs.take (k * 1)) (by rw [List.length_take]; omega) (fun j v hj => by
      have hlt := (List.getElem?_eq_some_iff.1 hj).1
      rw [List.length_take] at hlt
      rw [List.getElem?_take_of_lt (by omega), ← hct.out, List.getElem?_take_of_lt (by omega)] at hj
      rw [Addr.add_lit, Nat.zero_add]
      show W.cell? _ = _
      simp only [World.cell?, hg.out]
      rw [← Array.getElem?_toList]; exact hj)
  obtain ⟨G, HG⟩ : ∃ G, Hid (G = grownCap W (vc + 1) vc 3) := ⟨_, rfl⟩
  obtain ⟨row0, HR0⟩ : ∃ r : Array Value, Hid (r = (xs.take (k * 1)).toArray ++ Builtin.zeroCells (Value.int .i64 0).cells (vc + 1 - k) ++ Builtin.zeroCells (Value.int .i64 0).cells (G - (vc + 1))) := ⟨_, rfl⟩
  have hrz : Hid (∀ ty, (Builtin.append_ #[23, 3] ty #[.slice (some ⟨g, 0, none⟩) k vc, .int .i64 ((vc : Int) + 1 - (k : Int))]).run Try.prog W = .ok (.slice (some ⟨W.heap.size, 0, none⟩) (vc + 1) G) (W.drew.alloc (.cells row0 3))) := fun ty => by
    have h := Lib.run_append_grow_zeros W 23 3 ty 3 i0 _ .i64 .i64 Try.underlying23 Try.underlying3 hi hz0 (some ⟨g, 0, none⟩) k vc (xs.take (k * 1)) hold (vc + 1 - k) (by omega) (by rw [hz1]; omega) (by omega) (by omega) (by rw [hz2]; omega) (by rw [hz2, hik]; exact growslice_fits hroom (by omega))
    rw [hik] at h
    rw [hkk, HR0.out, HG.out]
    exact h
  have hGn : vc + 1 ≤ G := by rw [HG.out]; exact grownCap_ge W _ _ _
  have hGm : G ≤ maxLen := by
    rw [HG.out]
    exact grownCap_le_maxLen W (vc + 1) vc 3 (by unfold maxLen; omega)
  have HGM := Hid.of hGm
  unfold maxLen at hGm
  have hG1 : ¬ (G = k) := by omega
  have hG2 : ¬ (G = k + 1) := by omega
  have hr0 : row0.size = G * 1 := by
    have hxl' := hxl.out
    rw [HR0.out]
    simp [Builtin.zeroCells, Value.cells, hxl']
    omega
  obtain ⟨row1, HR1⟩ : ∃ r, Hid (r = (row0.toList.take (k) ++ x ++ row0.toList.drop (k + x.length)).toArray) := ⟨_, rfl⟩
  obtain ⟨row2, HR2⟩ : ∃ r, Hid (r = (row1.toList.take (k + 1) ++ xs.drop (k * 1) ++ row1.toList.drop (k + 1 + (xs.drop (k * 1)).length)).toArray) := ⟨_, rfl⟩
  have hx' := hx.out
  have hxl' := hxl.out
  have hr1 : row1.size = G * 1 := by
    rw [HR1.out]; simp only [List.size_toArray, List.length_append, List.length_take, List.length_drop, Array.length_toList, hr0, hx']; omega
  have hinf : (Try.prog.info? 3).map (·.size) = some 1 := by simp [hi, hz1]
  have hA0 : Blk (W.alloc (.cells row0 3)) W.heap.size 3 row0 := Blk.new W _ _
  have hq1 : ∀ ty, (Builtin.copy_ #[23, 23] ty #[.slice (some ⟨W.heap.size, k, none⟩) (vc + 1 - k) (G - k), .slice (some ⟨vb, 0, none⟩) 1 1]).run Try.prog (W.alloc (.cells row0 3)).drew = .ok (goInt (1 : Nat)) ((W.alloc (.cells row0 3)).drew.setRow W.heap.size row1) := fun ty => by
    have := run_copy_rowS (P := Try.prog) (W.alloc (.cells row0 3)).drew 23 23 ty 3 W.heap.size (k) (vc + 1 - k) (G - k) ⟨vb, 0, none⟩ 1 1 row0 3 x 1 1 Try.underlying23 hinf hA0 (by simp only [Nat.min_def]; split <;> omega) (by rw [hx'])
      (fun j u hj => by
        rw [Addr.add_lit, Nat.zero_add]
        exact (hv.out.alloc _).cell j (by simpa using hj))
      (by rw [hr0, hx']; omega) h1.out
    rw [this, HR1.out]
  have hA1 : Blk ((W.alloc (.cells row0 3)).drew.setRow W.heap.size row1) W.heap.size 3 row1 := setRow_heap _ _ _ _ _ _ hA0
  have hq2 : ∀ ty, (Builtin.copy_ #[23, 23] ty #[.slice (some ⟨W.heap.size, k + 1, none⟩) (vc - k) (G - (k + 1)), .slice (some ⟨g, k, none⟩) (vc - k) (vc - k)]).run Try.prog ((W.alloc (.cells row0 3)).drew.setRow W.heap.size row1).drew = .ok (goInt (vc - k : Nat)) (((W.alloc (.cells row0 3)).drew.setRow W.heap.size row1).drew.setRow W.heap.size row2) := fun ty => by
    have := run_copy_rowS (P := Try.prog) ((W.alloc (.cells row0 3)).drew.setRow W.heap.size row1).drew 23 23 ty 3 W.heap.size (k + 1) (vc - k) (G - (k + 1)) ⟨g, k, none⟩ (vc - k) (vc - k) row1 3 (xs.drop (k * 1)) 1 (vc - k) Try.underlying23 hinf hA1 (by simp only [Nat.min_def]; split <;> omega) (by rw [List.length_drop]; omega)
      (fun j u hj => by
        rw [List.getElem?_drop] at hj
        have hlt := (List.getElem?_eq_some_iff.1 hj).1
        rw [← hct.out, List.getElem?_take_of_lt (by omega)] at hj
        rw [Addr.add_lit]
        have hb : ((W.alloc (.cells row0 3)).drew.setRow W.heap.size row1).drew.heap[g]? = some (.cells cur 3 (0, 0)) := by
          show ((W.alloc (.cells row0 3)).drew.setRow W.heap.size row1).heap[g]? = _
          rw [setRow_heap_ne _ _ g row1 (by omega)]
          exact (Below.heap_alloc W _ g hgl).trans hg.out
        simp only [World.cell?, hb]
        rw [← Array.getElem?_toList]
        rw [show k + j = k * 1 + j by omega]; exact hj)
      (by rw [hr1, List.length_drop]; omega) (fun u hu => h2.out u (List.mem_of_mem_drop hu))
    rw [this, HR2.out]
  clear hkk hik hold
  go_enter Try.func74, Try.ntmps74
  go_wp2_with (at_builtin; refine Lib.wpList_append_run _ rfl _ _ _ _ rfl _ _ rfl rfl _ _ (hrz.out _) ?_)
  go_region
  go_wp2
  go_ret
  have hgr : row2.toList.take ((vc + 1) * 1) = insAt 1 k x xs := grow_list 1 (k) (k + 1) k vc row0.toList row1.toList row2.toList x xs ((Builtin.zeroCells (Value.int .i64 0).cells (vc + 1 - k)).toList ++ (Builtin.zeroCells (Value.int .i64 0).cells (G - (vc + 1))).toList) (by omega) (by omega) hxl' hx' hk (by rw [HR0.out]; simp) (by simp [Builtin.zeroCells, Value.cells]; omega) (by rw [HR1.out]) (by rw [HR2.out])
  have hr2 : row2.size = G * 1 := by
    rw [HR2.out]; simp only [List.size_toArray, List.length_append, List.length_take, List.length_drop, Array.length_toList, hr1, hxl']; omega
  have hA2 : ((W.alloc (.cells row0 3)).drew.setRow W.heap.size row1).drew.setRow W.heap.size row2 = ((W.alloc (.cells row0 3)).drew.setRow W.heap.size row1).drew.setRow W.heap.size row2 := rfl
  refine ⟨_, rfl, ⟨insAt_len 1 k vc x xs hx' hxl' (by omega), .inr ⟨W.heap.size, G, row2, rfl, hBW, setRow_heap _ _ row1 row2 _ _ hA1, hGn, HGM.out, hr2, hgr⟩⟩, ⟨rfl, rfl, rfl, ?_, fun q hq hne => ?_⟩, .inr rfl⟩
  · rw [setRow_size]
    show W.heap.size ≤ ((W.alloc (.cells row0 3)).drew.setRow W.heap.size row1).heap.size
    rw [setRow_size]
    show W.heap.size ≤ (W.alloc (.cells row0 3)).heap.size
    rw [World.size_alloc]; omega
  · rw [setRow_heap_ne _ _ q row2 (by omega)]
    show ((W.alloc (.cells row0 3)).drew.setRow W.heap.size row1).heap[q]? = _
    rw [setRow_heap_ne _ _ q row1 (by omega)]
    exact Below.heap_alloc W _ q hq
/-- ONE ELEMENT IS SET IN. -/
theorem insI_any (W : World) (B : Nat) (v : Value) (xs x : List Value) (n k vb : Nat) (h0 : W.ownsRow B 3 1 v n xs) (hB : B ≤ W.heap.size) (hx : x.length = 1) (h1 : ∀ u ∈ x, u.oneCell' = true) (h2 : ∀ u ∈ xs, u.oneCell' = true) (hv : Blk W vb 3 x.toArray) (hvb : v.ownBlock ≠ some vb) (hn : n ≤ 5000) (hk : k ≤ n) :
    Calls Try.prog 74 #[v, .int .i64 k, .slice (some ⟨vb, 0, none⟩) 1 1] W fun e W' => ∃ v', e = .returned v' ∧ W'.ownsRow B 3 1 v' (n + 1) (insAt 1 k x xs) ∧ W.grownBy W' v.ownBlock ∧ (v'.ownBlock = v.ownBlock ∨ v'.ownBlock = some W.heap.size) := by
  by_cases hkn : k = n
  · subst hkn
    have e : insAt 1 k x xs = xs ++ x := by
      unfold insAt
      have := h0.1
      rw [List.take_of_length_le (by omega), List.drop_of_length_le (by omega), List.append_nil]
    rw [e]
    exact insI_end W B v xs x k vb h0 hB hx h1 hv hn
  · rcases h0.2 with ⟨-, h⟩ | ⟨g, cap, cur, rfl, hBg, hg, hnc, hcm, hcs, ht⟩
    · omega
    · have hne : vb ≠ g := fun e => hvb (by rw [e]; rfl)
      by_cases hr : n + 1 ≤ cap
      · exact insI_room W B xs x n k vb g cap cur hg hcs ht h0.1 hx h1 h2 hv hBg hne hn (by omega) hr hcm
      · exact insI_grow W B xs x n k vb g cap cur hg hcs ht h0.1 hx h1 h2 hv hB hn (by omega) hnc (by omega)

theorem Try.infoArrI : (Try.prog.info? 60).map (fun i => (i.zero, i.size, i.bytes)) = some (some (.agg #[.int .i64 0, .int .i64 0, .int .i64 0]), 3, 24) := by kernel_rfl
set_option maxRecDepth 100000 in
set_option maxHeartbeats 8000000 in
theorem insA_endK (W : World) (B : Nat) (v : Value) (xs x : List Value) (n vb : Nat) (h0 : Hid (W.ownsRow B 60 3 v n xs)) (hB : Hid (B ≤ W.heap.size)) (hx : x.length = 3) (h1 : Hid (∀ u ∈ x, u.oneCell' = true)) (hv : Hid (Blk W vb 60 x.toArray)) (hn : n ≤ 5000) :
    Calls Try.prog 77 #[v, .int .i64 n, .slice (some ⟨vb, 0, none⟩) 1 1] W fun e W' => ∃ v', e = .returned v' ∧ W'.ownsRow B 60 3 v' (n + 1) (xs ++ x) ∧ W.grownBy W' v.ownBlock ∧ (v'.ownBlock = v.ownBlock ∨ v'.ownBlock = some W.heap.size) := by
  obtain ⟨i0, hi, hz0, hz1, hz2⟩ := info_parts Try.infoArrI
  obtain ⟨va, vc, hva, hle, hmx, -⟩ := own_form2 h0.out
  subst hva
  unfold maxLen at hmx
  go_enter Try.func77, Try.ntmps77
  have hxc : ∀ j u, x[j]? = some u → W.cell? ((⟨vb, 0, none⟩ : Addr).add j) = some u := fun j u hj => by
    rw [addr0_add, Nat.zero_add]; exact hv.out.cell j (by simpa using hj)
  have HXC := Hid.of hxc
  clear hxc
  cases va with
  | none =>
    have hn0 : n = 0 ∧ vc = 0 := by
      rcases h0.out.2 with ⟨e1, e2⟩ | ⟨g, cap, cur, e1, -⟩
      · cases e1; exact ⟨rfl, rfl⟩
      · cases e1
    obtain ⟨rfl, rfl⟩ := hn0
    go_wp2_with (at_builtin; refine wpList_append_block _ rfl (.tmp 23) (.tmp 24) 24 rfl B 60 i0 _ 3 24 Try.underlying24 hi hz0 hz1 hz2 rfl (by decide) _ _ _ rfl h0.out ⟨vb, 0, none⟩ 1 1 x rfl (by rw [hx]) HXC.out h1.out (by decide) (by unfold maxLen; omega) (by omega) hB.out ?_)
    intro v9 W2 o9 g9 n9
    obtain ⟨a2, c2, hv2, -, -, -⟩ := own_form2 o9
    subst hv2
    have O9 := Hid.of o9
    have G9 := Hid.of g9
    have N9 := Hid.of n9
    clear o9 g9 n9
    go_wp2
    go_ret
    exact ⟨_, rfl, O9.out, G9.out, N9.out⟩
  | some a =>
    obtain ⟨g, off, sp⟩ := a
    have hoff : off = 0 ∧ sp = none := by
      rcases h0.out.2 with ⟨e1, -⟩ | ⟨g, cap, cur, e1, -⟩
      · cases e1
      · cases e1; exact ⟨rfl, rfl⟩
    obtain ⟨rfl, rfl⟩ := hoff
    by_cases hcn : vc = n
    · subst hcn
      go_wp2_with (at_builtin; refine wpList_append_block _ rfl (.tmp 23) (.tmp 24) 24 rfl B 60 i0 _ 3 24 Try.underlying24 hi hz0 hz1 hz2 rfl (by decide) _ _ _ rfl h0.out ⟨vb, 0, none⟩ 1 1 x rfl (by rw [hx]) HXC.out h1.out (by decide) (by unfold maxLen; omega) (by omega) hB.out ?_)
      intro v9 W2 o9 g9 n9
      obtain ⟨a2, c2, hv2, -, -, -⟩ := own_form2 o9
      subst hv2
      have O9 := Hid.of o9
      have G9 := Hid.of g9
      have N9 := Hid.of n9
      clear o9 g9 n9
      go_wp2
      go_ret
      exact ⟨_, rfl, O9.out, G9.out, N9.out⟩
    · have hcn2 : ¬ n = vc := fun e => hcn e.symm
      go_wp2_with (at_builtin; refine wpList_append_block _ rfl (.tmp 23) (.tmp 24) 24 rfl B 60 i0 _ 3 24 Try.underlying24 hi hz0 hz1 hz2 rfl (by decide) _ _ _ rfl h0.out ⟨vb, 0, none⟩ 1 1 x rfl (by rw [hx]) HXC.out h1.out (by decide) (by unfold maxLen; omega) (by omega) hB.out ?_)
      intro v9 W2 o9 g9 n9
      obtain ⟨a2, c2, hv2, -, -, -⟩ := own_form2 o9
      subst hv2
      have O9 := Hid.of o9
      have G9 := Hid.of g9
      have N9 := Hid.of n9
      clear o9 g9 n9
      go_wp2
      go_ret
      exact ⟨_, rfl, O9.out, G9.out, N9.out⟩
set_option maxRecDepth 100000 in
set_option maxHeartbeats 8000000 in
theorem insA_room (W : World) (B : Nat) (xs x : List Value) (n k vb g vc : Nat) (cur : Array Value) (hg : Hid (W.heap[g]? = some (.cells cur 60 (0, 0)))) (hcs : Hid (cur.size = vc * 3)) (hct : Hid (cur.toList.take (n * 3) = xs)) (hxl : Hid (xs.length = n * 3)) (hx : Hid (x.length = 3)) (h1 : Hid (∀ u ∈ x, u.oneCell' = true)) (h2 : Hid (∀ u ∈ xs, u.oneCell' = true)) (hv : Hid (Blk W vb 60 x.toArray)) (hBg : B ≤ g) (hvg : vb ≠ g) (hn : n ≤ 5000) (hk : k < n) (hroom : n + 1 ≤ vc) (hmx : vc ≤ maxLen) :
    Calls Try.prog 77 #[.slice (some ⟨g, 0, none⟩) n vc, .int .i64 k, .slice (some ⟨vb, 0, none⟩) 1 1] W fun e W' => ∃ v', e = .returned v' ∧ W'.ownsRow B 60 3 v' (n + 1) (insAt 3 k x xs) ∧ W.grownBy W' (some g) ∧ (v'.ownBlock = some g ∨ v'.ownBlock = some W.heap.size) := by
  have HMX := Hid.of hmx
  unfold maxLen at hmx
  have hz2 : ¬ ((k : Int) = (n : Int)) := by omega
  have hz3 : ((k : Int) == (n : Int)) = false := beq_eq_false_iff_ne.2 (by omega)
  have hw1 : IntKind.i64.wrap ((k : Int) + 1) = (k : Int) + 1 := by rw [IntKind.wrap_i64]; omega
  have hw2 : IntKind.i64.wrap ((n : Int) + 1) = (n : Int) + 1 := by rw [IntKind.wrap_i64]; omega
  have hb1 : (0 : Int) ≤ (k : Int) + 1 := by omega
  have hb2 : ¬ (vc = k + 1) := by omega
  have hb3 : (k : Int) ≤ (n : Int) + 1 := by omega
  have hb4 : ¬ (vc = k) := by omega
  have hb7 : k ≤ n := by omega
  have hb8 : (k : Int) ≤ (n : Int) := by omega
  have hb9 : (k : Int) + 1 ≤ (n : Int) + 1 := by omega
  have htn : ((k : Int) + 1).toNat = k + 1 := by omega
  have hb5 : (n : Int) + 1 ≤ (vc : Int) := by omega
  have hb6 : ¬ ((vc : Int) < (n : Int) + 1) := by omega
  have hov : ∀ (V : World) o lb cb, V.heap = W.heap → (callFunc 91 #[.slice (some ⟨vb, 0, none⟩) 1 1, .slice (some ⟨g, o, none⟩) lb cb]).run Try.prog V = .ok (.value (.bool false)) V := fun V o lb cb hV => by
    rw [run_callFunc_extern Try.func91 (by kernel_rfl) (by kernel_rfl) (by kernel_rfl) (e := Extern.SlicesOverlaps.overlaps #[24, 24] #[4]) (by kernel_rfl),
      Lib.run_overlaps_apart V 24 4 60 Try.underlying24 3 (fun w => by obtain ⟨i0, hi, hz0, hz1, hz2⟩ := info_parts Try.infoArrI; simp [sizeOf, typeInfo, hi, hz1]) ⟨vb, 0, none⟩ ⟨g, o, none⟩ 1 1 lb cb hvg 60 60 x.toArray.size cur.size
        (by have := hv.out; unfold Blk at this; simp [World.shape?, hV, this]) (by have := hg.out; simp [World.shape?, hV, this]) (by have := hcs.out; omega)
        (by have := hv.out; unfold Blk at this; simp [World.frozen?, hV, this]) (by have := hv.out; unfold Blk at this; simp [World.frozen?, hV, this])]
    rfl
  go_enter Try.func77, Try.ntmps77
  have hR1 : Hid (∀ V : World, V.heap = W.heap → ∀ (o1 o2 l1 l2 c1 c2 : Nat) (ty : TypeId), o1 = (k + 1) * 3 → o2 = k * 3 → l1 = n - k → l2 = n + 1 - k → (Builtin.copy_ #[24, 24] ty #[.slice (some ⟨g, o1, none⟩) l1 c1, .slice (some ⟨g, o2, none⟩) l2 c2]).run Try.prog V = .ok (goInt (n - k : Nat)) (V.setRow g (cur.toList.take ((k + 1) * 3) ++ xs.drop (k * 3) ++ cur.toList.drop ((n + 1) * 3)).toArray)) := fun V hV o1 o2 l1 l2 c1 c2 ty e1 e2 e3 e4 => by
    subst e1; subst e2; subst e3; subst e4
    have hxl' := hxl.out
    have hcs' := hcs.out
    have := run_copy_rowS (P := Try.prog) V 24 24 ty 60 g ((k + 1) * 3) (n - k) c1 ⟨g, k * 3, none⟩ (n + 1 - k) c2 cur 60 (xs.drop (k * 3)) 3 (n - k) Try.underlying24 (by obtain ⟨i0, hi, hz0, hz1, hz2⟩ := info_parts Try.infoArrI; simp [hi, hz1]) (by rw [hV]; exact hg.out) (by simp only [Nat.min_def]; split <;> omega) (by rw [List.length_drop]; omega)
      (fun j u hj => by
        rw [List.getElem?_drop] at hj
        have hlt := (List.getElem?_eq_some_iff.1 hj).1
        rw [← hct.out, List.getElem?_take_of_lt (by omega)] at hj
        rw [Addr.add_lit]
        simp only [World.cell?, hV, hg.out]
        rw [← Array.getElem?_toList]; exact hj)
      (by rw [List.length_drop]; omega) (fun u hu => h2.out u (List.mem_of_mem_drop hu))
    have hd : (k + 1) * 3 + (xs.drop (k * 3)).length = (n + 1) * 3 := by rw [List.length_drop, hxl']; omega
    rw [hd] at this
    exact this
  obtain ⟨row1, HR1⟩ : ∃ r, Hid (r = (cur.toList.take ((k + 1) * 3) ++ xs.drop (k * 3) ++ cur.toList.drop ((n + 1) * 3)).toArray) := ⟨_, rfl⟩
  obtain ⟨row2, HR2⟩ : ∃ r, Hid (r = (insAt 3 k x xs ++ cur.toList.drop ((n + 1) * 3)).toArray) := ⟨_, rfl⟩
  rw [← HR1.out] at hR1
  have hR2 : Hid (∀ V U : World, U.heap = W.heap → V.heap = (U.setRow g row1).heap → ∀ (o1 l1 c1 : Nat) (ty : TypeId), o1 = k * 3 → l1 = n + 1 - k → (Builtin.copy_ #[24, 24] ty #[.slice (some ⟨g, o1, none⟩) l1 c1, .slice (some ⟨vb, 0, none⟩) 1 1]).run Try.prog V = .ok (goInt (1 : Nat)) (V.setRow g row2)) := fun V U hU hV o1 l1 c1 ty e1 e2 => by
    subst e1; subst e2
    have hxl' := hxl.out
    have hcs' := hcs.out
    have hx' := hx.out
    have hgg : V.heap[g]? = some (.cells row1 60 (0, 0)) := by
      rw [hV]; exact setRow_heap U g cur row1 60 (0, 0) (by rw [hU]; exact hg.out)
    have hrl : row1.size = cur.size := by
      rw [HR1.out]; simp only [List.size_toArray, List.length_append, List.length_take, List.length_drop, Array.length_toList]; omega
    have := run_copy_rowS (P := Try.prog) V 24 24 ty 60 g (k * 3) (n + 1 - k) c1 ⟨vb, 0, none⟩ 1 1 row1 60 x 3 1 Try.underlying24 (by obtain ⟨i0, hi, hz0, hz1, hz2⟩ := info_parts Try.infoArrI; simp [hi, hz1]) hgg (by simp only [Nat.min_def]; split <;> omega) (by rw [hx']) 
      (fun j u hj => by
        rw [Addr.add_lit, Nat.zero_add]
        have hb : V.heap[vb]? = some (.cells x.toArray 60 (0, 0)) := by
          rw [hV, setRow_heap_ne U g vb row1 hvg, hU]; exact hv.out
        simp only [World.cell?, hb]
        simpa using hj)
      (by rw [hrl, hcs', hx']; omega) (h1.out)
    rw [this, HR2.out]
    congr 3
    rw [HR1.out, hx']
    exact ins_list 3 cur.toList xs x n k hct.out hxl' hx' (by rw [Array.length_toList, hcs']; exact Nat.mul_le_mul_right _ hroom) hk
  go_wp2_with (simp only [hov])
  have hq1 := hR1.out W.drew rfl ((k + 1) * 3) (k * 3) (n - k) (n + 1 - k) (vc - (k + 1)) (vc - k) 3 (by omega) (by omega) (by omega) (by omega)
  have hq2 := hR2.out (W.drew.setRow g row1) W.drew rfl rfl (k * 3) (n + 1 - k) (vc - k) 3 (by omega) (by omega)
  go_region
  go_wp2
  go_ret
  have hg1 : (W.drew.setRow g row1).heap[g]? = some (.cells row1 60 (0, 0)) := setRow_heap W.drew g cur row1 _ _ hg.out
  refine ⟨_, rfl, ⟨insAt_len 3 k n x xs hx.out hxl.out (by omega), .inr ⟨g, vc, row2, rfl, hBg, setRow_heap (W.drew.setRow g row1) g row1 row2 _ _ hg1, hroom, HMX.out, ?_, ?_⟩⟩, ⟨rfl, rfl, rfl, ?_, fun q hq hne => ?_⟩, .inl rfl⟩
  · have h1 := insAt_len 3 k n x xs hx.out hxl.out (by omega)
    have h2 := hcs.out
    rw [HR2.out]
    simp only [List.size_toArray, List.length_append, List.length_drop, Array.length_toList, h1]
    omega
  · rw [HR2.out, List.take_append_of_le_length (by rw [insAt_len 3 k n x xs hx.out hxl.out (by omega)]; exact Nat.le_refl _), List.take_of_length_le (by rw [insAt_len 3 k n x xs hx.out hxl.out (by omega)]; exact Nat.le_refl _)]
  · show W.heap.size ≤ ((W.drew.setRow g row1).setRow g row2).heap.size
    simp [World.setRow]
  · have hqg : q ≠ g := fun e => hne (by rw [e])
    rw [setRow_heap_ne _ g q row2 hqg, setRow_heap_ne _ g q row1 hqg]
    rfl
set_option maxRecDepth 100000 in
set_option maxHeartbeats 8000000 in
theorem insA_grow (W : World) (B : Nat) (xs x : List Value) (n k vb g vc : Nat) (cur : Array Value) (hg : Hid (W.heap[g]? = some (.cells cur 60 (0, 0)))) (hcs : Hid (cur.size = vc * 3)) (hct : Hid (cur.toList.take (n * 3) = xs)) (hxl : Hid (xs.length = n * 3)) (hx : Hid (x.length = 3)) (h1 : Hid (∀ u ∈ x, u.oneCell' = true)) (h2 : Hid (∀ u ∈ xs, u.oneCell' = true)) (hv : Hid (Blk W vb 60 x.toArray)) (hBW : B ≤ W.heap.size) (hn : n ≤ 5000) (hk : k < n) (hnc : n ≤ vc) (hroom : vc < n + 1) :
    Calls Try.prog 77 #[.slice (some ⟨g, 0, none⟩) n vc, .int .i64 k, .slice (some ⟨vb, 0, none⟩) 1 1] W fun e W' => ∃ v', e = .returned v' ∧ W'.ownsRow B 60 3 v' (n + 1) (insAt 3 k x xs) ∧ W.grownBy W' (some g) ∧ (v'.ownBlock = some g ∨ v'.ownBlock = some W.heap.size) := by
  obtain ⟨i0, hi, hz0, hz1, hz2⟩ := info_parts Try.infoArrI
  have hvc : vc = n := by omega
  subst hvc
  have hgl : g < W.heap.size := (Array.getElem?_eq_some_iff.1 hg.out).1
  have hvl : vb < W.heap.size := hv.out.lt
  have hz2' : ¬ ((k : Int) = (vc : Int)) := by omega
  have hz3 : ((k : Int) == (vc : Int)) = false := beq_eq_false_iff_ne.2 (by omega)
  have hw1 : IntKind.i64.wrap ((k : Int) + 1) = (k : Int) + 1 := by rw [IntKind.wrap_i64]; omega
  have hw2 : IntKind.i64.wrap ((vc : Int) + 1) = (vc : Int) + 1 := by rw [IntKind.wrap_i64]; omega
  have hw3 : IntKind.i64.wrap ((vc : Int) + 1 - (k : Int)) = (vc : Int) + 1 - (k : Int) := by rw [IntKind.wrap_i64]; omega
  have hb1 : (0 : Int) ≤ (k : Int) + 1 := by omega
  have hb4 : ¬ (vc = k) := by omega
  have hb6 : (vc : Int) < (vc : Int) + 1 := by omega
  have hb7 : k ≤ vc := by omega
  have hb8 : (k : Int) ≤ (vc : Int) := by omega
  have hb9 : (k : Int) + 1 ≤ (vc : Int) + 1 := by omega
  have hba : (k : Int) ≤ (vc : Int) + 1 := by omega
  have htn : ((k : Int) + 1).toNat = k + 1 := by omega
  have hkk : (vc : Int) + 1 - (k : Int) = ((vc + 1 - k : Nat) : Int) := by omega
  have hik : k + (vc + 1 - k) = vc + 1 := by omega
  have hold : (Builtin.firstCells i0.size k (.slice (some ⟨g, 0, none⟩) k vc)).run Try.prog W.drew = .ok (xs.take (k * 3)).toArray W.drew := by
    rw [hz1]
    have hxl' := hxl.out
    exact run_firstCells_some W.drew 3 k ⟨g, 0, none⟩ k vc (xs.take (k * 3)) (by rw [List.length_take]; omega) (fun j v hj => by
      have hlt := (List.getElem?_eq_some_iff.1 hj).1
      rw [List.length_take] at hlt
      rw [List.getElem?_take_of_lt (by omega), ← hct.out, List.getElem?_take_of_lt (by omega)] at hj
      rw [Addr.add_lit, Nat.zero_add]
      show W.cell? _ = _
      simp only [World.cell?, hg.out]
      rw [← Array.getElem?_toList]; exact hj)
  obtain ⟨G, HG⟩ : ∃ G, Hid (G = grownCap W (vc + 1) vc 60) := ⟨_, rfl⟩
  obtain ⟨row0, HR0⟩ : ∃ r : Array Value, Hid (r = (xs.take (k * 3)).toArray ++ Builtin.zeroCells (Value.agg #[.int .i64 0, .int .i64 0, .int .i64 0]).cells (vc + 1 - k) ++ Builtin.zeroCells (Value.agg #[.int .i64 0, .int .i64 0, .int .i64 0]).cells (G - (vc + 1))) := ⟨_, rfl⟩
  have hrz : Hid (∀ ty, (Builtin.append_ #[24, 3] ty #[.slice (some ⟨g, 0, none⟩) k vc, .int .i64 ((vc : Int) + 1 - (k : Int))]).run Try.prog W = .ok (.slice (some ⟨W.heap.size, 0, none⟩) (vc + 1) G) (W.drew.alloc (.cells row0 60))) := fun ty => by
    have h := Lib.run_append_grow_zeros W 24 3 ty 60 i0 _ .i64 .i64 Try.underlying24 Try.underlying3 hi hz0 (some ⟨g, 0, none⟩) k vc (xs.take (k * 3)) hold (vc + 1 - k) (by omega) (by rw [hz1]; omega) (by omega) (by omega) (by rw [hz2]; omega) (by rw [hz2, hik]; exact growslice_fits hroom (by omega))
    rw [hik] at h
    rw [hkk, HR0.out, HG.out]
    exact h
  have hGn : vc + 1 ≤ G := by rw [HG.out]; exact grownCap_ge W _ _ _
  have hGm : G ≤ maxLen := by
    rw [HG.out]
    exact grownCap_le_maxLen W (vc + 1) vc 60 (by unfold maxLen; omega)
  have HGM := Hid.of hGm
  unfold maxLen at hGm
  have hG1 : ¬ (G = k) := by omega
  have hG2 : ¬ (G = k + 1) := by omega
  have hr0 : row0.size = G * 3 := by
    have hxl' := hxl.out
    rw [HR0.out]
    simp [Builtin.zeroCells, Value.cells, hxl']
    omega
  obtain ⟨row1, HR1⟩ : ∃ r, Hid (r = (row0.toList.take (k * 3) ++ x ++ row0.toList.drop (k * 3 + x.length)).toArray) := ⟨_, rfl⟩
  obtain ⟨row2, HR2⟩ : ∃ r, Hid (r = (row1.toList.take ((k + 1) * 3) ++ xs.drop (k * 3) ++ row1.toList.drop ((k + 1) * 3 + (xs.drop (k * 3)).length)).toArray) := ⟨_, rfl⟩
  have hx' := hx.out
  have hxl' := hxl.out
  have hr1 : row1.size = G * 3 := by
    rw [HR1.out]; simp only [List.size_toArray, List.length_append, List.length_take, List.length_drop, Array.length_toList, hr0, hx']; omega
  have hinf : (Try.prog.info? 60).map (·.size) = some 3 := by simp [hi, hz1]
  have hA0 : Blk (W.alloc (.cells row0 60)) W.heap.size 60 row0 := Blk.new W _ _
  have hq1 : ∀ ty, (Builtin.copy_ #[24, 24] ty #[.slice (some ⟨W.heap.size, k * 3, none⟩) (vc + 1 - k) (G - k), .slice (some ⟨vb, 0, none⟩) 1 1]).run Try.prog (W.alloc (.cells row0 60)).drew = .ok (goInt (1 : Nat)) ((W.alloc (.cells row0 60)).drew.setRow W.heap.size row1) := fun ty => by
    have := run_copy_rowS (P := Try.prog) (W.alloc (.cells row0 60)).drew 24 24 ty 60 W.heap.size (k * 3) (vc + 1 - k) (G - k) ⟨vb, 0, none⟩ 1 1 row0 60 x 3 1 Try.underlying24 hinf hA0 (by simp only [Nat.min_def]; split <;> omega) (by rw [hx'])
      (fun j u hj => by
        rw [Addr.add_lit, Nat.zero_add]
        exact (hv.out.alloc _).cell j (by simpa using hj))
      (by rw [hr0, hx']; omega) h1.out
    rw [this, HR1.out]
  have hA1 : Blk ((W.alloc (.cells row0 60)).drew.setRow W.heap.size row1) W.heap.size 60 row1 := setRow_heap _ _ _ _ _ _ hA0
  have hq2 : ∀ ty, (Builtin.copy_ #[24, 24] ty #[.slice (some ⟨W.heap.size, (k + 1) * 3, none⟩) (vc - k) (G - (k + 1)), .slice (some ⟨g, k * 3, none⟩) (vc - k) (vc - k)]).run Try.prog ((W.alloc (.cells row0 60)).drew.setRow W.heap.size row1).drew = .ok (goInt (vc - k : Nat)) (((W.alloc (.cells row0 60)).drew.setRow W.heap.size row1).drew.setRow W.heap.size row2) := fun ty => by
    have := run_copy_rowS (P := Try.prog) ((W.alloc (.cells row0 60)).drew.setRow W.heap.size row1).drew 24 24 ty 60 W.heap.size ((k + 1) * 3) (vc - k) (G - (k + 1)) ⟨g, k * 3, none⟩ (vc - k) (vc - k) row1 60 (xs.drop (k * 3)) 3 (vc - k) Try.underlying24 hinf hA1 (by simp only [Nat.min_def]; split <;> omega) (by rw [List.length_drop]; omega)
      (fun j u hj => by
        rw [List.getElem?_drop] at hj
        have hlt := (List.getElem?_eq_some_iff.1 hj).1
        rw [← hct.out, List.getElem?_take_of_lt (by omega)] at hj
        rw [Addr.add_lit]
        have hb : ((W.alloc (.cells row0 60)).drew.setRow W.heap.size row1).drew.heap[g]? = some (.cells cur 60 (0, 0)) := by
          show ((W.alloc (.cells row0 60)).drew.setRow W.heap.size row1).heap[g]? = _
          rw [setRow_heap_ne _ _ g row1 (by omega)]
          exact (Below.heap_alloc W _ g hgl).trans hg.out
        simp only [World.cell?, hb]
        rw [← Array.getElem?_toList]
        rw [show k * 3 + j = k * 3 + j by omega]; exact hj)
      (by rw [hr1, List.length_drop]; omega) (fun u hu => h2.out u (List.mem_of_mem_drop hu))
    rw [this, HR2.out]
  clear hkk hik hold
  go_enter Try.func77, Try.ntmps77
  go_wp2_with (at_builtin; refine Lib.wpList_append_run _ rfl _ _ _ _ rfl _ _ rfl rfl _ _ (hrz.out _) ?_)
  go_region
  go_wp2
  go_ret
  have hgr : row2.toList.take ((vc + 1) * 3) = insAt 3 k x xs := grow_list 3 (k * 3) ((k + 1) * 3) k vc row0.toList row1.toList row2.toList x xs ((Builtin.zeroCells (Value.agg #[.int .i64 0, .int .i64 0, .int .i64 0]).cells (vc + 1 - k)).toList ++ (Builtin.zeroCells (Value.agg #[.int .i64 0, .int .i64 0, .int .i64 0]).cells (G - (vc + 1))).toList) (by omega) (by omega) hxl' hx' hk (by rw [HR0.out]; simp) (by simp [Builtin.zeroCells, Value.cells]; omega) (by rw [HR1.out]) (by rw [HR2.out])
  have hr2 : row2.size = G * 3 := by
    rw [HR2.out]; simp only [List.size_toArray, List.length_append, List.length_take, List.length_drop, Array.length_toList, hr1, hxl']; omega
  have hA2 : ((W.alloc (.cells row0 60)).drew.setRow W.heap.size row1).drew.setRow W.heap.size row2 = ((W.alloc (.cells row0 60)).drew.setRow W.heap.size row1).drew.setRow W.heap.size row2 := rfl
  refine ⟨_, rfl, ⟨insAt_len 3 k vc x xs hx' hxl' (by omega), .inr ⟨W.heap.size, G, row2, rfl, hBW, setRow_heap _ _ row1 row2 _ _ hA1, hGn, HGM.out, hr2, hgr⟩⟩, ⟨rfl, rfl, rfl, ?_, fun q hq hne => ?_⟩, .inr rfl⟩
  · rw [setRow_size]
    show W.heap.size ≤ ((W.alloc (.cells row0 60)).drew.setRow W.heap.size row1).heap.size
    rw [setRow_size]
    show W.heap.size ≤ (W.alloc (.cells row0 60)).heap.size
    rw [World.size_alloc]; omega
  · rw [setRow_heap_ne _ _ q row2 (by omega)]
    show ((W.alloc (.cells row0 60)).drew.setRow W.heap.size row1).heap[q]? = _
    rw [setRow_heap_ne _ _ q row1 (by omega)]
    exact Below.heap_alloc W _ q hq
/-- ONE ELEMENT IS SET IN. -/
theorem insA_any (W : World) (B : Nat) (v : Value) (xs x : List Value) (n k vb : Nat) (h0 : W.ownsRow B 60 3 v n xs) (hB : B ≤ W.heap.size) (hx : x.length = 3) (h1 : ∀ u ∈ x, u.oneCell' = true) (h2 : ∀ u ∈ xs, u.oneCell' = true) (hv : Blk W vb 60 x.toArray) (hvb : v.ownBlock ≠ some vb) (hn : n ≤ 5000) (hk : k ≤ n) :
    Calls Try.prog 77 #[v, .int .i64 k, .slice (some ⟨vb, 0, none⟩) 1 1] W fun e W' => ∃ v', e = .returned v' ∧ W'.ownsRow B 60 3 v' (n + 1) (insAt 3 k x xs) ∧ W.grownBy W' v.ownBlock ∧ (v'.ownBlock = v.ownBlock ∨ v'.ownBlock = some W.heap.size) := by
  by_cases hkn : k = n
  · subst hkn
    have e : insAt 3 k x xs = xs ++ x := by
      unfold insAt
      have := h0.1
      rw [List.take_of_length_le (by omega), List.drop_of_length_le (by omega), List.append_nil]
    rw [e]
    exact insA_endK W B v xs x k vb h0 hB hx h1 hv hn
  · rcases h0.2 with ⟨-, h⟩ | ⟨g, cap, cur, rfl, hBg, hg, hnc, hcm, hcs, ht⟩
    · omega
    · have hne : vb ≠ g := fun e => hvb (by rw [e]; rfl)
      by_cases hr : n + 1 ≤ cap
      · exact insA_room W B xs x n k vb g cap cur hg hcs ht h0.1 hx h1 h2 hv hBg hne hn (by omega) hr hcm
      · exact insA_grow W B xs x n k vb g cap cur hg hcs ht h0.1 hx h1 h2 hv hB hn (by omega) hnc (by omega)

end Go.Proofs.Ytbgiliophmofgaa
namespace Go.Proofs.Ytbgiliophmofgaa
open Go.RowKit

theorem rowB_start1 {n : Int} (h : n ≤ 2147483648) (xs : List Int) : rowB n xs = goIs (-1) n xs := by unfold rowB; rw [show min n 2147483648 = n by omega]
theorem rowB_start2 {n : Int} (h : 2147483648 < n) (xs : List Int) : rowB n xs = goIs (-1) 2147483648 xs := by unfold rowB; rw [show min n 2147483648 = 2147483648 by omega]

set_option maxHeartbeats 400000 in
theorem rowIs_some (b off cap : Nat) (xs : List Int) (n : Int) (w : World) (hl : xs.length ≤ 9223372036854775807) (hc : Cells w b off xs) :
    Calls Try.prog 13 #[.slice (some ⟨b, off, none⟩) xs.length cap, .int .i64 n] w fun e w' => e = .returned (.bool (rowB n xs)) ∧ w' = w := by
  by_cases hn : n ≤ 2147483648
  · have HS : Hid (rowB n xs = goIs (-1) n (xs.drop 0)) := rowB_start1 hn xs
    go_enter Try.func13, Try.ntmps13
    go_wp2
    go_loop [5, 12] (fun l i => ∃ (k : Nat) (last : Int), k ≤ xs.length ∧ i = .int .i64 k ∧ l = .int .i64 last ∧ Hid (rowB n xs = goIs last n (xs.drop k))) (fun _ i => xs.length - (intOf i).toNat)
    case atStart => exact ⟨0, -1, Nat.zero_le _, rfl, rfl, HS⟩
    case round =>
      obtain ⟨k, last, hk, rfl, rfl, he⟩ := hrel
      by_cases hlt : k < xs.length
      · obtain ⟨x, HX, hcell⟩ := hc.at hlt
        by_cases h1 : x ≤ last
        · go_wp2
          go_ret
          exact ⟨ret_bool (is_no hlt he HX (.inl h1)), rfl⟩
        · by_cases h2 : n ≤ x
          · go_wp2
            go_ret
            exact ⟨ret_bool (is_no hlt he HX (.inr h2)), rfl⟩
          · go_wp2
            go_round
            case rel => exact ⟨k + 1, x, by omega, by go_num, rfl, is_yes hlt he HX (by omega)⟩
            case measure => simp [intOf]; omega
      · go_wp2
        go_ret
        exact ⟨ret_bool (is_end hlt he), rfl⟩
  · have HS : Hid (rowB n xs = goIs (-1) 2147483648 (xs.drop 0)) := rowB_start2 (by omega) xs
    go_enter Try.func13, Try.ntmps13
    go_wp2
    go_loop [5, 12] (fun l i => ∃ (k : Nat) (last : Int), k ≤ xs.length ∧ i = .int .i64 k ∧ l = .int .i64 last ∧ Hid (rowB n xs = goIs last 2147483648 (xs.drop k))) (fun _ i => xs.length - (intOf i).toNat)
    case atStart => exact ⟨0, -1, Nat.zero_le _, rfl, rfl, HS⟩
    case round =>
      obtain ⟨k, last, hk, rfl, rfl, he⟩ := hrel
      by_cases hlt : k < xs.length
      · obtain ⟨x, HX, hcell⟩ := hc.at hlt
        by_cases h1 : x ≤ last
        · go_wp2
          go_ret
          exact ⟨ret_bool (is_no hlt he HX (.inl h1)), rfl⟩
        · by_cases h2 : 2147483648 ≤ x
          · go_wp2
            go_ret
            exact ⟨ret_bool (is_no hlt he HX (.inr h2)), rfl⟩
          · go_wp2
            go_round
            case rel => exact ⟨k + 1, x, by omega, by go_num, rfl, is_yes hlt he HX (by omega)⟩
            case measure => simp [intOf]; omega
      · go_wp2
        go_ret
        exact ⟨ret_bool (is_end hlt he), rfl⟩

set_option maxHeartbeats 400000 in
theorem rowIs_nil (a : Option Addr) (cap : Nat) (n : Int) (w : World) :
    Calls Try.prog 13 #[.slice a 0 cap, .int .i64 n] w fun e w' => e = .returned (.bool true) ∧ w' = w := by
  go_enter Try.func13, Try.ntmps13
  go_wp2
  all_goals
    refine wp_loop_rounds 1 ?_
    rw [rounds_succ]
    go_wp2
    go_ret
    exact ⟨rfl, rfl⟩

theorem rowIs_any (a : Option Addr) (cap : Nat) (xs : List Int) (n : Int) (w : World) (hs : At w a xs) (hl : xs.length ≤ maxLen) :
    Calls Try.prog 13 #[.slice a xs.length cap, .int .i64 n] w fun e w' => e = .returned (.bool (rowB n xs)) ∧ w' = w := by
  rcases hs with rfl | ⟨b, off, rfl, -, hc⟩
  · exact rowIs_nil a cap n w
  · exact rowIs_some b off cap xs n w hl hc

end Go.Proofs.Ytbgiliophmofgaa
namespace Go.Proofs.Ytbgiliophmofgaa
open Go.RowKit
set_option linter.unusedVariables false

set_option maxHeartbeats 400000 in
theorem within_any (b : Int) (w : World) :
    Calls Try.prog 93 #[.int .i64 b] w fun e w' => e = .returned (.func (.func 99) #[] #[.pointer (some ⟨w.heap.size, 0, none⟩)]) ∧ w' = w.alloc (.cells #[.int .i64 b] 3) := by
  have hmf : ∀ (fn : Fn) (first cap : Array Value) (w : World), (Instr.makeFunc fn first cap).run Try.prog w = .ok (.func fn first cap) w := fun _ _ _ _ => rfl
  go_enter Try.func93, Try.ntmps93
  go_wp2
  go_ret
  exact ⟨rfl, rfl⟩

/-- Is a number from 0 to below a bound? -/
def inB (b n : Int) : Bool := decide (0 ≤ n ∧ n < b)

set_option maxHeartbeats 400000 in
theorem within1_any (b n : Int) (B : Nat) (w : World) (hc : w.cell? ⟨B, 0, none⟩ = some (.int .i64 b)) :
    Calls Try.prog 99 #[.int .i64 n, .pointer (some ⟨B, 0, none⟩)] w fun e w' => e = .returned (.bool (inB b n)) ∧ w' = w := by
  by_cases h1 : 0 ≤ n
  · by_cases h2 : n < b
    · have hr : Hid (true = inB b n) := show true = inB b n by simp [inB, h1, h2]
      have f1 : decide (0 ≤ n) = true := by simpa using h1
      have f2 : decide (n < b) = true := by simpa using h2
      go_enter Try.func99, Try.ntmps99
      go_wp2
      go_ret
      exact ⟨ret_bool hr.out, rfl⟩
    · have hr : Hid (false = inB b n) := show false = inB b n by simp [inB]; omega
      have f1 : decide (0 ≤ n) = true := by simpa using h1
      have f2 : decide (n < b) = false := by simpa using h2
      go_enter Try.func99, Try.ntmps99
      go_wp2
      go_ret
      exact ⟨ret_bool hr.out, rfl⟩
  · have hr : Hid (false = inB b n) := show false = inB b n by simp [inB]; omega
    have f1 : decide (0 ≤ n) = false := by simpa using h1
    go_enter Try.func99, Try.ntmps99
    go_wp2
    go_ret
    exact ⟨ret_bool hr.out, rfl⟩

end Go.Proofs.Ytbgiliophmofgaa
namespace Go.Proofs.Ytbgiliophmofgaa
open Go.RowKit
set_option linter.unusedVariables false
set_option maxRecDepth 100000

set_option maxHeartbeats 400000 in
theorem isNaN_any (x : Int) (w : World) : Calls Try.prog 96 #[.int .i64 x] w fun e w' => e = .returned (.bool false) ∧ w' = w := by
  have h : (x != x) = false := by simp
  go_enter Try.func96, Try.ntmps96
  go_wp2
  go_ret
  exact ⟨rfl, rfl⟩

/-- -1, 0 or 1. -/
def cmpI (x y : Int) : Int := if x < y then -1 else if y < x then 1 else 0

theorem ret_i64 {a b : Int} (h : a = b) : Ending.returned (.int .i64 a) = .returned (.int .i64 b) := by rw [h]

set_option maxHeartbeats 1000000 in
theorem cmp_any (x y : Int) (w : World) : Calls Try.prog 90 #[.int .i64 x, .int .i64 y] w fun e w' => e = .returned (.int .i64 (cmpI x y)) ∧ w' = w := by
  have c1 := isNaN_any x
  have c2 := isNaN_any y
  by_cases h1 : x < y
  · have hr : Hid ((-1 : Int) = cmpI x y) := by show _ = _; simp [cmpI, h1]
    have f1 : decide (x < y) = true := by simpa using h1
    go_enter Try.func90, Try.ntmps90
    go_wp2_with (first | (go_at_call 96; refine (c1 _).mono ?_; rintro e w' ⟨rfl, rfl⟩) | (go_at_call 96; refine (c2 _).mono ?_; rintro e w' ⟨rfl, rfl⟩))
    go_ret
    exact ⟨ret_i64 hr.out, rfl⟩
  · have f1 : decide (x < y) = false := by simpa using h1
    by_cases h2 : y < x
    · have hr : Hid ((1 : Int) = cmpI x y) := by show _ = _; simp [cmpI, h1, h2]
      have f2 : decide (y < x) = true := by simpa using h2
      go_enter Try.func90, Try.ntmps90
      go_wp2_with (first | (go_at_call 96; refine (c1 _).mono ?_; rintro e w' ⟨rfl, rfl⟩) | (go_at_call 96; refine (c2 _).mono ?_; rintro e w' ⟨rfl, rfl⟩))
      go_ret
      exact ⟨ret_i64 hr.out, rfl⟩
    · have hr : Hid ((0 : Int) = cmpI x y) := by show _ = _; simp [cmpI, h1, h2]
      have f2 : decide (y < x) = false := by simpa using h2
      go_enter Try.func90, Try.ntmps90
      go_wp2_with (first | (go_at_call 96; refine (c1 _).mono ?_; rintro e w' ⟨rfl, rfl⟩) | (go_at_call 96; refine (c2 _).mono ?_; rintro e w' ⟨rfl, rfl⟩))
      go_ret
      exact ⟨ret_i64 hr.out, rfl⟩

/-- The first that is not 0. -/
def orI (x y z : Int) : Int := if x = 0 then (if y = 0 then z else y) else x

set_option maxHeartbeats 1000000 in
theorem or_any (x y z : Int) (b : Nat) (w : World) (h0 : w.cell? ⟨b, 0, none⟩ = some (.int .i64 x)) (h1 : w.cell? ⟨b, 1, none⟩ = some (.int .i64 y)) (h2 : w.cell? ⟨b, 2, none⟩ = some (.int .i64 z)) :
    Calls Try.prog 89 #[.slice (some ⟨b, 0, none⟩) 3 3] w fun e w' => e = .returned (.int .i64 (orI x y z)) ∧ w' = w := by
  by_cases e0 : x = 0
  · subst e0
    by_cases e1 : y = 0
    · subst e1
      by_cases e2 : z = 0
      · subst e2
        go_enter Try.func89, Try.ntmps89
        go_wp2
        refine wp_loop_rounds 4 ?_
        rw [rounds_succ]
        go_wp2
        rw [rounds_succ]
        go_wp2
        rw [rounds_succ]
        go_wp2
        rw [rounds_succ]
        go_wp2
        go_ret
        exact ⟨ret_i64 (by simp [orI]), rfl⟩
      · have f2 : (z == 0) = false := by simpa using e2
        have f2' : (z != 0) = true := by simpa using e2
        have hr : Hid (z = orI 0 0 z) := by show _ = _; simp [orI]
        go_enter Try.func89, Try.ntmps89
        go_wp2
        refine wp_loop_rounds 4 ?_
        rw [rounds_succ]
        go_wp2
        rw [rounds_succ]
        go_wp2
        rw [rounds_succ]
        go_wp2
        go_ret
        exact ⟨ret_i64 hr.out, rfl⟩
    · have f1 : (y == 0) = false := by simpa using e1
      have f1' : (y != 0) = true := by simpa using e1
      have hr : Hid (y = orI 0 y z) := by show _ = _; simp [orI, e1]
      go_enter Try.func89, Try.ntmps89
      go_wp2
      refine wp_loop_rounds 4 ?_
      rw [rounds_succ]
      go_wp2
      rw [rounds_succ]
      go_wp2
      go_ret
      exact ⟨ret_i64 hr.out, rfl⟩
  · have f0 : (x == 0) = false := by simpa using e0
    have f0' : (x != 0) = true := by simpa using e0
    have hr : Hid (x = orI x y z) := by show _ = _; simp [orI, e0]
    go_enter Try.func89, Try.ntmps89
    go_wp2
    refine wp_loop_rounds 4 ?_
    rw [rounds_succ]
    go_wp2
    go_ret
    exact ⟨ret_i64 hr.out, rfl⟩

/-- Which of two arrows stands ahead, by its sign. -/
def cmpA (a b : Arr) : Int := orI (cmpI a.f b.f) (cmpI a.e b.e) (cmpI a.t b.t)

theorem cmpA_ahead (a b : Arr) : decide (0 ≤ cmpA a b) = !aheadB a b := by
  unfold cmpA aheadB orI cmpI
  by_cases h1 : a.f < b.f
  · simp [h1, show ¬ a.f = b.f by omega]
  · by_cases h2 : b.f < a.f
    · simp [h1, h2, show ¬ a.f = b.f by omega]
    · have e : a.f = b.f := by omega
      by_cases h3 : a.e < b.e
      · simp [e, h3, show ¬ a.e = b.e by omega]
      · by_cases h4 : b.e < a.e
        · simp [e, h3, h4, show ¬ a.e = b.e by omega]
        · have e' : a.e = b.e := by omega
          by_cases h5 : a.t < b.t
          · simp [e, e', h5]
          · by_cases h6 : b.t < a.t
            · simp [e, e', h5, h6]
            · simp [e, e', h5, h6]

end Go.Proofs.Ytbgiliophmofgaa
namespace Go.Proofs.Ytbgiliophmofgaa
open Go.RowKit
set_option linter.unusedVariables false

/-- An arrow's cells. -/
abbrev acells (a : Arr) : Array Value := #[.int .i64 a.f, .int .i64 a.e, .int .i64 a.t]

set_option maxRecDepth 100000 in
set_option maxHeartbeats 4000000 in
theorem compare_any (a b : Arr) (w : World) :
    Calls Try.prog 76 #[.agg (acells a), .agg (acells b)] w fun e w' => e = .returned (.int .i64 (cmpA a b)) ∧ Below w.heap.size w w' := by
  have k1 : Blk ((w.alloc (.cells (acells a) 60)).alloc (.cells (acells b) 60)) w.heap.size 60 (acells a) := (Blk.new w _ _).alloc _
  have k2 : Blk ((w.alloc (.cells (acells a) 60)).alloc (.cells (acells b) 60)) (w.heap.size + 1) 60 (acells b) := by
    have := Blk.new (w.alloc (.cells (acells a) 60)) 60 (acells b)
    rwa [World.size_alloc] at this
  have hB : Below w.heap.size w ((w.alloc (.cells (acells a) 60)).alloc (.cells (acells b) 60)) := ((Below.refl _ _).alloc (Nat.le_refl _) _).alloc (by simp) _
  have hsz : ((w.alloc (.cells (acells a) 60)).alloc (.cells (acells b) 60)).heap.size = w.heap.size + 2 := by simp
  have K1 := Hid.of k1
  have K2 := Hid.of k2
  have HB := Hid.of hB
  have HS := Hid.of hsz
  clear k1 k2 hB hsz
  go_enter Try.func76, Try.ntmps76
  go_wp2
  revert K1 K2 HB HS
  generalize (w.alloc (.cells (acells a) 60)).alloc (.cells (acells b) 60) = V
  intro K1 K2 HB HS
  have a0 : V.cell? ⟨w.heap.size, 0, none⟩ = some (.int .i64 a.f) := K1.out.cell 0 rfl
  have a1 : V.cell? ⟨w.heap.size, 1, none⟩ = some (.int .i64 a.e) := K1.out.cell 1 rfl
  have a2 : V.cell? ⟨w.heap.size, 2, none⟩ = some (.int .i64 a.t) := K1.out.cell 2 rfl
  have b0 : V.cell? ⟨w.heap.size + 1, 0, none⟩ = some (.int .i64 b.f) := K2.out.cell 0 rfl
  have b1 : V.cell? ⟨w.heap.size + 1, 1, none⟩ = some (.int .i64 b.e) := K2.out.cell 1 rfl
  have b2 : V.cell? ⟨w.heap.size + 1, 2, none⟩ = some (.int .i64 b.t) := K2.out.cell 2 rfl
  have hs := HS.out
  have hn1 : w.heap.size < V.heap.size := by omega
  have hn2 : w.heap.size + 1 < V.heap.size := by omega
  have n1 := World.new_ne V _ a0
  have n2 := World.new_ne V _ b0
  go_region_held3 (fun w' => w'.cell? ⟨w.heap.size, 0, none⟩ = some (.int .i64 a.f) ∧ w'.cell? ⟨w.heap.size, 1, none⟩ = some (.int .i64 a.e) ∧ w'.cell? ⟨w.heap.size, 2, none⟩ = some (.int .i64 a.t) ∧ w'.cell? ⟨w.heap.size + 1, 0, none⟩ = some (.int .i64 b.f) ∧ w'.cell? ⟨w.heap.size + 1, 1, none⟩ = some (.int .i64 b.e) ∧ w'.cell? ⟨w.heap.size + 1, 2, none⟩ = some (.int .i64 b.t)) (go_keep) (first | (go_at_call 90; refine (cmp_any _ _ _).mono ?_; rintro e w1 ⟨rfl, rfl⟩) | (go_at_call 89; refine (or_any (cmpI a.f b.f) (cmpI a.e b.e) (cmpI a.t b.t) _ _ (by go_simp) (by go_simp) (by go_simp)).mono ?_; rintro e w1 ⟨rfl, rfl⟩))
  go_wp2
  go_ret
  exact ⟨rfl, (HB.out.alloc HB.out.size _).drew⟩

end Go.Proofs.Ytbgiliophmofgaa
