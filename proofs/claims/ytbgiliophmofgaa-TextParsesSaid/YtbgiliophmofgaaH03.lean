/-
  Small facts on rows that a call has made: their blocks are apart by their types; a block that is another object.
  slices.Insert of one element into a row of the call's own, at lists of integers and of arrows.
  The walk of jalousieref2.ahead.
  The walk of jalousieref1.Has: whether a list has a number.
  The walks of jalousieref1.Same (two lists are one) and of jalousieref1.Only (the numbers of a list that are, or are not, in another).
-/
import Derived.Test.YtbgiliophmofgaaH02
import Derived.Test.YtbgiliophmofgaaH01
import Derived.Laws.CopyRow
import Derived.Lib.Overlaps
import Derived.Lib.AppendZerosOnto
import Derived.Deep.RegionLaw
import Derived.Deep.QuietTactic
import Derived.BigQuiet
namespace Go.Proofs.Ytbgiliophmofgaa
open Go.RowKit
set_option linter.unusedVariables false

theorem own_type {W : World} {B s n k : Nat} {e : TypeId} {v : Value} {xs : List Value} (h : W.ownsRow B e s v n xs) (hk : v.ownBlock = some k) : ∃ cs, W.heap[k]? = some (.cells cs e (0, 0)) := by
  rcases h.2 with ⟨rfl, -⟩ | ⟨g, cap, cur, rfl, hg, hh, -⟩
  · cases hk
  · cases hk; exact ⟨cur, hh⟩
theorem own_apart {W : World} {B B' s s' n n' : Nat} {e e' : TypeId} {v v' : Value} {xs xs' : List Value} (h : W.ownsRow B e s v n xs) (h' : W.ownsRow B' e' s' v' n' xs') (hne : e ≠ e') : v.ownBlock = none ∨ v.ownBlock ≠ v'.ownBlock := by
  cases hk : v.ownBlock with
  | none => exact .inl rfl
  | some k =>
    refine .inr fun e1 => ?_
    obtain ⟨c1, h1⟩ := own_type h hk
    obtain ⟨c2, h2⟩ := own_type h' e1.symm
    rw [h1] at h2; cases h2; exact hne rfl
theorem own_form2 {W : World} {B s n : Nat} {e : TypeId} {v : Value} {xs : List Value} (h : W.ownsRow B e s v n xs) : ∃ a c, v = .slice a n c ∧ n ≤ c ∧ c ≤ maxLen ∧ (a = none → c = 0) := by
  rcases h.2 with ⟨rfl, rfl⟩ | ⟨g, cap, cur, rfl, -, -, h1, h2, -⟩
  · exact ⟨none, 0, rfl, Nat.le_refl _, Nat.zero_le _, fun _ => rfl⟩
  · exact ⟨_, cap, rfl, h1, h2, fun h => by cases h⟩
theorem own_same {W W' : World} {B s n : Nat} {e : TypeId} {v : Value} {xs : List Value} (h : W.ownsRow B e s v n xs) (hb : ∀ k, v.ownBlock = some k → W'.heap[k]? = W.heap[k]?) : W'.ownsRow B e s v n xs := by
  refine ⟨h.1, ?_⟩
  rcases h.2 with hn | ⟨g, cap, cur, rfl, hg, hgg, rest⟩
  · exact .inl hn
  · exact .inr ⟨g, cap, cur, rfl, hg, (hb g rfl).trans hgg, rest⟩
theorem cells_three (W W' : World) (hW : W'.heap = W.heap) (t : TypeId) (x y z : Value) : ∀ j u, ([x, y, z] : List Value)[j]? = some u → (W'.alloc (.cells #[x, y, z] t)).cell? ((⟨W.heap.size, 0, none⟩ : Addr).add j) = some u := by
  intro j u hu
  rw [addr0_add, Nat.zero_add, ← hW]
  exact (Blk.new W' t #[x, y, z]).cell j (by rw [← Array.getElem?_toList]; exact hu)
theorem ownsRow_set {W : World} {B b j s n : Nat} {e : TypeId} {v : Value} {xs : List Value} (h : W.ownsRow B e s v n xs) (hb : b < B) (x : Value) : (W.setCell ⟨b, j, none⟩ x).ownsRow B e s v n xs := by
  refine ⟨h.1, ?_⟩
  rcases h.2 with hn | ⟨g, cap, cur, rfl, hg, hgg, rest⟩
  · exact .inl hn
  · exact .inr ⟨g, cap, cur, rfl, hg, (Below.heap_setCell W ⟨b, j, none⟩ x g (by show g ≠ b; omega)).trans hgg, rest⟩

end Go.Proofs.Ytbgiliophmofgaa
namespace Go.Proofs.Ytbgiliophmofgaa
open Go.RowKit
set_option linter.unusedVariables false

theorem run_copy_rowS {P : Program} (w : World) (dT sT ty elem : TypeId) (g o dLen dCap : Nat) (a : Addr) (sLen sCap : Nat) (cur : Array Value) (t : TypeId) (cs : List Value) (size m : Nat)
    (hu : P.underlying dT = some (.slice elem)) (hs : (P.info? elem).map (·.size) = some size)
    (hg : w.heap[g]? = some (.cells cur t (0, 0))) (hm : m = Nat.min sLen dLen) (hn : cs.length = m * size)
    (hsrc : ∀ j v, cs[j]? = some v → w.cell? (a.add j) = some v) (hfit : o + cs.length ≤ cur.size) (h1 : ∀ v ∈ cs, v.oneCell' = true) :
    (Builtin.copy_ #[dT, sT] ty #[.slice (some ⟨g, o, none⟩) dLen dCap, .slice (some a) sLen sCap]).run P w =
      .ok (goInt m) (w.setRow g (cur.toList.take o ++ cs ++ cur.toList.drop (o + cs.length)).toArray) := by
  have hl := run_loadCells_list (P := P) w a cs hsrc
  have hst := run_storeCells_at P g o t cs 0 cur w hg (by simpa using hfit) h1
  subst hm
  cases hq : P.info? elem with
  | none => simp [hq] at hs
  | some i =>
    have hi : i.size = size := by simpa [hq] using hs
    simp [Builtin.copy_, run_underlying hu, Builtin.lenOf, Builtin.firstCells, sizeOf, typeInfo, hq, hi, ← hn, hl, hst]
theorem setRow_heap_ne (w : World) (g q : Nat) (cs : Array Value) (h : q ≠ g) : (w.setRow g cs).heap[q]? = w.heap[q]? := by
  unfold World.setRow
  show (w.heap.modify g _)[q]? = _
  rw [Array.getElem?_modify, if_neg (Ne.symm h)]
theorem setRow_size (w : World) (g : Nat) (cs : Array Value) : (w.setRow g cs).heap.size = w.heap.size := by
  show (w.heap.modify g _).size = _
  rw [Array.size_modify]
/-- An element is set in. -/
def insAt (s k : Nat) (x xs : List Value) : List Value := xs.take (k * s) ++ x ++ xs.drop (k * s)
theorem grow_list (s a b k n : Nat) (r0 r1 r2 x xs Z : List Value) (ha : a = k * s) (hb : b = (k + 1) * s) (hl : xs.length = n * s) (hx : x.length = s) (hk : k < n) (h0 : r0 = xs.take (k * s) ++ Z) (hZ : s ≤ Z.length) (h1 : r1 = r0.take a ++ x ++ r0.drop (a + x.length)) (h2 : r2 = r1.take b ++ xs.drop (k * s) ++ r1.drop (b + (xs.drop (k * s)).length)) : r2.take ((n + 1) * s) = insAt s k x xs := by
  have e1 : (k + 1) * s = k * s + s := by rw [Nat.add_mul, Nat.one_mul]
  have e2 : (k + 1) * s ≤ n * s := Nat.mul_le_mul_right _ hk
  have e3 : (n + 1) * s = n * s + s := by rw [Nat.add_mul, Nat.one_mul]
  have htl : (xs.take (k * s)).length = k * s := by rw [List.length_take]; omega
  have hr1 : r1 = (xs.take (k * s) ++ x) ++ r0.drop (a + x.length) := by
    rw [h1, h0, ha, List.take_append_of_le_length (by omega), List.take_take, Nat.min_self]
  have hr2 : r2 = insAt s k x xs ++ r1.drop (b + (xs.drop (k * s)).length) := by
    rw [h2]
    congr 1
    unfold insAt
    rw [hr1, List.take_append_of_le_length (by rw [List.length_append, htl, hx, hb]; omega), List.take_of_length_le (by rw [List.length_append, htl, hx, hb]; omega)]
  have hil : (insAt s k x xs).length = (n + 1) * s := by
    unfold insAt
    simp only [List.length_append, htl, List.length_drop]
    omega
  rw [hr2, List.take_append_of_le_length (by omega), List.take_of_length_le (by omega)]
theorem insAt_len (s k n : Nat) (x xs : List Value) (hx : x.length = s) (hl : xs.length = n * s) (hk : k ≤ n) : (insAt s k x xs).length = (n + 1) * s := by
  have h1 : k * s ≤ n * s := Nat.mul_le_mul_right _ hk
  have h3 : (n + 1) * s = n * s + s := by rw [Nat.add_mul, Nat.one_mul]
  unfold insAt
  simp only [List.length_append, List.length_take, List.length_drop]
  omega
theorem ins_list (s : Nat) (c xs x : List Value) (n k : Nat) (ht : c.take (n * s) = xs) (hl : xs.length = n * s) (hx : x.length = 1 * s) (hc : (n + 1) * s ≤ c.length) (hk : k < n) :
    (c.take ((k + 1) * s) ++ xs.drop (k * s) ++ c.drop ((n + 1) * s)).take (k * s) ++ x ++ (c.take ((k + 1) * s) ++ xs.drop (k * s) ++ c.drop ((n + 1) * s)).drop (k * s + 1 * s) = insAt s k x xs ++ c.drop ((n + 1) * s) := by
  have h1 : (k + 1) * s = k * s + s := by rw [Nat.add_mul, Nat.one_mul]
  have h2 : (k + 1) * s ≤ n * s := Nat.mul_le_mul_right _ hk
  have h3 : (n + 1) * s = n * s + s := by rw [Nat.add_mul, Nat.one_mul]
  have hcl : (c.take ((k + 1) * s)).length = k * s + s := by rw [List.length_take]; omega
  have e : c.take ((k + 1) * s) ++ xs.drop (k * s) ++ c.drop ((n + 1) * s) = c.take ((k + 1) * s) ++ (xs.drop (k * s) ++ c.drop ((n + 1) * s)) := List.append_assoc _ _ _
  rw [e, List.take_append_of_le_length (by omega), List.take_take, Nat.min_eq_left (by omega), Nat.one_mul, List.drop_append, List.drop_of_length_le (by omega), List.nil_append, hcl, Nat.sub_self, List.drop_zero]
  unfold insAt
  rw [← ht, List.take_take, Nat.min_eq_left (by omega)]
  simp

theorem Try.infoIntI : (Try.prog.info? 3).map (fun i => (i.zero, i.size, i.bytes)) = some (some (.int .i64 0), 1, 8) := by kernel_rfl
set_option maxRecDepth 100000 in
set_option maxHeartbeats 8000000 in
theorem insI_end (W : World) (B : Nat) (v : Value) (xs x : List Value) (n vb : Nat) (h0 : Hid (W.ownsRow B 3 1 v n xs)) (hB : Hid (B ≤ W.heap.size)) (hx : x.length = 1) (h1 : Hid (∀ u ∈ x, u.oneCell' = true)) (hv : Hid (Blk W vb 3 x.toArray)) (hn : n ≤ 5000) :
    Calls Try.prog 74 #[v, .int .i64 n, .slice (some ⟨vb, 0, none⟩) 1 1] W fun e W' => ∃ v', e = .returned v' ∧ W'.ownsRow B 3 1 v' (n + 1) (xs ++ x) ∧ W.grownBy W' v.ownBlock ∧ (v'.ownBlock = v.ownBlock ∨ v'.ownBlock = some W.heap.size) := by
  obtain ⟨i0, hi, hz0, hz1, hz2⟩ := info_parts Try.infoIntI
  obtain ⟨va, vc, hva, hle, hmx, -⟩ := own_form2 h0.out
  subst hva
  unfold maxLen at hmx
  go_enter Try.func74, Try.ntmps74
  have hxc : ∀ j u, x[j]? = some u → W.cell? ((⟨vb, 0, none⟩ : Addr).add j) = some u := fun j u hj => by
    rw [addr0_add, Nat.zero_add]; exact hv.out.cell j (by simpa using hj)
  have HXC := Hid.of hxc
  clear hxc
  cases va with
  | none =>
    have hn0 : n = 0 ∧ vc = 0 := by
      rcases h0.out.2 with ⟨e1, e2⟩ | ⟨g, cap, cur, e1, -⟩
      · cases e1; exact ⟨rfl, rfl⟩
      · cases e1
    obtain ⟨rfl, rfl⟩ := hn0
    go_wp2_with (at_builtin; refine wpList_append_block _ rfl (.tmp 23) (.tmp 24) 23 rfl B 3 i0 _ 1 8 Try.underlying23 hi hz0 hz1 hz2 rfl (by decide) _ _ _ rfl h0.out ⟨vb, 0, none⟩ 1 1 x rfl (by rw [hx]) HXC.out h1.out (by decide) (by unfold maxLen; omega) (by omega) hB.out ?_)
    intro v9 W2 o9 g9 n9
    obtain ⟨a2, c2, hv2, -, -, -⟩ := own_form2 o9
    subst hv2
    have O9 := Hid.of o9
    have G9 := Hid.of g9
    have N9 := Hid.of n9
    clear o9 g9 n9
    go_wp2
    go_ret
    exact ⟨_, rfl, O9.out, G9.out, N9.out⟩
  | some a =>
    obtain ⟨g, off, sp⟩ := a
    have hoff : off = 0 ∧ sp = none := by
      rcases h0.out.2 with ⟨e1, -⟩ | ⟨g, cap, cur, e1, -⟩
      · cases e1
      · cases e1; exact ⟨rfl, rfl⟩
    obtain ⟨rfl, rfl⟩ := hoff
    by_cases hcn : vc = n
    · subst hcn
      go_wp2_with (at_builtin; refine wpList_append_block _ rfl (.tmp 23) (.tmp 24) 23 rfl B 3 i0 _ 1 8 Try.underlying23 hi hz0 hz1 hz2 rfl (by decide) _ _ _ rfl h0.out ⟨vb, 0, none⟩ 1 1 x rfl (by rw [hx]) HXC.out h1.out (by decide) (by unfold maxLen; omega) (by omega) hB.out ?_)
      intro v9 W2 o9 g9 n9
      obtain ⟨a2, c2, hv2, -, -, -⟩ := own_form2 o9
      subst hv2
      have O9 := Hid.of o9
      have G9 := Hid.of g9
      have N9 := Hid.of n9
      clear o9 g9 n9
      go_wp2
      go_ret
      exact ⟨_, rfl, O9.out, G9.out, N9.out⟩
    · have hcn2 : ¬ n = vc := fun e => hcn e.symm
      go_wp2_with (at_builtin; refine wpList_append_block _ rfl (.tmp 23) (.tmp 24) 23 rfl B 3 i0 _ 1 8 Try.underlying23 hi hz0 hz1 hz2 rfl (by decide) _ _ _ rfl h0.out ⟨vb, 0, none⟩ 1 1 x rfl (by rw [hx]) HXC.out h1.out (by decide) (by unfold maxLen; omega) (by omega) hB.out ?_)
      intro v9 W2 o9 g9 n9
      obtain ⟨a2, c2, hv2, -, -, -⟩ := own_form2 o9
      subst hv2
      have O9 := Hid.of o9
      have G9 := Hid.of g9
      have N9 := Hid.of n9
      clear o9 g9 n9
      go_wp2
      go_ret
      exact ⟨_, rfl, O9.out, G9.out, N9.out⟩
set_option maxRecDepth 100000 in
set_option maxHeartbeats 8000000 in
theorem insI_room (W : World) (B : Nat) (xs x : List Value) (n k vb g vc : Nat) (cur : Array Value) (hg : Hid (W.heap[g]? = some (.cells cur 3 (0, 0)))) (hcs : Hid (cur.size = vc * 1)) (hct : Hid (cur.toList.take (n * 1) = xs)) (hxl : Hid (xs.length = n * 1)) (hx : Hid (x.length = 1)) (h1 : Hid (∀ u ∈ x, u.oneCell' = true)) (h2 : Hid (∀ u ∈ xs, u.oneCell' = true)) (hv : Hid (Blk W vb 3 x.toArray)) (hBg : B ≤ g) (hvg : vb ≠ g) (hn : n ≤ 5000) (hk : k < n) (hroom : n + 1 ≤ vc) (hmx : vc ≤ maxLen) :
    Calls Try.prog 74 #[.slice (some ⟨g, 0, none⟩) n vc, .int .i64 k, .slice (some ⟨vb, 0, none⟩) 1 1] W fun e W' => ∃ v', e = .returned v' ∧ W'.ownsRow B 3 1 v' (n + 1) (insAt 1 k x xs) ∧ W.grownBy W' (some g) ∧ (v'.ownBlock = some g ∨ v'.ownBlock = some W.heap.size) := by
  have HMX := Hid.of hmx
  unfold maxLen at hmx
  have hz2 : ¬ ((k : Int) = (n : Int)) := by omega
  have hz3 : ((k : Int) == (n : Int)) = false := beq_eq_false_iff_ne.2 (by omega)
  have hw1 : IntKind.i64.wrap ((k : Int) + 1) = (k : Int) + 1 := by rw [IntKind.wrap_i64]; omega
  have hw2 : IntKind.i64.wrap ((n : Int) + 1) = (n : Int) + 1 := by rw [IntKind.wrap_i64]; omega
  have hb1 : (0 : Int) ≤ (k : Int) + 1 := by omega
  have hb2 : ¬ (vc = k + 1) := by omega
  have hb3 : (k : Int) ≤ (n : Int) + 1 := by omega
  have hb4 : ¬ (vc = k) := by omega
  have hb7 : k ≤ n := by omega
  have hb8 : (k : Int) ≤ (n : Int) := by omega
  have hb9 : (k : Int) + 1 ≤ (n : Int) + 1 := by omega
  have htn : ((k : Int) + 1).toNat = k + 1 := by omega
  have hb5 : (n : Int) + 1 ≤ (vc : Int) := by omega
  have hb6 : ¬ ((vc : Int) < (n : Int) + 1) := by omega
  have hov : ∀ (V : World) o lb cb, V.heap = W.heap → (callFunc 87 #[.slice (some ⟨vb, 0, none⟩) 1 1, .slice (some ⟨g, o, none⟩) lb cb]).run Try.prog V = .ok (.value (.bool false)) V := fun V o lb cb hV => by
    rw [run_callFunc_extern Try.func87 (by kernel_rfl) (by kernel_rfl) (by kernel_rfl) (e := Extern.SlicesOverlaps.overlaps #[23, 23] #[4]) (by kernel_rfl),
      Lib.run_overlaps_apart V 23 4 3 Try.underlying23 1 (fun w => by obtain ⟨i0, hi, hz0, hz1, hz2⟩ := info_parts Try.infoIntI; simp [sizeOf, typeInfo, hi, hz1]) ⟨vb, 0, none⟩ ⟨g, o, none⟩ 1 1 lb cb hvg 3 3 x.toArray.size cur.size
        (by have := hv.out; unfold Blk at this; simp [World.shape?, hV, this]) (by have := hg.out; simp [World.shape?, hV, this]) (by have := hcs.out; omega)
        (by have := hv.out; unfold Blk at this; simp [World.frozen?, hV, this]) (by have := hv.out; unfold Blk at this; simp [World.frozen?, hV, this])]
    rfl
  go_enter Try.func74, Try.ntmps74
  have hR1 : Hid (∀ V : World, V.heap = W.heap → ∀ (o1 o2 l1 l2 c1 c2 : Nat) (ty : TypeId), o1 = (k + 1) * 1 → o2 = k * 1 → l1 = n - k → l2 = n + 1 - k → (Builtin.copy_ #[23, 23] ty #[.slice (some ⟨g, o1, none⟩) l1 c1, .slice (some ⟨g, o2, none⟩) l2 c2]).run Try.prog V = .ok (goInt (n - k : Nat)) (V.setRow g (cur.toList.take ((k + 1) * 1) ++ xs.drop (k * 1) ++ cur.toList.drop ((n + 1) * 1)).toArray)) := fun V hV o1 o2 l1 l2 c1 c2 ty e1 e2 e3 e4 => by
    subst e1; subst e2; subst e3; subst e4
    have hxl' := hxl.out
    have hcs' := hcs.out
    have := run_copy_rowS (P := Try.prog) V 23 23 ty 3 g ((k + 1) * 1) (n - k) c1 ⟨g, k * 1, none⟩ (n + 1 - k) c2 cur 3 (xs.drop (k * 1)) 1 (n - k) Try.underlying23 (by obtain ⟨i0, hi, hz0, hz1, hz2⟩ := info_parts Try.infoIntI; simp [hi, hz1]) (by rw [hV]; exact hg.out) (by simp only [Nat.min_def]; split <;> omega) (by rw [List.length_drop]; omega)
      (fun j u hj => by
        rw [List.getElem?_drop] at hj
        have hlt := (List.getElem?_eq_some_iff.1 hj).1
        rw [← hct.out, List.getElem?_take_of_lt (by omega)] at hj
        rw [Addr.add_lit]
        simp only [World.cell?, hV, hg.out]
        rw [← Array.getElem?_toList]; exact hj)
      (by rw [List.length_drop]; omega) (fun u hu => h2.out u (List.mem_of_mem_drop hu))
    have hd : (k + 1) * 1 + (xs.drop (k * 1)).length = (n + 1) * 1 := by rw [List.length_drop, hxl']; omega
    rw [hd] at this
    exact this
  obtain ⟨row1, HR1⟩ : ∃ r, Hid (r = (cur.toList.take ((k + 1) * 1) ++ xs.drop (k * 1) ++ cur.toList.drop ((n + 1) * 1)).toArray) := ⟨_, rfl⟩
  obtain ⟨row2, HR2⟩ : ∃ r, Hid (r = (insAt 1 k x xs ++ cur.toList.drop ((n + 1) * 1)).toArray) := ⟨_, rfl⟩
  rw [← HR1.out] at hR1
  have hR2 : Hid (∀ V U : World, U.heap = W.heap → V.heap = (U.setRow g row1).heap → ∀ (o1 l1 c1 : Nat) (ty : TypeId), o1 = k * 1 → l1 = n + 1 - k → (Builtin.copy_ #[23, 23] ty #[.slice (some ⟨g, o1, none⟩) l1 c1, .slice (some ⟨vb, 0, none⟩) 1 1]).run Try.prog V = .ok (goInt (1 : Nat)) (V.setRow g row2)) := fun V U hU hV o1 l1 c1 ty e1 e2 => by
    subst e1; subst e2
    have hxl' := hxl.out
    have hcs' := hcs.out
    have hx' := hx.out
    have hgg : V.heap[g]? = some (.cells row1 3 (0, 0)) := by
      rw [hV]; exact setRow_heap U g cur row1 3 (0, 0) (by rw [hU]; exact hg.out)
    have hrl : row1.size = cur.size := by
      rw [HR1.out]; simp only [List.size_toArray, List.length_append, List.length_take, List.length_drop, Array.length_toList]; omega
    have := run_copy_rowS (P := Try.prog) V 23 23 ty 3 g (k * 1) (n + 1 - k) c1 ⟨vb, 0, none⟩ 1 1 row1 3 x 1 1 Try.underlying23 (by obtain ⟨i0, hi, hz0, hz1, hz2⟩ := info_parts Try.infoIntI; simp [hi, hz1]) hgg (by simp only [Nat.min_def]; split <;> omega) (by rw [hx']) 
      (fun j u hj => by
        rw [Addr.add_lit, Nat.zero_add]
        have hb : V.heap[vb]? = some (.cells x.toArray 3 (0, 0)) := by
          rw [hV, setRow_heap_ne U g vb row1 hvg, hU]; exact hv.out
        simp only [World.cell?, hb]
        simpa using hj)
      (by rw [hrl, hcs', hx']; omega) (h1.out)
    rw [this, HR2.out]
    congr 3
    rw [HR1.out, hx']
    exact ins_list 1 cur.toList xs x n k hct.out hxl' hx' (by rw [Array.length_toList, hcs']; exact Nat.mul_le_mul_right _ hroom) hk
  go_wp2_with (simp only [hov])
  have hq1 := hR1.out W.drew rfl (k + 1) (k) (n - k) (n + 1 - k) (vc - (k + 1)) (vc - k) 3 (by omega) (by omega) (by omega) (by omega)
  have hq2 := hR2.out (W.drew.setRow g row1) W.drew rfl rfl (k) (n + 1 - k) (vc - k) 3 (by omega) (by omega)
  go_region
  go_wp2
  go_ret
  have hg1 : (W.drew.setRow g row1).heap[g]? = some (.cells row1 3 (0, 0)) := setRow_heap W.drew g cur row1 _ _ hg.out
  refine ⟨_, rfl, ⟨insAt_len 1 k n x xs hx.out hxl.out (by omega), .inr ⟨g, vc, row2, rfl, hBg, setRow_heap (W.drew.setRow g row1) g row1 row2 _ _ hg1, hroom, HMX.out, ?_, ?_⟩⟩, ⟨rfl, rfl, rfl, ?_, fun q hq hne => ?_⟩, .inl rfl⟩
  · have h1 := insAt_len 1 k n x xs hx.out hxl.out (by omega)
    have h2 := hcs.out
    rw [HR2.out]
    simp only [List.size_toArray, List.length_append, List.length_drop, Array.length_toList, h1]
    omega
  · rw [HR2.out, List.take_append_of_le_length (by rw [insAt_len 1 k n x xs hx.out hxl.out (by omega)]; exact Nat.le_refl _), List.take_of_length_le (by rw [insAt_len 1 k n x xs hx.out hxl.out (by omega)]; exact Nat.le_refl _)]
  · show W.heap.size ≤ ((W.drew.setRow g row1).setRow g row2).heap.size
    simp [World.setRow]
  · have hqg : q ≠ g := fun e => hne (by rw [e])
    rw [setRow_heap_ne _ g q row2 hqg, setRow_heap_ne _ g q row1 hqg]
    rfl
set_option maxRecDepth 100000 in
set_option maxHeartbeats 8000000 in
theorem insI_grow (W : World) (B : Nat) (xs x : List Value) (n k vb g vc : Nat) (cur : Array Value) (hg : Hid (W.heap[g]? = some (.cells cur 3 (0, 0)))) (hcs : Hid (cur.size = vc * 1)) (hct : Hid (cur.toList.take (n * 1) = xs)) (hxl : Hid (xs.length = n * 1)) (hx : Hid (x.length = 1)) (h1 : Hid (∀ u ∈ x, u.oneCell' = true)) (h2 : Hid (∀ u ∈ xs, u.oneCell' = true)) (hv : Hid (Blk W vb 3 x.toArray)) (hBW : B ≤ W.heap.size) (hn : n ≤ 5000) (hk : k < n) (hnc : n ≤ vc) (hroom : vc < n + 1) :
    Calls Try.prog 74 #[.slice (some ⟨g, 0, none⟩) n vc, .int .i64 k, .slice (some ⟨vb, 0, none⟩) 1 1] W fun e W' => ∃ v', e = .returned v' ∧ W'.ownsRow B 3 1 v' (n + 1) (insAt 1 k x xs) ∧ W.grownBy W' (some g) ∧ (v'.ownBlock = some g ∨ v'.ownBlock = some W.heap.size) := by
  obtain ⟨i0, hi, hz0, hz1, hz2⟩ := info_parts Try.infoIntI
  have hvc : vc = n := by omega
  subst hvc
  have hgl : g < W.heap.size := (Array.getElem?_eq_some_iff.1 hg.out).1
  have hvl : vb < W.heap.size := hv.out.lt
  have hz2' : ¬ ((k : Int) = (vc : Int)) := by omega
  have hz3 : ((k : Int) == (vc : Int)) = false := beq_eq_false_iff_ne.2 (by omega)
  have hw1 : IntKind.i64.wrap ((k : Int) + 1) = (k : Int) + 1 := by rw [IntKind.wrap_i64]; omega
  have hw2 : IntKind.i64.wrap ((vc : Int) + 1) = (vc : Int) + 1 := by rw [IntKind.wrap_i64]; omega
  have hw3 : IntKind.i64.wrap ((vc : Int) + 1 - (k : Int)) = (vc : Int) + 1 - (k : Int) := by rw [IntKind.wrap_i64]; omega
  have hb1 : (0 : Int) ≤ (k : Int) + 1 := by omega
  have hb4 : ¬ (vc = k) := by omega
  have hb6 : (vc : Int) < (vc : Int) + 1 := by omega
  have hb7 : k ≤ vc := by omega
  have hb8 : (k : Int) ≤ (vc : Int) := by omega
  have hb9 : (k : Int) + 1 ≤ (vc : Int) + 1 := by omega
  have hba : (k : Int) ≤ (vc : Int) + 1 := by omega
  have htn : ((k : Int) + 1).toNat = k + 1 := by omega
  have hkk : (vc : Int) + 1 - (k : Int) = ((vc + 1 - k : Nat) : Int) := by omega
  have hik : k + (vc + 1 - k) = vc + 1 := by omega
  have hold : (Builtin.firstCells i0.size k (.slice (some ⟨g, 0, none⟩) k vc)).run Try.prog W.drew = .ok (xs.take (k * 1)).toArray W.drew := by
    rw [hz1]
    have hxl' := hxl.out
    exact run_firstCells_some W.drew 1 k ⟨g, 0, none⟩ k vc (xs.take (k * 1)) (by rw [List.length_take]; omega) (fun j v hj => by
      have hlt := (List.getElem?_eq_some_iff.1 hj).1
      rw [List.length_take] at hlt
      rw [List.getElem?_take_of_lt (by omega), ← hct.out, List.getElem?_take_of_lt (by omega)] at hj
      rw [Addr.add_lit, Nat.zero_add]
      show W.cell? _ = _
      simp only [World.cell?, hg.out]
      rw [← Array.getElem?_toList]; exact hj)
  obtain ⟨G, HG⟩ : ∃ G, Hid (G = grownCap W (vc + 1) vc 3) := ⟨_, rfl⟩
  obtain ⟨row0, HR0⟩ : ∃ r : Array Value, Hid (r = (xs.take (k * 1)).toArray ++ Builtin.zeroCells (Value.int .i64 0).cells (vc + 1 - k) ++ Builtin.zeroCells (Value.int .i64 0).cells (G - (vc + 1))) := ⟨_, rfl⟩
  have hrz : Hid (∀ ty, (Builtin.append_ #[23, 3] ty #[.slice (some ⟨g, 0, none⟩) k vc, .int .i64 ((vc : Int) + 1 - (k : Int))]).run Try.prog W = .ok (.slice (some ⟨W.heap.size, 0, none⟩) (vc + 1) G) (W.drew.alloc (.cells row0 3))) := fun ty => by
    have h := Lib.run_append_grow_zeros W 23 3 ty 3 i0 _ .i64 .i64 Try.underlying23 Try.underlying3 hi hz0 (some ⟨g, 0, none⟩) k vc (xs.take (k * 1)) hold (vc + 1 - k) (by omega) (by rw [hz1]; omega) (by omega) (by omega) (by rw [hz2]; omega) (by rw [hz2, hik]; exact growslice_fits hroom (by omega))
    rw [hik] at h
    rw [hkk, HR0.out, HG.out]
    exact h
  have hGn : vc + 1 ≤ G := by rw [HG.out]; exact grownCap_ge W _ _ _
  have hGm : G ≤ maxLen := by
    rw [HG.out]
    exact grownCap_le_maxLen W (vc + 1) vc 3 (by unfold maxLen; omega)
  have HGM := Hid.of hGm
  unfold maxLen at hGm
  have hG1 : ¬ (G = k) := by omega
  have hG2 : ¬ (G = k + 1) := by omega
  have hr0 : row0.size = G * 1 := by
    have hxl' := hxl.out
    rw [HR0.out]
    simp [Builtin.zeroCells, Value.cells, hxl']
    omega
  obtain ⟨row1, HR1⟩ : ∃ r, Hid (r = (row0.toList.take (k) ++ x ++ row0.toList.drop (k + x.length)).toArray) := ⟨_, rfl⟩
  obtain ⟨row2, HR2⟩ : ∃ r, Hid (r = (row1.toList.take (k + 1) ++ xs.drop (k * 1) ++ row1.toList.drop (k + 1 + (xs.drop (k * 1)).length)).toArray) := ⟨_, rfl⟩
  have hx' := hx.out
  have hxl' := hxl.out
  have hr1 : row1.size = G * 1 := by
    rw [HR1.out]; simp only [List.size_toArray, List.length_append, List.length_take, List.length_drop, Array.length_toList, hr0, hx']; omega
  have hinf : (Try.prog.info? 3).map (·.size) = some 1 := by simp [hi, hz1]
  have hA0 : Blk (W.alloc (.cells row0 3)) W.heap.size 3 row0 := Blk.new W _ _
  have hq1 : ∀ ty, (Builtin.copy_ #[23, 23] ty #[.slice (some ⟨W.heap.size, k, none⟩) (vc + 1 - k) (G - k), .slice (some ⟨vb, 0, none⟩) 1 1]).run Try.prog (W.alloc (.cells row0 3)).drew = .ok (goInt (1 : Nat)) ((W.alloc (.cells row0 3)).drew.setRow W.heap.size row1) := fun ty => by
    have := run_copy_rowS (P := Try.prog) (W.alloc (.cells row0 3)).drew 23 23 ty 3 W.heap.size (k) (vc + 1 - k) (G - k) ⟨vb, 0, none⟩ 1 1 row0 3 x 1 1 Try.underlying23 hinf hA0 (by simp only [Nat.min_def]; split <;> omega) (by rw [hx'])
      (fun j u hj => by
        rw [Addr.add_lit, Nat.zero_add]
        exact (hv.out.alloc _).cell j (by simpa using hj))
      (by rw [hr0, hx']; omega) h1.out
    rw [this, HR1.out]
  have hA1 : Blk ((W.alloc (.cells row0 3)).drew.setRow W.heap.size row1) W.heap.size 3 row1 := setRow_heap _ _ _ _ _ _ hA0
  have hq2 : ∀ ty, (Builtin.copy_ #[23, 23] ty #[.slice (some ⟨W.heap.size, k + 1, none⟩) (vc - k) (G - (k + 1)), .slice (some ⟨g, k, none⟩) (vc - k) (vc - k)]).run Try.prog ((W.alloc (.cells row0 3)).drew.setRow W.heap.size row1).drew = .ok (goInt (vc - k : Nat)) (((W.alloc (.cells row0 3)).drew.setRow W.heap.size row1).drew.setRow W.heap.size row2) := fun ty => by
    have := run_copy_rowS (P := Try.prog) ((W.alloc (.cells row0 3)).drew.setRow W.heap.size row1).drew 23 23 ty 3 W.heap.size (k + 1) (vc - k) (G - (k + 1)) ⟨g, k, none⟩ (vc - k) (vc - k) row1 3 (xs.drop (k * 1)) 1 (vc - k) Try.underlying23 hinf hA1 (by simp only [Nat.min_def]; split <;> omega) (by rw [List.length_drop]; omega)
      (fun j u hj => by
        rw [List.getElem?_drop] at hj
        have hlt := (List.getElem?_eq_some_iff.1 hj).1
        rw [← hct.out, List.getElem?_take_of_lt (by omega)] at hj
        rw [Addr.add_lit]
        have hb : ((W.alloc (.cells row0 3)).drew.setRow W.heap.size row1).drew.heap[g]? = some (.cells cur 3 (0, 0)) := by
          show ((W.alloc (.cells row0 3)).drew.setRow W.heap.size row1).heap[g]? = _
          rw [setRow_heap_ne _ _ g row1 (by omega)]
          exact (Below.heap_alloc W _ g hgl).trans hg.out
        simp only [World.cell?, hb]
        rw [← Array.getElem?_toList]
        rw [show k + j = k * 1 + j by omega]; exact hj)
      (by rw [hr1, List.length_drop]; omega) (fun u hu => h2.out u (List.mem_of_mem_drop hu))
    rw [this, HR2.out]
  clear hkk hik hold
  go_enter Try.func74, Try.ntmps74
  go_wp2_with (at_builtin; refine Lib.wpList_append_run _ rfl _ _ _ _ rfl _ _ rfl rfl _ _ (hrz.out _) ?_)
  go_region
  go_wp2
  go_ret
  have hgr : row2.toList.take ((vc + 1) * 1) = insAt 1 k x xs := grow_list 1 (k) (k + 1) k vc row0.toList row1.toList row2.toList x xs ((Builtin.zeroCells (Value.int .i64 0).cells (vc + 1 - k)).toList ++ (Builtin.zeroCells (Value.int .i64 0).cells (G - (vc + 1))).toList) (by omega) (by omega) hxl' hx' hk (by rw [HR0.out]; simp) (by simp [Builtin.zeroCells, Value.cells]; omega) (by rw [HR1.out]) (by rw [HR2.out])
  have hr2 : row2.size = G * 1 := by
    rw [HR2.out]; simp only [List.size_toArray, List.length_append, List.length_take, List.length_drop, Array.length_toList, hr1, hxl']; omega
  have hA2 : ((W.alloc (.cells row0 3)).drew.setRow W.heap.size row1).drew.setRow W.heap.size row2 = ((W.alloc (.cells row0 3)).drew.setRow W.heap.size row1).drew.setRow W.heap.size row2 := rfl
  refine ⟨_, rfl, ⟨insAt_len 1 k vc x xs hx' hxl' (by omega), .inr ⟨W.heap.size, G, row2, rfl, hBW, setRow_heap _ _ row1 row2 _ _ hA1, hGn, HGM.out, hr2, hgr⟩⟩, ⟨rfl, rfl, rfl, ?_, fun q hq hne => ?_⟩, .inr rfl⟩
  · rw [setRow_size]
    show W.heap.size ≤ ((W.alloc (.cells row0 3)).drew.setRow W.heap.size row1).heap.size
    rw [setRow_size]
    show W.heap.size ≤ (W.alloc (.cells row0 3)).heap.size
    rw [World.size_alloc]; omega
  · rw [setRow_heap_ne _ _ q row2 (by omega)]
    show ((W.alloc (.cells row0 3)).drew.setRow W.heap.size row1).heap[q]? = _
    rw [setRow_heap_ne _ _ q row1 (by omega)]
    exact Below.heap_alloc W _ q hq
/-- ONE ELEMENT IS SET IN. -/
theorem insI_any (W : World) (B : Nat) (v : Value) (xs x : List Value) (n k vb : Nat) (h0 : W.ownsRow B 3 1 v n xs) (hB : B ≤ W.heap.size) (hx : x.length = 1) (h1 : ∀ u ∈ x, u.oneCell' = true) (h2 : ∀ u ∈ xs, u.oneCell' = true) (hv : Blk W vb 3 x.toArray) (hvb : v.ownBlock ≠ some vb) (hn : n ≤ 5000) (hk : k ≤ n) :
    Calls Try.prog 74 #[v, .int .i64 k, .slice (some ⟨vb, 0, none⟩) 1 1] W fun e W' => ∃ v', e = .returned v' ∧ W'.ownsRow B 3 1 v' (n + 1) (insAt 1 k x xs) ∧ W.grownBy W' v.ownBlock ∧ (v'.ownBlock = v.ownBlock ∨ v'.ownBlock = some W.heap.size) := by
  by_cases hkn : k = n
  · subst hkn
    have e : insAt 1 k x xs = xs ++ x := by
      unfold insAt
      have := h0.1
      rw [List.take_of_length_le (by omega), List.drop_of_length_le (by omega), List.append_nil]
    rw [e]
    exact insI_end W B v xs x k vb h0 hB hx h1 hv hn
  · rcases h0.2 with ⟨-, h⟩ | ⟨g, cap, cur, rfl, hBg, hg, hnc, hcm, hcs, ht⟩
    · omega
    · have hne : vb ≠ g := fun e => hvb (by rw [e]; rfl)
      by_cases hr : n + 1 ≤ cap
      · exact insI_room W B xs x n k vb g cap cur hg hcs ht h0.1 hx h1 h2 hv hBg hne hn (by omega) hr hcm
      · exact insI_grow W B xs x n k vb g cap cur hg hcs ht h0.1 hx h1 h2 hv hB hn (by omega) hnc (by omega)

theorem Try.infoArrI : (Try.prog.info? 60).map (fun i => (i.zero, i.size, i.bytes)) = some (some (.agg #[.int .i64 0, .int .i64 0, .int .i64 0]), 3, 24) := by kernel_rfl
set_option maxRecDepth 100000 in
set_option maxHeartbeats 8000000 in
theorem insA_endK (W : World) (B : Nat) (v : Value) (xs x : List Value) (n vb : Nat) (h0 : Hid (W.ownsRow B 60 3 v n xs)) (hB : Hid (B ≤ W.heap.size)) (hx : x.length = 3) (h1 : Hid (∀ u ∈ x, u.oneCell' = true)) (hv : Hid (Blk W vb 60 x.toArray)) (hn : n ≤ 5000) :
    Calls Try.prog 77 #[v, .int .i64 n, .slice (some ⟨vb, 0, none⟩) 1 1] W fun e W' => ∃ v', e = .returned v' ∧ W'.ownsRow B 60 3 v' (n + 1) (xs ++ x) ∧ W.grownBy W' v.ownBlock ∧ (v'.ownBlock = v.ownBlock ∨ v'.ownBlock = some W.heap.size) := by
  obtain ⟨i0, hi, hz0, hz1, hz2⟩ := info_parts Try.infoArrI
  obtain ⟨va, vc, hva, hle, hmx, -⟩ := own_form2 h0.out
  subst hva
  unfold maxLen at hmx
  go_enter Try.func77, Try.ntmps77
  have hxc : ∀ j u, x[j]? = some u → W.cell? ((⟨vb, 0, none⟩ : Addr).add j) = some u := fun j u hj => by
    rw [addr0_add, Nat.zero_add]; exact hv.out.cell j (by simpa using hj)
  have HXC := Hid.of hxc
  clear hxc
  cases va with
  | none =>
    have hn0 : n = 0 ∧ vc = 0 := by
      rcases h0.out.2 with ⟨e1, e2⟩ | ⟨g, cap, cur, e1, -⟩
      · cases e1; exact ⟨rfl, rfl⟩
      · cases e1
    obtain ⟨rfl, rfl⟩ := hn0
    go_wp2_with (at_builtin; refine wpList_append_block _ rfl (.tmp 23) (.tmp 24) 24 rfl B 60 i0 _ 3 24 Try.underlying24 hi hz0 hz1 hz2 rfl (by decide) _ _ _ rfl h0.out ⟨vb, 0, none⟩ 1 1 x rfl (by rw [hx]) HXC.out h1.out (by decide) (by unfold maxLen; omega) (by omega) hB.out ?_)
    intro v9 W2 o9 g9 n9
    obtain ⟨a2, c2, hv2, -, -, -⟩ := own_form2 o9
    subst hv2
    have O9 := Hid.of o9
    have G9 := Hid.of g9
    have N9 := Hid.of n9
    clear o9 g9 n9
    go_wp2
    go_ret
    exact ⟨_, rfl, O9.out, G9.out, N9.out⟩
  | some a =>
    obtain ⟨g, off, sp⟩ := a
    have hoff : off = 0 ∧ sp = none := by
      rcases h0.out.2 with ⟨e1, -⟩ | ⟨g, cap, cur, e1, -⟩
      · cases e1
      · cases e1; exact ⟨rfl, rfl⟩
    obtain ⟨rfl, rfl⟩ := hoff
    by_cases hcn : vc = n
    · subst hcn
      go_wp2_with (at_builtin; refine wpList_append_block _ rfl (.tmp 23) (.tmp 24) 24 rfl B 60 i0 _ 3 24 Try.underlying24 hi hz0 hz1 hz2 rfl (by decide) _ _ _ rfl h0.out ⟨vb, 0, none⟩ 1 1 x rfl (by rw [hx]) HXC.out h1.out (by decide) (by unfold maxLen; omega) (by omega) hB.out ?_)
      intro v9 W2 o9 g9 n9
      obtain ⟨a2, c2, hv2, -, -, -⟩ := own_form2 o9
      subst hv2
      have O9 := Hid.of o9
      have G9 := Hid.of g9
      have N9 := Hid.of n9
      clear o9 g9 n9
      go_wp2
      go_ret
      exact ⟨_, rfl, O9.out, G9.out, N9.out⟩
    · have hcn2 : ¬ n = vc := fun e => hcn e.symm
      go_wp2_with (at_builtin; refine wpList_append_block _ rfl (.tmp 23) (.tmp 24) 24 rfl B 60 i0 _ 3 24 Try.underlying24 hi hz0 hz1 hz2 rfl (by decide) _ _ _ rfl h0.out ⟨vb, 0, none⟩ 1 1 x rfl (by rw [hx]) HXC.out h1.out (by decide) (by unfold maxLen; omega) (by omega) hB.out ?_)
      intro v9 W2 o9 g9 n9
      obtain ⟨a2, c2, hv2, -, -, -⟩ := own_form2 o9
      subst hv2
      have O9 := Hid.of o9
      have G9 := Hid.of g9
      have N9 := Hid.of n9
      clear o9 g9 n9
      go_wp2
      go_ret
      exact ⟨_, rfl, O9.out, G9.out, N9.out⟩
set_option maxRecDepth 100000 in
set_option maxHeartbeats 8000000 in
theorem insA_room (W : World) (B : Nat) (xs x : List Value) (n k vb g vc : Nat) (cur : Array Value) (hg : Hid (W.heap[g]? = some (.cells cur 60 (0, 0)))) (hcs : Hid (cur.size = vc * 3)) (hct : Hid (cur.toList.take (n * 3) = xs)) (hxl : Hid (xs.length = n * 3)) (hx : Hid (x.length = 3)) (h1 : Hid (∀ u ∈ x, u.oneCell' = true)) (h2 : Hid (∀ u ∈ xs, u.oneCell' = true)) (hv : Hid (Blk W vb 60 x.toArray)) (hBg : B ≤ g) (hvg : vb ≠ g) (hn : n ≤ 5000) (hk : k < n) (hroom : n + 1 ≤ vc) (hmx : vc ≤ maxLen) :
    Calls Try.prog 77 #[.slice (some ⟨g, 0, none⟩) n vc, .int .i64 k, .slice (some ⟨vb, 0, none⟩) 1 1] W fun e W' => ∃ v', e = .returned v' ∧ W'.ownsRow B 60 3 v' (n + 1) (insAt 3 k x xs) ∧ W.grownBy W' (some g) ∧ (v'.ownBlock = some g ∨ v'.ownBlock = some W.heap.size) := by
  have HMX := Hid.of hmx
  unfold maxLen at hmx
  have hz2 : ¬ ((k : Int) = (n : Int)) := by omega
  have hz3 : ((k : Int) == (n : Int)) = false := beq_eq_false_iff_ne.2 (by omega)
  have hw1 : IntKind.i64.wrap ((k : Int) + 1) = (k : Int) + 1 := by rw [IntKind.wrap_i64]; omega
  have hw2 : IntKind.i64.wrap ((n : Int) + 1) = (n : Int) + 1 := by rw [IntKind.wrap_i64]; omega
  have hb1 : (0 : Int) ≤ (k : Int) + 1 := by omega
  have hb2 : ¬ (vc = k + 1) := by omega
  have hb3 : (k : Int) ≤ (n : Int) + 1 := by omega
  have hb4 : ¬ (vc = k) := by omega
  have hb7 : k ≤ n := by omega
  have hb8 : (k : Int) ≤ (n : Int) := by omega
  have hb9 : (k : Int) + 1 ≤ (n : Int) + 1 := by omega
  have htn : ((k : Int) + 1).toNat = k + 1 := by omega
  have hb5 : (n : Int) + 1 ≤ (vc : Int) := by omega
  have hb6 : ¬ ((vc : Int) < (n : Int) + 1) := by omega
  have hov : ∀ (V : World) o lb cb, V.heap = W.heap → (callFunc 91 #[.slice (some ⟨vb, 0, none⟩) 1 1, .slice (some ⟨g, o, none⟩) lb cb]).run Try.prog V = .ok (.value (.bool false)) V := fun V o lb cb hV => by
    rw [run_callFunc_extern Try.func91 (by kernel_rfl) (by kernel_rfl) (by kernel_rfl) (e := Extern.SlicesOverlaps.overlaps #[24, 24] #[4]) (by kernel_rfl),
      Lib.run_overlaps_apart V 24 4 60 Try.underlying24 3 (fun w => by obtain ⟨i0, hi, hz0, hz1, hz2⟩ := info_parts Try.infoArrI; simp [sizeOf, typeInfo, hi, hz1]) ⟨vb, 0, none⟩ ⟨g, o, none⟩ 1 1 lb cb hvg 60 60 x.toArray.size cur.size
        (by have := hv.out; unfold Blk at this; simp [World.shape?, hV, this]) (by have := hg.out; simp [World.shape?, hV, this]) (by have := hcs.out; omega)
        (by have := hv.out; unfold Blk at this; simp [World.frozen?, hV, this]) (by have := hv.out; unfold Blk at this; simp [World.frozen?, hV, this])]
    rfl
  go_enter Try.func77, Try.ntmps77
  have hR1 : Hid (∀ V : World, V.heap = W.heap → ∀ (o1 o2 l1 l2 c1 c2 : Nat) (ty : TypeId), o1 = (k + 1) * 3 → o2 = k * 3 → l1 = n - k → l2 = n + 1 - k → (Builtin.copy_ #[24, 24] ty #[.slice (some ⟨g, o1, none⟩) l1 c1, .slice (some ⟨g, o2, none⟩) l2 c2]).run Try.prog V = .ok (goInt (n - k : Nat)) (V.setRow g (cur.toList.take ((k + 1) * 3) ++ xs.drop (k * 3) ++ cur.toList.drop ((n + 1) * 3)).toArray)) := fun V hV o1 o2 l1 l2 c1 c2 ty e1 e2 e3 e4 => by
    subst e1; subst e2; subst e3; subst e4
    have hxl' := hxl.out
    have hcs' := hcs.out
    have := run_copy_rowS (P := Try.prog) V 24 24 ty 60 g ((k + 1) * 3) (n - k) c1 ⟨g, k * 3, none⟩ (n + 1 - k) c2 cur 60 (xs.drop (k * 3)) 3 (n - k) Try.underlying24 (by obtain ⟨i0, hi, hz0, hz1, hz2⟩ := info_parts Try.infoArrI; simp [hi, hz1]) (by rw [hV]; exact hg.out) (by simp only [Nat.min_def]; split <;> omega) (by rw [List.length_drop]; omega)
      (fun j u hj => by
        rw [List.getElem?_drop] at hj
        have hlt := (List.getElem?_eq_some_iff.1 hj).1
        rw [← hct.out, List.getElem?_take_of_lt (by omega)] at hj
        rw [Addr.add_lit]
        simp only [World.cell?, hV, hg.out]
        rw [← Array.getElem?_toList]; exact hj)
      (by rw [List.length_drop]; omega) (fun u hu => h2.out u (List.mem_of_mem_drop hu))
    have hd : (k + 1) * 3 + (xs.drop (k * 3)).length = (n + 1) * 3 := by rw [List.length_drop, hxl']; omega
    rw [hd] at this
    exact this
  obtain ⟨row1, HR1⟩ : ∃ r, Hid (r = (cur.toList.take ((k + 1) * 3) ++ xs.drop (k * 3) ++ cur.toList.drop ((n + 1) * 3)).toArray) := ⟨_, rfl⟩
  obtain ⟨row2, HR2⟩ : ∃ r, Hid (r = (insAt 3 k x xs ++ cur.toList.drop ((n + 1) * 3)).toArray) := ⟨_, rfl⟩
  rw [← HR1.out] at hR1
  have hR2 : Hid (∀ V U : World, U.heap = W.heap → V.heap = (U.setRow g row1).heap → ∀ (o1 l1 c1 : Nat) (ty : TypeId), o1 = k * 3 → l1 = n + 1 - k → (Builtin.copy_ #[24, 24] ty #[.slice (some ⟨g, o1, none⟩) l1 c1, .slice (some ⟨vb, 0, none⟩) 1 1]).run Try.prog V = .ok (goInt (1 : Nat)) (V.setRow g row2)) := fun V U hU hV o1 l1 c1 ty e1 e2 => by
    subst e1; subst e2
    have hxl' := hxl.out
    have hcs' := hcs.out
    have hx' := hx.out
    have hgg : V.heap[g]? = some (.cells row1 60 (0, 0)) := by
      rw [hV]; exact setRow_heap U g cur row1 60 (0, 0) (by rw [hU]; exact hg.out)
    have hrl : row1.size = cur.size := by
      rw [HR1.out]; simp only [List.size_toArray, List.length_append, List.length_take, List.length_drop, Array.length_toList]; omega
    have := run_copy_rowS (P := Try.prog) V 24 24 ty 60 g (k * 3) (n + 1 - k) c1 ⟨vb, 0, none⟩ 1 1 row1 60 x 3 1 Try.underlying24 (by obtain ⟨i0, hi, hz0, hz1, hz2⟩ := info_parts Try.infoArrI; simp [hi, hz1]) hgg (by simp only [Nat.min_def]; split <;> omega) (by rw [hx']) 
      (fun j u hj => by
        rw [Addr.add_lit, Nat.zero_add]
        have hb : V.heap[vb]? = some (.cells x.toArray 60 (0, 0)) := by
          rw [hV, setRow_heap_ne U g vb row1 hvg, hU]; exact hv.out
        simp only [World.cell?, hb]
        simpa using hj)
      (by rw [hrl, hcs', hx']; omega) (h1.out)
    rw [this, HR2.out]
    congr 3
    rw [HR1.out, hx']
    exact ins_list 3 cur.toList xs x n k hct.out hxl' hx' (by rw [Array.length_toList, hcs']; exact Nat.mul_le_mul_right _ hroom) hk
  go_wp2_with (simp only [hov])
  have hq1 := hR1.out W.drew rfl ((k + 1) * 3) (k * 3) (n - k) (n + 1 - k) (vc - (k + 1)) (vc - k) 3 (by omega) (by omega) (by omega) (by omega)
  have hq2 := hR2.out (W.drew.setRow g row1) W.drew rfl rfl (k * 3) (n + 1 - k) (vc - k) 3 (by omega) (by omega)
  go_region
  go_wp2
  go_ret
  have hg1 : (W.drew.setRow g row1).heap[g]? = some (.cells row1 60 (0, 0)) := setRow_heap W.drew g cur row1 _ _ hg.out
  refine ⟨_, rfl, ⟨insAt_len 3 k n x xs hx.out hxl.out (by omega), .inr ⟨g, vc, row2, rfl, hBg, setRow_heap (W.drew.setRow g row1) g row1 row2 _ _ hg1, hroom, HMX.out, ?_, ?_⟩⟩, ⟨rfl, rfl, rfl, ?_, fun q hq hne => ?_⟩, .inl rfl⟩
  · have h1 := insAt_len 3 k n x xs hx.out hxl.out (by omega)
    have h2 := hcs.out
    rw [HR2.out]
    simp only [List.size_toArray, List.length_append, List.length_drop, Array.length_toList, h1]
    omega
  · rw [HR2.out, List.take_append_of_le_length (by rw [insAt_len 3 k n x xs hx.out hxl.out (by omega)]; exact Nat.le_refl _), List.take_of_length_le (by rw [insAt_len 3 k n x xs hx.out hxl.out (by omega)]; exact Nat.le_refl _)]
  · show W.heap.size ≤ ((W.drew.setRow g row1).setRow g row2).heap.size
    simp [World.setRow]
  · have hqg : q ≠ g := fun e => hne (by rw [e])
    rw [setRow_heap_ne _ g q row2 hqg, setRow_heap_ne _ g q row1 hqg]
    rfl
set_option maxRecDepth 100000 in
set_option maxHeartbeats 8000000 in
theorem insA_grow (W : World) (B : Nat) (xs x : List Value) (n k vb g vc : Nat) (cur : Array Value) (hg : Hid (W.heap[g]? = some (.cells cur 60 (0, 0)))) (hcs : Hid (cur.size = vc * 3)) (hct : Hid (cur.toList.take (n * 3) = xs)) (hxl : Hid (xs.length = n * 3)) (hx : Hid (x.length = 3)) (h1 : Hid (∀ u ∈ x, u.oneCell' = true)) (h2 : Hid (∀ u ∈ xs, u.oneCell' = true)) (hv : Hid (Blk W vb 60 x.toArray)) (hBW : B ≤ W.heap.size) (hn : n ≤ 5000) (hk : k < n) (hnc : n ≤ vc) (hroom : vc < n + 1) :
    Calls Try.prog 77 #[.slice (some ⟨g, 0, none⟩) n vc, .int .i64 k, .slice (some ⟨vb, 0, none⟩) 1 1] W fun e W' => ∃ v', e = .returned v' ∧ W'.ownsRow B 60 3 v' (n + 1) (insAt 3 k x xs) ∧ W.grownBy W' (some g) ∧ (v'.ownBlock = some g ∨ v'.ownBlock = some W.heap.size) := by
  obtain ⟨i0, hi, hz0, hz1, hz2⟩ := info_parts Try.infoArrI
  have hvc : vc = n := by omega
  subst hvc
  have hgl : g < W.heap.size := (Array.getElem?_eq_some_iff.1 hg.out).1
  have hvl : vb < W.heap.size := hv.out.lt
  have hz2' : ¬ ((k : Int) = (vc : Int)) := by omega
  have hz3 : ((k : Int) == (vc : Int)) = false := beq_eq_false_iff_ne.2 (by omega)
  have hw1 : IntKind.i64.wrap ((k : Int) + 1) = (k : Int) + 1 := by rw [IntKind.wrap_i64]; omega
  have hw2 : IntKind.i64.wrap ((vc : Int) + 1) = (vc : Int) + 1 := by rw [IntKind.wrap_i64]; omega
  have hw3 : IntKind.i64.wrap ((vc : Int) + 1 - (k : Int)) = (vc : Int) + 1 - (k : Int) := by rw [IntKind.wrap_i64]; omega
  have hb1 : (0 : Int) ≤ (k : Int) + 1 := by omega
  have hb4 : ¬ (vc = k) := by omega
  have hb6 : (vc : Int) < (vc : Int) + 1 := by omega
  have hb7 : k ≤ vc := by omega
  have hb8 : (k : Int) ≤ (vc : Int) := by omega
  have hb9 : (k : Int) + 1 ≤ (vc : Int) + 1 := by omega
  have hba : (k : Int) ≤ (vc : Int) + 1 := by omega
  have htn : ((k : Int) + 1).toNat = k + 1 := by omega
  have hkk : (vc : Int) + 1 - (k : Int) = ((vc + 1 - k : Nat) : Int) := by omega
  have hik : k + (vc + 1 - k) = vc + 1 := by omega
  have hold : (Builtin.firstCells i0.size k (.slice (some ⟨g, 0, none⟩) k vc)).run Try.prog W.drew = .ok (xs.take (k * 3)).toArray W.drew := by
    rw [hz1]
    have hxl' := hxl.out
    exact run_firstCells_some W.drew 3 k ⟨g, 0, none⟩ k vc (xs.take (k * 3)) (by rw [List.length_take]; omega) (fun j v hj => by
      have hlt := (List.getElem?_eq_some_iff.1 hj).1
      rw [List.length_take] at hlt
      rw [List.getElem?_take_of_lt (by omega), ← hct.out, List.getElem?_take_of_lt (by omega)] at hj
      rw [Addr.add_lit, Nat.zero_add]
      show W.cell? _ = _
      simp only [World.cell?, hg.out]
      rw [← Array.getElem?_toList]; exact hj)
  obtain ⟨G, HG⟩ : ∃ G, Hid (G = grownCap W (vc + 1) vc 60) := ⟨_, rfl⟩
  obtain ⟨row0, HR0⟩ : ∃ r : Array Value, Hid (r = (xs.take (k * 3)).toArray ++ Builtin.zeroCells (Value.agg #[.int .i64 0, .int .i64 0, .int .i64 0]).cells (vc + 1 - k) ++ Builtin.zeroCells (Value.agg #[.int .i64 0, .int .i64 0, .int .i64 0]).cells (G - (vc + 1))) := ⟨_, rfl⟩
  have hrz : Hid (∀ ty, (Builtin.append_ #[24, 3] ty #[.slice (some ⟨g, 0, none⟩) k vc, .int .i64 ((vc : Int) + 1 - (k : Int))]).run Try.prog W = .ok (.slice (some ⟨W.heap.size, 0, none⟩) (vc + 1) G) (W.drew.alloc (.cells row0 60))) := fun ty => by
    have h := Lib.run_append_grow_zeros W 24 3 ty 60 i0 _ .i64 .i64 Try.underlying24 Try.underlying3 hi hz0 (some ⟨g, 0, none⟩) k vc (xs.take (k * 3)) hold (vc + 1 - k) (by omega) (by rw [hz1]; omega) (by omega) (by omega) (by rw [hz2]; omega) (by rw [hz2, hik]; exact growslice_fits hroom (by omega))
    rw [hik] at h
    rw [hkk, HR0.out, HG.out]
    exact h
  have hGn : vc + 1 ≤ G := by rw [HG.out]; exact grownCap_ge W _ _ _
  have hGm : G ≤ maxLen := by
    rw [HG.out]
    exact grownCap_le_maxLen W (vc + 1) vc 60 (by unfold maxLen; omega)
  have HGM := Hid.of hGm
  unfold maxLen at hGm
  have hG1 : ¬ (G = k) := by omega
  have hG2 : ¬ (G = k + 1) := by omega
  have hr0 : row0.size = G * 3 := by
    have hxl' := hxl.out
    rw [HR0.out]
    simp [Builtin.zeroCells, Value.cells, hxl']
    omega
  obtain ⟨row1, HR1⟩ : ∃ r, Hid (r = (row0.toList.take (k * 3) ++ x ++ row0.toList.drop (k * 3 + x.length)).toArray) := ⟨_, rfl⟩
  obtain ⟨row2, HR2⟩ : ∃ r, Hid (r = (row1.toList.take ((k + 1) * 3) ++ xs.drop (k * 3) ++ row1.toList.drop ((k + 1) * 3 + (xs.drop (k * 3)).length)).toArray) := ⟨_, rfl⟩
  have hx' := hx.out
  have hxl' := hxl.out
  have hr1 : row1.size = G * 3 := by
    rw [HR1.out]; simp only [List.size_toArray, List.length_append, List.length_take, List.length_drop, Array.length_toList, hr0, hx']; omega
  have hinf : (Try.prog.info? 60).map (·.size) = some 3 := by simp [hi, hz1]
  have hA0 : Blk (W.alloc (.cells row0 60)) W.heap.size 60 row0 := Blk.new W _ _
  have hq1 : ∀ ty, (Builtin.copy_ #[24, 24] ty #[.slice (some ⟨W.heap.size, k * 3, none⟩) (vc + 1 - k) (G - k), .slice (some ⟨vb, 0, none⟩) 1 1]).run Try.prog (W.alloc (.cells row0 60)).drew = .ok (goInt (1 : Nat)) ((W.alloc (.cells row0 60)).drew.setRow W.heap.size row1) := fun ty => by
    have := run_copy_rowS (P := Try.prog) (W.alloc (.cells row0 60)).drew 24 24 ty 60 W.heap.size (k * 3) (vc + 1 - k) (G - k) ⟨vb, 0, none⟩ 1 1 row0 60 x 3 1 Try.underlying24 hinf hA0 (by simp only [Nat.min_def]; split <;> omega) (by rw [hx'])
      (fun j u hj => by
        rw [Addr.add_lit, Nat.zero_add]
        exact (hv.out.alloc _).cell j (by simpa using hj))
      (by rw [hr0, hx']; omega) h1.out
    rw [this, HR1.out]
  have hA1 : Blk ((W.alloc (.cells row0 60)).drew.setRow W.heap.size row1) W.heap.size 60 row1 := setRow_heap _ _ _ _ _ _ hA0
  have hq2 : ∀ ty, (Builtin.copy_ #[24, 24] ty #[.slice (some ⟨W.heap.size, (k + 1) * 3, none⟩) (vc - k) (G - (k + 1)), .slice (some ⟨g, k * 3, none⟩) (vc - k) (vc - k)]).run Try.prog ((W.alloc (.cells row0 60)).drew.setRow W.heap.size row1).drew = .ok (goInt (vc - k : Nat)) (((W.alloc (.cells row0 60)).drew.setRow W.heap.size row1).drew.setRow W.heap.size row2) := fun ty => by
    have := run_copy_rowS (P := Try.prog) ((W.alloc (.cells row0 60)).drew.setRow W.heap.size row1).drew 24 24 ty 60 W.heap.size ((k + 1) * 3) (vc - k) (G - (k + 1)) ⟨g, k * 3, none⟩ (vc - k) (vc - k) row1 60 (xs.drop (k * 3)) 3 (vc - k) Try.underlying24 hinf hA1 (by simp only [Nat.min_def]; split <;> omega) (by rw [List.length_drop]; omega)
      (fun j u hj => by
        rw [List.getElem?_drop] at hj
        have hlt := (List.getElem?_eq_some_iff.1 hj).1
        rw [← hct.out, List.getElem?_take_of_lt (by omega)] at hj
        rw [Addr.add_lit]
        have hb : ((W.alloc (.cells row0 60)).drew.setRow W.heap.size row1).drew.heap[g]? = some (.cells cur 60 (0, 0)) := by
          show ((W.alloc (.cells row0 60)).drew.setRow W.heap.size row1).heap[g]? = _
          rw [setRow_heap_ne _ _ g row1 (by omega)]
          exact (Below.heap_alloc W _ g hgl).trans hg.out
        simp only [World.cell?, hb]
        rw [← Array.getElem?_toList]
        rw [show k * 3 + j = k * 3 + j by omega]; exact hj)
      (by rw [hr1, List.length_drop]; omega) (fun u hu => h2.out u (List.mem_of_mem_drop hu))
    rw [this, HR2.out]
  clear hkk hik hold
  go_enter Try.func77, Try.ntmps77
  go_wp2_with (at_builtin; refine Lib.wpList_append_run _ rfl _ _ _ _ rfl _ _ rfl rfl _ _ (hrz.out _) ?_)
  go_region
  go_wp2
  go_ret
  have hgr : row2.toList.take ((vc + 1) * 3) = insAt 3 k x xs := grow_list 3 (k * 3) ((k + 1) * 3) k vc row0.toList row1.toList row2.toList x xs ((Builtin.zeroCells (Value.agg #[.int .i64 0, .int .i64 0, .int .i64 0]).cells (vc + 1 - k)).toList ++ (Builtin.zeroCells (Value.agg #[.int .i64 0, .int .i64 0, .int .i64 0]).cells (G - (vc + 1))).toList) (by omega) (by omega) hxl' hx' hk (by rw [HR0.out]; simp) (by simp [Builtin.zeroCells, Value.cells]; omega) (by rw [HR1.out]) (by rw [HR2.out])
  have hr2 : row2.size = G * 3 := by
    rw [HR2.out]; simp only [List.size_toArray, List.length_append, List.length_take, List.length_drop, Array.length_toList, hr1, hxl']; omega
  have hA2 : ((W.alloc (.cells row0 60)).drew.setRow W.heap.size row1).drew.setRow W.heap.size row2 = ((W.alloc (.cells row0 60)).drew.setRow W.heap.size row1).drew.setRow W.heap.size row2 := rfl
  refine ⟨_, rfl, ⟨insAt_len 3 k vc x xs hx' hxl' (by omega), .inr ⟨W.heap.size, G, row2, rfl, hBW, setRow_heap _ _ row1 row2 _ _ hA1, hGn, HGM.out, hr2, hgr⟩⟩, ⟨rfl, rfl, rfl, ?_, fun q hq hne => ?_⟩, .inr rfl⟩
  · rw [setRow_size]
    show W.heap.size ≤ ((W.alloc (.cells row0 60)).drew.setRow W.heap.size row1).heap.size
    rw [setRow_size]
    show W.heap.size ≤ (W.alloc (.cells row0 60)).heap.size
    rw [World.size_alloc]; omega
  · rw [setRow_heap_ne _ _ q row2 (by omega)]
    show ((W.alloc (.cells row0 60)).drew.setRow W.heap.size row1).heap[q]? = _
    rw [setRow_heap_ne _ _ q row1 (by omega)]
    exact Below.heap_alloc W _ q hq
/-- ONE ELEMENT IS SET IN. -/
theorem insA_any (W : World) (B : Nat) (v : Value) (xs x : List Value) (n k vb : Nat) (h0 : W.ownsRow B 60 3 v n xs) (hB : B ≤ W.heap.size) (hx : x.length = 3) (h1 : ∀ u ∈ x, u.oneCell' = true) (h2 : ∀ u ∈ xs, u.oneCell' = true) (hv : Blk W vb 60 x.toArray) (hvb : v.ownBlock ≠ some vb) (hn : n ≤ 5000) (hk : k ≤ n) :
    Calls Try.prog 77 #[v, .int .i64 k, .slice (some ⟨vb, 0, none⟩) 1 1] W fun e W' => ∃ v', e = .returned v' ∧ W'.ownsRow B 60 3 v' (n + 1) (insAt 3 k x xs) ∧ W.grownBy W' v.ownBlock ∧ (v'.ownBlock = v.ownBlock ∨ v'.ownBlock = some W.heap.size) := by
  by_cases hkn : k = n
  · subst hkn
    have e : insAt 3 k x xs = xs ++ x := by
      unfold insAt
      have := h0.1
      rw [List.take_of_length_le (by omega), List.drop_of_length_le (by omega), List.append_nil]
    rw [e]
    exact insA_endK W B v xs x k vb h0 hB hx h1 hv hn
  · rcases h0.2 with ⟨-, h⟩ | ⟨g, cap, cur, rfl, hBg, hg, hnc, hcm, hcs, ht⟩
    · omega
    · have hne : vb ≠ g := fun e => hvb (by rw [e]; rfl)
      by_cases hr : n + 1 ≤ cap
      · exact insA_room W B xs x n k vb g cap cur hg hcs ht h0.1 hx h1 h2 hv hBg hne hn (by omega) hr hcm
      · exact insA_grow W B xs x n k vb g cap cur hg hcs ht h0.1 hx h1 h2 hv hB hn (by omega) hnc (by omega)

end Go.Proofs.Ytbgiliophmofgaa
namespace Go.Proofs.Ytbgiliophmofgaa
open Go.RowKit
set_option linter.unusedVariables false

set_option maxHeartbeats 400000 in
theorem refAhead_any (a b : Arr) (w : World) :
    Calls Try.prog 50 #[.agg #[.int .i64 a.f, .int .i64 a.e, .int .i64 a.t], .agg #[.int .i64 b.f, .int .i64 b.e, .int .i64 b.t]] w fun e w' => e = .returned (.bool (aheadB a b)) ∧ Below w.heap.size w w' := by
  obtain ⟨af, ae, at'⟩ := a
  obtain ⟨bf, be, bt⟩ := b
  by_cases h1 : af = bf
  · have d1 : (af != bf) = false := by simp [h1]
    have H1 : Hid (af = bf) := h1
    clear h1
    by_cases h2 : ae = be
    · have d2 : (ae != be) = false := by simp [h2]
      have H2 : Hid (ae = be) := h2
      clear h2
      go_enter Try.func50, Try.ntmps50
      go_wp2
      go_ret
      exact ⟨ret_bool (by simp [aheadB, H1.out, H2.out]), ((Below.refl _ _).alloc (Nat.le_refl _) _).alloc (by simp) _⟩
    · have d2 : (ae != be) = true := by simp [h2]
      go_enter Try.func50, Try.ntmps50
      go_wp2
      go_ret
      exact ⟨ret_bool (by simp [aheadB, H1.out, h2]), ((Below.refl _ _).alloc (Nat.le_refl _) _).alloc (by simp) _⟩
  · have d1 : (af != bf) = true := by simp [h1]
    go_enter Try.func50, Try.ntmps50
    go_wp2
    go_ret
    exact ⟨ret_bool (by simp [aheadB, h1]), ((Below.refl _ _).alloc (Nat.le_refl _) _).alloc (by simp) _⟩

end Go.Proofs.Ytbgiliophmofgaa
namespace Go.Proofs.Ytbgiliophmofgaa
open Go.RowKit

set_option maxHeartbeats 400000 in
theorem refHas_some (b off cap : Nat) (xs : List Int) (n : Int) (w : World) (hl : xs.length ≤ 9223372036854775807) (hc : Cells w b off xs) :
    Calls Try.prog 16 #[.slice (some ⟨b, off, none⟩) xs.length cap, .int .i64 n] w fun e w' => e = .returned (.bool (hasB xs n)) ∧ w' = w := by
  go_enter Try.func16, Try.ntmps16
  go_wp2
  go_loop [5] (fun i => ∃ k : Nat, k ≤ xs.length ∧ i = .int .i64 k ∧ Hid (hasB xs n = hasB (xs.drop k) n)) (fun i => xs.length - (intOf i).toNat)
  case atStart => exact ⟨0, Nat.zero_le _, rfl, rfl⟩
  case round =>
    obtain ⟨k, hk, rfl, he⟩ := hrel
    by_cases hlt : k < xs.length
    · obtain ⟨x, HX, hcell⟩ := hc.at hlt
      go_wp2
      · go_ret
        exact ⟨ret_bool (has_hit hlt he HX (by assumption)), rfl⟩
      · go_round
        case rel => exact ⟨k + 1, by omega, by go_num, has_miss hlt he HX (by assumption)⟩
        case measure => simp [intOf]; omega
    · go_wp2
      go_ret
      exact ⟨ret_bool (has_end hlt he), rfl⟩

set_option maxHeartbeats 400000 in
theorem refHas_nil (a : Option Addr) (cap : Nat) (n : Int) (w : World) :
    Calls Try.prog 16 #[.slice a 0 cap, .int .i64 n] w fun e w' => e = .returned (.bool false) ∧ w' = w := by
  go_enter Try.func16, Try.ntmps16
  go_wp2
  refine wp_loop_rounds 1 ?_
  rw [rounds_succ]
  go_wp2
  go_ret
  exact ⟨rfl, rfl⟩

theorem refHas_any (a : Option Addr) (cap : Nat) (xs : List Int) (n : Int) (w : World) (hs : At w a xs) (hl : xs.length ≤ maxLen) :
    Calls Try.prog 16 #[.slice a xs.length cap, .int .i64 n] w fun e w' => e = .returned (.bool (hasB xs n)) ∧ w' = w := by
  rcases hs with rfl | ⟨b, off, rfl, -, hc⟩
  · exact refHas_nil a cap n w
  · exact refHas_some b off cap xs n w hl hc

end Go.Proofs.Ytbgiliophmofgaa
namespace Go.Proofs.Ytbgiliophmofgaa
open Go.RowKit
set_option linter.unusedVariables false

/-- Are two lists one? (A function of our own, which the walk leaves as it stands.) -/
def sameB (xs ys : List Int) : Bool := xs == ys

theorem same_len {xs ys : List Int} (h : ¬ xs.length = ys.length) : false = sameB xs ys := by
  rw [sameB, eq_comm, beq_eq_false_iff_ne]; intro e; exact h (by rw [e])
theorem same_no {xs ys : List Int} {k : Nat} {x y : Int} (hx : Hid (x = xs[k]?.getD 0)) (hy : Hid (y = ys[k]?.getD 0)) (h : ¬ x = y) : false = sameB xs ys := by
  rw [sameB, eq_comm, beq_eq_false_iff_ne]; intro e; exact h (by rw [hx.out, hy.out, e])
theorem same_yes {xs ys : List Int} {k : Nat} {x y : Int} (h1 : k < xs.length) (h2 : k < ys.length) (hx : Hid (x = xs[k]?.getD 0)) (hy : Hid (y = ys[k]?.getD 0)) (h : x = y) (e : Hid (xs.take k = ys.take k)) : Hid (xs.take (k + 1) = ys.take (k + 1)) := by
  show xs.take (k + 1) = ys.take (k + 1)
  rw [List.take_add_one, List.take_add_one, e.out]
  have hx := hx.out; have hy := hy.out
  rw [List.getElem?_eq_getElem h1] at hx ⊢
  rw [List.getElem?_eq_getElem h2] at hy ⊢
  simp only [Option.getD_some] at hx hy
  rw [← hx, ← hy, h]
theorem same_end {xs ys : List Int} {k : Nat} (hl : xs.length = ys.length) (h : ¬ k < xs.length) (e : Hid (xs.take k = ys.take k)) : true = sameB xs ys := by
  have e := e.out
  rw [List.take_of_length_le (by omega), List.take_of_length_le (by omega)] at e
  subst e; simp [sameB]

set_option maxHeartbeats 400000 in
theorem same_ne (a b : Option Addr) (ca cb : Nat) (xs ys : List Int) (w : World) (hne : ¬ xs.length = ys.length) (hl : xs.length ≤ 9223372036854775807) (hm : ys.length ≤ 9223372036854775807) :
    Calls Try.prog 29 #[.slice a xs.length ca, .slice b ys.length cb] w fun e w' => e = .returned (.bool (sameB xs ys)) ∧ ∃ q, w' = w.drewN q := by
  have hb : ((xs.length : Int) != (ys.length : Int)) = true := by rw [bne_iff_ne]; omega
  go_enter Try.func29, Try.ntmps29
  go_wp2
  go_ret
  exact ⟨ret_bool (same_len hne), 0, rfl⟩

set_option maxHeartbeats 1000000 in
theorem same_eq (ba oa ca bb ob cb : Nat) (xs ys : List Int) (w : World) (hlen : Hid (xs.length = ys.length)) (hl : xs.length ≤ 9223372036854775807) (hca : Cells w ba oa xs) (hcb : Cells w bb ob ys) :
    Calls Try.prog 29 #[.slice (some ⟨ba, oa, none⟩) xs.length ca, .slice (some ⟨bb, ob, none⟩) ys.length cb] w fun e w' => e = .returned (.bool (sameB xs ys)) ∧ ∃ q, w' = w.drewN q := by
  have hm : ys.length ≤ 9223372036854775807 := by have := hlen.out; omega
  have hb : ((xs.length : Int) != (ys.length : Int)) = false := by have := hlen.out; simp; omega
  go_enter Try.func29, Try.ntmps29
  go_wp2
  go_loopw [5] (fun i wr => ∃ k q : Nat, k ≤ xs.length ∧ i = .int .i64 k ∧ wr = w.drewN q ∧ Hid (xs.take k = ys.take k)) (fun i _ => xs.length - (intOf i).toNat)
  case atStart => exact ⟨0, 0, Nat.zero_le _, rfl, rfl, rfl⟩
  case round =>
    obtain ⟨k, q, hk, rfl, rfl, he⟩ := hrel
    by_cases hlt : k < xs.length
    · have hlt2 : k < ys.length := by have := hlen.out; omega
      obtain ⟨x, HX, hcx⟩ := hca.at hlt
      obtain ⟨y, HY, hcy⟩ := hcb.at hlt2
      by_cases hxy : x = y
      · have HXY : Hid (x = y) := hxy
        have d : (x != y) = false := by simp [hxy]
        clear hxy
        go_wp2
        go_quiet (fail)
        go_wp2
        go_roundw
        case rel => exact ⟨k + 1, _, by omega, by go_num, rfl, same_yes hlt hlt2 HX HY HXY.out he⟩
        case measure => simp [intOf]; omega
      · have d : (x != y) = true := by simp [hxy]
        go_wp2
        go_quiet (fail)
        go_wp2
        go_ret
        exact ⟨ret_bool (same_no HX HY hxy), _, World.drewN_drewN _ _ _⟩
    · go_wp2
      go_ret
      exact ⟨ret_bool (same_end hlen.out hlt he), q, rfl⟩

set_option maxHeartbeats 400000 in
theorem same_nil (a b : Option Addr) (ca cb : Nat) (w : World) :
    Calls Try.prog 29 #[.slice a 0 ca, .slice b 0 cb] w fun e w' => e = .returned (.bool true) ∧ ∃ q, w' = w.drewN q := by
  go_enter Try.func29, Try.ntmps29
  go_wp2
  refine wp_loop_rounds 1 ?_
  rw [rounds_succ]
  go_wp2
  go_ret
  exact ⟨rfl, 0, rfl⟩

theorem same_any (a b : Option Addr) (ca cb : Nat) (xs ys : List Int) (w : World) (hs : At w a xs) (ht : At w b ys) (hl : xs.length ≤ maxLen) (hm : ys.length ≤ maxLen) :
    Calls Try.prog 29 #[.slice a xs.length ca, .slice b ys.length cb] w fun e w' => e = .returned (.bool (sameB xs ys)) ∧ ∃ q, w' = w.drewN q := by
  by_cases hne : xs.length = ys.length
  · rcases hs with rfl | ⟨ba, oa, rfl, -, hca⟩
    · have : ys = [] := List.eq_nil_of_length_eq_zero (by simpa using hne.symm)
      subst this
      exact same_nil a b ca cb w
    · rcases ht with rfl | ⟨bb, ob, rfl, -, hcb⟩
      · have : xs = [] := List.eq_nil_of_length_eq_zero (by simpa using hne)
        subst this
        exact same_nil _ b ca cb w
      · exact same_eq ba oa ca bb ob cb xs ys w hne hl hca hcb
  · exact same_ne a b ca cb xs ys w hne hl hm

end Go.Proofs.Ytbgiliophmofgaa
