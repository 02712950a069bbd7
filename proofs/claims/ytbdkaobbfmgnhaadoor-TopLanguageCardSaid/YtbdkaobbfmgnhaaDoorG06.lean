/-
  Small facts on rows that a call has made: their blocks are apart by their types; a block that is another object.
  What is said of slices of integers that lie below some block, or in a block of integers; rows of them.
  Plain mathematics of machines beside one another: pairs as they are found, arrows between them. No program, no model.
  The walk of jalousieref2.ahead.
-/
import Derived.Test.YtbdkaobbfmgnhaaDoorG05
import Derived.Test.YtbdkaobbfmgnhaaDoorG03
import Derived.Test.YtbdkaobbfmgnhaaDoorG04
namespace Go.Proofs.YtbdkaobbfmgnhaaDoor
open Go.RowKit
set_option linter.unusedVariables false

theorem own_type {W : World} {B s n k : Nat} {e : TypeId} {v : Value} {xs : List Value} (h : W.ownsRow B e s v n xs) (hk : v.ownBlock = some k) : ∃ cs, W.heap[k]? = some (.cells cs e (0, 0)) := by
  rcases h.2 with ⟨rfl, -⟩ | ⟨g, cap, cur, rfl, hg, hh, -⟩
  · cases hk
  · cases hk; exact ⟨cur, hh⟩
theorem own_apart {W : World} {B B' s s' n n' : Nat} {e e' : TypeId} {v v' : Value} {xs xs' : List Value} (h : W.ownsRow B e s v n xs) (h' : W.ownsRow B' e' s' v' n' xs') (hne : e ≠ e') : v.ownBlock = none ∨ v.ownBlock ≠ v'.ownBlock := by
  cases hk : v.ownBlock with
  | none => exact .inl rfl
  | some k =>
    refine .inr fun e1 => ?_
    obtain ⟨c1, h1⟩ := own_type h hk
    obtain ⟨c2, h2⟩ := own_type h' e1.symm
    rw [h1] at h2; cases h2; exact hne rfl
theorem own_form2 {W : World} {B s n : Nat} {e : TypeId} {v : Value} {xs : List Value} (h : W.ownsRow B e s v n xs) : ∃ a c, v = .slice a n c ∧ n ≤ c ∧ c ≤ maxLen ∧ (a = none → c = 0) := by
  rcases h.2 with ⟨rfl, rfl⟩ | ⟨g, cap, cur, rfl, -, -, h1, h2, -⟩
  · exact ⟨none, 0, rfl, Nat.le_refl _, Nat.zero_le _, fun _ => rfl⟩
  · exact ⟨_, cap, rfl, h1, h2, fun h => by cases h⟩
theorem own_same {W W' : World} {B s n : Nat} {e : TypeId} {v : Value} {xs : List Value} (h : W.ownsRow B e s v n xs) (hb : ∀ k, v.ownBlock = some k → W'.heap[k]? = W.heap[k]?) : W'.ownsRow B e s v n xs := by
  refine ⟨h.1, ?_⟩
  rcases h.2 with hn | ⟨g, cap, cur, rfl, hg, hgg, rest⟩
  · exact .inl hn
  · exact .inr ⟨g, cap, cur, rfl, hg, (hb g rfl).trans hgg, rest⟩
theorem cells_three (W W' : World) (hW : W'.heap = W.heap) (t : TypeId) (x y z : Value) : ∀ j u, ([x, y, z] : List Value)[j]? = some u → (W'.alloc (.cells #[x, y, z] t)).cell? ((⟨W.heap.size, 0, none⟩ : Addr).add j) = some u := by
  intro j u hu
  rw [addr0_add, Nat.zero_add, ← hW]
  exact (Blk.new W' t #[x, y, z]).cell j (by rw [← Array.getElem?_toList]; exact hu)
theorem own_arr {W : World} {B : Nat} {v : Value} {A : List Arr} {x : Arr} (h : W.ownsRow B 58 3 v (A.length + 1) (aflat A ++ [.int .i64 x.f, .int .i64 x.e, .int .i64 x.t])) : OwnA W B v (A ++ [x]) := by
  unfold OwnA
  rw [List.length_append, aflat_append]
  exact h
/-- A block is another object. -/
def setMap (w : World) (b : Nat) (o : Obj) : World := { w with heap := w.heap.setIfInBounds b o }
theorem heap_setMap_ne (W : World) (b : Nat) (o : Obj) {j : Nat} (h : j ≠ b) : (setMap W b o).heap[j]? = W.heap[j]? := by
  simp [setMap, Ne.symm h]
theorem heap_setMap (W : World) {b : Nat} (o : Obj) (h : b < W.heap.size) : (setMap W b o).heap[b]? = some o := by
  simp [setMap, h]
theorem size_setMap (W : World) (b : Nat) (o : Obj) : (setMap W b o).heap.size = W.heap.size := by simp [setMap]
theorem ownsRow_set {W : World} {B b j s n : Nat} {e : TypeId} {v : Value} {xs : List Value} (h : W.ownsRow B e s v n xs) (hb : b < B) (x : Value) : (W.setCell ⟨b, j, none⟩ x).ownsRow B e s v n xs := by
  refine ⟨h.1, ?_⟩
  rcases h.2 with hn | ⟨g, cap, cur, rfl, hg, hgg, rest⟩
  · exact .inl hn
  · exact .inr ⟨g, cap, cur, rfl, hg, (Below.heap_setCell W ⟨b, j, none⟩ x g (by show g ≠ b; omega)).trans hgg, rest⟩

end Go.Proofs.YtbdkaobbfmgnhaaDoor
namespace Go.Proofs.YtbdkaobbfmgnhaaDoor
open Go.RowKit
set_option linter.unusedVariables false

/-- An inner slice: it lies below block n, or in a block of integers. -/
def InnN (n : Nat) (W : World) (x : Value) (xs : List Int) : Prop := ∃ a c, x = .slice a xs.length c ∧ xs.length ≤ maxLen ∧ (xs = [] ∨ ∃ g o, a = some ⟨g, o, none⟩ ∧ g < W.heap.size ∧ Cells W g o xs ∧ (g < n ∨ ∃ cs, W.heap[g]? = some (.cells cs 3 (0, 0))))
theorem cells_block {W W' : World} {g o : Nat} {xs : List Int} (h : Cells W g o xs) (hb : W'.heap[g]? = W.heap[g]?) : Cells W' g o xs := fun j hj => by
  rw [World.cell?_of_block (w := W) hb]; exact h j hj
theorem InnN.kept {n : Nat} {W W' : World} {x : Value} {xs : List Int} (h : InnN n W x xs) (hz : W.heap.size ≤ W'.heap.size) (h1 : ∀ j, j < n → W'.heap[j]? = W.heap[j]?) (h2 : ∀ (g : Nat) (cs : Array Value), W.heap[g]? = some (.cells cs 3 (0, 0)) → W'.heap[g]? = W.heap[g]?) : InnN n W' x xs := by
  obtain ⟨a, c, e, l, h⟩ := h
  refine ⟨a, c, e, l, ?_⟩
  rcases h with h | ⟨g, o, e', hlt, hc, h⟩
  · exact .inl h
  · have hb : W'.heap[g]? = W.heap[g]? := by
      rcases h with h | ⟨cs, h⟩
      · exact h1 g h
      · exact h2 g cs h
    refine .inr ⟨g, o, e', Nat.lt_of_lt_of_le hlt hz, cells_block hc hb, ?_⟩
    rcases h with h | ⟨cs, h⟩
    · exact .inl h
    · exact .inr ⟨cs, hb.trans h⟩
theorem InnN.of_own {n : Nat} {W : World} {B : Nat} {v : Value} {xs : List Int} (h : Own W B v xs) : InnN n W v xs := by
  rcases h.2 with ⟨rfl, hn⟩ | ⟨g, cap, cur, rfl, hg, hh, hnc, hcm, hcs, ht⟩
  · have : xs = [] := List.eq_nil_of_length_eq_zero hn
    subst this
    exact ⟨none, 0, rfl, Nat.zero_le _, .inl rfl⟩
  · refine ⟨_, cap, rfl, Nat.le_trans hnc hcm, .inr ⟨g, 0, rfl, (Array.getElem?_eq_some_iff.1 hh).1, fun j hj => ?_, .inr ⟨cur, hh⟩⟩⟩
    have := h.cells (g := g) rfl j (.int .i64 (xs.getD j 0)) (by rw [List.getElem?_map, List.getElem?_eq_getElem hj]; simp [List.getElem?_eq_getElem hj])
    rwa [addr0_add] at this
theorem InnN.of_at {w W : World} {a : Option Addr} {c : Nat} {xs : List Int} (h : At w a xs) (hl : xs.length ≤ maxLen) (hb : Below w.heap.size w W) : InnN w.heap.size W (.slice a xs.length c) xs := by
  refine ⟨a, c, rfl, hl, ?_⟩
  rcases h with h | ⟨b, off, e, hlt, hc⟩
  · exact .inl h
  · exact .inr ⟨b, off, e, Nat.lt_of_lt_of_le hlt hb.size, cells_block hc (hb.block b hlt), .inl hlt⟩
theorem InnN.at {n : Nat} {W : World} {x : Value} {xs : List Int} (h : InnN n W x xs) : ∃ a c, x = .slice a xs.length c ∧ At W a xs ∧ xs.length ≤ maxLen := by
  obtain ⟨a, c, e, l, h⟩ := h
  refine ⟨a, c, e, ?_, l⟩
  rcases h with h | ⟨g, o, e', hlt, hc, h⟩
  · exact .inl h
  · exact .inr ⟨g, o, e', hlt, hc⟩
/-- A row of such slices. -/
def OwnN (n : Nat) (W : World) (B : Nat) (v : Value) (LL : List (List Int)) : Prop := ∃ vs : List Value, W.ownsRow B 22 1 v LL.length vs ∧ ∀ (j : Nat) (x : Value) (xs : List Int), vs[j]? = some x → LL[j]? = some xs → InnN n W x xs
theorem OwnN.get {n : Nat} {W : World} {B : Nat} {v : Value} {LL : List (List Int)} (h : OwnN n W B v LL) {k : Nat} {xs : List Int} (hk : LL[k]? = some xs) : ∃ g cap x, v = .slice (some ⟨g, 0, none⟩) LL.length cap ∧ B ≤ g ∧ g < W.heap.size ∧ W.cell? ⟨g, k, none⟩ = some x ∧ InnN n W x xs := by
  obtain ⟨vs, ho, hi⟩ := h
  rcases ho.2 with ⟨rfl, hn⟩ | ⟨g, cap, cur, rfl, hg, hh, hnc, hcm, hcs, ht⟩
  · have := (List.getElem?_eq_some_iff.1 hk).1; omega
  · have hlt : k < vs.length := by rw [ho.1, Nat.mul_one]; exact (List.getElem?_eq_some_iff.1 hk).1
    have hx := List.getElem?_eq_getElem hlt
    have hc := ho.cells (g := g) rfl k _ hx
    rw [addr0_add, Nat.zero_add] at hc
    exact ⟨g, cap, _, rfl, hg, (Array.getElem?_eq_some_iff.1 hh).1, hc, hi k _ xs hx hk⟩
theorem OwnN.at2 {n : Nat} {W : World} {B : Nat} {v : Value} {LL : List (List Int)} (h : OwnN n W B v LL) : ∃ a cap, v = .slice a LL.length cap ∧ At2 W a LL := by
  obtain ⟨vs, ho, hi⟩ := h
  rcases ho.2 with ⟨rfl, hn⟩ | ⟨g, cap, cur, rfl, hg, hh, hnc, hcm, hcs, ht⟩
  · have : LL = [] := List.eq_nil_of_length_eq_zero hn
    subst this
    exact ⟨none, 0, rfl, .inl rfl⟩
  · refine ⟨some ⟨g, 0, none⟩, cap, rfl, .inr ⟨g, 0, rfl, (Array.getElem?_eq_some_iff.1 hh).1, fun k xs hk => ?_⟩⟩
    have hlt : k < vs.length := by rw [ho.1, Nat.mul_one]; exact (List.getElem?_eq_some_iff.1 hk).1
    have hx := List.getElem?_eq_getElem hlt
    obtain ⟨a, c, e, h1, h2⟩ := (hi k _ xs hx hk).at
    have hc := ho.cells (g := g) rfl k _ hx
    rw [addr0_add, e] at hc
    exact ⟨a, c, hc, h1, h2⟩
theorem OwnN.kept {n : Nat} {W W' : World} {B : Nat} {v : Value} {LL : List (List Int)} (h : OwnN n W B v LL) (hz : W.heap.size ≤ W'.heap.size) (h0 : ∀ k, v.ownBlock = some k → W'.heap[k]? = W.heap[k]?) (h1 : ∀ j, j < n → W'.heap[j]? = W.heap[j]?) (h2 : ∀ (g : Nat) (cs : Array Value), W.heap[g]? = some (.cells cs 3 (0, 0)) → W'.heap[g]? = W.heap[g]?) : OwnN n W' B v LL := by
  obtain ⟨vs, ho, hi⟩ := h
  exact ⟨vs, own_same ho h0, fun j x xs a b => (hi j x xs a b).kept hz h1 h2⟩
theorem OwnN.below {n : Nat} {W W' : World} {B : Nat} {v : Value} {LL : List (List Int)} (h : OwnN n W B v LL) (hb : Below W.heap.size W W') (hn : n ≤ W.heap.size) : OwnN n W' B v LL :=
  h.kept hb.size (fun k hk => by obtain ⟨vs, ho, -⟩ := h; exact hb.block k (World.ownsRow.lt ho k hk).2) (fun j hj => hb.block j (by omega)) (fun g cs hg => hb.block g (Array.getElem?_eq_some_iff.1 hg).1)

end Go.Proofs.YtbdkaobbfmgnhaaDoor
namespace Go.Proofs.YtbdkaobbfmgnhaaDoor
open Go.RowKit
set_option linter.unusedVariables false

/-- 0, 1, .., n - 1. -/
def rngI (n : Nat) : List Int := (List.range n).map fun k : Nat => (k : Int)
theorem rngI_len (n : Nat) : (rngI n).length = n := by simp [rngI]
end Go.Proofs.YtbdkaobbfmgnhaaDoor
namespace Go.Proofs.YtbdkaobbfmgnhaaDoor
open Go.RowKit
set_option linter.unusedVariables false

set_option maxHeartbeats 400000 in
theorem refAhead_any (a b : Arr) (w : World) :
    Calls Tryd.prog 48 #[.agg #[.int .i64 a.f, .int .i64 a.e, .int .i64 a.t], .agg #[.int .i64 b.f, .int .i64 b.e, .int .i64 b.t]] w fun e w' => e = .returned (.bool (aheadB a b)) ∧ Below w.heap.size w w' := by
  obtain ⟨af, ae, at'⟩ := a
  obtain ⟨bf, be, bt⟩ := b
  by_cases h1 : af = bf
  · have d1 : (af != bf) = false := by simp [h1]
    have H1 : Hid (af = bf) := h1
    clear h1
    by_cases h2 : ae = be
    · have d2 : (ae != be) = false := by simp [h2]
      have H2 : Hid (ae = be) := h2
      clear h2
      go_enter Tryd.func48, Tryd.ntmps48
      go_wp2
      go_ret
      exact ⟨ret_bool (by simp [aheadB, H1.out, H2.out]), ((Below.refl _ _).alloc (Nat.le_refl _) _).alloc (by simp) _⟩
    · have d2 : (ae != be) = true := by simp [h2]
      go_enter Tryd.func48, Tryd.ntmps48
      go_wp2
      go_ret
      exact ⟨ret_bool (by simp [aheadB, H1.out, h2]), ((Below.refl _ _).alloc (Nat.le_refl _) _).alloc (by simp) _⟩
  · have d1 : (af != bf) = true := by simp [h1]
    go_enter Tryd.func48, Tryd.ntmps48
    go_wp2
    go_ret
    exact ⟨ret_bool (by simp [aheadB, h1]), ((Below.refl _ _).alloc (Nat.le_refl _) _).alloc (by simp) _⟩

end Go.Proofs.YtbdkaobbfmgnhaaDoor
