/-
  Small facts on rows that a call has made: their blocks are apart by their types; a block that is another object.
  What is said of slices of integers that lie below some block, or in a block of integers; rows of them.
  Plain: a search, level by level, of what words lead to; the least words. No program, no model.
  What is said of a slice of places (two lists and a word each); the walk of jalousieref7.known.
  Plain mathematics of what can be come to along arrows: rounds over all arrows, till nothing comes more. No program, no model.
-/
import Derived.Test.YtcbdjjkebpncmaaDoorG05
import Derived.Test.YtcbdjjkebpncmaaDoorG03
import Derived.Test.YtcbdjjkebpncmaaDoorG04
namespace Go.Proofs.YtcbdjjkebpncmaaDoor
open Go.RowKit
set_option linter.unusedVariables false

theorem own_type {W : World} {B s n k : Nat} {e : TypeId} {v : Value} {xs : List Value} (h : W.ownsRow B e s v n xs) (hk : v.ownBlock = some k) : ∃ cs, W.heap[k]? = some (.cells cs e (0, 0)) := by
  rcases h.2 with ⟨rfl, -⟩ | ⟨g, cap, cur, rfl, hg, hh, -⟩
  · cases hk
  · cases hk; exact ⟨cur, hh⟩
theorem own_apart {W : World} {B B' s s' n n' : Nat} {e e' : TypeId} {v v' : Value} {xs xs' : List Value} (h : W.ownsRow B e s v n xs) (h' : W.ownsRow B' e' s' v' n' xs') (hne : e ≠ e') : v.ownBlock = none ∨ v.ownBlock ≠ v'.ownBlock := by
  cases hk : v.ownBlock with
  | none => exact .inl rfl
  | some k =>
    refine .inr fun e1 => ?_
    obtain ⟨c1, h1⟩ := own_type h hk
    obtain ⟨c2, h2⟩ := own_type h' e1.symm
    rw [h1] at h2; cases h2; exact hne rfl
theorem own_form2 {W : World} {B s n : Nat} {e : TypeId} {v : Value} {xs : List Value} (h : W.ownsRow B e s v n xs) : ∃ a c, v = .slice a n c ∧ n ≤ c ∧ c ≤ maxLen ∧ (a = none → c = 0) := by
  rcases h.2 with ⟨rfl, rfl⟩ | ⟨g, cap, cur, rfl, -, -, h1, h2, -⟩
  · exact ⟨none, 0, rfl, Nat.le_refl _, Nat.zero_le _, fun _ => rfl⟩
  · exact ⟨_, cap, rfl, h1, h2, fun h => by cases h⟩
theorem own_same {W W' : World} {B s n : Nat} {e : TypeId} {v : Value} {xs : List Value} (h : W.ownsRow B e s v n xs) (hb : ∀ k, v.ownBlock = some k → W'.heap[k]? = W.heap[k]?) : W'.ownsRow B e s v n xs := by
  refine ⟨h.1, ?_⟩
  rcases h.2 with hn | ⟨g, cap, cur, rfl, hg, hgg, rest⟩
  · exact .inl hn
  · exact .inr ⟨g, cap, cur, rfl, hg, (hb g rfl).trans hgg, rest⟩
theorem cells_three (W W' : World) (hW : W'.heap = W.heap) (t : TypeId) (x y z : Value) : ∀ j u, ([x, y, z] : List Value)[j]? = some u → (W'.alloc (.cells #[x, y, z] t)).cell? ((⟨W.heap.size, 0, none⟩ : Addr).add j) = some u := by
  intro j u hu
  rw [addr0_add, Nat.zero_add, ← hW]
  exact (Blk.new W' t #[x, y, z]).cell j (by rw [← Array.getElem?_toList]; exact hu)
theorem own_arr {W : World} {B : Nat} {v : Value} {A : List Arr} {x : Arr} (h : W.ownsRow B 52 3 v (A.length + 1) (aflat A ++ [.int .i64 x.f, .int .i64 x.e, .int .i64 x.t])) : OwnA W B v (A ++ [x]) := by
  unfold OwnA
  rw [List.length_append, aflat_append]
  exact h
/-- A block is another object. -/
def setMap (w : World) (b : Nat) (o : Obj) : World := { w with heap := w.heap.setIfInBounds b o }
theorem heap_setMap_ne (W : World) (b : Nat) (o : Obj) {j : Nat} (h : j ≠ b) : (setMap W b o).heap[j]? = W.heap[j]? := by
  simp [setMap, Ne.symm h]
theorem heap_setMap (W : World) {b : Nat} (o : Obj) (h : b < W.heap.size) : (setMap W b o).heap[b]? = some o := by
  simp [setMap, h]
theorem size_setMap (W : World) (b : Nat) (o : Obj) : (setMap W b o).heap.size = W.heap.size := by simp [setMap]
theorem ownsRow_set {W : World} {B b j s n : Nat} {e : TypeId} {v : Value} {xs : List Value} (h : W.ownsRow B e s v n xs) (hb : b < B) (x : Value) : (W.setCell ⟨b, j, none⟩ x).ownsRow B e s v n xs := by
  refine ⟨h.1, ?_⟩
  rcases h.2 with hn | ⟨g, cap, cur, rfl, hg, hgg, rest⟩
  · exact .inl hn
  · exact .inr ⟨g, cap, cur, rfl, hg, (Below.heap_setCell W ⟨b, j, none⟩ x g (by show g ≠ b; omega)).trans hgg, rest⟩

end Go.Proofs.YtcbdjjkebpncmaaDoor
namespace Go.Proofs.YtcbdjjkebpncmaaDoor
open Go.RowKit
set_option linter.unusedVariables false

/-- An inner slice: it lies below block n, or in a block of integers. -/
def InnN (n : Nat) (W : World) (x : Value) (xs : List Int) : Prop := ∃ a c, x = .slice a xs.length c ∧ xs.length ≤ maxLen ∧ (xs = [] ∨ ∃ g o, a = some ⟨g, o, none⟩ ∧ g < W.heap.size ∧ Cells W g o xs ∧ (g < n ∨ ∃ cs, W.heap[g]? = some (.cells cs 3 (0, 0))))
theorem cells_block {W W' : World} {g o : Nat} {xs : List Int} (h : Cells W g o xs) (hb : W'.heap[g]? = W.heap[g]?) : Cells W' g o xs := fun j hj => by
  rw [World.cell?_of_block (w := W) hb]; exact h j hj
theorem InnN.kept {n : Nat} {W W' : World} {x : Value} {xs : List Int} (h : InnN n W x xs) (hz : W.heap.size ≤ W'.heap.size) (h1 : ∀ j, j < n → W'.heap[j]? = W.heap[j]?) (h2 : ∀ (g : Nat) (cs : Array Value), W.heap[g]? = some (.cells cs 3 (0, 0)) → W'.heap[g]? = W.heap[g]?) : InnN n W' x xs := by
  obtain ⟨a, c, e, l, h⟩ := h
  refine ⟨a, c, e, l, ?_⟩
  rcases h with h | ⟨g, o, e', hlt, hc, h⟩
  · exact .inl h
  · have hb : W'.heap[g]? = W.heap[g]? := by
      rcases h with h | ⟨cs, h⟩
      · exact h1 g h
      · exact h2 g cs h
    refine .inr ⟨g, o, e', Nat.lt_of_lt_of_le hlt hz, cells_block hc hb, ?_⟩
    rcases h with h | ⟨cs, h⟩
    · exact .inl h
    · exact .inr ⟨cs, hb.trans h⟩
theorem InnN.of_own {n : Nat} {W : World} {B : Nat} {v : Value} {xs : List Int} (h : Own W B v xs) : InnN n W v xs := by
  rcases h.2 with ⟨rfl, hn⟩ | ⟨g, cap, cur, rfl, hg, hh, hnc, hcm, hcs, ht⟩
  · have : xs = [] := List.eq_nil_of_length_eq_zero hn
    subst this
    exact ⟨none, 0, rfl, Nat.zero_le _, .inl rfl⟩
  · refine ⟨_, cap, rfl, Nat.le_trans hnc hcm, .inr ⟨g, 0, rfl, (Array.getElem?_eq_some_iff.1 hh).1, fun j hj => ?_, .inr ⟨cur, hh⟩⟩⟩
    have := h.cells (g := g) rfl j (.int .i64 (xs.getD j 0)) (by rw [List.getElem?_map, List.getElem?_eq_getElem hj]; simp [List.getElem?_eq_getElem hj])
    rwa [addr0_add] at this
theorem InnN.of_at {w W : World} {a : Option Addr} {c : Nat} {xs : List Int} (h : At w a xs) (hl : xs.length ≤ maxLen) (hb : Below w.heap.size w W) : InnN w.heap.size W (.slice a xs.length c) xs := by
  refine ⟨a, c, rfl, hl, ?_⟩
  rcases h with h | ⟨b, off, e, hlt, hc⟩
  · exact .inl h
  · exact .inr ⟨b, off, e, Nat.lt_of_lt_of_le hlt hb.size, cells_block hc (hb.block b hlt), .inl hlt⟩
theorem InnN.at {n : Nat} {W : World} {x : Value} {xs : List Int} (h : InnN n W x xs) : ∃ a c, x = .slice a xs.length c ∧ At W a xs ∧ xs.length ≤ maxLen := by
  obtain ⟨a, c, e, l, h⟩ := h
  refine ⟨a, c, e, ?_, l⟩
  rcases h with h | ⟨g, o, e', hlt, hc, h⟩
  · exact .inl h
  · exact .inr ⟨g, o, e', hlt, hc⟩
/-- A row of such slices. -/
def OwnN (n : Nat) (W : World) (B : Nat) (v : Value) (LL : List (List Int)) : Prop := ∃ vs : List Value, W.ownsRow B 22 1 v LL.length vs ∧ ∀ (j : Nat) (x : Value) (xs : List Int), vs[j]? = some x → LL[j]? = some xs → InnN n W x xs
theorem OwnN.get {n : Nat} {W : World} {B : Nat} {v : Value} {LL : List (List Int)} (h : OwnN n W B v LL) {k : Nat} {xs : List Int} (hk : LL[k]? = some xs) : ∃ g cap x, v = .slice (some ⟨g, 0, none⟩) LL.length cap ∧ B ≤ g ∧ g < W.heap.size ∧ W.cell? ⟨g, k, none⟩ = some x ∧ InnN n W x xs := by
  obtain ⟨vs, ho, hi⟩ := h
  rcases ho.2 with ⟨rfl, hn⟩ | ⟨g, cap, cur, rfl, hg, hh, hnc, hcm, hcs, ht⟩
  · have := (List.getElem?_eq_some_iff.1 hk).1; omega
  · have hlt : k < vs.length := by rw [ho.1, Nat.mul_one]; exact (List.getElem?_eq_some_iff.1 hk).1
    have hx := List.getElem?_eq_getElem hlt
    have hc := ho.cells (g := g) rfl k _ hx
    rw [addr0_add, Nat.zero_add] at hc
    exact ⟨g, cap, _, rfl, hg, (Array.getElem?_eq_some_iff.1 hh).1, hc, hi k _ xs hx hk⟩
theorem OwnN.at2 {n : Nat} {W : World} {B : Nat} {v : Value} {LL : List (List Int)} (h : OwnN n W B v LL) : ∃ a cap, v = .slice a LL.length cap ∧ At2 W a LL := by
  obtain ⟨vs, ho, hi⟩ := h
  rcases ho.2 with ⟨rfl, hn⟩ | ⟨g, cap, cur, rfl, hg, hh, hnc, hcm, hcs, ht⟩
  · have : LL = [] := List.eq_nil_of_length_eq_zero hn
    subst this
    exact ⟨none, 0, rfl, .inl rfl⟩
  · refine ⟨some ⟨g, 0, none⟩, cap, rfl, .inr ⟨g, 0, rfl, (Array.getElem?_eq_some_iff.1 hh).1, fun k xs hk => ?_⟩⟩
    have hlt : k < vs.length := by rw [ho.1, Nat.mul_one]; exact (List.getElem?_eq_some_iff.1 hk).1
    have hx := List.getElem?_eq_getElem hlt
    obtain ⟨a, c, e, h1, h2⟩ := (hi k _ xs hx hk).at
    have hc := ho.cells (g := g) rfl k _ hx
    rw [addr0_add, e] at hc
    exact ⟨a, c, hc, h1, h2⟩
theorem OwnN.kept {n : Nat} {W W' : World} {B : Nat} {v : Value} {LL : List (List Int)} (h : OwnN n W B v LL) (hz : W.heap.size ≤ W'.heap.size) (h0 : ∀ k, v.ownBlock = some k → W'.heap[k]? = W.heap[k]?) (h1 : ∀ j, j < n → W'.heap[j]? = W.heap[j]?) (h2 : ∀ (g : Nat) (cs : Array Value), W.heap[g]? = some (.cells cs 3 (0, 0)) → W'.heap[g]? = W.heap[g]?) : OwnN n W' B v LL := by
  obtain ⟨vs, ho, hi⟩ := h
  exact ⟨vs, own_same ho h0, fun j x xs a b => (hi j x xs a b).kept hz h1 h2⟩
theorem OwnN.below {n : Nat} {W W' : World} {B : Nat} {v : Value} {LL : List (List Int)} (h : OwnN n W B v LL) (hb : Below W.heap.size W W') (hn : n ≤ W.heap.size) : OwnN n W' B v LL :=
  h.kept hb.size (fun k hk => by obtain ⟨vs, ho, -⟩ := h; exact hb.block k (World.ownsRow.lt ho k hk).2) (fun j hj => hb.block j (by omega)) (fun g cs hg => hb.block g (Array.getElem?_eq_some_iff.1 hg).1)

end Go.Proofs.YtcbdjjkebpncmaaDoor
namespace Go.Proofs.YtcbdjjkebpncmaaDoor
open Go.RowKit
set_option linter.unusedVariables false
set_option linter.unusedSectionVars false

/-! Which of two lists is the lesser one (G1). -/
def lexB : List Int → List Int → Bool
  | x :: a, y :: b => if x = y then lexB a b else decide (x < y)
  | _, _ => false
def lessB (a b : List Int) : Bool := if a.length = b.length then lexB a b else decide (a.length < b.length)
theorem lexB_irrefl : ∀ a, lexB a a = false
  | [] => rfl
  | x :: a => by unfold lexB; rw [if_pos rfl]; exact lexB_irrefl a
theorem lexB_trans : ∀ {a b c : List Int}, lexB a b = true → lexB b c = true → lexB a c = true
  | [], _, _, h, _ => by simp [lexB] at h
  | _ :: _, [], _, h, _ => by simp [lexB] at h
  | _ :: _, _ :: _, [], _, h => by simp [lexB] at h
  | x :: a, y :: b, z :: c, h, k => by
    unfold lexB at h k ⊢
    by_cases e1 : x = y
    · rw [if_pos e1] at h
      by_cases e2 : y = z
      · rw [if_pos e2] at k
        rw [if_pos (e1.trans e2)]
        exact lexB_trans h k
      · rw [if_neg e2] at k
        rw [if_neg (by omega)]
        have := of_decide_eq_true k
        exact decide_eq_true (by omega)
    · rw [if_neg e1] at h
      have h := of_decide_eq_true h
      by_cases e2 : y = z
      · rw [if_neg (by omega)]
        exact decide_eq_true (by omega)
      · rw [if_neg e2] at k
        have k := of_decide_eq_true k
        rw [if_neg (by omega)]
        exact decide_eq_true (by omega)
theorem lexB_total : ∀ {a b : List Int}, a.length = b.length → a ≠ b → lexB a b = true ∨ lexB b a = true
  | [], [], _, h => absurd rfl h
  | [], _ :: _, h, _ => by simp at h
  | _ :: _, [], h, _ => by simp at h
  | x :: a, y :: b, hl, h => by
    unfold lexB
    by_cases e : x = y
    · subst e
      rw [if_pos rfl, if_pos rfl]
      exact lexB_total (by simpa using hl) (fun e => h (by rw [e]))
    · rw [if_neg e, if_neg (fun h => e h.symm)]
      by_cases h1 : x < y
      · exact .inl (decide_eq_true h1)
      · exact .inr (decide_eq_true (by omega))
theorem lexB_snoc : ∀ {a b : List Int} (x y : Int), a.length = b.length → lexB a b = true → lexB (a ++ [x]) (b ++ [y]) = true
  | [], _, _, _, _, h => by simp [lexB] at h
  | _ :: _, [], _, _, h, _ => by simp at h
  | u :: a, v :: b, x, y, hl, h => by
    rw [List.cons_append, List.cons_append]
    unfold lexB at h ⊢
    by_cases e : u = v
    · rw [if_pos e] at h ⊢
      exact lexB_snoc x y (by simpa using hl) h
    · rw [if_neg e] at h ⊢
      exact h
theorem lexB_last : ∀ (a : List Int) {x y : Int}, x < y → lexB (a ++ [x]) (a ++ [y]) = true
  | [], x, y, h => by
    show lexB [x] [y] = true
    unfold lexB; rw [if_neg (by omega)]; exact decide_eq_true h
  | u :: a, x, y, h => by
    rw [List.cons_append, List.cons_append]
    unfold lexB
    rw [if_pos rfl]
    exact lexB_last a h
theorem lessB_irrefl (a : List Int) : lessB a a = false := by unfold lessB; rw [if_pos rfl]; exact lexB_irrefl a
theorem lessB_len {a b : List Int} (h : lessB a b = true) : a.length ≤ b.length := by
  unfold lessB at h
  by_cases e : a.length = b.length
  · omega
  · rw [if_neg e] at h
    have := of_decide_eq_true h; omega
theorem lessB_trans {a b c : List Int} (h : lessB a b = true) (k : lessB b c = true) : lessB a c = true := by
  have l1 := lessB_len h
  have l2 := lessB_len k
  unfold lessB at h k ⊢
  by_cases e1 : a.length = b.length
  · rw [if_pos e1] at h
    by_cases e2 : b.length = c.length
    · rw [if_pos e2] at k
      rw [if_pos (e1.trans e2)]
      exact lexB_trans h k
    · rw [if_neg (by omega)]
      exact decide_eq_true (by omega)
  · rw [if_neg (by omega)]
    exact decide_eq_true (by omega)
theorem lessB_total {a b : List Int} (h : a ≠ b) : lessB a b = true ∨ lessB b a = true := by
  unfold lessB
  by_cases e : a.length = b.length
  · rw [if_pos e, if_pos e.symm]
    exact lexB_total e h
  · rw [if_neg e, if_neg (fun h => e h.symm)]
    by_cases h1 : a.length < b.length
    · exact .inl (decide_eq_true h1)
    · exact .inr (decide_eq_true (by omega))
theorem lessB_snoc {a b : List Int} (x y : Int) (h : lessB a b = true) : lessB (a ++ [x]) (b ++ [y]) = true := by
  have l1 := lessB_len h
  unfold lessB at h ⊢
  simp only [List.length_append, List.length_cons, List.length_nil]
  by_cases e : a.length = b.length
  · rw [if_pos e] at h
    rw [if_pos (by omega)]
    exact lexB_snoc x y e h
  · rw [if_neg (by omega)]
    exact decide_eq_true (by omega)
theorem lessB_last (a : List Int) {x y : Int} (h : x < y) : lessB (a ++ [x]) (a ++ [y]) = true := by
  unfold lessB; rw [if_pos (by simp)]; exact lexB_last a h
theorem lessB_more (a : List Int) (x : Int) : lessB a (a ++ [x]) = true := by
  unfold lessB; rw [if_neg (by simp)]; exact decide_eq_true (by simp)
/-- Lesser, or the same. -/
def leW (a b : List Int) : Prop := a = b ∨ lessB a b = true
theorem leW_refl (a : List Int) : leW a a := .inl rfl
theorem leW_trans {a b c : List Int} (h : leW a b) (k : leW b c) : leW a c := by
  rcases h with rfl | h
  · exact k
  · rcases k with rfl | k
    · exact .inr h
    · exact .inr (lessB_trans h k)
theorem leW_snoc {a b : List Int} (x : Int) (h : leW a b) : leW (a ++ [x]) (b ++ [x]) := by
  rcases h with rfl | h
  · exact .inl rfl
  · exact .inr (lessB_snoc x x h)
theorem leW_not {a b : List Int} (h : leW a b) : lessB b a = false := by
  cases hk : lessB b a with
  | false => rfl
  | true =>
    rcases h with rfl | h
    · rw [lessB_irrefl] at hk; cases hk
    · have := lessB_trans h hk; rw [lessB_irrefl] at this; cases this
theorem nil_le (a : List Int) : leW [] a := by
  cases a with
  | nil => exact .inl rfl
  | cons x r => exact .inr (by unfold lessB; rw [if_neg (by simp)]; exact decide_eq_true (by simp))

/-! The search. -/
section
variable {σ : Type} [DecidableEq σ] (δ : σ → Nat → σ)
def runF (s : σ) (u : List Int) : σ := u.foldl (fun s e => δ s e.toNat) s
theorem runF_snoc (s : σ) (u : List Int) (e : Int) : runF δ s (u ++ [e]) = δ (runF δ s u) e.toNat := by simp [runF, List.foldl_append]
/-- Is a place among some? -/
def knownB (l : List (σ × List Int)) (s : σ) : Bool := l.any fun p => decide (p.1 = s)
theorem knownB_iff (l : List (σ × List Int)) (s : σ) : knownB l s = true ↔ ∃ p ∈ l, p.1 = s := by simp [knownB]
/-- One event more, from place x. -/
def bfStep (x : σ × List Int) (l : List (σ × List Int)) (e : Nat) : List (σ × List Int) := if knownB l (δ x.1 e) = true then l else l ++ [(δ x.1 e, x.2 ++ [(e : Int)])]
def bfRow (x : σ × List Int) (l : List (σ × List Int)) (n : Nat) : List (σ × List Int) := (List.range n).foldl (bfStep δ x) l
theorem bfRow_succ (x : σ × List Int) (l : List (σ × List Int)) (n : Nat) : bfRow δ x l (n + 1) = bfStep δ x (bfRow δ x l n) n := by
  unfold bfRow; rw [List.range_succ, List.foldl_append]; rfl
def bfGo (ev : Nat) : Nat → Nat → List (σ × List Int) → List (σ × List Int)
  | 0, _, l => l
  | f + 1, k, l => match l[k]? with
    | none => l
    | some x => bfGo ev f (k + 1) (bfRow δ x l ev)
theorem bfStep_pre (x : σ × List Int) (l : List (σ × List Int)) (e : Nat) : ∃ t, bfStep δ x l e = l ++ t := by
  unfold bfStep; split
  · exact ⟨[], by simp⟩
  · exact ⟨_, rfl⟩
theorem bfRow_pre (x : σ × List Int) (l : List (σ × List Int)) : ∀ n, ∃ t, bfRow δ x l n = l ++ t
  | 0 => ⟨[], by simp [bfRow]⟩
  | n + 1 => by
    obtain ⟨t, h⟩ := bfRow_pre x l n
    obtain ⟨u, h'⟩ := bfStep_pre δ x (bfRow δ x l n) n
    exact ⟨t ++ u, by rw [bfRow_succ, h', h, List.append_assoc]⟩
theorem bfGo_pre (ev : Nat) : ∀ (f k : Nat) (l : List (σ × List Int)), ∃ t, bfGo δ ev f k l = l ++ t
  | 0, k, l => ⟨[], by simp [bfGo]⟩
  | f + 1, k, l => by
    unfold bfGo
    cases l[k]? with
    | none => exact ⟨[], by simp⟩
    | some x =>
      obtain ⟨t, h⟩ := bfRow_pre δ x l ev
      obtain ⟨u, h'⟩ := bfGo_pre ev f (k + 1) (bfRow δ x l ev)
      exact ⟨t ++ u, by show bfGo δ ev f (k + 1) (bfRow δ x l ev) = _; rw [h', h, List.append_assoc]⟩

/-- What holds when all events of the first k places, and the first n of the place k, have been gone on from. -/
structure BI (s0 : σ) (ev k n : Nat) (l : List (σ × List Int)) : Prop where
  nd : (l.map (·.1)).Nodup
  hd : l[0]? = some (s0, [])
  run : ∀ p ∈ l, p.1 = runF δ s0 p.2 ∧ ∀ e ∈ p.2, 0 ≤ e ∧ e < (ev : Int)
  inc : l.Pairwise (fun p q => lessB p.2 q.2 = true)
  cl : ∀ (i : Nat) (x : σ × List Int), l[i]? = some x → ∀ e : Nat, e < ev → (i < k ∨ (i = k ∧ e < n)) → ∃ y ∈ l, y.1 = δ x.1 e ∧ leW y.2 (x.2 ++ [(e : Int)])
  top : ∀ p ∈ l, p.2 = [] ∨ ∃ (i : Nat) (x : σ × List Int) (e : Nat), l[i]? = some x ∧ p.2 = x.2 ++ [(e : Int)] ∧ (i < k ∨ (i = k ∧ e < n))
theorem bi_start (s0 : σ) (ev : Nat) : BI δ s0 ev 0 0 [(s0, [])] := by
  refine ⟨by simp, rfl, fun p hp => ?_, by simp, fun i x hx e he h => by omega, fun p hp => ?_⟩
  · have : p = (s0, []) := by simpa using hp
    subst this; exact ⟨rfl, by simp⟩
  · have : p = (s0, []) := by simpa using hp
    subst this; exact .inl rfl
theorem bi_step {s0 : σ} {ev k n : Nat} {l : List (σ × List Int)} {x : σ × List Int} (h : BI δ s0 ev k n l) (hx : l[k]? = some x) (hn : n < ev) : BI δ s0 ev k (n + 1) (bfStep δ x l n) := by
  have hxm := List.mem_of_getElem? hx
  have hklt := (List.getElem?_eq_some_iff.1 hx).1
  -- every word so far is lesser than the new one
  have hless : ∀ p ∈ l, lessB p.2 (x.2 ++ [(n : Int)]) = true := by
    intro p hp
    rcases h.top p hp with h0 | ⟨i, y, e, hy, h1, h2⟩
    · rw [h0]
      rcases nil_le (x.2 ++ [(n : Int)]) with h3 | h3
      · have := congrArg List.length h3; simp at this
      · exact h3
    · rw [h1]
      rcases h2 with h2 | ⟨h2, h3⟩
      · have hlt := (List.getElem?_eq_some_iff.1 hy).1
        have := List.pairwise_iff_getElem.1 h.inc i k hlt hklt h2
        rw [(List.getElem?_eq_some_iff.1 hy).2, (List.getElem?_eq_some_iff.1 hx).2] at this
        exact lessB_snoc _ _ this
      · subst h2
        rw [hx] at hy
        have := Option.some.inj hy
        subst this
        exact lessB_last _ (by omega)
  by_cases hk : knownB l (δ x.1 n) = true
  · have e : bfStep δ x l n = l := by unfold bfStep; rw [if_pos hk]
    rw [e]
    refine ⟨h.nd, h.hd, h.run, h.inc, fun i y hy e he hi => ?_, fun p hp => ?_⟩
    · by_cases h1 : i < k ∨ (i = k ∧ e < n)
      · exact h.cl i y hy e he h1
      · have hik : i = k := by omega
        have hen : e = n := by omega
        subst hik; subst hen
        rw [hx] at hy
        have := Option.some.inj hy
        subst this
        obtain ⟨q, hq, e1⟩ := (knownB_iff _ _).1 hk
        exact ⟨q, hq, e1, .inr (hless q hq)⟩
    · rcases h.top p hp with h0 | ⟨i, y, e, hy, h1, h2⟩
      · exact .inl h0
      · exact .inr ⟨i, y, e, hy, h1, by omega⟩
  · have e : bfStep δ x l n = l ++ [(δ x.1 n, x.2 ++ [(n : Int)])] := by unfold bfStep; rw [if_neg hk]
    rw [e]
    have hx2 := h.run x hxm
    refine ⟨?_, ?_, ?_, ?_, ?_, ?_⟩
    · rw [List.map_append, List.nodup_append]
      refine ⟨h.nd, by simp, fun a ha b hb e => ?_⟩
      have hb : b = δ x.1 n := by simpa using hb
      subst hb; subst e
      obtain ⟨q, hq, e1⟩ := List.mem_map.1 ha
      exact hk ((knownB_iff _ _).2 ⟨q, hq, e1⟩)
    · rw [List.getElem?_append_left (List.getElem?_eq_some_iff.1 h.hd).1]; exact h.hd
    · intro p hp
      rcases List.mem_append.1 hp with hp | hp
      · exact h.run p hp
      · have : p = (δ x.1 n, x.2 ++ [(n : Int)]) := by simpa using hp
        subst this
        refine ⟨by rw [runF_snoc, ← hx2.1]; simp, fun e he => ?_⟩
        rcases List.mem_append.1 he with he | he
        · exact hx2.2 e he
        · have : e = (n : Int) := by simpa using he
          omega
    · rw [List.pairwise_append]
      refine ⟨h.inc, by simp, fun p hp q hq => ?_⟩
      have : q = (δ x.1 n, x.2 ++ [(n : Int)]) := by simpa using hq
      subst this
      exact hless p hp
    · intro i y hy e he hi
      have hil : i < l.length := by rcases hi with hi | hi <;> omega
      rw [List.getElem?_append_left hil] at hy
      by_cases h1 : i < k ∨ (i = k ∧ e < n)
      · obtain ⟨q, hq, e1, e2⟩ := h.cl i y hy e he h1
        exact ⟨q, List.mem_append_left _ hq, e1, e2⟩
      · have hik : i = k := by omega
        have hen : n = e := by omega
        subst hik; subst hen
        rw [hx] at hy
        have := Option.some.inj hy
        subst this
        exact ⟨(δ x.1 n, x.2 ++ [(n : Int)]), List.mem_append_right _ (by simp), rfl, leW_refl _⟩
    · intro p hp
      have hlk : ∀ (i : Nat) (y : σ × List Int), l[i]? = some y → (l ++ [(δ x.1 n, x.2 ++ [(n : Int)])])[i]? = some y := fun i y hy => by
        rw [List.getElem?_append_left (List.getElem?_eq_some_iff.1 hy).1]; exact hy
      rcases List.mem_append.1 hp with hp | hp
      · rcases h.top p hp with h0 | ⟨i, y, e, hy, h1, h2⟩
        · exact .inl h0
        · exact .inr ⟨i, y, e, hlk i y hy, h1, by omega⟩
      · have : p = (δ x.1 n, x.2 ++ [(n : Int)]) := by simpa using hp
        subst this
        exact .inr ⟨k, x, n, hlk k x hx, rfl, .inr ⟨rfl, by omega⟩⟩
theorem bi_row {s0 : σ} {ev k : Nat} {l : List (σ × List Int)} {x : σ × List Int} (h : BI δ s0 ev k 0 l) (hx : l[k]? = some x) : ∀ n, n ≤ ev → BI δ s0 ev k n (bfRow δ x l n)
  | 0, _ => h
  | n + 1, hn => by
    rw [bfRow_succ]
    obtain ⟨t, ht⟩ := bfRow_pre δ x l n
    exact bi_step δ (bi_row h hx n (by omega)) (by rw [ht, List.getElem?_append_left (List.getElem?_eq_some_iff.1 hx).1]; exact hx) (by omega)
theorem bi_next {s0 : σ} {ev k : Nat} {l : List (σ × List Int)} {x : σ × List Int} (h : BI δ s0 ev k 0 l) (hx : l[k]? = some x) : BI δ s0 ev (k + 1) 0 (bfRow δ x l ev) := by
  have h' := bi_row δ h hx ev (Nat.le_refl _)
  refine ⟨h'.nd, h'.hd, h'.run, h'.inc, fun i y hy e he hi => h'.cl i y hy e he (by omega), fun p hp => ?_⟩
  rcases h'.top p hp with h0 | ⟨i, y, e, hy, h1, h2⟩
  · exact .inl h0
  · exact .inr ⟨i, y, e, hy, h1, by omega⟩
/-- Where all places have been gone on from, each word's place is there, with a word that is no greater. -/
theorem bi_all {s0 : σ} {ev : Nat} {l : List (σ × List Int)} (h : BI δ s0 ev l.length 0 l) : ∀ (u : List Int), (∀ e ∈ u, 0 ≤ e ∧ e < (ev : Int)) → ∃ p ∈ l, p.1 = runF δ s0 u ∧ leW p.2 u := by
  have key : ∀ (n : Nat) (u : List Int), u.length = n → (∀ e ∈ u, 0 ≤ e ∧ e < (ev : Int)) → ∃ p ∈ l, p.1 = runF δ s0 u ∧ leW p.2 u := by
    intro n
    induction n with
    | zero =>
      intro u hu _
      have : u = [] := List.eq_nil_of_length_eq_zero hu
      subst this
      exact ⟨_, List.mem_of_getElem? h.hd, rfl, leW_refl _⟩
    | succ n ih =>
      intro u hu hb
      have hne : u ≠ [] := fun e => by rw [e] at hu; simp at hu
      have hsp := (List.dropLast_concat_getLast hne).symm
      obtain ⟨v, z, e⟩ : ∃ v z, u = v ++ [z] := ⟨_, _, hsp⟩
      subst e
      have hv : v.length = n := by simpa using hu
      obtain ⟨p, hp, e1, e2⟩ := ih v hv (fun y hy => hb y (by simp [hy]))
      have hz := hb z (by simp)
      obtain ⟨i, hi⟩ := List.mem_iff_getElem?.1 hp
      obtain ⟨q, hq, e3, e4⟩ := h.cl i p hi z.toNat (by omega) (.inl (List.getElem?_eq_some_iff.1 hi).1)
      refine ⟨q, hq, by rw [e3, e1, runF_snoc], ?_⟩
      have hc : ((z.toNat : Nat) : Int) = z := by omega
      rw [hc] at e4
      exact leW_trans e4 (leW_snoc z e2)
  exact fun u hb => key u.length u rfl hb
end

end Go.Proofs.YtcbdjjkebpncmaaDoor
namespace Go.Proofs.YtcbdjjkebpncmaaDoor
open Go.RowKit
set_option linter.unusedVariables false

theorem Tryd.infoPlace : (Tryd.prog.info? 132).map (fun i => (i.zero, i.size, i.bytes)) = some (some (.agg #[.slice none 0 0, .slice none 0 0, .slice none 0 0]), 3, 72) := by kernel_rfl

/-- A place: where both may be, and a word that leads there. -/
abbrev Plc := (List Int × List Int) × List Int
def plcs : List Plc → List (List Int)
  | [] => []
  | p :: r => p.1.1 :: p.1.2 :: p.2 :: plcs r
theorem plcs_len : ∀ L : List Plc, (plcs L).length = L.length * 3
  | [] => rfl
  | a :: r => by simp only [plcs, List.length_cons, plcs_len r]; omega
theorem plcs_append : ∀ L M : List Plc, plcs (L ++ M) = plcs L ++ plcs M
  | [], M => rfl
  | a :: r, M => by simp only [List.cons_append, plcs, plcs_append r M]
theorem plcs_at : ∀ {L : List Plc} {k : Nat} {p : Plc}, L[k]? = some p → (plcs L)[k * 3]? = some p.1.1 ∧ (plcs L)[k * 3 + 1]? = some p.1.2 ∧ (plcs L)[k * 3 + 2]? = some p.2
  | [], k, p, h => by simp at h
  | a :: r, 0, p, h => by
    have : a = p := by simpa using h
    subst this; simp [plcs]
  | a :: r, k + 1, p, h => by
    have := plcs_at (L := r) (k := k) (p := p) (by simpa using h)
    rw [show (k + 1) * 3 = k * 3 + 1 + 1 + 1 by omega]
    simpa [plcs] using this

/-- The places' cells. -/
def CellsP (w : World) (b off : Nat) (L : List Plc) : Prop := ∀ (k : Nat) (p : Plc), L[k]? = some p → ∃ xa xc ya yc za zc,
  w.cell? ⟨b, off + k * 3, none⟩ = some (.slice xa p.1.1.length xc) ∧ w.cell? ⟨b, off + k * 3 + 1, none⟩ = some (.slice ya p.1.2.length yc) ∧ w.cell? ⟨b, off + k * 3 + 2, none⟩ = some (.slice za p.2.length zc) ∧
  At w xa p.1.1 ∧ p.1.1.length ≤ maxLen ∧ At w ya p.1.2 ∧ p.1.2.length ≤ maxLen ∧ At w za p.2 ∧ p.2.length ≤ maxLen

theorem knownB_hit {L : List Plc} {k : Nat} {p : Plc} {x y : List Int} (h : Hid (L[k]? = some p)) (h1 : Hid (sameB p.1.1 x = true)) (h2 : Hid (sameB p.1.2 y = true)) : true = knownB L (x, y) := by
  have h1 : p.1.1 = x := by have := h1.out; simpa [sameB] using this
  have h2 : p.1.2 = y := by have := h2.out; simpa [sameB] using this
  exact ((knownB_iff _ _).2 ⟨p, List.mem_of_getElem? h.out, by rw [← h1, ← h2]⟩).symm
/-- None of the first k is. -/
def noneP (L : List Plc) (k : Nat) (x y : List Int) : Prop := ∀ (j : Nat) (p : Plc), j < k → L[j]? = some p → p.1 ≠ (x, y)
theorem noneP_succ {L : List Plc} {k : Nat} {p : Plc} {x y : List Int} (h0 : Hid (noneP L k x y)) (h : Hid (L[k]? = some p)) (h1 : Hid ((sameB p.1.1 x && sameB p.1.2 y) = false)) : Hid (noneP L (k + 1) x y) := fun j q hj hq => by
  by_cases e : j < k
  · exact h0.out j q e hq
  · have : j = k := by omega
    subst this
    rw [h.out] at hq
    have := Option.some.inj hq
    subst this
    intro e
    have := h1.out
    simp [sameB, e] at this
theorem noneP_end {L : List Plc} {k : Nat} {x y : List Int} (h0 : Hid (noneP L k x y)) (h : ¬ k < L.length) : false = knownB L (x, y) := by
  cases hk : knownB L (x, y) with
  | false => rfl
  | true =>
    obtain ⟨p, hp, e⟩ := (knownB_iff _ _).1 hk
    obtain ⟨i, hi⟩ := List.mem_iff_getElem?.1 hp
    exact absurd e (h0.out i p (Nat.lt_of_lt_of_le (List.getElem?_eq_some_iff.1 hi).1 (by omega)) hi)

set_option maxHeartbeats 2000000 in
theorem known_some (ba oa ca : Nat) (xa ya : Option Addr) (xc yc : Nat) (L : List Plc) (x y : List Int) (w : World) (hl : L.length ≤ 9223372036854775807) (hca : Hid (CellsP w ba oa L)) (hx : Hid (At w xa x)) (hxl : Hid (x.length ≤ maxLen)) (hy : Hid (At w ya y)) (hyl : Hid (y.length ≤ maxLen)) :
    Calls Tryd.prog 117 #[.slice (some ⟨ba, oa, none⟩) L.length ca, .slice xa x.length xc, .slice ya y.length yc] w fun e w' => e = .returned (.bool (knownB L (x, y))) ∧ ∃ q, w' = w.drewN q := by
  go_enter Tryd.func117, Tryd.ntmps117
  go_wp2
  go_loopw [7] (fun i wr => ∃ k q : Nat, k ≤ L.length ∧ i = .int .i64 k ∧ wr = w.drewN q ∧ Hid (noneP L k x y)) (fun i _ => L.length - (intOf i).toNat)
  case atStart => exact ⟨0, 0, Nat.zero_le _, rfl, rfl, fun j p hj => by omega⟩
  case round =>
    obtain ⟨k, q, hk, rfl, rfl, he⟩ := hrel
    by_cases hlt : k < L.length
    · obtain ⟨p, HX⟩ : ∃ p, Hid (L[k]? = some p) := ⟨_, List.getElem?_eq_getElem hlt⟩
      obtain ⟨pa, pc, qa, qc, za, zc, c1, c2, -, a1, l1, a2, l2, -, -⟩ := hca.out k p HX.out
      obtain ⟨V, HV⟩ : ∃ V, Hid (V = w.drewN q) := ⟨_, rfl⟩
      replace c1 : V.cell? ⟨ba, oa + k * 3, none⟩ = some (.slice pa p.1.1.length pc) := by rw [HV.out]; exact c1
      have KEY : Hid (Calls Tryd.prog 17 #[.slice pa p.1.1.length pc, .slice xa x.length xc] V fun e w' => e = .returned (.bool (sameB p.1.1 x)) ∧ ∃ r, w' = V.drewN r) := by
        rw [HV.out]; exact same_any pa xa pc xc p.1.1 x _ (At.drewN a1 q) (At.drewN hx.out q) l1 hxl.out
      have KEY2 : Hid (∀ r, Calls Tryd.prog 17 #[.slice qa p.1.2.length qc, .slice ya y.length yc] (w.drewN r) fun e w' => e = .returned (.bool (sameB p.1.2 y)) ∧ ∃ r', w' = (w.drewN r).drewN r') := fun r => same_any qa ya qc yc p.1.2 y _ (At.drewN a2 r) (At.drewN hy.out r) l2 hyl.out
      rw [← HV.out]
      clear a1 l1 a2 l2
      have C2 := Hid.of c2
      clear c2
      go_wp2_with fail
      refine KEY.out.mono ?_
      rintro e V' ⟨rfl, r, rfl⟩
      have HVr : Hid (V.drewN r = w.drewN (q + r)) := by show _ = _; rw [HV.out, World.drewN_drewN]
      rw [HVr.out]
      clear KEY c1 HVr
      cases hxy : sameB p.1.1 x with
      | true =>
        have HXY := Hid.of hxy
        clear hxy
        have HV2 := HV
        clear HV2
        obtain ⟨V2, HV2⟩ : ∃ V2, Hid (V2 = w.drewN (q + r)) := ⟨_, rfl⟩
        have c2 : V2.cell? ⟨ba, oa + k * 3 + 1, none⟩ = some (.slice qa p.1.2.length qc) := by rw [HV2.out]; exact C2.out
        have KEY3 := Hid.of (KEY2.out (q + r))
        rw [← HV2.out] at KEY3 ⊢
        go_wp2_with fail
        refine KEY3.out.mono ?_
        rintro e V' ⟨rfl, r', rfl⟩
        have HVr : Hid (V2.drewN r' = w.drewN (q + r + r')) := by show _ = _; rw [HV2.out, World.drewN_drewN]
        rw [HVr.out]
        clear KEY3 KEY2 c2
        cases hxz : sameB p.1.2 y with
        | true =>
          have HXZ := Hid.of hxz
          clear hxz
          go_wp2
          go_ret
          exact ⟨ret_bool (knownB_hit HX HXY HXZ), _, rfl⟩
        | false =>
          have HXZ : Hid ((sameB p.1.1 x && sameB p.1.2 y) = false) := by show _ = _; rw [hxz, Bool.and_false]
          clear hxz
          go_wp2
          go_roundw
          case rel => exact ⟨k + 1, _, by omega, by go_num, rfl, noneP_succ he HX HXZ⟩
          case measure => simp [intOf]; omega
      | false =>
        have HXZ : Hid ((sameB p.1.1 x && sameB p.1.2 y) = false) := by show _ = _; rw [hxy, Bool.false_and]
        clear hxy
        go_wp2
        go_roundw
        case rel => exact ⟨k + 1, _, by omega, by go_num, rfl, noneP_succ he HX HXZ⟩
        case measure => simp [intOf]; omega
    · go_wp2
      go_ret
      exact ⟨ret_bool (noneP_end he hlt), q, rfl⟩

end Go.Proofs.YtcbdjjkebpncmaaDoor
namespace Go.Proofs.YtcbdjjkebpncmaaDoor
open Go.RowKit
set_option linter.unusedVariables false

/-- One arrow gone along: what it leads to, if it leads from what is there and is not there yet. -/
def along (fr to : Arr → Int) (l : List Int) (a : Arr) : List Int := if (hasB l (fr a) && !hasB l (to a)) = true then l ++ [to a] else l
/-- One round over the arrows. -/
def sweep (fr to : Arr → Int) (ars : List Arr) (l : List Int) : List Int := ars.foldl (along fr to) l
/-- At most k rounds, till nothing comes more. -/
def closeN (fr to : Arr → Int) (ars : List Arr) : Nat → List Int → List Int
  | 0, l => l
  | k + 1, l => if (sweep fr to ars l).length = l.length then sweep fr to ars l else closeN fr to ars k (sweep fr to ars l)

/-- What can be come to. -/
structure Come (fr to : Arr → Int) (ars : List Arr) (l0 : List Int) (P : Int → Prop) : Prop where
  start : ∀ x ∈ l0, P x
  step : ∀ a ∈ ars, P (fr a) → P (to a)
/-- .. from l0: in whatever holds l0 and is closed. -/
def Rch (fr to : Arr → Int) (ars : List Arr) (l0 : List Int) (x : Int) : Prop := ∀ P : Int → Prop, Come fr to ars l0 P → P x

theorem rch_start {fr to : Arr → Int} {ars : List Arr} {l0 : List Int} {x : Int} (h : x ∈ l0) : Rch fr to ars l0 x := fun _ hP => hP.start x h
theorem rch_step {fr to : Arr → Int} {ars : List Arr} {l0 : List Int} {a : Arr} (ha : a ∈ ars) (h : Rch fr to ars l0 (fr a)) : Rch fr to ars l0 (to a) := fun P hP => hP.step a ha (h P hP)

theorem hasB_iff (l : List Int) (x : Int) : hasB l x = true ↔ x ∈ l := by simp [hasB]
theorem along_sub {fr to : Arr → Int} {l : List Int} {a : Arr} : ∀ x ∈ l, x ∈ along fr to l a := fun x hx => by
  unfold along; split
  · exact List.mem_append_left _ hx
  · exact hx
theorem along_len {fr to : Arr → Int} (l : List Int) (a : Arr) : l.length ≤ (along fr to l a).length ∧ (along fr to l a).length ≤ l.length + 1 := by
  unfold along; split
  · simp
  · simp
theorem sweep_sub {fr to : Arr → Int} : ∀ {ars : List Arr} {l : List Int}, ∀ x ∈ l, x ∈ sweep fr to ars l
  | [], _, _, h => h
  | a :: r, l, x, h => sweep_sub (ars := r) (l := along fr to l a) x (along_sub x h)
theorem sweep_le {fr to : Arr → Int} : ∀ (ars : List Arr) (l : List Int), l.length ≤ (sweep fr to ars l).length
  | [], _ => Nat.le_refl _
  | a :: r, l => Nat.le_trans (along_len l a).1 (sweep_le r _)
theorem sweep_le2 {fr to : Arr → Int} : ∀ (ars : List Arr) (l : List Int), (sweep fr to ars l).length ≤ l.length + ars.length
  | [], _ => Nat.le_refl _
  | a :: r, l => by
    have h1 := (along_len (fr := fr) (to := to) l a).2
    have h2 := sweep_le2 (fr := fr) (to := to) r (along fr to l a)
    show (sweep fr to r (along fr to l a)).length ≤ _
    simp only [List.length_cons]; omega
/-- If no round brings more, nothing can be gone along. -/
theorem sweep_closed {fr to : Arr → Int} : ∀ {ars : List Arr} {l : List Int}, (sweep fr to ars l).length = l.length → sweep fr to ars l = l ∧ ∀ a ∈ ars, fr a ∈ l → to a ∈ l
  | [], l, _ => ⟨rfl, by simp⟩
  | a :: r, l, h => by
    have h1 := (along_len (fr := fr) (to := to) l a).1
    have h2 := sweep_le (fr := fr) (to := to) r (along fr to l a)
    have h3 : (sweep fr to r (along fr to l a)).length = l.length := h
    have e : (along fr to l a).length = l.length := by omega
    have hn : ¬ (hasB l (fr a) && !hasB l (to a)) = true := fun hc => by
      unfold along at e; rw [if_pos hc] at e; simp at e
    have ea : along fr to l a = l := by unfold along; rw [if_neg hn]
    rw [ea] at h3
    obtain ⟨k1, k2⟩ := sweep_closed (ars := r) (l := l) h3
    refine ⟨by show sweep fr to r (along fr to l a) = l; rw [ea]; exact k1, fun b hb => ?_⟩
    rcases List.mem_cons.1 hb with rfl | hb
    · intro hf
      apply Classical.byContradiction
      intro ht
      apply hn
      rw [Bool.and_eq_true, hasB_iff]
      refine ⟨hf, ?_⟩
      cases h4 : hasB l (to b) with
      | false => rfl
      | true => exact absurd ((hasB_iff _ _).1 h4) ht
    · exact k2 b hb

theorem along_nodup {fr to : Arr → Int} {l : List Int} (h : l.Nodup) (a : Arr) : (along fr to l a).Nodup := by
  unfold along
  split
  · rename_i hc
    rw [Bool.and_eq_true] at hc
    have : to a ∉ l := fun hm => by have h1 := (hasB_iff l (to a)).2 hm; rw [h1] at hc; exact absurd hc.2 (by simp)
    rw [List.nodup_append]
    exact ⟨h, by simp, fun x hx y hy => by rw [List.mem_singleton.1 hy]; rintro rfl; exact this hx⟩
  · exact h
theorem sweep_nodup {fr to : Arr → Int} : ∀ {ars : List Arr} {l : List Int}, l.Nodup → (sweep fr to ars l).Nodup
  | [], _, h => h
  | a :: r, l, h => sweep_nodup (ars := r) (along_nodup h a)
theorem along_in {fr to : Arr → Int} {P : Int → Prop} {l : List Int} {a : Arr} (hl : ∀ x ∈ l, P x) (ha : P (fr a) → P (to a)) : ∀ x ∈ along fr to l a, P x := by
  unfold along
  split
  · rename_i hc
    rw [Bool.and_eq_true, hasB_iff] at hc
    intro x hx
    rcases List.mem_append.1 hx with hx | hx
    · exact hl x hx
    · rw [List.mem_singleton.1 hx]; exact ha (hl _ hc.1)
  · exact hl
theorem sweep_in {fr to : Arr → Int} {P : Int → Prop} : ∀ {ars : List Arr} {l : List Int}, (∀ x ∈ l, P x) → (∀ a ∈ ars, P (fr a) → P (to a)) → ∀ x ∈ sweep fr to ars l, P x
  | [], _, hl, _ => hl
  | a :: r, l, hl, ha => sweep_in (ars := r) (along_in hl (ha a (by simp))) (fun b hb => ha b (by simp [hb]))
theorem closeN_in {fr to : Arr → Int} {P : Int → Prop} {ars : List Arr} (ha : ∀ a ∈ ars, P (fr a) → P (to a)) : ∀ (k : Nat) {l : List Int}, (∀ x ∈ l, P x) → ∀ x ∈ closeN fr to ars k l, P x
  | 0, _, hl => hl
  | k + 1, l, hl => by
    unfold closeN
    split
    · exact sweep_in hl ha
    · exact closeN_in ha k (sweep_in hl ha)
theorem closeN_sub {fr to : Arr → Int} {ars : List Arr} : ∀ (k : Nat) {l : List Int}, ∀ x ∈ l, x ∈ closeN fr to ars k l
  | 0, _, _, h => h
  | k + 1, l, x, h => by
    unfold closeN
    split
    · exact sweep_sub x h
    · exact closeN_sub k x (sweep_sub x h)
theorem nodup_len : ∀ (n : Nat) (l : List Int), l.Nodup → (∀ x ∈ l, 0 ≤ x ∧ x < n) → l.length ≤ n := by
  intro n l hn hb
  have hs : srt l = (srt l) := rfl
  have hi := inc_srt l
  have hm : ∀ x ∈ srt l, 0 ≤ x ∧ x < n := fun x hx => hb x ((mem_srt x l).1 hx)
  have hlen : (srt l).length ≤ n := by
    have := goIs_len (n : Int) (srt l) (-1) (by omega) ((goIs_iff _ _ _).2 ⟨hi, fun x hx => by have := hm x hx; omega⟩)
    omega
  have hp : l.Perm (srt l) := (List.perm_ext_iff_of_nodup hn (hi.imp (fun h => by omega))).2 (fun x => (mem_srt x l).symm)
  rw [hp.length_eq]; exact hlen
/-- Enough rounds: what comes is closed. -/
theorem closeN_closed {fr to : Arr → Int} {ars : List Arr} {n : Nat} (hb : ∀ a ∈ ars, 0 ≤ to a ∧ to a < n) : ∀ (k : Nat) {l : List Int}, l.Nodup → (∀ x ∈ l, 0 ≤ x ∧ x < n) → (l = [] ∨ n < l.length + k) →
    ∀ a ∈ ars, fr a ∈ closeN fr to ars k l → to a ∈ closeN fr to ars k l
  | 0, l, hn, hl, hk => by
    intro a ha hf
    rcases hk with rfl | hk
    · simp [closeN] at hf
    · have := nodup_len n l hn hl; omega
  | k + 1, l, hn, hl, hk => by
    unfold closeN
    split
    · rename_i he
      obtain ⟨k1, k2⟩ := sweep_closed he
      rw [k1]; exact k2
    · rename_i he
      refine closeN_closed hb k (sweep_nodup hn) (sweep_in hl (fun a ha _ => hb a ha)) (.inr ?_)
      have h1 := sweep_le (fr := fr) (to := to) ars l
      rcases hk with rfl | hk
      · exfalso
        apply he
        have : ∀ (r : List Arr), sweep fr to r [] = [] := fun r => by
          induction r with
          | nil => rfl
          | cons a r ih => show sweep fr to r (along fr to [] a) = []; rw [show along fr to [] a = [] by simp [along, hasB]]; exact ih
        rw [this]
      · omega
theorem mem_close {fr to : Arr → Int} {ars : List Arr} {n : Nat} {l : List Int} (hb : ∀ a ∈ ars, 0 ≤ to a ∧ to a < n) (hn : l.Nodup) (hl : ∀ x ∈ l, 0 ≤ x ∧ x < n) (x : Int) : x ∈ closeN fr to ars n l ↔ Rch fr to ars l x := by
  constructor
  · exact fun h => closeN_in (fun a ha h => rch_step ha h) n (fun y hy => rch_start hy) x h
  · intro h
    refine h (fun y => y ∈ closeN fr to ars n l) ⟨fun y hy => closeN_sub n y hy, closeN_closed hb n hn hl ?_⟩
    cases l with
    | nil => exact .inl rfl
    | cons y r => right; simp only [List.length_cons]; omega

/-- Reach and Live, as the references answer them. -/
def reachL (m : Mach) : List Int := srt (closeN (·.f) (·.t) m.arrows m.st.toNat m.starts)
def liveL (m : Mach) : List Int := srt (closeN (·.t) (·.f) m.arrows m.st.toNat m.ends)

theorem inc_nodup {l : List Int} (h : Inc l) : l.Nodup := h.imp (fun h => by omega)

theorem sweep_take {fr to : Arr → Int} {ars : List Arr} {k : Nat} {a : Arr} {l : List Int} (h : k < ars.length) (ha : Hid (a = ars[k]?.getD arr0)) : sweep fr to (ars.take (k + 1)) l = along fr to (sweep fr to (ars.take k) l) a := by
  have ha := ha.out
  rw [List.getElem?_eq_getElem h, Option.getD_some] at ha
  unfold sweep
  rw [List.take_add_one, List.getElem?_eq_getElem h, List.foldl_append, ← ha]; rfl
theorem closeN_len {fr to : Arr → Int} {ars : List Arr} {c : Nat} (hc : ars.length ≤ c) : ∀ (k : Nat) (l : List Int), (closeN fr to ars k l).length ≤ l.length + k * c
  | 0, l => by simp [closeN]
  | k + 1, l => by
    unfold closeN
    have h1 := sweep_le2 (fr := fr) (to := to) ars l
    have h2 : (k + 1) * c = k * c + c := Nat.succ_mul k c
    split
    · omega
    · have := closeN_len (fr := fr) (to := to) hc k (sweep fr to ars l); omega

end Go.Proofs.YtcbdjjkebpncmaaDoor
