/-
  append onto a row of the call's own: the row stays in its block, or it is in a new one.
  Small facts on rows that a call has made: their blocks are apart by their types; a block that is another object.
  What is said of slices of integers that lie below some block, or in a block of integers; rows of them.
  What is said of a slice of places (two lists and a word each); the walk of jalousieref7.known.
  What the walk of jalousieref7.Places knows of the memory.
-/
import Derived.Test.YtcbdjjkebpncmaaDoorG08
import Derived.Deep.RegionLaw
import Derived.Test.YtcbdjjkebpncmaaDoorG06
import Derived.Test.YtcbdjjkebpncmaaDoorG07
namespace Go.Proofs.YtcbdjjkebpncmaaDoor
open Go.RowKit
set_option linter.unusedVariables false

section
variable {P : Program} (w : World)
theorem run_append_block (base : Nat) (t ty e : TypeId) (i : TypeInfo) (z : Value) (size bytes : Nat) (ht : P.underlying t = some (.slice e)) (hi : P.info? e = some i) (hz : i.zero = some z)
    (hsize : i.size = size) (hby : i.bytes = bytes) (hzs : z.cells.size = size) (hsz : 0 < size)
    (v : Value) (n : Nat) (xs : List Value) (hown : w.ownsRow base e size v n xs)
    (a : Addr) (m c : Nat) (news : List Value) (hl : news.length = m * size) (hnews : ∀ j u, news[j]? = some u → w.cell? (a.add j) = some u) (h1 : ∀ u ∈ news, u.oneCell' = true)
    (hm : 0 < m) (h63 : n + m ≤ maxLen) (hbytes : (n + m) * bytes ≤ 140737488355328) (hbase : base ≤ w.heap.size) :
    ∃ v' w', (Builtin.append_ #[t, t] ty #[v, .slice (some a) m c]).run P w = .ok v' w' ∧ w'.ownsRow base e size v' (n + m) (xs ++ news) ∧ w.grownBy w' v.ownBlock ∧ (v'.ownBlock = v.ownBlock ∨ v'.ownBlock = some w.heap.size) := by
  obtain ⟨v', w', hrun, h2, h3, -⟩ := run_append_own (P := P) w base t ty e i z size bytes ht hi hz hsize hby hzs hsz v n xs hown a m c news hl hnews h1 h63 hbytes hbase
  refine ⟨v', w', hrun, h2, h3, ?_⟩
  have h9 : n + m ≤ 9223372036854775807 := by simp only [maxLen] at h63; omega
  subst hsize
  subst hby
  rcases hown.2 with ⟨rfl, rfl⟩ | ⟨g, cap, cur, rfl, hbg, hg, hnc, hcm, hcs, htake⟩
  · have hr := run_append_nil (P := P) w t ty e i z ht hi hz a m c news hl hnews hm (by omega) (by have hb := hbytes; simp only [Nat.zero_add] at hb; omega)
    rw [hrun] at hr
    injection hr with e1 e2
    right; rw [e1]; rfl
  · by_cases hroom : n + m ≤ cap
    · have hr := run_append_room (P := P) w t ty e i ht hi g n cap cur hg a m c news hl hnews h1 hroom (by rw [hl, hcs, ← Nat.add_mul]; exact Nat.mul_le_mul_right _ hroom)
      rw [hrun] at hr
      injection hr with e1 e2
      left; rw [e1]; rfl
    · have hr := run_append_grow (P := P) w t ty e i z ht hi hz ⟨g, 0, none⟩ n cap xs hown.1 (hown.cells (g := g) rfl) a m c news hl hnews (by omega) (by omega) (growslice_fits (by omega) hbytes)
      rw [hrun] at hr
      injection hr with e1 e2
      right; rw [e1]; rfl

theorem wpList_append_block {ops : Array Oper} {rest : List Oper} {o : Oper} {a : Act} {Q : Exit → Act → World → Prop} (hgd : o.guard = none) (s x : Operand) (t : TypeId)
    (ho : o.op = .call { callee := .builtin .append, args := #[s, x], argTypes := #[t, t] })
    (base : Nat) (e : TypeId) (i : TypeInfo) (z : Value) (size bytes : Nat) (ht : P.underlying t = some (.slice e)) (hi : P.info? e = some i) (hz : i.zero = some z)
    (hsize : i.size = size) (hby : i.bytes = bytes) (hzs : z.cells.size = size) (hsz : 0 < size)
    (v : Value) (n : Nat) (xs : List Value) (hs : a.eval s = v) (hown : w.ownsRow base e size v n xs)
    (ad : Addr) (m c : Nat) (news : List Value) (hx : a.eval x = .slice (some ad) m c) (hl : news.length = m * size) (hnews : ∀ j u, news[j]? = some u → w.cell? (ad.add j) = some u) (h1 : ∀ u ∈ news, u.oneCell' = true)
    (hm : 0 < m) (h63 : n + m ≤ maxLen) (hbytes : (n + m) * bytes ≤ 140737488355328) (hbase : base ≤ w.heap.size)
    (h : ∀ v' w', w'.ownsRow base e size v' (n + m) (xs ++ news) → w.grownBy w' v.ownBlock → (v'.ownBlock = v.ownBlock ∨ v'.ownBlock = some w.heap.size) → wpList P ops Q rest (a.put o.dst v') w') : wpList P ops Q (o :: rest) a w := by
  obtain ⟨v', w', hr, h2, h3, h4⟩ := run_append_block (P := P) w base t o.type e i z size bytes ht hi hz hsize hby hzs hsz v n xs hown ad m c news hl hnews h1 hm h63 hbytes hbase
  refine wpList_plain hgd fun _ hK => ?_
  unfold Oper.wp execOp
  simp only [ho, resolve, invoke, builtin, Sem.run_bind, Sem.run_pure, Result.andThen_ok, List.map_toArray, List.map_cons, List.map_nil, hs, hx, hr]
  exact hK _ _ (h v' w' h2 h3 h4)
end

section
variable {P : Program} {ops : Array Oper} {o : Oper} {a : Act} {w : World} {K : Act → World → Prop} {Q : Exit → Act → World → Prop} {E : Prop}
/-- The same, as one step of a region that draws. -/
theorem step_append_block (hg : o.guard = none) (s x : Operand) (t : TypeId) (hop : o.op = Op.call { callee := Callee.builtin Builtin.append, args := #[s, x], argTypes := #[t, t] })
    (base : Nat) (e : TypeId) (i : TypeInfo) (z : Value) (size bytes : Nat) (h1 : P.underlying t = some (.slice e)) (h2 : P.info? e = some i) (h3 : i.zero = some z) (h4 : i.size = size) (h5 : i.bytes = bytes) (h6 : z.cells.size = size) (h7 : 0 < size)
    (v : Value) (n : Nat) (xs : List Value) (hs : a.eval s = v) (hown : w.ownsRow base e size v n xs)
    (ad : Addr) (m c : Nat) (news : List Value) (hx : a.eval x = .slice (some ad) m c) (hn : news.length = m * size) (hc : ∀ j u, news[j]? = some u → w.cell? (ad.add j) = some u) (h1c : ∀ u ∈ news, u.oneCell' = true)
    (hm : 0 < m) (b1 : n + m ≤ maxLen) (b2 : (n + m) * bytes ≤ 140737488355328) (hbase : base ≤ w.heap.size)
    (hK : ∀ v' w', w'.ownsRow base e size v' (n + m) (xs ++ news) → w.grownBy w' v.ownBlock → (v'.ownBlock = v.ownBlock ∨ v'.ownBlock = some w.heap.size) → K (a.put o.dst v') w') :
    if Region.wanted o (yielded ops a.tmps) = true then Oper.wp P o a w K Q else E := by
  have hw : Region.wanted o (yielded ops a.tmps) = true := by simp [Region.wanted, hg]
  rw [if_pos hw]
  obtain ⟨v', w', hrun, r1, r2, r3⟩ := run_append_block (P := P) w base t o.type e i z size bytes h1 h2 h3 h4 h5 h6 h7 v n xs hown ad m c news hn hc h1c hm b1 b2 hbase
  unfold Oper.wp
  simp [execOp, hop, resolve, invoke, builtin, hs, hx, hrun, Result.andThen]
  exact hK v' w' r1 r2 r3
end

end Go.Proofs.YtcbdjjkebpncmaaDoor
namespace Go.Proofs.YtcbdjjkebpncmaaDoor
open Go.RowKit
set_option linter.unusedVariables false

theorem own_type {W : World} {B s n k : Nat} {e : TypeId} {v : Value} {xs : List Value} (h : W.ownsRow B e s v n xs) (hk : v.ownBlock = some k) : ∃ cs, W.heap[k]? = some (.cells cs e (0, 0)) := by
  rcases h.2 with ⟨rfl, -⟩ | ⟨g, cap, cur, rfl, hg, hh, -⟩
  · cases hk
  · cases hk; exact ⟨cur, hh⟩
theorem own_apart {W : World} {B B' s s' n n' : Nat} {e e' : TypeId} {v v' : Value} {xs xs' : List Value} (h : W.ownsRow B e s v n xs) (h' : W.ownsRow B' e' s' v' n' xs') (hne : e ≠ e') : v.ownBlock = none ∨ v.ownBlock ≠ v'.ownBlock := by
  cases hk : v.ownBlock with
  | none => exact .inl rfl
  | some k =>
    refine .inr fun e1 => ?_
    obtain ⟨c1, h1⟩ := own_type h hk
    obtain ⟨c2, h2⟩ := own_type h' e1.symm
    rw [h1] at h2; cases h2; exact hne rfl
theorem own_form2 {W : World} {B s n : Nat} {e : TypeId} {v : Value} {xs : List Value} (h : W.ownsRow B e s v n xs) : ∃ a c, v = .slice a n c ∧ n ≤ c ∧ c ≤ maxLen ∧ (a = none → c = 0) := by
  rcases h.2 with ⟨rfl, rfl⟩ | ⟨g, cap, cur, rfl, -, -, h1, h2, -⟩
  · exact ⟨none, 0, rfl, Nat.le_refl _, Nat.zero_le _, fun _ => rfl⟩
  · exact ⟨_, cap, rfl, h1, h2, fun h => by cases h⟩
theorem own_same {W W' : World} {B s n : Nat} {e : TypeId} {v : Value} {xs : List Value} (h : W.ownsRow B e s v n xs) (hb : ∀ k, v.ownBlock = some k → W'.heap[k]? = W.heap[k]?) : W'.ownsRow B e s v n xs := by
  refine ⟨h.1, ?_⟩
  rcases h.2 with hn | ⟨g, cap, cur, rfl, hg, hgg, rest⟩
  · exact .inl hn
  · exact .inr ⟨g, cap, cur, rfl, hg, (hb g rfl).trans hgg, rest⟩
theorem cells_three (W W' : World) (hW : W'.heap = W.heap) (t : TypeId) (x y z : Value) : ∀ j u, ([x, y, z] : List Value)[j]? = some u → (W'.alloc (.cells #[x, y, z] t)).cell? ((⟨W.heap.size, 0, none⟩ : Addr).add j) = some u := by
  intro j u hu
  rw [addr0_add, Nat.zero_add, ← hW]
  exact (Blk.new W' t #[x, y, z]).cell j (by rw [← Array.getElem?_toList]; exact hu)
theorem own_arr {W : World} {B : Nat} {v : Value} {A : List Arr} {x : Arr} (h : W.ownsRow B 52 3 v (A.length + 1) (aflat A ++ [.int .i64 x.f, .int .i64 x.e, .int .i64 x.t])) : OwnA W B v (A ++ [x]) := by
  unfold OwnA
  rw [List.length_append, aflat_append]
  exact h
/-- A block is another object. -/
def setMap (w : World) (b : Nat) (o : Obj) : World := { w with heap := w.heap.setIfInBounds b o }
theorem heap_setMap_ne (W : World) (b : Nat) (o : Obj) {j : Nat} (h : j ≠ b) : (setMap W b o).heap[j]? = W.heap[j]? := by
  simp [setMap, Ne.symm h]
theorem heap_setMap (W : World) {b : Nat} (o : Obj) (h : b < W.heap.size) : (setMap W b o).heap[b]? = some o := by
  simp [setMap, h]
theorem size_setMap (W : World) (b : Nat) (o : Obj) : (setMap W b o).heap.size = W.heap.size := by simp [setMap]
theorem ownsRow_set {W : World} {B b j s n : Nat} {e : TypeId} {v : Value} {xs : List Value} (h : W.ownsRow B e s v n xs) (hb : b < B) (x : Value) : (W.setCell ⟨b, j, none⟩ x).ownsRow B e s v n xs := by
  refine ⟨h.1, ?_⟩
  rcases h.2 with hn | ⟨g, cap, cur, rfl, hg, hgg, rest⟩
  · exact .inl hn
  · exact .inr ⟨g, cap, cur, rfl, hg, (Below.heap_setCell W ⟨b, j, none⟩ x g (by show g ≠ b; omega)).trans hgg, rest⟩

end Go.Proofs.YtcbdjjkebpncmaaDoor
namespace Go.Proofs.YtcbdjjkebpncmaaDoor
open Go.RowKit
set_option linter.unusedVariables false

/-- An inner slice: it lies below block n, or in a block of integers. -/
def InnN (n : Nat) (W : World) (x : Value) (xs : List Int) : Prop := ∃ a c, x = .slice a xs.length c ∧ xs.length ≤ maxLen ∧ (xs = [] ∨ ∃ g o, a = some ⟨g, o, none⟩ ∧ g < W.heap.size ∧ Cells W g o xs ∧ (g < n ∨ ∃ cs, W.heap[g]? = some (.cells cs 3 (0, 0))))
theorem cells_block {W W' : World} {g o : Nat} {xs : List Int} (h : Cells W g o xs) (hb : W'.heap[g]? = W.heap[g]?) : Cells W' g o xs := fun j hj => by
  rw [World.cell?_of_block (w := W) hb]; exact h j hj
theorem InnN.kept {n : Nat} {W W' : World} {x : Value} {xs : List Int} (h : InnN n W x xs) (hz : W.heap.size ≤ W'.heap.size) (h1 : ∀ j, j < n → W'.heap[j]? = W.heap[j]?) (h2 : ∀ (g : Nat) (cs : Array Value), W.heap[g]? = some (.cells cs 3 (0, 0)) → W'.heap[g]? = W.heap[g]?) : InnN n W' x xs := by
  obtain ⟨a, c, e, l, h⟩ := h
  refine ⟨a, c, e, l, ?_⟩
  rcases h with h | ⟨g, o, e', hlt, hc, h⟩
  · exact .inl h
  · have hb : W'.heap[g]? = W.heap[g]? := by
      rcases h with h | ⟨cs, h⟩
      · exact h1 g h
      · exact h2 g cs h
    refine .inr ⟨g, o, e', Nat.lt_of_lt_of_le hlt hz, cells_block hc hb, ?_⟩
    rcases h with h | ⟨cs, h⟩
    · exact .inl h
    · exact .inr ⟨cs, hb.trans h⟩
theorem InnN.of_own {n : Nat} {W : World} {B : Nat} {v : Value} {xs : List Int} (h : Own W B v xs) : InnN n W v xs := by
  rcases h.2 with ⟨rfl, hn⟩ | ⟨g, cap, cur, rfl, hg, hh, hnc, hcm, hcs, ht⟩
  · have : xs = [] := List.eq_nil_of_length_eq_zero hn
    subst this
    exact ⟨none, 0, rfl, Nat.zero_le _, .inl rfl⟩
  · refine ⟨_, cap, rfl, Nat.le_trans hnc hcm, .inr ⟨g, 0, rfl, (Array.getElem?_eq_some_iff.1 hh).1, fun j hj => ?_, .inr ⟨cur, hh⟩⟩⟩
    have := h.cells (g := g) rfl j (.int .i64 (xs.getD j 0)) (by rw [List.getElem?_map, List.getElem?_eq_getElem hj]; simp [List.getElem?_eq_getElem hj])
    rwa [addr0_add] at this
theorem InnN.of_at {w W : World} {a : Option Addr} {c : Nat} {xs : List Int} (h : At w a xs) (hl : xs.length ≤ maxLen) (hb : Below w.heap.size w W) : InnN w.heap.size W (.slice a xs.length c) xs := by
  refine ⟨a, c, rfl, hl, ?_⟩
  rcases h with h | ⟨b, off, e, hlt, hc⟩
  · exact .inl h
  · exact .inr ⟨b, off, e, Nat.lt_of_lt_of_le hlt hb.size, cells_block hc (hb.block b hlt), .inl hlt⟩
theorem InnN.at {n : Nat} {W : World} {x : Value} {xs : List Int} (h : InnN n W x xs) : ∃ a c, x = .slice a xs.length c ∧ At W a xs ∧ xs.length ≤ maxLen := by
  obtain ⟨a, c, e, l, h⟩ := h
  refine ⟨a, c, e, ?_, l⟩
  rcases h with h | ⟨g, o, e', hlt, hc, h⟩
  · exact .inl h
  · exact .inr ⟨g, o, e', hlt, hc⟩
/-- A row of such slices. -/
def OwnN (n : Nat) (W : World) (B : Nat) (v : Value) (LL : List (List Int)) : Prop := ∃ vs : List Value, W.ownsRow B 22 1 v LL.length vs ∧ ∀ (j : Nat) (x : Value) (xs : List Int), vs[j]? = some x → LL[j]? = some xs → InnN n W x xs
theorem OwnN.get {n : Nat} {W : World} {B : Nat} {v : Value} {LL : List (List Int)} (h : OwnN n W B v LL) {k : Nat} {xs : List Int} (hk : LL[k]? = some xs) : ∃ g cap x, v = .slice (some ⟨g, 0, none⟩) LL.length cap ∧ B ≤ g ∧ g < W.heap.size ∧ W.cell? ⟨g, k, none⟩ = some x ∧ InnN n W x xs := by
  obtain ⟨vs, ho, hi⟩ := h
  rcases ho.2 with ⟨rfl, hn⟩ | ⟨g, cap, cur, rfl, hg, hh, hnc, hcm, hcs, ht⟩
  · have := (List.getElem?_eq_some_iff.1 hk).1; omega
  · have hlt : k < vs.length := by rw [ho.1, Nat.mul_one]; exact (List.getElem?_eq_some_iff.1 hk).1
    have hx := List.getElem?_eq_getElem hlt
    have hc := ho.cells (g := g) rfl k _ hx
    rw [addr0_add, Nat.zero_add] at hc
    exact ⟨g, cap, _, rfl, hg, (Array.getElem?_eq_some_iff.1 hh).1, hc, hi k _ xs hx hk⟩
theorem OwnN.at2 {n : Nat} {W : World} {B : Nat} {v : Value} {LL : List (List Int)} (h : OwnN n W B v LL) : ∃ a cap, v = .slice a LL.length cap ∧ At2 W a LL := by
  obtain ⟨vs, ho, hi⟩ := h
  rcases ho.2 with ⟨rfl, hn⟩ | ⟨g, cap, cur, rfl, hg, hh, hnc, hcm, hcs, ht⟩
  · have : LL = [] := List.eq_nil_of_length_eq_zero hn
    subst this
    exact ⟨none, 0, rfl, .inl rfl⟩
  · refine ⟨some ⟨g, 0, none⟩, cap, rfl, .inr ⟨g, 0, rfl, (Array.getElem?_eq_some_iff.1 hh).1, fun k xs hk => ?_⟩⟩
    have hlt : k < vs.length := by rw [ho.1, Nat.mul_one]; exact (List.getElem?_eq_some_iff.1 hk).1
    have hx := List.getElem?_eq_getElem hlt
    obtain ⟨a, c, e, h1, h2⟩ := (hi k _ xs hx hk).at
    have hc := ho.cells (g := g) rfl k _ hx
    rw [addr0_add, e] at hc
    exact ⟨a, c, hc, h1, h2⟩
theorem OwnN.kept {n : Nat} {W W' : World} {B : Nat} {v : Value} {LL : List (List Int)} (h : OwnN n W B v LL) (hz : W.heap.size ≤ W'.heap.size) (h0 : ∀ k, v.ownBlock = some k → W'.heap[k]? = W.heap[k]?) (h1 : ∀ j, j < n → W'.heap[j]? = W.heap[j]?) (h2 : ∀ (g : Nat) (cs : Array Value), W.heap[g]? = some (.cells cs 3 (0, 0)) → W'.heap[g]? = W.heap[g]?) : OwnN n W' B v LL := by
  obtain ⟨vs, ho, hi⟩ := h
  exact ⟨vs, own_same ho h0, fun j x xs a b => (hi j x xs a b).kept hz h1 h2⟩
theorem OwnN.below {n : Nat} {W W' : World} {B : Nat} {v : Value} {LL : List (List Int)} (h : OwnN n W B v LL) (hb : Below W.heap.size W W') (hn : n ≤ W.heap.size) : OwnN n W' B v LL :=
  h.kept hb.size (fun k hk => by obtain ⟨vs, ho, -⟩ := h; exact hb.block k (World.ownsRow.lt ho k hk).2) (fun j hj => hb.block j (by omega)) (fun g cs hg => hb.block g (Array.getElem?_eq_some_iff.1 hg).1)

end Go.Proofs.YtcbdjjkebpncmaaDoor
namespace Go.Proofs.YtcbdjjkebpncmaaDoor
open Go.RowKit
set_option linter.unusedVariables false

theorem Tryd.infoPlace : (Tryd.prog.info? 132).map (fun i => (i.zero, i.size, i.bytes)) = some (some (.agg #[.slice none 0 0, .slice none 0 0, .slice none 0 0]), 3, 72) := by kernel_rfl

/-- A place: where both may be, and a word that leads there. -/
abbrev Plc := (List Int × List Int) × List Int
def plcs : List Plc → List (List Int)
  | [] => []
  | p :: r => p.1.1 :: p.1.2 :: p.2 :: plcs r
theorem plcs_len : ∀ L : List Plc, (plcs L).length = L.length * 3
  | [] => rfl
  | a :: r => by simp only [plcs, List.length_cons, plcs_len r]; omega
theorem plcs_append : ∀ L M : List Plc, plcs (L ++ M) = plcs L ++ plcs M
  | [], M => rfl
  | a :: r, M => by simp only [List.cons_append, plcs, plcs_append r M]
theorem plcs_at : ∀ {L : List Plc} {k : Nat} {p : Plc}, L[k]? = some p → (plcs L)[k * 3]? = some p.1.1 ∧ (plcs L)[k * 3 + 1]? = some p.1.2 ∧ (plcs L)[k * 3 + 2]? = some p.2
  | [], k, p, h => by simp at h
  | a :: r, 0, p, h => by
    have : a = p := by simpa using h
    subst this; simp [plcs]
  | a :: r, k + 1, p, h => by
    have := plcs_at (L := r) (k := k) (p := p) (by simpa using h)
    rw [show (k + 1) * 3 = k * 3 + 1 + 1 + 1 by omega]
    simpa [plcs] using this

/-- The places' cells. -/
def CellsP (w : World) (b off : Nat) (L : List Plc) : Prop := ∀ (k : Nat) (p : Plc), L[k]? = some p → ∃ xa xc ya yc za zc,
  w.cell? ⟨b, off + k * 3, none⟩ = some (.slice xa p.1.1.length xc) ∧ w.cell? ⟨b, off + k * 3 + 1, none⟩ = some (.slice ya p.1.2.length yc) ∧ w.cell? ⟨b, off + k * 3 + 2, none⟩ = some (.slice za p.2.length zc) ∧
  At w xa p.1.1 ∧ p.1.1.length ≤ maxLen ∧ At w ya p.1.2 ∧ p.1.2.length ≤ maxLen ∧ At w za p.2 ∧ p.2.length ≤ maxLen

theorem knownB_hit {L : List Plc} {k : Nat} {p : Plc} {x y : List Int} (h : Hid (L[k]? = some p)) (h1 : Hid (sameB p.1.1 x = true)) (h2 : Hid (sameB p.1.2 y = true)) : true = knownB L (x, y) := by
  have h1 : p.1.1 = x := by have := h1.out; simpa [sameB] using this
  have h2 : p.1.2 = y := by have := h2.out; simpa [sameB] using this
  exact ((knownB_iff _ _).2 ⟨p, List.mem_of_getElem? h.out, by rw [← h1, ← h2]⟩).symm
/-- None of the first k is. -/
def noneP (L : List Plc) (k : Nat) (x y : List Int) : Prop := ∀ (j : Nat) (p : Plc), j < k → L[j]? = some p → p.1 ≠ (x, y)
theorem noneP_succ {L : List Plc} {k : Nat} {p : Plc} {x y : List Int} (h0 : Hid (noneP L k x y)) (h : Hid (L[k]? = some p)) (h1 : Hid ((sameB p.1.1 x && sameB p.1.2 y) = false)) : Hid (noneP L (k + 1) x y) := fun j q hj hq => by
  by_cases e : j < k
  · exact h0.out j q e hq
  · have : j = k := by omega
    subst this
    rw [h.out] at hq
    have := Option.some.inj hq
    subst this
    intro e
    have := h1.out
    simp [sameB, e] at this
theorem noneP_end {L : List Plc} {k : Nat} {x y : List Int} (h0 : Hid (noneP L k x y)) (h : ¬ k < L.length) : false = knownB L (x, y) := by
  cases hk : knownB L (x, y) with
  | false => rfl
  | true =>
    obtain ⟨p, hp, e⟩ := (knownB_iff _ _).1 hk
    obtain ⟨i, hi⟩ := List.mem_iff_getElem?.1 hp
    exact absurd e (h0.out i p (Nat.lt_of_lt_of_le (List.getElem?_eq_some_iff.1 hi).1 (by omega)) hi)

set_option maxHeartbeats 2000000 in
theorem known_some (ba oa ca : Nat) (xa ya : Option Addr) (xc yc : Nat) (L : List Plc) (x y : List Int) (w : World) (hl : L.length ≤ 9223372036854775807) (hca : Hid (CellsP w ba oa L)) (hx : Hid (At w xa x)) (hxl : Hid (x.length ≤ maxLen)) (hy : Hid (At w ya y)) (hyl : Hid (y.length ≤ maxLen)) :
    Calls Tryd.prog 117 #[.slice (some ⟨ba, oa, none⟩) L.length ca, .slice xa x.length xc, .slice ya y.length yc] w fun e w' => e = .returned (.bool (knownB L (x, y))) ∧ ∃ q, w' = w.drewN q := by
  go_enter Tryd.func117, Tryd.ntmps117
  go_wp2
  go_loopw [7] (fun i wr => ∃ k q : Nat, k ≤ L.length ∧ i = .int .i64 k ∧ wr = w.drewN q ∧ Hid (noneP L k x y)) (fun i _ => L.length - (intOf i).toNat)
  case atStart => exact ⟨0, 0, Nat.zero_le _, rfl, rfl, fun j p hj => by omega⟩
  case round =>
    obtain ⟨k, q, hk, rfl, rfl, he⟩ := hrel
    by_cases hlt : k < L.length
    · obtain ⟨p, HX⟩ : ∃ p, Hid (L[k]? = some p) := ⟨_, List.getElem?_eq_getElem hlt⟩
      obtain ⟨pa, pc, qa, qc, za, zc, c1, c2, -, a1, l1, a2, l2, -, -⟩ := hca.out k p HX.out
      obtain ⟨V, HV⟩ : ∃ V, Hid (V = w.drewN q) := ⟨_, rfl⟩
      replace c1 : V.cell? ⟨ba, oa + k * 3, none⟩ = some (.slice pa p.1.1.length pc) := by rw [HV.out]; exact c1
      have KEY : Hid (Calls Tryd.prog 17 #[.slice pa p.1.1.length pc, .slice xa x.length xc] V fun e w' => e = .returned (.bool (sameB p.1.1 x)) ∧ ∃ r, w' = V.drewN r) := by
        rw [HV.out]; exact same_any pa xa pc xc p.1.1 x _ (At.drewN a1 q) (At.drewN hx.out q) l1 hxl.out
      have KEY2 : Hid (∀ r, Calls Tryd.prog 17 #[.slice qa p.1.2.length qc, .slice ya y.length yc] (w.drewN r) fun e w' => e = .returned (.bool (sameB p.1.2 y)) ∧ ∃ r', w' = (w.drewN r).drewN r') := fun r => same_any qa ya qc yc p.1.2 y _ (At.drewN a2 r) (At.drewN hy.out r) l2 hyl.out
      rw [← HV.out]
      clear a1 l1 a2 l2
      have C2 := Hid.of c2
      clear c2
      go_wp2_with fail
      refine KEY.out.mono ?_
      rintro e V' ⟨rfl, r, rfl⟩
      have HVr : Hid (V.drewN r = w.drewN (q + r)) := by show _ = _; rw [HV.out, World.drewN_drewN]
      rw [HVr.out]
      clear KEY c1 HVr
      cases hxy : sameB p.1.1 x with
      | true =>
        have HXY := Hid.of hxy
        clear hxy
        have HV2 := HV
        clear HV2
        obtain ⟨V2, HV2⟩ : ∃ V2, Hid (V2 = w.drewN (q + r)) := ⟨_, rfl⟩
        have c2 : V2.cell? ⟨ba, oa + k * 3 + 1, none⟩ = some (.slice qa p.1.2.length qc) := by rw [HV2.out]; exact C2.out
        have KEY3 := Hid.of (KEY2.out (q + r))
        rw [← HV2.out] at KEY3 ⊢
        go_wp2_with fail
        refine KEY3.out.mono ?_
        rintro e V' ⟨rfl, r', rfl⟩
        have HVr : Hid (V2.drewN r' = w.drewN (q + r + r')) := by show _ = _; rw [HV2.out, World.drewN_drewN]
        rw [HVr.out]
        clear KEY3 KEY2 c2
        cases hxz : sameB p.1.2 y with
        | true =>
          have HXZ := Hid.of hxz
          clear hxz
          go_wp2
          go_ret
          exact ⟨ret_bool (knownB_hit HX HXY HXZ), _, rfl⟩
        | false =>
          have HXZ : Hid ((sameB p.1.1 x && sameB p.1.2 y) = false) := by show _ = _; rw [hxz, Bool.and_false]
          clear hxz
          go_wp2
          go_roundw
          case rel => exact ⟨k + 1, _, by omega, by go_num, rfl, noneP_succ he HX HXZ⟩
          case measure => simp [intOf]; omega
      | false =>
        have HXZ : Hid ((sameB p.1.1 x && sameB p.1.2 y) = false) := by show _ = _; rw [hxy, Bool.false_and]
        clear hxy
        go_wp2
        go_roundw
        case rel => exact ⟨k + 1, _, by omega, by go_num, rfl, noneP_succ he HX HXZ⟩
        case measure => simp [intOf]; omega
    · go_wp2
      go_ret
      exact ⟨ret_bool (noneP_end he hlt), q, rfl⟩

end Go.Proofs.YtcbdjjkebpncmaaDoor
namespace Go.Proofs.YtcbdjjkebpncmaaDoor
open Go.RowKit
set_option linter.unusedVariables false

/-- An inner slice, and nil has no room. -/
def InnW (n : Nat) (W : World) (x : Value) (xs : List Int) : Prop := InnN n W x xs ∧ ∀ (m c : Nat), x = .slice none m c → c = 0
theorem InnW.kept {n : Nat} {W W' : World} {x : Value} {xs : List Int} (h : InnW n W x xs) (hz : W.heap.size ≤ W'.heap.size) (h1 : ∀ j, j < n → W'.heap[j]? = W.heap[j]?) (h2 : ∀ (g : Nat) (cs : Array Value), W.heap[g]? = some (.cells cs 3 (0, 0)) → W'.heap[g]? = W.heap[g]?) : InnW n W' x xs := ⟨h.1.kept hz h1 h2, h.2⟩
theorem InnW.below {n : Nat} {W W' : World} {x : Value} {xs : List Int} (h : InnW n W x xs) (hb : Below W.heap.size W W') (hn : n ≤ W.heap.size) : InnW n W' x xs :=
  h.kept hb.size (fun j hj => hb.block j (by omega)) (fun g cs hg => hb.block g (Array.getElem?_eq_some_iff.1 hg).1)
theorem InnW.of_own {n : Nat} {W : World} {B : Nat} {v : Value} {xs : List Int} (h : Own W B v xs) : InnW n W v xs := by
  refine ⟨InnN.of_own h, fun m c e => ?_⟩
  obtain ⟨a, cap, e1, -, -, -, e2⟩ := h.at2
  rw [e1] at e
  cases e
  exact e2 rfl
theorem InnW.at {n : Nat} {W : World} {x : Value} {xs : List Int} (h : InnW n W x xs) : ∃ a c, x = .slice a xs.length c ∧ At W a xs ∧ xs.length ≤ maxLen ∧ (a = none → c = 0) := by
  obtain ⟨a, c, e, h1, h2⟩ := h.1.at
  exact ⟨a, c, e, h1, h2, fun hn => h.2 _ c (by rw [e, hn])⟩
theorem InnW.one {n : Nat} {W : World} {x : Value} {xs : List Int} (h : InnW n W x xs) : x.oneCell' = true := by
  obtain ⟨a, c, rfl, -⟩ := h.at; rfl

/-- A slice of places of the call's own. -/
def OwnPl (n : Nat) (W : World) (B : Nat) (v : Value) (L : List Plc) : Prop := ∃ vs : List Value, W.ownsRow B 132 3 v L.length vs ∧ ∀ (j : Nat) (x : Value) (xs : List Int), vs[j]? = some x → (plcs L)[j]? = some xs → InnW n W x xs
theorem OwnPl.cells {n : Nat} {W : World} {B : Nat} {v : Value} {L : List Plc} (h : OwnPl n W B v L) (hL : 0 < L.length) : ∃ g cap, v = .slice (some ⟨g, 0, none⟩) L.length cap ∧ B ≤ g ∧ g < W.heap.size ∧ L.length ≤ maxLen ∧
    ∀ (k : Nat) (p : Plc), L[k]? = some p → ∃ x y z, W.cell? ⟨g, 0 + k * 3, none⟩ = some x ∧ W.cell? ⟨g, 0 + k * 3 + 1, none⟩ = some y ∧ W.cell? ⟨g, 0 + k * 3 + 2, none⟩ = some z ∧ InnW n W x p.1.1 ∧ InnW n W y p.1.2 ∧ InnW n W z p.2 := by
  obtain ⟨vs, ho, hi⟩ := h
  rcases ho.2 with ⟨rfl, hn⟩ | ⟨g, cap, cur, rfl, hg, hh, hnc, hcm, hcs, ht⟩
  · omega
  · refine ⟨g, cap, rfl, hg, (Array.getElem?_eq_some_iff.1 hh).1, Nat.le_trans hnc hcm, fun k p hp => ?_⟩
    have hk := (List.getElem?_eq_some_iff.1 hp).1
    have hl := ho.1
    obtain ⟨p1, p2, p3⟩ := plcs_at hp
    have hx := List.getElem?_eq_getElem (l := vs) (i := k * 3) (by omega)
    have hy := List.getElem?_eq_getElem (l := vs) (i := k * 3 + 1) (by omega)
    have hz := List.getElem?_eq_getElem (l := vs) (i := k * 3 + 2) (by omega)
    have c1 := ho.cells (g := g) rfl _ _ hx
    have c2 := ho.cells (g := g) rfl _ _ hy
    have c3 := ho.cells (g := g) rfl _ _ hz
    rw [addr0_add] at c1 c2 c3
    exact ⟨_, _, _, c1, c2, c3, hi _ _ _ hx p1, hi _ _ _ hy p2, hi _ _ _ hz p3⟩
theorem OwnPl.cellsP {n : Nat} {W : World} {B : Nat} {v : Value} {L : List Plc} (h : OwnPl n W B v L) (hL : 0 < L.length) : ∃ g cap, v = .slice (some ⟨g, 0, none⟩) L.length cap ∧ B ≤ g ∧ g < W.heap.size ∧ L.length ≤ maxLen ∧ CellsP W g 0 L := by
  obtain ⟨g, cap, e, h1, h2, h3, hc⟩ := h.cells hL
  refine ⟨g, cap, e, h1, h2, h3, fun k p hp => ?_⟩
  obtain ⟨x, y, z, c1, c2, c3, i1, i2, i3⟩ := hc k p hp
  obtain ⟨xa, xc, rfl, x1, x2, -⟩ := i1.at
  obtain ⟨ya, yc, rfl, y1, y2, -⟩ := i2.at
  obtain ⟨za, zc, rfl, z1, z2, -⟩ := i3.at
  exact ⟨xa, xc, ya, yc, za, zc, c1, c2, c3, x1, x2, y1, y2, z1, z2⟩
theorem OwnPl.below {n : Nat} {W W' : World} {B : Nat} {v : Value} {L : List Plc} (h : OwnPl n W B v L) (hb : Below W.heap.size W W') (hn : n ≤ W.heap.size) : OwnPl n W' B v L := by
  obtain ⟨vs, ho, hi⟩ := h
  exact ⟨vs, own_same ho (fun k hk => hb.block k (World.ownsRow.lt ho k hk).2), fun j x xs a b => (hi j x xs a b).below hb hn⟩

/-- What Places knows of the memory. -/
structure PL (w W : World) (a b : Mach) (la lb : ML) (v : Value) (L : List Plc) : Prop where
  bel : Below w.heap.size w W
  ka : Blk W w.heap.size 25 (mcells a la)
  kb : Blk W (w.heap.size + 1) 25 (mcells b lb)
  ow : OwnPl w.heap.size W (w.heap.size + 2) v L
  hB : w.heap.size + 2 ≤ W.heap.size
section
variable {w W : World} {a b : Mach} {la lb : ML} {v : Value} {L : List Plc}
theorem PL.below {W' : World} (h : PL w W a b la lb v L) (hb : Below W.heap.size W W') : PL w W' a b la lb v L :=
  ⟨h.bel.trans (hb.mono h.bel.size), h.ka.below hb h.ka.lt, h.kb.below hb h.kb.lt, h.ow.below hb h.bel.size, Nat.le_trans h.hB hb.size⟩
/-- One place more. -/
theorem PL.push {W2 W3 : World} {v' x y z : Value} {p : Plc} {vs : List Value} (h : PL w W a b la lb v L) (hW3 : Below W.heap.size W W3) (ho : W3.ownsRow (w.heap.size + 2) 132 3 v L.length vs) (hi : ∀ (j : Nat) (x : Value) (xs : List Int), vs[j]? = some x → (plcs L)[j]? = some xs → InnW w.heap.size W3 x xs) (hx : InnW w.heap.size W3 x p.1.1) (hy : InnW w.heap.size W3 y p.1.2) (hz : InnW w.heap.size W3 z p.2) (o1 : W2.ownsRow (w.heap.size + 2) 132 3 v' (L.length + 1) (vs ++ [x, y, z])) (g : W3.grownBy W2 v.ownBlock) :
    PL w W2 a b la lb v' (L ++ [p]) := by
  have h3 := h.below hW3
  have low : ∀ j, j < w.heap.size + 2 → W2.heap[j]? = W3.heap[j]? := fun j hj => g.block j (Nat.lt_of_lt_of_le hj h3.hB) (fun e => by have := (World.ownsRow.lt ho j e.symm).1; omega)
  have hty : ∀ (q : Nat) (cs : Array Value) (t : TypeId), t ≠ 132 → W3.heap[q]? = some (.cells cs t (0, 0)) → W2.heap[q]? = W3.heap[q]? := fun q cs t ht hq => g.block q (Array.getElem?_eq_some_iff.1 hq).1 (fun e => by
    obtain ⟨c2, h2⟩ := own_type ho e.symm
    rw [hq] at h2; cases h2; exact ht rfl)
  have kp : ∀ {y : Value} {ys : List Int}, InnW w.heap.size W3 y ys → InnW w.heap.size W2 y ys := fun hy => hy.kept g.size (fun j hj => low j (by omega)) (fun q cs hq => hty q cs _ (by decide) hq)
  refine ⟨h3.bel.grown g h3.bel.size (fun j hj => Nat.le_trans (by omega) (World.ownsRow.lt ho j hj).1), (low _ (by omega)).trans h3.ka, (low _ (by omega)).trans h3.kb, ?_, Nat.le_trans h3.hB g.size⟩
  have hl : vs.length = L.length * 3 := ho.1
  refine ⟨vs ++ [x, y, z], by rw [List.length_append]; exact o1, fun j u us e1 e2 => ?_⟩
  rw [plcs_append] at e2
  have hl2 := plcs_len L
  by_cases hj : j < L.length * 3
  · rw [List.getElem?_append_left (by omega)] at e1
    rw [List.getElem?_append_left (by omega)] at e2
    exact kp (hi j u us e1 e2)
  · rw [List.getElem?_append_right (by omega)] at e1 e2
    rw [hl] at e1
    rw [hl2] at e2
    generalize j - L.length * 3 = i at e1 e2
    have e2' : [p.1.1, p.1.2, p.2][i]? = some us := e2
    match i, e1, e2' with
    | 0, e1, e2 =>
      have q1 : x = u := by simpa using e1
      have q2 : p.1.1 = us := by simpa using e2
      rw [← q1, ← q2]; exact kp hx
    | 1, e1, e2 =>
      have q1 : y = u := by simpa using e1
      have q2 : p.1.2 = us := by simpa using e2
      rw [← q1, ← q2]; exact kp hy
    | 2, e1, e2 =>
      have q1 : z = u := by simpa using e1
      have q2 : p.2 = us := by simpa using e2
      rw [← q1, ← q2]; exact kp hz
    | i + 3, e1, e2 => simp at e1
end

/-- What Places hands back. -/
def PlcPost (w : World) (L : List Plc) (e : Ending) (w' : World) : Prop := ∃ v, e = .returned v ∧ OwnPl w.heap.size w' (w.heap.size + 2) v L ∧ Below w.heap.size w w'

end Go.Proofs.YtcbdjjkebpncmaaDoor
