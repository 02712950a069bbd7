/-
  What is said of a row of whereabouts, and of a row of lists; plain: what Leak knows.
-/
import Derived.Test.YtbllcondfamleaaDoorG32
namespace Go.Proofs.YtbllcondfamleaaDoor
open Go.RowKit
set_option linter.unusedVariables false

theorem Tryd.infoRowQ : (Tryd.prog.info? 60).map (fun i => (i.zero, i.size, i.bytes)) = some (some (.slice none 0 0), 1, 24) := by kernel_rfl
theorem Tryd.infoRowI : (Tryd.prog.info? 22).map (fun i => (i.zero, i.size, i.bytes)) = some (some (.slice none 0 0), 1, 24) := by kernel_rfl

/-- All blocks are as they were but those of one type from n on. -/
structure KepT (T0 : TypeId) (n : Nat) (W W' : World) : Prop where
  sz : W.heap.size ≤ W'.heap.size
  low : ∀ j, j < n → W'.heap[j]? = W.heap[j]?
  ty : ∀ (g : Nat) (cs : Array Value) (t : TypeId), t ≠ T0 → W.heap[g]? = some (.cells cs t (0, 0)) → W'.heap[g]? = W.heap[g]?
theorem kepT_grown {T0 : TypeId} {n B s k : Nat} {W W2 : World} {v : Value} {vs : List Value} (ho : W.ownsRow B T0 s v k vs) (g : W.grownBy W2 v.ownBlock) (hn : n ≤ B) (hB : B ≤ W.heap.size) : KepT T0 n W W2 := by
  refine ⟨g.size, fun j hj => g.block j (by omega) (fun e => by have := (World.ownsRow.lt ho j e.symm).1; omega), fun q cs t ht hq => g.block q (Array.getElem?_eq_some_iff.1 hq).1 (fun e => ?_)⟩
  obtain ⟨c2, h2⟩ := own_type ho e.symm
  rw [hq] at h2; cases h2; exact ht rfl
theorem AtQ.kep {T0 : TypeId} {n : Nat} {W W' : World} {a : Option Addr} {l : List Pla} (h : AtQ n W a l) (k : KepT T0 n W W') (h1 : (3 : TypeId) ≠ T0) (h2 : (136 : TypeId) ≠ T0) : AtQ n W' a l :=
  h.kept k.sz k.low (fun g cs hg => k.ty g cs _ h1 hg) (fun g cs hg => k.ty g cs _ h2 hg)
theorem InnW.kep {T0 : TypeId} {n : Nat} {W W' : World} {x : Value} {xs : List Int} (h : InnW n W x xs) (k : KepT T0 n W W') (h1 : (3 : TypeId) ≠ T0) : InnW n W' x xs :=
  h.kept k.sz k.low (fun g cs hg => k.ty g cs _ h1 hg)
theorem kepT_below {T0 : TypeId} {n : Nat} {W W' : World} (hb : Below W.heap.size W W') (hn : n ≤ W.heap.size) : KepT T0 n W W' :=
  ⟨hb.size, fun j hj => hb.block j (by omega), fun g cs t _ hg => hb.block g (Array.getElem?_eq_some_iff.1 hg).1⟩

/-- A row of whereabouts. -/
def OwnQQ (n : Nat) (W : World) (B : Nat) (v : Value) (QL : List (List Pla)) : Prop := ∃ vs : List Value, W.ownsRow B 60 1 v QL.length vs ∧ ∀ (j : Nat) (l : List Pla), QL[j]? = some l → ∃ a c, vs[j]? = some (.slice a l.length c) ∧ AtQ n W a l
/-- A row of lists. -/
def OwnV (n : Nat) (W : World) (B : Nat) (v : Value) (LL : List (List Int)) : Prop := ∃ vs : List Value, W.ownsRow B 22 1 v LL.length vs ∧ ∀ (j : Nat) (xs : List Int), LL[j]? = some xs → ∃ x, vs[j]? = some x ∧ InnW n W x xs
section
variable {n : Nat} {W : World} {B : Nat} {v : Value}
theorem OwnQQ.form {QL : List (List Pla)} (h : OwnQQ n W B v QL) : ∃ a c, v = .slice a QL.length c := by
  obtain ⟨vs, ho, -⟩ := h
  obtain ⟨a, c, e, -⟩ := own_form2 ho
  exact ⟨a, c, e⟩
theorem OwnV.form {LL : List (List Int)} (h : OwnV n W B v LL) : ∃ a c, v = .slice a LL.length c := by
  obtain ⟨vs, ho, -⟩ := h
  obtain ⟨a, c, e, -⟩ := own_form2 ho
  exact ⟨a, c, e⟩
theorem OwnQQ.get {QL : List (List Pla)} (h : OwnQQ n W B v QL) {j : Nat} {l : List Pla} (hj : QL[j]? = some l) : ∃ g cap a c, v = .slice (some ⟨g, 0, none⟩) QL.length cap ∧ g < W.heap.size ∧ W.cell? ⟨g, j, none⟩ = some (.slice a l.length c) ∧ AtQ n W a l := by
  obtain ⟨vs, ho, hi⟩ := h
  rcases ho.2 with ⟨rfl, hn⟩ | ⟨g, cap, cur, rfl, hg, hh, hnc, hcm, hcs, ht⟩
  · have := (List.getElem?_eq_some_iff.1 hj).1; omega
  · obtain ⟨a, c, h1, h2⟩ := hi j l hj
    have hc := ho.cells (g := g) rfl j _ h1
    rw [addr0_add, Nat.zero_add] at hc
    exact ⟨g, cap, a, c, rfl, (Array.getElem?_eq_some_iff.1 hh).1, hc, h2⟩
theorem OwnV.get {LL : List (List Int)} (h : OwnV n W B v LL) {j : Nat} {xs : List Int} (hj : LL[j]? = some xs) : ∃ g cap a c, v = .slice (some ⟨g, 0, none⟩) LL.length cap ∧ g < W.heap.size ∧ W.cell? ⟨g, j, none⟩ = some (.slice a xs.length c) ∧ InnW n W (.slice a xs.length c) xs := by
  obtain ⟨vs, ho, hi⟩ := h
  rcases ho.2 with ⟨rfl, hn⟩ | ⟨g, cap, cur, rfl, hg, hh, hnc, hcm, hcs, ht⟩
  · have := (List.getElem?_eq_some_iff.1 hj).1; omega
  · obtain ⟨x, h1, h2⟩ := hi j xs hj
    have hc := ho.cells (g := g) rfl j _ h1
    rw [addr0_add, Nat.zero_add] at hc
    obtain ⟨a, c, rfl, -⟩ := h2.at
    exact ⟨g, cap, a, c, rfl, (Array.getElem?_eq_some_iff.1 hh).1, hc, h2⟩
theorem OwnQQ.kep {T0 : TypeId} {W' : World} {QL : List (List Pla)} (h : OwnQQ n W B v QL) (k : KepT T0 n W W') (h0 : (60 : TypeId) ≠ T0) (h1 : (3 : TypeId) ≠ T0) (h2 : (136 : TypeId) ≠ T0) : OwnQQ n W' B v QL := by
  obtain ⟨vs, ho, hi⟩ := h
  refine ⟨vs, own_same ho (fun q hq => ?_), fun j l hl => ?_⟩
  · obtain ⟨cs, hc⟩ := own_type ho hq
    exact k.ty q cs _ h0 hc
  · obtain ⟨a, c, e1, e2⟩ := hi j l hl
    exact ⟨a, c, e1, e2.kep k h1 h2⟩
theorem OwnV.kep {T0 : TypeId} {W' : World} {LL : List (List Int)} (h : OwnV n W B v LL) (k : KepT T0 n W W') (h0 : (22 : TypeId) ≠ T0) (h1 : (3 : TypeId) ≠ T0) : OwnV n W' B v LL := by
  obtain ⟨vs, ho, hi⟩ := h
  refine ⟨vs, own_same ho (fun q hq => ?_), fun j l hl => ?_⟩
  · obtain ⟨cs, hc⟩ := own_type ho hq
    exact k.ty q cs _ h0 hc
  · obtain ⟨x, e1, e2⟩ := hi j l hl
    exact ⟨x, e1, e2.kep k h1⟩
theorem OwnQQ.below {W' : World} {QL : List (List Pla)} (h : OwnQQ n W B v QL) (hb : Below W.heap.size W W') (hn : n ≤ W.heap.size) : OwnQQ n W' B v QL := h.kep (T0 := 25) (kepT_below hb hn) (by decide) (by decide) (by decide)
theorem OwnV.below {W' : World} {LL : List (List Int)} (h : OwnV n W B v LL) (hb : Below W.heap.size W W') (hn : n ≤ W.heap.size) : OwnV n W' B v LL := h.kep (T0 := 25) (kepT_below hb hn) (by decide) (by decide)
theorem OwnQQ.push {W2 : World} {v' : Value} {QL : List (List Pla)} {l : List Pla} {a : Option Addr} {c : Nat} {vs : List Value} (hn : n ≤ B) (hB : B ≤ W.heap.size) (ho : W.ownsRow B 60 1 v QL.length vs) (hi : ∀ (j : Nat) (l : List Pla), QL[j]? = some l → ∃ a c, vs[j]? = some (.slice a l.length c) ∧ AtQ n W a l) (hl : AtQ n W a l) (o1 : W2.ownsRow B 60 1 v' (QL.length + 1) (vs ++ [.slice a l.length c])) (g : W.grownBy W2 v.ownBlock) : OwnQQ n W2 B v' (QL ++ [l]) := by
  have hk := kepT_grown ho g hn hB
  have hlen : vs.length = QL.length := by rw [ho.1, Nat.mul_one]
  refine ⟨vs ++ [.slice a l.length c], by rw [List.length_append]; exact o1, fun j q hq => ?_⟩
  by_cases hj : j < QL.length
  · rw [List.getElem?_append_left hj] at hq
    obtain ⟨a', c', e1, e2⟩ := hi j q hq
    exact ⟨a', c', by rw [List.getElem?_append_left (by omega)]; exact e1, e2.kep hk (by decide) (by decide)⟩
  · have hj' := (List.getElem?_eq_some_iff.1 hq).1
    simp at hj'
    have e : j = QL.length := by omega
    subst e
    rw [List.getElem?_append_right (Nat.le_refl _)] at hq
    have : l = q := by simpa using hq
    subst this
    exact ⟨a, c, by rw [List.getElem?_append_right (by omega), hlen, Nat.sub_self]; rfl, hl.kep hk (by decide) (by decide)⟩
theorem OwnV.push {W2 : World} {v' x : Value} {LL : List (List Int)} {xs : List Int} {vs : List Value} (hn : n ≤ B) (hB : B ≤ W.heap.size) (ho : W.ownsRow B 22 1 v LL.length vs) (hi : ∀ (j : Nat) (xs : List Int), LL[j]? = some xs → ∃ x, vs[j]? = some x ∧ InnW n W x xs) (hx : InnW n W x xs) (o1 : W2.ownsRow B 22 1 v' (LL.length + 1) (vs ++ [x])) (g : W.grownBy W2 v.ownBlock) : OwnV n W2 B v' (LL ++ [xs]) := by
  have hk := kepT_grown ho g hn hB
  have hlen : vs.length = LL.length := by rw [ho.1, Nat.mul_one]
  refine ⟨vs ++ [x], by rw [List.length_append]; exact o1, fun j q hq => ?_⟩
  by_cases hj : j < LL.length
  · rw [List.getElem?_append_left hj] at hq
    obtain ⟨x', e1, e2⟩ := hi j q hq
    exact ⟨x', by rw [List.getElem?_append_left (by omega)]; exact e1, e2.kep hk (by decide)⟩
  · have hj' := (List.getElem?_eq_some_iff.1 hq).1
    simp at hj'
    have e : j = LL.length := by omega
    subst e
    rw [List.getElem?_append_right (Nat.le_refl _)] at hq
    have : xs = q := by simpa using hq
    subst this
    exact ⟨x, by rw [List.getElem?_append_right (by omega), hlen, Nat.sub_self]; rfl, hx.kep hk (by decide)⟩
theorem ownQQ_one {a : Option Addr} {c : Nat} {l : List Pla} (h : AtQ n W a l) (hn : n ≤ W.heap.size) (hB : B ≤ W.heap.size) : OwnQQ n (W.alloc (.cells #[.slice a l.length c] 60)) B (.slice (some ⟨W.heap.size, 0, none⟩) 1 1) [l] := by
  refine ⟨[.slice a l.length c], World.ownsRow_lit W (base := B) (e := 60) (size := 1) #[.slice a l.length c] 1 hB (by decide) rfl, fun j q hq => ?_⟩
  match j, hq with
  | 0, hq =>
    have : l = q := by simpa using hq
    subst this
    exact ⟨a, c, rfl, h.below ((Below.refl _ _).alloc (Nat.le_refl _) _) hn⟩
  | j + 1, hq => simp at hq
theorem ownV_one {x : Value} {xs : List Int} (h : InnW n W x xs) (hn : n ≤ W.heap.size) (hB : B ≤ W.heap.size) : OwnV n (W.alloc (.cells #[x] 22)) B (.slice (some ⟨W.heap.size, 0, none⟩) 1 1) [xs] := by
  refine ⟨[x], World.ownsRow_lit W (base := B) (e := 22) (size := 1) #[x] 1 hB (by decide) rfl, fun j q hq => ?_⟩
  match j, hq with
  | 0, hq =>
    have : xs = q := by simpa using hq
    subst this
    exact ⟨x, rfl, h.below ((Below.refl _ _).alloc (Nat.le_refl _) _) hn⟩
  | j + 1, hq => simp at hq
end

/-- What Leak knows of the memory. -/
structure LQ (w W : World) (m s : Mach) (lm ls : ML) (vq vw : Value) (QL : List (List Pla)) (WL : List (List Int)) : Prop where
  bel : Below w.heap.size w W
  km : Blk W w.heap.size 25 (mcells m lm)
  ks : Blk W (w.heap.size + 1) 25 (mcells s ls)
  oq : OwnQQ w.heap.size W w.heap.size vq QL
  ow : OwnV w.heap.size W w.heap.size vw WL
section
variable {w W : World} {m s : Mach} {lm ls : ML} {vq vw : Value} {QL : List (List Pla)} {WL : List (List Int)}
theorem LQ.below {W' : World} (h : LQ w W m s lm ls vq vw QL WL) (hb : Below W.heap.size W W') : LQ w W' m s lm ls vq vw QL WL :=
  ⟨h.bel.trans (hb.mono h.bel.size), h.km.below hb h.km.lt, h.ks.below hb h.ks.lt, h.oq.below hb h.bel.size, h.ow.below hb h.bel.size⟩
theorem LQ.pushQ {W2 : World} {v' : Value} {l : List Pla} {a : Option Addr} {c : Nat} {vs : List Value} (h : LQ w W m s lm ls vq vw QL WL) (ho : W.ownsRow w.heap.size 60 1 vq QL.length vs) (hi : ∀ (j : Nat) (l : List Pla), QL[j]? = some l → ∃ a c, vs[j]? = some (.slice a l.length c) ∧ AtQ w.heap.size W a l) (hl : AtQ w.heap.size W a l) (o1 : W2.ownsRow w.heap.size 60 1 v' (QL.length + 1) (vs ++ [.slice a l.length c])) (g : W.grownBy W2 vq.ownBlock) : LQ w W2 m s lm ls v' vw (QL ++ [l]) WL := by
  have hk := kepT_grown ho g (Nat.le_refl _) h.bel.size
  exact ⟨h.bel.grown g h.bel.size (fun j hj => (World.ownsRow.lt ho j hj).1), (hk.ty _ _ _ (by decide) h.km).trans h.km, (hk.ty _ _ _ (by decide) h.ks).trans h.ks, OwnQQ.push (Nat.le_refl _) h.bel.size ho hi hl o1 g, h.ow.kep hk (by decide) (by decide)⟩
theorem LQ.pushW {W2 : World} {v' x : Value} {xs : List Int} {vs : List Value} (h : LQ w W m s lm ls vq vw QL WL) (ho : W.ownsRow w.heap.size 22 1 vw WL.length vs) (hi : ∀ (j : Nat) (xs : List Int), WL[j]? = some xs → ∃ x, vs[j]? = some x ∧ InnW w.heap.size W x xs) (hx : InnW w.heap.size W x xs) (o1 : W2.ownsRow w.heap.size 22 1 v' (WL.length + 1) (vs ++ [x])) (g : W.grownBy W2 vw.ownBlock) : LQ w W2 m s lm ls vq v' QL (WL ++ [xs]) := by
  have hk := kepT_grown ho g (Nat.le_refl _) h.bel.size
  exact ⟨h.bel.grown g h.bel.size (fun j hj => (World.ownsRow.lt ho j hj).1), (hk.ty _ _ _ (by decide) h.km).trans h.km, (hk.ty _ _ _ (by decide) h.ks).trans h.ks, h.oq.kep hk (by decide) (by decide) (by decide), OwnV.push (Nat.le_refl _) h.bel.size ho hi hx o1 g⟩
end

/-! Plain: the rows stand for what is found. -/
structure RepQ (m s : Mach) (QL : List (List Pla)) (l : List (List Pla × List Int)) : Prop where
  len : QL.length = l.length
  rep : ∀ (j : Nat) (q : List Pla), QL[j]? = some q → (q.Nodup ∧ ∀ y ∈ q, y ∈ allQ m s) ∧ ∃ x, l[j]? = some x ∧ x.1 = canG (allQ m s) q
theorem RepQ.at {m s : Mach} {QL : List (List Pla)} {l : List (List Pla × List Int)} (h : RepQ m s QL l) {k : Nat} {x : List Pla × List Int} (hk : l[k]? = some x) : ∃ q, QL[k]? = some q ∧ (q.Nodup ∧ ∀ y ∈ q, y ∈ allQ m s) ∧ x.1 = canG (allQ m s) q := by
  have hlt := (List.getElem?_eq_some_iff.1 hk).1
  have hlt' : k < QL.length := by rw [h.len]; exact hlt
  obtain ⟨h1, y, h2, h3⟩ := h.rep k _ (List.getElem?_eq_getElem hlt')
  rw [hk] at h2
  have h2 := Option.some.inj h2
  subst h2
  exact ⟨_, List.getElem?_eq_getElem hlt', h1, h3⟩
theorem RepQ.snoc {m s : Mach} {QL : List (List Pla)} {l : List (List Pla × List Int)} (h : RepQ m s QL l) {q : List Pla} {x : List Pla × List Int} (h1 : q.Nodup ∧ ∀ y ∈ q, y ∈ allQ m s) (h2 : x.1 = canG (allQ m s) q) : RepQ m s (QL ++ [q]) (l ++ [x]) := by
  refine ⟨by simp [h.len], fun k p hk => ?_⟩
  by_cases hlt : k < QL.length
  · rw [List.getElem?_append_left hlt] at hk
    obtain ⟨g1, y, g2, g3⟩ := h.rep k p hk
    exact ⟨g1, y, by rw [List.getElem?_append_left (by rw [← h.len]; exact hlt)]; exact g2, g3⟩
  · have hk' := (List.getElem?_eq_some_iff.1 hk).1
    simp at hk'
    have e : k = QL.length := by omega
    subst e
    rw [List.getElem?_append_right (Nat.le_refl _)] at hk
    have : q = p := by simpa using hk
    subst this
    exact ⟨h1, x, by rw [h.len, List.getElem?_append_right (Nat.le_refl _)]; simp, h2⟩
theorem RepQ.one {m s : Mach} {q : List Pla} {x : List Pla × List Int} (h1 : q.Nodup ∧ ∀ y ∈ q, y ∈ allQ m s) (h2 : x.1 = canG (allQ m s) q) : RepQ m s [q] [x] := RepQ.snoc (QL := []) (l := []) ⟨rfl, fun k S h => by simp at h⟩ h1 h2
theorem same_can {m s : Mach} {q q' : List Pla} (h : q.Nodup ∧ ∀ y ∈ q, y ∈ allQ m s) (h' : q'.Nodup ∧ ∀ y ∈ q', y ∈ allQ m s) : sameQ q q' = decide (canG (allQ m s) q = canG (allQ m s) q') := by
  rw [Bool.eq_iff_iff, sameQ_iff h.1 h'.1, decide_eq_true_eq, canG_iff h.2 h'.2]
theorem can_see {m s : Mach} (hm : mayB m = true) (hs : mayB s = true) (zm : m.st ≤ 6) (zs : s.st ≤ 4) {seen : List Int} {q : List Pla} (h : ∀ y ∈ q, y ∈ allQ m s) (e : Nat) : qD m s seen (canG (allQ m s) q) e = canG (allQ m s) (seeQ m s seen q (seen[e]?.getD 0)) := by
  unfold qD
  exact (canG_iff (seeQ_in hm hs zm zs).2 (seeQ_in hm hs zm zs).2).2 (see_same hm hs zm zs (fun x => mem_canG h x) _)
theorem leak_can (m s : Mach) {q : List Pla} (h : ∀ y ∈ q, y ∈ allQ m s) : leakQ m s (canG (allQ m s) q) = leakQ m s q := leakQ_same m s (fun x => mem_canG h x)
/-- How the search goes on. -/
structure LK (m s : Mach) (seen : List Int) (k : Nat) (l : List (List Pla × List Int)) : Prop where
  bi : BI (qD m s seen) (qF m s seen) seen.length k 0 l
  go : fndQ m s seen = bfCut (qD m s seen) 256 seen.length (257 - k) k l
  le : k ≤ 256
theorem LK.start (m s : Mach) (seen : List Int) : LK m s seen 0 [(qF m s seen, [])] := ⟨bi_start _ _ _, rfl, by omega⟩
theorem LK.next {m s : Mach} {seen : List Int} {k : Nat} {l : List (List Pla × List Int)} (h : LK m s seen k l) {x : List Pla × List Int} (hx : l[k]? = some x) (hl : l.length ≤ 256) : LK m s seen (k + 1) (bfRow (qD m s seen) x l seen.length) := by
  have hk := (List.getElem?_eq_some_iff.1 hx).1
  refine ⟨bi_next _ h.bi hx, ?_, by omega⟩
  rw [h.go, show 257 - k = (257 - (k + 1)) + 1 by omega, bfCut, hx]
  dsimp only
  rw [if_neg (by omega)]
theorem LK.cut {m s : Mach} {seen : List Int} {k : Nat} {l : List (List Pla × List Int)} (h : LK m s seen k l) (hk : k < l.length) (hl : 256 < l.length) : outQ m s seen = none := by
  have hle := h.le
  unfold outQ
  rw [h.go, show 257 - k = (257 - (k + 1)) + 1 by omega, bfCut, List.getElem?_eq_getElem hk]
  dsimp only
  rw [if_pos hl]; rfl
theorem LK.fin {m s : Mach} {seen : List Int} {k : Nat} {l : List (List Pla × List Int)} (h : LK m s seen k l) (hk : ¬ k < l.length) : fndQ m s seen = some l := by
  have hle := h.le
  rw [h.go, show 257 - k = (257 - (k + 1)) + 1 by omega, bfCut, List.getElem?_eq_none (by omega)]
theorem out_found {m s : Mach} {seen : List Int} {l : List (List Pla × List Int)} (h : fndQ m s seen = some l) {k : Nat} {x : List Pla × List Int} (hx : l[k]? = some x) (hno : ∀ (j : Nat) (y : List Pla × List Int), j < k → l[j]? = some y → leakQ m s y.1 = false) (hl : leakQ m s x.1 = true) : outQ m s seen = some (some (wordS seen x.2)) := by
  unfold outQ
  rw [h, Option.map_some]
  have : l.find? (fun x => leakQ m s x.1) = some x := by
    rw [List.find?_eq_some_iff_getElem]
    have hk := (List.getElem?_eq_some_iff.1 hx).1
    refine ⟨hl, k, hk, (List.getElem?_eq_some_iff.1 hx).2, fun j hj => ?_⟩
    have := hno j _ hj (List.getElem?_eq_getElem (Nat.lt_trans hj hk))
    rw [this]; rfl
  rw [this]; rfl
theorem out_nothing {m s : Mach} {seen : List Int} {l : List (List Pla × List Int)} (h : fndQ m s seen = some l) (hno : ∀ (j : Nat) (y : List Pla × List Int), j < l.length → l[j]? = some y → leakQ m s y.1 = false) : outQ m s seen = some none := by
  unfold outQ
  rw [h, Option.map_some, Option.some_inj, Option.map_eq_none_iff, List.find?_eq_none]
  intro x hx
  obtain ⟨j, hj⟩ := List.mem_iff_getElem?.1 hx
  have := hno j x (List.getElem?_eq_some_iff.1 hj).1 hj
  rw [this]; simp
/-- Is one of the first j found? -/
def anyQ (l : List (List Pla × List Int)) (to : List Pla) (j : Nat) : Bool := (l.take j).any fun x => decide (x.1 = to)
theorem anyQ_succ {l : List (List Pla × List Int)} {to : List Pla} {j : Nat} {x : List Pla × List Int} (h : l[j]? = some x) (hn : anyQ l to j = false) : anyQ l to (j + 1) = decide (x.1 = to) := by
  unfold anyQ at hn ⊢
  rw [List.take_add_one, h, Option.toList_some, List.any_append, hn]; simp
theorem anyQ_all (l : List (List Pla × List Int)) (to : List Pla) {j : Nat} (h : l.length ≤ j) : anyQ l to j = knownB l to := by unfold anyQ knownB; rw [List.take_of_length_le h]
theorem anyQ_hit {l : List (List Pla × List Int)} {to : List Pla} {j : Nat} (h : anyQ l to j = true) : knownB l to = true := by
  unfold anyQ at h
  unfold knownB
  rw [List.any_eq_true] at h ⊢
  obtain ⟨x, hx, q⟩ := h
  exact ⟨x, List.mem_of_mem_take hx, q⟩
def wl (seen : List Int) (l : List (List Pla × List Int)) : List (List Int) := l.map fun x => wordS seen x.2
theorem wl_len (seen : List Int) (l : List (List Pla × List Int)) : (wl seen l).length = l.length := by unfold wl; rw [List.length_map]
theorem wl_at {seen : List Int} {l : List (List Pla × List Int)} {k : Nat} {x : List Pla × List Int} (h : l[k]? = some x) : (wl seen l)[k]? = some (wordS seen x.2) := by unfold wl; rw [List.getElem?_map, h]; rfl
theorem wl_snoc (seen : List Int) (l : List (List Pla × List Int)) (x : List Pla × List Int) : wl seen (l ++ [x]) = wl seen l ++ [wordS seen x.2] := by unfold wl; rw [List.map_append]; rfl

end Go.Proofs.YtbllcondfamleaaDoor
