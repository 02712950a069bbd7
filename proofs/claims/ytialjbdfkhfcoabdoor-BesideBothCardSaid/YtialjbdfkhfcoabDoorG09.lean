/-
  What is said on the way through jalousieref4.Beside: what lies where.
  What is said on the way through jalousieref4.Beside, where pairs are gone through.
  What is said of a machine's block, and of slices that lie elsewhere.
  A machine's block that is written whole; results with a machine.
  What is said on the way through jalousieref4.Beside, where the machine is laid out.
-/
import Derived.Test.YtialjbdfkhfcoabDoorG08
import Derived.Test.YtialjbdfkhfcoabDoorG06
import Derived.Test.YtialjbdfkhfcoabDoorG05
import Derived.Laws.ResultCell
namespace Go.Proofs.YtialjbdfkhfcoabDoor
open Go.RowKit
set_option linter.unusedVariables false

theorem own_type {W : World} {B s n k : Nat} {e : TypeId} {v : Value} {xs : List Value} (h : W.ownsRow B e s v n xs) (hk : v.ownBlock = some k) : ∃ cs, W.heap[k]? = some (.cells cs e (0, 0)) := by
  rcases h.2 with ⟨rfl, -⟩ | ⟨g, cap, cur, rfl, hg, hh, -⟩
  · cases hk
  · cases hk; exact ⟨cur, hh⟩
theorem own_apart {W : World} {B B' s s' n n' : Nat} {e e' : TypeId} {v v' : Value} {xs xs' : List Value} (h : W.ownsRow B e s v n xs) (h' : W.ownsRow B' e' s' v' n' xs') (hne : e ≠ e') : v.ownBlock = none ∨ v.ownBlock ≠ v'.ownBlock := by
  cases hk : v.ownBlock with
  | none => exact .inl rfl
  | some k =>
    refine .inr fun e1 => ?_
    obtain ⟨c1, h1⟩ := own_type h hk
    obtain ⟨c2, h2⟩ := own_type h' e1.symm
    rw [h1] at h2; cases h2; exact hne rfl
theorem ownsRow_set {W : World} {B b j s n : Nat} {e : TypeId} {v : Value} {xs : List Value} (h : W.ownsRow B e s v n xs) (hb : b < B) (x : Value) : (W.setCell ⟨b, j, none⟩ x).ownsRow B e s v n xs := by
  refine ⟨h.1, ?_⟩
  rcases h.2 with hn | ⟨g, cap, cur, rfl, hg, hgg, rest⟩
  · exact .inl hn
  · exact .inr ⟨g, cap, cur, rfl, hg, (Below.heap_setCell W ⟨b, j, none⟩ x g (by show g ≠ b; omega)).trans hgg, rest⟩
theorem InnB.grow {W W' : World} {v : Value} {xs : List Int} {row : Option Nat} (h : InnB W v xs) (hx : v.ownBlock ≠ row) (g : W.grownBy W' row) : InnB W' v xs := by
  obtain ⟨a, c, h1, h2, h3, h4⟩ := h
  refine ⟨a, c, h1, h2, h3, ?_⟩
  rcases h4 with h4 | ⟨k, o, cs, e, hh, hc⟩
  · exact .inl h4
  · subst h1; subst e
    exact .inr ⟨k, o, cs, rfl, (g.block k (Array.getElem?_eq_some_iff.1 hh).1 hx).trans hh, hc⟩
theorem InnB.lt {W : World} {v : Value} {p : Int × Int} {k : Nat} (h : InnB W v [p.1, p.2]) (hk : v.ownBlock = some k) : k < W.heap.size := by
  obtain ⟨a, c, h1, h2, h3, h4⟩ := h
  rcases h4 with h4 | ⟨g, o, cs, e, hh, hc⟩
  · cases h4
  · subst h1; subst e
    cases hk
    exact (Array.getElem?_eq_some_iff.1 hh).1
theorem InnB.some {W : World} {v : Value} {p : Int × Int} (h : InnB W v [p.1, p.2]) : v.ownBlock ≠ none := by
  obtain ⟨a, c, h1, h2, h3, h4⟩ := h
  rcases h4 with h4 | ⟨g, o, cs, e, hh, hc⟩
  · cases h4
  · subst h1; subst e; intro h; cases h
theorem InnB.set {W : World} {v : Value} {xs : List Int} {b j : Nat} {t : TypeId} {cs : Array Value} (h : InnB W v xs) (hB : Blk W b t cs) (ht : t ≠ 3) (x : Value) : InnB (W.setCell ⟨b, j, none⟩ x) v xs :=
  h.kept fun g cs' hg => Below.heap_setCell W ⟨b, j, none⟩ x g (by
    show g ≠ b
    rintro rfl
    rw [show W.heap[g]? = _ from hB] at hg; cases hg; exact ht rfl)
/-- A row of the call's own that lies in a block of no integers leaves the inner slices alone. -/
theorem InnB.apart {W W' : World} {v v' : Value} {xs : List Int} {B s n : Nat} {e : TypeId} {vs : List Value} (h : InnB W v xs) (hr : W.ownsRow B e s v' n vs) (he : e ≠ 3) (g : W.grownBy W' v'.ownBlock) : InnB W' v xs :=
  h.kept fun k cs hk => g.block k (Array.getElem?_eq_some_iff.1 hk).1 (fun e1 => by
    obtain ⟨c, hc⟩ := own_type hr e1.symm
    rw [hk] at hc; cases hc; exact he rfl)
theorem own_innB {W : World} {B n : Nat} {v : Value} {xs : List Int} (h : W.ownsRow B 3 1 v n (xs.map (Value.int .i64))) (hn : xs.length = n) : InnB W v xs := by
  rcases h.2 with ⟨rfl, h0⟩ | ⟨g, cap, cur, rfl, hg, hh, hnc, hcm, hcs, ht⟩
  · have : xs = [] := List.eq_nil_of_length_eq_zero (by omega)
    subst this
    exact ⟨none, 0, rfl, Nat.le_refl _, Nat.zero_le _, .inl rfl⟩
  · refine ⟨_, cap, by rw [hn], by omega, hcm, .inr ⟨g, 0, cur, rfl, hh, fun j hj => ?_⟩⟩
    rw [Nat.zero_add, ← Array.getElem?_toList]
    have h1 : (cur.toList.take (n * 1))[j]? = some (.int .i64 (xs.getD j 0)) := by
      rw [ht, List.getElem?_map, List.getElem?_eq_getElem hj]; simp [List.getElem?_eq_getElem hj]
    rw [List.getElem?_take] at h1
    split at h1
    · exact h1
    · cases h1

abbrev bcells (ev : Int) (v2 : Value) : Array Value := #[.int .i64 0, .int .i64 ev, v2, .slice none 0 0, .slice none 0 0]
/-- Where the pairs of starts are laid: n starts, the pairs P. -/
structure PB (X W : World) (bm : Nat) (ev : Int) (v2 v13 : Value) (n : Nat) (P : List (Int × Int)) : Prop where
  blk : Blk W bm 25 (bcells ev v2)
  kp : Kp bm X W
  st : W.ownsRow X.heap.size 3 1 v2 n ((rngI n).map (Value.int .i64))
  ps : ∃ vs : List Value, W.ownsRow X.heap.size 22 1 v13 P.length vs ∧ ∀ (j : Nat) (x : Value) (p : Int × Int), vs[j]? = some x → P[j]? = some p → InnB W x [p.1, p.2] ∧ x.ownBlock ≠ v2.ownBlock

theorem PB.st1 {X W W1 : World} {bm n : Nat} {ev : Int} {v2 v2' v13 : Value} {P : List (Int × Int)} {o : Obj} (h : PB X W bm ev v2 v13 n P) (hbm : bm < X.heap.size)
    (o1 : W1.ownsRow X.heap.size 3 1 v2' (n + 1) ((rngI n).map (Value.int .i64) ++ [.int .i64 n])) (g : (W.alloc o).grownBy W1 v2.ownBlock) (hb : v2'.ownBlock = v2.ownBlock ∨ v2'.ownBlock = some (W.alloc o).heap.size) :
    Blk W1 bm 25 (bcells ev v2) ∧ PB X (W1.setCell ⟨bm, 2, none⟩ v2') bm ev v2' v13 (n + 1) P := by
  have hr : ∀ k, v2.ownBlock = some k → X.heap.size ≤ k := fun k hk => (h.st.lt k hk).1
  have b1 : Blk W1 bm 25 (bcells ev v2) := (g.block bm (h.blk.alloc o).lt (fun e => by have := hr bm e.symm; omega)).trans (h.blk.alloc o)
  obtain ⟨vs, ho, hi⟩ := h.ps
  refine ⟨b1, b1.set 2 v2', ((h.kp.alloc o).grown g hr).set 2 v2', ?_, vs, ?_, fun j x p h1 h2 => ?_⟩
  · rw [rngI_succ, List.map_append]; exact ownsRow_set o1 hbm v2'
  · exact ownsRow_set ((World.ownsRow.alloc ho o).kept g (own_apart (World.ownsRow.alloc ho o) (World.ownsRow.alloc h.st o) (by decide))) hbm v2'
  · obtain ⟨i1, i2⟩ := hi j x p h1 h2
    have i3 := i1.below ((Below.refl _ W).alloc (Nat.le_refl _) o)
    refine ⟨(i3.grow i2 g).set b1 (by decide) v2', ?_⟩
    rcases hb with hb | hb
    · rw [hb]; exact i2
    · rw [hb]
      intro e
      have := i1.lt e
      rw [World.size_alloc] at this
      omega
theorem PB.ps1 {X W W1 : World} {bm n : Nat} {ev x y : Int} {v2 v13 v13' : Value} {P : List (Int × Int)} {vs : List Value} {t : TypeId} (h : PB X W bm ev v2 v13 n P) (hbm : bm < X.heap.size)
    (ho : W.ownsRow X.heap.size 22 1 v13 P.length vs) (hi : ∀ (j : Nat) (x : Value) (p : Int × Int), vs[j]? = some x → P[j]? = some p → InnB W x [p.1, p.2] ∧ x.ownBlock ≠ v2.ownBlock)
    (o1 : W1.ownsRow X.heap.size 22 1 v13' (P.length + 1) (vs ++ [.slice (some ⟨W.heap.size, 0, none⟩) 2 2])) (g : ((W.alloc (.cells #[.int .i64 x, .int .i64 y] 3)).alloc (.cells #[.slice (some ⟨W.heap.size, 0, none⟩) 2 2] t)).drew.grownBy W1 v13.ownBlock) :
    PB X W1 bm ev v2 v13' n (P ++ [(x, y)]) := by
  have hr : ∀ k, v13.ownBlock = some k → X.heap.size ≤ k := fun k hk => (ho.lt k hk).1
  have hlay : Below W.heap.size W ((W.alloc (.cells #[.int .i64 x, .int .i64 y] 3)).alloc (.cells #[.slice (some ⟨W.heap.size, 0, none⟩) 2 2] t)).drew := (((Below.refl _ _).alloc (Nat.le_refl _) _).alloc (by simp) _).drew
  have hrow := ownsRow_lay2 ho (.cells #[.int .i64 x, .int .i64 y] 3) (.cells #[.slice (some ⟨W.heap.size, 0, none⟩) 2 2] t)
  have hb2 := h.blk.below hlay h.blk.lt
  have hl : vs.length = P.length := by have := ho.1; omega
  refine ⟨(g.block bm hb2.lt (fun e => by have := hr bm e.symm; omega)).trans hb2, Kp.grown ⟨Nat.le_trans h.kp.size hlay.size, fun k hk hne => (hlay.block k (Nat.lt_of_lt_of_le hk h.kp.size)).trans (h.kp.same k hk hne)⟩ g hr, ?_, vs ++ [.slice (some ⟨W.heap.size, 0, none⟩) 2 2], by rw [List.length_append]; exact o1, fun j z p h1 h2 => ?_⟩
  · have h3 := World.ownsRow.alloc (World.ownsRow.alloc h.st (.cells #[.int .i64 x, .int .i64 y] 3)) (.cells #[.slice (some ⟨W.heap.size, 0, none⟩) 2 2] t)
    exact World.ownsRow.kept (w := ((W.alloc (.cells #[.int .i64 x, .int .i64 y] 3)).alloc (.cells #[.slice (some ⟨W.heap.size, 0, none⟩) 2 2] t)).drew) h3 g (own_apart h3 hrow (by decide))
  · by_cases hj : j < P.length
    · rw [List.getElem?_append_left (by omega)] at h1
      rw [List.getElem?_append_left hj] at h2
      obtain ⟨i1, i2⟩ := hi j z p h1 h2
      exact ⟨(i1.below hlay).apart hrow (by decide) g, i2⟩
    · have hj2 : j < (P ++ [(x, y)]).length := (List.getElem?_eq_some_iff.1 h2).1
      have : j = P.length := by simp at hj2; omega
      subst this
      rw [List.getElem?_append_right (by omega)] at h1 h2
      rw [hl] at h1
      simp at h1 h2
      subst h1; subst h2
      refine ⟨((innB_new W x y).below (((Below.refl _ _).alloc (Nat.le_refl _) _).drew)).apart hrow (by decide) g, fun e => ?_⟩
      have := (h.st.lt W.heap.size e.symm).2
      omega

end Go.Proofs.YtialjbdfkhfcoabDoor
namespace Go.Proofs.YtialjbdfkhfcoabDoor
open Go.RowKit
set_option linter.unusedVariables false

theorem prs_get {L : List (Int × Int)} {j : Nat} {xs : List Int} (h : (prs L)[j]? = some xs) : ∃ p, L[j]? = some p ∧ xs = [p.1, p.2] := by
  unfold prs at h
  rw [List.getElem?_map] at h
  cases hp : L[j]? with
  | none => rw [hp] at h; cases h
  | some p => rw [hp] at h; exact ⟨p, rfl, (Option.some.inj h).symm⟩
theorem Own2.get {W : World} {B : Nat} {v : Value} {L : List (Int × Int)} (h : Own2 W B v (prs L)) {k : Nat} (hk : k < L.length) :
    ∃ (b cap : Nat), v = .slice (some ⟨b, 0, none⟩) L.length cap ∧ b < W.heap.size ∧ ∃ (p : Int × Int) (g o c : Nat), Hid (L[k]? = some p) ∧ g < W.heap.size ∧ W.cell? ⟨b, k, none⟩ = some (.slice (some ⟨g, o, none⟩) 2 c) ∧ InnB W (.slice (some ⟨g, o, none⟩) 2 c) [p.1, p.2] ∧ W.cell? ⟨g, o, none⟩ = some (.int .i64 p.1) ∧ W.cell? ⟨g, o + 1, none⟩ = some (.int .i64 p.2) := by
  obtain ⟨vs, ho, hi⟩ := h
  have hl : vs.length = L.length := by have := ho.1; rw [prs_len] at this; omega
  rcases ho.2 with ⟨rfl, hn⟩ | ⟨b, cap, cur, rfl, hg, hh, hnc, hcm, hcs, ht⟩
  · rw [prs_len] at hn; omega
  · refine ⟨b, cap, by rw [prs_len], (Array.getElem?_eq_some_iff.1 hh).1, ?_⟩
    obtain ⟨p, hp⟩ : ∃ p, L[k]? = some p := ⟨_, List.getElem?_eq_getElem hk⟩
    have hx := List.getElem?_eq_getElem (l := vs) (show k < vs.length by omega)
    have i1 := hi k _ [p.1, p.2] hx (by simp [prs, hp])
    have hc := ho.cells (g := b) rfl k _ hx
    rw [show (⟨b, 0, none⟩ : Addr).add k = ⟨b, k, none⟩ from by unfold Addr.add; split <;> simp_all] at hc
    obtain ⟨a, c, e1, e2, e3, e4⟩ := i1
    rcases e4 with e4 | ⟨g, o, cs, rfl, hh', hcc⟩
    · cases e4
    · rw [e1] at hc
      refine ⟨p, g, o, c, hp, (Array.getElem?_eq_some_iff.1 hh').1, hc, ⟨_, c, rfl, e2, e3, .inr ⟨g, o, cs, rfl, hh', hcc⟩⟩, ?_, ?_⟩
      · simp [World.cell?, hh']; have := hcc 0 (by simp); simpa using this
      · simp [World.cell?, hh']; have := hcc 1 (by simp); simpa using this
theorem Own2.keep {W W' : World} {B B' s n : Nat} {e : TypeId} {v v' : Value} {LL : List (List Int)} {xs : List Value} (h : Own2 W B v LL) (hr : W.ownsRow B' e s v' n xs) (he : e ≠ 3) (hne : v.ownBlock = none ∨ v.ownBlock ≠ v'.ownBlock) (g : W.grownBy W' v'.ownBlock) : Own2 W' B v LL := by
  obtain ⟨vs, ho, hi⟩ := h
  exact ⟨vs, ho.kept g hne, fun j x xs h1 h2 => (hi j x xs h1 h2).apart hr he g⟩

/-- Where pairs are gone through: the starts are laid, pairs and arrows come. -/
structure PC (X W : World) (bm : Nat) (ev : Int) (v2 v13 v16 : Value) (n : Nat) (s : BS) : Prop where
  blk : Blk W bm 25 (bcells ev v2)
  kp : Kp bm X W
  st : InnB W v2 (rngI n)
  ps : Own2 W X.heap.size v13 (prs s.ps)
  ar : OwnA W X.heap.size v16 s.ar
theorem PB.pc {X W : World} {bm n : Nat} {ev : Int} {v2 v13 : Value} {P : List (Int × Int)} (h : PB X W bm ev v2 v13 n P) : PC X W bm ev v2 v13 (.slice none 0 0) n ⟨P, []⟩ := by
  refine ⟨h.blk, h.kp, own_innB h.st (rngI_len n), ?_, ownA_nil _ _⟩
  obtain ⟨vs, ho, hi⟩ := h.ps
  refine ⟨vs, by rw [prs_len]; exact ho, fun j x xs h1 h2 => ?_⟩
  obtain ⟨p, hp, rfl⟩ := prs_get h2
  exact (hi j x p h1 hp).1
theorem Kp.below {b : Nat} {X W W' : World} (h : Kp b X W) (hb : Below W.heap.size W W') : Kp b X W' :=
  ⟨Nat.le_trans h.size hb.size, fun k hk hne => (hb.block k (Nat.lt_of_lt_of_le hk h.size)).trans (h.same k hk hne)⟩
theorem PC.below {X W W' : World} {bm n : Nat} {ev : Int} {v2 v13 v16 : Value} {s : BS} (h : PC X W bm ev v2 v13 v16 n s) (hb : Below W.heap.size W W') : PC X W' bm ev v2 v13 v16 n s :=
  ⟨h.blk.below hb h.blk.lt, h.kp.below hb, h.st.below hb, h.ps.below hb, h.ar.kept hb (Nat.le_refl _)⟩
theorem PC.alloc {X W : World} {bm n : Nat} {ev : Int} {v2 v13 v16 : Value} {s : BS} (h : PC X W bm ev v2 v13 v16 n s) (o : Obj) : PC X (W.alloc o) bm ev v2 v13 v16 n s := h.below ((Below.refl _ _).alloc (Nat.le_refl _) o)
theorem PC.ps1 {X W W1 : World} {bm n : Nat} {ev : Int} {v2 v13 v13' v16 x : Value} {s : BS} {p : Int × Int} {vs : List Value} (h : PC X W bm ev v2 v13 v16 n s) (hbm : bm < X.heap.size)
    (ho : W.ownsRow X.heap.size 22 1 v13 (prs s.ps).length vs) (hi : ∀ (j : Nat) (x : Value) (xs : List Int), vs[j]? = some x → (prs s.ps)[j]? = some xs → InnB W x xs) (hx : InnB W x [p.1, p.2])
    (o1 : W1.ownsRow X.heap.size 22 1 v13' ((prs s.ps).length + 1) (vs ++ [x])) (g : W.grownBy W1 v13.ownBlock) : PC X W1 bm ev v2 v13' v16 n ⟨s.ps ++ [p], s.ar⟩ := by
  have hr : ∀ k, v13.ownBlock = some k → X.heap.size ≤ k := fun k hk => (ho.lt k hk).1
  refine ⟨(g.block bm h.blk.lt (fun e => by have := hr bm e.symm; omega)).trans h.blk, h.kp.grown g hr, h.st.apart ho (by decide) g, ?_, World.ownsRow.kept h.ar g (own_apart h.ar ho (by decide))⟩
  show Own2 _ _ _ (prs (s.ps ++ [p]))
  rw [prs_snoc]
  exact Own2.snoc ho hi hx o1 g
theorem PC.ar1 {X W W1 : World} {bm n : Nat} {ev : Int} {v2 v13 v16 v16' : Value} {s : BS} {a : Arr} (h : PC X W bm ev v2 v13 v16 n s) (hbm : bm < X.heap.size)
    (o1 : OwnA W1 X.heap.size v16' (s.ar ++ [a])) (g : W.grownBy W1 v16.ownBlock) : PC X W1 bm ev v2 v13 v16' n ⟨s.ps, s.ar ++ [a]⟩ := by
  have hr : ∀ k, v16.ownBlock = some k → X.heap.size ≤ k := fun k hk => (World.ownsRow.lt h.ar k hk).1
  obtain ⟨vs, ho, hi⟩ := h.ps
  exact ⟨(g.block bm h.blk.lt (fun e => by have := hr bm e.symm; omega)).trans h.blk, h.kp.grown g hr, h.st.apart h.ar (by decide) g, Own2.keep ⟨vs, ho, hi⟩ h.ar (by decide) (own_apart ho h.ar (by decide)) g, o1⟩
/-- The pairs that are led to, apart from the pairs found. -/
structure LQ (W : World) (v13 v21 : Value) (L : List (Int × Int)) : Prop where
  own : Own2 W 0 v21 (prs L)
  ne : v21.ownBlock = none ∨ v21.ownBlock ≠ v13.ownBlock
theorem LQ.below {W W' : World} {v13 v21 : Value} {L : List (Int × Int)} (h : LQ W v13 v21 L) (hb : Below W.heap.size W W') : LQ W' v13 v21 L := ⟨h.own.below hb, h.ne⟩
theorem LQ.ps1 {W W1 : World} {B n : Nat} {v13 v13' v21 : Value} {L : List (Int × Int)} {vs : List Value} (h : LQ W v13 v21 L) (ho : W.ownsRow B 22 1 v13 n vs) (g : W.grownBy W1 v13.ownBlock) (hb : v13'.ownBlock = v13.ownBlock ∨ v13'.ownBlock = some W.heap.size) : LQ W1 v13' v21 L := by
  refine ⟨h.own.keep ho (by decide) h.ne g, ?_⟩
  rcases h.ne with h1 | h1
  · exact .inl h1
  · rcases hb with hb | hb
    · exact .inr (by rw [hb]; exact h1)
    · refine .inr fun e => ?_
      obtain ⟨ws, ho2, -⟩ := h.own
      have := (ho2.lt W.heap.size (e.trans hb)).2
      omega
theorem LQ.ar1 {W W1 : World} {B : Nat} {v13 v16 v21 : Value} {L : List (Int × Int)} {A : List Arr} (h : LQ W v13 v21 L) (ho : OwnA W B v16 A) (g : W.grownBy W1 v16.ownBlock) : LQ W1 v13 v21 L := by
  obtain ⟨ws, ho2, hi2⟩ := h.own
  exact ⟨Own2.keep ⟨ws, ho2, hi2⟩ ho (by decide) (own_apart ho2 ho (by decide)) g, h.ne⟩

end Go.Proofs.YtialjbdfkhfcoabDoor
namespace Go.Proofs.YtialjbdfkhfcoabDoor
open Go.RowKit
set_option linter.unusedVariables false

abbrev zcells : Array Value := #[.int .i64 0, .int .i64 0, .slice none 0 0, .slice none 0 0, .slice none 0 0]
theorem mcell_at {W : World} {b : Nat} {m : Mach} {l : ML} (h : Blk W b 25 (mcells m l)) : W.cell? ⟨b, 0, none⟩ = some (.int .i64 m.st) ∧ W.cell? ⟨b, 1, none⟩ = some (.int .i64 m.ev) ∧ W.cell? ⟨b, 2, none⟩ = some (.slice l.a1 m.starts.length l.c1) ∧ W.cell? ⟨b, 3, none⟩ = some (.slice l.a2 m.arrows.length l.c2) ∧ W.cell? ⟨b, 4, none⟩ = some (.slice l.a3 m.ends.length l.c3) :=
  ⟨h.cell 0 rfl, h.cell 1 rfl, h.cell 2 rfl, h.cell 3 rfl, h.cell 4 rfl⟩

/-- A slice that lies neither in block bn nor up to block r. -/
def AtX (w : World) (r bn : Nat) (a : Option Addr) (xs : List Int) : Prop := xs = [] ∨ ∃ b off, a = some ⟨b, off, none⟩ ∧ (b ≠ bn ∧ b ≠ r) ∧ b < w.heap.size ∧ Cells w b off xs
theorem AtX.at {w : World} {r B : Nat} {a : Option Addr} {xs : List Int} (h : AtX w r B a xs) : At w a xs := by
  rcases h with h | ⟨b, off, h1, -, h2, h3⟩
  · exact .inl h
  · exact .inr ⟨b, off, h1, h2, h3⟩
theorem AtX.below {w w' : World} {r B : Nat} {a : Option Addr} {xs : List Int} (h : AtX w r B a xs) (hb : Below w.heap.size w w') : AtX w' r B a xs := by
  rcases h with h | ⟨b, off, h1, h0, h2, h3⟩
  · exact .inl h
  · exact .inr ⟨b, off, h1, h0, Nat.lt_of_lt_of_le h2 hb.size, fun j hj => (hb.cell (p := ⟨b, off + j, none⟩) h2).trans (h3 j hj)⟩
theorem AtX.set0 {w : World} {r bn g j : Nat} {a : Option Addr} {xs : List Int} (h : AtX w r bn a xs) (v : Value) (hg : g = bn ∨ g = r) : AtX (w.setCell ⟨g, j, none⟩ v) r bn a xs := by
  rcases h with h | ⟨b, off, h1, h0, h2, h3⟩
  · exact .inl h
  · refine .inr ⟨b, off, h1, h0, by simpa [World.setCell] using h2, fun i hi => ?_⟩
    rw [← h3 i hi]
    exact World.cell?_of_block (w := w) (Below.heap_setCell w ⟨g, j, none⟩ v b (by show b ≠ g; omega))
theorem AtX.set {w : World} {r bn j : Nat} {a : Option Addr} {xs : List Int} (h : AtX w r bn a xs) (v : Value) : AtX (w.setCell ⟨bn, j, none⟩ v) r bn a xs := h.set0 v (.inl rfl)
theorem AtX.setr {w : World} {r bn j : Nat} {a : Option Addr} {xs : List Int} (h : AtX w r bn a xs) (v : Value) : AtX (w.setCell ⟨r, j, none⟩ v) r bn a xs := h.set0 v (.inr rfl)
theorem own_atX {w : World} {B : Nat} {v : Value} {xs : List Int} (h : Own w B v xs) (r bn : Nat) (hr : r < B) (hn : bn < B ∨ w.heap.size ≤ bn) : ∃ a cap, v = .slice a xs.length cap ∧ AtX w r bn a xs ∧ xs.length ≤ cap ∧ cap ≤ maxLen ∧ (a = none → cap = 0) := by
  rcases h.cells_of with ⟨rfl, rfl⟩ | ⟨g, cap, rfl, h1, h2, h3, -⟩
  · exact ⟨none, 0, rfl, .inl rfl, Nat.le_refl _, Nat.zero_le _, fun _ => rfl⟩
  · obtain ⟨a, c, e, -, k1, k2, k3⟩ := h.at2
    cases e
    exact ⟨_, _, rfl, .inr ⟨g, 0, rfl, by omega, h2, h3⟩, k1, k2, k3⟩
theorem size_set (w : World) (a : Addr) (v : Value) : (w.setCell a v).heap.size = w.heap.size := by simp [World.setCell]
/-- Arrows that do not lie in block g. -/
def AtXA (w : World) (g : Nat) (a : Option Addr) (ars : List Arr) : Prop := ars = [] ∨ ∃ b off, a = some ⟨b, off, none⟩ ∧ b ≠ g ∧ b < w.heap.size ∧ CellsA w b off ars
theorem AtXA.at {w : World} {g : Nat} {a : Option Addr} {ars : List Arr} (h : AtXA w g a ars) : AtA w a ars := by
  rcases h with h | ⟨b, off, h1, -, h2, h3⟩
  · exact .inl h
  · exact .inr ⟨b, off, h1, h2, h3⟩
theorem AtXA.set {w : World} {g j : Nat} {a : Option Addr} {ars : List Arr} (h : AtXA w g a ars) (v : Value) : AtXA (w.setCell ⟨g, j, none⟩ v) g a ars := by
  rcases h with h | ⟨b, off, h1, hne, h2, h3⟩
  · exact .inl h
  · refine .inr ⟨b, off, h1, hne, by simpa [World.setCell] using h2, fun i hi => ?_⟩
    obtain ⟨k1, k2, k3⟩ := h3 i hi
    exact ⟨(World.cell?_of_block (w := w) (Below.heap_setCell w ⟨g, j, none⟩ v b hne)).trans k1, (World.cell?_of_block (w := w) (Below.heap_setCell w ⟨g, j, none⟩ v b hne)).trans k2, (World.cell?_of_block (w := w) (Below.heap_setCell w ⟨g, j, none⟩ v b hne)).trans k3⟩
/-- Arrows do not lie in a machine's block. -/
theorem AtA.apart {w : World} {bn : Nat} {t : TypeId} {a : Option Addr} {ars : List Arr} {x y : Int} {a1 a2 a3 : Option Addr} {n1 n2 n3 c1 c2 c3 : Nat} (h : AtA w a ars) (hB : Blk w bn t #[.int .i64 x, .int .i64 y, .slice a1 n1 c1, .slice a2 n2 c2, .slice a3 n3 c3]) : AtXA w bn a ars := by
  rcases h with h | ⟨b, off, h1, h2, h3⟩
  · exact .inl h
  · by_cases he : ars = []
    · exact .inl he
    · have hlen : 0 < ars.length := List.length_pos_iff.2 he
      have hne : b ≠ bn := by
        rintro rfl
        obtain ⟨k1, k2, k3⟩ := h3 0 hlen
        have hf : ∀ i v, w.cell? ⟨b, i, none⟩ = some v → (#[Value.int .i64 x, .int .i64 y, .slice a1 n1 c1, .slice a2 n2 c2, .slice a3 n3 c3] : Array Value)[i]? = some v := fun i v hv => by
          have := hv
          simp only [World.cell?, show w.heap[b]? = _ from hB] at this
          simpa using this
        have q := hf _ _ k3
        have hi : off + 0 * 3 + 2 = 2 ∨ off + 0 * 3 + 2 = 3 ∨ off + 0 * 3 + 2 = 4 ∨ 5 ≤ off + 0 * 3 + 2 := by omega
        rcases hi with hi | hi | hi | hi
        · rw [hi] at q; simp at q
        · rw [hi] at q; simp at q
        · rw [hi] at q; simp at q
        · rw [Array.getElem?_eq_none (by simpa using hi)] at q; cases q
      exact .inr ⟨b, off, h1, hne, h2, h3⟩
theorem atA_new (W : World) (t : TypeId) (x : Arr) (b : Nat) (hb : b = W.heap.size) : AtA (W.alloc (.cells #[.int .i64 x.f, .int .i64 x.e, .int .i64 x.t] t)) (some ⟨b, 0, none⟩) [x] := by
  subst hb
  refine .inr ⟨_, 0, rfl, by simp, fun j hj => ?_⟩
  have : j = 0 := by simp at hj; omega
  subst this
  exact ⟨(Blk.new W t #[.int .i64 x.f, .int .i64 x.e, .int .i64 x.t]).cell 0 rfl, (Blk.new W t #[.int .i64 x.f, .int .i64 x.e, .int .i64 x.t]).cell 1 rfl, (Blk.new W t #[.int .i64 x.f, .int .i64 x.e, .int .i64 x.t]).cell 2 rfl⟩
theorem ownA_snoc2 {w wr w1 : World} {B : Nat} {v : Value} {L : List Arr} {o o' : Obj} (hown : OwnA wr B v L) (hb : Below B w wr) (hB : B ≤ wr.heap.size) (hgrow : ((wr.alloc o).alloc o').grownBy w1 v.ownBlock) : Below B w w1 :=
  ((hb.alloc hB o).alloc (by simp; omega) o').grown hgrow (by simp; omega) (fun j hj => (World.ownsRow.lt hown j hj).1)
theorem startsLen {m : Mach} (hm : mayB m = true) : m.starts.length ≤ 4096 := by
  have hz := mayB_size hm
  have hr := mayB_starts hm
  unfold sizeOk at hz
  unfold rowB at hr
  have := goIs_len _ _ _ (by omega) hr
  omega
theorem endsLen {m : Mach} (hm : mayB m = true) : m.ends.length ≤ 4096 := by
  have hz := mayB_size hm
  have hr := mayB_ends hm
  unfold sizeOk at hz
  unfold rowB at hr
  have := goIs_len _ _ _ (by omega) hr
  omega

end Go.Proofs.YtialjbdfkhfcoabDoor
namespace Go.Proofs.YtialjbdfkhfcoabDoor
open Go.RowKit
set_option linter.unusedVariables false

theorem zcell_at {W : World} {b : Nat} {t : TypeId} (h : Blk W b t zcells) : W.cell? ⟨b, 0, none⟩ = some (.int .i64 0) ∧ W.cell? ⟨b, 1, none⟩ = some (.int .i64 0) ∧ W.cell? ⟨b, 2, none⟩ = some (.slice none 0 0) ∧ W.cell? ⟨b, 3, none⟩ = some (.slice none 0 0) ∧ W.cell? ⟨b, 4, none⟩ = some (.slice none 0 0) :=
  ⟨h.cell 0 rfl, h.cell 1 rfl, h.cell 2 rfl, h.cell 3 rfl, h.cell 4 rfl⟩
theorem Blk.other5 {W : World} {b b' : Nat} {t : TypeId} {cs : Array Value} (h : Blk W b t cs) (hne : b ≠ b') (v0 v1 v2 v3 v4 : Value) : Blk (((((W.setCell ⟨b', 0, none⟩ v0).setCell ⟨b', 1, none⟩ v1).setCell ⟨b', 2, none⟩ v2).setCell ⟨b', 3, none⟩ v3).setCell ⟨b', 4, none⟩ v4) b t cs :=
  ((((h.other hne v0).other hne v1).other hne v2).other hne v3).other hne v4

theorem Blk.set5 {W : World} {b : Nat} {t : TypeId} (h : Blk W b t zcells) (v0 v1 v2 v3 v4 : Value) : Blk (((((W.setCell ⟨b, 0, none⟩ v0).setCell ⟨b, 1, none⟩ v1).setCell ⟨b, 2, none⟩ v2).setCell ⟨b, 3, none⟩ v3).setCell ⟨b, 4, none⟩ v4) b t #[v0, v1, v2, v3, v4] :=
  ((((h.set 0 v0).set 1 v1).set 2 v2).set 3 v3).set 4 v4
theorem below_set5 {W V : World} {B b' : Nat} (h : Below B V W) (hb : B ≤ b') (v0 v1 v2 v3 v4 : Value) : Below B V (((((W.setCell ⟨b', 0, none⟩ v0).setCell ⟨b', 1, none⟩ v1).setCell ⟨b', 2, none⟩ v2).setCell ⟨b', 3, none⟩ v3).setCell ⟨b', 4, none⟩ v4) :=
  ((((h.setCell (p := ⟨b', 0, none⟩) hb v0).setCell (p := ⟨b', 1, none⟩) hb v1).setCell (p := ⟨b', 2, none⟩) hb v2).setCell (p := ⟨b', 3, none⟩) hb v3).setCell (p := ⟨b', 4, none⟩) hb v4
theorem results_three {fn : Func} {p u v : Tmp} (h : fn.results = #[.cell p 25, .tmp u, .tmp v]) (tmps : Array Value) (w : World) (g : Nat) (m : Mach) (l : ML) (x y : Value) (hp : tmps.getD p undef = .pointer (some ⟨g, 0, none⟩)) (hu : tmps.getD u undef = x) (hv : tmps.getD v undef = y) (hB : Blk w g 25 (mcells m l)) :
    (results fn tmps).run Tryd.prog w = .ok (.tuple #[mval m l, x, y]) w := by
  obtain ⟨x0, x1, x2, x3, x4⟩ := mcell_at hB
  have e : (results fn tmps).run Tryd.prog w = ((asAddr (tmps.getD p undef)).run Tryd.prog w).andThen fun a w₁ => ((loadVar 25 a).run Tryd.prog w₁).andThen fun r w₂ => .ok (.tuple #[r, tmps.getD u undef, tmps.getD v undef]) w₂ := by
    simp only [results, h]
    simp [Sem.run_bind, Result.andThen]
  rw [e, hp, hu, hv]
  go_simp

abbrev m0 : Mach := ⟨0, 0, [], [], []⟩
abbrev ml0 : ML := ⟨none, 0, none, 0, none, 0⟩

end Go.Proofs.YtialjbdfkhfcoabDoor
namespace Go.Proofs.YtialjbdfkhfcoabDoor
open Go.RowKit
set_option linter.unusedVariables false

theorem Kp.trans {b : Nat} {X Y W : World} (h : Kp b X Y) (k : Kp b Y W) : Kp b X W :=
  ⟨Nat.le_trans h.size k.size, fun j hj hne => (k.same j (Nat.lt_of_lt_of_le hj h.size) hne).trans (h.same j hj hne)⟩
theorem InnB.kp {Y W : World} {v : Value} {xs : List Int} {b : Nat} {t : TypeId} {cs : Array Value} (h : InnB Y v xs) (hk : Kp b Y W) (hB : Blk Y b t cs) (ht : t ≠ 3) : InnB W v xs :=
  h.kept fun g cs' hg => hk.same g (Array.getElem?_eq_some_iff.1 hg).1 (by
    rintro rfl
    rw [show Y.heap[g]? = _ from hB] at hg; cases hg; exact ht rfl)
theorem Own2.kp {Y W : World} {B b : Nat} {v : Value} {LL : List (List Int)} {t : TypeId} {cs : Array Value} (h : Own2 Y B v LL) (hk : Kp b Y W) (hB : Blk Y b t cs) (ht : t ≠ 3) (ht2 : t ≠ 22) : Own2 W B v LL := by
  obtain ⟨vs, ho, hi⟩ := h
  refine ⟨vs, ⟨ho.1, ?_⟩, fun j x xs h1 h2 => (hi j x xs h1 h2).kp hk hB ht⟩
  rcases ho.2 with hn | ⟨g, cap, cur, rfl, hg, hgg, rest⟩
  · exact .inl hn
  · refine .inr ⟨g, cap, cur, rfl, hg, (hk.same g (Array.getElem?_eq_some_iff.1 hgg).1 ?_).trans hgg, rest⟩
    rintro rfl
    rw [show Y.heap[g]? = _ from hB] at hgg; cases hgg; exact ht2 rfl
theorem Kp.one {b j : Nat} {W : World} (v : Value) : Kp b W (W.setCell ⟨b, j, none⟩ v) := (Kp.refl b W).set j v
theorem Kp.set5 {b : Nat} {W : World} (v0 v1 v2 v3 v4 : Value) : Kp b W (((((W.setCell ⟨b, 0, none⟩ v0).setCell ⟨b, 1, none⟩ v1).setCell ⟨b, 2, none⟩ v2).setCell ⟨b, 3, none⟩ v3).setCell ⟨b, 4, none⟩ v4) :=
  (((((Kp.refl b W).set 0 v0).set 1 v1).set 2 v2).set 3 v3).set 4 v4
theorem AtXA.kp {Y W : World} {g : Nat} {a : Option Addr} {ars : List Arr} (h : AtXA Y g a ars) (hk : Kp g Y W) : AtA W a ars := by
  rcases h with h | ⟨b, off, h1, hne, h2, h3⟩
  · exact .inl h
  · refine .inr ⟨b, off, h1, Nat.lt_of_lt_of_le h2 hk.size, fun i hi => ?_⟩
    have e : ∀ q, W.cell? ⟨b, q, none⟩ = Y.cell? ⟨b, q, none⟩ := fun q => World.cell?_of_block (w := Y) (hk.same b h2 hne)
    rw [e, e, e]; exact h3 i hi
theorem Own.kp {Y W : World} {B b : Nat} {v : Value} {xs : List Int} (h : Own Y B v xs) (hk : Kp b Y W) (hb : b < B) : Own W B v xs := by
  refine ⟨h.1, ?_⟩
  rcases h.2 with hn | ⟨g, cap, cur, rfl, hg, hgg, rest⟩
  · exact .inl hn
  · exact .inr ⟨g, cap, cur, rfl, hg, (hk.same g (Array.getElem?_eq_some_iff.1 hgg).1 (by omega)).trans hgg, rest⟩

/-- Where ends are laid. -/
structure PD (w Y W : World) (bm : Nat) (st ev : Int) (v2 v3 v4 : Value) (E : List Int) : Prop where
  blk : Blk W bm 25 #[.int .i64 st, .int .i64 ev, v2, v3, v4]
  kp : Kp bm Y W
  own : Own W Y.heap.size v4 E
  bel : Below w.heap.size w W
theorem PD.drewN {w Y W : World} {bm : Nat} {st ev : Int} {v2 v3 v4 : Value} {E : List Int} (h : PD w Y W bm st ev v2 v3 v4 E) : PD w Y W.drew bm st ev v2 v3 v4 E := ⟨h.blk.drew, ⟨h.kp.size, h.kp.same⟩, h.own, h.bel.drew⟩
theorem PD.drewNn {w Y W : World} {bm : Nat} {st ev : Int} {v2 v3 v4 : Value} {E : List Int} (h : PD w Y W bm st ev v2 v3 v4 E) (n : Nat) : PD w Y (W.drewN n) bm st ev v2 v3 v4 E := ⟨h.blk, ⟨h.kp.size, h.kp.same⟩, h.own, below_drewN h.bel n⟩
theorem PD.one {w Y W W1 : World} {bm : Nat} {st ev x : Int} {v2 v3 v4 v4' : Value} {E : List Int} {o : Obj} (h : PD w Y W bm st ev v2 v3 v4 E) (hlo : w.heap.size ≤ bm) (hbm : bm < Y.heap.size)
    (o1 : W1.ownsRow Y.heap.size 3 1 v4' (E.length + 1) (E.map (Value.int .i64) ++ [.int .i64 x])) (g : (W.alloc o).grownBy W1 v4.ownBlock) :
    Blk W1 bm 25 #[.int .i64 st, .int .i64 ev, v2, v3, v4] ∧ PD w Y (W1.setCell ⟨bm, 4, none⟩ v4') bm st ev v2 v3 v4' (E ++ [x]) := by
  have hr : ∀ k, v4.ownBlock = some k → Y.heap.size ≤ k := fun k hk => (World.ownsRow.lt h.own k hk).1
  have b1 : Blk W1 bm 25 #[.int .i64 st, .int .i64 ev, v2, v3, v4] := (g.block bm (h.blk.alloc o).lt (fun e => by have := hr bm e.symm; omega)).trans (h.blk.alloc o)
  refine ⟨b1, b1.set 4 v4', ((h.kp.alloc o).grown g hr).set 4 v4', ?_, ?_⟩
  · unfold Own
    rw [List.length_append, List.map_append]
    exact ownsRow_set o1 hbm v4'
  · exact ((h.bel.alloc h.bel.size o).grown g (by simp; have := h.bel.size; omega) (fun j hj => Nat.le_trans (Nat.le_trans hlo (Nat.le_of_lt hbm)) (hr j hj))).setCell (p := ⟨bm, 4, none⟩) hlo v4'

theorem endsP_succ {a b : Mach} {L : List (Int × Int)} {n : Nat} {p : Int × Int} (hp : Hid (L[n]? = some p)) : endsP a b L (n + 1) = if (hasB a.ends p.1 && hasB b.ends p.2) = true then endsP a b L n ++ [(n : Int)] else endsP a b L n := by
  unfold endsP
  rw [rngI_succ, List.filter_append]
  have e : (L[((n : Int)).toNat]?.getD (0, 0)) = p := by rw [Int.toNat_natCast, hp.out]; rfl
  by_cases c : (hasB a.ends p.1 && hasB b.ends p.2) = true
  · rw [if_pos c]
    congr 1
    simp only [List.filter_cons, e, c, if_true, List.filter_nil]
  · rw [if_neg c]
    simp only [List.filter_cons, e, c, Bool.false_eq_true, if_false, List.filter_nil, List.append_nil]
theorem endsP_zero (a b : Mach) (L : List (Int × Int)) : endsP a b L 0 = [] := rfl
theorem endsP_len (a b : Mach) (L : List (Int × Int)) (n : Nat) : (endsP a b L n).length ≤ n := by
  unfold endsP
  exact Nat.le_trans (List.length_filter_le _ _) (by rw [rngI_len]; exact Nat.le_refl _)
theorem own_form2 {W : World} {B s n : Nat} {e : TypeId} {v : Value} {xs : List Value} (h : W.ownsRow B e s v n xs) : ∃ a c, v = .slice a n c ∧ n ≤ c ∧ c ≤ maxLen ∧ (a = none → c = 0) := by
  rcases h.2 with ⟨rfl, rfl⟩ | ⟨g, cap, cur, rfl, -, -, h1, h2, -⟩
  · exact ⟨none, 0, rfl, Nat.le_refl _, Nat.zero_le _, fun _ => rfl⟩
  · exact ⟨_, cap, rfl, h1, h2, fun h => by cases h⟩

end Go.Proofs.YtialjbdfkhfcoabDoor
