/-
  What is said on the way through jalousieref4.Beside, where pairs are gone through.
  What is said on the way through jalousieref4.Beside, where the machine is laid out.
  What both walks of package beside leave.
  What is said of package beside's finder in a world: its block, its rows, its map; what a call turns of it; the map's look-up and its store.
  What a call turns of a world ('Turn'); what is said of package beside's finder ('FD').
-/
import Derived.Test.YtcbdjjkebpncmaaDoorG30
import Derived.Test.YtcbdjjkebpncmaaDoorG09
import Derived.Test.YtcbdjjkebpncmaaDoorG06
import Derived.DeepKeys4
import Derived.Maps.Keyed
import Derived.Deep.RegionHeld3
namespace Go.Proofs.YtcbdjjkebpncmaaDoor
open Go.RowKit
set_option linter.unusedVariables false

theorem prs_get {L : List (Int × Int)} {j : Nat} {xs : List Int} (h : (prs L)[j]? = some xs) : ∃ p, L[j]? = some p ∧ xs = [p.1, p.2] := by
  unfold prs at h
  rw [List.getElem?_map] at h
  cases hp : L[j]? with
  | none => rw [hp] at h; cases h
  | some p => rw [hp] at h; exact ⟨p, rfl, (Option.some.inj h).symm⟩
theorem Own2.get {W : World} {B : Nat} {v : Value} {L : List (Int × Int)} (h : Own2 W B v (prs L)) {k : Nat} (hk : k < L.length) :
    ∃ (b cap : Nat), v = .slice (some ⟨b, 0, none⟩) L.length cap ∧ b < W.heap.size ∧ ∃ (p : Int × Int) (g o c : Nat), Hid (L[k]? = some p) ∧ g < W.heap.size ∧ W.cell? ⟨b, k, none⟩ = some (.slice (some ⟨g, o, none⟩) 2 c) ∧ InnB W (.slice (some ⟨g, o, none⟩) 2 c) [p.1, p.2] ∧ W.cell? ⟨g, o, none⟩ = some (.int .i64 p.1) ∧ W.cell? ⟨g, o + 1, none⟩ = some (.int .i64 p.2) := by
  obtain ⟨vs, ho, hi⟩ := h
  have hl : vs.length = L.length := by have := ho.1; rw [prs_len] at this; omega
  rcases ho.2 with ⟨rfl, hn⟩ | ⟨b, cap, cur, rfl, hg, hh, hnc, hcm, hcs, ht⟩
  · rw [prs_len] at hn; omega
  · refine ⟨b, cap, by rw [prs_len], (Array.getElem?_eq_some_iff.1 hh).1, ?_⟩
    obtain ⟨p, hp⟩ : ∃ p, L[k]? = some p := ⟨_, List.getElem?_eq_getElem hk⟩
    have hx := List.getElem?_eq_getElem (l := vs) (show k < vs.length by omega)
    have i1 := hi k _ [p.1, p.2] hx (by simp [prs, hp])
    have hc := ho.cells (g := b) rfl k _ hx
    rw [show (⟨b, 0, none⟩ : Addr).add k = ⟨b, k, none⟩ from by unfold Addr.add; split <;> simp_all] at hc
    obtain ⟨a, c, e1, e2, e3, e4⟩ := i1
    rcases e4 with e4 | ⟨g, o, cs, rfl, hh', hcc⟩
    · cases e4
    · rw [e1] at hc
      refine ⟨p, g, o, c, hp, (Array.getElem?_eq_some_iff.1 hh').1, hc, ⟨_, c, rfl, e2, e3, .inr ⟨g, o, cs, rfl, hh', hcc⟩⟩, ?_, ?_⟩
      · simp [World.cell?, hh']; have := hcc 0 (by simp); simpa using this
      · simp [World.cell?, hh']; have := hcc 1 (by simp); simpa using this
theorem Own2.keep {W W' : World} {B B' s n : Nat} {e : TypeId} {v v' : Value} {LL : List (List Int)} {xs : List Value} (h : Own2 W B v LL) (hr : W.ownsRow B' e s v' n xs) (he : e ≠ 3) (hne : v.ownBlock = none ∨ v.ownBlock ≠ v'.ownBlock) (g : W.grownBy W' v'.ownBlock) : Own2 W' B v LL := by
  obtain ⟨vs, ho, hi⟩ := h
  exact ⟨vs, ho.kept g hne, fun j x xs h1 h2 => (hi j x xs h1 h2).apart hr he g⟩

/-- Where pairs are gone through: the starts are laid, pairs and arrows come. -/
structure PC (X W : World) (bm : Nat) (ev : Int) (v2 v13 v16 : Value) (n : Nat) (s : BS) : Prop where
  blk : Blk W bm 25 (bcells ev v2)
  kp : Kp bm X W
  st : InnB W v2 (rngI n)
  ps : Own2 W X.heap.size v13 (prs s.ps)
  ar : OwnA W X.heap.size v16 s.ar
theorem PB.pc {X W : World} {bm n : Nat} {ev : Int} {v2 v13 : Value} {P : List (Int × Int)} (h : PB X W bm ev v2 v13 n P) : PC X W bm ev v2 v13 (.slice none 0 0) n ⟨P, []⟩ := by
  refine ⟨h.blk, h.kp, own_innB h.st (rngI_len n), ?_, ownA_nil _ _⟩
  obtain ⟨vs, ho, hi⟩ := h.ps
  refine ⟨vs, by rw [prs_len]; exact ho, fun j x xs h1 h2 => ?_⟩
  obtain ⟨p, hp, rfl⟩ := prs_get h2
  exact (hi j x p h1 hp).1
theorem Kp.below {b : Nat} {X W W' : World} (h : Kp b X W) (hb : Below W.heap.size W W') : Kp b X W' :=
  ⟨Nat.le_trans h.size hb.size, fun k hk hne => (hb.block k (Nat.lt_of_lt_of_le hk h.size)).trans (h.same k hk hne)⟩
theorem PC.below {X W W' : World} {bm n : Nat} {ev : Int} {v2 v13 v16 : Value} {s : BS} (h : PC X W bm ev v2 v13 v16 n s) (hb : Below W.heap.size W W') : PC X W' bm ev v2 v13 v16 n s :=
  ⟨h.blk.below hb h.blk.lt, h.kp.below hb, h.st.below hb, h.ps.below hb, h.ar.kept hb (Nat.le_refl _)⟩
theorem PC.alloc {X W : World} {bm n : Nat} {ev : Int} {v2 v13 v16 : Value} {s : BS} (h : PC X W bm ev v2 v13 v16 n s) (o : Obj) : PC X (W.alloc o) bm ev v2 v13 v16 n s := h.below ((Below.refl _ _).alloc (Nat.le_refl _) o)
theorem PC.ps1 {X W W1 : World} {bm n : Nat} {ev : Int} {v2 v13 v13' v16 x : Value} {s : BS} {p : Int × Int} {vs : List Value} (h : PC X W bm ev v2 v13 v16 n s) (hbm : bm < X.heap.size)
    (ho : W.ownsRow X.heap.size 22 1 v13 (prs s.ps).length vs) (hi : ∀ (j : Nat) (x : Value) (xs : List Int), vs[j]? = some x → (prs s.ps)[j]? = some xs → InnB W x xs) (hx : InnB W x [p.1, p.2])
    (o1 : W1.ownsRow X.heap.size 22 1 v13' ((prs s.ps).length + 1) (vs ++ [x])) (g : W.grownBy W1 v13.ownBlock) : PC X W1 bm ev v2 v13' v16 n ⟨s.ps ++ [p], s.ar⟩ := by
  have hr : ∀ k, v13.ownBlock = some k → X.heap.size ≤ k := fun k hk => (ho.lt k hk).1
  refine ⟨(g.block bm h.blk.lt (fun e => by have := hr bm e.symm; omega)).trans h.blk, h.kp.grown g hr, h.st.apart ho (by decide) g, ?_, World.ownsRow.kept h.ar g (own_apart h.ar ho (by decide))⟩
  show Own2 _ _ _ (prs (s.ps ++ [p]))
  rw [prs_snoc]
  exact Own2.snoc ho hi hx o1 g
theorem PC.ar1 {X W W1 : World} {bm n : Nat} {ev : Int} {v2 v13 v16 v16' : Value} {s : BS} {a : Arr} (h : PC X W bm ev v2 v13 v16 n s) (hbm : bm < X.heap.size)
    (o1 : OwnA W1 X.heap.size v16' (s.ar ++ [a])) (g : W.grownBy W1 v16.ownBlock) : PC X W1 bm ev v2 v13 v16' n ⟨s.ps, s.ar ++ [a]⟩ := by
  have hr : ∀ k, v16.ownBlock = some k → X.heap.size ≤ k := fun k hk => (World.ownsRow.lt h.ar k hk).1
  obtain ⟨vs, ho, hi⟩ := h.ps
  exact ⟨(g.block bm h.blk.lt (fun e => by have := hr bm e.symm; omega)).trans h.blk, h.kp.grown g hr, h.st.apart h.ar (by decide) g, Own2.keep ⟨vs, ho, hi⟩ h.ar (by decide) (own_apart ho h.ar (by decide)) g, o1⟩
/-- The pairs that are led to, apart from the pairs found. -/
structure LQ (W : World) (v13 v21 : Value) (L : List (Int × Int)) : Prop where
  own : Own2 W 0 v21 (prs L)
  ne : v21.ownBlock = none ∨ v21.ownBlock ≠ v13.ownBlock
theorem LQ.below {W W' : World} {v13 v21 : Value} {L : List (Int × Int)} (h : LQ W v13 v21 L) (hb : Below W.heap.size W W') : LQ W' v13 v21 L := ⟨h.own.below hb, h.ne⟩
theorem LQ.ps1 {W W1 : World} {B n : Nat} {v13 v13' v21 : Value} {L : List (Int × Int)} {vs : List Value} (h : LQ W v13 v21 L) (ho : W.ownsRow B 22 1 v13 n vs) (g : W.grownBy W1 v13.ownBlock) (hb : v13'.ownBlock = v13.ownBlock ∨ v13'.ownBlock = some W.heap.size) : LQ W1 v13' v21 L := by
  refine ⟨h.own.keep ho (by decide) h.ne g, ?_⟩
  rcases h.ne with h1 | h1
  · exact .inl h1
  · rcases hb with hb | hb
    · exact .inr (by rw [hb]; exact h1)
    · refine .inr fun e => ?_
      obtain ⟨ws, ho2, -⟩ := h.own
      have := (ho2.lt W.heap.size (e.trans hb)).2
      omega
theorem LQ.ar1 {W W1 : World} {B : Nat} {v13 v16 v21 : Value} {L : List (Int × Int)} {A : List Arr} (h : LQ W v13 v21 L) (ho : OwnA W B v16 A) (g : W.grownBy W1 v16.ownBlock) : LQ W1 v13 v21 L := by
  obtain ⟨ws, ho2, hi2⟩ := h.own
  exact ⟨Own2.keep ⟨ws, ho2, hi2⟩ ho (by decide) (own_apart ho2 ho (by decide)) g, h.ne⟩

end Go.Proofs.YtcbdjjkebpncmaaDoor
namespace Go.Proofs.YtcbdjjkebpncmaaDoor
open Go.RowKit
set_option linter.unusedVariables false

theorem Kp.trans {b : Nat} {X Y W : World} (h : Kp b X Y) (k : Kp b Y W) : Kp b X W :=
  ⟨Nat.le_trans h.size k.size, fun j hj hne => (k.same j (Nat.lt_of_lt_of_le hj h.size) hne).trans (h.same j hj hne)⟩
theorem InnB.kp {Y W : World} {v : Value} {xs : List Int} {b : Nat} {t : TypeId} {cs : Array Value} (h : InnB Y v xs) (hk : Kp b Y W) (hB : Blk Y b t cs) (ht : t ≠ 3) : InnB W v xs :=
  h.kept fun g cs' hg => hk.same g (Array.getElem?_eq_some_iff.1 hg).1 (by
    rintro rfl
    rw [show Y.heap[g]? = _ from hB] at hg; cases hg; exact ht rfl)
theorem Own2.kp {Y W : World} {B b : Nat} {v : Value} {LL : List (List Int)} {t : TypeId} {cs : Array Value} (h : Own2 Y B v LL) (hk : Kp b Y W) (hB : Blk Y b t cs) (ht : t ≠ 3) (ht2 : t ≠ 22) : Own2 W B v LL := by
  obtain ⟨vs, ho, hi⟩ := h
  refine ⟨vs, ⟨ho.1, ?_⟩, fun j x xs h1 h2 => (hi j x xs h1 h2).kp hk hB ht⟩
  rcases ho.2 with hn | ⟨g, cap, cur, rfl, hg, hgg, rest⟩
  · exact .inl hn
  · refine .inr ⟨g, cap, cur, rfl, hg, (hk.same g (Array.getElem?_eq_some_iff.1 hgg).1 ?_).trans hgg, rest⟩
    rintro rfl
    rw [show Y.heap[g]? = _ from hB] at hgg; cases hgg; exact ht2 rfl
theorem Kp.one {b j : Nat} {W : World} (v : Value) : Kp b W (W.setCell ⟨b, j, none⟩ v) := (Kp.refl b W).set j v
theorem Kp.set5 {b : Nat} {W : World} (v0 v1 v2 v3 v4 : Value) : Kp b W (((((W.setCell ⟨b, 0, none⟩ v0).setCell ⟨b, 1, none⟩ v1).setCell ⟨b, 2, none⟩ v2).setCell ⟨b, 3, none⟩ v3).setCell ⟨b, 4, none⟩ v4) :=
  (((((Kp.refl b W).set 0 v0).set 1 v1).set 2 v2).set 3 v3).set 4 v4
theorem AtXA.kp {Y W : World} {g : Nat} {a : Option Addr} {ars : List Arr} (h : AtXA Y g a ars) (hk : Kp g Y W) : AtA W a ars := by
  rcases h with h | ⟨b, off, h1, hne, h2, h3⟩
  · exact .inl h
  · refine .inr ⟨b, off, h1, Nat.lt_of_lt_of_le h2 hk.size, fun i hi => ?_⟩
    have e : ∀ q, W.cell? ⟨b, q, none⟩ = Y.cell? ⟨b, q, none⟩ := fun q => World.cell?_of_block (w := Y) (hk.same b h2 hne)
    rw [e, e, e]; exact h3 i hi
theorem Own.kp {Y W : World} {B b : Nat} {v : Value} {xs : List Int} (h : Own Y B v xs) (hk : Kp b Y W) (hb : b < B) : Own W B v xs := by
  refine ⟨h.1, ?_⟩
  rcases h.2 with hn | ⟨g, cap, cur, rfl, hg, hgg, rest⟩
  · exact .inl hn
  · exact .inr ⟨g, cap, cur, rfl, hg, (hk.same g (Array.getElem?_eq_some_iff.1 hgg).1 (by omega)).trans hgg, rest⟩

/-- Where ends are laid. -/
structure PD (w Y W : World) (bm : Nat) (st ev : Int) (v2 v3 v4 : Value) (E : List Int) : Prop where
  blk : Blk W bm 25 #[.int .i64 st, .int .i64 ev, v2, v3, v4]
  kp : Kp bm Y W
  own : Own W Y.heap.size v4 E
  bel : Below w.heap.size w W
theorem PD.drewN {w Y W : World} {bm : Nat} {st ev : Int} {v2 v3 v4 : Value} {E : List Int} (h : PD w Y W bm st ev v2 v3 v4 E) : PD w Y W.drew bm st ev v2 v3 v4 E := ⟨h.blk.drew, ⟨h.kp.size, h.kp.same⟩, h.own, h.bel.drew⟩
theorem PD.drewNn {w Y W : World} {bm : Nat} {st ev : Int} {v2 v3 v4 : Value} {E : List Int} (h : PD w Y W bm st ev v2 v3 v4 E) (n : Nat) : PD w Y (W.drewN n) bm st ev v2 v3 v4 E := ⟨h.blk, ⟨h.kp.size, h.kp.same⟩, h.own, below_drewN h.bel n⟩
theorem PD.one {w Y W W1 : World} {bm : Nat} {st ev x : Int} {v2 v3 v4 v4' : Value} {E : List Int} {o : Obj} (h : PD w Y W bm st ev v2 v3 v4 E) (hlo : w.heap.size ≤ bm) (hbm : bm < Y.heap.size)
    (o1 : W1.ownsRow Y.heap.size 3 1 v4' (E.length + 1) (E.map (Value.int .i64) ++ [.int .i64 x])) (g : (W.alloc o).grownBy W1 v4.ownBlock) :
    Blk W1 bm 25 #[.int .i64 st, .int .i64 ev, v2, v3, v4] ∧ PD w Y (W1.setCell ⟨bm, 4, none⟩ v4') bm st ev v2 v3 v4' (E ++ [x]) := by
  have hr : ∀ k, v4.ownBlock = some k → Y.heap.size ≤ k := fun k hk => (World.ownsRow.lt h.own k hk).1
  have b1 : Blk W1 bm 25 #[.int .i64 st, .int .i64 ev, v2, v3, v4] := (g.block bm (h.blk.alloc o).lt (fun e => by have := hr bm e.symm; omega)).trans (h.blk.alloc o)
  refine ⟨b1, b1.set 4 v4', ((h.kp.alloc o).grown g hr).set 4 v4', ?_, ?_⟩
  · unfold Own
    rw [List.length_append, List.map_append]
    exact ownsRow_set o1 hbm v4'
  · exact ((h.bel.alloc h.bel.size o).grown g (by simp; have := h.bel.size; omega) (fun j hj => Nat.le_trans (Nat.le_trans hlo (Nat.le_of_lt hbm)) (hr j hj))).setCell (p := ⟨bm, 4, none⟩) hlo v4'

theorem endsP_succ {a b : Mach} {L : List (Int × Int)} {n : Nat} {p : Int × Int} (hp : Hid (L[n]? = some p)) : endsP a b L (n + 1) = if (hasB a.ends p.1 && hasB b.ends p.2) = true then endsP a b L n ++ [(n : Int)] else endsP a b L n := by
  unfold endsP
  rw [rngI_succ, List.filter_append]
  have e : (L[((n : Int)).toNat]?.getD (0, 0)) = p := by rw [Int.toNat_natCast, hp.out]; rfl
  by_cases c : (hasB a.ends p.1 && hasB b.ends p.2) = true
  · rw [if_pos c]
    congr 1
    simp only [List.filter_cons, e, c, if_true, List.filter_nil]
  · rw [if_neg c]
    simp only [List.filter_cons, e, c, Bool.false_eq_true, if_false, List.filter_nil, List.append_nil]
theorem endsP_zero (a b : Mach) (L : List (Int × Int)) : endsP a b L 0 = [] := rfl
theorem endsP_len (a b : Mach) (L : List (Int × Int)) (n : Nat) : (endsP a b L n).length ≤ n := by
  unfold endsP
  exact Nat.le_trans (List.length_filter_le _ _) (by rw [rngI_len]; exact Nat.le_refl _)

end Go.Proofs.YtcbdjjkebpncmaaDoor
namespace Go.Proofs.YtcbdjjkebpncmaaDoor
open Go.RowKit
set_option linter.unusedVariables false

/-- What Beside leaves where something is wrong. -/
def BesErr (c : Int) (w : World) (e : Ending) (w' : World) : Prop := e = .returned (.tuple #[mval m0 ml0, .slice none 0 0, .int .i64 c]) ∧ Below w.heap.size w w'

/-- What Beside leaves where nothing is wrong with what comes in. -/
def BesGives (w : World) (a b : Mach) (ofA ofB : List Int) (e : Ending) (w' : World) : Prop :=
  match besideS a b ofA ofB with
  | none => BesErr 1 w e w'
  | some s => ∃ L v, e = .returned (.tuple #[mval (besideM a b s) L, v, .int .i64 0]) ∧ MAt w' (besideM a b s) L ∧ Own2 w' w.heap.size v (prs s.ps) ∧ Below w.heap.size w w'
theorem bGo_big {a b : Mach} {ofA ofB : List Int} {f k : Nat} {s : BS} {p : Int × Int} (hp : s.ps[k]? = some p) (hB : bBig (bEvs a b ofA ofB k p s a.ev.toNat) = true) (hf : 0 < f) : bGo a b ofA ofB f k s = none := by
  obtain ⟨g, rfl⟩ : ∃ g, f = g + 1 := ⟨f - 1, by omega⟩
  have hk := (List.getElem?_eq_some_iff.1 hp).1
  have e : bPair a b ofA ofB s k = bEvs a b ofA ofB k p s a.ev.toNat := by unfold bPair; rw [hp]; rfl
  unfold bGo
  rw [if_pos hk, e, if_pos hB]
theorem bGo_next {a b : Mach} {ofA ofB : List Int} {f k : Nat} {s : BS} {p : Int × Int} (hp : s.ps[k]? = some p) (hB : bBig (bEvs a b ofA ofB k p s a.ev.toNat) = false) (hf : 0 < f) : bGo a b ofA ofB f k s = bGo a b ofA ofB (f - 1) (k + 1) (bEvs a b ofA ofB k p s a.ev.toNat) := by
  obtain ⟨g, rfl⟩ : ∃ g, f = g + 1 := ⟨f - 1, by omega⟩
  have hk := (List.getElem?_eq_some_iff.1 hp).1
  have e : bPair a b ofA ofB s k = bEvs a b ofA ofB k p s a.ev.toNat := by unfold bPair; rw [hp]; rfl
  rw [bGo, if_pos hk, e, if_neg (by rw [hB]; simp)]
  rfl
theorem bGo_end {a b : Mach} {ofA ofB : List Int} {f k : Nat} {s : BS} (hk : ¬ k < s.ps.length) : bGo a b ofA ofB f k s = some s := by
  cases f with
  | zero => rfl
  | succ g => rw [bGo, if_neg hk]
theorem own_form {W : World} {B s n : Nat} {e : TypeId} {v : Value} {xs : List Value} (h : W.ownsRow B e s v n xs) : ∃ a c, v = .slice a n c := by
  rcases h.2 with ⟨rfl, rfl⟩ | ⟨g, cap, cur, rfl, -⟩
  · exact ⟨none, 0, rfl⟩
  · exact ⟨_, cap, rfl⟩

/-- What Beside leaves: the code of what is wrong, or the machine of both and its pairs. -/
def BesAll (w : World) (a b : Mach) (ofA ofB : List Int) (e : Ending) (w' : World) : Prop :=
  if mayB a = false ∨ mayB b = false then BesErr 2 w e w'
  else if ¬ a.ev = b.ev then BesErr 3 w e w'
  else if rowB a.ev ofA = false ∨ rowB a.ev ofB = false then BesErr 2 w e w'
  else BesGives w a b ofA ofB e w'

end Go.Proofs.YtcbdjjkebpncmaaDoor
namespace Go.Proofs.YtcbdjjkebpncmaaDoor
open Go.RowKit
set_option linter.unusedVariables false

/-! The map. -/
theorem laidOut : laidOutB Tryd.prog = true := by kernel_rfl
theorem rowPair : (114 : TypeId) < Tryd.prog.types.size := of_decide_eq_true (by kernel_rfl)
theorem widePair : (match Tryd.prog.underlying 114 with | some (.array _ _) | some (.struct _) => true | _ => false) = true := by kernel_rfl
set_option maxRecDepth 100000 in
theorem lawPair : WideMaps.KeyLaw Tryd.prog 114 := deep_law_laid laidOut (m := 3) (by omega) rowPair (by kernel_rfl) widePair
abbrev pval (p : Int × Int) : Value := .agg #[.int .i64 p.1, .int .i64 p.2]
set_option maxRecDepth 100000 in
theorem keyPair (p : Int × Int) (h1 : (Lit.int .i64 p.1).wf = true) (h2 : (Lit.int .i64 p.2).wf = true) : ∃ l, keyOf Tryd.prog 114 (pval p) = some l := by
  have hk : Tryd.prog.keyType 114 = true := by kernel_rfl
  have hc : Tryd.prog.cellsOf 114 = 2 := by kernel_rfl
  have hci : Tryd.prog.cellsOf 3 = 1 := by kernel_rfl
  have hs : ∃ m, Tryd.prog.types.size = m + 1 := ⟨_, (Nat.succ_pred_eq_of_pos (Nat.lt_of_le_of_lt (Nat.zero_le _) rowPair)).symm⟩
  obtain ⟨m, hm⟩ := hs
  unfold keyOf
  simp only [Tryd.underlying114]
  rw [if_pos (by simp [hk, Value.formed, Tryd.underlying114, hc]), hm]
  unfold Program.keyLits
  simp only [Tryd.underlying114, Value.cells]
  simp [hc, hci, Program.keyLits, Tryd.underlying3, h1, h2]

def entP (k : Nat) (p : Int × Int) : MapEntry := { key := pval p, val := .int .i64 k, born := k }
def entsP (L : List (Int × Int)) : Array MapEntry := (L.mapIdx entP).toArray
theorem entsP_snoc (L : List (Int × Int)) (p : Int × Int) : entsP (L ++ [p]) = (entsP L).push (entP L.length p) := by
  unfold entsP; rw [List.mapIdx_concat]; simp
theorem wf_state {x : Int} (h : 0 ≤ x ∧ x < 256) : (Lit.int .i64 x).wf = true := WalkArith.wf_i64 (by omega)
/-- Pairs of states. -/
abbrev StP (p : Int × Int) : Prop := (0 ≤ p.1 ∧ p.1 < 256) ∧ (0 ≤ p.2 ∧ p.2 < 256)
theorem keyPair' {p : Int × Int} (h : StP p) : ∃ l, keyOf Tryd.prog 114 (pval p) = some l := keyPair p (wf_state h.1) (wf_state h.2)
theorem pval_inj {p q : Int × Int} (h : pval p = pval q) : p = q := by
  simp [pval] at h; exact Prod.ext h.1 h.2
theorem find_pair {L : List (Int × Int)} (hL : ∀ p ∈ L, StP p) (hnd : L.Nodup) {p : Int × Int} (hp : StP p) (w : World) :
    (Instr.findKey 114 (pval p) (entsP L).toList).run Tryd.prog w = .ok (if findP L p.1 p.2 = L.length then none else some (findP L p.1 p.2, .int .i64 (findP L p.1 p.2 : Nat))) w := by
  obtain ⟨l, hl⟩ := keyPair' hp
  have hget : ∀ j e, (entsP L).toList[j]? = some e → ∃ q, L[j]? = some q ∧ e = entP j q := by
    intro j e h
    simp only [entsP] at h
    rw [List.getElem?_mapIdx] at h
    cases hq : L[j]? with
    | none => rw [hq] at h; cases h
    | some q => rw [hq] at h; exact ⟨q, rfl, (Option.some.inj h).symm⟩
  have hes : ∀ e ∈ (entsP L).toList, ∃ l, keyOf Tryd.prog 114 e.key = some l := by
    intro e he
    obtain ⟨j, hj⟩ := List.mem_iff_getElem?.1 he
    obtain ⟨q, hq, rfl⟩ := hget j e hj
    exact keyPair' (hL q (List.mem_of_getElem? hq))
  rcases lawPair.find w hl (entsP L).toList hes with ⟨h1, h2⟩ | ⟨j, e, h1, h2, h3⟩
  · have hn : findP L p.1 p.2 = L.length := findP_new.2 fun hm => by
      obtain ⟨j, hj⟩ := List.mem_iff_getElem?.1 hm
      refine h2 (entP j p) (List.mem_of_getElem? (i := j) ?_) rfl
      simp only [entsP]
      rw [List.getElem?_mapIdx, hj]; rfl
    rw [h1, if_pos hn]
  · obtain ⟨q, hq, rfl⟩ := hget j e h2
    have : q = p := pval_inj h3
    subst this
    have hj : findP L q.1 q.2 = j := findP_at hnd hq
    have hlt := (List.getElem?_eq_some_iff.1 hq).1
    rw [h1, hj, if_neg (by omega)]; rfl
theorem mapPair : Tryd.prog.underlying 68 = some (.map 114 3) := by kernel_rfl
theorem look_known {L : List (Int × Int)} (hL : ∀ p ∈ L, StP p) (hnd : L.Nodup) {p : Int × Int} (hp : StP p) {w : World} {r c : Nat} (hm : w.heap[r]? = some (.map (entsP L) c)) (h : ¬ findP L p.1 p.2 = L.length) :
    (Instr.lookup 68 (.map (some r)) (pval p) true).run Tryd.prog w = .ok (.tuple #[.int .i64 (findP L p.1 p.2 : Nat), .bool true]) w := by
  obtain ⟨l, hl⟩ := keyPair' hp
  have h1 := find_pair hL hnd hp w
  rw [if_neg h] at h1
  simp [Instr.lookup, run_underlying mapPair, MapKept.run_getObj_map hm, lawPair.check w _ hl, h1, Result.andThen]
theorem look_new {L : List (Int × Int)} (hL : ∀ p ∈ L, StP p) (hnd : L.Nodup) {p : Int × Int} (hp : StP p) {w : World} {r c : Nat} (hm : w.heap[r]? = some (.map (entsP L) c)) (h : findP L p.1 p.2 = L.length) :
    (Instr.lookup 68 (.map (some r)) (pval p) true).run Tryd.prog w = .ok (.tuple #[.int .i64 0, .bool false]) w := by
  obtain ⟨l, hl⟩ := keyPair' hp
  have h1 := find_pair hL hnd hp w
  rw [if_pos h] at h1
  simp [Instr.lookup, run_underlying mapPair, MapKept.run_getObj_map hm, lawPair.check w _ hl, h1, Result.andThen]
theorem upd_new {L : List (Int × Int)} (hL : ∀ p ∈ L, StP p) (hnd : L.Nodup) {p : Int × Int} (hp : StP p) {w : World} {r : Nat} (hm : w.heap[r]? = some (.map (entsP L) L.length)) (h : findP L p.1 p.2 = L.length) :
    (Instr.mapUpdate 68 (.map (some r)) (pval p) (.int .i64 (L.length : Nat))).run Tryd.prog w = .ok () (setMap w r (.map (entsP (L ++ [p])) (L ++ [p]).length)) := by
  obtain ⟨l, hl⟩ := keyPair' hp
  have h1 := find_pair hL hnd hp w
  rw [if_pos h] at h1
  simp [Instr.mapUpdate, run_underlying mapPair, MapKept.run_getObj_map hm, lawPair.check w _ hl, h1, MapKept.run_setObj_map _ hm, Result.andThen, setMap, entsP_snoc, entP]

end Go.Proofs.YtcbdjjkebpncmaaDoor
namespace Go.Proofs.YtcbdjjkebpncmaaDoor
open Go.RowKit
set_option linter.unusedVariables false

/-- Nothing is turned but the blocks of F; and F' are blocks of F, or new ones. -/
structure Turn (F F' : Nat → Prop) (W W' : World) : Prop where
  os : W'.os = W.os
  tape : W'.tape = W.tape
  output : W'.output = W.output
  size : W.heap.size ≤ W'.heap.size
  block : ∀ j, j < W.heap.size → ¬ F j → W'.heap[j]? = W.heap[j]?
  fp : ∀ j, F' j → F j ∨ W.heap.size ≤ j
theorem Turn.refl (F : Nat → Prop) (W : World) : Turn F F W W := ⟨rfl, rfl, rfl, Nat.le_refl _, fun _ _ _ => rfl, fun _ h => .inl h⟩
theorem Turn.trans {F F' F'' : Nat → Prop} {W W' W'' : World} (h : Turn F F' W W') (k : Turn F' F'' W' W'') : Turn F F'' W W'' :=
  ⟨k.os.trans h.os, k.tape.trans h.tape, k.output.trans h.output, Nat.le_trans h.size k.size, fun j hj hn => (k.block j (Nat.lt_of_lt_of_le hj h.size) (fun hF => by
    rcases h.fp j hF with h1 | h1
    · exact hn h1
    · omega)).trans (h.block j hj hn), fun j hj => by
    rcases k.fp j hj with h1 | h1
    · exact h.fp j h1
    · exact .inr (Nat.le_trans h.size h1)⟩
theorem Turn.of_below {F : Nat → Prop} {W W' : World} (h : Below W.heap.size W W') : Turn F F W W' := ⟨h.os, h.tape, h.output, h.size, fun j hj _ => h.block j hj, fun _ h => .inl h⟩
theorem Turn.below {F F' : Nat → Prop} {n : Nat} {W W' : World} (h : Turn F F' W W') (hF : ∀ j, F j → n ≤ j) (hn : n ≤ W.heap.size) : Below n W W' := ⟨h.os, h.tape, h.output, h.size, fun j hj => h.block j (by omega) (fun hF' => by have := hF j hF'; omega)⟩
theorem Turn.alloc {F F' : Nat → Prop} {W W' : World} (h : Turn F F' W W') (o : Obj) : Turn F F' W (W'.alloc o) := h.trans (Turn.of_below ((Below.refl _ _).alloc (Nat.le_refl _) o))
theorem Turn.drew {F F' : Nat → Prop} {W W' : World} (h : Turn F F' W W') : Turn F F' W W'.drew := h.trans (Turn.of_below (Below.refl _ _).drew)
theorem Turn.set {F F' : Nat → Prop} {W W' : World} (h : Turn F F' W W') {b j : Nat} (hb : F' b) (v : Value) : Turn F F' W (W'.setCell ⟨b, j, none⟩ v) :=
  h.trans ⟨rfl, rfl, rfl, by simp [World.setCell], fun k _ hn => Below.heap_setCell _ _ _ _ (fun e => hn (by rw [e]; exact hb)), fun _ h => .inl h⟩
theorem Turn.map {F F' : Nat → Prop} {W W' : World} (h : Turn F F' W W') {b : Nat} (hb : F' b) (o : Obj) : Turn F F' W (setMap W' b o) :=
  h.trans ⟨rfl, rfl, rfl, by rw [size_setMap]; exact Nat.le_refl _, fun k _ hn => heap_setMap_ne _ _ _ (fun e => hn (by rw [e]; exact hb)), fun _ h => .inl h⟩
theorem Turn.grown {F F' F'' : Nat → Prop} {W W' W'' : World} {row : Option Nat} (h : Turn F F' W W') (g : W'.grownBy W'' row) (hr : ∀ k, row = some k → F' k) (hf : ∀ j, F'' j → F' j ∨ W'.heap.size ≤ j) : Turn F F'' W W'' :=
  h.trans ⟨g.os, g.tape, g.output, g.size, fun j hj hn => g.block j hj (fun e => hn (hr j e.symm)), hf⟩


/-! Rows of pairs. -/
theorem Tryd.infoPair : (Tryd.prog.info? 114).map (fun i => (i.zero, i.size, i.bytes)) = some (some (.agg #[.int .i64 0, .int .i64 0]), 2, 16) := by kernel_rfl
def pflat : List (Int × Int) → List Value
  | [] => []
  | p :: r => .int .i64 p.1 :: .int .i64 p.2 :: pflat r
theorem pflat_len : ∀ L : List (Int × Int), (pflat L).length = L.length * 2
  | [] => rfl
  | p :: r => by simp only [pflat, List.length_cons, pflat_len r]; omega
theorem pflat_append : ∀ L M : List (Int × Int), pflat (L ++ M) = pflat L ++ pflat M
  | [], M => rfl
  | a :: r, M => by simp only [List.cons_append, pflat, pflat_append r M]
theorem pflat_at : ∀ {L : List (Int × Int)} {k : Nat} {p : Int × Int}, L[k]? = some p → (pflat L)[k * 2]? = some (.int .i64 p.1) ∧ (pflat L)[k * 2 + 1]? = some (.int .i64 p.2)
  | [], k, p, h => by simp at h
  | a :: r, 0, p, h => by simp at h; subst h; simp [pflat]
  | a :: r, k + 1, p, h => by
    have := pflat_at (L := r) (k := k) (p := p) (by simpa using h)
    rw [show (k + 1) * 2 = k * 2 + 1 + 1 by omega]
    simpa [pflat] using this
abbrev OwnP (W : World) (B : Nat) (v : Value) (P : List (Int × Int)) : Prop := W.ownsRow B 114 2 v P.length (pflat P)
theorem OwnP.cell {W : World} {B : Nat} {v : Value} {P : List (Int × Int)} (h : OwnP W B v P) {k : Nat} {p : Int × Int} (hk : P[k]? = some p) : ∃ g cap, v = .slice (some ⟨g, 0, none⟩) P.length cap ∧ B ≤ g ∧ g < W.heap.size ∧ W.cell? ⟨g, k * 2, none⟩ = some (.int .i64 p.1) ∧ W.cell? ⟨g, k * 2 + 1, none⟩ = some (.int .i64 p.2) := by
  rcases h.2 with ⟨rfl, hn⟩ | ⟨g, cap, cur, rfl, hg, hh, hnc, hcm, hcs, ht⟩
  · have := (List.getElem?_eq_some_iff.1 hk).1; omega
  · obtain ⟨h1, h2⟩ := pflat_at hk
    have c1 := h.cells (g := g) rfl _ _ h1
    have c2 := h.cells (g := g) rfl _ _ h2
    rw [addr0_add, Nat.zero_add] at c1 c2
    exact ⟨g, cap, rfl, hg, (Array.getElem?_eq_some_iff.1 hh).1, c1, c2⟩

abbrev fcells (st ev : Int) (vs va ve vp : Value) (br : Nat) : Array Value := #[.int .i64 st, .int .i64 ev, vs, va, ve, vp, .map (some br)]
/-- The finder in a world: its block bf, its map br, its rows made from block B on. -/
structure FD (B : Nat) (W : World) (bf br : Nat) (st ev : Int) (vs va ve vp : Value) (S : List Int) (A : List Arr) (E : List Int) (P : List (Int × Int)) : Prop where
  blk : Blk W bf 71 (fcells st ev vs va ve vp br)
  st : Own W B vs S
  ar : OwnA W B va A
  en : Own W B ve E
  ps : OwnP W B vp P
  mp : W.heap[br]? = some (.map (entsP P) P.length)
  ne : vs.ownBlock = none ∨ vs.ownBlock ≠ ve.ownBlock
  nd : P.Nodup
  cr : ∀ p ∈ P, StP p
  lof : B ≤ bf
  lor : B ≤ br
/-- Its blocks. -/
def FF (bf br : Nat) (vs va ve vp : Value) : Nat → Prop := fun j => j = bf ∨ j = br ∨ vs.ownBlock = some j ∨ va.ownBlock = some j ∨ ve.ownBlock = some j ∨ vp.ownBlock = some j
theorem FF.f (bf br : Nat) (vs va ve vp : Value) : FF bf br vs va ve vp bf := .inl rfl
theorem FF.r (bf br : Nat) (vs va ve vp : Value) : FF bf br vs va ve vp br := .inr (.inl rfl)
section
variable {B : Nat} {W W' : World} {bf br : Nat} {st ev : Int} {vs va ve vp : Value} {S : List Int} {A : List Arr} {E : List Int} {P : List (Int × Int)}
theorem FD.lt (h : FD B W bf br st ev vs va ve vp S A E P) : ∀ j, FF bf br vs va ve vp j → B ≤ j ∧ j < W.heap.size := by
  rintro j (rfl | rfl | hj | hj | hj | hj)
  · exact ⟨h.lof, h.blk.lt⟩
  · exact ⟨h.lor, (Array.getElem?_eq_some_iff.1 h.mp).1⟩
  · exact World.ownsRow.lt h.st j hj
  · exact World.ownsRow.lt h.ar j hj
  · exact World.ownsRow.lt h.en j hj
  · exact World.ownsRow.lt h.ps j hj
theorem FD.same (h : FD B W bf br st ev vs va ve vp S A E P) (hs : ∀ j, FF bf br vs va ve vp j → W'.heap[j]? = W.heap[j]?) : FD B W' bf br st ev vs va ve vp S A E P :=
  ⟨(hs bf (.inl rfl)).trans h.blk, own_same h.st (fun k hk => hs k (.inr (.inr (.inl hk)))), own_same h.ar (fun k hk => hs k (.inr (.inr (.inr (.inl hk))))), own_same h.en (fun k hk => hs k (.inr (.inr (.inr (.inr (.inl hk)))))), own_same h.ps (fun k hk => hs k (.inr (.inr (.inr (.inr (.inr hk)))))), (hs br (.inr (.inl rfl))).trans h.mp, h.ne, h.nd, h.cr, h.lof, h.lor⟩
theorem FD.below (h : FD B W bf br st ev vs va ve vp S A E P) (hb : Below W.heap.size W W') : FD B W' bf br st ev vs va ve vp S A E P := h.same fun j hj => hb.block j (h.lt j hj).2
theorem FD.alloc (h : FD B W bf br st ev vs va ve vp S A E P) (o : Obj) : FD B (W.alloc o) bf br st ev vs va ve vp S A E P := h.below ((Below.refl _ _).alloc (Nat.le_refl _) o)
theorem FD.drew (h : FD B W bf br st ev vs va ve vp S A E P) : FD B W.drew bf br st ev vs va ve vp S A E P := h.below (Below.refl _ _).drew
/-- The finder's block is no row's, nor is the map. -/
theorem FD.apart (h : FD B W bf br st ev vs va ve vp S A E P) : bf ≠ br ∧ (∀ v ∈ [vs, va, ve, vp], v.ownBlock ≠ some bf ∧ v.ownBlock ≠ some br) := by
  have hb : W.heap[bf]? = _ := h.blk
  have hm := h.mp
  refine ⟨fun e => (by rw [e, hm] at hb; cases hb), fun v hv => ?_⟩
  have key : ∀ {e : TypeId} {s n : Nat} {xs : List Value}, e ≠ 71 → W.ownsRow B e s v n xs → v.ownBlock ≠ some bf ∧ v.ownBlock ≠ some br := fun {e s n xs} he ho =>
    ⟨fun hk => (by obtain ⟨cs, hc⟩ := own_type ho hk; rw [hb] at hc; cases hc; exact he rfl), fun hk => (by obtain ⟨cs, hc⟩ := own_type ho hk; rw [hm] at hc; cases hc)⟩
  simp at hv
  rcases hv with rfl | rfl | rfl | rfl
  · exact key (by decide) h.st
  · exact key (by decide) h.ar
  · exact key (by decide) h.en
  · exact key (by decide) h.ps
/-- The rows' blocks are apart. -/
theorem FD.rows (h : FD B W bf br st ev vs va ve vp S A E P) : (vp.ownBlock = none ∨ (vp.ownBlock ≠ vs.ownBlock ∧ vp.ownBlock ≠ va.ownBlock ∧ vp.ownBlock ≠ ve.ownBlock)) ∧ (va.ownBlock = none ∨ (va.ownBlock ≠ vs.ownBlock ∧ va.ownBlock ≠ vp.ownBlock ∧ va.ownBlock ≠ ve.ownBlock)) := by
  refine ⟨?_, ?_⟩
  · rcases own_apart h.ps h.st (by decide) with h1 | h1
    · exact .inl h1
    rcases own_apart h.ps h.ar (by decide) with h2 | h2
    · exact .inl h2
    rcases own_apart h.ps h.en (by decide) with h3 | h3
    · exact .inl h3
    exact .inr ⟨h1, h2, h3⟩
  · rcases own_apart h.ar h.st (by decide) with h1 | h1
    · exact .inl h1
    rcases own_apart h.ar h.ps (by decide) with h2 | h2
    · exact .inl h2
    rcases own_apart h.ar h.en (by decide) with h3 | h3
    · exact .inl h3
    exact .inr ⟨h1, h2, h3⟩
theorem FD.cells (h : FD B W bf br st ev vs va ve vp S A E P) : W.cell? ⟨bf, 0, none⟩ = some (.int .i64 st) ∧ W.cell? ⟨bf, 1, none⟩ = some (.int .i64 ev) ∧ W.cell? ⟨bf, 2, none⟩ = some vs ∧ W.cell? ⟨bf, 3, none⟩ = some va ∧ W.cell? ⟨bf, 4, none⟩ = some ve ∧ W.cell? ⟨bf, 5, none⟩ = some vp ∧ W.cell? ⟨bf, 6, none⟩ = some (.map (some br)) :=
  ⟨h.blk.cell 0 rfl, h.blk.cell 1 rfl, h.blk.cell 2 rfl, h.blk.cell 3 rfl, h.blk.cell 4 rfl, h.blk.cell 5 rfl, h.blk.cell 6 rfl⟩
/-- One pair more: the map, the row, the count. -/
theorem FD.push {W1 W2 : World} {vp' : Value} {p : Int × Int} (h : FD B W bf br st ev vs va ve vp S A E P) (hb1 : Below W.heap.size W W1) (hn : findP P p.1 p.2 = P.length) (hp : StP p)
    {W3 : World} (hW3 : Below (setMap W1 br (.map (entsP (P ++ [p])) (P.length + 1))).heap.size (setMap W1 br (.map (entsP (P ++ [p])) (P.length + 1))) W3) (o1 : W2.ownsRow B 114 2 vp' (P.length + 1) (pflat P ++ [.int .i64 p.1, .int .i64 p.2])) (g : W3.grownBy W2 vp.ownBlock) (hb : vp'.ownBlock = vp.ownBlock ∨ vp'.ownBlock = some W3.heap.size) (st' : Int) :
    Blk W2 bf 71 (fcells st ev vs va ve vp br) ∧ FD B ((W2.setCell ⟨bf, 5, none⟩ vp').setCell ⟨bf, 0, none⟩ (.int .i64 st')) bf br st' ev vs va ve vp' S A E (P ++ [p]) ∧ Turn (FF bf br vs va ve vp) (FF bf br vs va ve vp') W ((W2.setCell ⟨bf, 5, none⟩ vp').setCell ⟨bf, 0, none⟩ (.int .i64 st')) := by
  have h1 := h.below hb1
  obtain ⟨a1, a2⟩ := h1.apart
  obtain ⟨r1, r2⟩ := h1.rows
  have a5 := a2 vp (by simp)
  -- what stays
  have keep : ∀ j, j < W1.heap.size → j ≠ br → vp.ownBlock ≠ some j → j ≠ bf → ((W2.setCell ⟨bf, 5, none⟩ vp').setCell ⟨bf, 0, none⟩ (.int .i64 st')).heap[j]? = W1.heap[j]? := by
    intro j hj h2 h3 h4
    rw [Below.heap_setCell _ _ _ _ h4, Below.heap_setCell _ _ _ _ h4, g.block j (Nat.lt_of_lt_of_le (by rw [size_setMap]; exact hj) hW3.size) (fun e => h3 e.symm), hW3.block j (by rw [size_setMap]; exact hj), heap_setMap_ne _ _ _ h2]
  have hbf2 : W2.heap[bf]? = W1.heap[bf]? := by
    rw [g.block bf (Nat.lt_of_lt_of_le (by rw [size_setMap]; exact h1.blk.lt) hW3.size) (fun e => a5.1 e.symm), hW3.block bf (by rw [size_setMap]; exact h1.blk.lt), heap_setMap_ne _ _ _ a1]
  have b2 : Blk W2 bf 71 (fcells st ev vs va ve vp br) := hbf2.trans h1.blk
  have hbr := (Array.getElem?_eq_some_iff.1 h1.mp).1
  have m2 : W2.heap[br]? = some (.map (entsP (P ++ [p])) (P.length + 1)) := by
    rw [g.block br (Nat.lt_of_lt_of_le (by rw [size_setMap]; exact hbr) hW3.size) (fun e => a5.2 e.symm), hW3.block br (by rw [size_setMap]; exact hbr), heap_setMap _ _ hbr]
  refine ⟨b2, ⟨(b2.set 5 vp').set 0 _, own_same h1.st (fun k hk => keep k (World.ownsRow.lt h1.st k hk).2 (fun e => (a2 vs (by simp)).2 (by rw [hk, e])) (fun e => ?_) (fun e => (a2 vs (by simp)).1 (by rw [hk, e]))), own_same h1.ar (fun k hk => keep k (World.ownsRow.lt h1.ar k hk).2 (fun e => (a2 va (by simp)).2 (by rw [hk, e])) (fun e => ?_) (fun e => (a2 va (by simp)).1 (by rw [hk, e]))), own_same h1.en (fun k hk => keep k (World.ownsRow.lt h1.en k hk).2 (fun e => (a2 ve (by simp)).2 (by rw [hk, e])) (fun e => ?_) (fun e => (a2 ve (by simp)).1 (by rw [hk, e]))), ?_, ?_, h.ne, ?_, ?_, h.lof, h.lor⟩, ?_⟩
  · rcases r1 with r1 | r1
    · rw [r1] at e; cases e
    · exact r1.1 (e.trans hk.symm)
  · rcases r1 with r1 | r1
    · rw [r1] at e; cases e
    · exact r1.2.1 (e.trans hk.symm)
  · rcases r1 with r1 | r1
    · rw [r1] at e; cases e
    · exact r1.2.2 (e.trans hk.symm)
  · have hbk : vp'.ownBlock ≠ some bf := by
      rcases hb with hb | hb
      · rw [hb]; exact a5.1
      · rw [hb]; intro e
        have e1 := Option.some.inj e
        have := Nat.lt_of_lt_of_le (show bf < (setMap W1 br (.map (entsP (P ++ [p])) (P.length + 1))).heap.size by rw [size_setMap]; exact h1.blk.lt) hW3.size
        omega
    show World.ownsRow _ _ _ _ _ _ _
    rw [List.length_append, pflat_append]
    exact own_same o1 (fun k hk => by rw [Below.heap_setCell _ _ _ _ (fun e => hbk (by rw [hk, e])), Below.heap_setCell _ _ _ _ (fun e => hbk (by rw [hk, e]))])
  · rw [Below.heap_setCell _ _ _ _ (Ne.symm a1), Below.heap_setCell _ _ _ _ (Ne.symm a1), List.length_append]; exact m2
  · rw [List.nodup_append]
    have hm := findP_new.1 hn
    exact ⟨h.nd, by simp, fun x hx y hy e => by simp at hy; subst hy; subst e; exact hm hx⟩
  · intro q hq
    rcases List.mem_append.1 hq with hq | hq
    · exact h.cr q hq
    · simp at hq; subst hq; exact hp
  · have t1 : Turn (FF bf br vs va ve vp) (FF bf br vs va ve vp) W W1 := Turn.of_below hb1
    have t2 := t1.map (FF.r bf br vs va ve vp) (.map (entsP (P ++ [p])) (P.length + 1))
    have t3 := t2.trans (Turn.of_below (F := FF bf br vs va ve vp) hW3)
    have t4 : Turn (FF bf br vs va ve vp) (FF bf br vs va ve vp') W W2 := t3.grown g (fun k hk => .inr (.inr (.inr (.inr (.inr hk))))) (fun j hj => by
      rcases hj with h | h | h | h | h | h
      · exact .inl (.inl h)
      · exact .inl (.inr (.inl h))
      · exact .inl (.inr (.inr (.inl h)))
      · exact .inl (.inr (.inr (.inr (.inl h))))
      · exact .inl (.inr (.inr (.inr (.inr (.inl h)))))
      · rcases hb with hb | hb
        · exact .inl (.inr (.inr (.inr (.inr (.inr (by rw [← hb]; exact h))))))
        · rw [hb] at h
          exact .inr (Nat.le_of_eq (Option.some.inj h)))
    exact (t4.set (FF.f bf br vs va ve vp') vp').set (FF.f bf br vs va ve vp') _
end

end Go.Proofs.YtcbdjjkebpncmaaDoor
