/-
  What is said of a slice of what is known (a row and a list each); the walk of jalousieref9.Has.
  The walk of jalousieref2.ahead.
-/
import Derived.Test.YtdhgabpoaicjoaaDoorG16
import Derived.Test.YtdhgabpoaicjoaaDoorG07
import Derived.Test.YtdhgabpoaicjoaaDoorG03
namespace Go.Proofs.YtdhgabpoaicjoaaDoor
open Go.RowKit
set_option linter.unusedVariables false

theorem Tryd.infoKnown : (Tryd.prog.info? 110).map (fun i => (i.zero, i.size, i.bytes)) = some (some (.agg #[.slice none 0 0, .slice none 0 0]), 2, 48) := by kernel_rfl

theorem cells_duo (W W' : World) (hW : W'.heap = W.heap) (t : TypeId) (x y : Value) : ∀ j u, ([x, y] : List Value)[j]? = some u → (W'.alloc (.cells #[x, y] t)).cell? ((⟨W.heap.size, 0, none⟩ : Addr).add j) = some u := by
  intro j u hu
  rw [addr0_add, Nat.zero_add, ← hW]
  exact (Blk.new W' t #[x, y]).cell j (by rw [← Array.getElem?_toList]; exact hu)
/-- What is known: a row, and a list that leads to it. -/
abbrev Kno := List Int × List Int
def kns : List Kno → List (List Int)
  | [] => []
  | p :: r => p.1 :: p.2 :: kns r
theorem kns_len : ∀ L : List Kno, (kns L).length = L.length * 2
  | [] => rfl
  | a :: r => by simp only [kns, List.length_cons, kns_len r]; omega
theorem kns_append : ∀ L M : List Kno, kns (L ++ M) = kns L ++ kns M
  | [], M => rfl
  | a :: r, M => by simp only [List.cons_append, kns, kns_append r M]
theorem kns_at : ∀ {L : List Kno} {k : Nat} {p : Kno}, L[k]? = some p → (kns L)[k * 2]? = some p.1 ∧ (kns L)[k * 2 + 1]? = some p.2
  | [], k, p, h => by simp at h
  | a :: r, 0, p, h => by
    have : a = p := by simpa using h
    subst this; simp [kns]
  | a :: r, k + 1, p, h => by
    have := kns_at (L := r) (k := k) (p := p) (by simpa using h)
    rw [show (k + 1) * 2 = k * 2 + 1 + 1 by omega]
    simpa [kns] using this
/-- Their cells. -/
def CellsK (w : World) (b off : Nat) (L : List Kno) : Prop := ∀ (k : Nat) (p : Kno), L[k]? = some p → ∃ xa xc za zc,
  w.cell? ⟨b, off + k * 2, none⟩ = some (.slice xa p.1.length xc) ∧ w.cell? ⟨b, off + k * 2 + 1, none⟩ = some (.slice za p.2.length zc) ∧
  At w xa p.1 ∧ p.1.length ≤ maxLen ∧ At w za p.2 ∧ p.2.length ≤ maxLen
theorem cellsK_below {w w' : World} {b off : Nat} {L : List Kno} (h : CellsK w b off L) (hb : Below w.heap.size w w') (hl : b < w.heap.size) : CellsK w' b off L := fun k x hx => by
  obtain ⟨xa, xc, za, zc, c1, c2, q1, q2, q3, q4⟩ := h k x hx
  exact ⟨xa, xc, za, zc, (hb.cell (p := ⟨b, off + k * 2, none⟩) hl).trans c1, (hb.cell (p := ⟨b, off + k * 2 + 1, none⟩) hl).trans c2, q1.below hb (Nat.le_refl _), q2, q3.below hb (Nat.le_refl _), q4⟩
theorem knownK_hit {L : List Kno} {k : Nat} {p : Kno} {x : List Int} (h : Hid (L[k]? = some p)) (h1 : Hid (sameB p.1 x = true)) : true = knownB L x := by
  have h1 : p.1 = x := by have := h1.out; simpa [sameB] using this
  exact ((knownB_iff _ _).2 ⟨p, List.mem_of_getElem? h.out, h1⟩).symm
/-- None of the first k is. -/
def noneK (L : List Kno) (k : Nat) (x : List Int) : Prop := ∀ (j : Nat) (p : Kno), j < k → L[j]? = some p → p.1 ≠ x
theorem noneK_succ {L : List Kno} {k : Nat} {p : Kno} {x : List Int} (h0 : Hid (noneK L k x)) (h : Hid (L[k]? = some p)) (h1 : Hid (sameB p.1 x = false)) : Hid (noneK L (k + 1) x) := fun j q hj hq => by
  by_cases e : j < k
  · exact h0.out j q e hq
  · have : j = k := by omega
    subst this
    rw [h.out] at hq
    have := Option.some.inj hq
    subst this
    intro e
    have := h1.out
    simp [sameB, e] at this
theorem noneK_end {L : List Kno} {k : Nat} {x : List Int} (h0 : Hid (noneK L k x)) (h : ¬ k < L.length) : false = knownB L x := by
  cases hk : knownB L x with
  | false => rfl
  | true =>
    obtain ⟨p, hp, e⟩ := (knownB_iff _ _).1 hk
    obtain ⟨i, hi⟩ := List.mem_iff_getElem?.1 hp
    exact absurd e (h0.out i p (Nat.lt_of_lt_of_le (List.getElem?_eq_some_iff.1 hi).1 (by omega)) hi)

set_option maxHeartbeats 2000000 in
theorem rhas_some (ba oa ca : Nat) (xa : Option Addr) (xc : Nat) (L : List Kno) (x : List Int) (w : World) (hl : L.length ≤ 9223372036854775807) (hca : Hid (CellsK w ba oa L)) (hx : Hid (At w xa x)) (hxl : Hid (x.length ≤ maxLen)) :
    Calls Tryd.prog 87 #[.slice (some ⟨ba, oa, none⟩) L.length ca, .slice xa x.length xc] w fun e w' => e = .returned (.bool (knownB L x)) ∧ ∃ q, w' = w.drewN q := by
  go_enter Tryd.func87, Tryd.ntmps87
  go_wp2
  go_loopw [5] (fun i wr => ∃ k q : Nat, k ≤ L.length ∧ i = .int .i64 k ∧ wr = w.drewN q ∧ Hid (noneK L k x)) (fun i _ => L.length - (intOf i).toNat)
  case atStart => exact ⟨0, 0, Nat.zero_le _, rfl, rfl, fun j p hj => by omega⟩
  case round =>
    obtain ⟨k, q, hk, rfl, rfl, he⟩ := hrel
    by_cases hlt : k < L.length
    · obtain ⟨p, HX⟩ : ∃ p, Hid (L[k]? = some p) := ⟨_, List.getElem?_eq_getElem hlt⟩
      obtain ⟨pa, pc, za, zc, c1, -, a1, l1, -, -⟩ := hca.out k p HX.out
      obtain ⟨V, HV⟩ : ∃ V, Hid (V = w.drewN q) := ⟨_, rfl⟩
      replace c1 : V.cell? ⟨ba, oa + k * 2, none⟩ = some (.slice pa p.1.length pc) := by rw [HV.out]; exact c1
      have KEY : Hid (Calls Tryd.prog 19 #[.slice pa p.1.length pc, .slice xa x.length xc] V fun e w' => e = .returned (.bool (sameB p.1 x)) ∧ ∃ r, w' = V.drewN r) := by
        rw [HV.out]; exact same_any pa xa pc xc p.1 x _ (At.drewN a1 q) (At.drewN hx.out q) l1 hxl.out
      rw [← HV.out]
      clear a1 l1
      go_wp2_with fail
      refine KEY.out.mono ?_
      rintro e V' ⟨rfl, r, rfl⟩
      have HVr : Hid (V.drewN r = w.drewN (q + r)) := by show _ = _; rw [HV.out, World.drewN_drewN]
      rw [HVr.out]
      clear KEY c1 HVr
      cases hxy : sameB p.1 x with
      | true =>
        have HXY := Hid.of hxy
        clear hxy
        go_wp2
        go_ret
        exact ⟨ret_bool (knownK_hit HX HXY), _, rfl⟩
      | false =>
        have HXZ := Hid.of hxy
        clear hxy
        go_wp2
        go_roundw
        case rel => exact ⟨k + 1, _, by omega, by go_num, rfl, noneK_succ he HX HXZ⟩
        case measure => simp [intOf]; omega
    · go_wp2
      go_ret
      exact ⟨ret_bool (noneK_end he hlt), q, rfl⟩

/-- A slice of what is known, of the call's own. -/
def OwnKn (n : Nat) (W : World) (B : Nat) (v : Value) (L : List Kno) : Prop := ∃ vs : List Value, W.ownsRow B 110 2 v L.length vs ∧ ∀ (j : Nat) (x : Value) (xs : List Int), vs[j]? = some x → (kns L)[j]? = some xs → InnW n W x xs
theorem OwnKn.cells {n : Nat} {W : World} {B : Nat} {v : Value} {L : List Kno} (h : OwnKn n W B v L) (hL : 0 < L.length) : ∃ g cap, v = .slice (some ⟨g, 0, none⟩) L.length cap ∧ B ≤ g ∧ g < W.heap.size ∧ L.length ≤ maxLen ∧
    ∀ (k : Nat) (p : Kno), L[k]? = some p → ∃ x z, W.cell? ⟨g, 0 + k * 2, none⟩ = some x ∧ W.cell? ⟨g, 0 + k * 2 + 1, none⟩ = some z ∧ InnW n W x p.1 ∧ InnW n W z p.2 := by
  obtain ⟨vs, ho, hi⟩ := h
  rcases ho.2 with ⟨rfl, hn⟩ | ⟨g, cap, cur, rfl, hg, hh, hnc, hcm, hcs, ht⟩
  · omega
  · refine ⟨g, cap, rfl, hg, (Array.getElem?_eq_some_iff.1 hh).1, Nat.le_trans hnc hcm, fun k p hp => ?_⟩
    have hk := (List.getElem?_eq_some_iff.1 hp).1
    have hl := ho.1
    obtain ⟨p1, p3⟩ := kns_at hp
    have hx := List.getElem?_eq_getElem (l := vs) (i := k * 2) (by omega)
    have hz := List.getElem?_eq_getElem (l := vs) (i := k * 2 + 1) (by omega)
    have c1 := ho.cells (g := g) rfl _ _ hx
    have c3 := ho.cells (g := g) rfl _ _ hz
    rw [addr0_add] at c1 c3
    exact ⟨_, _, c1, c3, hi _ _ _ hx p1, hi _ _ _ hz p3⟩
theorem OwnKn.cellsK {n : Nat} {W : World} {B : Nat} {v : Value} {L : List Kno} (h : OwnKn n W B v L) (hL : 0 < L.length) : ∃ g cap, v = .slice (some ⟨g, 0, none⟩) L.length cap ∧ B ≤ g ∧ g < W.heap.size ∧ L.length ≤ maxLen ∧ CellsK W g 0 L := by
  obtain ⟨g, cap, e, h1, h2, h3, hc⟩ := h.cells hL
  refine ⟨g, cap, e, h1, h2, h3, fun k p hp => ?_⟩
  obtain ⟨x, z, c1, c3, i1, i3⟩ := hc k p hp
  obtain ⟨xa, xc, rfl, x1, x2, -⟩ := i1.at
  obtain ⟨za, zc, rfl, z1, z2, -⟩ := i3.at
  exact ⟨xa, xc, za, zc, c1, c3, x1, x2, z1, z2⟩
theorem OwnKn.below {n : Nat} {W W' : World} {B : Nat} {v : Value} {L : List Kno} (h : OwnKn n W B v L) (hb : Below W.heap.size W W') (hn : n ≤ W.heap.size) : OwnKn n W' B v L := by
  obtain ⟨vs, ho, hi⟩ := h
  exact ⟨vs, own_same ho (fun k hk => hb.block k (World.ownsRow.lt ho k hk).2), fun j x xs a b => (hi j x xs a b).below hb hn⟩

/-- What Forward knows of the memory. -/
structure KF (w W : World) (p : Plant) (P : PTL) (v : Value) (L : List Kno) : Prop where
  bel : Below w.heap.size w W
  kp : Blk W w.heap.size 50 (ptcells p P)
  ow : OwnKn w.heap.size W (w.heap.size + 1) v L
  hB : w.heap.size + 1 ≤ W.heap.size
section
variable {w W : World} {p : Plant} {P : PTL} {v : Value} {L : List Kno}
theorem KF.below {W' : World} (h : KF w W p P v L) (hb : Below W.heap.size W W') : KF w W' p P v L :=
  ⟨h.bel.trans (hb.mono h.bel.size), h.kp.below hb h.kp.lt, h.ow.below hb h.bel.size, Nat.le_trans h.hB hb.size⟩
/-- One more. -/
theorem KF.push {W2 W3 : World} {v' x z : Value} {r : Kno} {vs : List Value} (h : KF w W p P v L) (hW3 : Below W.heap.size W W3) (ho : W3.ownsRow (w.heap.size + 1) 110 2 v L.length vs) (hi : ∀ (j : Nat) (x : Value) (xs : List Int), vs[j]? = some x → (kns L)[j]? = some xs → InnW w.heap.size W3 x xs) (hx : InnW w.heap.size W3 x r.1) (hz : InnW w.heap.size W3 z r.2) (o1 : W2.ownsRow (w.heap.size + 1) 110 2 v' (L.length + 1) (vs ++ [x, z])) (g : W3.grownBy W2 v.ownBlock) :
    KF w W2 p P v' (L ++ [r]) := by
  have h3 := h.below hW3
  have low : ∀ j, j < w.heap.size + 1 → W2.heap[j]? = W3.heap[j]? := fun j hj => g.block j (Nat.lt_of_lt_of_le hj h3.hB) (fun e => by have := (World.ownsRow.lt ho j e.symm).1; omega)
  have hty : ∀ (q : Nat) (cs : Array Value) (t : TypeId), t ≠ 110 → W3.heap[q]? = some (.cells cs t (0, 0)) → W2.heap[q]? = W3.heap[q]? := fun q cs t ht hq => g.block q (Array.getElem?_eq_some_iff.1 hq).1 (fun e => by
    obtain ⟨c2, h2⟩ := own_type ho e.symm
    rw [hq] at h2; cases h2; exact ht rfl)
  have kp : ∀ {y : Value} {ys : List Int}, InnW w.heap.size W3 y ys → InnW w.heap.size W2 y ys := fun hy => hy.kept g.size (fun j hj => low j (by omega)) (fun q cs hq => hty q cs _ (by decide) hq)
  refine ⟨h3.bel.grown g h3.bel.size (fun j hj => Nat.le_trans (by omega) (World.ownsRow.lt ho j hj).1), (low _ (by omega)).trans h3.kp, ?_, Nat.le_trans h3.hB g.size⟩
  have hl : vs.length = L.length * 2 := ho.1
  refine ⟨vs ++ [x, z], by rw [List.length_append]; exact o1, fun j u us e1 e2 => ?_⟩
  rw [kns_append] at e2
  have hl2 := kns_len L
  by_cases hj : j < L.length * 2
  · rw [List.getElem?_append_left (by omega)] at e1
    rw [List.getElem?_append_left (by omega)] at e2
    exact kp (hi j u us e1 e2)
  · rw [List.getElem?_append_right (by omega)] at e1 e2
    rw [hl] at e1
    rw [hl2] at e2
    generalize j - L.length * 2 = i at e1 e2
    have e2' : [r.1, r.2][i]? = some us := e2
    match i, e1, e2' with
    | 0, e1, e2 =>
      have q1 : x = u := by simpa using e1
      have q2 : r.1 = us := by simpa using e2
      rw [← q1, ← q2]; exact kp hx
    | 1, e1, e2 =>
      have q1 : z = u := by simpa using e1
      have q2 : r.2 = us := by simpa using e2
      rw [← q1, ← q2]; exact kp hz
    | i + 2, e1, e2 => simp at e1
end
/-- What Forward and Backward hand back. -/
def KnoPost (w : World) (L : List Kno) (e : Ending) (w' : World) : Prop := ∃ v, e = .returned v ∧ OwnKn w.heap.size w' (w.heap.size + 1) v L ∧ Below w.heap.size w w'

end Go.Proofs.YtdhgabpoaicjoaaDoor
namespace Go.Proofs.YtdhgabpoaicjoaaDoor
open Go.RowKit
set_option linter.unusedVariables false

set_option maxHeartbeats 400000 in
theorem refAhead_any (a b : Arr) (w : World) :
    Calls Tryd.prog 52 #[.agg #[.int .i64 a.f, .int .i64 a.e, .int .i64 a.t], .agg #[.int .i64 b.f, .int .i64 b.e, .int .i64 b.t]] w fun e w' => e = .returned (.bool (aheadB a b)) ∧ Below w.heap.size w w' := by
  obtain ⟨af, ae, at'⟩ := a
  obtain ⟨bf, be, bt⟩ := b
  by_cases h1 : af = bf
  · have d1 : (af != bf) = false := by simp [h1]
    have H1 : Hid (af = bf) := h1
    clear h1
    by_cases h2 : ae = be
    · have d2 : (ae != be) = false := by simp [h2]
      have H2 : Hid (ae = be) := h2
      clear h2
      go_enter Tryd.func52, Tryd.ntmps52
      go_wp2
      go_ret
      exact ⟨ret_bool (by simp [aheadB, H1.out, H2.out]), ((Below.refl _ _).alloc (Nat.le_refl _) _).alloc (by simp) _⟩
    · have d2 : (ae != be) = true := by simp [h2]
      go_enter Tryd.func52, Tryd.ntmps52
      go_wp2
      go_ret
      exact ⟨ret_bool (by simp [aheadB, H1.out, h2]), ((Below.refl _ _).alloc (Nat.le_refl _) _).alloc (by simp) _⟩
  · have d1 : (af != bf) = true := by simp [h1]
    go_enter Tryd.func52, Tryd.ntmps52
    go_wp2
    go_ret
    exact ⟨ret_bool (by simp [aheadB, h1]), ((Below.refl _ _).alloc (Nat.le_refl _) _).alloc (by simp) _⟩

theorem below_call {B n : Nat} {W0 wr w1 : World} {o : Obj} (h : Below B W0 wr) (hB : B ≤ wr.heap.size) (h1 : Below n ((wr.alloc o).drew) w1) (hn : B ≤ n) : Below B W0 w1 :=
  (h.alloc hB o).drew.trans (h1.mono hn)

end Go.Proofs.YtdhgabpoaicjoaaDoor
