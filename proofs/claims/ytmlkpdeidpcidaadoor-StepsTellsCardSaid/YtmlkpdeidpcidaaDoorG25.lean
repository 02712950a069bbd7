/-
  What is said of a slice of what is known (a row and a list each); the walk of jalousieref9.Has.
  The walks of jalousieref9.May, From, Estimate and Tells.
  The walk of jalousieref9.Best.
-/
import Derived.Test.YtmlkpdeidpcidaaDoorG16
import Derived.Test.YtmlkpdeidpcidaaDoorG24
import Derived.Test.YtmlkpdeidpcidaaDoorCRefMay
import Derived.Test.YtmlkpdeidpcidaaDoorG21
import Derived.Test.YtmlkpdeidpcidaaDoorCTrimBase
namespace Go.Proofs.YtmlkpdeidpcidaaDoor
open Go.RowKit
set_option linter.unusedVariables false

theorem Tryd.infoKnown : (Tryd.prog.info? 117).map (fun i => (i.zero, i.size, i.bytes)) = some (some (.agg #[.slice none 0 0, .slice none 0 0]), 2, 48) := by kernel_rfl

theorem cells_duo (W W' : World) (hW : W'.heap = W.heap) (t : TypeId) (x y : Value) : ∀ j u, ([x, y] : List Value)[j]? = some u → (W'.alloc (.cells #[x, y] t)).cell? ((⟨W.heap.size, 0, none⟩ : Addr).add j) = some u := by
  intro j u hu
  rw [addr0_add, Nat.zero_add, ← hW]
  exact (Blk.new W' t #[x, y]).cell j (by rw [← Array.getElem?_toList]; exact hu)
/-- What is known: a row, and a list that leads to it. -/
abbrev Kno := List Int × List Int
def kns : List Kno → List (List Int)
  | [] => []
  | p :: r => p.1 :: p.2 :: kns r
theorem kns_len : ∀ L : List Kno, (kns L).length = L.length * 2
  | [] => rfl
  | a :: r => by simp only [kns, List.length_cons, kns_len r]; omega
theorem kns_append : ∀ L M : List Kno, kns (L ++ M) = kns L ++ kns M
  | [], M => rfl
  | a :: r, M => by simp only [List.cons_append, kns, kns_append r M]
theorem kns_at : ∀ {L : List Kno} {k : Nat} {p : Kno}, L[k]? = some p → (kns L)[k * 2]? = some p.1 ∧ (kns L)[k * 2 + 1]? = some p.2
  | [], k, p, h => by simp at h
  | a :: r, 0, p, h => by
    have : a = p := by simpa using h
    subst this; simp [kns]
  | a :: r, k + 1, p, h => by
    have := kns_at (L := r) (k := k) (p := p) (by simpa using h)
    rw [show (k + 1) * 2 = k * 2 + 1 + 1 by omega]
    simpa [kns] using this
/-- Their cells. -/
def CellsK (w : World) (b off : Nat) (L : List Kno) : Prop := ∀ (k : Nat) (p : Kno), L[k]? = some p → ∃ xa xc za zc,
  w.cell? ⟨b, off + k * 2, none⟩ = some (.slice xa p.1.length xc) ∧ w.cell? ⟨b, off + k * 2 + 1, none⟩ = some (.slice za p.2.length zc) ∧
  At w xa p.1 ∧ p.1.length ≤ maxLen ∧ At w za p.2 ∧ p.2.length ≤ maxLen
theorem cellsK_below {w w' : World} {b off : Nat} {L : List Kno} (h : CellsK w b off L) (hb : Below w.heap.size w w') (hl : b < w.heap.size) : CellsK w' b off L := fun k x hx => by
  obtain ⟨xa, xc, za, zc, c1, c2, q1, q2, q3, q4⟩ := h k x hx
  exact ⟨xa, xc, za, zc, (hb.cell (p := ⟨b, off + k * 2, none⟩) hl).trans c1, (hb.cell (p := ⟨b, off + k * 2 + 1, none⟩) hl).trans c2, q1.below hb (Nat.le_refl _), q2, q3.below hb (Nat.le_refl _), q4⟩
theorem knownK_hit {L : List Kno} {k : Nat} {p : Kno} {x : List Int} (h : Hid (L[k]? = some p)) (h1 : Hid (sameB p.1 x = true)) : true = knownB L x := by
  have h1 : p.1 = x := by have := h1.out; simpa [sameB] using this
  exact ((knownB_iff _ _).2 ⟨p, List.mem_of_getElem? h.out, h1⟩).symm
/-- None of the first k is. -/
def noneK (L : List Kno) (k : Nat) (x : List Int) : Prop := ∀ (j : Nat) (p : Kno), j < k → L[j]? = some p → p.1 ≠ x
theorem noneK_succ {L : List Kno} {k : Nat} {p : Kno} {x : List Int} (h0 : Hid (noneK L k x)) (h : Hid (L[k]? = some p)) (h1 : Hid (sameB p.1 x = false)) : Hid (noneK L (k + 1) x) := fun j q hj hq => by
  by_cases e : j < k
  · exact h0.out j q e hq
  · have : j = k := by omega
    subst this
    rw [h.out] at hq
    have := Option.some.inj hq
    subst this
    intro e
    have := h1.out
    simp [sameB, e] at this
theorem noneK_end {L : List Kno} {k : Nat} {x : List Int} (h0 : Hid (noneK L k x)) (h : ¬ k < L.length) : false = knownB L x := by
  cases hk : knownB L x with
  | false => rfl
  | true =>
    obtain ⟨p, hp, e⟩ := (knownB_iff _ _).1 hk
    obtain ⟨i, hi⟩ := List.mem_iff_getElem?.1 hp
    exact absurd e (h0.out i p (Nat.lt_of_lt_of_le (List.getElem?_eq_some_iff.1 hi).1 (by omega)) hi)

set_option maxHeartbeats 2000000 in
theorem rhas_some (ba oa ca : Nat) (xa : Option Addr) (xc : Nat) (L : List Kno) (x : List Int) (w : World) (hl : L.length ≤ 9223372036854775807) (hca : Hid (CellsK w ba oa L)) (hx : Hid (At w xa x)) (hxl : Hid (x.length ≤ maxLen)) :
    Calls Tryd.prog 81 #[.slice (some ⟨ba, oa, none⟩) L.length ca, .slice xa x.length xc] w fun e w' => e = .returned (.bool (knownB L x)) ∧ ∃ q, w' = w.drewN q := by
  go_enter Tryd.func81, Tryd.ntmps81
  go_wp2
  go_loopw [5] (fun i wr => ∃ k q : Nat, k ≤ L.length ∧ i = .int .i64 k ∧ wr = w.drewN q ∧ Hid (noneK L k x)) (fun i _ => L.length - (intOf i).toNat)
  case atStart => exact ⟨0, 0, Nat.zero_le _, rfl, rfl, fun j p hj => by omega⟩
  case round =>
    obtain ⟨k, q, hk, rfl, rfl, he⟩ := hrel
    by_cases hlt : k < L.length
    · obtain ⟨p, HX⟩ : ∃ p, Hid (L[k]? = some p) := ⟨_, List.getElem?_eq_getElem hlt⟩
      obtain ⟨pa, pc, za, zc, c1, -, a1, l1, -, -⟩ := hca.out k p HX.out
      obtain ⟨V, HV⟩ : ∃ V, Hid (V = w.drewN q) := ⟨_, rfl⟩
      replace c1 : V.cell? ⟨ba, oa + k * 2, none⟩ = some (.slice pa p.1.length pc) := by rw [HV.out]; exact c1
      have KEY : Hid (Calls Tryd.prog 19 #[.slice pa p.1.length pc, .slice xa x.length xc] V fun e w' => e = .returned (.bool (sameB p.1 x)) ∧ ∃ r, w' = V.drewN r) := by
        rw [HV.out]; exact same_any pa xa pc xc p.1 x _ (At.drewN a1 q) (At.drewN hx.out q) l1 hxl.out
      rw [← HV.out]
      clear a1 l1
      go_wp2_with fail
      refine KEY.out.mono ?_
      rintro e V' ⟨rfl, r, rfl⟩
      have HVr : Hid (V.drewN r = w.drewN (q + r)) := by show _ = _; rw [HV.out, World.drewN_drewN]
      rw [HVr.out]
      clear KEY c1 HVr
      cases hxy : sameB p.1 x with
      | true =>
        have HXY := Hid.of hxy
        clear hxy
        go_wp2
        go_ret
        exact ⟨ret_bool (knownK_hit HX HXY), _, rfl⟩
      | false =>
        have HXZ := Hid.of hxy
        clear hxy
        go_wp2
        go_roundw
        case rel => exact ⟨k + 1, _, by omega, by go_num, rfl, noneK_succ he HX HXZ⟩
        case measure => simp [intOf]; omega
    · go_wp2
      go_ret
      exact ⟨ret_bool (noneK_end he hlt), q, rfl⟩

/-- A slice of what is known, of the call's own. -/
def OwnKn (n : Nat) (W : World) (B : Nat) (v : Value) (L : List Kno) : Prop := ∃ vs : List Value, W.ownsRow B 117 2 v L.length vs ∧ ∀ (j : Nat) (x : Value) (xs : List Int), vs[j]? = some x → (kns L)[j]? = some xs → InnW n W x xs
theorem OwnKn.cells {n : Nat} {W : World} {B : Nat} {v : Value} {L : List Kno} (h : OwnKn n W B v L) (hL : 0 < L.length) : ∃ g cap, v = .slice (some ⟨g, 0, none⟩) L.length cap ∧ B ≤ g ∧ g < W.heap.size ∧ L.length ≤ maxLen ∧
    ∀ (k : Nat) (p : Kno), L[k]? = some p → ∃ x z, W.cell? ⟨g, 0 + k * 2, none⟩ = some x ∧ W.cell? ⟨g, 0 + k * 2 + 1, none⟩ = some z ∧ InnW n W x p.1 ∧ InnW n W z p.2 := by
  obtain ⟨vs, ho, hi⟩ := h
  rcases ho.2 with ⟨rfl, hn⟩ | ⟨g, cap, cur, rfl, hg, hh, hnc, hcm, hcs, ht⟩
  · omega
  · refine ⟨g, cap, rfl, hg, (Array.getElem?_eq_some_iff.1 hh).1, Nat.le_trans hnc hcm, fun k p hp => ?_⟩
    have hk := (List.getElem?_eq_some_iff.1 hp).1
    have hl := ho.1
    obtain ⟨p1, p3⟩ := kns_at hp
    have hx := List.getElem?_eq_getElem (l := vs) (i := k * 2) (by omega)
    have hz := List.getElem?_eq_getElem (l := vs) (i := k * 2 + 1) (by omega)
    have c1 := ho.cells (g := g) rfl _ _ hx
    have c3 := ho.cells (g := g) rfl _ _ hz
    rw [addr0_add] at c1 c3
    exact ⟨_, _, c1, c3, hi _ _ _ hx p1, hi _ _ _ hz p3⟩
theorem OwnKn.cellsK {n : Nat} {W : World} {B : Nat} {v : Value} {L : List Kno} (h : OwnKn n W B v L) (hL : 0 < L.length) : ∃ g cap, v = .slice (some ⟨g, 0, none⟩) L.length cap ∧ B ≤ g ∧ g < W.heap.size ∧ L.length ≤ maxLen ∧ CellsK W g 0 L := by
  obtain ⟨g, cap, e, h1, h2, h3, hc⟩ := h.cells hL
  refine ⟨g, cap, e, h1, h2, h3, fun k p hp => ?_⟩
  obtain ⟨x, z, c1, c3, i1, i3⟩ := hc k p hp
  obtain ⟨xa, xc, rfl, x1, x2, -⟩ := i1.at
  obtain ⟨za, zc, rfl, z1, z2, -⟩ := i3.at
  exact ⟨xa, xc, za, zc, c1, c3, x1, x2, z1, z2⟩
theorem OwnKn.below {n : Nat} {W W' : World} {B : Nat} {v : Value} {L : List Kno} (h : OwnKn n W B v L) (hb : Below W.heap.size W W') (hn : n ≤ W.heap.size) : OwnKn n W' B v L := by
  obtain ⟨vs, ho, hi⟩ := h
  exact ⟨vs, own_same ho (fun k hk => hb.block k (World.ownsRow.lt ho k hk).2), fun j x xs a b => (hi j x xs a b).below hb hn⟩

/-- What Forward knows of the memory. -/
structure KF (w W : World) (p : Plant) (P : PTL) (v : Value) (L : List Kno) : Prop where
  bel : Below w.heap.size w W
  kp : Blk W w.heap.size 44 (ptcells p P)
  ow : OwnKn w.heap.size W (w.heap.size + 1) v L
  hB : w.heap.size + 1 ≤ W.heap.size
section
variable {w W : World} {p : Plant} {P : PTL} {v : Value} {L : List Kno}
theorem KF.below {W' : World} (h : KF w W p P v L) (hb : Below W.heap.size W W') : KF w W' p P v L :=
  ⟨h.bel.trans (hb.mono h.bel.size), h.kp.below hb h.kp.lt, h.ow.below hb h.bel.size, Nat.le_trans h.hB hb.size⟩
/-- One more. -/
theorem KF.push {W2 W3 : World} {v' x z : Value} {r : Kno} {vs : List Value} (h : KF w W p P v L) (hW3 : Below W.heap.size W W3) (ho : W3.ownsRow (w.heap.size + 1) 117 2 v L.length vs) (hi : ∀ (j : Nat) (x : Value) (xs : List Int), vs[j]? = some x → (kns L)[j]? = some xs → InnW w.heap.size W3 x xs) (hx : InnW w.heap.size W3 x r.1) (hz : InnW w.heap.size W3 z r.2) (o1 : W2.ownsRow (w.heap.size + 1) 117 2 v' (L.length + 1) (vs ++ [x, z])) (g : W3.grownBy W2 v.ownBlock) :
    KF w W2 p P v' (L ++ [r]) := by
  have h3 := h.below hW3
  have low : ∀ j, j < w.heap.size + 1 → W2.heap[j]? = W3.heap[j]? := fun j hj => g.block j (Nat.lt_of_lt_of_le hj h3.hB) (fun e => by have := (World.ownsRow.lt ho j e.symm).1; omega)
  have hty : ∀ (q : Nat) (cs : Array Value) (t : TypeId), t ≠ 117 → W3.heap[q]? = some (.cells cs t (0, 0)) → W2.heap[q]? = W3.heap[q]? := fun q cs t ht hq => g.block q (Array.getElem?_eq_some_iff.1 hq).1 (fun e => by
    obtain ⟨c2, h2⟩ := own_type ho e.symm
    rw [hq] at h2; cases h2; exact ht rfl)
  have kp : ∀ {y : Value} {ys : List Int}, InnW w.heap.size W3 y ys → InnW w.heap.size W2 y ys := fun hy => hy.kept g.size (fun j hj => low j (by omega)) (fun q cs hq => hty q cs _ (by decide) hq)
  refine ⟨h3.bel.grown g h3.bel.size (fun j hj => Nat.le_trans (by omega) (World.ownsRow.lt ho j hj).1), (low _ (by omega)).trans h3.kp, ?_, Nat.le_trans h3.hB g.size⟩
  have hl : vs.length = L.length * 2 := ho.1
  refine ⟨vs ++ [x, z], by rw [List.length_append]; exact o1, fun j u us e1 e2 => ?_⟩
  rw [kns_append] at e2
  have hl2 := kns_len L
  by_cases hj : j < L.length * 2
  · rw [List.getElem?_append_left (by omega)] at e1
    rw [List.getElem?_append_left (by omega)] at e2
    exact kp (hi j u us e1 e2)
  · rw [List.getElem?_append_right (by omega)] at e1 e2
    rw [hl] at e1
    rw [hl2] at e2
    generalize j - L.length * 2 = i at e1 e2
    have e2' : [r.1, r.2][i]? = some us := e2
    match i, e1, e2' with
    | 0, e1, e2 =>
      have q1 : x = u := by simpa using e1
      have q2 : r.1 = us := by simpa using e2
      rw [← q1, ← q2]; exact kp hx
    | 1, e1, e2 =>
      have q1 : z = u := by simpa using e1
      have q2 : r.2 = us := by simpa using e2
      rw [← q1, ← q2]; exact kp hz
    | i + 2, e1, e2 => simp at e1
end
/-- What Forward and Backward hand back. -/
def KnoPost (w : World) (L : List Kno) (e : Ending) (w' : World) : Prop := ∃ v, e = .returned v ∧ OwnKn w.heap.size w' (w.heap.size + 1) v L ∧ Below w.heap.size w w'

end Go.Proofs.YtmlkpdeidpcidaaDoor
namespace Go.Proofs.YtmlkpdeidpcidaaDoor
open Go.RowKit
set_option linter.unusedVariables false

theorem mayP_no1 {p : Plant} (h : mayB p.m = false) : mayP p = false := by unfold mayP; rw [h]; rfl
theorem mayP_no2 {p : Plant} (h : ¬ p.m.st ≤ 6) : mayP p = false := by unfold mayP; rw [decide_eq_false h]; simp
theorem mayP_no3 {p : Plant} (h : rowB p.m.ev p.seen = false) : mayP p = false := by unfold mayP; rw [h]; simp
theorem mayP_last {p : Plant} (h1 : mayB p.m = true) (h2 : p.m.st ≤ 6) (h3 : rowB p.m.ev p.seen = true) : mayP p = rowB p.m.st p.secret := by unfold mayP; rw [h1, h3, decide_eq_true h2]; simp

set_option maxRecDepth 100000 in
set_option maxHeartbeats 4000000 in
theorem rMayP_any (p : Plant) (P : PTL) (w : World) (h : Hid (PAt w p P)) :
    Calls Tryd.prog 31 #[ptval p P] w fun e w' => e = .returned (.bool (mayP p)) ∧ Below w.heap.size w w' := by
  have b0 : Below w.heap.size w ((w.alloc (.cells (ptcells p P) 44)).alloc (.cells (mcells p.m P.l) 25)) := ((Below.refl _ _).alloc (Nat.le_refl _) _).alloc (by simp) _
  have B := Hid.of b0
  have KP : Hid (Blk ((w.alloc (.cells (ptcells p P) 44)).alloc (.cells (mcells p.m P.l) 25)) w.heap.size 44 (ptcells p P)) := (Blk.new w _ _).alloc _
  have KM : Hid (Blk ((w.alloc (.cells (ptcells p P) 44)).alloc (.cells (mcells p.m P.l) 25)) (w.heap.size + 1) 25 (mcells p.m P.l)) := by
    have := Blk.new (w.alloc (.cells (ptcells p P) 44)) 25 (mcells p.m P.l)
    rwa [World.size_alloc] at this
  clear b0
  go_enter Tryd.func31, Tryd.ntmps31
  go_wp2_with fail
  revert B KP KM
  show Hid (Below w.heap.size w ((w.alloc (.cells #[.int .i64 p.m.st, .int .i64 p.m.ev, .slice P.l.a1 p.m.starts.length P.l.c1, .slice P.l.a2 p.m.arrows.length P.l.c2, .slice P.l.a3 p.m.ends.length P.l.c3, .slice P.sa p.seen.length P.sc, .slice P.ta p.secret.length P.tc] 44)).alloc (.cells #[.int .i64 p.m.st, .int .i64 p.m.ev, .slice P.l.a1 p.m.starts.length P.l.c1, .slice P.l.a2 p.m.arrows.length P.l.c2, .slice P.l.a3 p.m.ends.length P.l.c3] 25))) → _
  generalize (w.alloc (.cells #[.int .i64 p.m.st, .int .i64 p.m.ev, .slice P.l.a1 p.m.starts.length P.l.c1, .slice P.l.a2 p.m.arrows.length P.l.c2, .slice P.l.a3 p.m.ends.length P.l.c3, .slice P.sa p.seen.length P.sc, .slice P.ta p.secret.length P.tc] 44)).alloc (.cells #[.int .i64 p.m.st, .int .i64 p.m.ev, .slice P.l.a1 p.m.starts.length P.l.c1, .slice P.l.a2 p.m.arrows.length P.l.c2, .slice P.l.a3 p.m.ends.length P.l.c3] 25) = V0
  intro B KP KM
  refine (refMay_any p.m P.l V0 (h.out.m.below B.out (Nat.le_refl _))).mono ?_
  rintro e W1 ⟨rfl, hb⟩
  replace B := Hid.of (B.out.trans (hb.mono B.out.size))
  replace KP := Hid.of (KP.out.below hb KP.out.lt)
  replace KM := Hid.of (KM.out.below hb KM.out.lt)
  clear hb
  cases h1 : mayB p.m with
  | false =>
    have HF := Hid.of (mayP_no1 h1)
    clear h1
    go_wp2_with fail
    go_ret
    exact ⟨ret_bool HF.out.symm, B.out⟩
  | true =>
    have H1 := Hid.of h1
    clear h1
    by_cases h2 : p.m.st ≤ 6
    · have d2 : decide (p.m.st ≤ 6) = true := by simpa using h2
      obtain ⟨y0, y1, y2, y3, y4⟩ := mcell_at KM.out
      obtain ⟨x0, x1, x2, x3, x4, x5, x6⟩ := ptcell_at KP.out
      go_wp2_with fail
      refine (refIs_any P.sa P.sc p.seen p.m.ev W1 (h.out.s.at_.below B.out (Nat.le_refl _)) h.out.s.len).mono ?_
      rintro e W2 ⟨rfl, q, hq⟩
      have hb : Below W1.heap.size W1 W2 := by rw [hq]; exact below_drewN (Below.refl _ _) q
      replace B := Hid.of (B.out.trans (hb.mono B.out.size))
      replace KP := Hid.of (KP.out.below hb KP.out.lt)
      replace KM := Hid.of (KM.out.below hb KM.out.lt)
      clear hb hq y0 y1 y2 y3 y4 x0 x1 x2 x3 x4 x5 x6
      cases h3 : rowB p.m.ev p.seen with
      | false =>
        have HF := Hid.of (mayP_no3 h3)
        clear h3
        go_wp2_with fail
        go_ret
        exact ⟨ret_bool HF.out.symm, B.out⟩
      | true =>
        have HF := Hid.of (mayP_last H1.out h2 h3)
        clear h3
        obtain ⟨y0, y1, y2, y3, y4⟩ := mcell_at KM.out
        obtain ⟨x0, x1, x2, x3, x4, x5, x6⟩ := ptcell_at KP.out
        go_wp2_with fail
        refine (refIs_any P.ta P.tc p.secret p.m.st W2 (h.out.t.at_.below B.out (Nat.le_refl _)) h.out.t.len).mono ?_
        rintro e W3 ⟨rfl, q, hq⟩
        have hb : Below W2.heap.size W2 W3 := by rw [hq]; exact below_drewN (Below.refl _ _) q
        replace B := Hid.of (B.out.trans (hb.mono B.out.size))
        clear hb hq y0 y1 y2 y3 y4 x0 x1 x2 x3 x4 x5 x6
        obtain ⟨bb, HB⟩ : ∃ bb, Hid (bb = rowB p.m.st p.secret) := ⟨_, rfl⟩
        rw [← HB.out] at HF ⊢
        go_wp2_with fail
        go_ret
        exact ⟨ret_bool HF.out.symm, B.out⟩
    · have d2 : decide (p.m.st ≤ 6) = false := by simpa using h2
      have HF := Hid.of (mayP_no2 h2)
      obtain ⟨y0, y1, y2, y3, y4⟩ := mcell_at KM.out
      go_wp2_with fail
      go_ret
      exact ⟨ret_bool HF.out.symm, B.out⟩

set_option maxRecDepth 100000 in
set_option maxHeartbeats 2000000 in
theorem rTells_any (a b : Option Addr) (ca cb : Nat) (row secret : List Int) (w : World) (h : At w a row) (hl : row.length ≤ 17592186044416) (h' : At w b secret) (hl' : secret.length ≤ maxLen) :
    Calls Tryd.prog 92 #[.slice a row.length ca, .slice b secret.length cb] w fun e w' => e = .returned (.bool (leakB secret row)) ∧ Below w.heap.size w w' := by
  have KEY := Hid.of (only_any a b ca cb row secret false w h hl h' hl')
  obtain ⟨op, HO⟩ : ∃ op, Hid (op = row.filter fun n => hasB secret n == false) := ⟨_, rfl⟩
  rw [← HO.out] at KEY
  have HLK : Hid (leakB secret row = (decide (0 < row.length) && decide (op.length = 0))) := by show _ = _; unfold leakB; rw [HO.out]
  clear h h' HO
  go_enter Tryd.func92, Tryd.ntmps92
  go_wp2_with fail
  refine KEY.out.mono ?_
  rintro e W1 ⟨va, vc, rfl, -, -, hb⟩
  have B := Hid.of hb
  clear hb
  by_cases h0 : 0 < row.length
  · have d0 : decide ((0 : Int) < (row.length : Int)) = true := decide_eq_true (by omega)
    by_cases h1 : op.length = 0
    · have d1 : ((op.length : Int) == 0) = true := by rw [h1]; rfl
      have HF : Hid (leakB secret row = true) := by show _ = _; rw [HLK.out, decide_eq_true h0, decide_eq_true h1]; rfl
      go_wp2_with fail
      all_goals
        go_ret
        exact ⟨ret_bool HF.out.symm, B.out⟩
    · have d1 : ((op.length : Int) == 0) = false := by rw [beq_eq_false_iff_ne]; omega
      have HF : Hid (leakB secret row = false) := by show _ = _; rw [HLK.out, decide_eq_false h1, Bool.and_false]
      go_wp2_with fail
      all_goals
        go_ret
        exact ⟨ret_bool HF.out.symm, B.out⟩
  · have d0 : decide ((0 : Int) < (row.length : Int)) = false := decide_eq_false (by omega)
    have HF : Hid (leakB secret row = false) := by show _ = _; rw [HLK.out, decide_eq_false h0, Bool.false_and]
    go_wp2_with fail
    all_goals
      go_ret
      exact ⟨ret_bool HF.out.symm, B.out⟩

end Go.Proofs.YtmlkpdeidpcidaaDoor
namespace Go.Proofs.YtmlkpdeidpcidaaDoor
open Go.RowKit
set_option linter.unusedVariables false

/-- One more of what is known. -/
def bestStep (secret only : List Int) (o : Option (List Int)) (x : Kno) : Option (List Int) := if (leakB secret (x.1.filter fun n => hasB only n == true) && (o.isNone || lessB x.2 (o.getD []))) = true then some x.2 else o
/-- The least list of those whose rows leak. -/
def bestL (secret only : List Int) (L : List Kno) : Option (List Int) := L.foldl (bestStep secret only) none
theorem best_take (secret only : List Int) {L : List Kno} {k : Nat} {x : Kno} (h : L[k]? = some x) : bestL secret only (L.take (k + 1)) = bestStep secret only (bestL secret only (L.take k)) x := by
  unfold bestL
  rw [List.take_add_one, h, Option.toList_some, List.foldl_append]; rfl
/-- What Best leaves. -/
def BestPost (w : World) (o : Option (List Int)) (e : Ending) (w' : World) : Prop := ∃ va vc, e = .returned (.tuple #[.slice va (o.getD []).length vc, .bool o.isSome]) ∧ At w' va (o.getD []) ∧ (o.getD []).length ≤ maxLen ∧ Below w.heap.size w w'

set_option maxRecDepth 100000 in
set_option maxHeartbeats 8000000 in
theorem rBest_some (p : Plant) (P : PTL) (b off lc : Nat) (oa : Option Addr) (oc : Nat) (only : List Int) (L : List Kno) (w : World) (h : Hid (PAt w p P)) (hl : L.length ≤ 9223372036854775807) (hbl : Hid (b < w.heap.size)) (hc : Hid (CellsK w b off L)) (hr : Hid (∀ x ∈ L, x.1.length ≤ 4096)) (ho : Hid (At w oa only)) (hol : Hid (only.length ≤ maxLen)) :
    Calls Tryd.prog 82 #[ptval p P, .slice (some ⟨b, off, none⟩) L.length lc, .slice oa only.length oc] w fun e w' => BestPost w (bestL p.secret only L) e w' := by
  have B : Hid (Below w.heap.size w (w.alloc (.cells (ptcells p P) 44))) := (Below.refl _ _).alloc (Nat.le_refl _) _
  have K : Hid (Blk (w.alloc (.cells (ptcells p P) 44)) w.heap.size 44 (ptcells p P)) := Blk.new w _ _
  go_enter Tryd.func82, Tryd.ntmps82
  go_wp2_with fail
  go_loopw [8, 9, 10] (fun v8 v9 i wr => ∃ (k : Nat) (o : Option (List Int)) (va : Option Addr) (vc n : Nat) (fb : Bool), i = .int .i64 k ∧ k ≤ L.length ∧ v8 = .slice va n vc ∧ v9 = .bool fb ∧ Hid (n = (o.getD []).length) ∧ Hid (fb = o.isSome) ∧ Hid (At wr va (o.getD [])) ∧ Hid ((o.getD []).length ≤ maxLen) ∧ Hid (o = bestL p.secret only (L.take k)) ∧ Hid (Below w.heap.size w wr) ∧ Hid (Blk wr w.heap.size 44 (ptcells p P))) (fun _ _ i _ => L.length - (intOf i).toNat)
  case atStart => exact ⟨0, none, none, 0, 0, false, rfl, Nat.zero_le _, rfl, rfl, rfl, rfl, .inl rfl, Nat.zero_le _, rfl, B, K⟩
  case round =>
    clear B K
    obtain ⟨k, o, va, vc, n, fb, rfl, hk, rfl, rfl, HN, HFB, HAT, HLN, HO, B, K⟩ := hrel
    by_cases hlt : k < L.length
    · obtain ⟨x, HX⟩ : ∃ x, Hid (L[k]? = some x) := ⟨_, List.getElem?_eq_getElem hlt⟩
      obtain ⟨xa, xc, za, zc, c1, c2, i1, l1, i2, l2⟩ := hc.out k x HX.out
      have d1 := (B.out.cell (p := ⟨b, off + k * 2, none⟩) hbl.out).trans c1
      have HC2 := Hid.of c2
      have I1 := Hid.of i1
      have I2 := Hid.of i2
      have HL2 := Hid.of l2
      have HRX : Hid (x.1.length ≤ 4096) := hr.out x (List.mem_of_getElem? HX.out)
      have HNX : Hid (bestL p.secret only (L.take (k + 1)) = bestStep p.secret only o x) := by show _ = _; rw [best_take _ _ HX.out, HO.out]
      clear c1 c2 i1 l1 i2 l2
      go_wp2_with fail
      refine (only_any xa oa xc oc x.1 only true wr (I1.out.below B.out (Nat.le_refl _)) (Nat.le_trans HRX.out (by decide)) (ho.out.below B.out (Nat.le_refl _)) hol.out).mono ?_
      rintro e W1 ⟨ra, rc, rfl, at1, ln1, hb⟩
      replace B := Hid.of (B.out.trans (hb.mono B.out.size))
      replace K := Hid.of (K.out.below hb K.out.lt)
      replace HAT := Hid.of (HAT.out.below hb (Nat.le_refl _))
      have HR1 := Hid.of at1
      have HRL : Hid ((x.1.filter fun n => hasB only n == true).length ≤ 17592186044416) := Nat.le_trans (List.length_filter_le _ _) (Nat.le_trans HRX.out (by decide))
      obtain ⟨row, HROW⟩ : ∃ row, Hid (row = x.1.filter fun n => hasB only n == true) := ⟨_, rfl⟩
      rw [← HROW.out] at HR1 HRL ⊢
      have HST : Hid (bestStep p.secret only o x = if (leakB p.secret row && (o.isNone || lessB x.2 (o.getD []))) = true then some x.2 else o) := by show _ = _; unfold bestStep; rw [HROW.out]
      clear hb at1 ln1 d1 HROW
      obtain ⟨x0, x1, x2, x3, x4, x5, x6⟩ := ptcell_at K.out
      go_wp2_with fail
      refine (rTells_any ra P.ta rc P.tc row p.secret W1 HR1.out HRL.out (h.out.t.at_.below B.out (Nat.le_refl _)) h.out.t.len).mono ?_
      rintro e W2 ⟨rfl, hb⟩
      replace B := Hid.of (B.out.trans (hb.mono B.out.size))
      replace K := Hid.of (K.out.below hb K.out.lt)
      replace HAT := Hid.of (HAT.out.below hb (Nat.le_refl _))
      clear hb x0 x1 x2 x3 x4 x5 x6 HR1 HRL
      cases hlk : leakB p.secret row with
      | false =>
        have HN2 : Hid (bestL p.secret only (L.take (k + 1)) = o) := by show _ = _; rw [HNX.out, HST.out, hlk]; simp
        clear hlk
        go_wp2_with fail
        go_roundw
        case rel => exact ⟨k + 1, o, va, vc, n, fb, by go_num, by omega, rfl, rfl, HN, HFB, HAT, HLN, HN2.out.symm, B, K⟩
        case measure => simp [intOf]; omega
      | true =>
        have d2 := (B.out.cell (p := ⟨b, off + k * 2 + 1, none⟩) hbl.out).trans HC2.out
        cases fb with
        | false =>
          have HON : Hid (o = none) := by
            have := HFB.out
            cases ho' : o with
            | none => rfl
            | some u => rw [ho'] at this; cases this
          have HN2 : Hid (bestL p.secret only (L.take (k + 1)) = some x.2) := by show _ = _; rw [HNX.out, HST.out, hlk, HON.out]; simp
          have HA2 : Hid (At W2 za x.2) := I2.out.below B.out (Nat.le_refl _)
          clear hlk
          go_wp2_with fail
          go_roundw
          case rel => exact ⟨k + 1, some x.2, za, zc, x.2.length, true, by go_num, by omega, rfl, rfl, rfl, rfl, HA2, HL2, HN2.out.symm, B, K⟩
          case measure => simp [intOf]; omega
        | true =>
          have HOS : Hid (o.isNone = false) := by
            have := HFB.out
            cases ho' : o with
            | none => rw [ho'] at this; cases this
            | some u => rfl
          have KEY : Hid (Calls Tryd.prog 88 #[.slice za x.2.length zc, .slice va (o.getD []).length vc] W2 fun e w' => e = .returned (.bool (lessB x.2 (o.getD []))) ∧ ∃ q, w' = W2.drewN q) := rless_any za va zc vc x.2 (o.getD []) W2 (I2.out.below B.out (Nat.le_refl _)) HAT.out HL2.out HLN.out
          rw [← HN.out] at KEY
          go_wp2_with fail
          refine KEY.out.mono ?_
          rintro e W3 ⟨rfl, q, hq⟩
          have hb : Below W2.heap.size W2 W3 := by rw [hq]; exact below_drewN (Below.refl _ _) q
          replace B := Hid.of (B.out.trans (hb.mono B.out.size))
          replace K := Hid.of (K.out.below hb K.out.lt)
          replace HAT := Hid.of (HAT.out.below hb (Nat.le_refl _))
          clear hb hq KEY d2
          cases hls : lessB x.2 (o.getD []) with
          | true =>
            have HN2 : Hid (bestL p.secret only (L.take (k + 1)) = some x.2) := by show _ = _; rw [HNX.out, HST.out, hlk, hls]; simp
            have HA2 : Hid (At W3 za x.2) := I2.out.below B.out (Nat.le_refl _)
            have d2 := (B.out.cell (p := ⟨b, off + k * 2 + 1, none⟩) hbl.out).trans HC2.out
            clear hlk hls
            go_wp2_with fail
            go_roundw
            case rel => exact ⟨k + 1, some x.2, za, zc, x.2.length, true, by go_num, by omega, rfl, rfl, rfl, rfl, HA2, HL2, HN2.out.symm, B, K⟩
            case measure => simp [intOf]; omega
          | false =>
            have HN2 : Hid (bestL p.secret only (L.take (k + 1)) = o) := by show _ = _; rw [HNX.out, HST.out, hlk, hls, HOS.out]; simp
            clear hlk hls
            go_wp2_with fail
            go_roundw
            case rel => exact ⟨k + 1, o, va, vc, n, true, by go_num, by omega, rfl, rfl, HN, HFB, HAT, HLN, HN2.out.symm, B, K⟩
            case measure => simp [intOf]; omega
    · have HE : Hid (o = bestL p.secret only L) := by show _ = _; rw [HO.out, List.take_of_length_le (by omega)]
      have hltD : decide ((k : Int) < (L.length : Int)) = false := by simp; omega
      go_wp2_with fail
      refine bodyPost_ret (v := .tuple #[.slice va n vc, .bool fb]) (by simp [results, go_sem]) rfl ?_
      unfold BestPost
      rw [← HE.out, HN.out, HFB.out]
      exact ⟨va, vc, rfl, HAT.out, HLN.out, B.out⟩

end Go.Proofs.YtmlkpdeidpcidaaDoor
