/-
  The walk of jalousieref9.into.
  What the walk of jalousieref9.Backward knows of the memory.
  Plain: one event more ahead, case by case.
-/
import Derived.Test.YtmlkpdeidpcidaaDoorG34
import Derived.Test.YtmlkpdeidpcidaaDoorG37
namespace Go.Proofs.YtmlkpdeidpcidaaDoor
open Go.RowKit
set_option linter.unusedVariables false

theorem filter_take (f : Int → Bool) {l : List Int} {k : Nat} {x : Int} (h : k < l.length) (hx : Hid (x = l[k]?.getD 0)) : (l.take (k + 1)).filter f = (l.take k).filter f ++ (if f x = true then [x] else []) := by
  rw [List.take_add_one, List.getElem?_eq_getElem h, Option.toList_some, List.filter_append]
  have : x = l[k] := by rw [hx.out, List.getElem?_eq_getElem h]; rfl
  rw [← this]
  congr 1
  by_cases e : f x = true
  · rw [if_pos e]; simp [e]
  · rw [if_neg e]; simp [e]
theorem at_new1 (W : World) (x : Int) : At (W.alloc (.cells #[.int .i64 x] 3)) (some ⟨W.heap.size, 0, none⟩) [x] := at_one_blk (Blk.new W _ _)

theorem rng_filter (f : Int → Bool) (k : Nat) : (rngI (k + 1)).filter f = (rngI k).filter f ++ (if f (k : Int) = true then [(k : Int)] else []) := by
  rw [rngI_succ, List.filter_append]
  congr 1
  by_cases e : f (k : Int) = true
  · rw [if_pos e]; simp [e]
  · rw [if_neg e]; simp [e]

set_option maxRecDepth 100000 in
set_option maxHeartbeats 8000000 in
theorem rinto_go (st : Nat) (ev : Int) (starts : List Int) (ars : List Arr) (ends seen secret : List Int) (a1 : Option Addr) (c1 : Nat) (a2 : Option Addr) (c2 : Nat) (a3 : Option Addr) (c3 : Nat) (sa : Option Addr) (sc : Nat) (ta : Option Addr) (tc : Nat) (ra : Option Addr) (rc : Nat) (row : List Int) (ee : Int) (w : World) (h : Hid (PAt w ⟨⟨(st : Int), ev, starts, ars, ends⟩, seen, secret⟩ ⟨⟨a1, c1, a2, c2, a3, c3⟩, sa, sc, ta, tc⟩)) (hm : Hid (mayB ⟨(st : Int), ev, starts, ars, ends⟩ = true)) (hr : Hid (At w ra row)) (hrl : Hid (row.length ≤ maxLen)) :
    Calls Tryd.prog 87 #[ptval ⟨⟨(st : Int), ev, starts, ars, ends⟩, seen, secret⟩ ⟨⟨a1, c1, a2, c2, a3, c3⟩, sa, sc, ta, tc⟩, .slice ra row.length rc, .int .i64 ee] w fun e w' => GivesO w (intoL ⟨⟨(st : Int), ev, starts, ars, ends⟩, seen, secret⟩ row ee) e w' := by
  obtain ⟨j0, ji, jz0, jz1, jz2⟩ := info_parts Tryd.infoInt
  have hz := mayB_size hm.out
  unfold sizeOk at hz
  dsimp only at hz
  have hst : st ≤ 256 := by omega
  have hlen : Hid (ars.length ≤ 4096) := show _ ≤ _ by omega
  clear hz
  have hto : Hid (∀ a ∈ ars, 0 ≤ a.t ∧ a.t < (256 : Nat)) := may_to hm.out
  have hsee : Hid (∀ S, (seeL ⟨⟨(st : Int), ev, starts, ars, ends⟩, seen, secret⟩ S ee).length ≤ 4096) := fun S => by
    have h2 := see_in (p := ⟨⟨(st : Int), ev, starts, ars, ends⟩, seen, secret⟩) hm.out S ee
    have h1 := mayB_size hm.out
    unfold sizeOk at h1
    dsimp only at h1
    exact Nat.le_trans (nodup_len 256 _ (inc_nodup h2.1) (fun x hx => by have := h2.2 x hx; dsimp only at this; omega)) (by decide)
  have B : Hid (Below w.heap.size w (w.alloc (.cells (ptcells ⟨⟨(st : Int), ev, starts, ars, ends⟩, seen, secret⟩ ⟨⟨a1, c1, a2, c2, a3, c3⟩, sa, sc, ta, tc⟩) 44))) := (Below.refl _ _).alloc (Nat.le_refl _) _
  have K : Hid (Blk (w.alloc (.cells (ptcells ⟨⟨(st : Int), ev, starts, ars, ends⟩, seen, secret⟩ ⟨⟨a1, c1, a2, c2, a3, c3⟩, sa, sc, ta, tc⟩) 44)) w.heap.size 44 (ptcells ⟨⟨(st : Int), ev, starts, ars, ends⟩, seen, secret⟩ ⟨⟨a1, c1, a2, c2, a3, c3⟩, sa, sc, ta, tc⟩)) := Blk.new w _ _
  go_enter Tryd.func87, Tryd.ntmps87
  go_wp2_with fail
  go_loopw [7, 8] (fun v i wr => ∃ k : Nat, i = .int .i64 k ∧ k ≤ st ∧ Hid (Own wr (w.heap.size + 1) v ((rngI k).filter (fun s => decide (0 < ((seeL ⟨⟨(st : Int), ev, starts, ars, ends⟩, seen, secret⟩ (wideL ars seen [s]) ee).filter fun t => hasB row t == true).length)))) ∧ Hid (Below w.heap.size w wr) ∧ Hid (Blk wr w.heap.size 44 (ptcells ⟨⟨(st : Int), ev, starts, ars, ends⟩, seen, secret⟩ ⟨⟨a1, c1, a2, c2, a3, c3⟩, sa, sc, ta, tc⟩))) (fun _ i _ => st - (intOf i).toNat)
  case atStart => exact ⟨0, rfl, Nat.zero_le _, own_nil _ _, B, K⟩
  case round =>
    clear B K
    obtain ⟨k, rfl, hk, HO, B, K⟩ := hrel
    have hlo : w.heap.size + 1 ≤ wr.heap.size := K.out.lt
    obtain ⟨x0, x1, x2, x3, x4, x5, x6⟩ := ptcell_at K.out
    dsimp only at x0 x1 x2 x3 x4 x5 x6
    by_cases hlt : k < st
    · have HTK := Hid.of (rng_filter (fun s => decide (0 < ((seeL ⟨⟨(st : Int), ev, starts, ars, ends⟩, seen, secret⟩ (wideL ars seen [s]) ee).filter fun t => hasB row t == true).length)) k)
      have hln : ((rngI k).filter (fun s => decide (0 < ((seeL ⟨⟨(st : Int), ev, starts, ars, ends⟩, seen, secret⟩ (wideL ars seen [s]) ee).filter fun t => hasB row t == true).length))).length ≤ 256 := Nat.le_trans (List.length_filter_le _ _) (by rw [rngI_len]; omega)
      have bA : Below wr.heap.size wr (wr.alloc (.cells #[.int .i64 (k : Int)] 3)) := (Below.refl _ _).alloc (Nat.le_refl _) _
      have B1 := Hid.of (B.out.trans (bA.mono B.out.size))
      have K1 := Hid.of (K.out.below bA K.out.lt)
      have HO1 : Hid (Own (wr.alloc (.cells #[.int .i64 (k : Int)] 3)) (w.heap.size + 1) u7 _) := own_same HO.out (fun j hj => bA.block j (World.ownsRow.lt HO.out j hj).2)
      obtain ⟨z0, z1, z2, z3, z4, z5, z6⟩ := ptcell_at K1.out
      dsimp only at z0 z1 z2 z3 z4 z5 z6
      have KEY := Hid.of (refWide_any ⟨(st : Int), ev, starts, ars, ends⟩ ⟨a1, c1, a2, c2, a3, c3⟩ (some ⟨wr.heap.size, 0, none⟩) sa 1 sc [(k : Int)] seen (wr.alloc (.cells #[.int .i64 (k : Int)] 3)) (h.out.m.a.below B1.out (Nat.le_refl _)) hlen.out hto.out (at_new1 wr (k : Int)) (by simp) (fun h => by cases h) (h.out.s.at_.below B1.out (Nat.le_refl _)) h.out.s.len)
      go_wp2_with fail
      refine KEY.out.mono ?_
      rintro e W1 ⟨v, rfl, ov, hb⟩
      replace HO : Hid (Own W1 (w.heap.size + 1) _ _) := own_same HO1.out (fun j hj => hb.block j (World.ownsRow.lt HO1.out j hj).2)
      replace K := Hid.of (K1.out.below hb K1.out.lt)
      replace B := Hid.of (B1.out.trans (hb.mono B1.out.size))
      clear KEY x0 x1 x2 x3 x4 x5 x6 z0 z1 z2 z3 z4 z5 z6 bA B1 K1 HO1 hlo hb
      obtain ⟨wi, HWI⟩ : ∃ wi, Hid (wi = wideL ars seen [(k : Int)]) := ⟨_, rfl⟩
      rw [← HWI.out] at ov HTK
      obtain ⟨va, vc, hva, vat, vl1, vl2, -⟩ := Own.at2 ov
      subst hva
      have VA := Hid.of vat
      have VL : Hid (wi.length ≤ maxLen) := Nat.le_trans vl1 vl2
      clear ov vat vl1 vl2
      obtain ⟨x0, x1, x2, x3, x4, x5, x6⟩ := ptcell_at K.out
      dsimp only at x0 x1 x2 x3 x4 x5 x6
      go_wp2_with fail
      refine (refSeeing_any ⟨(st : Int), ev, starts, ars, ends⟩ ⟨a1, c1, a2, c2, a3, c3⟩ va sa vc sc wi seen ee W1 (h.out.m.a.below B.out (Nat.le_refl _)) hlen.out hto.out VA.out VL.out (h.out.s.at_.below B.out (Nat.le_refl _)) h.out.s.len).mono ?_
      rintro e W2 ⟨v, rfl, ov, hb⟩
      replace ov : Own W2 W1.heap.size v (seeL ⟨⟨(st : Int), ev, starts, ars, ends⟩, seen, secret⟩ wi ee) := ov
      have HSL := Hid.of (hsee.out wi)
      replace HO : Hid (Own W2 (w.heap.size + 1) _ _) := own_same HO.out (fun j hj => hb.block j (World.ownsRow.lt HO.out j hj).2)
      replace K := Hid.of (K.out.below hb K.out.lt)
      replace B := Hid.of (B.out.trans (hb.mono B.out.size))
      clear x0 x1 x2 x3 x4 x5 x6 hb VA VL
      obtain ⟨to, HTO⟩ : ∃ to, Hid (to = seeL ⟨⟨(st : Int), ev, starts, ars, ends⟩, seen, secret⟩ wi ee) := ⟨_, rfl⟩
      rw [← HTO.out] at ov HTK HSL
      obtain ⟨va, vc, hva, vat, vl1, vl2, -⟩ := Own.at2 ov
      subst hva
      have VA := Hid.of vat
      clear ov vat vl1 vl2
      go_wp2_with fail
      refine (only_any va ra vc rc to row true W2 VA.out (Nat.le_trans HSL.out (by decide)) (hr.out.below B.out (Nat.le_refl _)) hrl.out).mono ?_
      rintro e W3 ⟨ba, bc, rfl, -, -, hb⟩
      replace HO : Hid (Own W3 (w.heap.size + 1) _ _) := own_same HO.out (fun j hj => hb.block j (World.ownsRow.lt HO.out j hj).2)
      replace K := Hid.of (K.out.below hb K.out.lt)
      replace B := Hid.of (B.out.trans (hb.mono B.out.size))
      have hlo1 : w.heap.size + 1 ≤ W3.heap.size := K.out.lt
      clear hb VA
      obtain ⟨fr, HFR⟩ : ∃ fr, Hid (fr = to.filter fun t => hasB row t == true) := ⟨_, rfl⟩
      rw [← HFR.out] at HTK ⊢
      obtain ⟨ga, gc, hga, -, -, -⟩ := own_form2 HO.out
      subst hga
      revert HO HTK hln
      generalize (rngI k).filter (fun s => decide (0 < ((seeL ⟨⟨(st : Int), ev, starts, ars, ends⟩, seen, secret⟩ (wideL ars seen [s]) ee).filter fun t => hasB row t == true).length)) = cur
      intro hln HTK HO
      by_cases hp : 0 < fr.length
      · have dp : decide ((0 : Int) < (fr.length : Int)) = true := decide_eq_true (by omega)
        have HT2 : Hid ((rngI (k + 1)).filter (fun s => decide (0 < ((seeL ⟨⟨(st : Int), ev, starts, ars, ends⟩, seen, secret⟩ (wideL ars seen [s]) ee).filter fun t => hasB row t == true).length)) = cur ++ [(k : Int)]) := by show _ = _; rw [HTK.out, if_pos (decide_eq_true hp)]
        clear HTK
        go_wp2_with (at_builtin; refine wpList_append_block _ rfl (.tmp 39) (.tmp 41) 22 rfl (w.heap.size + 1) 3 j0 (.int .i64 0) 1 8 Tryd.underlying22 ji jz0 jz1 jz2 rfl (by decide) _ _ _ rfl (World.ownsRow.alloc HO.out _) ⟨W3.heap.size, 0, none⟩ 1 1 [.int .i64 (k : Int)] rfl rfl (cell_one_new _ _ _) (by intro u hu; simp at hu; subst hu; rfl) (by decide) (by unfold maxLen; omega) (by omega) (by simp; omega) ?_)
        intro v9 w9 o9 g9 n9
        obtain ⟨q1, q2, q3⟩ := own_snoc HO.out (Below.refl _ W3) hlo1 o9 g9
        have Q1 := Hid.of q1
        have Q2 := Hid.of (B.out.trans (q2.mono (Nat.le_succ _)))
        have Q3 := Hid.of (K.out.below q2 (Nat.lt_succ_self _))
        clear q1 q2 q3 o9 g9 n9
        go_wp2_with fail
        go_roundw
        case rel => exact ⟨k + 1, by go_num, by omega, (by show Own _ _ _ _; rw [HT2.out]; exact Q1.out), Q2, Q3⟩
        case measure => simp [intOf]; omega
      · have dp : decide ((0 : Int) < (fr.length : Int)) = false := decide_eq_false (by omega)
        have HT2 : Hid ((rngI (k + 1)).filter (fun s => decide (0 < ((seeL ⟨⟨(st : Int), ev, starts, ars, ends⟩, seen, secret⟩ (wideL ars seen [s]) ee).filter fun t => hasB row t == true).length)) = cur) := by show _ = _; rw [HTK.out, if_neg (by simpa using hp), List.append_nil]
        clear HTK
        go_wp2_with fail
        all_goals
          go_roundw
          case rel => exact ⟨k + 1, by go_num, by omega, (by show Own _ _ _ _; rw [HT2.out]; exact HO.out), B, K⟩
          case measure => simp [intOf]; omega
    · have hk2 : k = st := by omega
      have HE : Hid ((rngI k).filter (fun s => decide (0 < ((seeL ⟨⟨(st : Int), ev, starts, ars, ends⟩, seen, secret⟩ (wideL ars seen [s]) ee).filter fun t => hasB row t == true).length)) = intoL ⟨⟨(st : Int), ev, starts, ars, ends⟩, seen, secret⟩ row ee) := by show _ = _; rw [hk2]; unfold intoL; simp only [Int.toNat_natCast]
      have hltD : decide ((k : Int) < (st : Int)) = false := by simp; omega
      rw [HE.out] at HO
      clear hk2
      go_wp2_with fail
      go_ret
      exact ⟨_, rfl, Own.low HO.out (Nat.le_succ _), B.out⟩

theorem rInto_any (p : Plant) (P : PTL) (ra : Option Addr) (rc : Nat) (row : List Int) (ee : Int) (w : World) (h : PAt w p P) (hm : mayB p.m = true) (hr : At w ra row) (hrl : row.length ≤ maxLen) :
    Calls Tryd.prog 87 #[ptval p P, .slice ra row.length rc, .int .i64 ee] w fun e w' => GivesO w (intoL p row ee) e w' := by
  have hz := mayB_size hm
  unfold sizeOk at hz
  obtain ⟨⟨st, ev, starts, ars, ends⟩, seen, secret⟩ := p
  obtain ⟨⟨a1, c1, a2, c2, a3, c3⟩, sa, sc, ta, tc⟩ := P
  dsimp only at hz
  obtain ⟨s, rfl⟩ : ∃ s : Nat, st = (s : Int) := ⟨st.toNat, by omega⟩
  exact rinto_go s ev starts ars ends seen secret a1 c1 a2 c2 a3 c3 sa sc ta tc ra rc row ee w (Hid.of h) (Hid.of hm) (Hid.of hr) (Hid.of hrl)

end Go.Proofs.YtmlkpdeidpcidaaDoor
namespace Go.Proofs.YtmlkpdeidpcidaaDoor
open Go.RowKit
set_option linter.unusedVariables false

/-- How long a slice is. -/
def lenV (v : Value) : Nat := match v with
  | .slice _ n _ => n
  | _ => 0
/-- The cells of a layer. -/
def LayK (n : Nat) (W : World) (g : Nat) (L : List Kno) : Prop := ∀ (k : Nat) (p : Kno), L[k]? = some p → ∃ x z, W.cell? ⟨g, k * 2, none⟩ = some x ∧ W.cell? ⟨g, k * 2 + 1, none⟩ = some z ∧ InnW n W x p.1 ∧ InnW n W z p.2
theorem LayK.below {n : Nat} {W W' : World} {g : Nat} {L : List Kno} (h : LayK n W g L) (hb : Below W.heap.size W W') (hg : g < W.heap.size) (hn : n ≤ W.heap.size) : LayK n W' g L := fun k p hk => by
  obtain ⟨x, z, c1, c2, i1, i2⟩ := h k p hk
  exact ⟨x, z, (hb.cell (p := ⟨g, k * 2, none⟩) hg).trans c1, (hb.cell (p := ⟨g, k * 2 + 1, none⟩) hg).trans c2, i1.below hb hn, i2.below hb hn⟩
theorem OwnKn.layK {n : Nat} {W : World} {B : Nat} {v : Value} {L : List Kno} (h : OwnKn n W B v L) (hL : 0 < L.length) : ∃ g cap, v = .slice (some ⟨g, 0, none⟩) L.length cap ∧ B ≤ g ∧ g < W.heap.size ∧ LayK n W g L := by
  obtain ⟨g, cap, e, h1, h2, h3, hc⟩ := h.cells hL
  refine ⟨g, cap, e, h1, h2, fun k p hp => ?_⟩
  obtain ⟨x, z, c1, c3, i1, i3⟩ := hc k p hp
  rw [Nat.zero_add] at c1 c3
  exact ⟨x, z, c1, c3, i1, i3⟩
theorem OwnKn.nil {n : Nat} (W : World) (B : Nat) : OwnKn n W B (.slice none 0 0) [] := ⟨[], World.ownsRow_nil _ _ _ _, fun j x xs h => by simp at h⟩
theorem OwnKn.form {n : Nat} {W : World} {B : Nat} {v : Value} {L : List Kno} (h : OwnKn n W B v L) : ∃ a c, v = .slice a L.length c := by
  obtain ⟨vs, ho, -⟩ := h
  obtain ⟨a, c, e, -, -, -⟩ := own_form2 ho
  exact ⟨a, c, e⟩
/-- What next is, from the world U on. -/
structure KX (n : Nat) (U W : World) (v : Value) (L : List Kno) : Prop where
  bel : Below U.heap.size U W
  ow : OwnKn n W U.heap.size v L
  nU : n ≤ U.heap.size
section
variable {n : Nat} {U W : World} {v : Value} {L : List Kno}
theorem KX.below {W' : World} (h : KX n U W v L) (hb : Below W.heap.size W W') : KX n U W' v L :=
  ⟨h.bel.trans (hb.mono h.bel.size), h.ow.below hb (Nat.le_trans h.nU h.bel.size), h.nU⟩
theorem KX.push {W2 W3 : World} {v' x z : Value} {r : Kno} {vs : List Value} (h : KX n U W v L) (hW3 : Below W.heap.size W W3) (ho : W3.ownsRow U.heap.size 117 2 v L.length vs) (hi : ∀ (j : Nat) (x : Value) (xs : List Int), vs[j]? = some x → (kns L)[j]? = some xs → InnW n W3 x xs) (hx : InnW n W3 x r.1) (hz : InnW n W3 z r.2) (o1 : W2.ownsRow U.heap.size 117 2 v' (L.length + 1) (vs ++ [x, z])) (g : W3.grownBy W2 v.ownBlock) : KX n U W2 v' (L ++ [r]) := by
  have h3 := h.below hW3
  have low : ∀ j, j < U.heap.size → W2.heap[j]? = W3.heap[j]? := fun j hj => g.block j (Nat.lt_of_lt_of_le hj h3.bel.size) (fun e => by have := (World.ownsRow.lt ho j e.symm).1; omega)
  have hty : ∀ (q : Nat) (cs : Array Value) (t : TypeId), t ≠ 117 → W3.heap[q]? = some (.cells cs t (0, 0)) → W2.heap[q]? = W3.heap[q]? := fun q cs t ht hq => g.block q (Array.getElem?_eq_some_iff.1 hq).1 (fun e => by
    obtain ⟨c2, h2⟩ := own_type ho e.symm
    rw [hq] at h2; cases h2; exact ht rfl)
  have hnU := h.nU
  have kp : ∀ {y : Value} {ys : List Int}, InnW n W3 y ys → InnW n W2 y ys := fun hy => hy.kept g.size (fun j hj => low j (by omega)) (fun q cs hq => hty q cs _ (by decide) hq)
  refine ⟨h3.bel.grown g h3.bel.size (fun j hj => (World.ownsRow.lt ho j hj).1), ?_, h.nU⟩
  have hl : vs.length = L.length * 2 := ho.1
  refine ⟨vs ++ [x, z], by rw [List.length_append]; exact o1, fun j u us e1 e2 => ?_⟩
  rw [kns_append] at e2
  have hl2 := kns_len L
  by_cases hj : j < L.length * 2
  · rw [List.getElem?_append_left (by omega)] at e1
    rw [List.getElem?_append_left (by omega)] at e2
    exact kp (hi j u us e1 e2)
  · rw [List.getElem?_append_right (by omega)] at e1 e2
    rw [hl] at e1
    rw [hl2] at e2
    generalize j - L.length * 2 = i at e1 e2
    have e2' : [r.1, r.2][i]? = some us := e2
    match i, e1, e2' with
    | 0, e1, e2 =>
      have q1 : x = u := by simpa using e1
      have q2 : r.1 = us := by simpa using e2
      rw [← q1, ← q2]; exact kp hx
    | 1, e1, e2 =>
      have q1 : z = u := by simpa using e1
      have q2 : r.2 = us := by simpa using e2
      rw [← q1, ← q2]; exact kp hz
    | i + 2, e1, e2 => simp at e1
theorem kns_set : ∀ (L : List Kno) (i : Nat) (r : List Int) (u : List Int), (∃ q, L[i]? = some (r, q)) → kns (L.set i (r, u)) = (kns L).set (i * 2 + 1) u
  | [], i, r, u, h => by obtain ⟨q, h⟩ := h; simp at h
  | a :: L, 0, r, u, h => by
    obtain ⟨q, h⟩ := h
    have : a = (r, q) := by simpa using h
    subst this; simp [kns]
  | a :: L, i + 1, r, u, h => by
    have ih := kns_set L i r u (by obtain ⟨q, h⟩ := h; exact ⟨q, by simpa using h⟩)
    rw [List.set_cons_succ, kns, ih, kns, show (i + 1) * 2 + 1 = (i * 2 + 1) + 1 + 1 by omega, List.set_cons_succ, List.set_cons_succ]
/-- Another word in one place. -/
theorem KX.setW {z : Value} {u : List Int} {g c i : Nat} {q : Kno} (h : KX n U W (.slice (some ⟨g, 0, none⟩) L.length c) L) (hq : L[i]? = some q) (hz : InnW n W z u) : KX n U (W.setCell ⟨g, i * 2 + 1, none⟩ z) (.slice (some ⟨g, 0, none⟩) L.length c) (L.set i (q.1, u)) := by
  obtain ⟨vs, ho, hi⟩ := h.ow
  have hgl := World.ownsRow.lt ho g rfl
  have hty : ∃ cs, W.heap[g]? = some (.cells cs 117 (0, 0)) := own_type ho rfl
  obtain ⟨cs0, hcs0⟩ := hty
  have kp : ∀ {y : Value} {ys : List Int}, InnW n W y ys → InnW n (W.setCell ⟨g, i * 2 + 1, none⟩ z) y ys := fun hy => hy.kept (by simp [World.setCell]) (fun j hj => Below.heap_setCell W ⟨g, i * 2 + 1, none⟩ z j (by have := h.nU; have := hgl.1; show j ≠ g; omega)) (fun q' cs hq' => Below.heap_setCell W ⟨g, i * 2 + 1, none⟩ z q' (fun e => by
    have e : q' = g := e
    rw [e, hcs0] at hq'; cases hq'))
  have hil := (List.getElem?_eq_some_iff.1 hq).1
  refine ⟨h.bel.setCell (p := ⟨g, i * 2 + 1, none⟩) (show U.heap.size ≤ g from hgl.1) z, ⟨vs.set (i * 2 + 1) z, ?_, fun j y ys e1 e2 => ?_⟩, h.nU⟩
  · rw [List.length_set]
    refine ⟨by rw [List.length_set]; exact ho.1, ?_⟩
    rcases ho.2 with ⟨h1, -⟩ | ⟨g', cap, cur, h1, hg, hh, hnc, hcm, hcs, ht⟩
    · cases h1
    · cases h1
      refine .inr ⟨g, c, cur.setIfInBounds (i * 2 + 1) z, rfl, hg, ?_, hnc, hcm, by simp [hcs], ?_⟩
      · have := Blk.set (show Blk W g 117 cur from hh) (i * 2 + 1) z
        exact this
      · rw [Array.toList_setIfInBounds, List.take_set, ht]
  · rw [kns_set L i q.1 u ⟨q.2, hq⟩] at e2
    by_cases hj : j = i * 2 + 1
    · subst hj
      have hl : i * 2 + 1 < vs.length := by have := ho.1; omega
      have hl2 : i * 2 + 1 < (kns L).length := by rw [kns_len]; omega
      rw [List.getElem?_set_self hl] at e1
      rw [List.getElem?_set_self hl2] at e2
      have q1 := Option.some.inj e1
      have q2 := Option.some.inj e2
      rw [← q1, ← q2]; exact kp hz
    · rw [List.getElem?_set_ne (Ne.symm hj)] at e1 e2
      exact kp (hi j y ys e1 e2)
end
/-- l and next together. -/
theorem KF.join {w W W2 : World} {p : Plant} {P : PTL} {v v' : Value} {L N : List Kno} {vs ns : List Value} (h : KF w W p P v L) (ho : W.ownsRow (w.heap.size + 1) 117 2 v L.length vs) (hi : ∀ (j : Nat) (x : Value) (xs : List Int), vs[j]? = some x → (kns L)[j]? = some xs → InnW w.heap.size W x xs) (hns : ns.length = N.length * 2) (hn : ∀ (j : Nat) (x : Value) (xs : List Int), ns[j]? = some x → (kns N)[j]? = some xs → InnW w.heap.size W x xs) (o1 : W2.ownsRow (w.heap.size + 1) 117 2 v' (L.length + N.length) (vs ++ ns)) (g : W.grownBy W2 v.ownBlock) :
    KF w W2 p P v' (L ++ N) := by
  have low : ∀ j, j < w.heap.size + 1 → W2.heap[j]? = W.heap[j]? := fun j hj => g.block j (Nat.lt_of_lt_of_le hj h.hB) (fun e => by have := (World.ownsRow.lt ho j e.symm).1; omega)
  have hty : ∀ (q : Nat) (cs : Array Value) (t : TypeId), t ≠ 117 → W.heap[q]? = some (.cells cs t (0, 0)) → W2.heap[q]? = W.heap[q]? := fun q cs t ht hq => g.block q (Array.getElem?_eq_some_iff.1 hq).1 (fun e => by
    obtain ⟨c2, h2⟩ := own_type ho e.symm
    rw [hq] at h2; cases h2; exact ht rfl)
  have kp : ∀ {y : Value} {ys : List Int}, InnW w.heap.size W y ys → InnW w.heap.size W2 y ys := fun hy => hy.kept g.size (fun j hj => low j (by omega)) (fun q cs hq => hty q cs _ (by decide) hq)
  refine ⟨h.bel.grown g h.bel.size (fun j hj => Nat.le_trans (by omega) (World.ownsRow.lt ho j hj).1), (low _ (by omega)).trans h.kp, ?_, Nat.le_trans h.hB g.size⟩
  have hl : vs.length = L.length * 2 := ho.1
  refine ⟨vs ++ ns, by rw [List.length_append]; exact o1, fun j u us e1 e2 => ?_⟩
  rw [kns_append] at e2
  have hl2 := kns_len L
  by_cases hj : j < L.length * 2
  · rw [List.getElem?_append_left (by omega)] at e1
    rw [List.getElem?_append_left (by omega)] at e2
    exact kp (hi j u us e1 e2)
  · rw [List.getElem?_append_right (by omega)] at e1 e2
    rw [hl] at e1
    rw [hl2] at e2
    exact kp (hn _ u us e1 e2)

end Go.Proofs.YtmlkpdeidpcidaaDoor
namespace Go.Proofs.YtmlkpdeidpcidaaDoor
open Go.RowKit
set_option linter.unusedVariables false
set_option linter.unusedSectionVars false

theorem wordS_cons (seen u : List Int) (e : Nat) : wordS seen ((e : Int) :: u) = seen[e]?.getD 0 :: wordS seen u := by simp [wordS]
theorem knL_set (seen : List Int) (l : List (List Int × List Int)) (i : Nat) (s : List Int) (u : List Int) (e : Nat) : knL seen (l.set i (s, (e : Int) :: u)) = (knL seen l).set i (s, seen[e]?.getD 0 :: wordS seen u) := by
  unfold knL; rw [List.map_set, wordS_cons]
theorem knL_push (seen : List Int) (l : List (List Int × List Int)) (s u : List Int) (e : Nat) : knL seen (l ++ [(s, (e : Int) :: u)]) = knL seen l ++ [(s, seen[e]?.getD 0 :: wordS seen u)] := by
  unfold knL; rw [List.map_append, ← wordS_cons]; rfl
theorem knL_append (seen : List Int) (l m : List (List Int × List Int)) : knL seen (l ++ m) = knL seen l ++ knL seen m := by unfold knL; rw [List.map_append]
section
variable {σ : Type} [DecidableEq σ] {op : Nat → σ → σ}
theorem posK_hit : ∀ {l : List (σ × List Int)} {s : σ} {c : Nat} {q : σ × List Int}, (∀ (j : Nat) (y : σ × List Int), j < c → l[j]? = some y → y.1 ≠ s) → l[c]? = some q → q.1 = s → posK l s = c
  | [], s, c, q, _, h, _ => by simp at h
  | a :: r, s, 0, q, _, h, e => by
    have : a = q := by simpa using h
    subst this
    unfold posK; rw [if_pos e]
  | a :: r, s, c + 1, q, hl, h, e => by
    unfold posK
    rw [if_neg (hl 0 a (by omega) rfl), posK_hit (l := r) (c := c) (q := q) (fun j y hj hy => hl (j + 1) y (by omega) (by simpa using hy)) (by simpa using h) e]
theorem posK_miss : ∀ {l : List (σ × List Int)} {s : σ}, (∀ (j : Nat) (y : σ × List Int), l[j]? = some y → y.1 ≠ s) → posK l s = l.length
  | [], s, _ => rfl
  | a :: r, s, hl => by
    unfold posK
    rw [if_neg (hl 0 a rfl), posK_miss (l := r) (fun j y hy => hl (j + 1) y (by simpa using hy)), List.length_cons]
variable {l next : List (σ × List Int)} {x : σ × List Int} {e : Nat}
theorem bwAdd_known (h : knownB l (op e x.1) = true) : bwAdd op l x next e = next := by unfold bwAdd; rw [if_pos h]
theorem bwAdd_new (h : knownB l (op e x.1) = false) (hp : posK next (op e x.1) = next.length) : bwAdd op l x next e = next ++ [(op e x.1, (e : Int) :: x.2)] := by unfold bwAdd; rw [if_neg (by rw [h]; simp), if_pos hp]
theorem bwAdd_less {c : Nat} {q : σ × List Int} (h : knownB l (op e x.1) = false) (hp : posK next (op e x.1) = c) (hq : next[c]? = some q) (hl : lessB ((e : Int) :: x.2) q.2 = true) : bwAdd op l x next e = next.set c (op e x.1, (e : Int) :: x.2) := by
  have hc := (List.getElem?_eq_some_iff.1 hq).1
  unfold bwAdd; rw [if_neg (by rw [h]; simp), hp, if_neg (by omega), hq, Option.map_some, Option.getD_some, if_pos hl]
theorem bwAdd_not {c : Nat} {q : σ × List Int} (h : knownB l (op e x.1) = false) (hp : posK next (op e x.1) = c) (hq : next[c]? = some q) (hl : lessB ((e : Int) :: x.2) q.2 = false) : bwAdd op l x next e = next := by
  have hc := (List.getElem?_eq_some_iff.1 hq).1
  unfold bwAdd; rw [if_neg (by rw [h]; simp), hp, if_neg (by omega), hq, Option.map_some, Option.getD_some, if_neg (by rw [hl]; simp)]
theorem bw_mid {ev : Nat} {layer : List (σ × List Int)} (k e : Nat) (x : σ × List Int) : NX op l (pairsOf (layer.take k) ev ++ evsOf x e) (bwRow op l x (bwLay op l ev (layer.take k)) e) := nx_row (nx_all l ev (layer.take k)) x e
theorem bw_in {s0 : σ} {ev n : Nat} {layer : List (σ × List Int)} (h : LBk op s0 ev n l layer) {k : Nat} (hx : layer[k]? = some x) {e : Nat} (he : e ≤ ev) : ∀ y ∈ bwRow op l x (bwLay op l ev (layer.take k)) e, (∃ a b, y.1 = op b a ∧ b < ev) ∧ ∀ c ∈ y.2, 0 ≤ c ∧ c < (ev : Int) := fun y hy => by
  obtain ⟨x', e', hm, e1, e2⟩ := (bw_mid (op := op) (l := l) (ev := ev) (layer := layer) k e x).run y hy
  have hin : x' ∈ layer ∧ e' < ev := by
    rcases List.mem_append.1 hm with hm | hm
    · obtain ⟨h1, h2⟩ := mem_pairs.1 hm
      exact ⟨List.mem_of_mem_take h1, h2⟩
    · obtain ⟨q, hq, e3⟩ := List.mem_map.1 hm
      cases e3
      exact ⟨List.mem_of_getElem? hx, Nat.lt_of_lt_of_le (List.mem_range.1 hq) he⟩
  refine ⟨⟨x'.1, e', e1, hin.2⟩, fun c hc => ?_⟩
  rw [e2] at hc
  rcases List.mem_cons.1 hc with rfl | hc
  · omega
  · exact (h.run x' ((h.lay x').1 hin.1).1).2.1 c hc
end
theorem bw_len {p : Plant} (z : p.m.st ≤ 6) {ev n : Nat} {l layer : List (List Int × List Int)} {x : List Int × List Int} (h : LBk (opB p) (rngI p.m.st.toNat) ev n l layer) {k : Nat} (hx : layer[k]? = some x) {e : Nat} (he : e ≤ ev) : (bwRow (opB p) l x (bwLay (opB p) l ev (layer.take k)) e).length ≤ 64 := by
  have h1 := nodup_sub (m := subs 6) (bw_mid (op := opB p) (l := l) (ev := ev) (layer := layer) k e x).nd (fun s hs => by
    obtain ⟨y, hy, rfl⟩ := List.mem_map.1 hs
    obtain ⟨⟨a, b, e1, -⟩, -⟩ := bw_in h hx he y hy
    rw [e1]
    exact mem_subs 6 _ (inc_flt (inc_rng9 _) _) (fun y hy => by have := ((mem_into _ _ _ _).1 hy).1; omega))
  rw [List.length_map, subs_len] at h1
  exact h1

end Go.Proofs.YtmlkpdeidpcidaaDoor
