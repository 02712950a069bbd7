/-
  The walk of jalousieref9.Backward.
-/
import Derived.Test.YtmlkpdeidpcidaaDoorH32
namespace Go.Proofs.YtmlkpdeidpcidaaDoor
open Go.RowKit
set_option linter.unusedVariables false

theorem bwGo_more {σ : Type} [DecidableEq σ] {op : Nat → σ → σ} {ev f : Nat} {l layer : List (σ × List Int)} (h : 0 < layer.length) : bwGo op ev (f + 1) l layer = bwGo op ev f (l ++ bwLay op l ev layer) (bwLay op l ev layer) := by rw [bwGo, if_neg (by omega)]
theorem bwGo_stop {σ : Type} [DecidableEq σ] {op : Nat → σ → σ} {ev f : Nat} {l layer : List (σ × List Int)} (h : layer.length = 0) : bwGo op ev f l layer = l := by
  cases f with
  | zero => rfl
  | succ f => rw [bwGo, if_pos h]
theorem own_lit1 {W : World} {b : Nat} {x : Int} (h : Blk W b 3 #[.int .i64 x]) : Own W b (.slice (some ⟨b, 0, none⟩) 1 1) [x] :=
  ⟨rfl, .inr ⟨b, 1, #[.int .i64 x], rfl, Nat.le_refl _, h, Nat.le_refl _, (by decide), rfl, rfl⟩⟩
theorem run_append_zero {P : Program} {w : World} (base : Nat) (t ty e : TypeId) (i : TypeInfo) (size : Nat) (ht : P.underlying t = some (.slice e)) (hi : P.info? e = some i) (v : Value) (n : Nat) (xs : List Value) (hown : w.ownsRow base e size v n xs) (ad : Option Addr) (c : Nat) (hc : ad = none → c = 0) : (Builtin.append_ #[t, t] ty #[v, .slice ad 0 c]).run P w = .ok v w := by
  cases ad with
  | none => rw [hc rfl]; exact run_append_owned_none w base t ty e i size ht hi v n xs hown
  | some a =>
    rcases hown.2 with ⟨rfl, rfl⟩ | ⟨g, cap, cur, rfl, _, _, hnc, _⟩
    · simp [Builtin.append_, run_underlying ht, sizeOf, typeInfo, hi, Builtin.lenOf, Builtin.firstCells, loadCells, loadCellsFrom]
    · simp [Builtin.append_, run_underlying ht, sizeOf, typeInfo, hi, Builtin.lenOf, Builtin.firstCells, hnc, loadCells, loadCellsFrom, storeCells]
theorem wpList_append_zero {P : Program} {w : World} {ops : Array Oper} {rest : List Oper} {o : Oper} {a : Act} {Q : Exit → Act → World → Prop} (hgd : o.guard = none) (s x : Operand) (t : TypeId) (ho : o.op = .call { callee := .builtin .append, args := #[s, x], argTypes := #[t, t] }) (base : Nat) (e : TypeId) (i : TypeInfo) (size : Nat) (ht : P.underlying t = some (.slice e)) (hi : P.info? e = some i) (v : Value) (n : Nat) (xs : List Value) (hs : a.eval s = v) (hown : w.ownsRow base e size v n xs) (ad : Option Addr) (c : Nat) (hc : ad = none → c = 0) (hx : a.eval x = .slice ad 0 c) (h : wpList P ops Q rest (a.put o.dst v) w) : wpList P ops Q (o :: rest) a w := by
  refine wpList_plain hgd fun K hK => ?_
  have hrun := run_append_zero (P := P) (w := w) base t o.type e i size ht hi v n xs hown ad c hc
  unfold Oper.wp
  simp [execOp, ho, resolve, invoke, builtin, hs, hx, hrun, Result.andThen]
  exact hK _ _ h
theorem LayK.cellsOwn {n : Nat} {W : World} {g : Nat} {L : List Kno} (h : LayK n W g L) : ∃ ns : List Value, ns.length = L.length * 2 ∧ (∀ j u, ns[j]? = some u → W.cell? ((⟨g, 0, none⟩ : Addr).add j) = some u) ∧ (∀ (j : Nat) (y : Value) (ys : List Int), ns[j]? = some y → (kns L)[j]? = some ys → InnW n W y ys) ∧ ∀ u ∈ ns, u.oneCell' = true := by
  have key : ∀ (L : List Kno) (o : Nat), (∀ (k : Nat) (p : Kno), L[k]? = some p → ∃ x z, W.cell? ⟨g, (o + k) * 2, none⟩ = some x ∧ W.cell? ⟨g, (o + k) * 2 + 1, none⟩ = some z ∧ InnW n W x p.1 ∧ InnW n W z p.2) → ∃ ns : List Value, ns.length = L.length * 2 ∧ (∀ (j : Nat) u, ns[j]? = some u → W.cell? ⟨g, o * 2 + j, none⟩ = some u) ∧ (∀ (j : Nat) (y : Value) (ys : List Int), ns[j]? = some y → (kns L)[j]? = some ys → InnW n W y ys) ∧ ∀ u ∈ ns, u.oneCell' = true := by
    intro L
    induction L with
    | nil => intro o _; exact ⟨[], rfl, by simp, by simp, by simp⟩
    | cons p r ih =>
      intro o hc
      obtain ⟨x, z, d1, d2, i1, i2⟩ := hc 0 p rfl
      obtain ⟨ns, h1, h2, h3, h4⟩ := ih (o + 1) (fun k q hq => by
        have := hc (k + 1) q (by simpa using hq)
        rw [show o + (k + 1) = o + 1 + k by omega] at this
        exact this)
      refine ⟨x :: z :: ns, by simp [h1]; omega, fun j u hu => ?_, fun j y ys e1 e2 => ?_, fun u hu => ?_⟩
      · match j, hu with
        | 0, hu =>
          have : x = u := by simpa using hu
          subst this; exact d1
        | 1, hu =>
          have : z = u := by simpa using hu
          subst this; exact d2
        | j + 2, hu =>
          have := h2 j u (by simpa using hu)
          rw [show o * 2 + (j + 2) = (o + 1) * 2 + j by omega]; exact this
      · match j, e1, e2 with
        | 0, e1, e2 =>
          have q1 : x = y := by simpa using e1
          have q2 : p.1 = ys := by simpa [kns] using e2
          rw [← q1, ← q2]; exact i1
        | 1, e1, e2 =>
          have q1 : z = y := by simpa using e1
          have q2 : p.2 = ys := by simpa [kns] using e2
          rw [← q1, ← q2]; exact i2
        | j + 2, e1, e2 => exact h3 j y ys (by simpa using e1) (by simpa [kns] using e2)
      · rcases List.mem_cons.1 hu with rfl | hu
        · exact i1.one
        · rcases List.mem_cons.1 hu with rfl | hu
          · exact i2.one
          · exact h4 u hu
  obtain ⟨ns, h1, h2, h3, h4⟩ := key L 0 (fun k p hp => by rw [Nat.zero_add]; exact h k p hp)
  exact ⟨ns, h1, fun j u hu => by rw [addr0_add, Nat.zero_add]; have := h2 j u hu; rwa [Nat.zero_mul, Nat.zero_add] at this, h3, h4⟩

theorem LayK.kept_grown {w W W2 : World} {p : Plant} {P : PTL} {v : Value} {L N : List Kno} {vs : List Value} {g m : Nat} (hl : LayK w.heap.size W g N) (h : KF w W p P v L) (ho : W.ownsRow (w.heap.size + 1) 117 2 v m vs) (gr : W.grownBy W2 v.ownBlock) (hne : v.ownBlock ≠ some g) (hg : g < W.heap.size) : LayK w.heap.size W2 g N := fun k p hp => by
  have low : ∀ j, j < w.heap.size + 1 → W2.heap[j]? = W.heap[j]? := fun j hj => gr.block j (Nat.lt_of_lt_of_le hj h.hB) (fun e => by have := (World.ownsRow.lt ho j e.symm).1; omega)
  have hty : ∀ (q : Nat) (cs : Array Value) (t : TypeId), t ≠ 117 → W.heap[q]? = some (.cells cs t (0, 0)) → W2.heap[q]? = W.heap[q]? := fun q cs t ht hq => gr.block q (Array.getElem?_eq_some_iff.1 hq).1 (fun e => by
    obtain ⟨c2, h2⟩ := own_type ho e.symm
    rw [hq] at h2; cases h2; exact ht rfl)
  have kp : ∀ {y : Value} {ys : List Int}, InnW w.heap.size W y ys → InnW w.heap.size W2 y ys := fun hy => hy.kept gr.size (fun j hj => low j (by omega)) (fun q cs hq => hty q cs _ (by decide) hq)
  obtain ⟨x, z, c1, c2, i1, i2⟩ := hl k p hp
  have hb : W2.heap[g]? = W.heap[g]? := gr.block g hg (fun e => hne e.symm)
  have cc : ∀ o, W2.cell? ⟨g, o, none⟩ = W.cell? ⟨g, o, none⟩ := fun o => World.cell?_of_block (w := W) hb
  exact ⟨x, z, (cc _).trans c1, (cc _).trans c2, kp i1, kp i2⟩

set_option maxRecDepth 100000 in
set_option maxHeartbeats 32000000 in
theorem rback_go (st : Nat) (ev : Int) (starts : List Int) (ars : List Arr) (ends seen secret : List Int) (a1 : Option Addr) (c1 : Nat) (a2 : Option Addr) (c2 : Nat) (a3 : Option Addr) (c3 : Nat) (sa : Option Addr) (sc : Nat) (ta : Option Addr) (tc : Nat) (w : World) (h : Hid (PAt w ⟨⟨(st : Int), ev, starts, ars, ends⟩, seen, secret⟩ ⟨⟨a1, c1, a2, c2, a3, c3⟩, sa, sc, ta, tc⟩)) (hm : Hid (mayB ⟨(st : Int), ev, starts, ars, ends⟩ = true)) (z : st ≤ 6) (h8 : seen.length ≤ 8) (hseenI : Hid (Inc seen)) :
    Calls Tryd.prog 40 #[ptval ⟨⟨(st : Int), ev, starts, ars, ends⟩, seen, secret⟩ ⟨⟨a1, c1, a2, c2, a3, c3⟩, sa, sc, ta, tc⟩] w fun e w' => KnoPost w (knL seen (bwdL ⟨⟨(st : Int), ev, starts, ars, ends⟩, seen, secret⟩)) e w' := by
  obtain ⟨i0, hi, hz0, hz1, hz2⟩ := info_parts Tryd.infoKnown
  obtain ⟨j0, ji, jz0, jz1, jz2⟩ := info_parts Tryd.infoInt
  have hBD : Hid (∀ (n : Nat) (l layer : List (List Int × List Int)), LBk (opB ⟨⟨(st : Int), ev, starts, ars, ends⟩, seen, secret⟩) (rngI st) seen.length n l layer → l.length ≤ 64) := fun n l layer hI => bwd_bound (p := ⟨⟨(st : Int), ev, starts, ars, ends⟩, seen, secret⟩) hm.out (show (st : Int) ≤ 6 by omega) (by show LBk _ (rngI (st : Int).toNat) _ _ _ _; rw [Int.toNat_natCast]; exact hI)
  have hE0 : Hid (bwdL ⟨⟨(st : Int), ev, starts, ars, ends⟩, seen, secret⟩ = bwGo (opB ⟨⟨(st : Int), ev, starts, ars, ends⟩, seen, secret⟩) seen.length 65 [((rngI st), [])] [((rngI st), [])]) := by show bwdL ⟨⟨(st : Int), ev, starts, ars, ends⟩, seen, secret⟩ = _; unfold bwdL; simp only [Int.toNat_natCast]
  have hI0 : Hid (LBk (opB ⟨⟨(st : Int), ev, starts, ars, ends⟩, seen, secret⟩) (rngI st) seen.length 0 [((rngI st), [])] [((rngI st), [])]) := lbk_start _ _
  have B : Hid (Below w.heap.size w (w.alloc (.cells (ptcells ⟨⟨(st : Int), ev, starts, ars, ends⟩, seen, secret⟩ ⟨⟨a1, c1, a2, c2, a3, c3⟩, sa, sc, ta, tc⟩) 44))) := (Below.refl _ _).alloc (Nat.le_refl _) _
  have K : Hid (Blk (w.alloc (.cells (ptcells ⟨⟨(st : Int), ev, starts, ars, ends⟩, seen, secret⟩ ⟨⟨a1, c1, a2, c2, a3, c3⟩, sa, sc, ta, tc⟩) 44)) w.heap.size 44 (ptcells ⟨⟨(st : Int), ev, starts, ars, ends⟩, seen, secret⟩ ⟨⟨a1, c1, a2, c2, a3, c3⟩, sa, sc, ta, tc⟩)) := Blk.new w _ _
  go_enter Tryd.func40, Tryd.ntmps40
  go_wp2_with fail
  go_loopw [3, 4] (fun v i wr => ∃ k : Nat, i = .int .i64 k ∧ k ≤ st ∧ Hid (Own wr (w.heap.size + 1) v (rngI k)) ∧ Hid (Below w.heap.size w wr) ∧ Hid (Blk wr w.heap.size 44 (ptcells ⟨⟨(st : Int), ev, starts, ars, ends⟩, seen, secret⟩ ⟨⟨a1, c1, a2, c2, a3, c3⟩, sa, sc, ta, tc⟩))) (fun _ i _ => st - (intOf i).toNat)
  case atStart => exact ⟨0, rfl, Nat.zero_le _, own_nil _ _, B, K⟩
  case round =>
    clear B K
    obtain ⟨k, rfl, hk, HO, B, K⟩ := hrel
    have hlo : w.heap.size + 1 ≤ wr.heap.size := K.out.lt
    have x0 : wr.cell? ⟨w.heap.size, 0, none⟩ = some (.int .i64 (st : Int)) := K.out.cell 0 rfl
    obtain ⟨fa, fc, hfa, -, -, -⟩ := own_form2 HO.out
    rw [rngI_len] at hfa
    subst hfa
    by_cases hlt : k < st
    · have HSU := Hid.of (rngI_succ k)
      have hln := rngI_len k
      have hown : wr.ownsRow (w.heap.size + 1) 3 1 (.slice fa k fc) k ((rngI k).map (Value.int .i64)) := by
        have := HO.out
        unfold Own at this
        rwa [hln] at this
      have HOW := Hid.of hown
      clear hown
      go_wp2_with (at_builtin; refine wpList_append_block _ rfl (.tmp 20) (.tmp 22) 22 rfl (w.heap.size + 1) 3 j0 (.int .i64 0) 1 8 Tryd.underlying22 ji jz0 jz1 jz2 rfl (by decide) _ _ _ rfl (World.ownsRow.alloc HOW.out _) ⟨wr.heap.size, 0, none⟩ 1 1 [.int .i64 (k : Int)] rfl rfl (cell_one_new _ _ _) (by intro u hu; simp at hu; subst hu; rfl) (by decide) (by unfold maxLen; omega) (by omega) (by simp; omega) ?_)
      intro v9 w9 o9 g9 n9
      have hbl : Below (w.heap.size + 1) wr w9 := ((Below.refl _ wr).alloc hlo _).grown g9 (by simp; omega) (fun j hj => (World.ownsRow.lt HOW.out j hj).1)
      have Q1 : Hid (Own w9 (w.heap.size + 1) v9 (rngI (k + 1))) := by
        show Own _ _ _ _
        rw [HSU.out]
        unfold Own
        rw [List.length_append, List.map_append, hln]
        exact o9
      have Q2 := Hid.of (B.out.trans (hbl.mono (Nat.le_succ _)))
      have Q3 := Hid.of (K.out.below hbl (Nat.lt_succ_self _))
      clear o9 g9 n9 hbl x0
      go_wp2_with fail
      go_roundw
      case rel => exact ⟨k + 1, by go_num, by omega, Q1, Q2, Q3⟩
      case measure => simp [intOf]; omega
    · have hk2 : st = k := by omega
      subst hk2
      -- what is known first
      have bX : Below wr.heap.size wr (wr.alloc (.cells #[.slice fa st fc, .slice none 0 0] 117)) := (Below.refl _ _).alloc (Nat.le_refl _) _
      have IV : Hid (InnW w.heap.size wr (.slice fa st fc) (rngI st)) := by
        have := InnW.of_own (n := w.heap.size) HO.out
        exact this
      have HX : Hid (KF w (wr.alloc (.cells #[.slice fa st fc, .slice none 0 0] 117)) ⟨⟨(st : Int), ev, starts, ars, ends⟩, seen, secret⟩ ⟨⟨a1, c1, a2, c2, a3, c3⟩, sa, sc, ta, tc⟩ (.slice (some ⟨wr.heap.size, 0, none⟩) 1 1) (knL seen [(rngI st, [])])) := by
        refine ⟨B.out.trans (bX.mono B.out.size), K.out.below bX K.out.lt, ⟨[.slice fa st fc, .slice none 0 0], ?_, fun j x xs e1 e2 => ?_⟩, by simp; omega⟩
        · exact World.ownsRow_lit wr (base := w.heap.size + 1) (e := 117) (size := 2) #[.slice fa st fc, .slice none 0 0] 1 hlo (by decide) rfl
        · have e2' : [rngI st, []][j]? = some xs := e2
          match j, e1, e2' with
          | 0, e1, e2 =>
            have q1 : Value.slice fa st fc = x := by simpa using e1
            have q2 : rngI st = xs := by simpa using e2
            rw [← q1, ← q2]
            exact IV.out.below bX B.out.size
          | 1, e1, e2 =>
            have q1 : Value.slice none 0 0 = x := by simpa using e1
            have q2 : [] = xs := by simpa using e2
            rw [← q1, ← q2]
            exact innW_nil _ _
          | j + 2, e1, e2 => simp at e1
      have HY : Hid (LayK w.heap.size (wr.alloc (.cells #[.slice fa st fc, .slice none 0 0] 117)) wr.heap.size (knL seen [(rngI st, [])])) := by
        obtain ⟨g, cap, e1, -, -, hl⟩ := HX.out.ow.layK (by simp [knL])
        cases e1
        exact hl
      have HYG : Hid (wr.heap.size < (wr.alloc (.cells #[.slice fa st fc, .slice none 0 0] 117)).heap.size) := by show _ < _; simp
      clear bX IV
      go_wp2_with fail
      clear x0 hlo HO B K
      revert HX HY HYG
      generalize wr.alloc (.cells #[.slice fa st fc, .slice none 0 0] 117) = X
      generalize wr.heap.size = bX
      intro HX HY HYG
      go_loopw [5, 6] (fun v5 v6 wr => ∃ (n f : Nat) (l layer : List (List Int × List Int)) (la : Option Addr) (lc : Nat), v6 = .slice la layer.length lc ∧ layer.length ≤ 64 ∧ Hid (KF w wr ⟨⟨(st : Int), ev, starts, ars, ends⟩, seen, secret⟩ ⟨⟨a1, c1, a2, c2, a3, c3⟩, sa, sc, ta, tc⟩ v5 (knL seen l)) ∧ Hid (layer.length = 0 ∨ ∃ lg, la = some ⟨lg, 0, none⟩ ∧ lg < wr.heap.size ∧ LayK w.heap.size wr lg (knL seen layer)) ∧ Hid (LBk (opB ⟨⟨(st : Int), ev, starts, ars, ends⟩, seen, secret⟩) (rngI st) seen.length n l layer) ∧ Hid (bwdL ⟨⟨(st : Int), ev, starts, ars, ends⟩, seen, secret⟩ = bwGo (opB ⟨⟨(st : Int), ev, starts, ars, ends⟩, seen, secret⟩) seen.length f l layer) ∧ Hid (64 - l.length + (if layer.length = 0 then 0 else 1) ≤ f) ∧ Hid (n + (if layer.length = 0 then 0 else 1) ≤ l.length)) (fun v5 v6 _ => 2 * (65 - lenV v5) + lenV v6)
      case atStart => exact ⟨0, 65, [((rngI st), [])], [((rngI st), [])], _, _, rfl, (by simp), HX, .inr ⟨_, rfl, HYG.out, HY.out⟩, hI0, hE0, (by show _ ≤ _; simp), (by show _ ≤ _; simp)⟩
      case round =>
        clear HX HY HYG hI0 hE0
        obtain ⟨n, f, l, layer, la, lc, rfl, hla64, HK, HLY, HI, HE, HFU, HNL⟩ := hrel
        obtain ⟨U, hU⟩ : ∃ U, U = wr := ⟨_, rfl⟩
        subst hU
        have hl64 : l.length ≤ 64 := hBD.out _ _ _ HI.out
        have hlpos : 0 < l.length := by
          obtain ⟨q, hq, -⟩ := HI.out.cov [] (by simp) (Nat.zero_le _)
          exact List.length_pos_of_mem hq
        obtain ⟨g5, c5, hv5, -, hg5, -, hck5⟩ := HK.out.ow.cellsK (by rw [knL_len]; exact hlpos)
        rw [knL_len] at hv5
        subst hv5
        have HG5 := Hid.of hg5
        have HCK := Hid.of hck5
        clear hg5 hck5
        by_cases h0 : 0 < layer.length
        · have hne : ¬ layer.length = 0 := by omega
          obtain ⟨lg, HLG, HLK⟩ : ∃ lg, Hid (lg < U.heap.size) ∧ Hid (la = some ⟨lg, 0, none⟩ ∧ LayK w.heap.size U lg (knL seen layer)) := by
            rcases HLY.out with q | ⟨lg, q1, q2, q3⟩
            · exact absurd q hne
            · exact ⟨lg, q2, q1, q3⟩
          obtain ⟨hla, hlk⟩ := HLK.out
          subst hla
          have HLKK := Hid.of hlk
          have hn63 : n ≤ 63 := by have := HNL.out; rw [if_neg hne] at this; omega
          have hf1 : 0 < f := by have := HFU.out; rw [if_neg hne] at this; omega
          clear hlk HLY HLK
          have HSU : Hid (w.heap.size ≤ U.heap.size) := HK.out.bel.size
          have KX0 : Hid (KX w.heap.size U U (.slice none 0 0) (knL seen (bwLay (opB ⟨⟨(st : Int), ev, starts, ars, ends⟩, seen, secret⟩) l seen.length (layer.take 0)))) := by
            refine ⟨Below.refl _ _, ?_, HSU.out⟩
            have : knL seen (bwLay (opB ⟨⟨(st : Int), ev, starts, ars, ends⟩, seen, secret⟩) l seen.length (layer.take 0)) = [] := by simp [bwLay, knL]
            rw [this]
            exact OwnKn.nil _ _
          have dly : decide ((0 : Int) < (layer.length : Int)) = true := decide_eq_true (by omega)
          go_wp2_with fail
          go_loopw [7, 8] (fun v7 i wr => ∃ k : Nat, i = .int .i64 k ∧ k ≤ layer.length ∧ Hid (KX w.heap.size U wr v7 (knL seen (bwLay (opB ⟨⟨(st : Int), ev, starts, ars, ends⟩, seen, secret⟩) l seen.length (layer.take k))))) (fun _ i _ => layer.length - (intOf i).toNat)
          case atStart => exact ⟨0, rfl, Nat.zero_le _, KX0⟩
          case round =>
            clear KX0
            obtain ⟨k, rfl, hk, HX⟩ := hrel
            by_cases hkl : k < layer.length
            · obtain ⟨x, HP⟩ : ∃ x, Hid (layer[k]? = some x) := ⟨_, List.getElem?_eq_getElem hkl⟩
              have hklI : (k : Int) < (layer.length : Int) := by omega
              have hklD : decide ((k : Int) < (layer.length : Int)) = true := by simpa using hklI
              go_wp2_with fail
              go_loopw [7, 9] (fun v7 i wr => ∃ e : Nat, i = .int .i64 e ∧ e ≤ seen.length ∧ Hid (KX w.heap.size U wr v7 (knL seen (bwRow (opB ⟨⟨(st : Int), ev, starts, ars, ends⟩, seen, secret⟩) l x (bwLay (opB ⟨⟨(st : Int), ev, starts, ars, ends⟩, seen, secret⟩) l seen.length (layer.take k)) e)))) (fun _ i _ => seen.length - (intOf i).toNat)
              case atStart => exact ⟨0, rfl, Nat.zero_le _, HX⟩
              case round =>
                clear HX hklI hklD
                obtain ⟨e, rfl, hee, HX⟩ := hrel
                have HIN := Hid.of (bw_in HI.out HP.out hee)
                have hN64 : (bwRow (opB ⟨⟨(st : Int), ev, starts, ars, ends⟩, seen, secret⟩) l x (bwLay (opB ⟨⟨(st : Int), ev, starts, ars, ends⟩, seen, secret⟩) l seen.length (layer.take k)) e).length ≤ 64 := bw_len (p := ⟨⟨(st : Int), ev, starts, ars, ends⟩, seen, secret⟩) (show (st : Int) ≤ 6 by omega) (by show LBk _ (rngI (st : Int).toNat) _ _ _ _; rw [Int.toNat_natCast]; exact HI.out) HP.out hee
                have HSuc : Hid ((bwRow (opB ⟨⟨(st : Int), ev, starts, ars, ends⟩, seen, secret⟩) l x (bwLay (opB ⟨⟨(st : Int), ev, starts, ars, ends⟩, seen, secret⟩) l seen.length (layer.take k)) (e + 1)) = bwAdd (opB ⟨⟨(st : Int), ev, starts, ars, ends⟩, seen, secret⟩) l x (bwRow (opB ⟨⟨(st : Int), ev, starts, ars, ends⟩, seen, secret⟩) l x (bwLay (opB ⟨⟨(st : Int), ev, starts, ars, ends⟩, seen, secret⟩) l seen.length (layer.take k)) e) e) := bwRow_succ _ _ _ _ _
                obtain ⟨N, HN⟩ : ∃ N, Hid (N = (bwRow (opB ⟨⟨(st : Int), ev, starts, ars, ends⟩, seen, secret⟩) l x (bwLay (opB ⟨⟨(st : Int), ev, starts, ars, ends⟩, seen, secret⟩) l seen.length (layer.take k)) e)) := ⟨_, rfl⟩
                rw [← HN.out] at HX HIN HSuc hN64
                have hxr := HI.out.run x ((HI.out.lay x).1 (List.mem_of_getElem? HP.out)).1
                have hwl : x.2.length ≤ 64 := by have := hxr.2.2; omega
                have HXR := Hid.of hxr.2.1
                clear hxr
                have HKr := Hid.of (HK.out.below HX.out.bel)
                have HCr : Hid (CellsK wr g5 0 (knL seen l)) := cellsK_below HCK.out HX.out.bel HG5.out
                obtain ⟨xv, zv, cx, cz, ix, iz⟩ := (HLKK.out.below HX.out.bel HLG.out HSU.out) k _ (knL_at HP.out)
                obtain ⟨xa, xc, rfl, hxa, hxl, -⟩ := ix.at
                obtain ⟨za, zc, rfl, hza, hzl, hzn⟩ := iz.at
                have HZ : Hid (At wr za (wordS seen x.2)) := hza
                have HZN := Hid.of hzn
                have HXA : Hid (At wr xa x.1) := hxa
                have HXL : Hid (x.1.length ≤ maxLen) := hxl
                have HLr : Hid (lg < wr.heap.size) := Nat.lt_of_lt_of_le HLG.out HX.out.bel.size
                clear ix iz hza hzl hzn hxa hxl
                dsimp only at cx cz
                obtain ⟨x0, x1, x2, x3, x4, x5, x6⟩ := ptcell_at HKr.out.kp
                dsimp only at x0 x1 x2 x3 x4 x5 x6
                obtain ⟨va7, vc7, hv7⟩ := HX.out.ow.form
                rw [knL_len] at hv7
                subst hv7
                by_cases hle : e < seen.length
                · rcases h.out.s.at_ with hnil | ⟨sb, so, hsa, hsb0, hcs⟩
                  · dsimp only at hnil
                    rw [hnil] at hle; simp at hle
                  dsimp only at hsa hcs
                  subst hsa
                  have hsb := Hid.of hsb0
                  obtain ⟨y, HY⟩ : ∃ y, Hid (y = seen[e]?.getD 0) := ⟨_, rfl⟩
                  have cy : wr.cell? ⟨sb, so + e, none⟩ = some (.int .i64 y) := by
                    rw [HY.out, ← List.getD_eq_getElem?_getD]
                    exact (HKr.out.bel.cell (p := ⟨sb, so + e, none⟩) hsb.out).trans (hcs e hle)
                  clear hsb0 hcs
                  have hleI : (e : Int) < (seen.length : Int) := by omega
                  have hleD : decide ((e : Int) < (seen.length : Int)) = true := by simpa using hleI
                  go_wp2_with fail
                  refine wp_region_held_drew (S := fun w' => w'.cell? ⟨w.heap.size, 0, none⟩ = some (.int .i64 (st : Int)) ∧ w'.cell? ⟨w.heap.size, 1, none⟩ = some (.int .i64 ev) ∧ w'.cell? ⟨w.heap.size, 2, none⟩ = some (.slice a1 starts.length c1) ∧ w'.cell? ⟨w.heap.size, 3, none⟩ = some (.slice a2 ars.length c2) ∧ w'.cell? ⟨w.heap.size, 4, none⟩ = some (.slice a3 ends.length c3) ∧ w'.cell? ⟨w.heap.size, 5, none⟩ = some (.slice (some ⟨sb, so, none⟩) seen.length sc) ∧ w'.cell? ⟨w.heap.size, 6, none⟩ = some (.slice ta secret.length tc) ∧ w'.cell? ⟨lg, k * 2, none⟩ = some (.slice xa x.1.length xc) ∧ w'.cell? ⟨sb, so + e, none⟩ = some (.int .i64 y)) (by kernel_rfl) ⟨x0, x1, x2, x3, x4, x5, x6, cx, cy⟩ (fun hS => ?_)
                  have bd : Below wr.heap.size wr wr.drew := (Below.refl _ _).drew
                  have KXd := Hid.of (HX.out.below bd)
                  have HXd : Hid (At wr.drew xa x.1) := At.drewN HXA.out 1
                  have CX : Hid (wr.drew.cell? ⟨lg, k * 2, none⟩ = some (.slice xa x.1.length xc)) := cx
                  have CY : Hid (wr.drew.cell? ⟨sb, so + e, none⟩ = some (.int .i64 y)) := cy
                  have CZ : Hid (wr.drew.cell? ⟨lg, k * 2 + 1, none⟩ = some (.slice za (wordS seen x.2).length zc)) := cz
                  have HZd : Hid (At wr.drew za (wordS seen x.2)) := At.drewN HZ.out 1
                  have HLd : Hid (lg < wr.drew.heap.size) := HLr.out
                  clear x0 x1 x2 x3 x4 x5 x6 cx cy cz HX HXA HZ HLr HKr HCr bd
                  revert hS KXd HXd CX CY CZ HZd HLd
                  generalize wr.drew = Y
                  intro hS KXd HXd CX CY CZ HZd HLd
                  refine wpAnyH_take (i := 0) (v := ptval ⟨⟨(st : Int), ev, starts, ars, ends⟩, seen, secret⟩ ⟨⟨a1, c1, a2, c2, a3, c3⟩, some ⟨sb, so, none⟩, sc, ta, tc⟩) rfl (by kernel_rfl) (by kernel_rfl) (by kernel_rfl) (fun _ _ _ h => h) (Or.inl ⟨by kernel_rfl, fun w' hw' => by obtain ⟨q0, q1, q2, q3, q4, q5, q6, q7, q8⟩ := hw'; go_simp⟩) hS ?_
                  refine wpAnyH_take (i := 1) (v := .slice (some ⟨lg, 0, none⟩) layer.length lc) rfl (by kernel_rfl) (by kernel_rfl) (by kernel_rfl) (fun _ _ _ h => h) (Or.inl ⟨by kernel_rfl, fun w' hw' => by obtain ⟨q0, q1, q2, q3, q4, q5, q6, q7, q8⟩ := hw'; go_simp⟩) hS ?_
                  refine wpAnyH_take (i := 2) (v := .int .i64 k) rfl (by kernel_rfl) (by kernel_rfl) (by kernel_rfl) (fun _ _ _ h => h) (Or.inl ⟨by kernel_rfl, fun w' hw' => by obtain ⟨q0, q1, q2, q3, q4, q5, q6, q7, q8⟩ := hw'; go_simp⟩) hS ?_
                  refine wpAnyH_take (i := 3) (v := .pointer (some ⟨lg, k * 2, none⟩)) rfl (by kernel_rfl) (by kernel_rfl) (by kernel_rfl) (fun _ _ _ h => h) (Or.inl ⟨by kernel_rfl, fun w' hw' => by obtain ⟨q0, q1, q2, q3, q4, q5, q6, q7, q8⟩ := hw'; go_simp⟩) hS ?_
                  refine wpAnyH_take (i := 4) (v := .pointer (some ⟨lg, k * 2, none⟩)) rfl (by kernel_rfl) (by kernel_rfl) (by kernel_rfl) (fun _ _ _ h => h) (Or.inl ⟨by kernel_rfl, fun w' hw' => by obtain ⟨q0, q1, q2, q3, q4, q5, q6, q7, q8⟩ := hw'; go_simp⟩) hS ?_
                  refine wpAnyH_take (i := 5) (v := .slice xa x.1.length xc) rfl (by kernel_rfl) (by kernel_rfl) (by kernel_rfl) (fun _ _ _ h => h) (Or.inl ⟨by kernel_rfl, fun w' hw' => by obtain ⟨q0, q1, q2, q3, q4, q5, q6, q7, q8⟩ := hw'; go_simp⟩) hS ?_
                  refine wpAnyH_take (i := 6) (v := .pointer (some ⟨w.heap.size, 5, none⟩)) rfl (by kernel_rfl) (by kernel_rfl) (by kernel_rfl) (fun _ _ _ h => h) (Or.inl ⟨by kernel_rfl, fun w' hw' => by obtain ⟨q0, q1, q2, q3, q4, q5, q6, q7, q8⟩ := hw'; go_simp⟩) hS ?_
                  refine wpAnyH_take (i := 7) (v := .slice (some ⟨sb, so, none⟩) seen.length sc) rfl (by kernel_rfl) (by kernel_rfl) (by kernel_rfl) (fun _ _ _ h => h) (Or.inl ⟨by kernel_rfl, fun w' hw' => by obtain ⟨q0, q1, q2, q3, q4, q5, q6, q7, q8⟩ := hw'; go_simp⟩) hS ?_
                  refine wpAnyH_take (i := 8) (v := .int .i64 e) rfl (by kernel_rfl) (by kernel_rfl) (by kernel_rfl) (fun _ _ _ h => h) (Or.inl ⟨by kernel_rfl, fun w' hw' => by obtain ⟨q0, q1, q2, q3, q4, q5, q6, q7, q8⟩ := hw'; go_simp⟩) hS ?_
                  refine wpAnyH_take (i := 9) (v := .pointer (some ⟨sb, so + e, none⟩)) rfl (by kernel_rfl) (by kernel_rfl) (by kernel_rfl) (fun _ _ _ h => h) (Or.inl ⟨by kernel_rfl, fun w' hw' => by obtain ⟨q0, q1, q2, q3, q4, q5, q6, q7, q8⟩ := hw'; go_simp⟩) hS ?_
                  refine wpAnyH_take (i := 10) (v := .int .i64 y) rfl (by kernel_rfl) (by kernel_rfl) (by kernel_rfl) (fun _ _ _ h => h) (Or.inl ⟨by kernel_rfl, fun w' hw' => by obtain ⟨q0, q1, q2, q3, q4, q5, q6, q7, q8⟩ := hw'; go_simp⟩) hS ?_
                  simp only [Act.put, List.setIfInBounds_toArray]
                  refine wpAnyH_ready (rs := [11]) (by kernel_rfl) (by simp) ?_
                  refine AllReadyH.cons rfl (fun K' hK' => ?_) AllReadyH.nil
                  go_simp
                  have HKd := Hid.of (HK.out.below KXd.out.bel)
                  refine (rInto_any ⟨⟨(st : Int), ev, starts, ars, ends⟩, seen, secret⟩ ⟨⟨a1, c1, a2, c2, a3, c3⟩, some ⟨sb, so, none⟩, sc, ta, tc⟩ xa xc x.1 y Y (h.out.below HKd.out.bel (Nat.le_refl _)) hm.out HXd.out HXL.out).mono ?_
                  rintro r Y1 ⟨v8, rfl, o8, hb⟩
                  have HX1 := Hid.of (KXd.out.below hb)
                  have CZ1 : Hid (Y1.cell? ⟨lg, k * 2 + 1, none⟩ = some (.slice za (wordS seen x.2).length zc)) := (hb.cell (p := ⟨lg, k * 2 + 1, none⟩) HLd.out).trans CZ.out
                  have cx1 := (hb.cell (p := ⟨lg, k * 2, none⟩) HLd.out).trans CX.out
                  have cy1 := (hb.cell (p := ⟨sb, so + e, none⟩) (Nat.lt_of_lt_of_le hsb.out HKd.out.bel.size)).trans CY.out
                  have HZ1 := Hid.of (HZd.out.below hb (Nat.le_refl _))
                  have HL1 : Hid (lg < Y1.heap.size) := Nat.lt_of_lt_of_le HLd.out hb.size
                  obtain ⟨na, nc, hna, -, -, -⟩ := own_form2 o8
                  subst hna
                  have I8 : Hid (InnW w.heap.size Y1 (.slice na (intoL ⟨⟨(st : Int), ev, starts, ars, ends⟩, seen, secret⟩ x.1 y).length nc) (intoL ⟨⟨(st : Int), ev, starts, ars, ends⟩, seen, secret⟩ x.1 y)) := InnW.of_own o8
                  obtain ⟨x0, x1, x2, x3, x4, x5, x6⟩ := ptcell_at (HK.out.below HX1.out.bel).kp
                  have CY1 := Hid.of cy1
                  refine hK'.out _ _ ⟨x0, x1, x2, x3, x4, x5, x6, cx1, cy1⟩ (fun hS1 => ?_)
                  clear hK' K' hb o8 hS x0 x1 x2 x3 x4 x5 x6 cx1 cy1 KXd HXd CX CY CZ HZd HLd HKd
                  have HOPE : Hid ((opB ⟨⟨(st : Int), ev, starts, ars, ends⟩, seen, secret⟩) e x.1 = intoL ⟨⟨(st : Int), ev, starts, ars, ends⟩, seen, secret⟩ x.1 y) := by
                    show _ = _
                    rw [HY.out]; rfl
                  revert I8 HOPE
                  generalize intoL ⟨⟨(st : Int), ev, starts, ars, ends⟩, seen, secret⟩ x.1 y = to
                  intro I8 HOPE
                  refine wpAnyH_take (i := 12) (v := .slice na to.length nc) rfl (by kernel_rfl) (by kernel_rfl) (by kernel_rfl) (fun _ _ _ h => h) (Or.inl ⟨by kernel_rfl, fun w' hw' => by obtain ⟨q0, q1, q2, q3, q4, q5, q6, q7, q8⟩ := hw'; go_simp⟩) hS1 ?_
                  refine wpAnyH_done (by kernel_rfl) ?_ _
                  clear hS1
                  have HC1 : Hid (CellsK Y1 g5 0 (knL seen l)) := cellsK_below HCK.out HX1.out.bel HG5.out
                  obtain ⟨ta', tc', hte, htat, htl, -⟩ := I8.out.at
                  cases hte
                  have KEYK : Hid (Calls Tryd.prog 81 #[.slice (some ⟨g5, 0, none⟩) (knL seen l).length c5, .slice na to.length nc] Y1 fun r w' => r = .returned (.bool (knownB (knL seen l) to)) ∧ ∃ q, w' = Y1.drewN q) := rhas_some g5 0 c5 na nc (knL seen l) to Y1 (by rw [knL_len]; omega) HC1 (Hid.of htat) (Hid.of htl)
                  rw [knL_len, knL_known] at KEYK
                  clear htat htl HC1
                  go_wp2_with fail
                  refine KEYK.out.mono ?_
                  rintro r wF ⟨rfl, q, hq⟩
                  have hb : Below Y1.heap.size Y1 wF := by rw [hq]; exact below_drewN (Below.refl _ _) q
                  have hs1 : w.heap.size ≤ Y1.heap.size := Nat.le_trans HSU.out HX1.out.bel.size
                  replace HX1 := Hid.of (HX1.out.below hb)
                  replace I8 := Hid.of (I8.out.below hb hs1)
                  replace CZ1 : Hid (wF.cell? ⟨lg, k * 2 + 1, none⟩ = some (.slice za (wordS seen x.2).length zc)) := (hb.cell (p := ⟨lg, k * 2 + 1, none⟩) HL1.out).trans CZ1.out
                  replace CY1 : Hid (wF.cell? ⟨sb, so + e, none⟩ = some (.int .i64 y)) := by
                    rw [hq]; exact CY1.out
                  replace HZ1 := Hid.of (HZ1.out.below hb (Nat.le_refl _))
                  replace HL1 : Hid (lg < wF.heap.size) := Nat.lt_of_lt_of_le HL1.out hb.size
                  have hsF : w.heap.size ≤ wF.heap.size := Nat.le_trans hs1 hb.size
                  clear hb hq KEYK hs1
                  cases hkn : knownB l to with
                  | true =>
                    have HNX : Hid ((bwRow (opB ⟨⟨(st : Int), ev, starts, ars, ends⟩, seen, secret⟩) l x (bwLay (opB ⟨⟨(st : Int), ev, starts, ars, ends⟩, seen, secret⟩) l seen.length (layer.take k)) (e + 1)) = N) := by show _ = _; rw [HSuc.out]; exact bwAdd_known (by rw [HOPE.out]; exact hkn)
                    clear hkn
                    go_wp2_with fail
                    go_roundw
                    case rel => exact ⟨e + 1, by go_num, by omega, (by show KX _ _ _ _ _; rw [HNX.out]; exact HX1.out)⟩
                    case measure => simp [intOf]; omega
                  | false =>
                    have HKN := Hid.of hkn
                    clear hkn
                    obtain ⟨word, HWD⟩ : ∃ word, Hid (word = wordS seen x.2) := ⟨_, rfl⟩
                    rw [← HWD.out] at CZ1 HZ1
                    have hWl : word.length ≤ 64 := by rw [HWD.out, wordS_len]; exact hwl
                    go_wp2_with fail
                    have SA : Hid (∀ W, Below wF.heap.size wF W → W.cell? ⟨w.heap.size, 0, none⟩ = some (.int .i64 (st : Int)) ∧ W.cell? ⟨w.heap.size, 1, none⟩ = some (.int .i64 ev) ∧ W.cell? ⟨w.heap.size, 2, none⟩ = some (.slice a1 starts.length c1) ∧ W.cell? ⟨w.heap.size, 3, none⟩ = some (.slice a2 ars.length c2) ∧ W.cell? ⟨w.heap.size, 4, none⟩ = some (.slice a3 ends.length c3) ∧ W.cell? ⟨w.heap.size, 5, none⟩ = some (.slice (some ⟨sb, so, none⟩) seen.length sc) ∧ W.cell? ⟨w.heap.size, 6, none⟩ = some (.slice ta secret.length tc) ∧ W.cell? ⟨lg, k * 2 + 1, none⟩ = some (.slice za word.length zc) ∧ W.cell? ⟨sb, so + e, none⟩ = some (.int .i64 y)) := fun W hb => by
                      obtain ⟨x0, x1, x2, x3, x4, x5, x6⟩ := ptcell_at (HK.out.below (HX1.out.below hb).bel).kp
                      exact ⟨x0, x1, x2, x3, x4, x5, x6, (hb.cell (p := ⟨lg, k * 2 + 1, none⟩) HL1.out).trans CZ1.out, (hb.cell (p := ⟨sb, so + e, none⟩) (Nat.lt_of_lt_of_le hsb.out hsF)).trans CY1.out⟩
                    refine wp_region_held_drew (S := fun w' => w'.cell? ⟨w.heap.size, 0, none⟩ = some (.int .i64 (st : Int)) ∧ w'.cell? ⟨w.heap.size, 1, none⟩ = some (.int .i64 ev) ∧ w'.cell? ⟨w.heap.size, 2, none⟩ = some (.slice a1 starts.length c1) ∧ w'.cell? ⟨w.heap.size, 3, none⟩ = some (.slice a2 ars.length c2) ∧ w'.cell? ⟨w.heap.size, 4, none⟩ = some (.slice a3 ends.length c3) ∧ w'.cell? ⟨w.heap.size, 5, none⟩ = some (.slice (some ⟨sb, so, none⟩) seen.length sc) ∧ w'.cell? ⟨w.heap.size, 6, none⟩ = some (.slice ta secret.length tc) ∧ w'.cell? ⟨lg, k * 2 + 1, none⟩ = some (.slice za word.length zc) ∧ w'.cell? ⟨sb, so + e, none⟩ = some (.int .i64 y)) (by kernel_rfl) (SA.out _ (Below.refl _ _).drew) (fun hS => ?_)
                    have BF : Hid (Below wF.heap.size wF wF.drew) := (Below.refl _ _).drew
                    revert hS BF
                    generalize wF.drew = Y0
                    intro hS BF
                    refine wpAnyH_take (i := 0) (v := .pointer (some ⟨w.heap.size, 5, none⟩)) rfl (by kernel_rfl) (by kernel_rfl) (by kernel_rfl) (fun _ _ _ h => h) (Or.inl ⟨by kernel_rfl, fun w' hw' => by obtain ⟨q0, q1, q2, q3, q4, q5, q6, q7, q8⟩ := hw'; go_simp⟩) hS ?_
                    refine wpAnyH_take (i := 1) (v := .slice (some ⟨sb, so, none⟩) seen.length sc) rfl (by kernel_rfl) (by kernel_rfl) (by kernel_rfl) (fun _ _ _ h => h) (Or.inl ⟨by kernel_rfl, fun w' hw' => by obtain ⟨q0, q1, q2, q3, q4, q5, q6, q7, q8⟩ := hw'; go_simp⟩) hS ?_
                    refine wpAnyH_take (i := 2) (v := .int .i64 e) rfl (by kernel_rfl) (by kernel_rfl) (by kernel_rfl) (fun _ _ _ h => h) (Or.inl ⟨by kernel_rfl, fun w' hw' => by obtain ⟨q0, q1, q2, q3, q4, q5, q6, q7, q8⟩ := hw'; go_simp⟩) hS ?_
                    refine wpAnyH_take (i := 3) (v := .pointer (some ⟨sb, so + e, none⟩)) rfl (by kernel_rfl) (by kernel_rfl) (by kernel_rfl) (fun _ _ _ h => h) (Or.inl ⟨by kernel_rfl, fun w' hw' => by obtain ⟨q0, q1, q2, q3, q4, q5, q6, q7, q8⟩ := hw'; go_simp⟩) hS ?_
                    refine wpAnyH_take (i := 4) (v := .int .i64 y) rfl (by kernel_rfl) (by kernel_rfl) (by kernel_rfl) (fun _ _ _ h => h) (Or.inl ⟨by kernel_rfl, fun w' hw' => by obtain ⟨q0, q1, q2, q3, q4, q5, q6, q7, q8⟩ := hw'; go_simp⟩) hS ?_
                    refine wpAnyH_take (i := 6) (v := .slice (some ⟨lg, 0, none⟩) layer.length lc) rfl (by kernel_rfl) (by kernel_rfl) (by kernel_rfl) (fun _ _ _ h => h) (Or.inl ⟨by kernel_rfl, fun w' hw' => by obtain ⟨q0, q1, q2, q3, q4, q5, q6, q7, q8⟩ := hw'; go_simp⟩) hS ?_
                    refine wpAnyH_take (i := 7) (v := .int .i64 k) rfl (by kernel_rfl) (by kernel_rfl) (by kernel_rfl) (fun _ _ _ h => h) (Or.inl ⟨by kernel_rfl, fun w' hw' => by obtain ⟨q0, q1, q2, q3, q4, q5, q6, q7, q8⟩ := hw'; go_simp⟩) hS ?_
                    refine wpAnyH_take (i := 8) (v := .pointer (some ⟨lg, k * 2, none⟩)) rfl (by kernel_rfl) (by kernel_rfl) (by kernel_rfl) (fun _ _ _ h => h) (Or.inl ⟨by kernel_rfl, fun w' hw' => by obtain ⟨q0, q1, q2, q3, q4, q5, q6, q7, q8⟩ := hw'; go_simp⟩) hS ?_
                    refine wpAnyH_take (i := 9) (v := .pointer (some ⟨lg, k * 2 + 1, none⟩)) rfl (by kernel_rfl) (by kernel_rfl) (by kernel_rfl) (fun _ _ _ h => h) (Or.inl ⟨by kernel_rfl, fun w' hw' => by obtain ⟨q0, q1, q2, q3, q4, q5, q6, q7, q8⟩ := hw'; go_simp⟩) hS ?_
                    refine wpAnyH_take (i := 10) (v := .slice za word.length zc) rfl (by kernel_rfl) (by kernel_rfl) (by kernel_rfl) (fun _ _ _ h => h) (Or.inl ⟨by kernel_rfl, fun w' hw' => by obtain ⟨q0, q1, q2, q3, q4, q5, q6, q7, q8⟩ := hw'; go_simp⟩) hS ?_
                    simp only [Act.put, List.setIfInBounds_toArray]
                    refine wpAnyH_ready (rs := [5]) (by kernel_rfl) (by simp) ?_
                    refine AllReadyH.cons rfl (fun K' hK' => ?_) AllReadyH.nil
                    go_simp
                    have hb : Below Y0.heap.size Y0 (Y0.alloc (.cells #[.int .i64 y] 3)) := (Below.refl _ _).alloc (Nat.le_refl _) _
                    have P64 : Hid (wF.heap.size ≤ Y0.heap.size) := BF.out.size
                    replace BF := Hid.of (BF.out.trans (hb.mono BF.out.size))
                    have K64 := Hid.of (Blk.new Y0 3 #[.int .i64 y])
                    refine hK'.out _ _ (SA.out _ BF.out) (fun hS1 => ?_)
                    clear hK' K' hb hS
                    revert P64 BF K64 hS1
                    generalize Y0.alloc (.cells #[.int .i64 y] 3) = Y2
                    generalize Y0.heap.size = p64
                    intro P64 BF K64 hS1
                    refine wpAnyH_ready (rs := [11]) (by kernel_rfl) (by simp) ?_
                    refine AllReadyH.cons rfl (fun K' hK' => ?_) AllReadyH.nil
                    have hza := HZ1.out.below BF.out (Nat.le_refl _)
                    refine step_append_ints rfl (.tmp 64) (.tmp 69) 22 rfl p64 j0 Tryd.underlying22 ji jz0 jz1 jz2 _ [y] rfl (own_lit1 K64.out) za zc word rfl hza HZN.out (by simp only [List.length_cons, List.length_nil]; omega) (Nat.le_of_lt K64.out.lt) ?_
                    intro v11 Y3 o2 gr
                    have hb : Below wF.heap.size Y2 Y3 := (Below.refl _ _).grown gr BF.out.size (fun j hj => by cases hj; exact P64.out)
                    replace BF := Hid.of (BF.out.trans hb)
                    obtain ⟨va2, vc2, hv2, -, -, -⟩ := own_form2 o2
                    have hl2 : ([y] ++ word).length = word.length + 1 := by simp
                    rw [hl2] at hv2
                    subst hv2
                    have I2 : Hid (InnW w.heap.size Y3 (.slice va2 (word.length + 1) vc2) (y :: word)) := InnW.of_own o2
                    refine hK'.out _ _ (SA.out _ BF.out) (fun hS2 => ?_)
                    clear hK' K' hb o2 gr hl2 hza hS1 K64 P64
                    refine wpAnyH_take (i := 12) (v := .slice va2 (word.length + 1) vc2) rfl (by kernel_rfl) (by kernel_rfl) (by kernel_rfl) (fun _ _ _ h => h) (Or.inl ⟨by kernel_rfl, fun w' hw' => by obtain ⟨q0, q1, q2, q3, q4, q5, q6, q7, q8⟩ := hw'; go_simp⟩) hS2 ?_
                    refine wpAnyH_done (by kernel_rfl) ?_ _
                    clear hS2
                    have HX2 := Hid.of (HX1.out.below BF.out)
                    have I82 := Hid.of (I8.out.below BF.out hsF)
                    have hs3 : w.heap.size ≤ Y3.heap.size := Nat.le_trans hsF BF.out.size
                    clear HX1 I8 SA BF CZ1 CY1 HZ1 HL1 hsF
                    go_wp2_with fail
                    go_loopw [12] (fun i wr'' => ∃ (c q : Nat), i = .int .i64 c ∧ c ≤ N.length ∧ Hid (wr'' = Y3.drewN q) ∧ Hid (noneK (knL seen N) c to)) (fun i _ => N.length - (intOf i).toNat)
                    case atStart => exact ⟨0, 0, rfl, Nat.zero_le _, rfl, fun j p hj => by omega⟩
                    case round =>
                      obtain ⟨c, q, rfl, hc, HW, HNO⟩ := hrel
                      have hbq : Below Y3.heap.size Y3 wr := by rw [HW.out]; exact below_drewN (Below.refl _ _) q
                      have HXr := Hid.of (HX2.out.below hbq)
                      have I2r := Hid.of (I2.out.below hbq hs3)
                      have I8r := Hid.of (I82.out.below hbq hs3)
                      have hsr : w.heap.size ≤ wr.heap.size := Nat.le_trans hs3 hbq.size
                      clear hbq
                      by_cases hcl : c < N.length
                      · obtain ⟨qy, HQ⟩ : ∃ qy, Hid (N[c]? = some qy) := ⟨_, List.getElem?_eq_getElem hcl⟩
                        have HKQ : Hid ((knL seen N)[c]? = some (qy.1, wordS seen qy.2)) := knL_at HQ.out
                        obtain ⟨ng, ncap, hnv, hngU, hng, hly⟩ := HXr.out.ow.layK (by rw [knL_len]; omega)
                        rw [knL_len] at hnv
                        cases hnv
                        obtain ⟨rv, wv, d1, d2, j1, j2⟩ := hly c _ HKQ.out
                        obtain ⟨ra, rc, rfl, rat, rl, -⟩ := j1.at
                        obtain ⟨wa, wc, rfl, wat, wl, -⟩ := j2.at
                        dsimp only at d1 d2 rat rl wat wl
                        obtain ⟨ta2, tc2, hte, tat, tl, -⟩ := I8r.out.at
                        cases hte
                        have KS := Hid.of (same_any ra na rc nc qy.1 to wr rat tat rl tl)
                        have WAT := Hid.of wat
                        have WL := Hid.of wl
                        have D2 := Hid.of d2
                        have HNG := Hid.of hng
                        have HNGU := Hid.of hngU
                        clear hly j1 j2 rat rl wat wl tat tl d2 hng hngU
                        have hclI : (c : Int) < (N.length : Int) := by omega
                        have hclD : decide ((c : Int) < (N.length : Int)) = true := by simpa using hclI
                        go_wp2_with fail
                        refine KS.out.mono ?_
                        rintro r W4 ⟨rfl, q4, hq4⟩
                        have hb : Below wr.heap.size wr W4 := by rw [hq4]; exact below_drewN (Below.refl _ _) q4
                        clear KS d1
                        cases hsm : sameB qy.1 to with
                        | false =>
                          have HNO2 : Hid (noneK (knL seen N) (c + 1) to) := noneK_succ HNO HKQ (Hid.of hsm)
                          have HW4 : Hid (W4 = Y3.drewN (q + q4)) := by show _ = _; rw [hq4, HW.out, World.drewN_drewN]
                          clear hsm hb hq4
                          go_wp2_with fail
                          go_roundw
                          case rel => exact ⟨c + 1, q + q4, by go_num, by omega, HW4, HNO2⟩
                          case measure => simp [intOf]; omega
                        | true =>
                          have e1 : qy.1 = to := by simpa [sameB] using hsm
                          have HPO : Hid (posK N ((opB ⟨⟨(st : Int), ev, starts, ars, ends⟩, seen, secret⟩) e x.1) = c) := by
                            show _ = _
                            rw [HOPE.out]
                            exact posK_hit (fun j yy hj hyy => HNO.out j (yy.1, wordS seen yy.2) hj (knL_at hyy)) HQ.out e1
                          have HX4 := Hid.of (HXr.out.below hb)
                          have I24 := Hid.of (I2r.out.below hb hsr)
                          have d24 : W4.cell? ⟨ng, c * 2 + 1, none⟩ = some (.slice wa (wordS seen qy.2).length wc) := (hb.cell (p := ⟨ng, c * 2 + 1, none⟩) HNG.out).trans D2.out
                          have WAT4 := Hid.of (WAT.out.below hb (Nat.le_refl _))
                          have HNG4 : Hid (ng < W4.heap.size) := Nat.lt_of_lt_of_le HNG.out hb.size
                          have hs4 : w.heap.size ≤ W4.heap.size := Nat.le_trans hsr hb.size
                          clear hsm hb hq4 HXr I2r I8r
                          obtain ⟨w2a, w2c, hwe, w2at, w2l, -⟩ := I24.out.at
                          cases hwe
                          have HIQ := Hid.of (HIN.out qy (List.mem_of_getElem? HQ.out)).2
                          have HEX : Hid (∀ cc ∈ (e : Int) :: x.2, 0 ≤ cc ∧ cc < (seen.length : Int)) := fun cc hcc => by
                            rcases List.mem_cons.1 hcc with rfl | hcc
                            · omega
                            · exact HXR.out cc hcc
                          have HLE : Hid (lessB (y :: word) (wordS seen qy.2) = lessB ((e : Int) :: x.2) qy.2) := by
                            show _ = _
                            rw [← lessB_word hseenI.out HEX.out HIQ.out, wordS_cons, HY.out, HWD.out]
                          have KL : Hid (Calls Tryd.prog 88 #[.slice va2 (y :: word).length vc2, .slice wa (wordS seen qy.2).length wc] W4 fun e w' => e = .returned (.bool (lessB (y :: word) (wordS seen qy.2))) ∧ ∃ q, w' = W4.drewN q) := rless_any va2 wa vc2 wc (y :: word) (wordS seen qy.2) W4 w2at WAT4.out w2l WL.out
                          rw [HLE.out] at KL
                          have hcw : (y :: word).length = word.length + 1 := rfl
                          rw [hcw] at KL
                          have hce : ((c : Int) == (N.length : Int)) = false := by rw [beq_eq_false_iff_ne]; omega
                          clear w2at w2l hcw HLE
                          obtain ⟨qw, HQW⟩ : ∃ qw, Hid (qw = wordS seen qy.2) := ⟨_, rfl⟩
                          rw [← HQW.out] at KL d24 WAT4 WL
                          go_wp2_with fail
                          refine KL.out.mono ?_
                          rintro r W5 ⟨rfl, q5, hq5⟩
                          have hb : Below W4.heap.size W4 W5 := by rw [hq5]; exact below_drewN (Below.refl _ _) q5
                          have HX5 := Hid.of (HX4.out.below hb)
                          have I25 := Hid.of (I24.out.below hb hs4)
                          have d25 := (hb.cell (p := ⟨ng, c * 2 + 1, none⟩) HNG4.out).trans d24
                          clear hb hq5 HX4 I24 KL d24
                          cases hls : lessB ((e : Int) :: x.2) qy.2 with
                          | true =>
                            have HNX : Hid (knL seen (bwRow (opB ⟨⟨(st : Int), ev, starts, ars, ends⟩, seen, secret⟩) l x (bwLay (opB ⟨⟨(st : Int), ev, starts, ars, ends⟩, seen, secret⟩) l seen.length (layer.take k)) (e + 1)) = (knL seen N).set c (qy.1, y :: word)) := by
                              show _ = _
                              rw [HSuc.out, bwAdd_less (by rw [HOPE.out]; exact HKN.out) HPO.out HQ.out hls, knL_set, HOPE.out, e1, HY.out, HWD.out]
                            have hlen9 : (knL seen N).length = N.length := knL_len _ _
                            have HXL5 : Hid (KX w.heap.size U W5 (.slice (some ⟨ng, 0, none⟩) (knL seen N).length vc7) (knL seen N)) := by
                              show KX _ _ _ _ _
                              rw [hlen9]; exact HX5.out
                            have HST := Hid.of (HXL5.out.setW HKQ.out I25.out)
                            rw [hlen9] at HST
                            have fz : W5.frozen? ⟨ng, c * 2 + 1, none⟩ = false := by
                              obtain ⟨vs, ho, -⟩ := HX5.out.ow
                              obtain ⟨cs, hcs⟩ := own_type ho rfl
                              exact (show Blk W5 ng 117 cs from hcs).frozen _
                            clear hls hlen9 HXL5
                            go_wp2_with fail
                            clear d25 fz
                            go_roundw
                            case rel => exact ⟨e + 1, by go_num, by omega, (by show KX _ _ _ _ _; rw [HNX.out]; exact HST.out)⟩
                            case measure => simp [intOf]; omega
                          | false =>
                            have HNX : Hid ((bwRow (opB ⟨⟨(st : Int), ev, starts, ars, ends⟩, seen, secret⟩) l x (bwLay (opB ⟨⟨(st : Int), ev, starts, ars, ends⟩, seen, secret⟩) l seen.length (layer.take k)) (e + 1)) = N) := by show _ = _; rw [HSuc.out]; exact bwAdd_not (by rw [HOPE.out]; exact HKN.out) HPO.out HQ.out hls
                            clear hls
                            go_wp2_with fail
                            go_roundw
                            case rel => exact ⟨e + 1, by go_num, by omega, (by show KX _ _ _ _ _; rw [HNX.out]; exact HX5.out)⟩
                            case measure => simp [intOf]; omega
                      · have hce : ((c : Int) == (N.length : Int)) = true := by rw [beq_iff_eq]; omega
                        have hclD : decide ((c : Int) < (N.length : Int)) = false := by simp; omega
                        have HPO : Hid (posK N ((opB ⟨⟨(st : Int), ev, starts, ars, ends⟩, seen, secret⟩) e x.1) = N.length) := by
                          show _ = _
                          rw [HOPE.out]
                          exact posK_miss (fun j yy hyy => HNO.out j (yy.1, wordS seen yy.2) (by have := (List.getElem?_eq_some_iff.1 hyy).1; omega) (knL_at hyy))
                        have HNX : Hid (knL seen (bwRow (opB ⟨⟨(st : Int), ev, starts, ars, ends⟩, seen, secret⟩) l x (bwLay (opB ⟨⟨(st : Int), ev, starts, ars, ends⟩, seen, secret⟩) l seen.length (layer.take k)) (e + 1)) = knL seen N ++ [(to, y :: word)]) := by
                          show _ = _
                          rw [HSuc.out, bwAdd_new (by rw [HOPE.out]; exact HKN.out) HPO.out, knL_push, HOPE.out, HY.out, HWD.out]
                        obtain ⟨vs, ho, hin⟩ := HXr.out.ow
                        rw [knL_len] at ho
                        have HO := Hid.of ho
                        have HIN2 := Hid.of hin
                        clear ho hin
                        have hUw := HXr.out.bel.size
                        have BV : Hid (Below wr.heap.size wr (wr.alloc (.cells #[.slice na to.length nc, .slice va2 (word.length + 1) vc2] 117))) := (Below.refl _ _).alloc (Nat.le_refl _) _
                        go_wp2_with (at_builtin; refine wpList_append_block _ rfl (.tmp 91) (.tmp 95) 51 rfl U.heap.size 117 i0 (.agg #[.slice none 0 0, .slice none 0 0]) 2 48 Tryd.underlying51 hi hz0 hz1 hz2 rfl (by decide) _ _ _ rfl (World.ownsRow.alloc HO.out _) ⟨wr.heap.size, 0, none⟩ 1 1 [.slice na to.length nc, .slice va2 (word.length + 1) vc2] rfl rfl (cells_duo wr _ rfl _ _ _) (by intro u hu; simp at hu; rcases hu with rfl | rfl <;> rfl) (by decide) (by unfold maxLen; omega) (by omega) (by simp; omega) ?_)
                        intro v7 w7 o7 g7 n7
                        have P1 := Hid.of (KX.push (r := (to, y :: word)) HXr.out BV.out (by rw [knL_len]; exact World.ownsRow.alloc HO.out _) (fun j x xs e1 e2 => (HIN2.out j x xs e1 e2).below BV.out hsr) (I8r.out.below BV.out hsr) (I2r.out.below BV.out hsr) (by rw [knL_len]; exact o7) g7)
                        clear o7 g7 n7 HO HIN2 BV
                        go_wp2_with fail
                        go_roundw
                        case rel => exact ⟨e + 1, by go_num, by omega, (by show KX _ _ _ _ _; rw [HNX.out]; exact P1.out)⟩
                        case measure => simp [intOf]; omega
                · have he2 : e = seen.length := by omega
                  have HNK : Hid ((bwLay (opB ⟨⟨(st : Int), ev, starts, ars, ends⟩, seen, secret⟩) l seen.length (layer.take (k + 1))) = N) := by show _ = _; rw [bwLay_take _ _ _ HP.out, HN.out, he2]
                  have hleD : decide ((e : Int) < (seen.length : Int)) = false := by simp; omega
                  clear he2 cx cz
                  go_wp2_with fail
                  go_roundw
                  case rel => exact ⟨k + 1, by go_num, by omega, (by show KX _ _ _ _ _; rw [HNK.out]; exact HX.out)⟩
                  case measure => simp [intOf]; omega
            · have HNK : Hid ((bwLay (opB ⟨⟨(st : Int), ev, starts, ars, ends⟩, seen, secret⟩) l seen.length (layer.take k)) = bwLay (opB ⟨⟨(st : Int), ev, starts, ars, ends⟩, seen, secret⟩) l seen.length layer) := by show _ = _; rw [List.take_of_length_le (by omega)]
              have hklD : decide ((k : Int) < (layer.length : Int)) = false := by simp; omega
              rw [HNK.out] at HX
              have HIN := Hid.of (lbk_next HI.out)
              obtain ⟨f', hf'⟩ : ∃ f', f = f' + 1 := ⟨f - 1, by omega⟩
              have HEN : Hid (bwdL ⟨⟨(st : Int), ev, starts, ars, ends⟩, seen, secret⟩ = bwGo (opB ⟨⟨(st : Int), ev, starts, ars, ends⟩, seen, secret⟩) seen.length f' (l ++ bwLay (opB ⟨⟨(st : Int), ev, starts, ars, ends⟩, seen, secret⟩) l seen.length layer) (bwLay (opB ⟨⟨(st : Int), ev, starts, ars, ends⟩, seen, secret⟩) l seen.length layer)) := by show _ = _; rw [HE.out, hf', bwGo_more h0]
              obtain ⟨nx, HNX⟩ : ∃ nx, Hid (nx = bwLay (opB ⟨⟨(st : Int), ev, starts, ars, ends⟩, seen, secret⟩) l seen.length layer) := ⟨_, rfl⟩
              rw [← HNX.out] at HX HIN HEN
              have hnx64 : (l ++ nx).length ≤ 64 := hBD.out _ _ _ HIN.out
              rw [List.length_append] at hnx64
              have HFU2 : Hid (64 - (l ++ nx).length + (if nx.length = 0 then 0 else 1) ≤ f') := by
                have := HFU.out
                rw [if_neg hne, hf'] at this
                show _ ≤ _
                rw [List.length_append]
                split <;> omega
              have HNL2 : Hid (n + 1 + (if nx.length = 0 then 0 else 1) ≤ (l ++ nx).length) := by
                have := HNL.out
                rw [if_neg hne] at this
                show _ ≤ _
                rw [List.length_append]
                split <;> omega
              have HKr := Hid.of (HK.out.below HX.out.bel)
              obtain ⟨vs, ho, hin⟩ := HKr.out.ow
              rw [knL_len] at ho
              have HO := Hid.of ho
              have HIV := Hid.of hin
              clear ho hin hf'
              have hBw := HKr.out.hB
              by_cases hnx : nx.length = 0
              · have hnil : nx = [] := List.eq_nil_of_length_eq_zero hnx
                obtain ⟨vsn, hon, -⟩ := HX.out.ow
                have hv7 : u7 = .slice none 0 0 ∨ ∃ gg cc, u7 = .slice (some ⟨gg, 0, none⟩) 0 cc := by
                  rw [knL_len, hnx] at hon
                  rcases hon.2 with ⟨q1, -⟩ | ⟨g', cap, cur, q1, -⟩
                  · exact .inl q1
                  · exact .inr ⟨g', cap, q1⟩
                obtain ⟨na7, nc7, hn7, hv7e⟩ : ∃ na7 nc7, (na7 = none → nc7 = 0) ∧ u7 = .slice na7 0 nc7 := by
                  rcases hv7 with rfl | ⟨gg, cc, rfl⟩
                  · exact ⟨none, 0, fun _ => rfl, rfl⟩
                  · exact ⟨some ⟨gg, 0, none⟩, cc, (fun q => (by cases q)), rfl⟩
                subst hv7e
                clear hv7 hon
                have HKn : Hid (KF w wr ⟨⟨(st : Int), ev, starts, ars, ends⟩, seen, secret⟩ ⟨⟨a1, c1, a2, c2, a3, c3⟩, sa, sc, ta, tc⟩ (.slice (some ⟨g5, 0, none⟩) l.length c5) (knL seen (l ++ nx))) := by
                  show KF _ _ _ _ _ _
                  rw [hnil, List.append_nil]; exact HKr.out
                go_wp2_with (at_builtin; refine wpList_append_zero rfl (.tmp 109) (.tmp 110) 51 rfl (w.heap.size + 1) 117 i0 2 Tryd.underlying51 hi _ _ _ rfl HO.out na7 nc7 hn7 rfl ?_)
                go_wp2_with fail
                go_roundw
                case rel => exact ⟨n + 1, f', l ++ nx, nx, na7, nc7, (by rw [hnx]), (by omega), HKn, .inl hnx, HIN, HEN, HFU2, HNL2⟩
                case measure => simp [lenV]; omega
              · obtain ⟨ng, ncap, hnv, hngU, hng, hly⟩ := HX.out.ow.layK (by rw [knL_len]; omega)
                rw [knL_len] at hnv
                subst hnv
                obtain ⟨ns, hns, hnc, hni, hn1⟩ := hly.cellsOwn
                rw [knL_len] at hns
                have HNC := Hid.of hnc
                have HNI := Hid.of hni
                have HN1 := Hid.of hn1
                have HLYN := Hid.of hly
                have HNG := Hid.of hng
                have HNGU := Hid.of hngU
                clear hnc hni hn1 hly hng hngU
                have hg5U := HG5.out
                go_wp2_with (at_builtin; refine wpList_append_block _ rfl (.tmp 109) (.tmp 110) 51 rfl (w.heap.size + 1) 117 i0 (.agg #[.slice none 0 0, .slice none 0 0]) 2 48 Tryd.underlying51 hi hz0 hz1 hz2 rfl (by decide) _ _ _ rfl HO.out ⟨ng, 0, none⟩ nx.length ncap ns rfl hns HNC.out HN1.out (by omega) (by unfold maxLen; omega) (by omega) (by omega) ?_)
                intro v9 w9 o9 g9 n9
                have HKn : Hid (KF w w9 ⟨⟨(st : Int), ev, starts, ars, ends⟩, seen, secret⟩ ⟨⟨a1, c1, a2, c2, a3, c3⟩, sa, sc, ta, tc⟩ v9 (knL seen (l ++ nx))) := by
                  show KF _ _ _ _ _ _
                  rw [knL_append]
                  exact KF.join HKr.out (by rw [knL_len]; exact HO.out) HIV.out (by rw [knL_len]; exact hns) HNI.out (by rw [knL_len, knL_len]; exact o9) g9
                have HLN : Hid (LayK w.heap.size w9 ng (knL seen nx)) := by
                  exact HLYN.out.kept_grown HKr.out HO.out g9 (fun e => by
                    have e2 : g5 = ng := by simpa [Value.ownBlock] using e
                    have := HNGU.out
                    omega) HNG.out
                have HNG9 : Hid (ng < w9.heap.size) := Nat.lt_of_lt_of_le HNG.out g9.size
                obtain ⟨va9, vc9, hv9⟩ := HKn.out.ow.form
                rw [knL_len, List.length_append] at hv9
                subst hv9
                clear o9 g9 n9
                go_wp2_with fail
                go_roundw
                case rel => exact ⟨n + 1, f', l ++ nx, nx, _, _, rfl, (by omega), HKn, .inr ⟨ng, rfl, HNG9.out, HLN.out⟩, HIN, HEN, HFU2, HNL2⟩
                case measure => simp [lenV]; omega
        · have hne : layer.length = 0 := by omega
          have HF : Hid (bwdL ⟨⟨(st : Int), ev, starts, ars, ends⟩, seen, secret⟩ = l) := by show _ = _; rw [HE.out, bwGo_stop hne]
          have dly : decide ((0 : Int) < (layer.length : Int)) = false := by rw [hne]; rfl
          clear HLY
          go_wp2_with fail
          go_ret
          exact ⟨_, rfl, by rw [HF.out]; exact HK.out.ow, HK.out.bel⟩

theorem rBack_any (p : Plant) (P : PTL) (w : World) (h : PAt w p P) (hp : mayP p = true) :
    Calls Tryd.prog 40 #[ptval p P] w fun e w' => KnoPost w (knL p.seen (bwdL p)) e w' := by
  obtain ⟨hm, z, hs, -⟩ := (mayP_iff p).1 hp
  have hz := mayB_size hm
  unfold sizeOk at hz
  have h8 := row_short (by omega) (by omega) hs
  have hI := ((rowB_iff _ (by omega) _).1 hs).1
  obtain ⟨⟨st, ev, starts, ars, ends⟩, seen, secret⟩ := p
  obtain ⟨⟨a1, c1, a2, c2, a3, c3⟩, sa, sc, ta, tc⟩ := P
  dsimp only at z hz h8
  obtain ⟨s, rfl⟩ : ∃ s : Nat, st = (s : Int) := ⟨st.toNat, by omega⟩
  exact rback_go s ev starts ars ends seen secret a1 c1 a2 c2 a3 c3 sa sc ta tc w (Hid.of h) (Hid.of hm) (by omega) (by omega) (Hid.of hI)

end Go.Proofs.YtmlkpdeidpcidaaDoor
