/-
  append onto a row of the call's own: the row stays in its block, or it is in a new one.
  Small facts on rows that a call has made: their blocks are apart by their types; a block that is another object.
  A map from sets of states to numbers, as the model runs it: the numbers in the order in which the sets came.
  Plain mathematics of what a set of states leads to, in any number of steps. No program, no model.
  Plain: what package hide finds by sets: where unseen events lead to, by middle states; where seen ones lead to; that it is the machine of what is seen. No program, no model.
-/
import Derived.Test.YtgfpjfiikajadaaDoorG08
import Derived.Deep.RegionLaw
import Derived.Test.YtgfpjfiikajadaaDoorG04
import Derived.Test.YtgfpjfiikajadaaDoorG07
import Derived.DeepKeys4
import Derived.Maps.Keyed
import Derived.Carry
import Derived.Test.YtgfpjfiikajadaaDoorG05
import Derived.Test.YtgfpjfiikajadaaDoorG06
namespace Go.Proofs.YtgfpjfiikajadaaDoor
open Go.RowKit
set_option linter.unusedVariables false

section
variable {P : Program} (w : World)
theorem run_append_block (base : Nat) (t ty e : TypeId) (i : TypeInfo) (z : Value) (size bytes : Nat) (ht : P.underlying t = some (.slice e)) (hi : P.info? e = some i) (hz : i.zero = some z)
    (hsize : i.size = size) (hby : i.bytes = bytes) (hzs : z.cells.size = size) (hsz : 0 < size)
    (v : Value) (n : Nat) (xs : List Value) (hown : w.ownsRow base e size v n xs)
    (a : Addr) (m c : Nat) (news : List Value) (hl : news.length = m * size) (hnews : ∀ j u, news[j]? = some u → w.cell? (a.add j) = some u) (h1 : ∀ u ∈ news, u.oneCell' = true)
    (hm : 0 < m) (h63 : n + m ≤ maxLen) (hbytes : (n + m) * bytes ≤ 140737488355328) (hbase : base ≤ w.heap.size) :
    ∃ v' w', (Builtin.append_ #[t, t] ty #[v, .slice (some a) m c]).run P w = .ok v' w' ∧ w'.ownsRow base e size v' (n + m) (xs ++ news) ∧ w.grownBy w' v.ownBlock ∧ (v'.ownBlock = v.ownBlock ∨ v'.ownBlock = some w.heap.size) := by
  obtain ⟨v', w', hrun, h2, h3, -⟩ := run_append_own (P := P) w base t ty e i z size bytes ht hi hz hsize hby hzs hsz v n xs hown a m c news hl hnews h1 h63 hbytes hbase
  refine ⟨v', w', hrun, h2, h3, ?_⟩
  have h9 : n + m ≤ 9223372036854775807 := by simp only [maxLen] at h63; omega
  subst hsize
  subst hby
  rcases hown.2 with ⟨rfl, rfl⟩ | ⟨g, cap, cur, rfl, hbg, hg, hnc, hcm, hcs, htake⟩
  · have hr := run_append_nil (P := P) w t ty e i z ht hi hz a m c news hl hnews hm (by omega) (by have hb := hbytes; simp only [Nat.zero_add] at hb; omega)
    rw [hrun] at hr
    injection hr with e1 e2
    right; rw [e1]; rfl
  · by_cases hroom : n + m ≤ cap
    · have hr := run_append_room (P := P) w t ty e i ht hi g n cap cur hg a m c news hl hnews h1 hroom (by rw [hl, hcs, ← Nat.add_mul]; exact Nat.mul_le_mul_right _ hroom)
      rw [hrun] at hr
      injection hr with e1 e2
      left; rw [e1]; rfl
    · have hr := run_append_grow (P := P) w t ty e i z ht hi hz ⟨g, 0, none⟩ n cap xs hown.1 (hown.cells (g := g) rfl) a m c news hl hnews (by omega) (by omega) (growslice_fits (by omega) hbytes)
      rw [hrun] at hr
      injection hr with e1 e2
      right; rw [e1]; rfl

theorem wpList_append_block {ops : Array Oper} {rest : List Oper} {o : Oper} {a : Act} {Q : Exit → Act → World → Prop} (hgd : o.guard = none) (s x : Operand) (t : TypeId)
    (ho : o.op = .call { callee := .builtin .append, args := #[s, x], argTypes := #[t, t] })
    (base : Nat) (e : TypeId) (i : TypeInfo) (z : Value) (size bytes : Nat) (ht : P.underlying t = some (.slice e)) (hi : P.info? e = some i) (hz : i.zero = some z)
    (hsize : i.size = size) (hby : i.bytes = bytes) (hzs : z.cells.size = size) (hsz : 0 < size)
    (v : Value) (n : Nat) (xs : List Value) (hs : a.eval s = v) (hown : w.ownsRow base e size v n xs)
    (ad : Addr) (m c : Nat) (news : List Value) (hx : a.eval x = .slice (some ad) m c) (hl : news.length = m * size) (hnews : ∀ j u, news[j]? = some u → w.cell? (ad.add j) = some u) (h1 : ∀ u ∈ news, u.oneCell' = true)
    (hm : 0 < m) (h63 : n + m ≤ maxLen) (hbytes : (n + m) * bytes ≤ 140737488355328) (hbase : base ≤ w.heap.size)
    (h : ∀ v' w', w'.ownsRow base e size v' (n + m) (xs ++ news) → w.grownBy w' v.ownBlock → (v'.ownBlock = v.ownBlock ∨ v'.ownBlock = some w.heap.size) → wpList P ops Q rest (a.put o.dst v') w') : wpList P ops Q (o :: rest) a w := by
  obtain ⟨v', w', hr, h2, h3, h4⟩ := run_append_block (P := P) w base t o.type e i z size bytes ht hi hz hsize hby hzs hsz v n xs hown ad m c news hl hnews h1 hm h63 hbytes hbase
  refine wpList_plain hgd fun _ hK => ?_
  unfold Oper.wp execOp
  simp only [ho, resolve, invoke, builtin, Sem.run_bind, Sem.run_pure, Result.andThen_ok, List.map_toArray, List.map_cons, List.map_nil, hs, hx, hr]
  exact hK _ _ (h v' w' h2 h3 h4)
end

section
variable {P : Program} {ops : Array Oper} {o : Oper} {a : Act} {w : World} {K : Act → World → Prop} {Q : Exit → Act → World → Prop} {E : Prop}
/-- The same, as one step of a region that draws. -/
theorem step_append_block (hg : o.guard = none) (s x : Operand) (t : TypeId) (hop : o.op = Op.call { callee := Callee.builtin Builtin.append, args := #[s, x], argTypes := #[t, t] })
    (base : Nat) (e : TypeId) (i : TypeInfo) (z : Value) (size bytes : Nat) (h1 : P.underlying t = some (.slice e)) (h2 : P.info? e = some i) (h3 : i.zero = some z) (h4 : i.size = size) (h5 : i.bytes = bytes) (h6 : z.cells.size = size) (h7 : 0 < size)
    (v : Value) (n : Nat) (xs : List Value) (hs : a.eval s = v) (hown : w.ownsRow base e size v n xs)
    (ad : Addr) (m c : Nat) (news : List Value) (hx : a.eval x = .slice (some ad) m c) (hn : news.length = m * size) (hc : ∀ j u, news[j]? = some u → w.cell? (ad.add j) = some u) (h1c : ∀ u ∈ news, u.oneCell' = true)
    (hm : 0 < m) (b1 : n + m ≤ maxLen) (b2 : (n + m) * bytes ≤ 140737488355328) (hbase : base ≤ w.heap.size)
    (hK : ∀ v' w', w'.ownsRow base e size v' (n + m) (xs ++ news) → w.grownBy w' v.ownBlock → (v'.ownBlock = v.ownBlock ∨ v'.ownBlock = some w.heap.size) → K (a.put o.dst v') w') :
    if Region.wanted o (yielded ops a.tmps) = true then Oper.wp P o a w K Q else E := by
  have hw : Region.wanted o (yielded ops a.tmps) = true := by simp [Region.wanted, hg]
  rw [if_pos hw]
  obtain ⟨v', w', hrun, r1, r2, r3⟩ := run_append_block (P := P) w base t o.type e i z size bytes h1 h2 h3 h4 h5 h6 h7 v n xs hown ad m c news hn hc h1c hm b1 b2 hbase
  unfold Oper.wp
  simp [execOp, hop, resolve, invoke, builtin, hs, hx, hrun, Result.andThen]
  exact hK v' w' r1 r2 r3
end

end Go.Proofs.YtgfpjfiikajadaaDoor
namespace Go.Proofs.YtgfpjfiikajadaaDoor
open Go.RowKit
set_option linter.unusedVariables false

theorem own_type {W : World} {B s n k : Nat} {e : TypeId} {v : Value} {xs : List Value} (h : W.ownsRow B e s v n xs) (hk : v.ownBlock = some k) : ∃ cs, W.heap[k]? = some (.cells cs e (0, 0)) := by
  rcases h.2 with ⟨rfl, -⟩ | ⟨g, cap, cur, rfl, hg, hh, -⟩
  · cases hk
  · cases hk; exact ⟨cur, hh⟩
theorem own_apart {W : World} {B B' s s' n n' : Nat} {e e' : TypeId} {v v' : Value} {xs xs' : List Value} (h : W.ownsRow B e s v n xs) (h' : W.ownsRow B' e' s' v' n' xs') (hne : e ≠ e') : v.ownBlock = none ∨ v.ownBlock ≠ v'.ownBlock := by
  cases hk : v.ownBlock with
  | none => exact .inl rfl
  | some k =>
    refine .inr fun e1 => ?_
    obtain ⟨c1, h1⟩ := own_type h hk
    obtain ⟨c2, h2⟩ := own_type h' e1.symm
    rw [h1] at h2; cases h2; exact hne rfl
theorem own_form2 {W : World} {B s n : Nat} {e : TypeId} {v : Value} {xs : List Value} (h : W.ownsRow B e s v n xs) : ∃ a c, v = .slice a n c ∧ n ≤ c ∧ c ≤ maxLen ∧ (a = none → c = 0) := by
  rcases h.2 with ⟨rfl, rfl⟩ | ⟨g, cap, cur, rfl, -, -, h1, h2, -⟩
  · exact ⟨none, 0, rfl, Nat.le_refl _, Nat.zero_le _, fun _ => rfl⟩
  · exact ⟨_, cap, rfl, h1, h2, fun h => by cases h⟩
theorem own_same {W W' : World} {B s n : Nat} {e : TypeId} {v : Value} {xs : List Value} (h : W.ownsRow B e s v n xs) (hb : ∀ k, v.ownBlock = some k → W'.heap[k]? = W.heap[k]?) : W'.ownsRow B e s v n xs := by
  refine ⟨h.1, ?_⟩
  rcases h.2 with hn | ⟨g, cap, cur, rfl, hg, hgg, rest⟩
  · exact .inl hn
  · exact .inr ⟨g, cap, cur, rfl, hg, (hb g rfl).trans hgg, rest⟩
theorem cells_three (W W' : World) (hW : W'.heap = W.heap) (t : TypeId) (x y z : Value) : ∀ j u, ([x, y, z] : List Value)[j]? = some u → (W'.alloc (.cells #[x, y, z] t)).cell? ((⟨W.heap.size, 0, none⟩ : Addr).add j) = some u := by
  intro j u hu
  rw [addr0_add, Nat.zero_add, ← hW]
  exact (Blk.new W' t #[x, y, z]).cell j (by rw [← Array.getElem?_toList]; exact hu)
theorem own_arr {W : World} {B : Nat} {v : Value} {A : List Arr} {x : Arr} (h : W.ownsRow B 61 3 v (A.length + 1) (aflat A ++ [.int .i64 x.f, .int .i64 x.e, .int .i64 x.t])) : OwnA W B v (A ++ [x]) := by
  unfold OwnA
  rw [List.length_append, aflat_append]
  exact h
/-- A block is another object. -/
def setMap (w : World) (b : Nat) (o : Obj) : World := { w with heap := w.heap.setIfInBounds b o }
theorem heap_setMap_ne (W : World) (b : Nat) (o : Obj) {j : Nat} (h : j ≠ b) : (setMap W b o).heap[j]? = W.heap[j]? := by
  simp [setMap, Ne.symm h]
theorem heap_setMap (W : World) {b : Nat} (o : Obj) (h : b < W.heap.size) : (setMap W b o).heap[b]? = some o := by
  simp [setMap, h]
theorem size_setMap (W : World) (b : Nat) (o : Obj) : (setMap W b o).heap.size = W.heap.size := by simp [setMap]
theorem ownsRow_set {W : World} {B b j s n : Nat} {e : TypeId} {v : Value} {xs : List Value} (h : W.ownsRow B e s v n xs) (hb : b < B) (x : Value) : (W.setCell ⟨b, j, none⟩ x).ownsRow B e s v n xs := by
  refine ⟨h.1, ?_⟩
  rcases h.2 with hn | ⟨g, cap, cur, rfl, hg, hgg, rest⟩
  · exact .inl hn
  · exact .inr ⟨g, cap, cur, rfl, hg, (Below.heap_setCell W ⟨b, j, none⟩ x g (by show g ≠ b; omega)).trans hgg, rest⟩

end Go.Proofs.YtgfpjfiikajadaaDoor
namespace Go.Proofs.YtgfpjfiikajadaaDoor
open Go.RowKit
set_option linter.unusedVariables false

theorem laidOutS : laidOutB Tryd.prog = true := by kernel_rfl
theorem rowSet : (65 : TypeId) < Tryd.prog.types.size := of_decide_eq_true (by kernel_rfl)
theorem wideSet : (match Tryd.prog.underlying 65 with | some (.array _ _) | some (.struct _) => true | _ => false) = true := by kernel_rfl
set_option maxRecDepth 100000 in
theorem lawSet : WideMaps.KeyLaw Tryd.prog 65 := deep_law_laid laidOutS (m := 3) (by omega) rowSet (by kernel_rfl) wideSet
theorem wf_u64 {n : Nat} (h : n < 18446744073709551616) : (Lit.int .u64 (n : Int)).wf = true := by
  have h1 : IntKind.u64.min = 0 := rfl
  have h2 : IntKind.u64.max = 18446744073709551615 := rfl
  simp [Lit.wf, h1, h2]; omega
set_option maxRecDepth 100000 in
theorem keySet {S : Nat → Nat} (h : okS S) : ∃ l, keyOf Tryd.prog 65 (sval S) = some l := by
  have h0 := wf_u64 (h 0)
  have h1 := wf_u64 (h 1)
  have h2 := wf_u64 (h 2)
  have h3 := wf_u64 (h 3)
  have hk : Tryd.prog.keyType 65 = true := by kernel_rfl
  have hc : Tryd.prog.cellsOf 65 = 4 := by kernel_rfl
  have hci : Tryd.prog.cellsOf 63 = 1 := by kernel_rfl
  have hs : ∃ m, Tryd.prog.types.size = m + 1 := ⟨_, (Nat.succ_pred_eq_of_pos (Nat.lt_of_le_of_lt (Nat.zero_le _) rowSet)).symm⟩
  obtain ⟨m, hm⟩ := hs
  unfold keyOf
  simp only [Tryd.underlying65]
  rw [if_pos (by simp [hk, Value.formed, Tryd.underlying65, hc]), hm]
  unfold Program.keyLits
  simp only [Tryd.underlying65, Value.cells]
  have hr : List.range 4 = [0, 1, 2, 3] := rfl
  simp [hc, hci, Program.keyLits, Tryd.underlying63, hr, h0, h1, h2, h3]

theorem sval_eq {S T : Nat → Nat} (h : sval S = sval T) : eqS S T := by
  simp at h
  obtain ⟨h0, h1, h2, h3⟩ := h
  exact ⟨by omega, by omega, by omega, by omega⟩
theorem eqS_sval {S T : Nat → Nat} (h : eqS S T) : sval S = sval T := by
  obtain ⟨h0, h1, h2, h3⟩ := h
  show Value.agg #[_, _, _, _] = Value.agg #[_, _, _, _]
  rw [h0, h1, h2, h3]
def entS (k : Nat) (S : Nat → Nat) : MapEntry := { key := sval S, val := .int .i64 k, born := k }
def entsS (SL : List (Nat → Nat)) : Array MapEntry := (SL.mapIdx entS).toArray
theorem entsS_snoc (SL : List (Nat → Nat)) (S : Nat → Nat) : entsS (SL ++ [S]) = (entsS SL).push (entS SL.length S) := by
  unfold entsS; rw [List.mapIdx_concat]; simp
theorem find_set {SL : List (Nat → Nat)} {L : List (List Int)} (hR : RepL SL L) (hnd : L.Nodup) {S : Nat → Nat} {l : List Int} (hr : Rep S l) (hi : Inc l) (w : World) :
    (Instr.findKey 65 (sval S) (entsS SL).toList).run Tryd.prog w = .ok (if findL L l = L.length then none else some (findL L l, .int .i64 (findL L l : Nat))) w := by
  obtain ⟨kl, hl⟩ := keySet hr.ok
  have hget : ∀ (j : Nat) e, (entsS SL).toList[j]? = some e → ∃ T, SL[j]? = some T ∧ e = entS j T := by
    intro j e h
    simp only [entsS] at h
    rw [List.getElem?_mapIdx] at h
    cases hq : SL[j]? with
    | none => rw [hq] at h; cases h
    | some q => rw [hq] at h; exact ⟨q, rfl, (Option.some.inj h).symm⟩
  have hes : ∀ e ∈ (entsS SL).toList, ∃ l, keyOf Tryd.prog 65 e.key = some l := by
    intro e he
    obtain ⟨j, hj⟩ := List.mem_iff_getElem?.1 he
    obtain ⟨T, hT, rfl⟩ := hget j e hj
    obtain ⟨l', -, h2, -⟩ := hR.rep j T hT
    exact keySet h2.ok
  rcases lawSet.find w hl (entsS SL).toList hes with ⟨h1, h2⟩ | ⟨j, e, h1, h2, h3⟩
  · have hn : findL L l = L.length := hR.new hr hi fun T hT he => by
      obtain ⟨j, hj⟩ := List.mem_iff_getElem?.1 hT
      refine h2 (entS j T) (List.mem_of_getElem? (i := j) ?_) (eqS_sval he)
      simp only [entsS]
      rw [List.getElem?_mapIdx, hj]; rfl
    rw [h1, if_pos hn]
  · obtain ⟨T, hT, rfl⟩ := hget j e h2
    have hj := hR.find hnd hr hi hT (sval_eq h3)
    have hlt := (List.getElem?_eq_some_iff.1 hT).1
    rw [h1, hj, if_neg (by rw [← hR.len]; omega)]; rfl
theorem mapSet : Tryd.prog.underlying 127 = some (.map 65 3) := by kernel_rfl
theorem lookS_known {SL : List (Nat → Nat)} {L : List (List Int)} (hR : RepL SL L) (hnd : L.Nodup) {S : Nat → Nat} {l : List Int} (hr : Rep S l) (hi : Inc l) {w : World} {r c : Nat} (hm : w.heap[r]? = some (.map (entsS SL) c)) (h : ¬ findL L l = L.length) :
    (Instr.lookup 127 (.map (some r)) (sval S) true).run Tryd.prog w = .ok (.tuple #[.int .i64 (findL L l : Nat), .bool true]) w := by
  obtain ⟨kl, hl⟩ := keySet hr.ok
  have h1 := find_set hR hnd hr hi w
  rw [if_neg h] at h1
  simp [Instr.lookup, run_underlying mapSet, MapKept.run_getObj_map hm, lawSet.check w _ hl, h1, Result.andThen]
theorem lookS_new {SL : List (Nat → Nat)} {L : List (List Int)} (hR : RepL SL L) (hnd : L.Nodup) {S : Nat → Nat} {l : List Int} (hr : Rep S l) (hi : Inc l) {w : World} {r c : Nat} (hm : w.heap[r]? = some (.map (entsS SL) c)) (h : findL L l = L.length) :
    (Instr.lookup 127 (.map (some r)) (sval S) true).run Tryd.prog w = .ok (.tuple #[.int .i64 0, .bool false]) w := by
  obtain ⟨kl, hl⟩ := keySet hr.ok
  have h1 := find_set hR hnd hr hi w
  rw [if_pos h] at h1
  simp [Instr.lookup, run_underlying mapSet, MapKept.run_getObj_map hm, lawSet.check w _ hl, h1, Result.andThen]
theorem updS_new {SL : List (Nat → Nat)} {L : List (List Int)} (hR : RepL SL L) (hnd : L.Nodup) {S : Nat → Nat} {l : List Int} (hr : Rep S l) (hi : Inc l) {w : World} {r : Nat} (hm : w.heap[r]? = some (.map (entsS SL) SL.length)) (h : findL L l = L.length) :
    (Instr.mapUpdate 127 (.map (some r)) (sval S) (.int .i64 (SL.length : Nat))).run Tryd.prog w = .ok () (setMap w r (.map (entsS (SL ++ [S])) (SL.length + 1))) := by
  obtain ⟨kl, hl⟩ := keySet hr.ok
  have h1 := find_set hR hnd hr hi w
  rw [if_pos h] at h1
  simp [Instr.mapUpdate, run_underlying mapSet, MapKept.run_getObj_map hm, lawSet.check w _ hl, h1, MapKept.run_setObj_map _ hm, Result.andThen, setMap, entsS_snoc, entS]

/-! Rows of sets. -/
def sflat : List (Nat → Nat) → List Value
  | [] => []
  | S :: r => .int .u64 (S 0) :: .int .u64 (S 1) :: .int .u64 (S 2) :: .int .u64 (S 3) :: sflat r
theorem sflat_len : ∀ L : List (Nat → Nat), (sflat L).length = L.length * 4
  | [] => rfl
  | S :: r => by simp only [sflat, List.length_cons, sflat_len r]; omega
theorem sflat_append : ∀ L M : List (Nat → Nat), sflat (L ++ M) = sflat L ++ sflat M
  | [], M => rfl
  | a :: r, M => by simp only [List.cons_append, sflat, sflat_append r M]
theorem sflat_at : ∀ {L : List (Nat → Nat)} {k : Nat} {S : Nat → Nat}, L[k]? = some S → (sflat L)[k * 4]? = some (.int .u64 (S 0)) ∧ (sflat L)[k * 4 + 1]? = some (.int .u64 (S 1)) ∧ (sflat L)[k * 4 + 2]? = some (.int .u64 (S 2)) ∧ (sflat L)[k * 4 + 3]? = some (.int .u64 (S 3))
  | [], k, S, h => by simp at h
  | a :: r, 0, S, h => by
    have e : a = S := by simpa using h
    subst e; simp [sflat]
  | a :: r, k + 1, S, h => by
    have := sflat_at (L := r) (k := k) (S := S) (by simpa using h)
    rw [show (k + 1) * 4 = k * 4 + 1 + 1 + 1 + 1 by omega]
    simpa [sflat] using this
abbrev OwnS (W : World) (B : Nat) (v : Value) (L : List (Nat → Nat)) : Prop := W.ownsRow B 65 4 v L.length (sflat L)
theorem OwnS.cell {W : World} {B : Nat} {v : Value} {L : List (Nat → Nat)} (h : OwnS W B v L) {k : Nat} {S : Nat → Nat} (hk : L[k]? = some S) : ∃ g cap, v = .slice (some ⟨g, 0, none⟩) L.length cap ∧ B ≤ g ∧ g < W.heap.size ∧ W.cell? ⟨g, k * 4, none⟩ = some (.int .u64 (S 0)) ∧ W.cell? ⟨g, k * 4 + 1, none⟩ = some (.int .u64 (S 1)) ∧ W.cell? ⟨g, k * 4 + 2, none⟩ = some (.int .u64 (S 2)) ∧ W.cell? ⟨g, k * 4 + 3, none⟩ = some (.int .u64 (S 3)) := by
  rcases h.2 with ⟨rfl, hn⟩ | ⟨g, cap, cur, rfl, hg, hh, hnc, hcm, hcs, ht⟩
  · have := (List.getElem?_eq_some_iff.1 hk).1; omega
  · obtain ⟨h1, h2, h3, h4⟩ := sflat_at hk
    have c1 := h.cells (g := g) rfl _ _ h1
    have c2 := h.cells (g := g) rfl _ _ h2
    have c3 := h.cells (g := g) rfl _ _ h3
    have c4 := h.cells (g := g) rfl _ _ h4
    rw [addr0_add, Nat.zero_add] at c1 c2 c3 c4
    exact ⟨g, cap, rfl, hg, (Array.getElem?_eq_some_iff.1 hh).1, c1, c2, c3, c4⟩
theorem cells_four (W W' : World) (hW : W'.heap = W.heap) (t : TypeId) (x y z u : Value) : ∀ j v, ([x, y, z, u] : List Value)[j]? = some v → (W'.alloc (.cells #[x, y, z, u] t)).cell? ((⟨W.heap.size, 0, none⟩ : Addr).add j) = some v := by
  intro j v hv
  rw [addr0_add, Nat.zero_add, ← hW]
  exact (Blk.new W' t #[x, y, z, u]).cell j (by rw [← Array.getElem?_toList]; exact hv)
theorem own_set {W : World} {B : Nat} {v : Value} {L : List (Nat → Nat)} {S : Nat → Nat} (h : W.ownsRow B 65 4 v (L.length + 1) (sflat L ++ [.int .u64 (S 0), .int .u64 (S 1), .int .u64 (S 2), .int .u64 (S 3)])) : OwnS W B v (L ++ [S]) := by
  show W.ownsRow B 65 4 v (L ++ [S]).length (sflat (L ++ [S]))
  rw [List.length_append, sflat_append]
  exact h
theorem ownS_one (W : World) (S : Nat → Nat) (B : Nat) (hB : B ≤ W.heap.size) : OwnS (W.alloc (.cells (scells S) 65)) B (.slice (some ⟨W.heap.size, 0, none⟩) 1 1) [S] := World.ownsRow_lit W (scells S) 1 hB (by decide) rfl

/-- What find knows: its rows of sets and of arrows, made from block B on, and its map. -/
structure FDI (B : Nat) (W : World) (br : Nat) (vs va : Value) (SL : List (Nat → Nat)) (A : List Arr) : Prop where
  ss : OwnS W B vs SL
  ar : OwnA W B va A
  mp : W.heap[br]? = some (.map (entsS SL) SL.length)
  lr : B ≤ br
section
variable {B : Nat} {W : World} {br : Nat} {vs va : Value} {SL : List (Nat → Nat)} {A : List Arr}
theorem FDI.below {W' : World} (h : FDI B W br vs va SL A) (hb : Below W.heap.size W W') : FDI B W' br vs va SL A :=
  ⟨own_same h.ss (fun k hk => hb.block k (World.ownsRow.lt h.ss k hk).2), h.ar.kept hb (Nat.le_refl _), (hb.block br (Array.getElem?_eq_some_iff.1 h.mp).1).trans h.mp, h.lr⟩
theorem FDI.apart (h : FDI B W br vs va SL A) : vs.ownBlock ≠ some br ∧ va.ownBlock ≠ some br := by
  have hm := h.mp
  exact ⟨fun e => (by obtain ⟨cs, hc⟩ := own_type h.ss e; rw [hm] at hc; cases hc), fun e => (by obtain ⟨cs, hc⟩ := own_type h.ar e; rw [hm] at hc; cases hc)⟩
/-- One set more: the map, the row. -/
theorem FDI.push {w0 : World} {W2 W3 : World} {vs' : Value} {S : Nat → Nat} (h : FDI B W br vs va SL A) (h0 : Below B w0 W) (hW3 : Below (setMap W br (.map (entsS (SL ++ [S])) (SL.length + 1))).heap.size (setMap W br (.map (entsS (SL ++ [S])) (SL.length + 1))) W3) (o1 : OwnS W2 B vs' (SL ++ [S])) (g : W3.grownBy W2 vs.ownBlock) (hBW : B ≤ W.heap.size) :
    FDI B W2 br vs' va (SL ++ [S]) A ∧ Below B w0 W2 := by
  obtain ⟨a1, a2⟩ := h.apart
  have hbr := (Array.getElem?_eq_some_iff.1 h.mp).1
  have hz : W.heap.size ≤ W3.heap.size := by have := hW3.size; rwa [size_setMap] at this
  have k3 : ∀ j, j < W.heap.size → W3.heap[j]? = (setMap W br (.map (entsS (SL ++ [S])) (SL.length + 1))).heap[j]? := fun j hj => hW3.block j (by rw [size_setMap]; exact hj)
  have k2 : ∀ j, j < W.heap.size → vs.ownBlock ≠ some j → W2.heap[j]? = (setMap W br (.map (entsS (SL ++ [S])) (SL.length + 1))).heap[j]? := fun j hj hne => (g.block j (Nat.lt_of_lt_of_le hj hz) (fun e => hne e.symm)).trans (k3 j hj)
  refine ⟨⟨o1, ?_, ?_, h.lr⟩, ?_⟩
  · refine own_same h.ar (fun k hk => ?_)
    have hlt := (World.ownsRow.lt h.ar k hk).2
    rw [k2 k hlt (fun e => ?_), heap_setMap_ne _ _ _ (fun e => a2 (by rw [hk, e]))]
    rcases own_apart h.ss h.ar (by decide) with r | r
    · rw [r] at e; cases e
    · exact r (e.trans hk.symm)
  · rw [k2 br hbr a1, heap_setMap _ _ hbr, List.length_append]; rfl
  · have b1 : Below B w0 (setMap W br (.map (entsS (SL ++ [S])) (SL.length + 1))) :=
      h0.trans ⟨rfl, rfl, rfl, by rw [size_setMap]; exact Nat.le_refl _, fun j hj => heap_setMap_ne _ _ _ (by have := h.lr; omega)⟩
    exact (b1.trans (hW3.mono (by rw [size_setMap]; exact hBW))).grown g (Nat.le_trans hBW hz) (fun j hj => (World.ownsRow.lt h.ss j hj).1)
/-- One arrow more. -/
theorem FDI.arrow {w0 : World} {W2 W3 : World} {va' : Value} {x : Arr} (h : FDI B W br vs va SL A) (h0 : Below B w0 W) (hW3 : Below W.heap.size W W3) (o1 : OwnA W2 B va' (A ++ [x])) (g : W3.grownBy W2 va.ownBlock) (hBW : B ≤ W.heap.size) :
    FDI B W2 br vs va' SL (A ++ [x]) ∧ Below B w0 W2 := by
  have h3 := h.below hW3
  obtain ⟨a1, a2⟩ := h3.apart
  refine ⟨⟨own_same h3.ss (fun k hk => g.block k (World.ownsRow.lt h3.ss k hk).2 (fun e => ?_)), o1, ?_, h.lr⟩, ?_⟩
  · rcases own_apart h3.ss h3.ar (by decide) with r | r
    · rw [r] at hk; cases hk
    · exact r (hk.trans e)
  · rw [g.block br (Array.getElem?_eq_some_iff.1 h3.mp).1 (fun e => a2 e.symm)]; exact h3.mp
  · exact (h0.trans (hW3.mono hBW)).grown g (Nat.le_trans hBW hW3.size) (fun j hj => (World.ownsRow.lt h3.ar j hj).1)
end

end Go.Proofs.YtgfpjfiikajadaaDoor
namespace Go.Proofs.YtgfpjfiikajadaaDoor
open Go.RowKit
set_option linter.unusedVariables false

/-- What both have; what the first one alone has. -/
def meetS (S T : Nat → Nat) : Nat → Nat := fun k => S k &&& T k
def lessS (S T : Nat → Nat) : Nat → Nat := fun k => S k &&& (18446744073709551615 - T k)
theorem okS_meet {S T : Nat → Nat} (h : okS S) : okS (meetS S T) := fun k => Nat.lt_of_le_of_lt Nat.and_le_left (h k)
theorem okS_less {S T : Nat → Nat} (h : okS S) : okS (lessS S T) := fun k => Nat.lt_of_le_of_lt Nat.and_le_left (h k)
theorem hasS_meet (S T : Nat → Nat) (n : Nat) : hasS (meetS S T) n = (hasS S n && hasS T n) := by simp [hasS, meetS]
theorem hasS_less {S T : Nat → Nat} (h : okS T) (n : Nat) : hasS (lessS S T) n = (hasS S n && !hasS T n) := by
  unfold hasS lessS
  rw [Nat.testBit_and]
  have e : 18446744073709551615 - T (n / 64) = 2 ^ 64 - (T (n / 64) + 1) := by
    show _ = 18446744073709551616 - _
    omega
  rw [e, Nat.testBit_two_pow_sub_succ (h _)]
  have : n % 64 < 64 := by omega
  simp [this]

/-- The table: where each state leads in one step. -/
def tabKStep (fr to : Arr → Int) (T : Nat → Nat → Nat) (a : Arr) : Nat → Nat → Nat := fun p => if p = (fr a).toNat then withS (T p) (to a).toNat else T p
def tabK (fr to : Arr → Int) (ars : List Arr) : Nat → Nat → Nat := ars.foldl (tabKStep fr to) (fun _ => zeroS)
theorem tabK_take {fr to : Arr → Int} {ars : List Arr} {k : Nat} {a : Arr} (h : k < ars.length) (ha : Hid (a = ars[k]?.getD arr0)) : tabK fr to (ars.take (k + 1)) = tabKStep fr to (tabK fr to (ars.take k)) a := by
  have ha := ha.out
  rw [List.getElem?_eq_getElem h, Option.getD_some] at ha
  unfold tabK
  rw [List.take_add_one, List.getElem?_eq_getElem h, ← ha]
  simp [List.foldl_append]
theorem okS_tabKStep {fr to : Arr → Int} {T : Nat → Nat → Nat} (h : ∀ p, okS (T p)) (a : Arr) : ∀ p, okS (tabKStep fr to T a p) := fun p => by
  unfold tabKStep; split
  · exact okS_with (h p) _
  · exact h p
theorem okS_foldTabK {fr to : Arr → Int} : ∀ (ars : List Arr) (T : Nat → Nat → Nat), (∀ p, okS (T p)) → ∀ p, okS (ars.foldl (tabKStep fr to) T p)
  | [], _, h => h
  | a :: r, T, h => okS_foldTabK r _ (okS_tabKStep h a)
theorem okS_tabK (fr to : Arr → Int) (ars : List Arr) (p : Nat) : okS (tabK fr to ars p) := okS_foldTabK ars _ (fun _ => okS_zero) p
theorem has_foldTabK {fr to : Arr → Int} {p n : Nat} : ∀ (ars : List Arr) (T : Nat → Nat → Nat), hasS (ars.foldl (tabKStep fr to) T p) n = true ↔ hasS (T p) n = true ∨ ∃ a ∈ ars, p = (fr a).toNat ∧ n = (to a).toNat
  | [], T => by simp
  | a :: r, T => by
    rw [List.foldl_cons, has_foldTabK r]
    have e : hasS (tabKStep fr to T a p) n = true ↔ hasS (T p) n = true ∨ (p = (fr a).toNat ∧ n = (to a).toNat) := by
      unfold tabKStep
      by_cases h : p = (fr a).toNat
      · rw [if_pos h, hasS_with, Bool.or_eq_true, decide_eq_true_eq]; simp [h]
      · rw [if_neg h]; simp [h]
    rw [e]
    simp only [List.mem_cons, exists_eq_or_imp]
    rw [or_assoc]
theorem has_tabK (fr to : Arr → Int) (p n : Nat) (ars : List Arr) : hasS (tabK fr to ars p) n = true ↔ ∃ a ∈ ars, p = (fr a).toNat ∧ n = (to a).toNat := by
  unfold tabK; rw [has_foldTabK]; simp [hasS_zero]

/-- Where states lead to, by a table. -/
def toF (T : Nat → Nat → Nat) (ns : List Nat) : Nat → Nat := ns.foldl (fun o n => joinS o (T n)) zeroS
theorem toF_snoc (T : Nat → Nat → Nat) (ns : List Nat) (n : Nat) : toF T (ns ++ [n]) = joinS (toF T ns) (T n) := by simp [toF, List.foldl_append]
theorem ok_toG {T : Nat → Nat → Nat} (h : ∀ p, okS (T p)) : ∀ (ns : List Nat) (o : Nat → Nat), okS o → okS (ns.foldl (fun o n => joinS o (T n)) o)
  | [], _, ho => ho
  | n :: r, o, ho => ok_toG h r _ (okS_join ho (h _))
theorem ok_toF {T : Nat → Nat → Nat} (h : ∀ p, okS (T p)) (ns : List Nat) : okS (toF T ns) := ok_toG h ns _ okS_zero
theorem has_toG {T : Nat → Nat → Nat} {k : Nat} : ∀ (ns : List Nat) (o : Nat → Nat), hasS (ns.foldl (fun o n => joinS o (T n)) o) k = true ↔ hasS o k = true ∨ ∃ n ∈ ns, hasS (T n) k = true
  | [], o => by simp
  | n :: r, o => by
    rw [List.foldl_cons, has_toG r, hasS_join, Bool.or_eq_true]
    simp only [List.mem_cons, exists_eq_or_imp]
    rw [or_assoc]
theorem has_toF (T : Nat → Nat → Nat) (k : Nat) (ns : List Nat) : hasS (toF T ns) k = true ↔ ∃ n ∈ ns, hasS (T n) k = true := by
  unfold toF; rw [has_toG]; simp [hasS_zero]

/-- What holds from round to round: F is found, R of it is fresh. -/
structure Spr (fr to : Arr → Int) (ars : List Arr) (l : List Int) (F R : Nat → Nat) : Prop where
  okF : okS F
  okR : okS R
  sub : ∀ n, n < 256 → hasS R n = true → hasS F n = true
  rch : ∀ n : Nat, n < 256 → hasS F n = true → Rch fr to ars l (n : Int)
  start : ∀ x ∈ l, hasS F x.toNat = true
  shut : ∀ a ∈ ars, hasS F (fr a).toNat = true → hasS R (fr a).toNat = false → hasS F (to a).toNat = true

theorem spr_start {fr to : Arr → Int} {ars : List Arr} {l : List Int} (hl : ∀ x ∈ l, 0 ≤ x ∧ x < 256) : Spr fr to ars l (ofS l) (ofS l) := by
  have hr : Rep (ofS l) l := by
    have := rep_of hl l.length
    rwa [List.take_of_length_le (Nat.le_refl _)] at this
  refine ⟨hr.ok, hr.ok, fun _ _ h => h, fun n hn h => rch_start ((hr.mem n hn).1 h), fun x hx => ?_, fun a _ h1 h2 => by rw [h1] at h2; cases h2⟩
  have := hl x hx
  exact (hr.mem x.toNat (by omega)).2 (by rwa [Int.toNat_of_nonneg this.1])
/-- What comes in one round. -/
def frS (fr to : Arr → Int) (ars : List Arr) (F R : Nat → Nat) : Nat → Nat := lessS (toF (tabK fr to ars) (allS R)) F
theorem spr_step {fr to : Arr → Int} {ars : List Arr} {l : List Int} {F R : Nat → Nat} (hin : ∀ a ∈ ars, (0 ≤ fr a ∧ fr a < 256) ∧ 0 ≤ to a ∧ to a < 256) (h : Spr fr to ars l F R) : Spr fr to ars l (joinS F (frS fr to ars F R)) (frS fr to ars F R) := by
  have o1 : okS (frS fr to ars F R) := okS_less (ok_toF (okS_tabK fr to ars) _)
  have hf : ∀ n, hasS (frS fr to ars F R) n = (hasS (toF (tabK fr to ars) (allS R)) n && !hasS F n) := fun n => hasS_less h.okF n
  have hr : ∀ n, n < 256 → hasS (frS fr to ars F R) n = true → Rch fr to ars l (n : Int) := fun n hn hx => by
    rw [hf, Bool.and_eq_true, has_toF] at hx
    obtain ⟨⟨k, hk, ht⟩, -⟩ := hx
    obtain ⟨a, ha, e1, e2⟩ := (has_tabK _ _ _ _ _).1 ht
    obtain ⟨k1, k2⟩ := (mem_allS _ _).1 hk
    have hb := hin a ha
    have := h.rch k k1 (h.sub k k1 k2)
    rw [show (k : Int) = fr a by omega] at this
    rw [show (n : Int) = to a by omega]
    exact rch_step ha this
  refine ⟨okS_join h.okF o1, o1, fun n _ hx => by rw [hasS_join, hx]; simp, fun n hn hx => ?_, fun x hx => by rw [hasS_join, h.start x hx]; rfl, fun a ha h1 h2 => ?_⟩
  · rw [hasS_join, Bool.or_eq_true] at hx
    rcases hx with hx | hx
    · exact h.rch n hn hx
    · exact hr n hn hx
  · rw [hasS_join, h2, Bool.or_false] at h1
    have hb := hin a ha
    rw [hasS_join]
    cases hR : hasS R (fr a).toNat with
    | false => rw [h.shut a ha h1 hR]; rfl
    | true =>
      have ht : hasS (toF (tabK fr to ars) (allS R)) (to a).toNat = true := (has_toF _ _ _).2 ⟨(fr a).toNat, (mem_allS _ _).2 ⟨by omega, hR⟩, (has_tabK _ _ _ _ _).2 ⟨a, ha, rfl, rfl⟩⟩
      rw [hf, ht]
      cases hasS F (to a).toNat <;> rfl
theorem empty_has {S : Nat → Nat} (he : emptyB S = true) (n : Nat) (hn : n < 256) : hasS S n = false := by
  obtain ⟨e0, e1, e2, e3⟩ := of_decide_eq_true he
  unfold hasS
  have hk : n / 64 = 0 ∨ n / 64 = 1 ∨ n / 64 = 2 ∨ n / 64 = 3 := by omega
  rcases hk with hk | hk | hk | hk <;> rw [hk] <;> simp [e0, e1, e2, e3]
theorem empty_not {S : Nat → Nat} (ho : okS S) (he : emptyB S = false) : ∃ n, n < 256 ∧ hasS S n = true := by
  apply Classical.byContradiction
  intro hn
  have hw : ∀ i, i < 4 → S i = 0 := fun i hi => word_zero (ho i) fun j hj => by
    cases hb : (S i).testBit j with
    | false => rfl
    | true =>
      exfalso
      apply hn
      refine ⟨64 * i + j, by omega, ?_⟩
      unfold hasS
      rw [show (64 * i + j) / 64 = i by omega, show (64 * i + j) % 64 = j by omega]
      exact hb
  have : emptyB S = true := decide_eq_true ⟨hw 0 (by omega), hw 1 (by omega), hw 2 (by omega), hw 3 (by omega)⟩
  rw [this] at he; cases he
theorem spr_end {fr to : Arr → Int} {ars : List Arr} {l : List Int} {F R : Nat → Nat} (hl : ∀ x ∈ l, 0 ≤ x ∧ x < 256) (hin : ∀ a ∈ ars, (0 ≤ fr a ∧ fr a < 256) ∧ 0 ≤ to a ∧ to a < 256) (h : Spr fr to ars l F R) (he : emptyB R = true) (x : Int) : x ∈ rowS F ↔ Rch fr to ars l x := by
  rw [mem_rowS]
  constructor
  · rintro ⟨h0, h1, h2⟩
    have := h.rch x.toNat (by omega) h2
    rwa [Int.toNat_of_nonneg h0] at this
  · intro hx
    refine hx (fun x => 0 ≤ x ∧ x < 256 ∧ hasS F x.toNat = true) ⟨fun y hy => ⟨(hl y hy).1, (hl y hy).2, h.start y hy⟩, fun a ha ⟨h1, h2, h3⟩ => ?_⟩
    have hb := hin a ha
    exact ⟨hb.2.1, hb.2.2, h.shut a ha h3 (empty_has he _ (by omega))⟩
/-- What falls from round to round. -/
def msr (F R : Nat → Nat) : Nat := 2 * (256 - (allS F).length) + (emptyB R == false).toNat
theorem allS_filter {F G : Nat → Nat} (h : ∀ n, n < 256 → hasS F n = true → hasS G n = true) : allS F = (allS G).filter fun n => hasS F n := by
  apply natInc_ext (inc_fromS F 4 0) ((inc_fromS G 4 0).filter _)
  intro x
  show x ∈ allS F ↔ x ∈ (allS G).filter _
  rw [List.mem_filter, mem_allS, mem_allS]
  constructor
  · rintro ⟨h1, h2⟩; exact ⟨⟨h1, h x h1 h2⟩, h2⟩
  · rintro ⟨⟨h1, _⟩, h2⟩; exact ⟨h1, h2⟩
theorem msr_lt {fr to : Arr → Int} {ars : List Arr} {l : List Int} {F R : Nat → Nat} (h : Spr fr to ars l F R) (he : emptyB R = false) : msr (joinS F (frS fr to ars F R)) (frS fr to ars F R) < msr F R := by
  have o1 : okS (frS fr to ars F R) := okS_less (ok_toF (okS_tabK fr to ars) _)
  have hf := allS_filter (F := F) (G := joinS F (frS fr to ars F R)) (fun n _ hx => by rw [hasS_join, hx]; rfl)
  have hl2 := allS_len (joinS F (frS fr to ars F R))
  unfold msr
  rw [he]
  cases hE : emptyB (frS fr to ars F R) with
  | true =>
    have : (allS F).length ≤ (allS (joinS F (frS fr to ars F R))).length := by rw [hf]; exact List.length_filter_le _ _
    simp
    omega
  | false =>
    obtain ⟨n, hn, hx⟩ := empty_not o1 hE
    have : (allS F).length < (allS (joinS F (frS fr to ars F R))).length := by
      rw [hf]
      apply List.length_filter_lt_length_iff_exists.2
      refine ⟨n, (mem_allS _ _).2 ⟨hn, by rw [hasS_join, hx]; simp⟩, ?_⟩
      have := hx
      unfold frS at this
      rw [hasS_less h.okF, Bool.and_eq_true] at this
      have h2 : hasS F n = false := by simpa using this.2
      rw [h2]; simp
    simp
    omega

theorem inc_reach (m : Mach) : Inc (reachL m) := inc_srt _
theorem inc_live (m : Mach) : Inc (liveL m) := inc_srt _
theorem row_reach {m : Mach} (hm : mayB m = true) {F : Nat → Nat} (h : ∀ x, x ∈ rowS F ↔ Rch (·.f) (·.t) m.arrows m.starts x) : rowS F = reachL m :=
  inc_ext (inc_rowS F) (inc_reach m) (fun x => (h x).trans (mem_reach hm x).symm)
theorem row_live {m : Mach} (hm : mayB m = true) {F : Nat → Nat} (h : ∀ x, x ∈ rowS F ↔ Rch (·.t) (·.f) m.arrows m.ends x) : rowS F = liveL m :=
  inc_ext (inc_rowS F) (inc_live m) (fun x => (h x).trans (mem_live hm x).symm)
theorem row_trim {m : Mach} {F G : Nat → Nat} (hF : rowS F = reachL m) (hG : rowS G = liveL m) : rowS (meetS F G) = trimL m := by
  refine inc_ext (inc_rowS _) (inc_trim m) (fun x => ?_)
  rw [mem_trim, ← hF, ← hG, mem_rowS, mem_rowS, mem_rowS, hasS_meet, Bool.and_eq_true]
  constructor
  · rintro ⟨h0, h1, h2, h3⟩; exact ⟨⟨h0, h1, h2⟩, h0, h1, h3⟩
  · rintro ⟨⟨h0, h1, h2⟩, -, -, h3⟩; exact ⟨h0, h1, h2, h3⟩

end Go.Proofs.YtgfpjfiikajadaaDoor
namespace Go.Proofs.YtgfpjfiikajadaaDoor
open Go.RowKit
set_option linter.unusedVariables false

/-- Each state by itself, the first n of them. -/
def iniT (n : Nat) : Nat → Nat → Nat := fun p => if p < n then withS zeroS p else zeroS
theorem okS_ini (n p : Nat) : okS (iniT n p) := by
  unfold iniT; split
  · exact okS_with okS_zero _
  · exact okS_zero
theorem has_ini {n p k : Nat} (h : p < n) : hasS (iniT n p) k = decide (k = p) := by
  unfold iniT; rw [if_pos h, hasS_with, hasS_zero]; rfl

/-- One arrow more. -/
def qStep (seen : List Int) (T : Nat → Nat → Nat) (a : Arr) : Nat → Nat → Nat := if hasB seen a.e = true then T else tabKStep (·.f) (·.t) T a
def qTab (seen : List Int) (N : Nat) (ars : List Arr) : Nat → Nat → Nat := ars.foldl (qStep seen) (iniT N)
theorem qTab_take {seen : List Int} {N : Nat} {ars : List Arr} {k : Nat} {a : Arr} (h : k < ars.length) (ha : Hid (a = ars[k]?.getD arr0)) : qTab seen N (ars.take (k + 1)) = qStep seen (qTab seen N (ars.take k)) a := by
  have ha := ha.out
  rw [List.getElem?_eq_getElem h, Option.getD_some] at ha
  unfold qTab
  rw [List.take_add_one, List.getElem?_eq_getElem h, ← ha]
  simp [List.foldl_append]
theorem okS_qStep {seen : List Int} {T : Nat → Nat → Nat} (h : ∀ p, okS (T p)) (a : Arr) : ∀ p, okS (qStep seen T a p) := fun p => by
  unfold qStep; split
  · exact h p
  · exact okS_tabKStep h a p
theorem okS_qFold {seen : List Int} : ∀ (ars : List Arr) (T : Nat → Nat → Nat), (∀ p, okS (T p)) → ∀ p, okS (ars.foldl (qStep seen) T p)
  | [], _, h => h
  | a :: r, T, h => okS_qFold r _ (okS_qStep h a)
theorem okS_qTab (seen : List Int) (N : Nat) (ars : List Arr) (p : Nat) : okS (qTab seen N ars p) := okS_qFold ars _ (okS_ini N) p
theorem has_qFold {seen : List Int} {p n : Nat} : ∀ (ars : List Arr) (T : Nat → Nat → Nat), hasS (ars.foldl (qStep seen) T p) n = true ↔ hasS (T p) n = true ∨ ∃ a ∈ unseenA ars seen, p = a.f.toNat ∧ n = a.t.toNat
  | [], T => by simp [unseenA]
  | a :: r, T => by
    rw [List.foldl_cons, has_qFold r]
    have e : hasS (qStep seen T a p) n = true ↔ hasS (T p) n = true ∨ (hasB seen a.e = false ∧ p = a.f.toNat ∧ n = a.t.toNat) := by
      unfold qStep
      split
      · rename_i h; simp [h]
      · rename_i h
        have h : hasB seen a.e = false := by simpa using h
        unfold tabKStep
        by_cases hp : p = a.f.toNat
        · rw [if_pos hp, hasS_with, Bool.or_eq_true, decide_eq_true_eq]; simp [h, hp]
        · rw [if_neg hp]; simp [hp]
    rw [e, or_assoc]
    refine or_congr Iff.rfl ?_
    constructor
    · rintro (⟨h1, h2⟩ | ⟨c, hc, h2⟩)
      · exact ⟨a, (mem_unseen _ _ _).2 ⟨by simp, h1⟩, h2⟩
      · exact ⟨c, (mem_unseen _ _ _).2 ⟨by simp [((mem_unseen _ _ _).1 hc).1], ((mem_unseen _ _ _).1 hc).2⟩, h2⟩
    · rintro ⟨c, hc, h2⟩
      obtain ⟨h1, h3⟩ := (mem_unseen _ _ _).1 hc
      rcases List.mem_cons.1 h1 with rfl | h1
      · exact .inl ⟨h3, h2⟩
      · exact .inr ⟨c, (mem_unseen _ _ _).2 ⟨h1, h3⟩, h2⟩
theorem has_qTab {seen : List Int} {N p n : Nat} (ars : List Arr) (hp : p < N) : hasS (qTab seen N ars p) n = true ↔ n = p ∨ ∃ a ∈ unseenA ars seen, p = a.f.toNat ∧ n = a.t.toNat := by
  unfold qTab; rw [has_qFold, has_ini hp, decide_eq_true_eq]

/-- One middle state more: the first j rows are done. -/
def fIn (T : Nat → Nat → Nat) (k j : Nat) : Nat → Nat → Nat := fun p => if p < j ∧ hasS (T p) k = true then joinS (T p) (T k) else T p
def fOut (T : Nat → Nat → Nat) (N : Nat) : Nat → Nat → Nat → Nat
  | 0 => T
  | k + 1 => fIn (fOut T N k) k N
theorem joinS_self (S : Nat → Nat) : joinS S S = S := by funext k; simp [joinS]
theorem fIn_zero (T : Nat → Nat → Nat) (k : Nat) : fIn T k 0 = T := by funext p; simp [fIn]
theorem fIn_at (T : Nat → Nat → Nat) (k j : Nat) : fIn T k j j = T j := by simp [fIn]
theorem fIn_mid (T : Nat → Nat → Nat) (k j : Nat) : fIn T k j k = T k := by
  unfold fIn; split
  · exact joinS_self _
  · rfl
theorem fIn_yes {T : Nat → Nat → Nat} {k j : Nat} (h : hasS (T j) k = true) : fIn T k (j + 1) = fun p => if p = j then joinS (T j) (T k) else fIn T k j p := by
  funext p
  unfold fIn
  by_cases hp : p = j
  · subst hp; simp [h]
  · have : (p < j + 1) ↔ p < j := by omega
    simp [hp, this]
theorem fIn_no {T : Nat → Nat → Nat} {k j : Nat} (h : hasS (T j) k = false) : fIn T k (j + 1) = fIn T k j := by
  funext p
  unfold fIn
  by_cases hp : p = j
  · subst hp; simp [h]
  · have : (p < j + 1) ↔ p < j := by omega
    simp [this]
theorem okS_fIn {T : Nat → Nat → Nat} (h : ∀ p, okS (T p)) (k j p : Nat) : okS (fIn T k j p) := by
  unfold fIn; split
  · exact okS_join (h p) (h k)
  · exact h p
theorem okS_fOut {T : Nat → Nat → Nat} (h : ∀ p, okS (T p)) (N : Nat) : ∀ k p, okS (fOut T N k p)
  | 0, p => h p
  | k + 1, p => okS_fIn (okS_fOut h N k) k N p
theorem has_fIn {T : Nat → Nat → Nat} {k N p n : Nat} (hp : p < N) : hasS (fIn T k N p) n = true ↔ hasS (T p) n = true ∨ (hasS (T p) k = true ∧ hasS (T k) n = true) := by
  unfold fIn
  cases h : hasS (T p) k with
  | true => simp [hp, hasS_join]
  | false => simp
/-- By the first k states as middle ones all ways are known. -/
structure Mid (T : Nat → Nat → Nat) (N k : Nat) (U : Nat → Nat → Nat) : Prop where
  sub : ∀ p n, p < N → hasS (T p) n = true → hasS (U p) n = true
  tr : ∀ p q n, p < N → q < k → hasS (U p) q = true → hasS (U q) n = true → hasS (U p) n = true
theorem mid_out (T : Nat → Nat → Nat) (N : Nat) : ∀ k, k ≤ N → Mid T N k (fOut T N k)
  | 0, _ => ⟨fun _ _ _ h => h, fun _ q _ _ h => absurd h (Nat.not_lt_zero q)⟩
  | k + 1, hk => by
    have h := mid_out T N k (by omega)
    refine ⟨fun p n hp hx => (has_fIn hp).2 (.inl (h.sub p n hp hx)), fun p q n hp hq h1 h2 => ?_⟩
    have hqN : q < N := by omega
    have h1 := (has_fIn hp).1 h1
    have h2 := (has_fIn hqN).1 h2
    refine (has_fIn hp).2 ?_
    by_cases e : q = k
    · subst e
      have h1' : hasS (fOut T N q p) q = true := by
        rcases h1 with h1 | h1
        · exact h1
        · exact h1.1
      have h2' : hasS (fOut T N q q) n = true := by
        rcases h2 with h2 | h2
        · exact h2
        · exact h2.2
      exact .inr ⟨h1', h2'⟩
    · have hq : q < k := by omega
      rcases h1 with h1 | ⟨h1, h3⟩
      · rcases h2 with h2 | ⟨h2, h4⟩
        · exact .inl (h.tr p q n hp hq h1 h2)
        · exact .inr ⟨h.tr p q k hp hq h1 h2, h4⟩
      · rcases h2 with h2 | ⟨h2, h4⟩
        · exact .inr ⟨h1, h.tr k q n (by omega) hq h3 h2⟩
        · exact .inr ⟨h1, h4⟩
theorem sound_out {T : Nat → Nat → Nat} {N : Nat} (G : Nat → Nat → Prop) (h0 : ∀ p n, p < N → hasS (T p) n = true → G p n) (ht : ∀ p q n, p < N → q < N → G p q → G q n → G p n) : ∀ k, k ≤ N → ∀ p n, p < N → hasS (fOut T N k p) n = true → G p n
  | 0, _, p, n, hp, h => h0 p n hp h
  | k + 1, hk, p, n, hp, h => by
    rcases (has_fIn hp).1 h with h | ⟨h1, h2⟩
    · exact sound_out G h0 ht k (by omega) p n hp h
    · exact ht p k n hp (by omega) (sound_out G h0 ht k (by omega) p k hp h1) (sound_out G h0 ht k (by omega) k n (by omega) h2)

/-- Of each state, where unseen events lead to. -/
def stillT (seen : List Int) (N : Nat) (ars : List Arr) : Nat → Nat → Nat := fOut (qTab seen N ars) N N
theorem okS_still (seen : List Int) (N : Nat) (ars : List Arr) (p : Nat) : okS (stillT seen N ars p) := okS_fOut (okS_qTab seen N ars) N N p
theorem rch_trans {fr to : Arr → Int} {ars : List Arr} {l l' : List Int} {x : Int} (h : ∀ y ∈ l', Rch fr to ars l y) (hx : Rch fr to ars l' x) : Rch fr to ars l x :=
  fun P hP => hx P ⟨fun y hy => h y hy P hP, hP.step⟩
theorem rch_one {fr to : Arr → Int} {ars : List Arr} {l : List Int} {x : Int} : Rch fr to ars l x ↔ ∃ y ∈ l, Rch fr to ars [y] x := by
  constructor
  · intro h
    refine h (fun x => ∃ y ∈ l, Rch fr to ars [y] x) ⟨fun y hy => ⟨y, hy, rch_start (by simp)⟩, fun a ha ⟨y, hy, h⟩ => ⟨y, hy, rch_step ha h⟩⟩
  · rintro ⟨y, hy, h⟩
    exact rch_trans (fun z hz => by have : z = y := by simpa using hz
                                    rw [this]; exact rch_start hy) h
theorem has_still {m : Mach} (hm : mayB m = true) (seen : List Int) {N : Nat} (hN : m.st = (N : Int)) {p n : Nat} (hp : p < N) : hasS (stillT seen N m.arrows p) n = true ↔ Rch (·.f) (·.t) (unseenA m.arrows seen) [(p : Int)] (n : Int) := by
  have hb : ∀ a ∈ unseenA m.arrows seen, (0 ≤ a.f ∧ a.f < (N : Int)) ∧ 0 ≤ a.t ∧ a.t < (N : Int) := fun a ha => by
    have := may_arrs hm a ((mem_unseen _ _ _).1 ha).1
    rw [hN] at this
    exact ⟨⟨this.1, this.2.1⟩, this.2.2.1, this.2.2.2.1⟩
  constructor
  · refine fun h => sound_out (fun p n => Rch (·.f) (·.t) (unseenA m.arrows seen) [(p : Int)] (n : Int)) (fun p n hp h => ?_) (fun p q n hp hq h1 h2 => ?_) N (Nat.le_refl _) p n hp h
    · rcases (has_qTab _ hp).1 h with rfl | ⟨a, ha, rfl, rfl⟩
      · exact rch_start (by simp)
      · have h1 := hb a ha
        have : Rch (·.f) (·.t) (unseenA m.arrows seen) [((a.f.toNat : Nat) : Int)] a.f := rch_start (by simp; omega)
        have := rch_step (fr := (·.f)) (to := (·.t)) ha this
        rwa [show ((a.t.toNat : Nat) : Int) = a.t by omega]
    · exact rch_trans (fun y hy => by have : y = (q : Int) := by simpa using hy
                                      rw [this]; exact h1) h2
  · intro h
    have hM := mid_out (qTab seen N m.arrows) N N (Nat.le_refl _)
    have := h (fun x => 0 ≤ x ∧ x < (N : Int) ∧ hasS (stillT seen N m.arrows p) x.toNat = true) ⟨fun y hy => ?_, fun a ha h => ?_⟩
    · simpa using this.2.2
    · have : y = (p : Int) := by simpa using hy
      subst this
      exact ⟨by omega, by omega, by rw [Int.toNat_natCast]; exact hM.sub p p hp ((has_qTab _ hp).2 (.inl rfl))⟩
    · have h1 := hb a ha
      refine ⟨h1.2.1, h1.2.2, hM.tr p a.f.toNat a.t.toNat hp (by omega) h.2.2 (hM.sub _ _ (by omega) ((has_qTab _ (by omega)).2 (.inr ⟨a, ha, rfl, rfl⟩)))⟩

/-- Of each seen event and each state, where it leads to. -/
def lStep (seen : List Int) (S : Nat → Nat → Nat) (U : Nat → Nat → Nat → Nat) (a : Arr) : Nat → Nat → Nat → Nat := if hasB seen a.e = true then (fun k => if k = (placeI seen a.e).toNat then (fun p => if p = a.f.toNat then joinS (U k p) (S a.t.toNat) else U k p) else U k) else U
def lTab (seen : List Int) (S : Nat → Nat → Nat) (ars : List Arr) : Nat → Nat → Nat → Nat := ars.foldl (lStep seen S) (fun _ _ => zeroS)
theorem lTab_take {seen : List Int} {S : Nat → Nat → Nat} {ars : List Arr} {k : Nat} {a : Arr} (h : k < ars.length) (ha : Hid (a = ars[k]?.getD arr0)) : lTab seen S (ars.take (k + 1)) = lStep seen S (lTab seen S (ars.take k)) a := by
  have ha := ha.out
  rw [List.getElem?_eq_getElem h, Option.getD_some] at ha
  unfold lTab
  rw [List.take_add_one, List.getElem?_eq_getElem h, ← ha]
  simp [List.foldl_append]
theorem okS_lStep {seen : List Int} {S : Nat → Nat → Nat} (hS : ∀ p, okS (S p)) {U : Nat → Nat → Nat → Nat} (h : ∀ k p, okS (U k p)) (a : Arr) : ∀ k p, okS (lStep seen S U a k p) := fun k p => by
  unfold lStep; split
  · dsimp only
    split
    · show okS (if p = a.f.toNat then joinS (U k p) (S a.t.toNat) else U k p)
      split
      · exact okS_join (h k p) (hS _)
      · exact h k p
    · exact h k p
  · exact h k p
theorem okS_lFold {seen : List Int} {S : Nat → Nat → Nat} (hS : ∀ p, okS (S p)) : ∀ (ars : List Arr) (U : Nat → Nat → Nat → Nat), (∀ k p, okS (U k p)) → ∀ k p, okS (ars.foldl (lStep seen S) U k p)
  | [], _, h => h
  | a :: r, U, h => okS_lFold hS r _ (okS_lStep hS h a)
theorem okS_lTab {seen : List Int} {S : Nat → Nat → Nat} (hS : ∀ p, okS (S p)) (ars : List Arr) (k p : Nat) : okS (lTab seen S ars k p) := okS_lFold hS ars _ (fun _ _ => okS_zero) k p
theorem has_lFold {seen : List Int} {S : Nat → Nat → Nat} {k p n : Nat} : ∀ (ars : List Arr) (U : Nat → Nat → Nat → Nat), hasS (ars.foldl (lStep seen S) U k p) n = true ↔ hasS (U k p) n = true ∨ ∃ a ∈ ars, hasB seen a.e = true ∧ k = (placeI seen a.e).toNat ∧ p = a.f.toNat ∧ hasS (S a.t.toNat) n = true
  | [], U => by simp
  | a :: r, U => by
    rw [List.foldl_cons, has_lFold r]
    have e : hasS (lStep seen S U a k p) n = true ↔ hasS (U k p) n = true ∨ (hasB seen a.e = true ∧ k = (placeI seen a.e).toNat ∧ p = a.f.toNat ∧ hasS (S a.t.toNat) n = true) := by
      unfold lStep
      split
      · rename_i h
        dsimp only
        by_cases hk : k = (placeI seen a.e).toNat
        · rw [if_pos hk]
          by_cases hp : p = a.f.toNat
          · rw [if_pos hp, hasS_join, Bool.or_eq_true]; simp [h, hk, hp]
          · rw [if_neg hp]; simp [hp]
        · rw [if_neg hk]; simp [hk]
      · rename_i h; simp [h]
    rw [e, or_assoc]
    simp only [List.mem_cons, exists_eq_or_imp]
theorem has_lTab {seen : List Int} {S : Nat → Nat → Nat} {k p n : Nat} (ars : List Arr) : hasS (lTab seen S ars k p) n = true ↔ ∃ a ∈ ars, hasB seen a.e = true ∧ k = (placeI seen a.e).toNat ∧ p = a.f.toNat ∧ hasS (S a.t.toNat) n = true := by
  unfold lTab; rw [has_lFold]; simp [hasS_zero]

/-- What is laid from a state, at a seen event. -/
def layS (seen : List Int) (N : Nat) (ars : List Arr) (f k : Nat) : Nat → Nat := toF (lTab seen (stillT seen N ars) ars k) (allS (stillT seen N ars f))
def layR (seen : List Int) (N : Nat) (ars : List Arr) (f k : Nat) : List Arr := (allS (layS seen N ars f k)).map fun n : Nat => ⟨(f : Int), (k : Int), (n : Int)⟩
theorem layR_eq {m : Mach} (hm : mayB m = true) {seen : List Int} (hs : rowB m.ev seen = true) {N : Nat} (hN : m.st = (N : Int)) {f k : Nat} (hf : f < N) (hk : k < seen.length) : layR seen N m.arrows f k = hRow m seen f k := by
  have h0 := mayB_size hm
  unfold sizeOk at h0
  have hN2 : N ≤ 256 := by omega
  have hbS : ∀ p, p < N → ∀ n, hasS (stillT seen N m.arrows p) n = true → n < N := fun p hp n h => by
    have := rch_bd (n := (N : Int)) (fun x hx => by have : x = (p : Int) := by simpa using hx
                                                    omega) (fun a ha => by have := may_arrs hm a ((mem_unseen _ _ _).1 ha).1
                                                                           rw [hN] at this; exact ⟨this.2.2.1, this.2.2.2.1⟩) ((has_still hm seen hN hp).1 h)
    omega
  have e : rowS (layS seen N m.arrows f k) = wideL m.arrows seen (stepL m.arrows (wideL m.arrows seen [(f : Int)]) (seen[k]?.getD 0)) := by
    refine inc_ext (inc_rowS _) (inc_wide _ _ _) (fun x => ?_)
    rw [mem_rowS, mem_wide (may_to hm), rch_one]
    unfold layS
    have hkk : seen[k]? = some seen[k] := List.getElem?_eq_getElem hk
    have hI := ((rowB_iff _ (by omega) _).1 hs).1
    constructor
    · rintro ⟨hx0, hx1, hx⟩
      obtain ⟨q, hq, hx⟩ := (has_toF _ _ _).1 hx
      obtain ⟨-, hq⟩ := (mem_allS _ _).1 hq
      obtain ⟨a, ha, h1, h2, h3, h4⟩ := (has_lTab _).1 hx
      have hba := may_arrs hm a ha
      rw [hN] at hba
      obtain ⟨b1, b2, b3, b4, -⟩ := hba
      refine ⟨a.t, (mem_stepL _ _ _ _).2 ⟨a, ha, ?_, ?_, rfl⟩, ?_⟩
      · obtain ⟨j, hj⟩ := placeN_mem ((hasB_iff _ _).1 h1)
        rw [placeI_of hj] at h2
        have hk2 : k = j := by omega
        rw [hk2, placeN_some hj]; rfl
      · rw [mem_wide (may_to hm)]
        have := (has_still hm seen hN hf).1 hq
        rwa [show (q : Int) = a.f by omega] at this
      · have := (has_still hm seen hN (p := a.t.toNat) (by omega)).1 h4
        rwa [show ((a.t.toNat : Nat) : Int) = a.t by omega, Int.toNat_of_nonneg hx0] at this
    · rintro ⟨y, hy, hx⟩
      obtain ⟨a, ha, h1, h2, rfl⟩ := (mem_stepL _ _ _ _).1 hy
      rw [mem_wide (may_to hm)] at h2
      have hba := may_arrs hm a ha
      rw [hN] at hba
      obtain ⟨b1, b2, b3, b4, -⟩ := hba
      have hxb := rch_bd (n := (N : Int)) (fun x hx => by have : x = a.t := by simpa using hx
                                                          omega) (fun a ha => by have := may_arrs hm a ((mem_unseen _ _ _).1 ha).1
                                                                                 rw [hN] at this; exact ⟨this.2.2.1, this.2.2.2.1⟩) hx
      rw [hkk, Option.getD_some] at h1
      have hmem : a.e ∈ seen := by rw [h1]; exact List.getElem_mem hk
      refine ⟨hxb.1, by omega, (has_toF _ _ _).2 ⟨a.f.toNat, (mem_allS _ _).2 ⟨by omega, ?_⟩, (has_lTab _).2 ⟨a, ha, (hasB_iff _ _).2 hmem, ?_, rfl, ?_⟩⟩⟩
      · refine (has_still hm seen hN hf).2 ?_
        rwa [show ((a.f.toNat : Nat) : Int) = a.f by omega]
      · obtain ⟨j, hj⟩ := placeN_mem hmem
        rw [placeI_of hj]
        have h3 := placeN_some hj
        rw [h1] at h3
        have : k = j := by
          obtain ⟨hjl, h6⟩ := List.getElem?_eq_some_iff.1 h3
          rcases Nat.lt_trichotomy k j with h | h | h
          · have := List.pairwise_iff_getElem.1 hI k j hk hjl h; omega
          · exact h
          · have := List.pairwise_iff_getElem.1 hI j k hjl hk h; omega
        omega
      · refine (has_still hm seen hN (p := a.t.toNat) (by omega)).2 ?_
        rw [show ((a.t.toNat : Nat) : Int) = a.t by omega, Int.toNat_of_nonneg hxb.1]
        exact hx
  unfold layR hRow
  rw [← e]
  unfold rowS
  rw [List.map_map]; rfl
/-- Where the starts lead to, unseen. -/
theorem startS_eq {m : Mach} (hm : mayB m = true) (seen : List Int) {N : Nat} (hN : m.st = (N : Int)) : rowS (toF (stillT seen N m.arrows) (allS (ofS m.starts))) = wideL m.arrows seen m.starts := by
  have h0 := mayB_size hm
  unfold sizeOk at h0
  have hst := may_starts hm
  have hr : Rep (ofS m.starts) m.starts := by
    have := rep_of (l := m.starts) (fun x hx => by have := hst.2 x hx; omega) m.starts.length
    rwa [List.take_of_length_le (Nat.le_refl _)] at this
  refine inc_ext (inc_rowS _) (inc_wide _ _ _) (fun x => ?_)
  rw [mem_rowS, mem_wide (may_to hm), rch_one]
  constructor
  · rintro ⟨hx0, hx1, hx⟩
    obtain ⟨q, hq, hx⟩ := (has_toF _ _ _).1 hx
    obtain ⟨hq1, hq⟩ := (mem_allS _ _).1 hq
    have hq := (hr.mem q hq1).1 hq
    have := hst.2 _ hq
    refine ⟨(q : Int), hq, ?_⟩
    have := (has_still hm seen hN (p := q) (by omega)).1 hx
    rwa [Int.toNat_of_nonneg hx0] at this
  · rintro ⟨y, hy, hx⟩
    have hb := hst.2 y hy
    have hxb := rch_bd (n := (N : Int)) (fun x hx => by have : x = y := by simpa using hx
                                                        omega) (fun a ha => by have := may_arrs hm a ((mem_unseen _ _ _).1 ha).1
                                                                               rw [hN] at this; exact ⟨this.2.2.1, this.2.2.2.1⟩) hx
    refine ⟨hxb.1, by omega, (has_toF _ _ _).2 ⟨y.toNat, (mem_allS _ _).2 ⟨by omega, (hr.mem _ (by omega)).2 ?_⟩, (has_still hm seen hN (p := y.toNat) (by omega)).2 ?_⟩⟩
    · rwa [Int.toNat_of_nonneg hb.1]
    · rw [Int.toNat_of_nonneg hb.1, Int.toNat_of_nonneg hxb.1]; exact hx
/-- All that is laid from the first f states, and at the first k events from the next one. -/
def layA (seen : List Int) (N : Nat) (ars : List Arr) (K f k : Nat) : List Arr := ((List.range f).flatMap fun f => (List.range K).flatMap (layR seen N ars f)) ++ (List.range k).flatMap (layR seen N ars f)
theorem layA_zero (seen : List Int) (N : Nat) (ars : List Arr) (K : Nat) : layA seen N ars K 0 0 = [] := by simp [layA]
theorem layA_event (seen : List Int) (N : Nat) (ars : List Arr) (K f k : Nat) : layA seen N ars K f (k + 1) = layA seen N ars K f k ++ layR seen N ars f k := by
  unfold layA
  rw [List.range_succ, List.flatMap_append, ← List.append_assoc]; simp
theorem layA_from (seen : List Int) (N : Nat) (ars : List Arr) (K f : Nat) : layA seen N ars K (f + 1) 0 = layA seen N ars K f K := by
  unfold layA
  simp only [List.range_succ, List.flatMap_append, List.flatMap_cons, List.flatMap_nil, List.append_nil, List.range_zero]
theorem flatMap_congr' {α β : Type} {l : List α} {f g : α → List β} (h : ∀ x ∈ l, f x = g x) : l.flatMap f = l.flatMap g := by
  induction l with
  | nil => rfl
  | cons a r ih => rw [List.flatMap_cons, List.flatMap_cons, h a (by simp), ih (fun x hx => h x (by simp [hx]))]
theorem layA_all {m : Mach} (hm : mayB m = true) {seen : List Int} (hs : rowB m.ev seen = true) {N : Nat} (hN : m.st = (N : Int)) : layA seen N m.arrows seen.length N 0 = hAll m seen m.st.toNat := by
  unfold layA hAll hFrom
  rw [hN, Int.toNat_natCast]
  simp only [List.range_zero, List.flatMap_nil, List.append_nil]
  refine flatMap_congr' (fun f hf => flatMap_congr' (fun k hk => ?_))
  exact layR_eq hm hs hN (List.mem_range.1 hf) (List.mem_range.1 hk)
theorem layA_mono {seen : List Int} {N : Nat} {ars : List Arr} {K f k : Nat} (hk : k ≤ K) : (layA seen N ars K f k).length ≤ (layA seen N ars K f K).length := by
  obtain ⟨d, rfl⟩ : ∃ d, K = k + d := ⟨K - k, by omega⟩
  clear hk
  have : ∀ d, (layA seen N ars (k + d) f k).length ≤ (layA seen N ars (k + d) f (k + d)).length := by
    intro d
    unfold layA
    rw [List.length_append, List.length_append]
    have : ((List.range k).flatMap (layR seen N ars f)).length ≤ ((List.range (k + d)).flatMap (layR seen N ars f)).length := by
      rw [List.range_add, List.flatMap_append, List.length_append]; omega
    omega
  exact this d
theorem layA_monoF {seen : List Int} {N : Nat} {ars : List Arr} {K : Nat} : ∀ {f g : Nat}, f ≤ g → (layA seen N ars K f 0).length ≤ (layA seen N ars K g 0).length := by
  intro f g h
  unfold layA
  simp only [List.range_zero, List.flatMap_nil, List.append_nil]
  obtain ⟨d, rfl⟩ : ∃ d, g = f + d := ⟨g - f, by omega⟩
  rw [List.range_add, List.flatMap_append, List.length_append]; omega
theorem layA_le {seen : List Int} {N : Nat} {ars : List Arr} {K f k : Nat} (hf : f < N) (hk : k ≤ K) : (layA seen N ars K f k).length ≤ (layA seen N ars K N 0).length := by
  have h1 := layA_mono (seen := seen) (N := N) (ars := ars) (f := f) hk
  rw [← layA_from] at h1
  exact Nat.le_trans h1 (layA_monoF (by omega))
theorem layR_len (seen : List Int) (N : Nat) (ars : List Arr) (f k : Nat) : (layR seen N ars f k).length ≤ 256 := by
  unfold layR; rw [List.length_map]; exact allS_len _

end Go.Proofs.YtgfpjfiikajadaaDoor
