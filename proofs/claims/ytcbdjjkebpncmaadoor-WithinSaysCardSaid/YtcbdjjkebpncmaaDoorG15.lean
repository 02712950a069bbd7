/-
  A map from sets of states to numbers, as the model runs it: the numbers in the order in which the sets came.
  A map keyed by pairs of sets of states, and rows of places, as the model runs them.
-/
import Derived.Test.YtcbdjjkebpncmaaDoorG14
import Derived.Test.YtcbdjjkebpncmaaDoorG06
import Derived.DeepKeys4
import Derived.Maps.Keyed
import Derived.Carry
import Derived.Test.YtcbdjjkebpncmaaDoorG08
namespace Go.Proofs.YtcbdjjkebpncmaaDoor
open Go.RowKit
set_option linter.unusedVariables false

theorem laidOutS : laidOutB Tryd.prog = true := by kernel_rfl
theorem rowSet : (56 : TypeId) < Tryd.prog.types.size := of_decide_eq_true (by kernel_rfl)
theorem wideSet : (match Tryd.prog.underlying 56 with | some (.array _ _) | some (.struct _) => true | _ => false) = true := by kernel_rfl
set_option maxRecDepth 100000 in
theorem lawSet : WideMaps.KeyLaw Tryd.prog 56 := deep_law_laid laidOutS (m := 3) (by omega) rowSet (by kernel_rfl) wideSet
theorem wf_u64 {n : Nat} (h : n < 18446744073709551616) : (Lit.int .u64 (n : Int)).wf = true := by
  have h1 : IntKind.u64.min = 0 := rfl
  have h2 : IntKind.u64.max = 18446744073709551615 := rfl
  simp [Lit.wf, h1, h2]; omega
set_option maxRecDepth 100000 in
theorem keySet {S : Nat → Nat} (h : okS S) : ∃ l, keyOf Tryd.prog 56 (sval S) = some l := by
  have h0 := wf_u64 (h 0)
  have h1 := wf_u64 (h 1)
  have h2 := wf_u64 (h 2)
  have h3 := wf_u64 (h 3)
  have hk : Tryd.prog.keyType 56 = true := by kernel_rfl
  have hc : Tryd.prog.cellsOf 56 = 4 := by kernel_rfl
  have hci : Tryd.prog.cellsOf 54 = 1 := by kernel_rfl
  have hs : ∃ m, Tryd.prog.types.size = m + 1 := ⟨_, (Nat.succ_pred_eq_of_pos (Nat.lt_of_le_of_lt (Nat.zero_le _) rowSet)).symm⟩
  obtain ⟨m, hm⟩ := hs
  unfold keyOf
  simp only [Tryd.underlying56]
  rw [if_pos (by simp [hk, Value.formed, Tryd.underlying56, hc]), hm]
  unfold Program.keyLits
  simp only [Tryd.underlying56, Value.cells]
  have hr : List.range 4 = [0, 1, 2, 3] := rfl
  simp [hc, hci, Program.keyLits, Tryd.underlying54, hr, h0, h1, h2, h3]

theorem sval_eq {S T : Nat → Nat} (h : sval S = sval T) : eqS S T := by
  simp at h
  obtain ⟨h0, h1, h2, h3⟩ := h
  exact ⟨by omega, by omega, by omega, by omega⟩
theorem eqS_sval {S T : Nat → Nat} (h : eqS S T) : sval S = sval T := by
  obtain ⟨h0, h1, h2, h3⟩ := h
  show Value.agg #[_, _, _, _] = Value.agg #[_, _, _, _]
  rw [h0, h1, h2, h3]
def entS (k : Nat) (S : Nat → Nat) : MapEntry := { key := sval S, val := .int .i64 k, born := k }
def entsS (SL : List (Nat → Nat)) : Array MapEntry := (SL.mapIdx entS).toArray
theorem entsS_snoc (SL : List (Nat → Nat)) (S : Nat → Nat) : entsS (SL ++ [S]) = (entsS SL).push (entS SL.length S) := by
  unfold entsS; rw [List.mapIdx_concat]; simp
theorem find_set {SL : List (Nat → Nat)} {L : List (List Int)} (hR : RepL SL L) (hnd : L.Nodup) {S : Nat → Nat} {l : List Int} (hr : Rep S l) (hi : Inc l) (w : World) :
    (Instr.findKey 56 (sval S) (entsS SL).toList).run Tryd.prog w = .ok (if findL L l = L.length then none else some (findL L l, .int .i64 (findL L l : Nat))) w := by
  obtain ⟨kl, hl⟩ := keySet hr.ok
  have hget : ∀ (j : Nat) e, (entsS SL).toList[j]? = some e → ∃ T, SL[j]? = some T ∧ e = entS j T := by
    intro j e h
    simp only [entsS] at h
    rw [List.getElem?_mapIdx] at h
    cases hq : SL[j]? with
    | none => rw [hq] at h; cases h
    | some q => rw [hq] at h; exact ⟨q, rfl, (Option.some.inj h).symm⟩
  have hes : ∀ e ∈ (entsS SL).toList, ∃ l, keyOf Tryd.prog 56 e.key = some l := by
    intro e he
    obtain ⟨j, hj⟩ := List.mem_iff_getElem?.1 he
    obtain ⟨T, hT, rfl⟩ := hget j e hj
    obtain ⟨l', -, h2, -⟩ := hR.rep j T hT
    exact keySet h2.ok
  rcases lawSet.find w hl (entsS SL).toList hes with ⟨h1, h2⟩ | ⟨j, e, h1, h2, h3⟩
  · have hn : findL L l = L.length := hR.new hr hi fun T hT he => by
      obtain ⟨j, hj⟩ := List.mem_iff_getElem?.1 hT
      refine h2 (entS j T) (List.mem_of_getElem? (i := j) ?_) (eqS_sval he)
      simp only [entsS]
      rw [List.getElem?_mapIdx, hj]; rfl
    rw [h1, if_pos hn]
  · obtain ⟨T, hT, rfl⟩ := hget j e h2
    have hj := hR.find hnd hr hi hT (sval_eq h3)
    have hlt := (List.getElem?_eq_some_iff.1 hT).1
    rw [h1, hj, if_neg (by rw [← hR.len]; omega)]; rfl
theorem mapSet : Tryd.prog.underlying 121 = some (.map 56 3) := by kernel_rfl
theorem lookS_known {SL : List (Nat → Nat)} {L : List (List Int)} (hR : RepL SL L) (hnd : L.Nodup) {S : Nat → Nat} {l : List Int} (hr : Rep S l) (hi : Inc l) {w : World} {r c : Nat} (hm : w.heap[r]? = some (.map (entsS SL) c)) (h : ¬ findL L l = L.length) :
    (Instr.lookup 121 (.map (some r)) (sval S) true).run Tryd.prog w = .ok (.tuple #[.int .i64 (findL L l : Nat), .bool true]) w := by
  obtain ⟨kl, hl⟩ := keySet hr.ok
  have h1 := find_set hR hnd hr hi w
  rw [if_neg h] at h1
  simp [Instr.lookup, run_underlying mapSet, MapKept.run_getObj_map hm, lawSet.check w _ hl, h1, Result.andThen]
theorem lookS_new {SL : List (Nat → Nat)} {L : List (List Int)} (hR : RepL SL L) (hnd : L.Nodup) {S : Nat → Nat} {l : List Int} (hr : Rep S l) (hi : Inc l) {w : World} {r c : Nat} (hm : w.heap[r]? = some (.map (entsS SL) c)) (h : findL L l = L.length) :
    (Instr.lookup 121 (.map (some r)) (sval S) true).run Tryd.prog w = .ok (.tuple #[.int .i64 0, .bool false]) w := by
  obtain ⟨kl, hl⟩ := keySet hr.ok
  have h1 := find_set hR hnd hr hi w
  rw [if_pos h] at h1
  simp [Instr.lookup, run_underlying mapSet, MapKept.run_getObj_map hm, lawSet.check w _ hl, h1, Result.andThen]
theorem updS_new {SL : List (Nat → Nat)} {L : List (List Int)} (hR : RepL SL L) (hnd : L.Nodup) {S : Nat → Nat} {l : List Int} (hr : Rep S l) (hi : Inc l) {w : World} {r : Nat} (hm : w.heap[r]? = some (.map (entsS SL) SL.length)) (h : findL L l = L.length) :
    (Instr.mapUpdate 121 (.map (some r)) (sval S) (.int .i64 (SL.length : Nat))).run Tryd.prog w = .ok () (setMap w r (.map (entsS (SL ++ [S])) (SL.length + 1))) := by
  obtain ⟨kl, hl⟩ := keySet hr.ok
  have h1 := find_set hR hnd hr hi w
  rw [if_pos h] at h1
  simp [Instr.mapUpdate, run_underlying mapSet, MapKept.run_getObj_map hm, lawSet.check w _ hl, h1, MapKept.run_setObj_map _ hm, Result.andThen, setMap, entsS_snoc, entS]

/-! Rows of sets. -/
def sflat : List (Nat → Nat) → List Value
  | [] => []
  | S :: r => .int .u64 (S 0) :: .int .u64 (S 1) :: .int .u64 (S 2) :: .int .u64 (S 3) :: sflat r
theorem sflat_len : ∀ L : List (Nat → Nat), (sflat L).length = L.length * 4
  | [] => rfl
  | S :: r => by simp only [sflat, List.length_cons, sflat_len r]; omega
theorem sflat_append : ∀ L M : List (Nat → Nat), sflat (L ++ M) = sflat L ++ sflat M
  | [], M => rfl
  | a :: r, M => by simp only [List.cons_append, sflat, sflat_append r M]
theorem sflat_at : ∀ {L : List (Nat → Nat)} {k : Nat} {S : Nat → Nat}, L[k]? = some S → (sflat L)[k * 4]? = some (.int .u64 (S 0)) ∧ (sflat L)[k * 4 + 1]? = some (.int .u64 (S 1)) ∧ (sflat L)[k * 4 + 2]? = some (.int .u64 (S 2)) ∧ (sflat L)[k * 4 + 3]? = some (.int .u64 (S 3))
  | [], k, S, h => by simp at h
  | a :: r, 0, S, h => by
    have e : a = S := by simpa using h
    subst e; simp [sflat]
  | a :: r, k + 1, S, h => by
    have := sflat_at (L := r) (k := k) (S := S) (by simpa using h)
    rw [show (k + 1) * 4 = k * 4 + 1 + 1 + 1 + 1 by omega]
    simpa [sflat] using this
abbrev OwnS (W : World) (B : Nat) (v : Value) (L : List (Nat → Nat)) : Prop := W.ownsRow B 56 4 v L.length (sflat L)
theorem OwnS.cell {W : World} {B : Nat} {v : Value} {L : List (Nat → Nat)} (h : OwnS W B v L) {k : Nat} {S : Nat → Nat} (hk : L[k]? = some S) : ∃ g cap, v = .slice (some ⟨g, 0, none⟩) L.length cap ∧ B ≤ g ∧ g < W.heap.size ∧ W.cell? ⟨g, k * 4, none⟩ = some (.int .u64 (S 0)) ∧ W.cell? ⟨g, k * 4 + 1, none⟩ = some (.int .u64 (S 1)) ∧ W.cell? ⟨g, k * 4 + 2, none⟩ = some (.int .u64 (S 2)) ∧ W.cell? ⟨g, k * 4 + 3, none⟩ = some (.int .u64 (S 3)) := by
  rcases h.2 with ⟨rfl, hn⟩ | ⟨g, cap, cur, rfl, hg, hh, hnc, hcm, hcs, ht⟩
  · have := (List.getElem?_eq_some_iff.1 hk).1; omega
  · obtain ⟨h1, h2, h3, h4⟩ := sflat_at hk
    have c1 := h.cells (g := g) rfl _ _ h1
    have c2 := h.cells (g := g) rfl _ _ h2
    have c3 := h.cells (g := g) rfl _ _ h3
    have c4 := h.cells (g := g) rfl _ _ h4
    rw [addr0_add, Nat.zero_add] at c1 c2 c3 c4
    exact ⟨g, cap, rfl, hg, (Array.getElem?_eq_some_iff.1 hh).1, c1, c2, c3, c4⟩
theorem cells_four (W W' : World) (hW : W'.heap = W.heap) (t : TypeId) (x y z u : Value) : ∀ j v, ([x, y, z, u] : List Value)[j]? = some v → (W'.alloc (.cells #[x, y, z, u] t)).cell? ((⟨W.heap.size, 0, none⟩ : Addr).add j) = some v := by
  intro j v hv
  rw [addr0_add, Nat.zero_add, ← hW]
  exact (Blk.new W' t #[x, y, z, u]).cell j (by rw [← Array.getElem?_toList]; exact hv)
theorem own_set {W : World} {B : Nat} {v : Value} {L : List (Nat → Nat)} {S : Nat → Nat} (h : W.ownsRow B 56 4 v (L.length + 1) (sflat L ++ [.int .u64 (S 0), .int .u64 (S 1), .int .u64 (S 2), .int .u64 (S 3)])) : OwnS W B v (L ++ [S]) := by
  show W.ownsRow B 56 4 v (L ++ [S]).length (sflat (L ++ [S]))
  rw [List.length_append, sflat_append]
  exact h
theorem ownS_one (W : World) (S : Nat → Nat) (B : Nat) (hB : B ≤ W.heap.size) : OwnS (W.alloc (.cells (scells S) 56)) B (.slice (some ⟨W.heap.size, 0, none⟩) 1 1) [S] := World.ownsRow_lit W (scells S) 1 hB (by decide) rfl

/-- What find knows: its rows of sets and of arrows, made from block B on, and its map. -/
structure FDI (B : Nat) (W : World) (br : Nat) (vs va : Value) (SL : List (Nat → Nat)) (A : List Arr) : Prop where
  ss : OwnS W B vs SL
  ar : OwnA W B va A
  mp : W.heap[br]? = some (.map (entsS SL) SL.length)
  lr : B ≤ br
section
variable {B : Nat} {W : World} {br : Nat} {vs va : Value} {SL : List (Nat → Nat)} {A : List Arr}
theorem FDI.below {W' : World} (h : FDI B W br vs va SL A) (hb : Below W.heap.size W W') : FDI B W' br vs va SL A :=
  ⟨own_same h.ss (fun k hk => hb.block k (World.ownsRow.lt h.ss k hk).2), h.ar.kept hb (Nat.le_refl _), (hb.block br (Array.getElem?_eq_some_iff.1 h.mp).1).trans h.mp, h.lr⟩
theorem FDI.apart (h : FDI B W br vs va SL A) : vs.ownBlock ≠ some br ∧ va.ownBlock ≠ some br := by
  have hm := h.mp
  exact ⟨fun e => (by obtain ⟨cs, hc⟩ := own_type h.ss e; rw [hm] at hc; cases hc), fun e => (by obtain ⟨cs, hc⟩ := own_type h.ar e; rw [hm] at hc; cases hc)⟩
/-- One set more: the map, the row. -/
theorem FDI.push {w0 : World} {W2 W3 : World} {vs' : Value} {S : Nat → Nat} (h : FDI B W br vs va SL A) (h0 : Below B w0 W) (hW3 : Below (setMap W br (.map (entsS (SL ++ [S])) (SL.length + 1))).heap.size (setMap W br (.map (entsS (SL ++ [S])) (SL.length + 1))) W3) (o1 : OwnS W2 B vs' (SL ++ [S])) (g : W3.grownBy W2 vs.ownBlock) (hBW : B ≤ W.heap.size) :
    FDI B W2 br vs' va (SL ++ [S]) A ∧ Below B w0 W2 := by
  obtain ⟨a1, a2⟩ := h.apart
  have hbr := (Array.getElem?_eq_some_iff.1 h.mp).1
  have hz : W.heap.size ≤ W3.heap.size := by have := hW3.size; rwa [size_setMap] at this
  have k3 : ∀ j, j < W.heap.size → W3.heap[j]? = (setMap W br (.map (entsS (SL ++ [S])) (SL.length + 1))).heap[j]? := fun j hj => hW3.block j (by rw [size_setMap]; exact hj)
  have k2 : ∀ j, j < W.heap.size → vs.ownBlock ≠ some j → W2.heap[j]? = (setMap W br (.map (entsS (SL ++ [S])) (SL.length + 1))).heap[j]? := fun j hj hne => (g.block j (Nat.lt_of_lt_of_le hj hz) (fun e => hne e.symm)).trans (k3 j hj)
  refine ⟨⟨o1, ?_, ?_, h.lr⟩, ?_⟩
  · refine own_same h.ar (fun k hk => ?_)
    have hlt := (World.ownsRow.lt h.ar k hk).2
    rw [k2 k hlt (fun e => ?_), heap_setMap_ne _ _ _ (fun e => a2 (by rw [hk, e]))]
    rcases own_apart h.ss h.ar (by decide) with r | r
    · rw [r] at e; cases e
    · exact r (e.trans hk.symm)
  · rw [k2 br hbr a1, heap_setMap _ _ hbr, List.length_append]; rfl
  · have b1 : Below B w0 (setMap W br (.map (entsS (SL ++ [S])) (SL.length + 1))) :=
      h0.trans ⟨rfl, rfl, rfl, by rw [size_setMap]; exact Nat.le_refl _, fun j hj => heap_setMap_ne _ _ _ (by have := h.lr; omega)⟩
    exact (b1.trans (hW3.mono (by rw [size_setMap]; exact hBW))).grown g (Nat.le_trans hBW hz) (fun j hj => (World.ownsRow.lt h.ss j hj).1)
/-- One arrow more. -/
theorem FDI.arrow {w0 : World} {W2 W3 : World} {va' : Value} {x : Arr} (h : FDI B W br vs va SL A) (h0 : Below B w0 W) (hW3 : Below W.heap.size W W3) (o1 : OwnA W2 B va' (A ++ [x])) (g : W3.grownBy W2 va.ownBlock) (hBW : B ≤ W.heap.size) :
    FDI B W2 br vs va' SL (A ++ [x]) ∧ Below B w0 W2 := by
  have h3 := h.below hW3
  obtain ⟨a1, a2⟩ := h3.apart
  refine ⟨⟨own_same h3.ss (fun k hk => g.block k (World.ownsRow.lt h3.ss k hk).2 (fun e => ?_)), o1, ?_, h.lr⟩, ?_⟩
  · rcases own_apart h3.ss h3.ar (by decide) with r | r
    · rw [r] at hk; cases hk
    · exact r (hk.trans e)
  · rw [g.block br (Array.getElem?_eq_some_iff.1 h3.mp).1 (fun e => a2 e.symm)]; exact h3.mp
  · exact (h0.trans (hW3.mono hBW)).grown g (Nat.le_trans hBW hW3.size) (fun j hj => (World.ownsRow.lt h3.ar j hj).1)
end

end Go.Proofs.YtcbdjjkebpncmaaDoor
namespace Go.Proofs.YtcbdjjkebpncmaaDoor
open Go.RowKit
set_option linter.unusedVariables false

/-- A pair of sets. -/
structure SP where
  a : Nat → Nat
  b : Nat → Nat
abbrev spcells (P : SP) : Array Value := #[.int .u64 (P.a 0), .int .u64 (P.a 1), .int .u64 (P.a 2), .int .u64 (P.a 3), .int .u64 (P.b 0), .int .u64 (P.b 1), .int .u64 (P.b 2), .int .u64 (P.b 3)]
abbrev spval (P : SP) : Value := .agg (spcells P)
def eqSP (P Q : SP) : Prop := eqS P.a Q.a ∧ eqS P.b Q.b
/-- The pair stands for two lists, which rise. -/
structure RepSP (P : SP) (s : List Int × List Int) : Prop where
  ra : Rep P.a s.1
  rb : Rep P.b s.2
  ia : Inc s.1
  ib : Inc s.2
theorem eqSP_iff {P Q : SP} {s t : List Int × List Int} (h : RepSP P s) (h' : RepSP Q t) : eqSP P Q ↔ s = t := by
  unfold eqSP
  rw [eqS_iff h.ra h'.ra h.ia h'.ia, eqS_iff h.rb h'.rb h.ib h'.ib]
  constructor
  · rintro ⟨h1, h2⟩; exact Prod.ext h1 h2
  · rintro rfl; exact ⟨rfl, rfl⟩
/-- A place: its pair, from where it was found, at which event. -/
structure PlW where
  sp : SP
  fr : Nat
  ev : Nat

theorem rowSP : (90 : TypeId) < Tryd.prog.types.size := of_decide_eq_true (by kernel_rfl)
theorem wideSP : (match Tryd.prog.underlying 90 with | some (.array _ _) | some (.struct _) => true | _ => false) = true := by kernel_rfl
set_option maxRecDepth 100000 in
theorem lawSP : WideMaps.KeyLaw Tryd.prog 90 := deep_law_laid laidOutS (m := 5) (by omega) rowSP (by kernel_rfl) wideSP
set_option maxRecDepth 100000 in
theorem keySP {P : SP} (h : okS P.a) (h' : okS P.b) : ∃ l, keyOf Tryd.prog 90 (spval P) = some l := by
  have h0 := wf_u64 (h 0)
  have h1 := wf_u64 (h 1)
  have h2 := wf_u64 (h 2)
  have h3 := wf_u64 (h 3)
  have k0 := wf_u64 (h' 0)
  have k1 := wf_u64 (h' 1)
  have k2 := wf_u64 (h' 2)
  have k3 := wf_u64 (h' 3)
  have hk : Tryd.prog.keyType 90 = true := by kernel_rfl
  have hp : Tryd.prog.cellsOf 90 = 8 := by kernel_rfl
  have hc : Tryd.prog.cellsOf 56 = 4 := by kernel_rfl
  have hci : Tryd.prog.cellsOf 54 = 1 := by kernel_rfl
  have hs : ∃ m, Tryd.prog.types.size = m + 1 + 1 := ⟨Tryd.prog.types.size - 2, by have : 2 ≤ Tryd.prog.types.size := of_decide_eq_true (by kernel_rfl); omega⟩
  obtain ⟨m, hm⟩ := hs
  unfold keyOf
  simp only [Tryd.underlying90]
  rw [if_pos (by simp [hk, Value.formed, Tryd.underlying90, hp]), hm]
  unfold Program.keyLits
  simp only [Tryd.underlying90, Value.cells]
  have hr : List.range 4 = [0, 1, 2, 3] := rfl
  simp [hp, hc, hci, Program.keyLits, Tryd.underlying56, Tryd.underlying54, hr, h0, h1, h2, h3, k0, k1, k2, k3]
theorem spval_eq {P Q : SP} (h : spval P = spval Q) : eqSP P Q := by
  simp at h
  obtain ⟨h0, h1, h2, h3, h4, h5, h6, h7⟩ := h
  exact ⟨⟨by omega, by omega, by omega, by omega⟩, ⟨by omega, by omega, by omega, by omega⟩⟩
theorem eqSP_val {P Q : SP} (h : eqSP P Q) : spval P = spval Q := by
  obtain ⟨⟨h0, h1, h2, h3⟩, ⟨h4, h5, h6, h7⟩⟩ := h
  show Value.agg #[_, _, _, _, _, _, _, _] = Value.agg #[_, _, _, _, _, _, _, _]
  rw [h0, h1, h2, h3, h4, h5, h6, h7]
def entW (k : Nat) (p : PlW) : MapEntry := { key := spval p.sp, val := .agg #[], born := k }
def entsW (L : List PlW) : Array MapEntry := (L.mapIdx entW).toArray
theorem entsW_snoc (L : List PlW) (p : PlW) : entsW (L ++ [p]) = (entsW L).push (entW L.length p) := by
  unfold entsW; rw [List.mapIdx_concat]; simp
/-- The places stand for what has been found, one by one. -/
structure RepPL (L : List PlW) (l : List ((List Int × List Int) × List Int)) : Prop where
  len : L.length = l.length
  rep : ∀ (k : Nat) (p : PlW), L[k]? = some p → ∃ x, l[k]? = some x ∧ RepSP p.sp x.1
theorem RepPL.at {L : List PlW} {l : List ((List Int × List Int) × List Int)} (h : RepPL L l) {k : Nat} {x : (List Int × List Int) × List Int} (hk : l[k]? = some x) : ∃ p, L[k]? = some p ∧ RepSP p.sp x.1 := by
  have hlt := (List.getElem?_eq_some_iff.1 hk).1
  have hlt' : k < L.length := by rw [h.len]; exact hlt
  obtain ⟨y, h1, h2⟩ := h.rep k _ (List.getElem?_eq_getElem hlt')
  rw [hk] at h1
  have h1 := Option.some.inj h1
  subst h1
  exact ⟨_, List.getElem?_eq_getElem hlt', h2⟩
theorem RepPL.snoc {L : List PlW} {l : List ((List Int × List Int) × List Int)} (h : RepPL L l) {p : PlW} {x : (List Int × List Int) × List Int} (hr : RepSP p.sp x.1) : RepPL (L ++ [p]) (l ++ [x]) := by
  refine ⟨by simp [h.len], fun k q hk => ?_⟩
  by_cases hlt : k < L.length
  · rw [List.getElem?_append_left hlt] at hk
    obtain ⟨y, h1, h2⟩ := h.rep k q hk
    exact ⟨y, by rw [List.getElem?_append_left (by rw [← h.len]; exact hlt)]; exact h1, h2⟩
  · have hk' := (List.getElem?_eq_some_iff.1 hk).1
    simp at hk'
    have e : k = L.length := by omega
    subst e
    rw [List.getElem?_append_right (Nat.le_refl _)] at hk
    have : p = q := by simpa using hk
    subst this
    exact ⟨x, by rw [h.len, List.getElem?_append_right (Nat.le_refl _)]; simp, hr⟩
theorem RepPL.one {p : PlW} {x : (List Int × List Int) × List Int} (hr : RepSP p.sp x.1) : RepPL [p] [x] := RepPL.snoc (L := []) (l := []) ⟨rfl, fun k S h => by simp at h⟩ hr
theorem find_sp {L : List PlW} {l : List ((List Int × List Int) × List Int)} (hR : RepPL L l) {P : SP} {s : List Int × List Int} (hr : RepSP P s) (w : World) :
    (knownB l s = true ∧ ∃ j, (Instr.findKey 90 (spval P) (entsW L).toList).run Tryd.prog w = .ok (some (j, .agg #[])) w) ∨ (knownB l s = false ∧ (Instr.findKey 90 (spval P) (entsW L).toList).run Tryd.prog w = .ok none w) := by
  obtain ⟨kl, hl⟩ := keySP hr.ra.ok hr.rb.ok
  have hget : ∀ (j : Nat) e, (entsW L).toList[j]? = some e → ∃ p, L[j]? = some p ∧ e = entW j p := by
    intro j e h
    simp only [entsW] at h
    rw [List.getElem?_mapIdx] at h
    cases hq : L[j]? with
    | none => rw [hq] at h; cases h
    | some q => rw [hq] at h; exact ⟨q, rfl, (Option.some.inj h).symm⟩
  have hes : ∀ e ∈ (entsW L).toList, ∃ l, keyOf Tryd.prog 90 e.key = some l := by
    intro e he
    obtain ⟨j, hj⟩ := List.mem_iff_getElem?.1 he
    obtain ⟨p, hp, rfl⟩ := hget j e hj
    obtain ⟨x, -, h2⟩ := hR.rep j p hp
    exact keySP h2.ra.ok h2.rb.ok
  rcases lawSP.find w hl (entsW L).toList hes with ⟨h1, h2⟩ | ⟨j, e, h1, h2, h3⟩
  · refine .inr ⟨?_, h1⟩
    cases hk : knownB l s with
    | false => rfl
    | true =>
      obtain ⟨x, hx, e1⟩ := (knownB_iff _ _).1 hk
      obtain ⟨j, hj⟩ := List.mem_iff_getElem?.1 hx
      obtain ⟨p, hp, hrp⟩ := hR.at hj
      refine absurd (eqSP_val ((eqSP_iff hrp hr).2 e1)) (h2 (entW j p) (List.mem_of_getElem? (i := j) ?_))
      simp only [entsW]
      rw [List.getElem?_mapIdx, hp]; rfl
  · obtain ⟨p, hp, rfl⟩ := hget j e h2
    obtain ⟨x, hx, hrx⟩ := hR.rep j p hp
    exact .inl ⟨(knownB_iff _ _).2 ⟨x, List.mem_of_getElem? hx, (eqSP_iff hrx hr).1 (spval_eq h3)⟩, j, h1⟩
theorem mapSP : Tryd.prog.underlying 126 = some (.map 90 125) := by kernel_rfl
theorem lookW_known {L : List PlW} {l : List ((List Int × List Int) × List Int)} (hR : RepPL L l) {P : SP} {s : List Int × List Int} (hr : RepSP P s) {w : World} {r c : Nat} (hm : w.heap[r]? = some (.map (entsW L) c)) (h : knownB l s = true) :
    (Instr.lookup 126 (.map (some r)) (spval P) true).run Tryd.prog w = .ok (.tuple #[.agg #[], .bool true]) w := by
  obtain ⟨kl, hl⟩ := keySP hr.ra.ok hr.rb.ok
  rcases find_sp hR hr w with ⟨-, j, h1⟩ | ⟨h1, -⟩
  · simp [Instr.lookup, run_underlying mapSP, MapKept.run_getObj_map hm, lawSP.check w _ hl, h1, Result.andThen]
  · rw [h] at h1; cases h1
theorem lookW_new {L : List PlW} {l : List ((List Int × List Int) × List Int)} (hR : RepPL L l) {P : SP} {s : List Int × List Int} (hr : RepSP P s) {w : World} {r c : Nat} (hm : w.heap[r]? = some (.map (entsW L) c)) (h : knownB l s = false) :
    (Instr.lookup 126 (.map (some r)) (spval P) true).run Tryd.prog w = .ok (.tuple #[.agg #[], .bool false]) w := by
  obtain ⟨kl, hl⟩ := keySP hr.ra.ok hr.rb.ok
  rcases find_sp hR hr w with ⟨h1, -⟩ | ⟨-, h1⟩
  · rw [h] at h1; cases h1
  · simp [Instr.lookup, run_underlying mapSP, MapKept.run_getObj_map hm, lawSP.check w _ hl, h1, Result.andThen]
theorem updW_new {L : List PlW} {l : List ((List Int × List Int) × List Int)} (hR : RepPL L l) {p : PlW} {s : List Int × List Int} (hr : RepSP p.sp s) {w : World} {r : Nat} (hm : w.heap[r]? = some (.map (entsW L) L.length)) (h : knownB l s = false) :
    (Instr.mapUpdate 126 (.map (some r)) (spval p.sp) (.agg #[])).run Tryd.prog w = .ok () (setMap w r (.map (entsW (L ++ [p])) (L.length + 1))) := by
  obtain ⟨kl, hl⟩ := keySP hr.ra.ok hr.rb.ok
  rcases find_sp hR hr w with ⟨h1, -⟩ | ⟨-, h1⟩
  · rw [h] at h1; cases h1
  · simp [Instr.mapUpdate, run_underlying mapSP, MapKept.run_getObj_map hm, lawSP.check w _ hl, h1, MapKept.run_setObj_map _ hm, Result.andThen, setMap, entsW_snoc, entW]
theorem updW_first {p : PlW} {s : List Int × List Int} (hr : RepSP p.sp s) {w : World} {r : Nat} (hm : w.heap[r]? = some (.map #[] 0)) :
    (Instr.mapUpdate 126 (.map (some r)) (spval p.sp) (.agg #[])).run Tryd.prog w = .ok () (setMap w r (.map (entsW [p]) 1)) := by
  have := updW_new (L := []) (l := []) ⟨rfl, fun k S h => by simp at h⟩ hr (w := w) (r := r) hm rfl
  simpa using this

/-! Rows of places. -/
def plcells (p : PlW) : List Value := [.int .u64 (p.sp.a 0), .int .u64 (p.sp.a 1), .int .u64 (p.sp.a 2), .int .u64 (p.sp.a 3), .int .u64 (p.sp.b 0), .int .u64 (p.sp.b 1), .int .u64 (p.sp.b 2), .int .u64 (p.sp.b 3), .int .i64 (p.fr : Nat), .int .i64 (p.ev : Nat)]
def plflat : List PlW → List Value
  | [] => []
  | p :: r => plcells p ++ plflat r
theorem plflat_len : ∀ L : List PlW, (plflat L).length = L.length * 10
  | [] => rfl
  | p :: r => by simp only [plflat, plcells, List.length_append, List.length_cons, List.length_nil, plflat_len r]; omega
theorem plflat_append : ∀ L M : List PlW, plflat (L ++ M) = plflat L ++ plflat M
  | [], M => rfl
  | a :: r, M => by simp only [List.cons_append, plflat, plflat_append r M, List.append_assoc]
theorem plflat_at : ∀ {L : List PlW} {k : Nat} {p : PlW}, L[k]? = some p → ∀ j, j < 10 → (plflat L)[k * 10 + j]? = (plcells p)[j]?
  | [], k, p, h => by simp at h
  | a :: r, 0, p, h => by
    have e : a = p := by simpa using h
    subst e
    intro j hj
    rw [plflat, Nat.zero_mul, Nat.zero_add, List.getElem?_append_left (by simp [plcells]; omega)]
  | a :: r, k + 1, p, h => by
    intro j hj
    have := plflat_at (L := r) (k := k) (p := p) (by simpa using h) j hj
    rw [plflat, List.getElem?_append_right (by simp [plcells]; omega)]
    have e : (k + 1) * 10 + j - (plcells a).length = k * 10 + j := by simp [plcells]; omega
    rw [e]; exact this
abbrev OwnW (W : World) (B : Nat) (v : Value) (L : List PlW) : Prop := W.ownsRow B 123 10 v L.length (plflat L)
theorem OwnW.cell {W : World} {B : Nat} {v : Value} {L : List PlW} (h : OwnW W B v L) {k : Nat} {p : PlW} (hk : L[k]? = some p) : ∃ g cap, v = .slice (some ⟨g, 0, none⟩) L.length cap ∧ B ≤ g ∧ g < W.heap.size ∧ ∀ j u, (plcells p)[j]? = some u → W.cell? ⟨g, k * 10 + j, none⟩ = some u := by
  rcases h.2 with ⟨rfl, hn⟩ | ⟨g, cap, cur, rfl, hg, hh, hnc, hcm, hcs, ht⟩
  · have := (List.getElem?_eq_some_iff.1 hk).1; omega
  · refine ⟨g, cap, rfl, hg, (Array.getElem?_eq_some_iff.1 hh).1, fun j u hu => ?_⟩
    have hj : j < 10 := by have := (List.getElem?_eq_some_iff.1 hu).1; simpa [plcells] using this
    have c1 := h.cells (g := g) rfl _ _ ((plflat_at hk j hj).trans hu)
    rwa [addr0_add, Nat.zero_add] at c1
theorem cells_list (W W' : World) (hW : W'.heap = W.heap) (t : TypeId) (xs : Array Value) : ∀ j v, xs.toList[j]? = some v → (W'.alloc (.cells xs t)).cell? ((⟨W.heap.size, 0, none⟩ : Addr).add j) = some v := by
  intro j v hv
  rw [addr0_add, Nat.zero_add, ← hW]
  exact (Blk.new W' t xs).cell j (by rw [← Array.getElem?_toList]; exact hv)
theorem own_plc {W : World} {B : Nat} {v : Value} {L : List PlW} {p : PlW} (h : W.ownsRow B 123 10 v (L.length + 1) (plflat L ++ plcells p)) : OwnW W B v (L ++ [p]) := by
  show W.ownsRow B 123 10 v (L ++ [p]).length (plflat (L ++ [p]))
  rw [List.length_append, plflat_append]
  have e : plflat [p] = plcells p := by simp [plflat]
  rw [e]; exact h
theorem ownW_one (W : World) (p : PlW) (B : Nat) (hB : B ≤ W.heap.size) : OwnW (W.alloc (.cells (plcells p).toArray 123)) B (.slice (some ⟨W.heap.size, 0, none⟩) 1 1) [p] := by
  have : World.ownsRow (W.alloc (.cells (plcells p).toArray 123)) B 123 10 (.slice (some ⟨W.heap.size, 0, none⟩) 1 1) 1 (plcells p) := World.ownsRow_lit W (plcells p).toArray 1 hB (by decide) rfl
  have e : plflat [p] = plcells p := by simp [plflat]
  show World.ownsRow _ B 123 10 _ 1 (plflat [p])
  rw [e]; exact this

/-- What least knows: its row of places, made from block B on, and its map. -/
structure LI (B : Nat) (W : World) (br : Nat) (vs : Value) (L : List PlW) : Prop where
  ss : OwnW W B vs L
  mp : W.heap[br]? = some (.map (entsW L) L.length)
  lr : B ≤ br
section
variable {B : Nat} {W : World} {br : Nat} {vs : Value} {L : List PlW}
theorem LI.below {W' : World} (h : LI B W br vs L) (hb : Below W.heap.size W W') : LI B W' br vs L :=
  ⟨own_same h.ss (fun k hk => hb.block k (World.ownsRow.lt h.ss k hk).2), (hb.block br (Array.getElem?_eq_some_iff.1 h.mp).1).trans h.mp, h.lr⟩
theorem LI.apart (h : LI B W br vs L) : vs.ownBlock ≠ some br := by
  have hm := h.mp
  exact fun e => (by obtain ⟨cs, hc⟩ := own_type h.ss e; rw [hm] at hc; cases hc)
theorem LI.push {w0 : World} {W2 W3 : World} {vs' : Value} {p : PlW} (h : LI B W br vs L) (h0 : Below B w0 W) (hW3 : Below (setMap W br (.map (entsW (L ++ [p])) (L.length + 1))).heap.size (setMap W br (.map (entsW (L ++ [p])) (L.length + 1))) W3) (o1 : OwnW W2 B vs' (L ++ [p])) (g : W3.grownBy W2 vs.ownBlock) (hBW : B ≤ W.heap.size) :
    LI B W2 br vs' (L ++ [p]) ∧ Below B w0 W2 := by
  have a1 := h.apart
  have hbr := (Array.getElem?_eq_some_iff.1 h.mp).1
  have hz : W.heap.size ≤ W3.heap.size := by have := hW3.size; rwa [size_setMap] at this
  have k3 : ∀ j, j < W.heap.size → W3.heap[j]? = (setMap W br (.map (entsW (L ++ [p])) (L.length + 1))).heap[j]? := fun j hj => hW3.block j (by rw [size_setMap]; exact hj)
  have k2 : ∀ j, j < W.heap.size → vs.ownBlock ≠ some j → W2.heap[j]? = (setMap W br (.map (entsW (L ++ [p])) (L.length + 1))).heap[j]? := fun j hj hne => (g.block j (Nat.lt_of_lt_of_le hj hz) (fun e => hne e.symm)).trans (k3 j hj)
  refine ⟨⟨o1, ?_, h.lr⟩, ?_⟩
  · rw [k2 br hbr a1, heap_setMap _ _ hbr, List.length_append]; rfl
  · have b1 : Below B w0 (setMap W br (.map (entsW (L ++ [p])) (L.length + 1))) :=
      h0.trans ⟨rfl, rfl, rfl, by rw [size_setMap]; exact Nat.le_refl _, fun j hj => heap_setMap_ne _ _ _ (by have := h.lr; omega)⟩
    exact (b1.trans (hW3.mono (by rw [size_setMap]; exact hBW))).grown g (Nat.le_trans hBW hz) (fun j hj => (World.ownsRow.lt h.ss j hj).1)
end

end Go.Proofs.YtcbdjjkebpncmaaDoor
