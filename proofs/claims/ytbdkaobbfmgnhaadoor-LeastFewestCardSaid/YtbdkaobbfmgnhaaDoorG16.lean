/-
  A map from sets of states to numbers, as the model runs it: the numbers in the order in which the sets came.
  The walks of determine.meeting and determine.rows.
  Plain mathematics of what a set of states leads to, in any number of steps. No program, no model.
-/
import Derived.Test.YtbdkaobbfmgnhaaDoorG15
import Derived.Test.YtbdkaobbfmgnhaaDoorCSetOps
import Derived.Test.YtbdkaobbfmgnhaaDoorG14
import Derived.Test.YtbdkaobbfmgnhaaDoorG04
namespace Go.Proofs.YtbdkaobbfmgnhaaDoor
open Go.RowKit
set_option linter.unusedVariables false

def entS (k : Nat) (S : Nat → Nat) : MapEntry := { key := sval S, val := .int .i64 k, born := k }
def entsS (SL : List (Nat → Nat)) : Array MapEntry := (SL.mapIdx entS).toArray
theorem entsS_snoc (SL : List (Nat → Nat)) (S : Nat → Nat) : entsS (SL ++ [S]) = (entsS SL).push (entS SL.length S) := by
  unfold entsS; rw [List.mapIdx_concat]; simp
theorem find_set {SL : List (Nat → Nat)} {L : List (List Int)} (hR : RepL SL L) (hnd : L.Nodup) {S : Nat → Nat} {l : List Int} (hr : Rep S l) (hi : Inc l) (w : World) :
    (Instr.findKey 62 (sval S) (entsS SL).toList).run Tryd.prog w = .ok (if findL L l = L.length then none else some (findL L l, .int .i64 (findL L l : Nat))) w := by
  obtain ⟨kl, hl⟩ := keySet hr.ok
  have hget : ∀ (j : Nat) e, (entsS SL).toList[j]? = some e → ∃ T, SL[j]? = some T ∧ e = entS j T := by
    intro j e h
    simp only [entsS] at h
    rw [List.getElem?_mapIdx] at h
    cases hq : SL[j]? with
    | none => rw [hq] at h; cases h
    | some q => rw [hq] at h; exact ⟨q, rfl, (Option.some.inj h).symm⟩
  have hes : ∀ e ∈ (entsS SL).toList, ∃ l, keyOf Tryd.prog 62 e.key = some l := by
    intro e he
    obtain ⟨j, hj⟩ := List.mem_iff_getElem?.1 he
    obtain ⟨T, hT, rfl⟩ := hget j e hj
    obtain ⟨l', -, h2, -⟩ := hR.rep j T hT
    exact keySet h2.ok
  rcases lawSet.find w hl (entsS SL).toList hes with ⟨h1, h2⟩ | ⟨j, e, h1, h2, h3⟩
  · have hn : findL L l = L.length := hR.new hr hi fun T hT he => by
      obtain ⟨j, hj⟩ := List.mem_iff_getElem?.1 hT
      refine h2 (entS j T) (List.mem_of_getElem? (i := j) ?_) (eqS_sval he)
      simp only [entsS]
      rw [List.getElem?_mapIdx, hj]; rfl
    rw [h1, if_pos hn]
  · obtain ⟨T, hT, rfl⟩ := hget j e h2
    have hj := hR.find hnd hr hi hT (sval_eq h3)
    have hlt := (List.getElem?_eq_some_iff.1 hT).1
    rw [h1, hj, if_neg (by rw [← hR.len]; omega)]; rfl
theorem mapSet : Tryd.prog.underlying 142 = some (.map 62 3) := by kernel_rfl
theorem lookS_known {SL : List (Nat → Nat)} {L : List (List Int)} (hR : RepL SL L) (hnd : L.Nodup) {S : Nat → Nat} {l : List Int} (hr : Rep S l) (hi : Inc l) {w : World} {r c : Nat} (hm : w.heap[r]? = some (.map (entsS SL) c)) (h : ¬ findL L l = L.length) :
    (Instr.lookup 142 (.map (some r)) (sval S) true).run Tryd.prog w = .ok (.tuple #[.int .i64 (findL L l : Nat), .bool true]) w := by
  obtain ⟨kl, hl⟩ := keySet hr.ok
  have h1 := find_set hR hnd hr hi w
  rw [if_neg h] at h1
  simp [Instr.lookup, run_underlying mapSet, MapKept.run_getObj_map hm, lawSet.check w _ hl, h1, Result.andThen]
theorem lookS_new {SL : List (Nat → Nat)} {L : List (List Int)} (hR : RepL SL L) (hnd : L.Nodup) {S : Nat → Nat} {l : List Int} (hr : Rep S l) (hi : Inc l) {w : World} {r c : Nat} (hm : w.heap[r]? = some (.map (entsS SL) c)) (h : findL L l = L.length) :
    (Instr.lookup 142 (.map (some r)) (sval S) true).run Tryd.prog w = .ok (.tuple #[.int .i64 0, .bool false]) w := by
  obtain ⟨kl, hl⟩ := keySet hr.ok
  have h1 := find_set hR hnd hr hi w
  rw [if_pos h] at h1
  simp [Instr.lookup, run_underlying mapSet, MapKept.run_getObj_map hm, lawSet.check w _ hl, h1, Result.andThen]
theorem updS_new {SL : List (Nat → Nat)} {L : List (List Int)} (hR : RepL SL L) (hnd : L.Nodup) {S : Nat → Nat} {l : List Int} (hr : Rep S l) (hi : Inc l) {w : World} {r : Nat} (hm : w.heap[r]? = some (.map (entsS SL) SL.length)) (h : findL L l = L.length) :
    (Instr.mapUpdate 142 (.map (some r)) (sval S) (.int .i64 (SL.length : Nat))).run Tryd.prog w = .ok () (setMap w r (.map (entsS (SL ++ [S])) (SL.length + 1))) := by
  obtain ⟨kl, hl⟩ := keySet hr.ok
  have h1 := find_set hR hnd hr hi w
  rw [if_pos h] at h1
  simp [Instr.mapUpdate, run_underlying mapSet, MapKept.run_getObj_map hm, lawSet.check w _ hl, h1, MapKept.run_setObj_map _ hm, Result.andThen, setMap, entsS_snoc, entS]

/-! Rows of sets. -/
def sflat : List (Nat → Nat) → List Value
  | [] => []
  | S :: r => .int .u64 (S 0) :: .int .u64 (S 1) :: .int .u64 (S 2) :: .int .u64 (S 3) :: sflat r
theorem sflat_append : ∀ L M : List (Nat → Nat), sflat (L ++ M) = sflat L ++ sflat M
  | [], M => rfl
  | a :: r, M => by simp only [List.cons_append, sflat, sflat_append r M]
theorem sflat_at : ∀ {L : List (Nat → Nat)} {k : Nat} {S : Nat → Nat}, L[k]? = some S → (sflat L)[k * 4]? = some (.int .u64 (S 0)) ∧ (sflat L)[k * 4 + 1]? = some (.int .u64 (S 1)) ∧ (sflat L)[k * 4 + 2]? = some (.int .u64 (S 2)) ∧ (sflat L)[k * 4 + 3]? = some (.int .u64 (S 3))
  | [], k, S, h => by simp at h
  | a :: r, 0, S, h => by
    have e : a = S := by simpa using h
    subst e; simp [sflat]
  | a :: r, k + 1, S, h => by
    have := sflat_at (L := r) (k := k) (S := S) (by simpa using h)
    rw [show (k + 1) * 4 = k * 4 + 1 + 1 + 1 + 1 by omega]
    simpa [sflat] using this
abbrev OwnS (W : World) (B : Nat) (v : Value) (L : List (Nat → Nat)) : Prop := W.ownsRow B 62 4 v L.length (sflat L)
theorem OwnS.cell {W : World} {B : Nat} {v : Value} {L : List (Nat → Nat)} (h : OwnS W B v L) {k : Nat} {S : Nat → Nat} (hk : L[k]? = some S) : ∃ g cap, v = .slice (some ⟨g, 0, none⟩) L.length cap ∧ B ≤ g ∧ g < W.heap.size ∧ W.cell? ⟨g, k * 4, none⟩ = some (.int .u64 (S 0)) ∧ W.cell? ⟨g, k * 4 + 1, none⟩ = some (.int .u64 (S 1)) ∧ W.cell? ⟨g, k * 4 + 2, none⟩ = some (.int .u64 (S 2)) ∧ W.cell? ⟨g, k * 4 + 3, none⟩ = some (.int .u64 (S 3)) := by
  rcases h.2 with ⟨rfl, hn⟩ | ⟨g, cap, cur, rfl, hg, hh, hnc, hcm, hcs, ht⟩
  · have := (List.getElem?_eq_some_iff.1 hk).1; omega
  · obtain ⟨h1, h2, h3, h4⟩ := sflat_at hk
    have c1 := h.cells (g := g) rfl _ _ h1
    have c2 := h.cells (g := g) rfl _ _ h2
    have c3 := h.cells (g := g) rfl _ _ h3
    have c4 := h.cells (g := g) rfl _ _ h4
    rw [addr0_add, Nat.zero_add] at c1 c2 c3 c4
    exact ⟨g, cap, rfl, hg, (Array.getElem?_eq_some_iff.1 hh).1, c1, c2, c3, c4⟩
theorem cells_four (W W' : World) (hW : W'.heap = W.heap) (t : TypeId) (x y z u : Value) : ∀ j v, ([x, y, z, u] : List Value)[j]? = some v → (W'.alloc (.cells #[x, y, z, u] t)).cell? ((⟨W.heap.size, 0, none⟩ : Addr).add j) = some v := by
  intro j v hv
  rw [addr0_add, Nat.zero_add, ← hW]
  exact (Blk.new W' t #[x, y, z, u]).cell j (by rw [← Array.getElem?_toList]; exact hv)
theorem own_set {W : World} {B : Nat} {v : Value} {L : List (Nat → Nat)} {S : Nat → Nat} (h : W.ownsRow B 62 4 v (L.length + 1) (sflat L ++ [.int .u64 (S 0), .int .u64 (S 1), .int .u64 (S 2), .int .u64 (S 3)])) : OwnS W B v (L ++ [S]) := by
  show W.ownsRow B 62 4 v (L ++ [S]).length (sflat (L ++ [S]))
  rw [List.length_append, sflat_append]
  exact h
theorem ownS_one (W : World) (S : Nat → Nat) (B : Nat) (hB : B ≤ W.heap.size) : OwnS (W.alloc (.cells (scells S) 62)) B (.slice (some ⟨W.heap.size, 0, none⟩) 1 1) [S] := World.ownsRow_lit W (scells S) 1 hB (by decide) rfl

/-- What find knows: its rows of sets and of arrows, made from block B on, and its map. -/
structure FDI (B : Nat) (W : World) (br : Nat) (vs va : Value) (SL : List (Nat → Nat)) (A : List Arr) : Prop where
  ss : OwnS W B vs SL
  ar : OwnA W B va A
  mp : W.heap[br]? = some (.map (entsS SL) SL.length)
  lr : B ≤ br
section
variable {B : Nat} {W : World} {br : Nat} {vs va : Value} {SL : List (Nat → Nat)} {A : List Arr}
theorem FDI.below {W' : World} (h : FDI B W br vs va SL A) (hb : Below W.heap.size W W') : FDI B W' br vs va SL A :=
  ⟨own_same h.ss (fun k hk => hb.block k (World.ownsRow.lt h.ss k hk).2), h.ar.kept hb (Nat.le_refl _), (hb.block br (Array.getElem?_eq_some_iff.1 h.mp).1).trans h.mp, h.lr⟩
theorem FDI.apart (h : FDI B W br vs va SL A) : vs.ownBlock ≠ some br ∧ va.ownBlock ≠ some br := by
  have hm := h.mp
  exact ⟨fun e => (by obtain ⟨cs, hc⟩ := own_type h.ss e; rw [hm] at hc; cases hc), fun e => (by obtain ⟨cs, hc⟩ := own_type h.ar e; rw [hm] at hc; cases hc)⟩
/-- One set more: the map, the row. -/
theorem FDI.push {w0 : World} {W2 W3 : World} {vs' : Value} {S : Nat → Nat} (h : FDI B W br vs va SL A) (h0 : Below B w0 W) (hW3 : Below (setMap W br (.map (entsS (SL ++ [S])) (SL.length + 1))).heap.size (setMap W br (.map (entsS (SL ++ [S])) (SL.length + 1))) W3) (o1 : OwnS W2 B vs' (SL ++ [S])) (g : W3.grownBy W2 vs.ownBlock) (hBW : B ≤ W.heap.size) :
    FDI B W2 br vs' va (SL ++ [S]) A ∧ Below B w0 W2 := by
  obtain ⟨a1, a2⟩ := h.apart
  have hbr := (Array.getElem?_eq_some_iff.1 h.mp).1
  have hz : W.heap.size ≤ W3.heap.size := by have := hW3.size; rwa [size_setMap] at this
  have k3 : ∀ j, j < W.heap.size → W3.heap[j]? = (setMap W br (.map (entsS (SL ++ [S])) (SL.length + 1))).heap[j]? := fun j hj => hW3.block j (by rw [size_setMap]; exact hj)
  have k2 : ∀ j, j < W.heap.size → vs.ownBlock ≠ some j → W2.heap[j]? = (setMap W br (.map (entsS (SL ++ [S])) (SL.length + 1))).heap[j]? := fun j hj hne => (g.block j (Nat.lt_of_lt_of_le hj hz) (fun e => hne e.symm)).trans (k3 j hj)
  refine ⟨⟨o1, ?_, ?_, h.lr⟩, ?_⟩
  · refine own_same h.ar (fun k hk => ?_)
    have hlt := (World.ownsRow.lt h.ar k hk).2
    rw [k2 k hlt (fun e => ?_), heap_setMap_ne _ _ _ (fun e => a2 (by rw [hk, e]))]
    rcases own_apart h.ss h.ar (by decide) with r | r
    · rw [r] at e; cases e
    · exact r (e.trans hk.symm)
  · rw [k2 br hbr a1, heap_setMap _ _ hbr, List.length_append]; rfl
  · have b1 : Below B w0 (setMap W br (.map (entsS (SL ++ [S])) (SL.length + 1))) :=
      h0.trans ⟨rfl, rfl, rfl, by rw [size_setMap]; exact Nat.le_refl _, fun j hj => heap_setMap_ne _ _ _ (by have := h.lr; omega)⟩
    exact (b1.trans (hW3.mono (by rw [size_setMap]; exact hBW))).grown g (Nat.le_trans hBW hz) (fun j hj => (World.ownsRow.lt h.ss j hj).1)
/-- One arrow more. -/
theorem FDI.arrow {w0 : World} {W2 W3 : World} {va' : Value} {x : Arr} (h : FDI B W br vs va SL A) (h0 : Below B w0 W) (hW3 : Below W.heap.size W W3) (o1 : OwnA W2 B va' (A ++ [x])) (g : W3.grownBy W2 va.ownBlock) (hBW : B ≤ W.heap.size) :
    FDI B W2 br vs va' SL (A ++ [x]) ∧ Below B w0 W2 := by
  have h3 := h.below hW3
  obtain ⟨a1, a2⟩ := h3.apart
  refine ⟨⟨own_same h3.ss (fun k hk => g.block k (World.ownsRow.lt h3.ss k hk).2 (fun e => ?_)), o1, ?_, h.lr⟩, ?_⟩
  · rcases own_apart h3.ss h3.ar (by decide) with r | r
    · rw [r] at hk; cases hk
    · exact r (hk.trans e)
  · rw [g.block br (Array.getElem?_eq_some_iff.1 h3.mp).1 (fun e => a2 e.symm)]; exact h3.mp
  · exact (h0.trans (hW3.mono hBW)).grown g (Nat.le_trans hBW hW3.size) (fun j hj => (World.ownsRow.lt h3.ar j hj).1)
end

end Go.Proofs.YtbdkaobbfmgnhaaDoor
namespace Go.Proofs.YtbdkaobbfmgnhaaDoor
open Go.RowKit
set_option linter.unusedVariables false

/-- A set's row as an inner slice. -/
theorem innB_own {w : World} {B : Nat} {v : Value} {xs : List Int} (h : Own w B v xs) : InnB w v xs := by
  rcases h.2 with ⟨rfl, hn⟩ | ⟨g, cap, cur, rfl, hg, hh, hnc, hcm, hcs, ht⟩
  · have : xs = [] := List.eq_nil_of_length_eq_zero hn
    subst this
    exact ⟨none, 0, rfl, Nat.le_refl _, Nat.zero_le _, .inl rfl⟩
  · refine ⟨_, cap, rfl, hnc, hcm, .inr ⟨g, 0, cur, rfl, hh, fun j hj => ?_⟩⟩
    have := h.cells (g := g) rfl j (.int .i64 (xs.getD j 0)) (by rw [List.getElem?_map, List.getElem?_eq_getElem hj]; simp [List.getElem?_eq_getElem hj])
    rw [addr0_add] at this
    simpa [World.cell?, hh] using this

/-- The numbers of those sets that meet another one. -/
def meetFrom (T : Nat → Nat) : Nat → List (Nat → Nat) → List Int
  | _, [] => []
  | k, S :: r => if meetB S T = true then (k : Int) :: meetFrom T (k + 1) r else meetFrom T (k + 1) r
theorem meetFrom_snoc (T : Nat → Nat) : ∀ (L : List (Nat → Nat)) (k : Nat) (S : Nat → Nat), meetFrom T k (L ++ [S]) = meetFrom T k L ++ (if meetB S T = true then [((k + L.length : Nat) : Int)] else [])
  | [], k, S => by simp only [List.nil_append, meetFrom, List.length_nil, Nat.add_zero]
  | R :: r, k, S => by
    rw [List.cons_append]
    unfold meetFrom
    rw [meetFrom_snoc T r (k + 1) S, List.length_cons, show k + 1 + r.length = k + (r.length + 1) by omega]
    by_cases h : meetB R T = true
    · rw [if_pos h, if_pos h, List.cons_append]
    · rw [if_neg h, if_neg h]
theorem meetFrom_len (T : Nat → Nat) : ∀ (k : Nat) (L : List (Nat → Nat)), (meetFrom T k L).length ≤ L.length
  | _, [] => Nat.le_refl _
  | k, a :: r => by
    have := meetFrom_len T (k + 1) r
    unfold meetFrom; split <;> simp <;> omega
theorem meet_take {T : Nat → Nat} {L : List (Nat → Nat)} {k : Nat} {S : Nat → Nat} (h : L[k]? = some S) : meetFrom T 0 (L.take (k + 1)) = if meetB S T = true then meetFrom T 0 (L.take k) ++ [(k : Int)] else meetFrom T 0 (L.take k) := by
  have hk := (List.getElem?_eq_some_iff.1 h).1
  have e : L.take (k + 1) = L.take k ++ [S] := by rw [List.take_add_one, h]; rfl
  rw [e, meetFrom_snoc, List.length_take, Nat.min_eq_left (by omega), Nat.zero_add]
  split
  · rfl
  · rw [List.append_nil]
theorem meet_ends {T : Nat → Nat} {ends : List Int} (hT : Rep T ends) : ∀ {SL : List (Nat → Nat)} {L : List (List Int)} (k : Nat), RepL SL L → meetFrom T k SL = endsFrom ends k L
  | [], L, k, h => by
    have : L = [] := List.eq_nil_of_length_eq_zero h.len.symm
    subst this; rfl
  | S :: r, [], k, h => by have := h.len; simp at this
  | S :: r, l :: q, k, h => by
    obtain ⟨l', h1, h2, h3⟩ := h.rep 0 S rfl
    have e : l = l' := by simpa using h1
    subst e
    have hr : RepL r q := ⟨by have := h.len; simpa using this, fun j T' hj => by
      have := h.rep (j + 1) T' (by simpa using hj)
      simpa using this⟩
    unfold meetFrom endsFrom
    rw [meet_ends hT (k + 1) hr, meet_iff h2 hT]
    simp only [decide_eq_true_eq]

set_option maxRecDepth 100000 in
set_option maxHeartbeats 4000000 in
theorem meeting_any (B : Nat) (v : Value) (SL : List (Nat → Nat)) (T : Nat → Nat) (w : World) (hS : Hid (OwnS w B v SL)) (hl : SL.length ≤ 256) (hok : Hid (∀ S ∈ SL, okS S)) (hT : Hid (okS T)) :
    Calls Tryd.prog 77 #[v, sval T] w fun e w' => GivesO w (meetFrom T 0 SL) e w' := by
  obtain ⟨j0, ji, jz0, jz1, jz2⟩ := info_parts Tryd.infoInt
  obtain ⟨va, vc, hv, -, -, -⟩ := own_form2 hS.out
  subst hv
  have b0 : Hid (SB (w.alloc (.cells (scells T) 62)) w.heap.size T) := Blk.new w _ _
  have bel0 : Hid (Below w.heap.size w (w.alloc (.cells (scells T) 62))) := (Below.refl _ _).alloc (Nat.le_refl _) _
  have sz0 : Hid ((w.alloc (.cells (scells T) 62)).heap.size = w.heap.size + 1) := World.size_alloc _ _
  go_enter Tryd.func77, Tryd.ntmps77
  go_wp2
  revert b0 bel0 sz0
  generalize w.alloc (.cells (scells T) 62) = V
  intro b0 bel0 sz0
  go_loopw [5, 10] (fun v5 i wr => ∃ k : Nat, k ≤ SL.length ∧ i = .int .i64 k ∧ Hid (Own wr (w.heap.size + 1) v5 (meetFrom T 0 (SL.take k))) ∧ Hid (Below (w.heap.size + 1) V wr)) (fun _ i _ => SL.length - (intOf i).toNat)
  case atStart => exact ⟨0, Nat.zero_le _, rfl, own_nil _ _, Below.refl _ _⟩
  case round =>
    obtain ⟨k, hk, rfl, HO, HB⟩ := hrel
    have hbw : Hid (Below w.heap.size w wr) := bel0.out.trans (HB.out.mono (Nat.le_succ _))
    have hB1 : w.heap.size + 1 ≤ wr.heap.size := by have := HB.out.size; rw [sz0.out] at this; exact this
    by_cases hlt : k < SL.length
    · obtain ⟨S, HSk⟩ : ∃ S, Hid (SL[k]? = some S) := ⟨_, List.getElem?_eq_getElem hlt⟩
      obtain ⟨g, cap, hvg, hg1, hg2, c0, c1, c2, c3⟩ := hS.out.cell HSk.out
      cases hvg
      have d0 := (hbw.out.cell (p := ⟨g, k * 4, none⟩) hg2).trans c0
      have d1 := (hbw.out.cell (p := ⟨g, k * 4 + 1, none⟩) hg2).trans c1
      have d2 := (hbw.out.cell (p := ⟨g, k * 4 + 2, none⟩) hg2).trans c2
      have d3 := (hbw.out.cell (p := ⟨g, k * 4 + 3, none⟩) hg2).trans c3
      clear c0 c1 c2 c3
      have BT : Hid (SB wr w.heap.size T) := b0.out.below HB.out (Nat.lt_succ_self _)
      have NB1 : Hid (SB (wr.alloc (.cells (scells S) 62)) wr.heap.size S) := Blk.new wr _ _
      obtain ⟨n0, n1, n2, n3⟩ := SB.cells NB1.out
      obtain ⟨t0, t1, t2, t3⟩ := SB.cells (Blk.alloc BT.out (.cells (scells S) 62))
      have okS' := hok.out S (List.mem_of_getElem? HSk.out)
      have HTK := Hid.of (meet_take (T := T) HSk.out)
      have hml : (meetFrom T 0 (SL.take k)).length ≤ 256 := Nat.le_trans (meetFrom_len _ _ _) (by rw [List.length_take]; omega)
      go_wp2_with fail
      refine (meets_any S T _ okS' hT.out).mono ?_
      rintro e w1 ⟨rfl, hb1⟩
      have HO1 : Hid (Own w1 (w.heap.size + 1) u5 (meetFrom T 0 (SL.take k))) := own_same (own_same HO.out (fun j hj => Below.heap_alloc wr _ j (World.ownsRow.lt HO.out j hj).2)) (fun j hj => hb1.block j (by rw [World.size_alloc]; exact Nat.lt_succ_of_lt (World.ownsRow.lt HO.out j hj).2))
      have HB1 : Hid (Below (w.heap.size + 1) V w1) := (HB.out.alloc (by omega) _).trans (hb1.mono (by rw [World.size_alloc]; omega))
      have hz1 : w.heap.size + 1 ≤ w1.heap.size := by have := hb1.size; rw [World.size_alloc] at this; omega
      clear hb1 n0 n1 n2 n3 t0 t1 t2 t3 NB1 BT HO HB d0 d1 d2 d3 hbw
      cases hmt : meetB S T with
      | true =>
        rw [hmt, if_pos rfl] at HTK
        obtain ⟨fa, fc, hfa, -, -, -⟩ := own_form2 HO1.out
        subst hfa
        generalize meetFrom T 0 (SL.take k) = R at *
        go_wp2_with (at_builtin; refine wpList_append_block _ rfl (.tmp 18) (.tmp 20) 22 rfl (w.heap.size + 1) 3 j0 (.int .i64 0) 1 8 Tryd.underlying22 ji jz0 jz1 jz2 rfl (by decide) _ _ _ rfl (World.ownsRow.alloc HO1.out _) ⟨w1.heap.size, 0, none⟩ 1 1 [.int .i64 (k : Int)] rfl rfl (cell_one_new _ _ _) (by intro u hu; simp at hu; subst hu; rfl) (by decide) (by unfold maxLen; omega) (by omega) (by simp; omega) ?_)
        intro v9 w9 o9 g9 n9
        obtain ⟨q1, q2, q3⟩ := own_snoc HO1.out HB1.out hz1 o9 g9
        have Q1 := Hid.of q1
        have Q2 := Hid.of q2
        clear q1 q2 q3 o9 g9 n9 hmt
        go_wp2_with fail
        go_roundw
        case rel => exact ⟨k + 1, by omega, by go_num, (by show Own _ _ _ _; rw [HTK.out]; exact Q1.out), Q2⟩
        case measure => simp [intOf]; omega
      | false =>
        rw [hmt, if_neg (by simp)] at HTK
        clear hmt
        go_wp2_with fail
        go_roundw
        case rel => exact ⟨k + 1, by omega, by go_num, (by show Own _ _ _ _; rw [HTK.out]; exact HO1.out), HB1⟩
        case measure => simp [intOf]; omega
    · rw [List.take_of_length_le (by omega)] at HO
      go_wp2
      go_ret
      exact ⟨_, rfl, HO.out.low (Nat.le_succ _), hbw.out⟩

set_option maxRecDepth 100000 in
set_option maxHeartbeats 4000000 in
theorem rowsS_any (B : Nat) (v : Value) (SL : List (Nat → Nat)) (w : World) (hS : Hid (OwnS w B v SL)) (hl : SL.length ≤ 256) (hok : Hid (∀ S ∈ SL, okS S)) (hT : Hid (Tab w)) :
    Calls Tryd.prog 78 #[v] w fun e w' => ∃ v', e = .returned v' ∧ Own2 w' w.heap.size v' (SL.map rowS) ∧ Below w.heap.size w w' := by
  obtain ⟨i1, hi, hz0, hz1, hz2⟩ := info_parts Tryd.infoInts
  obtain ⟨va, vc, hv, -, -, -⟩ := own_form2 hS.out
  subst hv
  go_enter Tryd.func78, Tryd.ntmps78
  go_wp2
  go_loopw [3, 8] (fun v3 i wr => ∃ k : Nat, k ≤ SL.length ∧ i = .int .i64 k ∧ Hid (Own2 wr w.heap.size v3 ((SL.take k).map rowS)) ∧ Hid (Below w.heap.size w wr)) (fun _ i _ => SL.length - (intOf i).toNat)
  case atStart => exact ⟨0, Nat.zero_le _, rfl, own2_nil _ _, Below.refl _ _⟩
  case round =>
    obtain ⟨k, hk, rfl, HO, HB⟩ := hrel
    by_cases hlt : k < SL.length
    · obtain ⟨S, HSk⟩ : ∃ S, Hid (SL[k]? = some S) := ⟨_, List.getElem?_eq_getElem hlt⟩
      obtain ⟨g, cap, hvg, hg1, hg2, c0, c1, c2, c3⟩ := hS.out.cell HSk.out
      cases hvg
      have d0 := (HB.out.cell (p := ⟨g, k * 4, none⟩) hg2).trans c0
      have d1 := (HB.out.cell (p := ⟨g, k * 4 + 1, none⟩) hg2).trans c1
      have d2 := (HB.out.cell (p := ⟨g, k * 4 + 2, none⟩) hg2).trans c2
      have d3 := (HB.out.cell (p := ⟨g, k * 4 + 3, none⟩) hg2).trans c3
      clear c0 c1 c2 c3
      have NB1 : Hid (SB (wr.alloc (.cells (scells S) 62)) wr.heap.size S) := Blk.new wr _ _
      obtain ⟨n0, n1, n2, n3⟩ := SB.cells NB1.out
      have okS' := hok.out S (List.mem_of_getElem? HSk.out)
      have HTK : Hid ((SL.take (k + 1)).map rowS = (SL.take k).map rowS ++ [rowS S]) := by
        show _ = _
        rw [List.take_add_one, HSk.out, List.map_append]; rfl
      have hml : ((SL.take k).map rowS).length ≤ 256 := by rw [List.length_map, List.length_take]; omega
      have hTr : Tab (wr.alloc (.cells (scells S) 62)) := hT.out.below (HB.out.alloc HB.out.size _) hT.out.lt
      have hbz := HB.out.size
      go_wp2_with fail
      refine (rowO_any S _ okS' hTr).mono ?_
      rintro e w1 ⟨v1, rfl, o1, hb1⟩
      obtain ⟨s1, q1, rfl, -, -, -, -⟩ := o1.at2
      have HI1 := Hid.of (innB_own o1)
      have HO1 : Hid (Own2 w1 w.heap.size u3 ((SL.take k).map rowS)) := (HO.out.alloc _).below hb1
      have HB1 : Hid (Below w.heap.size w w1) := (HB.out.alloc HB.out.size _).trans (hb1.mono (by rw [World.size_alloc]; omega))
      have hz1' := HB1.out.size
      clear hb1 n0 n1 n2 n3 NB1 HO HB d0 d1 d2 d3 o1 hTr
      generalize (SL.take k).map rowS = R at *
      obtain ⟨vs, ho, hin⟩ := HO1.out
      have HO2 := Hid.of ho
      have HIN := Hid.of hin
      clear ho hin
      obtain ⟨fa, fc, hfa, -, -, -⟩ := own_form2 HO2.out
      subst hfa
      go_wp2_with (at_builtin; refine wpList_append_block _ rfl (.tmp 12) (.tmp 15) 39 rfl w.heap.size 22 i1 (.slice none 0 0) 1 24 Tryd.underlying39 hi hz0 hz1 hz2 rfl (by decide) _ _ _ rfl (World.ownsRow.alloc HO2.out _) ⟨w1.heap.size, 0, none⟩ 1 1 [.slice s1 (rowS S).length q1] rfl rfl (cell_one_new _ _ _) (by intro u hu; simp at hu; subst hu; rfl) (by decide) (by unfold maxLen; omega) (by omega) (by simp; omega) ?_)
      intro v9 w9 o9 g9 n9
      have Q1 : Hid (Own2 w9 w.heap.size v9 (R ++ [rowS S])) := Own2.snoc (World.ownsRow.alloc HO2.out _) (fun j x xs h1 h2 => (HIN.out j x xs h1 h2).below ((Below.refl _ _).alloc (Nat.le_refl _) _)) (HI1.out.below ((Below.refl _ _).alloc (Nat.le_refl _) _)) o9 g9
      have Q2 : Hid (Below w.heap.size w w9) := (HB1.out.alloc HB1.out.size _).grown g9 (by simp; omega) (fun j hj => (World.ownsRow.lt HO2.out j hj).1)
      clear o9 g9 n9 HO2 HIN HI1 HO1
      go_wp2_with fail
      go_roundw
      case rel => exact ⟨k + 1, by omega, by go_num, (by show Own2 _ _ _ _; rw [HTK.out]; exact Q1.out), Q2⟩
      case measure => simp [intOf]; omega
    · rw [List.take_of_length_le (by omega)] at HO
      go_wp2
      go_ret
      exact ⟨_, rfl, HO.out, HB.out⟩

end Go.Proofs.YtbdkaobbfmgnhaaDoor
namespace Go.Proofs.YtbdkaobbfmgnhaaDoor
open Go.RowKit
set_option linter.unusedVariables false

/-- The table: where each state leads in one step. -/
def tabKStep (fr to : Arr → Int) (T : Nat → Nat → Nat) (a : Arr) : Nat → Nat → Nat := fun p => if p = (fr a).toNat then withS (T p) (to a).toNat else T p
theorem okS_tabKStep {fr to : Arr → Int} {T : Nat → Nat → Nat} (h : ∀ p, okS (T p)) (a : Arr) : ∀ p, okS (tabKStep fr to T a p) := fun p => by
  unfold tabKStep; split
  · exact okS_with (h p) _
  · exact h p
/-- Where states lead to, by a table. -/
def toF (T : Nat → Nat → Nat) (ns : List Nat) : Nat → Nat := ns.foldl (fun o n => joinS o (T n)) zeroS
theorem toF_snoc (T : Nat → Nat → Nat) (ns : List Nat) (n : Nat) : toF T (ns ++ [n]) = joinS (toF T ns) (T n) := by simp [toF, List.foldl_append]
theorem ok_toG {T : Nat → Nat → Nat} (h : ∀ p, okS (T p)) : ∀ (ns : List Nat) (o : Nat → Nat), okS o → okS (ns.foldl (fun o n => joinS o (T n)) o)
  | [], _, ho => ho
  | n :: r, o, ho => ok_toG h r _ (okS_join ho (h _))
theorem ok_toF {T : Nat → Nat → Nat} (h : ∀ p, okS (T p)) (ns : List Nat) : okS (toF T ns) := ok_toG h ns _ okS_zero
theorem has_toG {T : Nat → Nat → Nat} {k : Nat} : ∀ (ns : List Nat) (o : Nat → Nat), hasS (ns.foldl (fun o n => joinS o (T n)) o) k = true ↔ hasS o k = true ∨ ∃ n ∈ ns, hasS (T n) k = true
  | [], o => by simp
  | n :: r, o => by
    rw [List.foldl_cons, has_toG r, hasS_join, Bool.or_eq_true]
    simp only [List.mem_cons, exists_eq_or_imp]
    rw [or_assoc]
theorem has_toF (T : Nat → Nat → Nat) (k : Nat) (ns : List Nat) : hasS (toF T ns) k = true ↔ ∃ n ∈ ns, hasS (T n) k = true := by
  unfold toF; rw [has_toG]; simp [hasS_zero]

end Go.Proofs.YtbdkaobbfmgnhaaDoor
