/-
  A map keyed by sets of states, and rows of places of package current, as the model runs them.
  Rows of places, to be read; what slices.IndexFunc answers of them.
  Plain: what is seen of a machine hangs on its language alone. No program, no model.
  A plant's value, and what is said of it in a world; a plant that came in, opened.
  Rows of places of package secret, as the model runs them.
  The walks of jalousieref9.May, From, Estimate and Tells.
  The walks of jalousieref9.From and Estimate.
-/
import Derived.Test.YtbllcondfamleaaDoorG16
import Derived.Test.YtbllcondfamleaaDoorG27
import Derived.Test.YtbllcondfamleaaDoorG06
import Derived.Test.YtbllcondfamleaaDoorG22
import Derived.Test.YtbllcondfamleaaDoorG07
import Derived.Test.YtbllcondfamleaaDoorG03
import Derived.Test.YtbllcondfamleaaDoorCRefMay
import Derived.Test.YtbllcondfamleaaDoorG18
namespace Go.Proofs.YtbllcondfamleaaDoor
open Go.RowKit
set_option linter.unusedVariables false

/-- A place: its set, its list as a value, and what that reads as. -/
structure PlC where
  s : Nat → Nat
  v : Value
  word : List Int
/-- The set stands for a list, which rises. -/
def RepI (S : Nat → Nat) (s : List Int) : Prop := Rep S s ∧ Inc s
def entC (k : Nat) (p : PlC) : MapEntry := { key := sval p.s, val := .agg #[], born := k }
def entsC (L : List PlC) : Array MapEntry := (L.mapIdx entC).toArray
theorem entsC_snoc (L : List PlC) (p : PlC) : entsC (L ++ [p]) = (entsC L).push (entC L.length p) := by
  unfold entsC; rw [List.mapIdx_concat]; simp
/-- The places stand for what has been found, one by one. -/
structure RepCL (L : List PlC) (l : List (List Int × List Int)) : Prop where
  len : L.length = l.length
  rep : ∀ (k : Nat) (p : PlC), L[k]? = some p → ∃ x, l[k]? = some x ∧ RepI p.s x.1
theorem RepCL.at {L : List PlC} {l : List (List Int × List Int)} (h : RepCL L l) {k : Nat} {x : List Int × List Int} (hk : l[k]? = some x) : ∃ p, L[k]? = some p ∧ RepI p.s x.1 := by
  have hlt := (List.getElem?_eq_some_iff.1 hk).1
  have hlt' : k < L.length := by rw [h.len]; exact hlt
  obtain ⟨y, h1, h2⟩ := h.rep k _ (List.getElem?_eq_getElem hlt')
  rw [hk] at h1
  have h1 := Option.some.inj h1
  subst h1
  exact ⟨_, List.getElem?_eq_getElem hlt', h2⟩
theorem RepCL.snoc {L : List PlC} {l : List (List Int × List Int)} (h : RepCL L l) {p : PlC} {x : List Int × List Int} (hr : RepI p.s x.1) : RepCL (L ++ [p]) (l ++ [x]) := by
  refine ⟨by simp [h.len], fun k q hk => ?_⟩
  by_cases hlt : k < L.length
  · rw [List.getElem?_append_left hlt] at hk
    obtain ⟨y, h1, h2⟩ := h.rep k q hk
    exact ⟨y, by rw [List.getElem?_append_left (by rw [← h.len]; exact hlt)]; exact h1, h2⟩
  · have hk' := (List.getElem?_eq_some_iff.1 hk).1
    simp at hk'
    have e : k = L.length := by omega
    subst e
    rw [List.getElem?_append_right (Nat.le_refl _)] at hk
    have : p = q := by simpa using hk
    subst this
    exact ⟨x, by rw [h.len, List.getElem?_append_right (Nat.le_refl _)]; simp, hr⟩
theorem RepCL.one {p : PlC} {x : List Int × List Int} (hr : RepI p.s x.1) : RepCL [p] [x] := RepCL.snoc (L := []) (l := []) ⟨rfl, fun k S h => by simp at h⟩ hr
theorem find_sc {L : List PlC} {l : List (List Int × List Int)} (hR : RepCL L l) {S : Nat → Nat} {s : List Int} (hr : RepI S s) (w : World) :
    (knownB l s = true ∧ ∃ j, (Instr.findKey 74 (sval S) (entsC L).toList).run Tryd.prog w = .ok (some (j, .agg #[])) w) ∨ (knownB l s = false ∧ (Instr.findKey 74 (sval S) (entsC L).toList).run Tryd.prog w = .ok none w) := by
  obtain ⟨kl, hl⟩ := keySet hr.1.ok
  have hget : ∀ (j : Nat) e, (entsC L).toList[j]? = some e → ∃ p, L[j]? = some p ∧ e = entC j p := by
    intro j e h
    simp only [entsC] at h
    rw [List.getElem?_mapIdx] at h
    cases hq : L[j]? with
    | none => rw [hq] at h; cases h
    | some q => rw [hq] at h; exact ⟨q, rfl, (Option.some.inj h).symm⟩
  have hes : ∀ e ∈ (entsC L).toList, ∃ l, keyOf Tryd.prog 74 e.key = some l := by
    intro e he
    obtain ⟨j, hj⟩ := List.mem_iff_getElem?.1 he
    obtain ⟨p, hp, rfl⟩ := hget j e hj
    obtain ⟨x, -, h2⟩ := hR.rep j p hp
    exact keySet h2.1.ok
  rcases lawSet.find w hl (entsC L).toList hes with ⟨h1, h2⟩ | ⟨j, e, h1, h2, h3⟩
  · refine .inr ⟨?_, h1⟩
    cases hk : knownB l s with
    | false => rfl
    | true =>
      obtain ⟨x, hx, e1⟩ := (knownB_iff _ _).1 hk
      obtain ⟨j, hj⟩ := List.mem_iff_getElem?.1 hx
      obtain ⟨p, hp, hrp⟩ := hR.at hj
      refine absurd (eqS_sval ((eqS_iff hrp.1 hr.1 hrp.2 hr.2).2 e1)) (h2 (entC j p) (List.mem_of_getElem? (i := j) ?_))
      simp only [entsC]
      rw [List.getElem?_mapIdx, hp]; rfl
  · obtain ⟨p, hp, rfl⟩ := hget j e h2
    obtain ⟨x, hx, hrx⟩ := hR.rep j p hp
    exact .inl ⟨(knownB_iff _ _).2 ⟨x, List.mem_of_getElem? hx, (eqS_iff hrx.1 hr.1 hrx.2 hr.2).1 (sval_eq h3)⟩, j, h1⟩
theorem mapSC : Tryd.prog.underlying 167 = some (.map 74 157) := by kernel_rfl
theorem lookC_known {L : List PlC} {l : List (List Int × List Int)} (hR : RepCL L l) {S : Nat → Nat} {s : List Int} (hr : RepI S s) {w : World} {r c : Nat} (hm : w.heap[r]? = some (.map (entsC L) c)) (h : knownB l s = true) :
    (Instr.lookup 167 (.map (some r)) (sval S) true).run Tryd.prog w = .ok (.tuple #[.agg #[], .bool true]) w := by
  obtain ⟨kl, hl⟩ := keySet hr.1.ok
  rcases find_sc hR hr w with ⟨-, j, h1⟩ | ⟨h1, -⟩
  · simp [Instr.lookup, run_underlying mapSC, MapKept.run_getObj_map hm, lawSet.check w _ hl, h1, Result.andThen]
  · rw [h] at h1; cases h1
theorem lookC_new {L : List PlC} {l : List (List Int × List Int)} (hR : RepCL L l) {S : Nat → Nat} {s : List Int} (hr : RepI S s) {w : World} {r c : Nat} (hm : w.heap[r]? = some (.map (entsC L) c)) (h : knownB l s = false) :
    (Instr.lookup 167 (.map (some r)) (sval S) true).run Tryd.prog w = .ok (.tuple #[.agg #[], .bool false]) w := by
  obtain ⟨kl, hl⟩ := keySet hr.1.ok
  rcases find_sc hR hr w with ⟨h1, -⟩ | ⟨-, h1⟩
  · rw [h] at h1; cases h1
  · simp [Instr.lookup, run_underlying mapSC, MapKept.run_getObj_map hm, lawSet.check w _ hl, h1, Result.andThen]
theorem updC_new {L : List PlC} {l : List (List Int × List Int)} (hR : RepCL L l) {p : PlC} {s : List Int} (hr : RepI p.s s) {w : World} {r : Nat} (hm : w.heap[r]? = some (.map (entsC L) L.length)) (h : knownB l s = false) :
    (Instr.mapUpdate 167 (.map (some r)) (sval p.s) (.agg #[])).run Tryd.prog w = .ok () (setMap w r (.map (entsC (L ++ [p])) (L.length + 1))) := by
  obtain ⟨kl, hl⟩ := keySet hr.1.ok
  rcases find_sc hR hr w with ⟨h1, -⟩ | ⟨-, h1⟩
  · rw [h] at h1; cases h1
  · simp [Instr.mapUpdate, run_underlying mapSC, MapKept.run_getObj_map hm, lawSet.check w _ hl, h1, MapKept.run_setObj_map _ hm, Result.andThen, setMap, entsC_snoc, entC]
theorem updC_first {p : PlC} {s : List Int} (hr : RepI p.s s) {w : World} {r : Nat} (hm : w.heap[r]? = some (.map #[] 0)) :
    (Instr.mapUpdate 167 (.map (some r)) (sval p.s) (.agg #[])).run Tryd.prog w = .ok () (setMap w r (.map (entsC [p]) 1)) := by
  have := updC_new (L := []) (l := []) ⟨rfl, fun k S h => by simp at h⟩ hr (w := w) (r := r) hm rfl
  simpa using this

/-! Rows of places. -/
def pccells (p : PlC) : List Value := [.int .u64 (p.s 0), .int .u64 (p.s 1), .int .u64 (p.s 2), .int .u64 (p.s 3), p.v]
def pcflat : List PlC → List Value
  | [] => []
  | p :: r => pccells p ++ pcflat r
theorem pcflat_append : ∀ L M : List PlC, pcflat (L ++ M) = pcflat L ++ pcflat M
  | [], M => rfl
  | a :: r, M => by simp only [List.cons_append, pcflat, pcflat_append r M, List.append_assoc]
theorem pcflat_at : ∀ {L : List PlC} {k : Nat} {p : PlC}, L[k]? = some p → ∀ j, j < 5 → (pcflat L)[k * 5 + j]? = (pccells p)[j]?
  | [], k, p, h => by simp at h
  | a :: r, 0, p, h => by
    have e : a = p := by simpa using h
    subst e
    intro j hj
    rw [pcflat, Nat.zero_mul, Nat.zero_add, List.getElem?_append_left (by simp [pccells]; omega)]
  | a :: r, k + 1, p, h => by
    intro j hj
    have := pcflat_at (L := r) (k := k) (p := p) (by simpa using h) j hj
    rw [pcflat, List.getElem?_append_right (by simp [pccells]; omega)]
    have e : (k + 1) * 5 + j - (pccells a).length = k * 5 + j := by simp [pccells]; omega
    rw [e]; exact this
abbrev OwnC (W : World) (B : Nat) (v : Value) (L : List PlC) : Prop := W.ownsRow B 114 5 v L.length (pcflat L)
theorem OwnC.cell {W : World} {B : Nat} {v : Value} {L : List PlC} (h : OwnC W B v L) {k : Nat} {p : PlC} (hk : L[k]? = some p) : ∃ g cap, v = .slice (some ⟨g, 0, none⟩) L.length cap ∧ B ≤ g ∧ g < W.heap.size ∧ ∀ j u, (pccells p)[j]? = some u → W.cell? ⟨g, k * 5 + j, none⟩ = some u := by
  rcases h.2 with ⟨rfl, hn⟩ | ⟨g, cap, cur, rfl, hg, hh, hnc, hcm, hcs, ht⟩
  · have := (List.getElem?_eq_some_iff.1 hk).1; omega
  · refine ⟨g, cap, rfl, hg, (Array.getElem?_eq_some_iff.1 hh).1, fun j u hu => ?_⟩
    have hj : j < 5 := by have := (List.getElem?_eq_some_iff.1 hu).1; simpa [pccells] using this
    have c1 := h.cells (g := g) rfl _ _ ((pcflat_at hk j hj).trans hu)
    rwa [addr0_add, Nat.zero_add] at c1
theorem own_plcC {W : World} {B : Nat} {v : Value} {L : List PlC} {p : PlC} (h : W.ownsRow B 114 5 v (L.length + 1) (pcflat L ++ pccells p)) : OwnC W B v (L ++ [p]) := by
  show W.ownsRow B 114 5 v (L ++ [p]).length (pcflat (L ++ [p]))
  rw [List.length_append, pcflat_append]
  have e : pcflat [p] = pccells p := by simp [pcflat]
  rw [e]; exact h
theorem ownC_one (W : World) (p : PlC) (B : Nat) (hB : B ≤ W.heap.size) : OwnC (W.alloc (.cells (pccells p).toArray 114)) B (.slice (some ⟨W.heap.size, 0, none⟩) 1 1) [p] := by
  have : World.ownsRow (W.alloc (.cells (pccells p).toArray 114)) B 114 5 (.slice (some ⟨W.heap.size, 0, none⟩) 1 1) 1 (pccells p) := World.ownsRow_lit W (pccells p).toArray 1 hB (by decide) rfl
  have e : pcflat [p] = pccells p := by simp [pcflat]
  show World.ownsRow _ B 114 5 _ 1 (pcflat [p])
  rw [e]; exact this

/-- Words that lie in memory stay where they are. -/
theorem innW_map {W : World} {br : Nat} {m : Array MapEntry} {c : Nat} (hm : W.heap[br]? = some (.map m c)) (o : Obj) {x : Value} {xs : List Int} (h : InnW 0 W x xs) : InnW 0 (setMap W br o) x xs :=
  h.kept (by rw [size_setMap]; exact Nat.le_refl _) (fun j hj => absurd hj (Nat.not_lt_zero _)) (fun g cs hg => heap_setMap_ne _ _ _ (fun e => by rw [e, hm] at hg; cases hg))
theorem innW_grown {W W2 : World} {B n : Nat} {v : Value} {vs : List Value} (ho : W.ownsRow B 114 5 v n vs) (g : W.grownBy W2 v.ownBlock) {x : Value} {xs : List Int} (h : InnW 0 W x xs) : InnW 0 W2 x xs :=
  h.kept g.size (fun j hj => absurd hj (Nat.not_lt_zero _)) (fun q cs hq => g.block q (Array.getElem?_eq_some_iff.1 hq).1 (fun e => by
    obtain ⟨c2, h2⟩ := own_type ho e.symm
    rw [hq] at h2; cases h2))

/-- What a search knows: its row of places, made from block B on, and its map. -/
structure LCI (B : Nat) (W : World) (br : Nat) (vs : Value) (L : List PlC) : Prop where
  ss : OwnC W B vs L
  inn : ∀ q ∈ L, InnW 0 W q.v q.word
  mp : W.heap[br]? = some (.map (entsC L) L.length)
  lr : B ≤ br
section
variable {B : Nat} {W : World} {br : Nat} {vs : Value} {L : List PlC}
theorem LCI.below {W' : World} (h : LCI B W br vs L) (hb : Below W.heap.size W W') : LCI B W' br vs L :=
  ⟨own_same h.ss (fun k hk => hb.block k (World.ownsRow.lt h.ss k hk).2), fun q hq => (h.inn q hq).below hb (Nat.zero_le _), (hb.block br (Array.getElem?_eq_some_iff.1 h.mp).1).trans h.mp, h.lr⟩
theorem LCI.apart (h : LCI B W br vs L) : vs.ownBlock ≠ some br := by
  have hm := h.mp
  exact fun e => (by obtain ⟨cs, hc⟩ := own_type h.ss e; rw [hm] at hc; cases hc)
theorem LCI.mapped (h : LCI B W br vs L) (o : Obj) : OwnC (setMap W br o) B vs L := own_same h.ss (fun j hj => heap_setMap_ne _ _ _ (fun e => h.apart (by rw [hj, e])))
theorem LCI.push {w0 : World} {W2 W3 : World} {vs' : Value} {p : PlC} (h : LCI B W br vs L) (h0 : Below B w0 W) (hW3 : Below (setMap W br (.map (entsC (L ++ [p])) (L.length + 1))).heap.size (setMap W br (.map (entsC (L ++ [p])) (L.length + 1))) W3) (hi : InnW 0 W3 p.v p.word) (o1 : OwnC W2 B vs' (L ++ [p])) (g : W3.grownBy W2 vs.ownBlock) (hBW : B ≤ W.heap.size) :
    LCI B W2 br vs' (L ++ [p]) ∧ Below B w0 W2 := by
  have a1 := h.apart
  have hbr := (Array.getElem?_eq_some_iff.1 h.mp).1
  have hz : W.heap.size ≤ W3.heap.size := by have := hW3.size; rwa [size_setMap] at this
  have k3 : ∀ j, j < W.heap.size → W3.heap[j]? = (setMap W br (.map (entsC (L ++ [p])) (L.length + 1))).heap[j]? := fun j hj => hW3.block j (by rw [size_setMap]; exact hj)
  have k2 : ∀ j, j < W.heap.size → vs.ownBlock ≠ some j → W2.heap[j]? = (setMap W br (.map (entsC (L ++ [p])) (L.length + 1))).heap[j]? := fun j hj hne => (g.block j (Nat.lt_of_lt_of_le hj hz) (fun e => hne e.symm)).trans (k3 j hj)
  have o3 : OwnC W3 B vs L := own_same (h.mapped (.map (entsC (L ++ [p])) (L.length + 1))) (fun j hj => hW3.block j (World.ownsRow.lt (h.mapped _) j hj).2)
  refine ⟨⟨o1, fun q hq => ?_, ?_, h.lr⟩, ?_⟩
  · rcases List.mem_append.1 hq with hq | hq
    · exact innW_grown o3 g ((innW_map h.mp _ (h.inn q hq)).below hW3 (Nat.zero_le _))
    · have : q = p := by simpa using hq
      subst this
      exact innW_grown o3 g hi
  · rw [k2 br hbr a1, heap_setMap _ _ hbr, List.length_append]; rfl
  · have b1 : Below B w0 (setMap W br (.map (entsC (L ++ [p])) (L.length + 1))) :=
      h0.trans ⟨rfl, rfl, rfl, by rw [size_setMap]; exact Nat.le_refl _, fun j hj => heap_setMap_ne _ _ _ (by have := h.lr; omega)⟩
    exact (b1.trans (hW3.mono (by rw [size_setMap]; exact hBW))).grown g (Nat.le_trans hBW hz) (fun j hj => (World.ownsRow.lt h.ss j hj).1)
end
theorem lci_first {B : Nat} {W : World} {br : Nat} {v : Value} {p : PlC} (ho : OwnC W B v [p]) (hi : InnW 0 W p.v p.word) (hm : W.heap[br]? = some (.map #[] 0)) (hb : B ≤ br) : LCI B (setMap W br (.map (entsC [p]) 1)) br v [p] := by
  have hbr := (Array.getElem?_eq_some_iff.1 hm).1
  refine ⟨own_same ho (fun k hk => heap_setMap_ne _ _ _ (fun e => ?_)), fun q hq => ?_, heap_setMap _ _ hbr, hb⟩
  · obtain ⟨cs, hc⟩ := own_type ho hk
    rw [e, hm] at hc; cases hc
  · have : q = p := by simpa using hq
    subst this
    exact innW_map hm _ hi
theorem lci_first2 {B : Nat} {W : World} {br : Nat} {p : PlC} (hi : InnW 0 W p.v p.word) (hm : W.heap[br]? = some (.map (entsC [p]) 1)) (hb : B ≤ br) (hB : B ≤ W.heap.size) : LCI B (W.alloc (.cells (pccells p).toArray 114)) br (.slice (some ⟨W.heap.size, 0, none⟩) 1 1) [p] :=
  ⟨ownC_one W p B hB, fun q hq => (by
    have : q = p := by simpa using hq
    subst this
    exact hi.below ((Below.refl _ _).alloc (Nat.le_refl _) _) (Nat.zero_le _)), (Below.heap_alloc W _ br (Array.getElem?_eq_some_iff.1 hm).1).trans hm, hb⟩
/-- A row that lies elsewhere, appended to, lies elsewhere still. -/
theorem ne_append {v v' : Value} {n hp : Nat} (h : v.ownBlock ≠ some hp) (hl : hp < n) (hn : v'.ownBlock = v.ownBlock ∨ v'.ownBlock = some n) : v'.ownBlock ≠ some hp := by
  rcases hn with e | e
  · rw [e]; exact h
  · rw [e]; intro h'; have := Option.some.inj h'; omega

/-- The places bear the lists of what has been found. -/
def WdC (seen : List Int) (L : List PlC) (l : List (List Int × List Int)) : Prop := ∀ (j : Nat) (p : PlC) (x : List Int × List Int), L[j]? = some p → l[j]? = some x → p.word = wordS seen x.2
theorem WdC.snoc {seen : List Int} {L : List PlC} {l : List (List Int × List Int)} (h : WdC seen L l) (hl : L.length = l.length) {p : PlC} {x : List Int × List Int} (hw : p.word = wordS seen x.2) : WdC seen (L ++ [p]) (l ++ [x]) := by
  intro j q y hq hy
  by_cases hlt : j < L.length
  · rw [List.getElem?_append_left hlt] at hq
    rw [List.getElem?_append_left (by omega)] at hy
    exact h j q y hq hy
  · have hk' := (List.getElem?_eq_some_iff.1 hq).1
    simp at hk'
    have e1 : j = L.length := by omega
    subst e1
    rw [List.getElem?_append_right (Nat.le_refl _)] at hq
    rw [hl, List.getElem?_append_right (Nat.le_refl _)] at hy
    have e2 : p = q := by simpa using hq
    have e3 : x = y := by simpa using hy
    subst e2
    subst e3
    exact hw
theorem WdC.one {seen : List Int} {p : PlC} {x : List Int × List Int} (hw : p.word = wordS seen x.2) : WdC seen [p] [x] := WdC.snoc (L := []) (l := []) (fun j q y h => by simp at h) rfl hw
/-- A row of places that a call hands back: sets and lists of what has been found. -/
structure Pls (W : World) (B : Nat) (v : Value) (seen : List Int) (L : List PlC) (l : List (List Int × List Int)) : Prop where
  ow : OwnC W B v L
  inn : ∀ q ∈ L, InnW 0 W q.v q.word
  rep : RepCL L l
  wd : WdC seen L l
/-- What Estimates and Origins leave, where the plant may be. -/
def PlsPost (w : World) (seen : List Int) (l : List (List Int × List Int)) (e : Ending) (w' : World) : Prop := ∃ (v : Value) (L : List PlC), e = .returned (.tuple #[v, .int .i64 0]) ∧ Pls w' w.heap.size v seen L l ∧ Below w.heap.size w w'
abbrev pcarr (p : PlC) : Array Value := #[.int .u64 (p.s 0), .int .u64 (p.s 1), .int .u64 (p.s 2), .int .u64 (p.s 3), p.v]
theorem PCk.cells {W : World} {b : Nat} {p : PlC} (h : Blk W b 114 (pcarr p)) : W.cell? ⟨b, 0, none⟩ = some (.int .u64 (p.s 0)) ∧ W.cell? ⟨b, 1, none⟩ = some (.int .u64 (p.s 1)) ∧ W.cell? ⟨b, 2, none⟩ = some (.int .u64 (p.s 2)) ∧ W.cell? ⟨b, 3, none⟩ = some (.int .u64 (p.s 3)) ∧ W.cell? ⟨b, 4, none⟩ = some p.v :=
  ⟨h.cell 0 rfl, h.cell 1 rfl, h.cell 2 rfl, h.cell 3 rfl, h.cell 4 rfl⟩

end Go.Proofs.YtbllcondfamleaaDoor
namespace Go.Proofs.YtbllcondfamleaaDoor
open Go.RowKit
set_option linter.unusedVariables false

/-- A list of places in memory. -/
def RdC (W : World) (a : Option Addr) (L : List PlC) : Prop := L = [] ∨ ∃ g o, a = some ⟨g, o, none⟩ ∧ g < W.heap.size ∧ ∀ (k : Nat) (q : PlC), L[k]? = some q → ∀ (j : Nat) (u : Value), (pccells q)[j]? = some u → W.cell? ⟨g, o + k * 5 + j, none⟩ = some u
theorem RdC.below {W W' : World} {a : Option Addr} {L : List PlC} (h : RdC W a L) (hb : Below W.heap.size W W') : RdC W' a L := by
  rcases h with h | ⟨g, o, e, hg, hc⟩
  · exact .inl h
  · exact .inr ⟨g, o, e, Nat.lt_of_lt_of_le hg hb.size, fun k q hq j u hu => (hb.cell (p := ⟨g, o + k * 5 + j, none⟩) hg).trans (hc k q hq j u hu)⟩
theorem OwnC.rd {W : World} {B : Nat} {v : Value} {L : List PlC} (h : OwnC W B v L) : ∃ a c, v = .slice a L.length c ∧ RdC W a L ∧ L.length ≤ maxLen ∧ (L.length ≤ c) := by
  rcases h.2 with ⟨rfl, hn⟩ | ⟨g, cap, cur, rfl, hg, hh, hnc, hcm, hcs, ht⟩
  · have : L = [] := List.eq_nil_of_length_eq_zero hn
    subst this
    exact ⟨none, 0, rfl, .inl rfl, Nat.zero_le _, Nat.le_refl _⟩
  · refine ⟨_, cap, rfl, .inr ⟨g, 0, rfl, (Array.getElem?_eq_some_iff.1 hh).1, fun k q hq j u hu => ?_⟩, Nat.le_trans hnc hcm, hnc⟩
    obtain ⟨g', cap', e, -, -, hc⟩ := h.cell hq
    cases e
    rw [Nat.zero_add]
    exact hc j u hu
theorem rdc_cells {W : World} {g o : Nat} {q : PlC} {k : Nat} (h : ∀ (j : Nat) (u : Value), (pccells q)[j]? = some u → W.cell? ⟨g, o + k * 5 + j, none⟩ = some u) : W.cell? ⟨g, o + k * 5, none⟩ = some (.int .u64 (q.s 0)) ∧ W.cell? ⟨g, o + k * 5 + 1, none⟩ = some (.int .u64 (q.s 1)) ∧ W.cell? ⟨g, o + k * 5 + 2, none⟩ = some (.int .u64 (q.s 2)) ∧ W.cell? ⟨g, o + k * 5 + 3, none⟩ = some (.int .u64 (q.s 3)) ∧ W.cell? ⟨g, o + k * 5 + 4, none⟩ = some q.v :=
  ⟨h 0 _ rfl, h 1 _ rfl, h 2 _ rfl, h 3 _ rfl, h 4 _ rfl⟩

end Go.Proofs.YtbllcondfamleaaDoor
namespace Go.Proofs.YtbllcondfamleaaDoor
open Go.RowKit
set_option linter.unusedVariables false
set_option linter.unusedSectionVars false

theorem afterL_app (ars : List Arr) (ss a b : List Int) : afterL ars ss (a ++ b) = afterL ars (afterL ars ss a) b := by
  unfold afterL; rw [List.foldl_append]
theorem step_mono {ars : List Arr} {ss ss' : List Int} {e : Int} (h : ∀ x ∈ ss, x ∈ ss') : ∀ x ∈ stepL ars ss e, x ∈ stepL ars ss' e := fun x hx => by
  obtain ⟨a, h1, h2, h3, h4⟩ := (mem_stepL _ _ _ _).1 hx
  exact (mem_stepL _ _ _ _).2 ⟨a, h1, h2, h _ h3, h4⟩
theorem after_mono {ars : List Arr} : ∀ (u : List Int) {ss ss' : List Int}, (∀ x ∈ ss, x ∈ ss') → ∀ x ∈ afterL ars ss u, x ∈ afterL ars ss' u
  | [], _, _, h => h
  | e :: u, ss, ss', h => after_mono u (ss := stepL ars ss e) (ss' := stepL ars ss' e) (step_mono h)
/-- A word of events of the machine's arrows, none of them seen. -/
def unW (ars : List Arr) (seen u : List Int) : Prop := ∀ e ∈ u, hasB seen e = false ∧ ∃ a ∈ ars, a.e = e
theorem wide_word {ars : List Arr} {seen ss : List Int} (hin : ∀ a ∈ ars, 0 ≤ a.t ∧ a.t < (256 : Nat)) {x : Int} (h : x ∈ wideL ars seen ss) : ∃ u, unW ars seen u ∧ x ∈ afterL ars ss u := by
  refine (mem_wide hin x).1 h (fun y => ∃ u, unW ars seen u ∧ y ∈ afterL ars ss u) ⟨fun y hy => ⟨[], by simp [unW], hy⟩, fun a ha hp => ?_⟩
  obtain ⟨u, h1, h2⟩ := hp
  obtain ⟨ha1, ha2⟩ := (mem_unseen _ _ _).1 ha
  refine ⟨u ++ [a.e], fun e he => ?_, ?_⟩
  · rcases List.mem_append.1 he with he | he
    · exact h1 e he
    · have : e = a.e := by simpa using he
      subst this; exact ⟨ha2, a, ha1, rfl⟩
  · rw [afterL_app]
    exact (mem_stepL _ _ _ _).2 ⟨a, ha1, rfl, h2, rfl⟩
end Go.Proofs.YtbllcondfamleaaDoor
namespace Go.Proofs.YtbllcondfamleaaDoor
open Go.ChangeShapes Go.WideShapes Go.ChangeAt Go.RowKit Go.Deep
set_option linter.unusedVariables false
set_option maxRecDepth 100000

/-- Where a plant's slices lie. -/
structure PTL where
  l : ML
  sa : Option Addr
  sc : Nat
  ta : Option Addr
  tc : Nat
abbrev ptcells (p : Plant) (L : PTL) : Array Value := #[.int .i64 p.m.st, .int .i64 p.m.ev, .slice L.l.a1 p.m.starts.length L.l.c1, .slice L.l.a2 p.m.arrows.length L.l.c2, .slice L.l.a3 p.m.ends.length L.l.c3, .slice L.sa p.seen.length L.sc, .slice L.ta p.secret.length L.tc]
abbrev ptval (p : Plant) (L : PTL) : Value := .agg (ptcells p L)
structure PAt (w : World) (p : Plant) (L : PTL) : Prop where
  m : MAt w p.m L.l
  s : Sl w L.sa L.sc p.seen
  t : Sl w L.ta L.tc p.secret
theorem PAt.below {w w' : World} {p : Plant} {L : PTL} {B : Nat} (h : PAt w p L) (hb : Below B w w') (hB : w.heap.size ≤ B) : PAt w' p L := ⟨h.m.below hb hB, h.s.below hb hB, h.t.below hb hB⟩
theorem ptcell_at {W : World} {b : Nat} {p : Plant} {L : PTL} (h : Blk W b 46 (ptcells p L)) : W.cell? ⟨b, 0, none⟩ = some (.int .i64 p.m.st) ∧ W.cell? ⟨b, 1, none⟩ = some (.int .i64 p.m.ev) ∧ W.cell? ⟨b, 2, none⟩ = some (.slice L.l.a1 p.m.starts.length L.l.c1) ∧ W.cell? ⟨b, 3, none⟩ = some (.slice L.l.a2 p.m.arrows.length L.l.c2) ∧ W.cell? ⟨b, 4, none⟩ = some (.slice L.l.a3 p.m.ends.length L.l.c3) ∧ W.cell? ⟨b, 5, none⟩ = some (.slice L.sa p.seen.length L.sc) ∧ W.cell? ⟨b, 6, none⟩ = some (.slice L.ta p.secret.length L.tc) :=
  ⟨h.cell 0 rfl, h.cell 1 rfl, h.cell 2 rfl, h.cell 3 rfl, h.cell 4 rfl, h.cell 5 rfl, h.cell 6 rfl⟩

section
variable {H : Type} {enc : TypeId × Value → H} {W : World}
theorem array7 {α : Type} {cs : Array α} (h : cs.size = 7) : ∃ c0 c1 c2 c3 c4 c5 c6, cs = #[c0, c1, c2, c3, c4, c5, c6] := by
  obtain ⟨l⟩ := cs
  match l, h with
  | [c0, c1, c2, c3, c4, c5, c6], _ => exact ⟨c0, c1, c2, c3, c4, c5, c6, rfl⟩
theorem plant_of_cells {fuel : Nat} {c0 c1 c2 c3 c4 c5 c6 : Value} {x : DataW H × List MemPlace} (h : DataW.trod enc Tryd.prog W 0 (fun _ => true) true fuel 46 [c0, c1, c2, c3, c4, c5, c6] = some x) : ∃ p L, Value.agg #[c0, c1, c2, c3, c4, c5, c6] = ptval p L ∧ PAt W p L := by
  obtain ⟨xs, n, _, _, _, hlen, hf⟩ := DataW.trod_struct Tryd.underlying46 h
  have hlen3 : xs.length = 3 := hlen
  match xs, hlen3 with
  | [y0, y1, y2], _ =>
    have i1 : Tryd.prog.cellsOf 25 = 5 := by kernel_rfl
    have i2 : Tryd.prog.cellsOf 22 = 1 := by kernel_rfl
    have h0 := hf 0 { name := "Machine", type := 25, offset := 0, embedded := false, tag := "", pkgPath := "", byteOffset := 0 } rfl
    have h1 := hf 1 { name := "Seen", type := 22, offset := 5, embedded := false, tag := "", pkgPath := "", byteOffset := 88 } rfl
    have h2 := hf 2 { name := "Secret", type := 22, offset := 6, embedded := false, tag := "", pkgPath := "", byteOffset := 112 } rfl
    dsimp only at h0 h1 h2
    simp only [i1, i2, List.drop_succ_cons, List.drop_zero, List.take_succ_cons, List.take_zero, List.getElem?_cons_zero, List.getElem?_cons_succ] at h0 h1 h2
    obtain ⟨m, l, e0, hm⟩ := mach_of_cells h0
    obtain ⟨a1, k1, seen, e1, s1, s2, s3, s4, s5⟩ := ints_of_trod h1
    obtain ⟨a2, k2, secret, e2, r1, r2, r3, r4, r5⟩ := ints_of_trod h2
    simp only [List.cons.injEq, and_true] at e1 e2
    subst e1 e2
    have e0' : #[c0, c1, c2, c3, c4] = mcells m l := by injection e0
    have e3 : [c0, c1, c2, c3, c4] = (mcells m l).toList := by rw [← e0']
    simp only [List.cons.injEq, and_true] at e3
    obtain ⟨q0, q1, q2, q3, q4⟩ := e3
    exact ⟨⟨m, seen, secret⟩, ⟨l, a1, k1, a2, k2⟩, by rw [q0, q1, q2, q3, q4], hm, ⟨s3, s1, s2, s4⟩, ⟨r3, r1, r2, r4⟩⟩
/-- A PLANT THAT CAME IN. -/
theorem open_plant {base : Nat} {v : Value} {d : DataW H} {p : List MemPlace} (hv : Value.okWide Tryd.prog W .any base 46 v) (h : DataW.Trod enc Tryd.prog W 0 (fun _ => true) true 46 v d p) : ∃ q L, v = ptval q L ∧ PAt W q L := by
  obtain ⟨cs, rfl, hsz⟩ := okWide_struct Tryd.underlying46 hv
  obtain ⟨c0, c1, c2, c3, c4, c5, c6, rfl⟩ := array7 (hsz.trans (by kernel_rfl))
  obtain ⟨fuel, hf⟩ := h
  exact plant_of_cells (by simpa [Value.cells] using hf)
end

end Go.Proofs.YtbllcondfamleaaDoor
namespace Go.Proofs.YtbllcondfamleaaDoor
open Go.RowKit
set_option linter.unusedVariables false

abbrev OwnG (W : World) (B : Nat) (v : Value) (L : List PlC) : Prop := W.ownsRow B 129 5 v L.length (pcflat L)
theorem OwnG.cell {W : World} {B : Nat} {v : Value} {L : List PlC} (h : OwnG W B v L) {k : Nat} {p : PlC} (hk : L[k]? = some p) : ∃ g cap, v = .slice (some ⟨g, 0, none⟩) L.length cap ∧ B ≤ g ∧ g < W.heap.size ∧ ∀ j u, (pccells p)[j]? = some u → W.cell? ⟨g, k * 5 + j, none⟩ = some u := by
  rcases h.2 with ⟨rfl, hn⟩ | ⟨g, cap, cur, rfl, hg, hh, hnc, hcm, hcs, ht⟩
  · have := (List.getElem?_eq_some_iff.1 hk).1; omega
  · refine ⟨g, cap, rfl, hg, (Array.getElem?_eq_some_iff.1 hh).1, fun j u hu => ?_⟩
    have hj : j < 5 := by have := (List.getElem?_eq_some_iff.1 hu).1; simpa [pccells] using this
    have c1 := h.cells (g := g) rfl _ _ ((pcflat_at hk j hj).trans hu)
    rwa [addr0_add, Nat.zero_add] at c1
theorem own_plcG {W : World} {B : Nat} {v : Value} {L : List PlC} {p : PlC} (h : W.ownsRow B 129 5 v (L.length + 1) (pcflat L ++ pccells p)) : OwnG W B v (L ++ [p]) := by
  show W.ownsRow B 129 5 v (L ++ [p]).length (pcflat (L ++ [p]))
  rw [List.length_append, pcflat_append]
  have e : pcflat [p] = pccells p := by simp [pcflat]
  rw [e]; exact h
theorem ownG_one (W : World) (p : PlC) (B : Nat) (hB : B ≤ W.heap.size) : OwnG (W.alloc (.cells (pccells p).toArray 129)) B (.slice (some ⟨W.heap.size, 0, none⟩) 1 1) [p] := by
  have : World.ownsRow (W.alloc (.cells (pccells p).toArray 129)) B 129 5 (.slice (some ⟨W.heap.size, 0, none⟩) 1 1) 1 (pccells p) := World.ownsRow_lit W (pccells p).toArray 1 hB (by decide) rfl
  have e : pcflat [p] = pccells p := by simp [pcflat]
  show World.ownsRow _ B 129 5 _ 1 (pcflat [p])
  rw [e]; exact this

theorem innW_grownG {W W2 : World} {B n : Nat} {v : Value} {vs : List Value} (ho : W.ownsRow B 129 5 v n vs) (g : W.grownBy W2 v.ownBlock) {x : Value} {xs : List Int} (h : InnW 0 W x xs) : InnW 0 W2 x xs :=
  h.kept g.size (fun j hj => absurd hj (Nat.not_lt_zero _)) (fun q cs hq => g.block q (Array.getElem?_eq_some_iff.1 hq).1 (fun e => by
    obtain ⟨c2, h2⟩ := own_type ho e.symm
    rw [hq] at h2; cases h2))

/-- What a search knows: its row of places, made from block B on, and its map. -/
structure LGI (B : Nat) (W : World) (br : Nat) (vs : Value) (L : List PlC) : Prop where
  ss : OwnG W B vs L
  inn : ∀ q ∈ L, InnW 0 W q.v q.word
  mp : W.heap[br]? = some (.map (entsC L) L.length)
  lr : B ≤ br
section
variable {B : Nat} {W : World} {br : Nat} {vs : Value} {L : List PlC}
theorem LGI.below {W' : World} (h : LGI B W br vs L) (hb : Below W.heap.size W W') : LGI B W' br vs L :=
  ⟨own_same h.ss (fun k hk => hb.block k (World.ownsRow.lt h.ss k hk).2), fun q hq => (h.inn q hq).below hb (Nat.zero_le _), (hb.block br (Array.getElem?_eq_some_iff.1 h.mp).1).trans h.mp, h.lr⟩
theorem LGI.apart (h : LGI B W br vs L) : vs.ownBlock ≠ some br := by
  have hm := h.mp
  exact fun e => (by obtain ⟨cs, hc⟩ := own_type h.ss e; rw [hm] at hc; cases hc)
theorem LGI.mapped (h : LGI B W br vs L) (o : Obj) : OwnG (setMap W br o) B vs L := own_same h.ss (fun j hj => heap_setMap_ne _ _ _ (fun e => h.apart (by rw [hj, e])))
theorem LGI.push {w0 : World} {W2 W3 : World} {vs' : Value} {p : PlC} (h : LGI B W br vs L) (h0 : Below B w0 W) (hW3 : Below (setMap W br (.map (entsC (L ++ [p])) (L.length + 1))).heap.size (setMap W br (.map (entsC (L ++ [p])) (L.length + 1))) W3) (hi : InnW 0 W3 p.v p.word) (o1 : OwnG W2 B vs' (L ++ [p])) (g : W3.grownBy W2 vs.ownBlock) (hBW : B ≤ W.heap.size) :
    LGI B W2 br vs' (L ++ [p]) ∧ Below B w0 W2 := by
  have a1 := h.apart
  have hbr := (Array.getElem?_eq_some_iff.1 h.mp).1
  have hz : W.heap.size ≤ W3.heap.size := by have := hW3.size; rwa [size_setMap] at this
  have k3 : ∀ j, j < W.heap.size → W3.heap[j]? = (setMap W br (.map (entsC (L ++ [p])) (L.length + 1))).heap[j]? := fun j hj => hW3.block j (by rw [size_setMap]; exact hj)
  have k2 : ∀ j, j < W.heap.size → vs.ownBlock ≠ some j → W2.heap[j]? = (setMap W br (.map (entsC (L ++ [p])) (L.length + 1))).heap[j]? := fun j hj hne => (g.block j (Nat.lt_of_lt_of_le hj hz) (fun e => hne e.symm)).trans (k3 j hj)
  have o3 : OwnG W3 B vs L := own_same (h.mapped (.map (entsC (L ++ [p])) (L.length + 1))) (fun j hj => hW3.block j (World.ownsRow.lt (h.mapped _) j hj).2)
  refine ⟨⟨o1, fun q hq => ?_, ?_, h.lr⟩, ?_⟩
  · rcases List.mem_append.1 hq with hq | hq
    · exact innW_grownG o3 g ((innW_map h.mp _ (h.inn q hq)).below hW3 (Nat.zero_le _))
    · have : q = p := by simpa using hq
      subst this
      exact innW_grownG o3 g hi
  · rw [k2 br hbr a1, heap_setMap _ _ hbr, List.length_append]; rfl
  · have b1 : Below B w0 (setMap W br (.map (entsC (L ++ [p])) (L.length + 1))) :=
      h0.trans ⟨rfl, rfl, rfl, by rw [size_setMap]; exact Nat.le_refl _, fun j hj => heap_setMap_ne _ _ _ (by have := h.lr; omega)⟩
    exact (b1.trans (hW3.mono (by rw [size_setMap]; exact hBW))).grown g (Nat.le_trans hBW hz) (fun j hj => (World.ownsRow.lt h.ss j hj).1)
end
theorem lgi_first {B : Nat} {W : World} {br : Nat} {v : Value} {p : PlC} (ho : OwnG W B v [p]) (hi : InnW 0 W p.v p.word) (hm : W.heap[br]? = some (.map #[] 0)) (hb : B ≤ br) : LGI B (setMap W br (.map (entsC [p]) 1)) br v [p] := by
  have hbr := (Array.getElem?_eq_some_iff.1 hm).1
  refine ⟨own_same ho (fun k hk => heap_setMap_ne _ _ _ (fun e => ?_)), fun q hq => ?_, heap_setMap _ _ hbr, hb⟩
  · obtain ⟨cs, hc⟩ := own_type ho hk
    rw [e, hm] at hc; cases hc
  · have : q = p := by simpa using hq
    subst this
    exact innW_map hm _ hi
theorem lgi_first2 {B : Nat} {W : World} {br : Nat} {p : PlC} (hi : InnW 0 W p.v p.word) (hm : W.heap[br]? = some (.map (entsC [p]) 1)) (hb : B ≤ br) (hB : B ≤ W.heap.size) : LGI B (W.alloc (.cells (pccells p).toArray 129)) br (.slice (some ⟨W.heap.size, 0, none⟩) 1 1) [p] :=
  ⟨ownG_one W p B hB, fun q hq => (by
    have : q = p := by simpa using hq
    subst this
    exact hi.below ((Below.refl _ _).alloc (Nat.le_refl _) _) (Nat.zero_le _)), (Below.heap_alloc W _ br (Array.getElem?_eq_some_iff.1 hm).1).trans hm, hb⟩
/-- A row of places that a call hands back: sets and lists of what has been found. -/
structure PlsG (W : World) (B : Nat) (v : Value) (seen : List Int) (L : List PlC) (l : List (List Int × List Int)) : Prop where
  ow : OwnG W B v L
  inn : ∀ q ∈ L, InnW 0 W q.v q.word
  rep : RepCL L l
  wd : WdC seen L l
theorem PGk.cells {W : World} {b : Nat} {p : PlC} (h : Blk W b 129 (pcarr p)) : W.cell? ⟨b, 0, none⟩ = some (.int .u64 (p.s 0)) ∧ W.cell? ⟨b, 1, none⟩ = some (.int .u64 (p.s 1)) ∧ W.cell? ⟨b, 2, none⟩ = some (.int .u64 (p.s 2)) ∧ W.cell? ⟨b, 3, none⟩ = some (.int .u64 (p.s 3)) ∧ W.cell? ⟨b, 4, none⟩ = some p.v :=
  ⟨h.cell 0 rfl, h.cell 1 rfl, h.cell 2 rfl, h.cell 3 rfl, h.cell 4 rfl⟩

abbrev pg0 (Q : Nat → Nat) : Array Value := #[.int .u64 (Q 0), .int .u64 (Q 1), .int .u64 (Q 2), .int .u64 (Q 3), .slice none 0 0]
theorem entsG_s (L : List PlC) {p q : PlC} (h : p.s = q.s) : entsC (L ++ [p]) = entsC (L ++ [q]) := by
  rw [entsC_snoc, entsC_snoc]; unfold entC; rw [h]
theorem ownG_low {W : World} {B B' : Nat} {v : Value} {L : List PlC} (h : OwnG W B v L) (hb : B' ≤ B) : OwnG W B' v L := by
  refine ⟨h.1, ?_⟩
  rcases h.2 with h0 | ⟨g, cap, cur, e, hg, hr⟩
  · exact .inl h0
  · exact .inr ⟨g, cap, cur, e, Nat.le_trans hb hg, hr⟩
theorem LGI.nebr {B : Nat} {W : World} {br hp : Nat} {vs : Value} {L : List PlC} {t : TypeId} {cs : Array Value} (h : LGI B W br vs L) (hh : Blk W hp t cs) : hp ≠ br := fun e => by
  have hm := h.mp
  rw [← e, show W.heap[hp]? = _ from hh] at hm; cases hm
/-- The block that a search's row lies in, apart from another one, stays apart. -/
theorem blk_grownG {W W2 : World} {b : Nat} {row : Option Nat} {t : TypeId} {cs : Array Value} (h : Blk W b t cs) (g : W.grownBy W2 row) (hn : row ≠ some b) : Blk W2 b t cs := (g.block b h.lt (fun e => hn e.symm)).trans h
theorem sb_apartG {W : World} {B n b : Nat} {v : Value} {vs : List Value} {S : Nat → Nat} (ho : W.ownsRow B 129 5 v n vs) (h : SB W b S) : v.ownBlock ≠ some b := fun e => by
  obtain ⟨c2, h2⟩ := own_type ho e
  rw [show W.heap[b]? = _ from h] at h2; cases h2

theorem Tryd.infoPlaceG : (Tryd.prog.info? 129).map (fun i => (i.zero, i.size, i.bytes)) = some (some (.agg (pccells ⟨zeroS, .slice none 0 0, []⟩).toArray), 5, 56) := by kernel_rfl
theorem below_mapG {B : Nat} {w W : World} (h : Below B w W) {br : Nat} (hb : B ≤ br) (o : Obj) : Below B w (setMap W br o) :=
  h.trans ⟨rfl, rfl, rfl, by rw [size_setMap]; exact Nat.le_refl _, fun j hj => heap_setMap_ne _ _ _ (by omega)⟩
theorem blk_mapG {W : World} {b br : Nat} {t : TypeId} {cs : Array Value} (h : Blk W b t cs) (hn : b ≠ br) (o : Obj) : Blk (setMap W br o) b t cs := (heap_setMap_ne W br o hn).trans h

end Go.Proofs.YtbllcondfamleaaDoor
namespace Go.Proofs.YtbllcondfamleaaDoor
open Go.RowKit
set_option linter.unusedVariables false

theorem mayP_no1 {p : Plant} (h : mayB p.m = false) : mayP p = false := by unfold mayP; rw [h]; rfl
theorem mayP_no2 {p : Plant} (h : ¬ p.m.st ≤ 6) : mayP p = false := by unfold mayP; rw [decide_eq_false h]; simp
theorem mayP_no3 {p : Plant} (h : rowB p.m.ev p.seen = false) : mayP p = false := by unfold mayP; rw [h]; simp
theorem mayP_last {p : Plant} (h1 : mayB p.m = true) (h2 : p.m.st ≤ 6) (h3 : rowB p.m.ev p.seen = true) : mayP p = rowB p.m.st p.secret := by unfold mayP; rw [h1, h3, decide_eq_true h2]; simp

set_option maxRecDepth 100000 in
set_option maxHeartbeats 4000000 in
theorem rMayP_any (p : Plant) (P : PTL) (w : World) (h : Hid (PAt w p P)) :
    Calls Tryd.prog 33 #[ptval p P] w fun e w' => e = .returned (.bool (mayP p)) ∧ Below w.heap.size w w' := by
  have b0 : Below w.heap.size w ((w.alloc (.cells (ptcells p P) 46)).alloc (.cells (mcells p.m P.l) 25)) := ((Below.refl _ _).alloc (Nat.le_refl _) _).alloc (by simp) _
  have B := Hid.of b0
  have KP : Hid (Blk ((w.alloc (.cells (ptcells p P) 46)).alloc (.cells (mcells p.m P.l) 25)) w.heap.size 46 (ptcells p P)) := (Blk.new w _ _).alloc _
  have KM : Hid (Blk ((w.alloc (.cells (ptcells p P) 46)).alloc (.cells (mcells p.m P.l) 25)) (w.heap.size + 1) 25 (mcells p.m P.l)) := by
    have := Blk.new (w.alloc (.cells (ptcells p P) 46)) 25 (mcells p.m P.l)
    rwa [World.size_alloc] at this
  clear b0
  go_enter Tryd.func33, Tryd.ntmps33
  go_wp2_with fail
  revert B KP KM
  show Hid (Below w.heap.size w ((w.alloc (.cells #[.int .i64 p.m.st, .int .i64 p.m.ev, .slice P.l.a1 p.m.starts.length P.l.c1, .slice P.l.a2 p.m.arrows.length P.l.c2, .slice P.l.a3 p.m.ends.length P.l.c3, .slice P.sa p.seen.length P.sc, .slice P.ta p.secret.length P.tc] 46)).alloc (.cells #[.int .i64 p.m.st, .int .i64 p.m.ev, .slice P.l.a1 p.m.starts.length P.l.c1, .slice P.l.a2 p.m.arrows.length P.l.c2, .slice P.l.a3 p.m.ends.length P.l.c3] 25))) → _
  generalize (w.alloc (.cells #[.int .i64 p.m.st, .int .i64 p.m.ev, .slice P.l.a1 p.m.starts.length P.l.c1, .slice P.l.a2 p.m.arrows.length P.l.c2, .slice P.l.a3 p.m.ends.length P.l.c3, .slice P.sa p.seen.length P.sc, .slice P.ta p.secret.length P.tc] 46)).alloc (.cells #[.int .i64 p.m.st, .int .i64 p.m.ev, .slice P.l.a1 p.m.starts.length P.l.c1, .slice P.l.a2 p.m.arrows.length P.l.c2, .slice P.l.a3 p.m.ends.length P.l.c3] 25) = V0
  intro B KP KM
  refine (refMay_any p.m P.l V0 (h.out.m.below B.out (Nat.le_refl _))).mono ?_
  rintro e W1 ⟨rfl, hb⟩
  replace B := Hid.of (B.out.trans (hb.mono B.out.size))
  replace KP := Hid.of (KP.out.below hb KP.out.lt)
  replace KM := Hid.of (KM.out.below hb KM.out.lt)
  clear hb
  cases h1 : mayB p.m with
  | false =>
    have HF := Hid.of (mayP_no1 h1)
    clear h1
    go_wp2_with fail
    go_ret
    exact ⟨ret_bool HF.out.symm, B.out⟩
  | true =>
    have H1 := Hid.of h1
    clear h1
    by_cases h2 : p.m.st ≤ 6
    · have d2 : decide (p.m.st ≤ 6) = true := by simpa using h2
      obtain ⟨y0, y1, y2, y3, y4⟩ := mcell_at KM.out
      obtain ⟨x0, x1, x2, x3, x4, x5, x6⟩ := ptcell_at KP.out
      go_wp2_with fail
      refine (refIs_any P.sa P.sc p.seen p.m.ev W1 (h.out.s.at_.below B.out (Nat.le_refl _)) h.out.s.len).mono ?_
      rintro e W2 ⟨rfl, q, hq⟩
      have hb : Below W1.heap.size W1 W2 := by rw [hq]; exact below_drewN (Below.refl _ _) q
      replace B := Hid.of (B.out.trans (hb.mono B.out.size))
      replace KP := Hid.of (KP.out.below hb KP.out.lt)
      replace KM := Hid.of (KM.out.below hb KM.out.lt)
      clear hb hq y0 y1 y2 y3 y4 x0 x1 x2 x3 x4 x5 x6
      cases h3 : rowB p.m.ev p.seen with
      | false =>
        have HF := Hid.of (mayP_no3 h3)
        clear h3
        go_wp2_with fail
        go_ret
        exact ⟨ret_bool HF.out.symm, B.out⟩
      | true =>
        have HF := Hid.of (mayP_last H1.out h2 h3)
        clear h3
        obtain ⟨y0, y1, y2, y3, y4⟩ := mcell_at KM.out
        obtain ⟨x0, x1, x2, x3, x4, x5, x6⟩ := ptcell_at KP.out
        go_wp2_with fail
        refine (refIs_any P.ta P.tc p.secret p.m.st W2 (h.out.t.at_.below B.out (Nat.le_refl _)) h.out.t.len).mono ?_
        rintro e W3 ⟨rfl, q, hq⟩
        have hb : Below W2.heap.size W2 W3 := by rw [hq]; exact below_drewN (Below.refl _ _) q
        replace B := Hid.of (B.out.trans (hb.mono B.out.size))
        clear hb hq y0 y1 y2 y3 y4 x0 x1 x2 x3 x4 x5 x6
        obtain ⟨bb, HB⟩ : ∃ bb, Hid (bb = rowB p.m.st p.secret) := ⟨_, rfl⟩
        rw [← HB.out] at HF ⊢
        go_wp2_with fail
        go_ret
        exact ⟨ret_bool HF.out.symm, B.out⟩
    · have d2 : decide (p.m.st ≤ 6) = false := by simpa using h2
      have HF := Hid.of (mayP_no2 h2)
      obtain ⟨y0, y1, y2, y3, y4⟩ := mcell_at KM.out
      go_wp2_with fail
      go_ret
      exact ⟨ret_bool HF.out.symm, B.out⟩

end Go.Proofs.YtbllcondfamleaaDoor
namespace Go.Proofs.YtbllcondfamleaaDoor
open Go.RowKit
set_option linter.unusedVariables false

theorem fold_take {σ : Type} (f : σ → Int → σ) (s : σ) {word : List Int} {k : Nat} {x : Int} (h : k < word.length) (hx : Hid (x = word[k]?.getD 0)) : (word.take (k + 1)).foldl f s = f ((word.take k).foldl f s) x := by
  rw [List.take_add_one, List.getElem?_eq_getElem h, Option.toList_some, List.foldl_append, hx.out, List.getElem?_eq_getElem h]; rfl

end Go.Proofs.YtbllcondfamleaaDoor
