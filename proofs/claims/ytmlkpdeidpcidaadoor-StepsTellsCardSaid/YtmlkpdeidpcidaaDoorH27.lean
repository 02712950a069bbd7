/-
  A map keyed by sets of states, and rows of places of package current, as the model runs them.
  The iterator that slices.Backward answers: a list's numbers with their places, from the last one on.
  Rows of places, to be read; what slices.IndexFunc answers of them.
  The iterator that slices.Backward answers, over places: they come with their numbers, from the last one on.
  Plain: a set that has states, all of them another one's. No program, no model.
  The walk of Set.OnlyIn.
  A plant's value, and what is said of it in a world; a plant that came in, opened.
-/
import Derived.Test.YtmlkpdeidpcidaaDoorH16
import Derived.Test.YtmlkpdeidpcidaaDoorH26
import Derived.Test.YtmlkpdeidpcidaaDoorH07
import Derived.Test.YtmlkpdeidpcidaaDoorDSpread
import Derived.Test.YtmlkpdeidpcidaaDoorH11
import Derived.Test.YtmlkpdeidpcidaaDoorH06
import Derived.Test.YtmlkpdeidpcidaaDoorH03
namespace Go.Proofs.YtmlkpdeidpcidaaDoor
open Go.RowKit
set_option linter.unusedVariables false

/-- A place: its set, its list as a value, and what that reads as. -/
structure PlC where
  s : Nat → Nat
  v : Value
  word : List Int
/-- The set stands for a list, which rises. -/
def RepI (S : Nat → Nat) (s : List Int) : Prop := Rep S s ∧ Inc s
def entC (k : Nat) (p : PlC) : MapEntry := { key := sval p.s, val := .agg #[], born := k }
def entsC (L : List PlC) : Array MapEntry := (L.mapIdx entC).toArray
theorem entsC_snoc (L : List PlC) (p : PlC) : entsC (L ++ [p]) = (entsC L).push (entC L.length p) := by
  unfold entsC; rw [List.mapIdx_concat]; simp
/-- The places stand for what has been found, one by one. -/
structure RepCL (L : List PlC) (l : List (List Int × List Int)) : Prop where
  len : L.length = l.length
  rep : ∀ (k : Nat) (p : PlC), L[k]? = some p → ∃ x, l[k]? = some x ∧ RepI p.s x.1
theorem RepCL.at {L : List PlC} {l : List (List Int × List Int)} (h : RepCL L l) {k : Nat} {x : List Int × List Int} (hk : l[k]? = some x) : ∃ p, L[k]? = some p ∧ RepI p.s x.1 := by
  have hlt := (List.getElem?_eq_some_iff.1 hk).1
  have hlt' : k < L.length := by rw [h.len]; exact hlt
  obtain ⟨y, h1, h2⟩ := h.rep k _ (List.getElem?_eq_getElem hlt')
  rw [hk] at h1
  have h1 := Option.some.inj h1
  subst h1
  exact ⟨_, List.getElem?_eq_getElem hlt', h2⟩
theorem RepCL.snoc {L : List PlC} {l : List (List Int × List Int)} (h : RepCL L l) {p : PlC} {x : List Int × List Int} (hr : RepI p.s x.1) : RepCL (L ++ [p]) (l ++ [x]) := by
  refine ⟨by simp [h.len], fun k q hk => ?_⟩
  by_cases hlt : k < L.length
  · rw [List.getElem?_append_left hlt] at hk
    obtain ⟨y, h1, h2⟩ := h.rep k q hk
    exact ⟨y, by rw [List.getElem?_append_left (by rw [← h.len]; exact hlt)]; exact h1, h2⟩
  · have hk' := (List.getElem?_eq_some_iff.1 hk).1
    simp at hk'
    have e : k = L.length := by omega
    subst e
    rw [List.getElem?_append_right (Nat.le_refl _)] at hk
    have : p = q := by simpa using hk
    subst this
    exact ⟨x, by rw [h.len, List.getElem?_append_right (Nat.le_refl _)]; simp, hr⟩
theorem RepCL.one {p : PlC} {x : List Int × List Int} (hr : RepI p.s x.1) : RepCL [p] [x] := RepCL.snoc (L := []) (l := []) ⟨rfl, fun k S h => by simp at h⟩ hr
theorem find_sc {L : List PlC} {l : List (List Int × List Int)} (hR : RepCL L l) {S : Nat → Nat} {s : List Int} (hr : RepI S s) (w : World) :
    (knownB l s = true ∧ ∃ j, (Instr.findKey 85 (sval S) (entsC L).toList).run Tryd.prog w = .ok (some (j, .agg #[])) w) ∨ (knownB l s = false ∧ (Instr.findKey 85 (sval S) (entsC L).toList).run Tryd.prog w = .ok none w) := by
  obtain ⟨kl, hl⟩ := keySet hr.1.ok
  have hget : ∀ (j : Nat) e, (entsC L).toList[j]? = some e → ∃ p, L[j]? = some p ∧ e = entC j p := by
    intro j e h
    simp only [entsC] at h
    rw [List.getElem?_mapIdx] at h
    cases hq : L[j]? with
    | none => rw [hq] at h; cases h
    | some q => rw [hq] at h; exact ⟨q, rfl, (Option.some.inj h).symm⟩
  have hes : ∀ e ∈ (entsC L).toList, ∃ l, keyOf Tryd.prog 85 e.key = some l := by
    intro e he
    obtain ⟨j, hj⟩ := List.mem_iff_getElem?.1 he
    obtain ⟨p, hp, rfl⟩ := hget j e hj
    obtain ⟨x, -, h2⟩ := hR.rep j p hp
    exact keySet h2.1.ok
  rcases lawSet.find w hl (entsC L).toList hes with ⟨h1, h2⟩ | ⟨j, e, h1, h2, h3⟩
  · refine .inr ⟨?_, h1⟩
    cases hk : knownB l s with
    | false => rfl
    | true =>
      obtain ⟨x, hx, e1⟩ := (knownB_iff _ _).1 hk
      obtain ⟨j, hj⟩ := List.mem_iff_getElem?.1 hx
      obtain ⟨p, hp, hrp⟩ := hR.at hj
      refine absurd (eqS_sval ((eqS_iff hrp.1 hr.1 hrp.2 hr.2).2 e1)) (h2 (entC j p) (List.mem_of_getElem? (i := j) ?_))
      simp only [entsC]
      rw [List.getElem?_mapIdx, hp]; rfl
  · obtain ⟨p, hp, rfl⟩ := hget j e h2
    obtain ⟨x, hx, hrx⟩ := hR.rep j p hp
    exact .inl ⟨(knownB_iff _ _).2 ⟨x, List.mem_of_getElem? hx, (eqS_iff hrx.1 hr.1 hrx.2 hr.2).1 (sval_eq h3)⟩, j, h1⟩
theorem mapSC : Tryd.prog.underlying 165 = some (.map 85 191) := by kernel_rfl
theorem lookC_known {L : List PlC} {l : List (List Int × List Int)} (hR : RepCL L l) {S : Nat → Nat} {s : List Int} (hr : RepI S s) {w : World} {r c : Nat} (hm : w.heap[r]? = some (.map (entsC L) c)) (h : knownB l s = true) :
    (Instr.lookup 165 (.map (some r)) (sval S) true).run Tryd.prog w = .ok (.tuple #[.agg #[], .bool true]) w := by
  obtain ⟨kl, hl⟩ := keySet hr.1.ok
  rcases find_sc hR hr w with ⟨-, j, h1⟩ | ⟨h1, -⟩
  · simp [Instr.lookup, run_underlying mapSC, MapKept.run_getObj_map hm, lawSet.check w _ hl, h1, Result.andThen]
  · rw [h] at h1; cases h1
theorem lookC_new {L : List PlC} {l : List (List Int × List Int)} (hR : RepCL L l) {S : Nat → Nat} {s : List Int} (hr : RepI S s) {w : World} {r c : Nat} (hm : w.heap[r]? = some (.map (entsC L) c)) (h : knownB l s = false) :
    (Instr.lookup 165 (.map (some r)) (sval S) true).run Tryd.prog w = .ok (.tuple #[.agg #[], .bool false]) w := by
  obtain ⟨kl, hl⟩ := keySet hr.1.ok
  rcases find_sc hR hr w with ⟨h1, -⟩ | ⟨-, h1⟩
  · rw [h] at h1; cases h1
  · simp [Instr.lookup, run_underlying mapSC, MapKept.run_getObj_map hm, lawSet.check w _ hl, h1, Result.andThen]
theorem updC_new {L : List PlC} {l : List (List Int × List Int)} (hR : RepCL L l) {p : PlC} {s : List Int} (hr : RepI p.s s) {w : World} {r : Nat} (hm : w.heap[r]? = some (.map (entsC L) L.length)) (h : knownB l s = false) :
    (Instr.mapUpdate 165 (.map (some r)) (sval p.s) (.agg #[])).run Tryd.prog w = .ok () (setMap w r (.map (entsC (L ++ [p])) (L.length + 1))) := by
  obtain ⟨kl, hl⟩ := keySet hr.1.ok
  rcases find_sc hR hr w with ⟨h1, -⟩ | ⟨-, h1⟩
  · rw [h] at h1; cases h1
  · simp [Instr.mapUpdate, run_underlying mapSC, MapKept.run_getObj_map hm, lawSet.check w _ hl, h1, MapKept.run_setObj_map _ hm, Result.andThen, setMap, entsC_snoc, entC]
theorem updC_first {p : PlC} {s : List Int} (hr : RepI p.s s) {w : World} {r : Nat} (hm : w.heap[r]? = some (.map #[] 0)) :
    (Instr.mapUpdate 165 (.map (some r)) (sval p.s) (.agg #[])).run Tryd.prog w = .ok () (setMap w r (.map (entsC [p]) 1)) := by
  have := updC_new (L := []) (l := []) ⟨rfl, fun k S h => by simp at h⟩ hr (w := w) (r := r) hm rfl
  simpa using this

/-! Rows of places. -/
def pccells (p : PlC) : List Value := [.int .u64 (p.s 0), .int .u64 (p.s 1), .int .u64 (p.s 2), .int .u64 (p.s 3), p.v]
def pcflat : List PlC → List Value
  | [] => []
  | p :: r => pccells p ++ pcflat r
theorem pcflat_append : ∀ L M : List PlC, pcflat (L ++ M) = pcflat L ++ pcflat M
  | [], M => rfl
  | a :: r, M => by simp only [List.cons_append, pcflat, pcflat_append r M, List.append_assoc]
theorem pcflat_at : ∀ {L : List PlC} {k : Nat} {p : PlC}, L[k]? = some p → ∀ j, j < 5 → (pcflat L)[k * 5 + j]? = (pccells p)[j]?
  | [], k, p, h => by simp at h
  | a :: r, 0, p, h => by
    have e : a = p := by simpa using h
    subst e
    intro j hj
    rw [pcflat, Nat.zero_mul, Nat.zero_add, List.getElem?_append_left (by simp [pccells]; omega)]
  | a :: r, k + 1, p, h => by
    intro j hj
    have := pcflat_at (L := r) (k := k) (p := p) (by simpa using h) j hj
    rw [pcflat, List.getElem?_append_right (by simp [pccells]; omega)]
    have e : (k + 1) * 5 + j - (pccells a).length = k * 5 + j := by simp [pccells]; omega
    rw [e]; exact this
abbrev OwnC (W : World) (B : Nat) (v : Value) (L : List PlC) : Prop := W.ownsRow B 115 5 v L.length (pcflat L)
theorem OwnC.cell {W : World} {B : Nat} {v : Value} {L : List PlC} (h : OwnC W B v L) {k : Nat} {p : PlC} (hk : L[k]? = some p) : ∃ g cap, v = .slice (some ⟨g, 0, none⟩) L.length cap ∧ B ≤ g ∧ g < W.heap.size ∧ ∀ j u, (pccells p)[j]? = some u → W.cell? ⟨g, k * 5 + j, none⟩ = some u := by
  rcases h.2 with ⟨rfl, hn⟩ | ⟨g, cap, cur, rfl, hg, hh, hnc, hcm, hcs, ht⟩
  · have := (List.getElem?_eq_some_iff.1 hk).1; omega
  · refine ⟨g, cap, rfl, hg, (Array.getElem?_eq_some_iff.1 hh).1, fun j u hu => ?_⟩
    have hj : j < 5 := by have := (List.getElem?_eq_some_iff.1 hu).1; simpa [pccells] using this
    have c1 := h.cells (g := g) rfl _ _ ((pcflat_at hk j hj).trans hu)
    rwa [addr0_add, Nat.zero_add] at c1
theorem own_plcC {W : World} {B : Nat} {v : Value} {L : List PlC} {p : PlC} (h : W.ownsRow B 115 5 v (L.length + 1) (pcflat L ++ pccells p)) : OwnC W B v (L ++ [p]) := by
  show W.ownsRow B 115 5 v (L ++ [p]).length (pcflat (L ++ [p]))
  rw [List.length_append, pcflat_append]
  have e : pcflat [p] = pccells p := by simp [pcflat]
  rw [e]; exact h
theorem ownC_one (W : World) (p : PlC) (B : Nat) (hB : B ≤ W.heap.size) : OwnC (W.alloc (.cells (pccells p).toArray 115)) B (.slice (some ⟨W.heap.size, 0, none⟩) 1 1) [p] := by
  have : World.ownsRow (W.alloc (.cells (pccells p).toArray 115)) B 115 5 (.slice (some ⟨W.heap.size, 0, none⟩) 1 1) 1 (pccells p) := World.ownsRow_lit W (pccells p).toArray 1 hB (by decide) rfl
  have e : pcflat [p] = pccells p := by simp [pcflat]
  show World.ownsRow _ B 115 5 _ 1 (pcflat [p])
  rw [e]; exact this

/-- Words that lie in memory stay where they are. -/
theorem innW_map {W : World} {br : Nat} {m : Array MapEntry} {c : Nat} (hm : W.heap[br]? = some (.map m c)) (o : Obj) {x : Value} {xs : List Int} (h : InnW 0 W x xs) : InnW 0 (setMap W br o) x xs :=
  h.kept (by rw [size_setMap]; exact Nat.le_refl _) (fun j hj => absurd hj (Nat.not_lt_zero _)) (fun g cs hg => heap_setMap_ne _ _ _ (fun e => by rw [e, hm] at hg; cases hg))
theorem innW_grown {W W2 : World} {B n : Nat} {v : Value} {vs : List Value} (ho : W.ownsRow B 115 5 v n vs) (g : W.grownBy W2 v.ownBlock) {x : Value} {xs : List Int} (h : InnW 0 W x xs) : InnW 0 W2 x xs :=
  h.kept g.size (fun j hj => absurd hj (Nat.not_lt_zero _)) (fun q cs hq => g.block q (Array.getElem?_eq_some_iff.1 hq).1 (fun e => by
    obtain ⟨c2, h2⟩ := own_type ho e.symm
    rw [hq] at h2; cases h2))

/-- What a search knows: its row of places, made from block B on, and its map. -/
structure LCI (B : Nat) (W : World) (br : Nat) (vs : Value) (L : List PlC) : Prop where
  ss : OwnC W B vs L
  inn : ∀ q ∈ L, InnW 0 W q.v q.word
  mp : W.heap[br]? = some (.map (entsC L) L.length)
  lr : B ≤ br
section
variable {B : Nat} {W : World} {br : Nat} {vs : Value} {L : List PlC}
theorem LCI.below {W' : World} (h : LCI B W br vs L) (hb : Below W.heap.size W W') : LCI B W' br vs L :=
  ⟨own_same h.ss (fun k hk => hb.block k (World.ownsRow.lt h.ss k hk).2), fun q hq => (h.inn q hq).below hb (Nat.zero_le _), (hb.block br (Array.getElem?_eq_some_iff.1 h.mp).1).trans h.mp, h.lr⟩
theorem LCI.apart (h : LCI B W br vs L) : vs.ownBlock ≠ some br := by
  have hm := h.mp
  exact fun e => (by obtain ⟨cs, hc⟩ := own_type h.ss e; rw [hm] at hc; cases hc)
theorem LCI.mapped (h : LCI B W br vs L) (o : Obj) : OwnC (setMap W br o) B vs L := own_same h.ss (fun j hj => heap_setMap_ne _ _ _ (fun e => h.apart (by rw [hj, e])))
theorem LCI.push {w0 : World} {W2 W3 : World} {vs' : Value} {p : PlC} (h : LCI B W br vs L) (h0 : Below B w0 W) (hW3 : Below (setMap W br (.map (entsC (L ++ [p])) (L.length + 1))).heap.size (setMap W br (.map (entsC (L ++ [p])) (L.length + 1))) W3) (hi : InnW 0 W3 p.v p.word) (o1 : OwnC W2 B vs' (L ++ [p])) (g : W3.grownBy W2 vs.ownBlock) (hBW : B ≤ W.heap.size) :
    LCI B W2 br vs' (L ++ [p]) ∧ Below B w0 W2 := by
  have a1 := h.apart
  have hbr := (Array.getElem?_eq_some_iff.1 h.mp).1
  have hz : W.heap.size ≤ W3.heap.size := by have := hW3.size; rwa [size_setMap] at this
  have k3 : ∀ j, j < W.heap.size → W3.heap[j]? = (setMap W br (.map (entsC (L ++ [p])) (L.length + 1))).heap[j]? := fun j hj => hW3.block j (by rw [size_setMap]; exact hj)
  have k2 : ∀ j, j < W.heap.size → vs.ownBlock ≠ some j → W2.heap[j]? = (setMap W br (.map (entsC (L ++ [p])) (L.length + 1))).heap[j]? := fun j hj hne => (g.block j (Nat.lt_of_lt_of_le hj hz) (fun e => hne e.symm)).trans (k3 j hj)
  have o3 : OwnC W3 B vs L := own_same (h.mapped (.map (entsC (L ++ [p])) (L.length + 1))) (fun j hj => hW3.block j (World.ownsRow.lt (h.mapped _) j hj).2)
  refine ⟨⟨o1, fun q hq => ?_, ?_, h.lr⟩, ?_⟩
  · rcases List.mem_append.1 hq with hq | hq
    · exact innW_grown o3 g ((innW_map h.mp _ (h.inn q hq)).below hW3 (Nat.zero_le _))
    · have : q = p := by simpa using hq
      subst this
      exact innW_grown o3 g hi
  · rw [k2 br hbr a1, heap_setMap _ _ hbr, List.length_append]; rfl
  · have b1 : Below B w0 (setMap W br (.map (entsC (L ++ [p])) (L.length + 1))) :=
      h0.trans ⟨rfl, rfl, rfl, by rw [size_setMap]; exact Nat.le_refl _, fun j hj => heap_setMap_ne _ _ _ (by have := h.lr; omega)⟩
    exact (b1.trans (hW3.mono (by rw [size_setMap]; exact hBW))).grown g (Nat.le_trans hBW hz) (fun j hj => (World.ownsRow.lt h.ss j hj).1)
end
theorem lci_first {B : Nat} {W : World} {br : Nat} {v : Value} {p : PlC} (ho : OwnC W B v [p]) (hi : InnW 0 W p.v p.word) (hm : W.heap[br]? = some (.map #[] 0)) (hb : B ≤ br) : LCI B (setMap W br (.map (entsC [p]) 1)) br v [p] := by
  have hbr := (Array.getElem?_eq_some_iff.1 hm).1
  refine ⟨own_same ho (fun k hk => heap_setMap_ne _ _ _ (fun e => ?_)), fun q hq => ?_, heap_setMap _ _ hbr, hb⟩
  · obtain ⟨cs, hc⟩ := own_type ho hk
    rw [e, hm] at hc; cases hc
  · have : q = p := by simpa using hq
    subst this
    exact innW_map hm _ hi
theorem lci_first2 {B : Nat} {W : World} {br : Nat} {p : PlC} (hi : InnW 0 W p.v p.word) (hm : W.heap[br]? = some (.map (entsC [p]) 1)) (hb : B ≤ br) (hB : B ≤ W.heap.size) : LCI B (W.alloc (.cells (pccells p).toArray 115)) br (.slice (some ⟨W.heap.size, 0, none⟩) 1 1) [p] :=
  ⟨ownC_one W p B hB, fun q hq => (by
    have : q = p := by simpa using hq
    subst this
    exact hi.below ((Below.refl _ _).alloc (Nat.le_refl _) _) (Nat.zero_le _)), (Below.heap_alloc W _ br (Array.getElem?_eq_some_iff.1 hm).1).trans hm, hb⟩
/-- A row that lies elsewhere, appended to, lies elsewhere still. -/
theorem ne_append {v v' : Value} {n hp : Nat} (h : v.ownBlock ≠ some hp) (hl : hp < n) (hn : v'.ownBlock = v.ownBlock ∨ v'.ownBlock = some n) : v'.ownBlock ≠ some hp := by
  rcases hn with e | e
  · rw [e]; exact h
  · rw [e]; intro h'; have := Option.some.inj h'; omega

/-- The places bear the lists of what has been found. -/
def WdC (seen : List Int) (L : List PlC) (l : List (List Int × List Int)) : Prop := ∀ (j : Nat) (p : PlC) (x : List Int × List Int), L[j]? = some p → l[j]? = some x → p.word = wordS seen x.2
theorem WdC.snoc {seen : List Int} {L : List PlC} {l : List (List Int × List Int)} (h : WdC seen L l) (hl : L.length = l.length) {p : PlC} {x : List Int × List Int} (hw : p.word = wordS seen x.2) : WdC seen (L ++ [p]) (l ++ [x]) := by
  intro j q y hq hy
  by_cases hlt : j < L.length
  · rw [List.getElem?_append_left hlt] at hq
    rw [List.getElem?_append_left (by omega)] at hy
    exact h j q y hq hy
  · have hk' := (List.getElem?_eq_some_iff.1 hq).1
    simp at hk'
    have e1 : j = L.length := by omega
    subst e1
    rw [List.getElem?_append_right (Nat.le_refl _)] at hq
    rw [hl, List.getElem?_append_right (Nat.le_refl _)] at hy
    have e2 : p = q := by simpa using hq
    have e3 : x = y := by simpa using hy
    subst e2
    subst e3
    exact hw
theorem WdC.one {seen : List Int} {p : PlC} {x : List Int × List Int} (hw : p.word = wordS seen x.2) : WdC seen [p] [x] := WdC.snoc (L := []) (l := []) (fun j q y h => by simp at h) rfl hw
/-- A row of places that a call hands back: sets and lists of what has been found. -/
structure Pls (W : World) (B : Nat) (v : Value) (seen : List Int) (L : List PlC) (l : List (List Int × List Int)) : Prop where
  ow : OwnC W B v L
  inn : ∀ q ∈ L, InnW 0 W q.v q.word
  rep : RepCL L l
  wd : WdC seen L l
/-- What Estimates and Origins leave, where the plant may be. -/
def PlsPost (w : World) (seen : List Int) (l : List (List Int × List Int)) (e : Ending) (w' : World) : Prop := ∃ (v : Value) (L : List PlC), e = .returned (.tuple #[v, .int .i64 0]) ∧ Pls w' w.heap.size v seen L l ∧ Below w.heap.size w w'
abbrev pcarr (p : PlC) : Array Value := #[.int .u64 (p.s 0), .int .u64 (p.s 1), .int .u64 (p.s 2), .int .u64 (p.s 3), p.v]
abbrev pcval (p : PlC) : Value := .agg (pcarr p)
theorem PCk.cells {W : World} {b : Nat} {p : PlC} (h : Blk W b 115 (pcarr p)) : W.cell? ⟨b, 0, none⟩ = some (.int .u64 (p.s 0)) ∧ W.cell? ⟨b, 1, none⟩ = some (.int .u64 (p.s 1)) ∧ W.cell? ⟨b, 2, none⟩ = some (.int .u64 (p.s 2)) ∧ W.cell? ⟨b, 3, none⟩ = some (.int .u64 (p.s 3)) ∧ W.cell? ⟨b, 4, none⟩ = some p.v :=
  ⟨h.cell 0 rfl, h.cell 1 rfl, h.cell 2 rfl, h.cell 3 rfl, h.cell 4 rfl⟩

end Go.Proofs.YtmlkpdeidpcidaaDoor
namespace Go.Proofs.YtmlkpdeidpcidaaDoor
open Go.RowKit Go.Shelf
set_option linter.unusedVariables false
attribute [local go_sem] Oper.semAt_some

/-- A place and a number that is among some. -/
abbrev SE (seen : List Int) : Type := { x : Int × Int // x.2 ∈ seen }
abbrev seval {seen : List Int} (x : SE seen) : Array Value := #[.int .i64 x.1.1, .int .i64 x.1.2]
/-- What comes of the first k, the last one first. -/
def rvK (word : List Int) : Nat → List (Int × Int)
  | 0 => []
  | k + 1 => ((k : Int), word[k]?.getD 0) :: rvK word k
theorem se_of {seen : List Int} : ∀ (l : List (Int × Int)), (∀ x ∈ l, x.2 ∈ seen) → ∃ xs : List (SE seen), xs.map (·.1) = l
  | [], _ => ⟨[], rfl⟩
  | a :: r, h => by
    obtain ⟨xs, hx⟩ := se_of r (fun k hk => h k (by simp [hk]))
    exact ⟨⟨a, h a (by simp)⟩ :: xs, by simp [hx]⟩
theorem se_cons {seen : List Int} {rest : List (SE seen)} {a : Int × Int} {l : List (Int × Int)} (h : rest.map (·.1) = a :: l) : ∃ x r, rest = x :: r ∧ x.1 = a ∧ r.map (·.1) = l := by
  cases rest with
  | nil => simp at h
  | cons x r => exact ⟨x, r, rfl, by simpa using (List.cons.inj (by simpa using h)).1, by simpa using (List.cons.inj (by simpa using h)).2⟩
theorem rvK_in {seen word : List Int} (h : ∀ e ∈ word, e ∈ seen) : ∀ k, k ≤ word.length → ∀ x ∈ rvK word k, x.2 ∈ seen
  | 0, _ => by simp [rvK]
  | k + 1, hk => fun x hx => by
    rcases List.mem_cons.1 (show x ∈ ((k : Int), word[k]?.getD 0) :: rvK word k from hx) with rfl | hx
    · show word[k]?.getD 0 ∈ seen
      rw [List.getElem?_eq_getElem (by omega), Option.getD_some]
      exact h _ (List.getElem_mem _)
    · exact rvK_in h k (by omega) x hx
/-- The numbers that come, put the other way round, are the list's first ones. -/
theorem rvK_take (word : List Int) : ∀ k, k ≤ word.length → ((rvK word k).map (·.2)).reverse = word.take k
  | 0, _ => rfl
  | k + 1, hk => by
    rw [rvK, List.map_cons, List.reverse_cons, rvK_take word k (by omega), List.take_add_one, List.getElem?_eq_getElem (by omega)]
    rfl
/-- What a round must keep: what lies below n₀, and block Bn. -/
def KpB (n₀ Bn : Nat) (W W' : World) : Prop := Below n₀ W W' ∧ W'.heap[Bn]? = W.heap[Bn]?
theorem KpB.trans {n₀ Bn : Nat} {A B C : World} (h : KpB n₀ Bn A B) (k : KpB n₀ Bn B C) : KpB n₀ Bn A C := ⟨h.1.trans k.1, k.2.trans h.2⟩
theorem KpB.put {n₀ Bn : Nat} {w : World} (hn : n₀ ≤ w.heap.size) (hb : Bn < w.heap.size) (W : World) (l : Nat) (o o' : Obj) (hl : w.heap.size ≤ l) (h : W.heap[l]? = some o) (h1 : o.isCells = false) (h2 : o.isWalk = false) : KpB n₀ Bn W (W.putObj l o') :=
  ⟨belowK_b hn W l o o' hl h h1 h2, World.putObj_heap_other (by omega)⟩

set_option maxRecDepth 100000 in
set_option maxHeartbeats 4000000 in
theorem bkw1_in {seen : List Int} (n : Nat) (hn : 2 ≤ n) (l Bn n₀ : Nat) (a : Option Addr) (cap : Nat) (word : List Int) (hlen : word.length ≤ 9223372036854775807) (xs : List (SE seen)) (hxs : xs.map (·.1) = rvK word word.length) (J Jx : List (SE seen) → World → Prop)
    (hY : ∀ pre x W, J pre W → pre.length < xs.length → YieldAt Fence.wide (n - 1) Tryd.prog l (seval x) W fun e W' =>
      (e = .returned (.bool true) ∧ J (pre ++ [x]) W' ∧ KpB n₀ Bn W W') ∨ (e = .returned (.bool false) ∧ Jx (pre ++ [x]) W'))
    (W : World) (hBn : Boxed W Bn 22 (.slice a word.length cap)) (hA : word = [] ∨ ∃ b off, a = some ⟨b, off, none⟩ ∧ b < n₀ ∧ Cells W b off word) (h0 : J [] W) :
    CallsIn Fence.wide n Tryd.prog 136 #[.func (.yield l) #[] #[], .pointer (some ⟨Bn, 0, none⟩)] W fun e W' => (∃ v, e = .returned v) ∧
      ((∃ ys, ys = xs ∧ J ys W') ∨ (∃ pre, pre <+: xs ∧ Jx pre W')) := by
  have p0 := hBn.cell
  refine callsIn_of_wp Tryd.func136 rfl trivial ?_ rfl
  simp only [Tryd.ntmps136, List.size_toArray, List.length_cons, List.length_nil, Nat.reduceAdd, Nat.reduceSub, Array.replicate_succ, Array.replicate_zero, List.push_toArray, List.append_toArray, List.nil_append, List.cons_append]
  gi_wp2
  gi_loopw [3] (fun i wr => ∃ (k : Nat) (pre rest : List (SE seen)), i = .int .i64 ((k : Int) - 1) ∧ k ≤ word.length ∧ Hid (xs = pre ++ rest) ∧ Hid (rest.map (·.1) = rvK word k) ∧ J pre wr ∧ Hid (KpB n₀ Bn W wr)) (fun i _ => (intOf i + 1).toNat)
  case atStart => exact ⟨word.length, [], xs, by go_num, Nat.le_refl _, rfl, hxs, h0, ⟨Below.refl _ _, rfl⟩⟩
  case round =>
    obtain ⟨k, pre, rest, rfl, hk, hx, hr, hJ, hB⟩ := hrel
    cases k with
    | zero =>
      have e0 : ((0 : Nat) : Int) - 1 = -1 := rfl
      simp only [e0]
      gi_wp2
      go_end0
      have hnil' : rest = [] := List.map_eq_nil_iff.1 hr.out
      exact ⟨⟨_, rfl⟩, .inl ⟨pre, by rw [hx.out, hnil']; simp, hJ⟩⟩
    | succ m =>
      have e0 : ((m + 1 : Nat) : Int) - 1 = (m : Int) := by omega
      simp only [e0]
      have hmw : m < word.length := by omega
      obtain ⟨x, r, e1, e2, e3⟩ := se_cons (show rest.map (·.1) = ((m : Int), word[m]?.getD 0) :: rvK word m from hr.out)
      have HR := Hid.of e3
      have HX : Hid (xs = (pre ++ [x]) ++ r) := by show _ = _; rw [hx.out, e1]; simp
      obtain ⟨b, off, rfl, hb, hc⟩ : ∃ b off, a = some ⟨b, off, none⟩ ∧ b < n₀ ∧ Cells W b off word := by
        rcases hA with h | h
        · rw [h] at hmw; simp at hmw
        · exact h
      obtain ⟨v, HV, c1⟩ := hc.at hmw
      have c2 := (hB.out.1.cell (p := ⟨b, off + m, none⟩) hb).trans c1
      have c3 : wr.cell? ⟨Bn, 0, none⟩ = some (.slice (some ⟨b, off, none⟩) word.length cap) := Boxed.cell (hB.out.2.trans hBn)
      obtain ⟨fn, tmps, assign, body, hy, hR⟩ := hY pre x wr hJ (by rw [hx.out, e1]; simp)
      simp only [seval, e2, ← HV.out] at hy
      have hm0 : (0 : Int) ≤ (m : Int) := by omega
      have hmI : (m : Int) < (word.length : Int) := by omega
      clear hr hx e1 e2 e3 e0 hc c1 HV hxs
      gi_wp2
      refine ⟨fun _ => by omega, hR.mono ?_⟩
      rintro e W3 (⟨rfl, hJ3, hk3⟩ | ⟨rfl, hJx3⟩)
      · gi_wp2
        go_roundw
        case rel => exact ⟨m, pre ++ [x], r, by go_num, by omega, HX, HR, hJ3, hB.out.trans hk3⟩
        case measure => simp [intOf]
      · gi_wp2
        refine bodyPost_ret (results_none rfl _ _ _) rfl ?_
        exact ⟨⟨_, rfl⟩, .inr ⟨pre ++ [x], ⟨r, HX.out.symm⟩, hJx3⟩⟩

theorem bkw_stops {seen : List Int} (n : Nat) (hn : 2 ≤ n) (Bn n₀ : Nat) (a : Option Addr) (cap : Nat) (word : List Int) (hlen : word.length ≤ 9223372036854775807) (xs : List (SE seen)) (hxs : xs.map (·.1) = rvK word word.length) (w : World) (hBn : Boxed w Bn 22 (.slice a word.length cap)) (hn₀ : n₀ ≤ w.heap.size) (hA : word = [] ∨ ∃ b off, a = some ⟨b, off, none⟩ ∧ b < n₀ ∧ Cells w b off word) :
    SeqStopsK Fence.wide n Tryd.prog 136 #[.pointer (some ⟨Bn, 0, none⟩)] (fun x : SE seen => seval x) (KpB n₀ Bn) (fun ys => ys = xs) (fun pre => pre <+: xs) xs.length w := fun l J Jx W hW _ _ hY h0 =>
  bkw1_in n hn l Bn n₀ a cap word hlen xs hxs J Jx hY W ((hW.block Bn hBn.lt).trans hBn) (by
    rcases hA with h | ⟨b, off, h1, h2, h3⟩
    · exact .inl h
    · exact .inr ⟨b, off, h1, h2, fun j hj => (hW.cell (p := ⟨b, off + j, none⟩) (show b < w.heap.size by omega)).trans (h3 j hj)⟩) h0

end Go.Proofs.YtmlkpdeidpcidaaDoor
namespace Go.Proofs.YtmlkpdeidpcidaaDoor
open Go.RowKit
set_option linter.unusedVariables false

/-- A list of places in memory. -/
def RdC (W : World) (a : Option Addr) (L : List PlC) : Prop := L = [] ∨ ∃ g o, a = some ⟨g, o, none⟩ ∧ g < W.heap.size ∧ ∀ (k : Nat) (q : PlC), L[k]? = some q → ∀ (j : Nat) (u : Value), (pccells q)[j]? = some u → W.cell? ⟨g, o + k * 5 + j, none⟩ = some u
theorem RdC.below {W W' : World} {a : Option Addr} {L : List PlC} (h : RdC W a L) (hb : Below W.heap.size W W') : RdC W' a L := by
  rcases h with h | ⟨g, o, e, hg, hc⟩
  · exact .inl h
  · exact .inr ⟨g, o, e, Nat.lt_of_lt_of_le hg hb.size, fun k q hq j u hu => (hb.cell (p := ⟨g, o + k * 5 + j, none⟩) hg).trans (hc k q hq j u hu)⟩
theorem RdC.take {W : World} {a : Option Addr} {L : List PlC} (h : RdC W a L) (n : Nat) : RdC W a (L.take n) := by
  rcases h with h | ⟨g, o, e, hg, hc⟩
  · exact .inl (by rw [h]; simp)
  · refine .inr ⟨g, o, e, hg, fun k q hq => hc k q ?_⟩
    have hk := (List.getElem?_eq_some_iff.1 hq).1
    rw [List.length_take] at hk
    rwa [List.getElem?_take_of_lt (by omega)] at hq
theorem OwnC.rd {W : World} {B : Nat} {v : Value} {L : List PlC} (h : OwnC W B v L) : ∃ a c, v = .slice a L.length c ∧ RdC W a L ∧ L.length ≤ maxLen ∧ (L.length ≤ c) := by
  rcases h.2 with ⟨rfl, hn⟩ | ⟨g, cap, cur, rfl, hg, hh, hnc, hcm, hcs, ht⟩
  · have : L = [] := List.eq_nil_of_length_eq_zero hn
    subst this
    exact ⟨none, 0, rfl, .inl rfl, Nat.zero_le _, Nat.le_refl _⟩
  · refine ⟨_, cap, rfl, .inr ⟨g, 0, rfl, (Array.getElem?_eq_some_iff.1 hh).1, fun k q hq j u hu => ?_⟩, Nat.le_trans hnc hcm, hnc⟩
    obtain ⟨g', cap', e, -, -, hc⟩ := h.cell hq
    cases e
    rw [Nat.zero_add]
    exact hc j u hu
/-- None of the first k is meant. -/
def noneP (f : PlC → Bool) (L : List PlC) (k : Nat) : Prop := ∀ (i : Nat) (z : PlC), i < k → L[i]? = some z → f z = false
theorem noneP_zero (f : PlC → Bool) (L : List PlC) : noneP f L 0 := fun i z h => absurd h (Nat.not_lt_zero _)
theorem noneP_succ {f : PlC → Bool} {L : List PlC} {k : Nat} {q : PlC} (h : noneP f L k) (hq : L[k]? = some q) (hf : f q = false) : noneP f L (k + 1) := fun i z hi hz => by
  by_cases e : i = k
  · subst e
    rw [hq] at hz
    have := Option.some.inj hz
    subst this; exact hf
  · exact h i z (by omega) hz
theorem noneP_all {f : PlC → Bool} {L : List PlC} {k : Nat} (h : noneP f L k) (hk : L.length ≤ k) : ∀ q ∈ L, f q = false := fun q hq => by
  obtain ⟨i, hi⟩ := List.mem_iff_getElem?.1 hq
  exact h i q (by have := (List.getElem?_eq_some_iff.1 hi).1; omega) hi
/-- What IndexFunc answers. -/
def IdxR (f : PlC → Bool) (L : List PlC) (r : Int) : Prop := (r = -1 ∧ ∀ q ∈ L, f q = false) ∨ ∃ (j : Nat) (q : PlC), r = (j : Int) ∧ L[j]? = some q ∧ f q = true ∧ noneP f L j
theorem rdc_cells {W : World} {g o : Nat} {q : PlC} {k : Nat} (h : ∀ (j : Nat) (u : Value), (pccells q)[j]? = some u → W.cell? ⟨g, o + k * 5 + j, none⟩ = some u) : W.cell? ⟨g, o + k * 5, none⟩ = some (.int .u64 (q.s 0)) ∧ W.cell? ⟨g, o + k * 5 + 1, none⟩ = some (.int .u64 (q.s 1)) ∧ W.cell? ⟨g, o + k * 5 + 2, none⟩ = some (.int .u64 (q.s 2)) ∧ W.cell? ⟨g, o + k * 5 + 3, none⟩ = some (.int .u64 (q.s 3)) ∧ W.cell? ⟨g, o + k * 5 + 4, none⟩ = some q.v :=
  ⟨h 0 _ rfl, h 1 _ rfl, h 2 _ rfl, h 3 _ rfl, h 4 _ rfl⟩

end Go.Proofs.YtmlkpdeidpcidaaDoor
namespace Go.Proofs.YtmlkpdeidpcidaaDoor
open Go.RowKit Go.Shelf
set_option linter.unusedVariables false
attribute [local go_sem] Oper.semAt_some

/-- A place with its number, as it lies in memory. -/
structure EP (L : List PlC) where
  k : Nat
  s : Nat → Nat
  za : Option Addr
  zc : Nat
  wd : List Int
  at_ : L[k]? = some ⟨s, .slice za wd.length zc, wd⟩
abbrev EP.pl {L : List PlC} (x : EP L) : PlC := ⟨x.s, .slice x.za x.wd.length x.zc, x.wd⟩
abbrev epval {L : List PlC} (x : EP L) : Array Value := #[.int .i64 x.k, pcval x.pl]
/-- The numbers that come of the first k. -/
def dwN : Nat → List Nat
  | 0 => []
  | k + 1 => k :: dwN k
theorem dwN_len : ∀ k, (dwN k).length = k
  | 0 => rfl
  | k + 1 => by simp [dwN, dwN_len k]
theorem dwN_at : ∀ (k i : Nat), i < k → (dwN k)[i]? = some (k - 1 - i)
  | 0, i, h => absurd h (Nat.not_lt_zero _)
  | k + 1, 0, _ => by simp [dwN]
  | k + 1, i + 1, h => by
    rw [dwN, List.getElem?_cons_succ, dwN_at k i (by omega)]
    congr 1; omega
theorem ep_of {L : List PlC} (hf : ∀ q ∈ L, ∃ a c, q.v = .slice a q.word.length c) : ∀ k, k ≤ L.length → ∃ xs : List (EP L), xs.map (·.k) = dwN k
  | 0, _ => ⟨[], rfl⟩
  | k + 1, hk => by
    obtain ⟨xs, hx⟩ := ep_of hf k (by omega)
    have hq := List.getElem?_eq_getElem (l := L) (i := k) (by omega)
    obtain ⟨a, c, hv⟩ := hf _ (List.mem_of_getElem? hq)
    refine ⟨⟨k, L[k].s, a, c, L[k].word, ?_⟩ :: xs, by rw [List.map_cons, hx]; rfl⟩
    rw [hq, ← hv]
theorem ep_cons {L : List PlC} {rest : List (EP L)} {a : Nat} {l : List Nat} (h : rest.map (·.k) = a :: l) : ∃ x r, rest = x :: r ∧ x.k = a ∧ r.map (·.k) = l := by
  cases rest with
  | nil => simp at h
  | cons x r => exact ⟨x, r, rfl, by simpa using (List.cons.inj (by simpa using h)).1, by simpa using (List.cons.inj (by simpa using h)).2⟩

set_option maxRecDepth 100000 in
set_option maxHeartbeats 4000000 in
theorem bkp1_in {L : List PlC} (n : Nat) (hn : 2 ≤ n) (l Bn n₀ : Nat) (a : Option Addr) (cap : Nat) (hlen : L.length ≤ 64) (xs : List (EP L)) (hxs : xs.map (·.k) = dwN L.length) (J Jx : List (EP L) → World → Prop)
    (hY : ∀ pre x W, J pre W → pre.length < xs.length → YieldAt Fence.wide (n - 1) Tryd.prog l (epval x) W fun e W' =>
      (e = .returned (.bool true) ∧ J (pre ++ [x]) W' ∧ KpB n₀ Bn W W') ∨ (e = .returned (.bool false) ∧ Jx (pre ++ [x]) W'))
    (W : World) (hBn : Boxed W Bn 111 (.slice a L.length cap)) (hA : L = [] ∨ ∃ g o, a = some ⟨g, o, none⟩ ∧ g < n₀ ∧ ∀ (k : Nat) (q : PlC), L[k]? = some q → ∀ (j : Nat) (u : Value), (pccells q)[j]? = some u → W.cell? ⟨g, o + k * 5 + j, none⟩ = some u) (h0 : J [] W) :
    CallsIn Fence.wide n Tryd.prog 180 #[.func (.yield l) #[] #[], .pointer (some ⟨Bn, 0, none⟩)] W fun e W' => (∃ v, e = .returned v) ∧
      ((∃ ys, ys = xs ∧ J ys W') ∨ (∃ pre, pre <+: xs ∧ Jx pre W')) := by
  have p0 := hBn.cell
  refine callsIn_of_wp Tryd.func180 rfl trivial ?_ rfl
  simp only [Tryd.ntmps180, List.size_toArray, List.length_cons, List.length_nil, Nat.reduceAdd, Nat.reduceSub, Array.replicate_succ, Array.replicate_zero, List.push_toArray, List.append_toArray, List.nil_append, List.cons_append]
  gi_wp2
  gi_loopw [3] (fun i wr => ∃ (k : Nat) (pre rest : List (EP L)), i = .int .i64 ((k : Int) - 1) ∧ k ≤ L.length ∧ Hid (xs = pre ++ rest) ∧ Hid (rest.map (·.k) = dwN k) ∧ J pre wr ∧ Hid (KpB n₀ Bn W wr)) (fun i _ => (intOf i + 1).toNat)
  case atStart => exact ⟨L.length, [], xs, by go_num, Nat.le_refl _, rfl, hxs, h0, ⟨Below.refl _ _, rfl⟩⟩
  case round =>
    obtain ⟨k, pre, rest, rfl, hk, hx, hr, hJ, hB⟩ := hrel
    cases k with
    | zero =>
      have e0 : ((0 : Nat) : Int) - 1 = -1 := rfl
      simp only [e0]
      gi_wp2
      go_end0
      have hnil' : rest = [] := List.map_eq_nil_iff.1 hr.out
      exact ⟨⟨_, rfl⟩, .inl ⟨pre, by rw [hx.out, hnil']; simp, hJ⟩⟩
    | succ m =>
      have e0 : ((m + 1 : Nat) : Int) - 1 = (m : Int) := by omega
      simp only [e0]
      have hmw : m < L.length := by omega
      obtain ⟨x, r, e1, e2, e3⟩ := ep_cons (show rest.map (·.k) = m :: dwN m from hr.out)
      have HR := Hid.of e3
      have HX : Hid (xs = (pre ++ [x]) ++ r) := by show _ = _; rw [hx.out, e1]; simp
      obtain ⟨g, o, rfl, hg, hc⟩ : ∃ g o, a = some ⟨g, o, none⟩ ∧ g < n₀ ∧ ∀ (k : Nat) (q : PlC), L[k]? = some q → ∀ (j : Nat) (u : Value), (pccells q)[j]? = some u → W.cell? ⟨g, o + k * 5 + j, none⟩ = some u := by
        rcases hA with h | h
        · rw [h] at hmw; simp at hmw
        · exact h
      obtain ⟨fn, tmps, assign, body, hy, hR⟩ := hY pre x wr hJ (by rw [hx.out, e1]; simp)
      obtain ⟨xk, xs', xa, xc, xw, xat⟩ := x
      dsimp only at e2
      subst e2
      obtain ⟨d0, d1, d2, d3, d4⟩ := rdc_cells (hc xk _ xat)
      have c0 := (hB.out.1.cell (p := ⟨g, o + xk * 5, none⟩) hg).trans d0
      have c1 := (hB.out.1.cell (p := ⟨g, o + xk * 5 + 1, none⟩) hg).trans d1
      have c2 := (hB.out.1.cell (p := ⟨g, o + xk * 5 + 2, none⟩) hg).trans d2
      have c3 := (hB.out.1.cell (p := ⟨g, o + xk * 5 + 3, none⟩) hg).trans d3
      have c4 := (hB.out.1.cell (p := ⟨g, o + xk * 5 + 4, none⟩) hg).trans d4
      dsimp only at c0 c1 c2 c3 c4
      have cB : wr.cell? ⟨Bn, 0, none⟩ = some (.slice (some ⟨g, o, none⟩) L.length cap) := Boxed.cell (hB.out.2.trans hBn)
      simp only [epval, pcval, pcarr] at hy
      have hm0 : (0 : Int) ≤ (xk : Int) := by omega
      have hmI : (xk : Int) < (L.length : Int) := by omega
      clear hr hx e1 e3 e0 hc d0 d1 d2 d3 d4 hxs
      gi_wp2
      refine ⟨fun _ => by omega, hR.mono ?_⟩
      rintro e W3 (⟨rfl, hJ3, hk3⟩ | ⟨rfl, hJx3⟩)
      · gi_wp2
        go_roundw
        case rel => exact ⟨xk, _, r, by go_num, by omega, HX, HR, hJ3, hB.out.trans hk3⟩
        case measure => simp [intOf]
      · gi_wp2
        refine bodyPost_ret (results_none rfl _ _ _) rfl ?_
        exact ⟨⟨_, rfl⟩, .inr ⟨_, ⟨r, HX.out.symm⟩, hJx3⟩⟩

theorem bkp_stops {L : List PlC} (n : Nat) (hn : 2 ≤ n) (Bn n₀ : Nat) (a : Option Addr) (cap : Nat) (hlen : L.length ≤ 64) (xs : List (EP L)) (hxs : xs.map (·.k) = dwN L.length) (w : World) (hBn : Boxed w Bn 111 (.slice a L.length cap)) (hn₀ : n₀ ≤ w.heap.size) (hA : L = [] ∨ ∃ g o, a = some ⟨g, o, none⟩ ∧ g < n₀ ∧ ∀ (k : Nat) (q : PlC), L[k]? = some q → ∀ (j : Nat) (u : Value), (pccells q)[j]? = some u → w.cell? ⟨g, o + k * 5 + j, none⟩ = some u) :
    SeqStopsK Fence.wide n Tryd.prog 180 #[.pointer (some ⟨Bn, 0, none⟩)] (fun x : EP L => epval x) (KpB n₀ Bn) (fun ys => ys = xs) (fun pre => pre <+: xs) xs.length w := fun l J Jx W hW _ _ hY h0 =>
  bkp1_in n hn l Bn n₀ a cap hlen xs hxs J Jx hY W ((hW.block Bn hBn.lt).trans hBn) (by
    rcases hA with h | ⟨g, o, h1, h2, h3⟩
    · exact .inl h
    · exact .inr ⟨g, o, h1, h2, fun k q hq j u hu => (hW.cell (p := ⟨g, o + k * 5 + j, none⟩) (show g < w.heap.size by omega)).trans (h3 k q hq j u hu)⟩) h0

set_option maxRecDepth 100000 in
set_option maxHeartbeats 400000 in
theorem backwardP_any (a : Option Addr) (n c : Nat) (w : World) :
    Calls Tryd.prog 137 #[.slice a n c] w fun e w' => e = .returned (.func (.func 180) #[] #[.pointer (some ⟨w.heap.size, 0, none⟩)]) ∧ w' = w.alloc (.cells #[.slice a n c] 111) := by
  have hmf : ∀ (fn : Fn) (first cap : Array Value) (w : World), (Instr.makeFunc fn first cap).run Tryd.prog w = .ok (.func fn first cap) w := fun _ _ _ _ => rfl
  go_enter Tryd.func137, Tryd.ntmps137
  go_wp2_with fail
  go_ret
  exact ⟨rfl, rfl⟩

end Go.Proofs.YtmlkpdeidpcidaaDoor
namespace Go.Proofs.YtmlkpdeidpcidaaDoor
open Go.RowKit
set_option linter.unusedVariables false

/-! A set that has states, all of them another one's. -/
def onlyS (S T : Nat → Nat) : Bool := !emptyB S && emptyB (lessS S T)
theorem only_set {M R : Nat → Nat} {row k : List Int} (hm : Rep M row) (hR : Rep R k) : onlyS M R = leakB k row := by
  unfold onlyS leakB
  cases he : emptyB M with
  | true =>
    have : row = [] := by
      rw [List.eq_nil_iff_forall_not_mem]
      intro x hx
      obtain ⟨b0, b1⟩ := hm.bd x hx
      have h1 := empty_has he x.toNat (by omega)
      rw [(hm.mem x.toNat (by omega)).2 (by rwa [Int.toNat_of_nonneg b0])] at h1
      cases h1
    subst this; rfl
  | false =>
    obtain ⟨n, hn, h1⟩ := empty_not hm.ok he
    have hpos : 0 < row.length := List.length_pos_of_mem ((hm.mem n hn).1 h1)
    rw [decide_eq_true hpos]
    simp only [Bool.not_false, Bool.true_and]
    cases hl : emptyB (lessS M R) with
    | true =>
      symm
      rw [decide_eq_true_eq, List.length_eq_zero_iff, List.filter_eq_nil_iff]
      intro x hx
      obtain ⟨b0, b1⟩ := hm.bd x hx
      have h2 := empty_has hl x.toNat (by omega)
      rw [hasS_less hR.ok, (hm.mem x.toNat (by omega)).2 (by rwa [Int.toNat_of_nonneg b0])] at h2
      have h3 : hasS R x.toNat = true := by simpa using h2
      have := (hR.mem x.toNat (by omega)).1 h3
      rw [Int.toNat_of_nonneg b0] at this
      unfold hasB; simpa using this
    | false =>
      obtain ⟨m, hm1, h2⟩ := empty_not (okS_less hm.ok) hl
      rw [hasS_less hR.ok] at h2
      simp only [Bool.and_eq_true, Bool.not_eq_true'] at h2
      have m1 := (hm.mem m hm1).1 h2.1
      have m2 : ¬ (m : Int) ∈ k := fun hk => by
        have := (hR.mem m hm1).2 hk
        rw [h2.2] at this; cases this
      symm
      rw [decide_eq_false_iff_not]
      have : 0 < (row.filter fun n => hasB k n == false).length := List.length_pos_of_mem (List.mem_filter.2 ⟨m1, by unfold hasB; simpa using m2⟩)
      omega

end Go.Proofs.YtmlkpdeidpcidaaDoor
namespace Go.Proofs.YtmlkpdeidpcidaaDoor
open Go.RowKit
set_option linter.unusedVariables false

set_option maxRecDepth 100000 in
set_option maxHeartbeats 4000000 in
theorem onlyIn_any (S T : Nat → Nat) (oS : okS S) (oT : okS T) (w : World) :
    Calls Tryd.prog 79 #[sval S, sval T] w fun e w' => e = .returned (.bool (onlyS S T)) ∧ Below w.heap.size w w' := by
  have B : Hid (Below w.heap.size w ((w.alloc (.cells (scells S) 85)).alloc (.cells (scells T) 85))) := ((Below.refl _ _).alloc (Nat.le_refl _) _).alloc (by simp) _
  have KS : Hid (SB ((w.alloc (.cells (scells S) 85)).alloc (.cells (scells T) 85)) w.heap.size S) := (Blk.new w _ _).alloc _
  have KT : Hid (SB ((w.alloc (.cells (scells S) 85)).alloc (.cells (scells T) 85)) (w.heap.size + 1) T) := by
    have := Blk.new (w.alloc (.cells (scells S) 85)) 85 (scells T)
    rwa [World.size_alloc] at this
  obtain ⟨x0, x1, x2, x3⟩ := SB.cells KS.out
  obtain ⟨y0, y1, y2, y3⟩ := SB.cells KT.out
  go_enter Tryd.func79, Tryd.ntmps79
  have heq : ∀ V, (Op.equalIn 10000 85 (.agg #[.int .u64 (S 0), .int .u64 (S 1), .int .u64 (S 2), .int .u64 (S 3)]) (.agg #[.int .u64 0, .int .u64 0, .int .u64 0, .int .u64 0])).run Tryd.prog V = .ok (emptyB S) V := fun V => run_equalIn_set S V
  have hgd := run_guard_set
  cases hm : emptyB S with
  | true =>
    have HO : Hid (false = onlyS S T) := by show _ = _; unfold onlyS; rw [hm]; rfl
    rw [hm] at heq
    clear hm
    go_wp2_with fail
    exact bodyPost_ret (v := .bool false) (by simp [results, go_sem]) rfl ⟨ret_bool HO.out, B.out⟩
  | false =>
    have HO : Hid (emptyB (lessS S T) = onlyS S T) := by show _ = _; unfold onlyS; rw [hm]; rfl
    rw [hm] at heq
    clear hm
    go_wp2_with fail
    refine (less_any S T _ oS oT).mono ?_
    rintro e V2 ⟨rfl, hb⟩
    have B2 := Hid.of (B.out.trans (hb.mono B.out.size))
    clear hb B x0 x1 x2 x3 y0 y1 y2 y3 KS KT heq
    obtain ⟨Z, HZ⟩ : ∃ Z, Hid (Z = lessS S T) := ⟨_, rfl⟩
    rw [← HZ.out] at HO
    rw [← HZ.out]
    have heq : (Op.equalIn 10000 85 (.agg #[.int .u64 (Z 0), .int .u64 (Z 1), .int .u64 (Z 2), .int .u64 (Z 3)]) (.agg #[.int .u64 0, .int .u64 0, .int .u64 0, .int .u64 0])).run Tryd.prog V2 = .ok (emptyB Z) V2 := run_equalIn_set Z V2
    go_wp2_with fail
    exact bodyPost_ret (v := .bool (emptyB Z)) (by simp [results, go_sem]) rfl ⟨ret_bool HO.out, B2.out⟩

end Go.Proofs.YtmlkpdeidpcidaaDoor
namespace Go.Proofs.YtmlkpdeidpcidaaDoor
open Go.ChangeShapes Go.WideShapes Go.ChangeAt Go.RowKit Go.Deep
set_option linter.unusedVariables false
set_option maxRecDepth 100000

/-- Where a plant's slices lie. -/
structure PTL where
  l : ML
  sa : Option Addr
  sc : Nat
  ta : Option Addr
  tc : Nat
abbrev ptcells (p : Plant) (L : PTL) : Array Value := #[.int .i64 p.m.st, .int .i64 p.m.ev, .slice L.l.a1 p.m.starts.length L.l.c1, .slice L.l.a2 p.m.arrows.length L.l.c2, .slice L.l.a3 p.m.ends.length L.l.c3, .slice L.sa p.seen.length L.sc, .slice L.ta p.secret.length L.tc]
abbrev ptval (p : Plant) (L : PTL) : Value := .agg (ptcells p L)
structure PAt (w : World) (p : Plant) (L : PTL) : Prop where
  m : MAt w p.m L.l
  s : Sl w L.sa L.sc p.seen
  t : Sl w L.ta L.tc p.secret
theorem PAt.below {w w' : World} {p : Plant} {L : PTL} {B : Nat} (h : PAt w p L) (hb : Below B w w') (hB : w.heap.size ≤ B) : PAt w' p L := ⟨h.m.below hb hB, h.s.below hb hB, h.t.below hb hB⟩
theorem ptcell_at {W : World} {b : Nat} {p : Plant} {L : PTL} (h : Blk W b 44 (ptcells p L)) : W.cell? ⟨b, 0, none⟩ = some (.int .i64 p.m.st) ∧ W.cell? ⟨b, 1, none⟩ = some (.int .i64 p.m.ev) ∧ W.cell? ⟨b, 2, none⟩ = some (.slice L.l.a1 p.m.starts.length L.l.c1) ∧ W.cell? ⟨b, 3, none⟩ = some (.slice L.l.a2 p.m.arrows.length L.l.c2) ∧ W.cell? ⟨b, 4, none⟩ = some (.slice L.l.a3 p.m.ends.length L.l.c3) ∧ W.cell? ⟨b, 5, none⟩ = some (.slice L.sa p.seen.length L.sc) ∧ W.cell? ⟨b, 6, none⟩ = some (.slice L.ta p.secret.length L.tc) :=
  ⟨h.cell 0 rfl, h.cell 1 rfl, h.cell 2 rfl, h.cell 3 rfl, h.cell 4 rfl, h.cell 5 rfl, h.cell 6 rfl⟩

section
variable {H : Type} {enc : TypeId × Value → H} {W : World}
theorem array7 {α : Type} {cs : Array α} (h : cs.size = 7) : ∃ c0 c1 c2 c3 c4 c5 c6, cs = #[c0, c1, c2, c3, c4, c5, c6] := by
  obtain ⟨l⟩ := cs
  match l, h with
  | [c0, c1, c2, c3, c4, c5, c6], _ => exact ⟨c0, c1, c2, c3, c4, c5, c6, rfl⟩
theorem plant_of_cells {fuel : Nat} {c0 c1 c2 c3 c4 c5 c6 : Value} {x : DataW H × List MemPlace} (h : DataW.trod enc Tryd.prog W 0 (fun _ => true) true fuel 44 [c0, c1, c2, c3, c4, c5, c6] = some x) : ∃ p L, Value.agg #[c0, c1, c2, c3, c4, c5, c6] = ptval p L ∧ PAt W p L := by
  obtain ⟨xs, n, _, _, _, hlen, hf⟩ := DataW.trod_struct Tryd.underlying44 h
  have hlen3 : xs.length = 3 := hlen
  match xs, hlen3 with
  | [y0, y1, y2], _ =>
    have i1 : Tryd.prog.cellsOf 25 = 5 := by kernel_rfl
    have i2 : Tryd.prog.cellsOf 22 = 1 := by kernel_rfl
    have h0 := hf 0 { name := "Machine", type := 25, offset := 0, embedded := false, tag := "", pkgPath := "", byteOffset := 0 } rfl
    have h1 := hf 1 { name := "Seen", type := 22, offset := 5, embedded := false, tag := "", pkgPath := "", byteOffset := 88 } rfl
    have h2 := hf 2 { name := "Secret", type := 22, offset := 6, embedded := false, tag := "", pkgPath := "", byteOffset := 112 } rfl
    dsimp only at h0 h1 h2
    simp only [i1, i2, List.drop_succ_cons, List.drop_zero, List.take_succ_cons, List.take_zero, List.getElem?_cons_zero, List.getElem?_cons_succ] at h0 h1 h2
    obtain ⟨m, l, e0, hm⟩ := mach_of_cells h0
    obtain ⟨a1, k1, seen, e1, s1, s2, s3, s4, s5⟩ := ints_of_trod h1
    obtain ⟨a2, k2, secret, e2, r1, r2, r3, r4, r5⟩ := ints_of_trod h2
    simp only [List.cons.injEq, and_true] at e1 e2
    subst e1 e2
    have e0' : #[c0, c1, c2, c3, c4] = mcells m l := by injection e0
    have e3 : [c0, c1, c2, c3, c4] = (mcells m l).toList := by rw [← e0']
    simp only [List.cons.injEq, and_true] at e3
    obtain ⟨q0, q1, q2, q3, q4⟩ := e3
    exact ⟨⟨m, seen, secret⟩, ⟨l, a1, k1, a2, k2⟩, by rw [q0, q1, q2, q3, q4], hm, ⟨s3, s1, s2, s4⟩, ⟨r3, r1, r2, r4⟩⟩
/-- A PLANT THAT CAME IN. -/
theorem open_plant {base : Nat} {v : Value} {d : DataW H} {p : List MemPlace} (hv : Value.okWide Tryd.prog W .any base 44 v) (h : DataW.Trod enc Tryd.prog W 0 (fun _ => true) true 44 v d p) : ∃ q L, v = ptval q L ∧ PAt W q L := by
  obtain ⟨cs, rfl, hsz⟩ := okWide_struct Tryd.underlying44 hv
  obtain ⟨c0, c1, c2, c3, c4, c5, c6, rfl⟩ := array7 (hsz.trans (by kernel_rfl))
  obtain ⟨fuel, hf⟩ := h
  exact plant_of_cells (by simpa [Value.cells] using hf)
end

end Go.Proofs.YtmlkpdeidpcidaaDoor
