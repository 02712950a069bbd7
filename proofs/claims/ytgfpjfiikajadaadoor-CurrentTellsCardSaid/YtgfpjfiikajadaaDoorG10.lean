/-
  Plain: the estimates of a plant, by the machine of what is seen of it and its sets; the search for the least list that leaks. No program, no model.
  A map keyed by sets of states, and rows of places of package current, as the model runs them.
-/
import Derived.Test.YtgfpjfiikajadaaDoorG07
import Derived.Test.YtgfpjfiikajadaaDoorG09
namespace Go.Proofs.YtgfpjfiikajadaaDoor
open Go.RowKit
set_option linter.unusedVariables false

/-- A list of states that what is not seen does not leave. -/
def ClU (p : Plant) (s : List Int) : Prop := (∀ x ∈ s, 0 ≤ x ∧ x < p.m.st) ∧ ∀ a ∈ p.m.arrows, hasB p.seen a.e = false → a.f ∈ s → a.t ∈ s
theorem clU_wide {p : Plant} (hm : mayB p.m = true) {ss : List Int} (hs : ∀ x ∈ ss, 0 ≤ x ∧ x < p.m.st) : ClU p (wideL p.m.arrows p.seen ss) := ⟨wide_bd hm hs, fun a ha hu h => wide_cl (may_to hm) ha hu h⟩
theorem clU_see {p : Plant} (hm : mayB p.m = true) (s : List Int) (e : Int) : ClU p (seeL p s e) := clU_wide hm (step_bd hm)
theorem clU_fold {p : Plant} (hm : mayB p.m = true) : ∀ (word s : List Int), ClU p s → ClU p (word.foldl (seeL p) s)
  | [], s, h => h
  | e :: r, s, _ => clU_fold hm r (seeL p s e) (clU_see hm s e)
theorem clU_start {p : Plant} (hm : mayB p.m = true) : ClU p (wideL p.m.arrows p.seen p.m.starts) := clU_wide hm (may_starts hm).2
/-- In the machine of what is seen an estimate leads to the next one. -/
theorem hide_see {p : Plant} (hm : mayB p.m = true) {s : List Int} (hs : ClU p s) {k : Nat} (hk : k < p.seen.length) : stepL (hideM p.m p.seen).arrows s (k : Int) = seeD p s k := by
  refine inc_ext (inc_srt _) (inc_wide _ _ _) fun x => ?_
  rw [mem_stepL]
  unfold seeD seeL
  rw [mem_wide (may_to hm)]
  constructor
  · rintro ⟨a, ha, h1, h2, rfl⟩
    obtain ⟨f, j, hf, hj, hr⟩ := (mem_hAll _ _ _ _).1 (show a ∈ hAll p.m p.seen p.m.st.toNat from ha)
    obtain ⟨t, ht, rfl⟩ := (mem_hRow _ _ _ _ _).1 hr
    dsimp only at h1 h2 ⊢
    have : j = k := by omega
    subst this
    have h3 := (mem_wide (may_to hm) t).1 ht
    refine rch_trans (fun y hy => rch_start ?_) h3
    obtain ⟨b, hb, e1, e2, e3⟩ := (mem_stepL _ _ _ _).1 hy
    refine (mem_stepL _ _ _ _).2 ⟨b, hb, e1, ?_, e3⟩
    exact (mem_wide (may_to hm) b.f).1 e2 (· ∈ s) ⟨fun y hy => by
      have : y = (f : Int) := by simpa using hy
      rw [this]; exact h2, fun c hc hcs => hs.2 c ((mem_unseen _ _ _).1 hc).1 ((mem_unseen _ _ _).1 hc).2 hcs⟩
  · intro hx
    obtain ⟨y, hy, hyx⟩ := rch_one.1 hx
    obtain ⟨a, ha, e1, e2, rfl⟩ := (mem_stepL _ _ _ _).1 hy
    have bd := hs.1 _ e2
    refine ⟨⟨a.f, (k : Int), x⟩, ?_, rfl, e2, rfl⟩
    refine (mem_hAll _ _ _ _).2 ⟨a.f.toNat, k, by omega, hk, (mem_hRow _ _ _ _ _).2 ⟨x, ?_, by rw [Int.toNat_of_nonneg bd.1]⟩⟩
    rw [mem_wide (may_to hm)]
    refine rch_trans (fun z hz => rch_start ?_) hyx
    have : z = a.t := by simpa using hz
    subst this
    exact (mem_stepL _ _ _ _).2 ⟨a, ha, e1, wide_sub (may_to hm) _ (by simp [Int.toNat_of_nonneg bd.1]), rfl⟩
theorem see_nil {p : Plant} (hm : mayB p.m = true) (e : Int) : seeL p [] e = [] := by
  rw [List.eq_nil_iff_forall_not_mem]
  intro x hx
  unfold seeL at hx
  rw [mem_wide (may_to hm)] at hx
  obtain ⟨y, hy, -⟩ := rch_one.1 hx
  obtain ⟨a, -, -, h, -⟩ := (mem_stepL _ _ _ _).1 hy
  cases h
theorem fold_nil {p : Plant} (hm : mayB p.m = true) : ∀ word : List Int, word.foldl (seeL p) [] = []
  | [] => rfl
  | e :: r => by rw [List.foldl_cons, see_nil hm, fold_nil hm r]
/-- Does a set leak, as the program tells it? -/
def leakS (S T : Nat → Nat) : Bool := meetB S T && emptyB (lessS S T)
theorem leak_set {S T : Nat → Nat} {l k : List Int} (h : Rep S l) (h' : Rep T k) : leakS S T = leakB k l := by
  unfold leakS leakB
  rw [meet_iff h h']
  cases he : emptyB (lessS S T) with
  | true =>
    have hin : ∀ x ∈ l, x ∈ k := fun x hx => by
      obtain ⟨b0, b1⟩ := h.bd x hx
      have h1 := empty_has he x.toNat (by omega)
      rw [hasS_less h'.ok, (h.mem x.toNat (by omega)).2 (by rwa [Int.toNat_of_nonneg b0])] at h1
      have h2 : hasS T x.toNat = true := by simpa using h1
      have := (h'.mem x.toNat (by omega)).1 h2
      rwa [Int.toNat_of_nonneg b0] at this
    have e1 : (l.filter fun n => hasB k n == true) = l := by
      rw [List.filter_eq_self]
      intro a ha
      simpa [hasB] using hin a ha
    have e2 : (l.filter fun n => hasB k n == false) = [] := by
      rw [List.filter_eq_nil_iff]
      intro a ha
      simpa [hasB] using hin a ha
    rw [e1, e2]; simp
  | false =>
    obtain ⟨n, hn, h1⟩ := empty_not (okS_less h.ok) he
    rw [hasS_less h'.ok] at h1
    simp only [Bool.and_eq_true, Bool.not_eq_true'] at h1
    have m1 := (h.mem n hn).1 h1.1
    have m2 : ¬ (n : Int) ∈ k := fun hk => by
      have := (h'.mem n hn).2 hk
      rw [h1.2] at this; cases this
    have : 0 < (l.filter fun n => hasB k n == false).length := List.length_pos_of_mem (List.mem_filter.2 ⟨m1, by simpa [hasB] using m2⟩)
    rw [Bool.and_false]
    symm
    rw [Bool.and_eq_false_iff]
    exact .inr (decide_eq_false (by omega))

/-! The search. -/
/-- Nothing found so far leaks, and the search goes on so. -/
structure LC (p : Plant) (k : Nat) (l : List (List Int × List Int)) : Prop where
  bi : BI (seeD p) (wideL p.m.arrows p.seen p.m.starts) p.seen.length k 0 l
  no : ∀ (j : Nat) (x : List Int × List Int), j < k → l[j]? = some x → leakB p.secret x.1 = false
  go : fwdL p = bfGo (seeD p) p.seen.length (65 - k) k l
theorem LC.start (p : Plant) : LC p 0 [(wideL p.m.arrows p.seen p.m.starts, [])] := ⟨bi_start _ _ _, fun j x h => absurd h (Nat.not_lt_zero _), rfl⟩
theorem LC.found {p : Plant} {k : Nat} {l : List (List Int × List Int)} (h : LC p k l) {x : List Int × List Int} (hx : l[k]? = some x) (ho : leakB p.secret x.1 = true) : outC p = some (wordS p.seen x.2) := by
  unfold outC
  obtain ⟨t, ht⟩ := bfGo_pre (seeD p) p.seen.length (65 - k) k l
  have hf : (fwdL p).find? (fun x => leakB p.secret x.1) = some x := by
    rw [h.go, ht, List.find?_append]
    have : l.find? (fun x => leakB p.secret x.1) = some x := by
      rw [List.find?_eq_some_iff_getElem]
      have hk := (List.getElem?_eq_some_iff.1 hx).1
      refine ⟨ho, k, hk, (List.getElem?_eq_some_iff.1 hx).2, fun j hj => ?_⟩
      have := h.no j _ hj (List.getElem?_eq_getElem (Nat.lt_trans hj hk))
      rw [this]; rfl
    rw [this]; rfl
  rw [hf]; rfl
theorem LC.not {p : Plant} {k : Nat} {l : List (List Int × List Int)} (h : LC p k l) (hk : k = l.length) : outC p = none := by
  unfold outC
  have hg : fwdL p = l := by
    rw [h.go]
    have hx : l[k]? = none := List.getElem?_eq_none (by omega)
    cases 65 - k with
    | zero => rfl
    | succ f => unfold bfGo; rw [hx]
  rw [hg, Option.map_eq_none_iff, List.find?_eq_none]
  intro x hx
  obtain ⟨j, hj⟩ := List.mem_iff_getElem?.1 hx
  have := h.no j x (by have := (List.getElem?_eq_some_iff.1 hj).1; omega) hj
  rw [this]; simp
theorem LC.next {p : Plant} {k : Nat} {l : List (List Int × List Int)} (h : LC p k l) {x : List Int × List Int} (hx : l[k]? = some x) (ho : leakB p.secret x.1 = false) (hk : k < 65) : LC p (k + 1) (bfRow (seeD p) x l p.seen.length) := by
  refine ⟨bi_next _ h.bi hx, fun j y hj hy => ?_, ?_⟩
  · obtain ⟨t, ht⟩ := bfRow_pre (seeD p) x l p.seen.length
    have hkl := (List.getElem?_eq_some_iff.1 hx).1
    rw [ht, List.getElem?_append_left (by omega)] at hy
    by_cases e : j = k
    · subst e
      rw [hx] at hy
      have := Option.some.inj hy
      subst this; exact ho
    · exact h.no j y (by omega) hy
  · rw [h.go, show 65 - k = (65 - (k + 1)) + 1 by omega, bfGo, hx]
/-- What is found is what is known behind a list, and closed. -/
theorem fwd_cl {p : Plant} (hm : mayB p.m = true) {k n : Nat} {l : List (List Int × List Int)} (h : BI (seeD p) (wideL p.m.arrows p.seen p.m.starts) p.seen.length k n l) {x : List Int × List Int} (hx : x ∈ l) : ClU p x.1 ∧ Inc x.1 := by
  have e := (h.run x hx).1
  rw [see_run] at e
  rw [e]
  exact ⟨clU_fold hm _ _ (clU_start hm), (from_in hm _ _ (wide_in hm (may_starts hm).2)).1⟩

end Go.Proofs.YtgfpjfiikajadaaDoor
namespace Go.Proofs.YtgfpjfiikajadaaDoor
open Go.RowKit
set_option linter.unusedVariables false

/-- A place: its set, from where it was found, at which event. -/
structure PlC where
  s : Nat → Nat
  fr : Nat
  ev : Int
/-- The set stands for a list, which rises. -/
def RepI (S : Nat → Nat) (s : List Int) : Prop := Rep S s ∧ Inc s
def entC (k : Nat) (p : PlC) : MapEntry := { key := sval p.s, val := .agg #[], born := k }
def entsC (L : List PlC) : Array MapEntry := (L.mapIdx entC).toArray
theorem entsC_snoc (L : List PlC) (p : PlC) : entsC (L ++ [p]) = (entsC L).push (entC L.length p) := by
  unfold entsC; rw [List.mapIdx_concat]; simp
/-- The places stand for what has been found, one by one. -/
structure RepCL (L : List PlC) (l : List (List Int × List Int)) : Prop where
  len : L.length = l.length
  rep : ∀ (k : Nat) (p : PlC), L[k]? = some p → ∃ x, l[k]? = some x ∧ RepI p.s x.1
theorem RepCL.at {L : List PlC} {l : List (List Int × List Int)} (h : RepCL L l) {k : Nat} {x : List Int × List Int} (hk : l[k]? = some x) : ∃ p, L[k]? = some p ∧ RepI p.s x.1 := by
  have hlt := (List.getElem?_eq_some_iff.1 hk).1
  have hlt' : k < L.length := by rw [h.len]; exact hlt
  obtain ⟨y, h1, h2⟩ := h.rep k _ (List.getElem?_eq_getElem hlt')
  rw [hk] at h1
  have h1 := Option.some.inj h1
  subst h1
  exact ⟨_, List.getElem?_eq_getElem hlt', h2⟩
theorem RepCL.snoc {L : List PlC} {l : List (List Int × List Int)} (h : RepCL L l) {p : PlC} {x : List Int × List Int} (hr : RepI p.s x.1) : RepCL (L ++ [p]) (l ++ [x]) := by
  refine ⟨by simp [h.len], fun k q hk => ?_⟩
  by_cases hlt : k < L.length
  · rw [List.getElem?_append_left hlt] at hk
    obtain ⟨y, h1, h2⟩ := h.rep k q hk
    exact ⟨y, by rw [List.getElem?_append_left (by rw [← h.len]; exact hlt)]; exact h1, h2⟩
  · have hk' := (List.getElem?_eq_some_iff.1 hk).1
    simp at hk'
    have e : k = L.length := by omega
    subst e
    rw [List.getElem?_append_right (Nat.le_refl _)] at hk
    have : p = q := by simpa using hk
    subst this
    exact ⟨x, by rw [h.len, List.getElem?_append_right (Nat.le_refl _)]; simp, hr⟩
theorem RepCL.one {p : PlC} {x : List Int × List Int} (hr : RepI p.s x.1) : RepCL [p] [x] := RepCL.snoc (L := []) (l := []) ⟨rfl, fun k S h => by simp at h⟩ hr
theorem find_sc {L : List PlC} {l : List (List Int × List Int)} (hR : RepCL L l) {S : Nat → Nat} {s : List Int} (hr : RepI S s) (w : World) :
    (knownB l s = true ∧ ∃ j, (Instr.findKey 65 (sval S) (entsC L).toList).run Tryd.prog w = .ok (some (j, .agg #[])) w) ∨ (knownB l s = false ∧ (Instr.findKey 65 (sval S) (entsC L).toList).run Tryd.prog w = .ok none w) := by
  obtain ⟨kl, hl⟩ := keySet hr.1.ok
  have hget : ∀ (j : Nat) e, (entsC L).toList[j]? = some e → ∃ p, L[j]? = some p ∧ e = entC j p := by
    intro j e h
    simp only [entsC] at h
    rw [List.getElem?_mapIdx] at h
    cases hq : L[j]? with
    | none => rw [hq] at h; cases h
    | some q => rw [hq] at h; exact ⟨q, rfl, (Option.some.inj h).symm⟩
  have hes : ∀ e ∈ (entsC L).toList, ∃ l, keyOf Tryd.prog 65 e.key = some l := by
    intro e he
    obtain ⟨j, hj⟩ := List.mem_iff_getElem?.1 he
    obtain ⟨p, hp, rfl⟩ := hget j e hj
    obtain ⟨x, -, h2⟩ := hR.rep j p hp
    exact keySet h2.1.ok
  rcases lawSet.find w hl (entsC L).toList hes with ⟨h1, h2⟩ | ⟨j, e, h1, h2, h3⟩
  · refine .inr ⟨?_, h1⟩
    cases hk : knownB l s with
    | false => rfl
    | true =>
      obtain ⟨x, hx, e1⟩ := (knownB_iff _ _).1 hk
      obtain ⟨j, hj⟩ := List.mem_iff_getElem?.1 hx
      obtain ⟨p, hp, hrp⟩ := hR.at hj
      refine absurd (eqS_sval ((eqS_iff hrp.1 hr.1 hrp.2 hr.2).2 e1)) (h2 (entC j p) (List.mem_of_getElem? (i := j) ?_))
      simp only [entsC]
      rw [List.getElem?_mapIdx, hp]; rfl
  · obtain ⟨p, hp, rfl⟩ := hget j e h2
    obtain ⟨x, hx, hrx⟩ := hR.rep j p hp
    exact .inl ⟨(knownB_iff _ _).2 ⟨x, List.mem_of_getElem? hx, (eqS_iff hrx.1 hr.1 hrx.2 hr.2).1 (sval_eq h3)⟩, j, h1⟩
theorem mapSC : Tryd.prog.underlying 144 = some (.map 65 131) := by kernel_rfl
theorem lookC_known {L : List PlC} {l : List (List Int × List Int)} (hR : RepCL L l) {S : Nat → Nat} {s : List Int} (hr : RepI S s) {w : World} {r c : Nat} (hm : w.heap[r]? = some (.map (entsC L) c)) (h : knownB l s = true) :
    (Instr.lookup 144 (.map (some r)) (sval S) true).run Tryd.prog w = .ok (.tuple #[.agg #[], .bool true]) w := by
  obtain ⟨kl, hl⟩ := keySet hr.1.ok
  rcases find_sc hR hr w with ⟨-, j, h1⟩ | ⟨h1, -⟩
  · simp [Instr.lookup, run_underlying mapSC, MapKept.run_getObj_map hm, lawSet.check w _ hl, h1, Result.andThen]
  · rw [h] at h1; cases h1
theorem lookC_new {L : List PlC} {l : List (List Int × List Int)} (hR : RepCL L l) {S : Nat → Nat} {s : List Int} (hr : RepI S s) {w : World} {r c : Nat} (hm : w.heap[r]? = some (.map (entsC L) c)) (h : knownB l s = false) :
    (Instr.lookup 144 (.map (some r)) (sval S) true).run Tryd.prog w = .ok (.tuple #[.agg #[], .bool false]) w := by
  obtain ⟨kl, hl⟩ := keySet hr.1.ok
  rcases find_sc hR hr w with ⟨h1, -⟩ | ⟨-, h1⟩
  · rw [h] at h1; cases h1
  · simp [Instr.lookup, run_underlying mapSC, MapKept.run_getObj_map hm, lawSet.check w _ hl, h1, Result.andThen]
theorem updC_new {L : List PlC} {l : List (List Int × List Int)} (hR : RepCL L l) {p : PlC} {s : List Int} (hr : RepI p.s s) {w : World} {r : Nat} (hm : w.heap[r]? = some (.map (entsC L) L.length)) (h : knownB l s = false) :
    (Instr.mapUpdate 144 (.map (some r)) (sval p.s) (.agg #[])).run Tryd.prog w = .ok () (setMap w r (.map (entsC (L ++ [p])) (L.length + 1))) := by
  obtain ⟨kl, hl⟩ := keySet hr.1.ok
  rcases find_sc hR hr w with ⟨h1, -⟩ | ⟨-, h1⟩
  · rw [h] at h1; cases h1
  · simp [Instr.mapUpdate, run_underlying mapSC, MapKept.run_getObj_map hm, lawSet.check w _ hl, h1, MapKept.run_setObj_map _ hm, Result.andThen, setMap, entsC_snoc, entC]
theorem updC_first {p : PlC} {s : List Int} (hr : RepI p.s s) {w : World} {r : Nat} (hm : w.heap[r]? = some (.map #[] 0)) :
    (Instr.mapUpdate 144 (.map (some r)) (sval p.s) (.agg #[])).run Tryd.prog w = .ok () (setMap w r (.map (entsC [p]) 1)) := by
  have := updC_new (L := []) (l := []) ⟨rfl, fun k S h => by simp at h⟩ hr (w := w) (r := r) hm rfl
  simpa using this

/-! Rows of places. -/
def pccells (p : PlC) : List Value := [.int .u64 (p.s 0), .int .u64 (p.s 1), .int .u64 (p.s 2), .int .u64 (p.s 3), .int .i64 (p.fr : Nat), .int .i64 p.ev]
def pcflat : List PlC → List Value
  | [] => []
  | p :: r => pccells p ++ pcflat r
theorem pcflat_len : ∀ L : List PlC, (pcflat L).length = L.length * 6
  | [] => rfl
  | p :: r => by simp only [pcflat, pccells, List.length_append, List.length_cons, List.length_nil, pcflat_len r]; omega
theorem pcflat_append : ∀ L M : List PlC, pcflat (L ++ M) = pcflat L ++ pcflat M
  | [], M => rfl
  | a :: r, M => by simp only [List.cons_append, pcflat, pcflat_append r M, List.append_assoc]
theorem pcflat_at : ∀ {L : List PlC} {k : Nat} {p : PlC}, L[k]? = some p → ∀ j, j < 6 → (pcflat L)[k * 6 + j]? = (pccells p)[j]?
  | [], k, p, h => by simp at h
  | a :: r, 0, p, h => by
    have e : a = p := by simpa using h
    subst e
    intro j hj
    rw [pcflat, Nat.zero_mul, Nat.zero_add, List.getElem?_append_left (by simp [pccells]; omega)]
  | a :: r, k + 1, p, h => by
    intro j hj
    have := pcflat_at (L := r) (k := k) (p := p) (by simpa using h) j hj
    rw [pcflat, List.getElem?_append_right (by simp [pccells]; omega)]
    have e : (k + 1) * 6 + j - (pccells a).length = k * 6 + j := by simp [pccells]; omega
    rw [e]; exact this
abbrev OwnC (W : World) (B : Nat) (v : Value) (L : List PlC) : Prop := W.ownsRow B 142 6 v L.length (pcflat L)
theorem OwnC.cell {W : World} {B : Nat} {v : Value} {L : List PlC} (h : OwnC W B v L) {k : Nat} {p : PlC} (hk : L[k]? = some p) : ∃ g cap, v = .slice (some ⟨g, 0, none⟩) L.length cap ∧ B ≤ g ∧ g < W.heap.size ∧ ∀ j u, (pccells p)[j]? = some u → W.cell? ⟨g, k * 6 + j, none⟩ = some u := by
  rcases h.2 with ⟨rfl, hn⟩ | ⟨g, cap, cur, rfl, hg, hh, hnc, hcm, hcs, ht⟩
  · have := (List.getElem?_eq_some_iff.1 hk).1; omega
  · refine ⟨g, cap, rfl, hg, (Array.getElem?_eq_some_iff.1 hh).1, fun j u hu => ?_⟩
    have hj : j < 6 := by have := (List.getElem?_eq_some_iff.1 hu).1; simpa [pccells] using this
    have c1 := h.cells (g := g) rfl _ _ ((pcflat_at hk j hj).trans hu)
    rwa [addr0_add, Nat.zero_add] at c1
theorem cells_listC (W W' : World) (hW : W'.heap = W.heap) (t : TypeId) (xs : Array Value) : ∀ j v, xs.toList[j]? = some v → (W'.alloc (.cells xs t)).cell? ((⟨W.heap.size, 0, none⟩ : Addr).add j) = some v := by
  intro j v hv
  rw [addr0_add, Nat.zero_add, ← hW]
  exact (Blk.new W' t xs).cell j (by rw [← Array.getElem?_toList]; exact hv)
theorem own_plcC {W : World} {B : Nat} {v : Value} {L : List PlC} {p : PlC} (h : W.ownsRow B 142 6 v (L.length + 1) (pcflat L ++ pccells p)) : OwnC W B v (L ++ [p]) := by
  show W.ownsRow B 142 6 v (L ++ [p]).length (pcflat (L ++ [p]))
  rw [List.length_append, pcflat_append]
  have e : pcflat [p] = pccells p := by simp [pcflat]
  rw [e]; exact h
theorem ownC_one (W : World) (p : PlC) (B : Nat) (hB : B ≤ W.heap.size) : OwnC (W.alloc (.cells (pccells p).toArray 142)) B (.slice (some ⟨W.heap.size, 0, none⟩) 1 1) [p] := by
  have : World.ownsRow (W.alloc (.cells (pccells p).toArray 142)) B 142 6 (.slice (some ⟨W.heap.size, 0, none⟩) 1 1) 1 (pccells p) := World.ownsRow_lit W (pccells p).toArray 1 hB (by decide) rfl
  have e : pcflat [p] = pccells p := by simp [pcflat]
  show World.ownsRow _ B 142 6 _ 1 (pcflat [p])
  rw [e]; exact this

/-- What least knows: its row of places, made from block B on, and its map. -/
structure LCI (B : Nat) (W : World) (br : Nat) (vs : Value) (L : List PlC) : Prop where
  ss : OwnC W B vs L
  mp : W.heap[br]? = some (.map (entsC L) L.length)
  lr : B ≤ br
section
variable {B : Nat} {W : World} {br : Nat} {vs : Value} {L : List PlC}
theorem LCI.below {W' : World} (h : LCI B W br vs L) (hb : Below W.heap.size W W') : LCI B W' br vs L :=
  ⟨own_same h.ss (fun k hk => hb.block k (World.ownsRow.lt h.ss k hk).2), (hb.block br (Array.getElem?_eq_some_iff.1 h.mp).1).trans h.mp, h.lr⟩
theorem LCI.apart (h : LCI B W br vs L) : vs.ownBlock ≠ some br := by
  have hm := h.mp
  exact fun e => (by obtain ⟨cs, hc⟩ := own_type h.ss e; rw [hm] at hc; cases hc)
theorem LCI.push {w0 : World} {W2 W3 : World} {vs' : Value} {p : PlC} (h : LCI B W br vs L) (h0 : Below B w0 W) (hW3 : Below (setMap W br (.map (entsC (L ++ [p])) (L.length + 1))).heap.size (setMap W br (.map (entsC (L ++ [p])) (L.length + 1))) W3) (o1 : OwnC W2 B vs' (L ++ [p])) (g : W3.grownBy W2 vs.ownBlock) (hBW : B ≤ W.heap.size) :
    LCI B W2 br vs' (L ++ [p]) ∧ Below B w0 W2 := by
  have a1 := h.apart
  have hbr := (Array.getElem?_eq_some_iff.1 h.mp).1
  have hz : W.heap.size ≤ W3.heap.size := by have := hW3.size; rwa [size_setMap] at this
  have k3 : ∀ j, j < W.heap.size → W3.heap[j]? = (setMap W br (.map (entsC (L ++ [p])) (L.length + 1))).heap[j]? := fun j hj => hW3.block j (by rw [size_setMap]; exact hj)
  have k2 : ∀ j, j < W.heap.size → vs.ownBlock ≠ some j → W2.heap[j]? = (setMap W br (.map (entsC (L ++ [p])) (L.length + 1))).heap[j]? := fun j hj hne => (g.block j (Nat.lt_of_lt_of_le hj hz) (fun e => hne e.symm)).trans (k3 j hj)
  refine ⟨⟨o1, ?_, h.lr⟩, ?_⟩
  · rw [k2 br hbr a1, heap_setMap _ _ hbr, List.length_append]; rfl
  · have b1 : Below B w0 (setMap W br (.map (entsC (L ++ [p])) (L.length + 1))) :=
      h0.trans ⟨rfl, rfl, rfl, by rw [size_setMap]; exact Nat.le_refl _, fun j hj => heap_setMap_ne _ _ _ (by have := h.lr; omega)⟩
    exact (b1.trans (hW3.mono (by rw [size_setMap]; exact hBW))).grown g (Nat.le_trans hBW hz) (fun j hj => (World.ownsRow.lt h.ss j hj).1)
end
theorem lci_first {B : Nat} {W : World} {br : Nat} {v : Value} {p : PlC} (ho : OwnC W B v [p]) (hm : W.heap[br]? = some (.map #[] 0)) (hb : B ≤ br) : LCI B (setMap W br (.map (entsC [p]) 1)) br v [p] := by
  have hbr := (Array.getElem?_eq_some_iff.1 hm).1
  refine ⟨own_same ho (fun k hk => heap_setMap_ne _ _ _ (fun e => ?_)), heap_setMap _ _ hbr, hb⟩
  obtain ⟨cs, hc⟩ := own_type ho hk
  rw [e, hm] at hc; cases hc
theorem lci_first2 {B : Nat} {W : World} {br : Nat} {p : PlC} (hm : W.heap[br]? = some (.map (entsC [p]) 1)) (hb : B ≤ br) (hB : B ≤ W.heap.size) : LCI B (W.alloc (.cells (pccells p).toArray 142)) br (.slice (some ⟨W.heap.size, 0, none⟩) 1 1) [p] :=
  ⟨ownC_one W p B hB, (Below.heap_alloc W _ br (Array.getElem?_eq_some_iff.1 hm).1).trans hm, hb⟩
theorem LCI.keep {B : Nat} {W W2 W3 : World} {br hp : Nat} {vs : Value} {L L' : List PlC} {c : Nat} {t : TypeId} {cs : Array Value} (hne : vs.ownBlock ≠ some hp) (h : LCI B W br vs L) (hW3 : Below (setMap W br (.map (entsC L') c)).heap.size (setMap W br (.map (entsC L') c)) W3) (g : W3.grownBy W2 vs.ownBlock) (hh : Blk W hp t cs) : Blk W2 hp t cs := by
  have hbr := (Array.getElem?_eq_some_iff.1 h.mp).1
  have hz : W.heap.size ≤ W3.heap.size := by have := hW3.size; rwa [size_setMap] at this
  have n1 : hp ≠ br := fun e => by have hm := h.mp; rw [← e, show W.heap[hp]? = _ from hh] at hm; cases hm
  have hl := hh.lt
  exact (g.block hp (Nat.lt_of_lt_of_le hl hz) (fun e => hne e.symm)).trans ((hW3.block hp (by rw [size_setMap]; exact hl)).trans ((heap_setMap_ne _ _ _ n1).trans hh))
/-- A row that lies elsewhere, appended to, lies elsewhere still. -/
theorem ne_append {v v' : Value} {n hp : Nat} (h : v.ownBlock ≠ some hp) (hl : hp < n) (hn : v'.ownBlock = v.ownBlock ∨ v'.ownBlock = some n) : v'.ownBlock ≠ some hp := by
  rcases hn with e | e
  · rw [e]; exact h
  · rw [e]; intro h'; have := Option.some.inj h'; omega

/-- From where, and at which event, each place but the first was found. -/
def TrC (seen : List Int) (L : List PlC) (l : List (List Int × List Int)) : Prop := ∀ (j : Nat) (p : PlC), 0 < j → L[j]? = some p → p.fr < j ∧ ∃ x y, l[p.fr]? = some x ∧ l[j]? = some y ∧ wordS seen y.2 = wordS seen x.2 ++ [p.ev]
theorem TrC.one (seen : List Int) (p : PlC) (x : List Int × List Int) : TrC seen [p] [x] := fun j q hj h => by
  have := (List.getElem?_eq_some_iff.1 h).1
  simp at this; omega
theorem TrC.snoc {seen : List Int} {L : List PlC} {l : List (List Int × List Int)} (h : TrC seen L l) (hl : L.length = l.length) {S : Nat → Nat} {k e : Nat} {v : Int} (hv : v = seen[e]?.getD 0) {x : List Int × List Int} (hx : l[k]? = some x) (s : List Int) : TrC seen (L ++ [⟨S, k, v⟩]) (l ++ [(s, x.2 ++ [(e : Int)])]) := by
  intro j p hj hp
  have hk := (List.getElem?_eq_some_iff.1 hx).1
  have up : ∀ {i : Nat} {y : List Int × List Int}, l[i]? = some y → (l ++ [(s, x.2 ++ [(e : Int)])])[i]? = some y := fun {i y} hy => by
    rw [List.getElem?_append_left (List.getElem?_eq_some_iff.1 hy).1]; exact hy
  by_cases hlt : j < L.length
  · rw [List.getElem?_append_left hlt] at hp
    obtain ⟨h1, a, b, h2, h3, h4⟩ := h j p hj hp
    exact ⟨h1, a, b, up h2, up h3, h4⟩
  · have hk' := (List.getElem?_eq_some_iff.1 hp).1
    simp at hk'
    have e1 : j = L.length := by omega
    subst e1
    rw [List.getElem?_append_right (Nat.le_refl _)] at hp
    have : (⟨S, k, v⟩ : PlC) = p := by simpa using hp
    subst this
    exact ⟨by show k < L.length; omega, x, (s, x.2 ++ [(e : Int)]), up hx, by rw [hl, List.getElem?_append_right (Nat.le_refl _)]; simp, by rw [wordS_snoc, hv]⟩

end Go.Proofs.YtgfpjfiikajadaaDoor
