/-
  Plain: the estimates of a plant, by the machine of what is seen of it and its sets; the search for the least list that leaks. No program, no model.
  A map keyed by sets of states, and rows of places of package current, as the model runs them.
  What is hidden of a small machine fits; hide.Hide, where nothing is wrong.
  Plain: a set that has states, all of them another one's. No program, no model.
  The walks of jalousieref9.From and Estimate.
-/
import Derived.Test.YtmlkpdeidpcidaaDoorG24
import Derived.Test.YtmlkpdeidpcidaaDoorG28
import Derived.Test.YtmlkpdeidpcidaaDoorG23
import Derived.Test.YtmlkpdeidpcidaaDoorCPHide
import Derived.Test.YtmlkpdeidpcidaaDoorG11
import Derived.Test.YtmlkpdeidpcidaaDoorG25
import Derived.Test.YtmlkpdeidpcidaaDoorG20
namespace Go.Proofs.YtmlkpdeidpcidaaDoor
open Go.RowKit
set_option linter.unusedVariables false

/-- A list of states that what is not seen does not leave. -/
def ClU (p : Plant) (s : List Int) : Prop := (∀ x ∈ s, 0 ≤ x ∧ x < p.m.st) ∧ ∀ a ∈ p.m.arrows, hasB p.seen a.e = false → a.f ∈ s → a.t ∈ s
theorem clU_wide {p : Plant} (hm : mayB p.m = true) {ss : List Int} (hs : ∀ x ∈ ss, 0 ≤ x ∧ x < p.m.st) : ClU p (wideL p.m.arrows p.seen ss) := ⟨wide_bd hm hs, fun a ha hu h => wide_cl (may_to hm) ha hu h⟩
theorem clU_see {p : Plant} (hm : mayB p.m = true) (s : List Int) (e : Int) : ClU p (seeL p s e) := clU_wide hm (step_bd hm)
theorem clU_fold {p : Plant} (hm : mayB p.m = true) : ∀ (word s : List Int), ClU p s → ClU p (word.foldl (seeL p) s)
  | [], s, h => h
  | e :: r, s, _ => clU_fold hm r (seeL p s e) (clU_see hm s e)
theorem clU_start {p : Plant} (hm : mayB p.m = true) : ClU p (wideL p.m.arrows p.seen p.m.starts) := clU_wide hm (may_starts hm).2
/-- In the machine of what is seen an estimate leads to the next one. -/
theorem hide_see {p : Plant} (hm : mayB p.m = true) {s : List Int} (hs : ClU p s) {k : Nat} (hk : k < p.seen.length) : stepL (hideM p.m p.seen).arrows s (k : Int) = seeD p s k := by
  refine inc_ext (inc_srt _) (inc_wide _ _ _) fun x => ?_
  rw [mem_stepL]
  unfold seeD seeL
  rw [mem_wide (may_to hm)]
  constructor
  · rintro ⟨a, ha, h1, h2, rfl⟩
    obtain ⟨f, j, hf, hj, hr⟩ := (mem_hAll _ _ _ _).1 (show a ∈ hAll p.m p.seen p.m.st.toNat from ha)
    obtain ⟨t, ht, rfl⟩ := (mem_hRow _ _ _ _ _).1 hr
    dsimp only at h1 h2 ⊢
    have : j = k := by omega
    subst this
    have h3 := (mem_wide (may_to hm) t).1 ht
    refine rch_trans (fun y hy => rch_start ?_) h3
    obtain ⟨b, hb, e1, e2, e3⟩ := (mem_stepL _ _ _ _).1 hy
    refine (mem_stepL _ _ _ _).2 ⟨b, hb, e1, ?_, e3⟩
    exact (mem_wide (may_to hm) b.f).1 e2 (· ∈ s) ⟨fun y hy => by
      have : y = (f : Int) := by simpa using hy
      rw [this]; exact h2, fun c hc hcs => hs.2 c ((mem_unseen _ _ _).1 hc).1 ((mem_unseen _ _ _).1 hc).2 hcs⟩
  · intro hx
    obtain ⟨y, hy, hyx⟩ := rch_one.1 hx
    obtain ⟨a, ha, e1, e2, rfl⟩ := (mem_stepL _ _ _ _).1 hy
    have bd := hs.1 _ e2
    refine ⟨⟨a.f, (k : Int), x⟩, ?_, rfl, e2, rfl⟩
    refine (mem_hAll _ _ _ _).2 ⟨a.f.toNat, k, by omega, hk, (mem_hRow _ _ _ _ _).2 ⟨x, ?_, by rw [Int.toNat_of_nonneg bd.1]⟩⟩
    rw [mem_wide (may_to hm)]
    refine rch_trans (fun z hz => rch_start ?_) hyx
    have : z = a.t := by simpa using hz
    subst this
    exact (mem_stepL _ _ _ _).2 ⟨a, ha, e1, wide_sub (may_to hm) _ (by simp [Int.toNat_of_nonneg bd.1]), rfl⟩
theorem see_nil {p : Plant} (hm : mayB p.m = true) (e : Int) : seeL p [] e = [] := by
  rw [List.eq_nil_iff_forall_not_mem]
  intro x hx
  unfold seeL at hx
  rw [mem_wide (may_to hm)] at hx
  obtain ⟨y, hy, -⟩ := rch_one.1 hx
  obtain ⟨a, -, -, h, -⟩ := (mem_stepL _ _ _ _).1 hy
  cases h
theorem fold_nil {p : Plant} (hm : mayB p.m = true) : ∀ word : List Int, word.foldl (seeL p) [] = []
  | [] => rfl
  | e :: r => by rw [List.foldl_cons, see_nil hm, fold_nil hm r]
/-! The search. -/
/-- What is found is what is known behind a list, and closed. -/
theorem fwd_cl {p : Plant} (hm : mayB p.m = true) {k n : Nat} {l : List (List Int × List Int)} (h : BI (seeD p) (wideL p.m.arrows p.seen p.m.starts) p.seen.length k n l) {x : List Int × List Int} (hx : x ∈ l) : ClU p x.1 ∧ Inc x.1 := by
  have e := (h.run x hx).1
  rw [see_run] at e
  rw [e]
  exact ⟨clU_fold hm _ _ (clU_start hm), (from_in hm _ _ (wide_in hm (may_starts hm).2)).1⟩

end Go.Proofs.YtmlkpdeidpcidaaDoor
namespace Go.Proofs.YtmlkpdeidpcidaaDoor
open Go.RowKit
set_option linter.unusedVariables false

/-- A place: its set, its list as a value, and what that reads as. -/
structure PlC where
  s : Nat → Nat
  v : Value
  word : List Int
/-- The set stands for a list, which rises. -/
def RepI (S : Nat → Nat) (s : List Int) : Prop := Rep S s ∧ Inc s
def entC (k : Nat) (p : PlC) : MapEntry := { key := sval p.s, val := .agg #[], born := k }
def entsC (L : List PlC) : Array MapEntry := (L.mapIdx entC).toArray
theorem entsC_snoc (L : List PlC) (p : PlC) : entsC (L ++ [p]) = (entsC L).push (entC L.length p) := by
  unfold entsC; rw [List.mapIdx_concat]; simp
/-- The places stand for what has been found, one by one. -/
structure RepCL (L : List PlC) (l : List (List Int × List Int)) : Prop where
  len : L.length = l.length
  rep : ∀ (k : Nat) (p : PlC), L[k]? = some p → ∃ x, l[k]? = some x ∧ RepI p.s x.1
theorem RepCL.at {L : List PlC} {l : List (List Int × List Int)} (h : RepCL L l) {k : Nat} {x : List Int × List Int} (hk : l[k]? = some x) : ∃ p, L[k]? = some p ∧ RepI p.s x.1 := by
  have hlt := (List.getElem?_eq_some_iff.1 hk).1
  have hlt' : k < L.length := by rw [h.len]; exact hlt
  obtain ⟨y, h1, h2⟩ := h.rep k _ (List.getElem?_eq_getElem hlt')
  rw [hk] at h1
  have h1 := Option.some.inj h1
  subst h1
  exact ⟨_, List.getElem?_eq_getElem hlt', h2⟩
theorem RepCL.snoc {L : List PlC} {l : List (List Int × List Int)} (h : RepCL L l) {p : PlC} {x : List Int × List Int} (hr : RepI p.s x.1) : RepCL (L ++ [p]) (l ++ [x]) := by
  refine ⟨by simp [h.len], fun k q hk => ?_⟩
  by_cases hlt : k < L.length
  · rw [List.getElem?_append_left hlt] at hk
    obtain ⟨y, h1, h2⟩ := h.rep k q hk
    exact ⟨y, by rw [List.getElem?_append_left (by rw [← h.len]; exact hlt)]; exact h1, h2⟩
  · have hk' := (List.getElem?_eq_some_iff.1 hk).1
    simp at hk'
    have e : k = L.length := by omega
    subst e
    rw [List.getElem?_append_right (Nat.le_refl _)] at hk
    have : p = q := by simpa using hk
    subst this
    exact ⟨x, by rw [h.len, List.getElem?_append_right (Nat.le_refl _)]; simp, hr⟩
theorem RepCL.one {p : PlC} {x : List Int × List Int} (hr : RepI p.s x.1) : RepCL [p] [x] := RepCL.snoc (L := []) (l := []) ⟨rfl, fun k S h => by simp at h⟩ hr
theorem find_sc {L : List PlC} {l : List (List Int × List Int)} (hR : RepCL L l) {S : Nat → Nat} {s : List Int} (hr : RepI S s) (w : World) :
    (knownB l s = true ∧ ∃ j, (Instr.findKey 85 (sval S) (entsC L).toList).run Tryd.prog w = .ok (some (j, .agg #[])) w) ∨ (knownB l s = false ∧ (Instr.findKey 85 (sval S) (entsC L).toList).run Tryd.prog w = .ok none w) := by
  obtain ⟨kl, hl⟩ := keySet hr.1.ok
  have hget : ∀ (j : Nat) e, (entsC L).toList[j]? = some e → ∃ p, L[j]? = some p ∧ e = entC j p := by
    intro j e h
    simp only [entsC] at h
    rw [List.getElem?_mapIdx] at h
    cases hq : L[j]? with
    | none => rw [hq] at h; cases h
    | some q => rw [hq] at h; exact ⟨q, rfl, (Option.some.inj h).symm⟩
  have hes : ∀ e ∈ (entsC L).toList, ∃ l, keyOf Tryd.prog 85 e.key = some l := by
    intro e he
    obtain ⟨j, hj⟩ := List.mem_iff_getElem?.1 he
    obtain ⟨p, hp, rfl⟩ := hget j e hj
    obtain ⟨x, -, h2⟩ := hR.rep j p hp
    exact keySet h2.1.ok
  rcases lawSet.find w hl (entsC L).toList hes with ⟨h1, h2⟩ | ⟨j, e, h1, h2, h3⟩
  · refine .inr ⟨?_, h1⟩
    cases hk : knownB l s with
    | false => rfl
    | true =>
      obtain ⟨x, hx, e1⟩ := (knownB_iff _ _).1 hk
      obtain ⟨j, hj⟩ := List.mem_iff_getElem?.1 hx
      obtain ⟨p, hp, hrp⟩ := hR.at hj
      refine absurd (eqS_sval ((eqS_iff hrp.1 hr.1 hrp.2 hr.2).2 e1)) (h2 (entC j p) (List.mem_of_getElem? (i := j) ?_))
      simp only [entsC]
      rw [List.getElem?_mapIdx, hp]; rfl
  · obtain ⟨p, hp, rfl⟩ := hget j e h2
    obtain ⟨x, hx, hrx⟩ := hR.rep j p hp
    exact .inl ⟨(knownB_iff _ _).2 ⟨x, List.mem_of_getElem? hx, (eqS_iff hrx.1 hr.1 hrx.2 hr.2).1 (sval_eq h3)⟩, j, h1⟩
theorem mapSC : Tryd.prog.underlying 165 = some (.map 85 191) := by kernel_rfl
theorem lookC_known {L : List PlC} {l : List (List Int × List Int)} (hR : RepCL L l) {S : Nat → Nat} {s : List Int} (hr : RepI S s) {w : World} {r c : Nat} (hm : w.heap[r]? = some (.map (entsC L) c)) (h : knownB l s = true) :
    (Instr.lookup 165 (.map (some r)) (sval S) true).run Tryd.prog w = .ok (.tuple #[.agg #[], .bool true]) w := by
  obtain ⟨kl, hl⟩ := keySet hr.1.ok
  rcases find_sc hR hr w with ⟨-, j, h1⟩ | ⟨h1, -⟩
  · simp [Instr.lookup, run_underlying mapSC, MapKept.run_getObj_map hm, lawSet.check w _ hl, h1, Result.andThen]
  · rw [h] at h1; cases h1
theorem lookC_new {L : List PlC} {l : List (List Int × List Int)} (hR : RepCL L l) {S : Nat → Nat} {s : List Int} (hr : RepI S s) {w : World} {r c : Nat} (hm : w.heap[r]? = some (.map (entsC L) c)) (h : knownB l s = false) :
    (Instr.lookup 165 (.map (some r)) (sval S) true).run Tryd.prog w = .ok (.tuple #[.agg #[], .bool false]) w := by
  obtain ⟨kl, hl⟩ := keySet hr.1.ok
  rcases find_sc hR hr w with ⟨h1, -⟩ | ⟨-, h1⟩
  · rw [h] at h1; cases h1
  · simp [Instr.lookup, run_underlying mapSC, MapKept.run_getObj_map hm, lawSet.check w _ hl, h1, Result.andThen]
theorem updC_new {L : List PlC} {l : List (List Int × List Int)} (hR : RepCL L l) {p : PlC} {s : List Int} (hr : RepI p.s s) {w : World} {r : Nat} (hm : w.heap[r]? = some (.map (entsC L) L.length)) (h : knownB l s = false) :
    (Instr.mapUpdate 165 (.map (some r)) (sval p.s) (.agg #[])).run Tryd.prog w = .ok () (setMap w r (.map (entsC (L ++ [p])) (L.length + 1))) := by
  obtain ⟨kl, hl⟩ := keySet hr.1.ok
  rcases find_sc hR hr w with ⟨h1, -⟩ | ⟨-, h1⟩
  · rw [h] at h1; cases h1
  · simp [Instr.mapUpdate, run_underlying mapSC, MapKept.run_getObj_map hm, lawSet.check w _ hl, h1, MapKept.run_setObj_map _ hm, Result.andThen, setMap, entsC_snoc, entC]
theorem updC_first {p : PlC} {s : List Int} (hr : RepI p.s s) {w : World} {r : Nat} (hm : w.heap[r]? = some (.map #[] 0)) :
    (Instr.mapUpdate 165 (.map (some r)) (sval p.s) (.agg #[])).run Tryd.prog w = .ok () (setMap w r (.map (entsC [p]) 1)) := by
  have := updC_new (L := []) (l := []) ⟨rfl, fun k S h => by simp at h⟩ hr (w := w) (r := r) hm rfl
  simpa using this

/-! Rows of places. -/
def pccells (p : PlC) : List Value := [.int .u64 (p.s 0), .int .u64 (p.s 1), .int .u64 (p.s 2), .int .u64 (p.s 3), p.v]
def pcflat : List PlC → List Value
  | [] => []
  | p :: r => pccells p ++ pcflat r
theorem pcflat_append : ∀ L M : List PlC, pcflat (L ++ M) = pcflat L ++ pcflat M
  | [], M => rfl
  | a :: r, M => by simp only [List.cons_append, pcflat, pcflat_append r M, List.append_assoc]
theorem pcflat_at : ∀ {L : List PlC} {k : Nat} {p : PlC}, L[k]? = some p → ∀ j, j < 5 → (pcflat L)[k * 5 + j]? = (pccells p)[j]?
  | [], k, p, h => by simp at h
  | a :: r, 0, p, h => by
    have e : a = p := by simpa using h
    subst e
    intro j hj
    rw [pcflat, Nat.zero_mul, Nat.zero_add, List.getElem?_append_left (by simp [pccells]; omega)]
  | a :: r, k + 1, p, h => by
    intro j hj
    have := pcflat_at (L := r) (k := k) (p := p) (by simpa using h) j hj
    rw [pcflat, List.getElem?_append_right (by simp [pccells]; omega)]
    have e : (k + 1) * 5 + j - (pccells a).length = k * 5 + j := by simp [pccells]; omega
    rw [e]; exact this
abbrev OwnC (W : World) (B : Nat) (v : Value) (L : List PlC) : Prop := W.ownsRow B 115 5 v L.length (pcflat L)
theorem OwnC.cell {W : World} {B : Nat} {v : Value} {L : List PlC} (h : OwnC W B v L) {k : Nat} {p : PlC} (hk : L[k]? = some p) : ∃ g cap, v = .slice (some ⟨g, 0, none⟩) L.length cap ∧ B ≤ g ∧ g < W.heap.size ∧ ∀ j u, (pccells p)[j]? = some u → W.cell? ⟨g, k * 5 + j, none⟩ = some u := by
  rcases h.2 with ⟨rfl, hn⟩ | ⟨g, cap, cur, rfl, hg, hh, hnc, hcm, hcs, ht⟩
  · have := (List.getElem?_eq_some_iff.1 hk).1; omega
  · refine ⟨g, cap, rfl, hg, (Array.getElem?_eq_some_iff.1 hh).1, fun j u hu => ?_⟩
    have hj : j < 5 := by have := (List.getElem?_eq_some_iff.1 hu).1; simpa [pccells] using this
    have c1 := h.cells (g := g) rfl _ _ ((pcflat_at hk j hj).trans hu)
    rwa [addr0_add, Nat.zero_add] at c1
theorem own_plcC {W : World} {B : Nat} {v : Value} {L : List PlC} {p : PlC} (h : W.ownsRow B 115 5 v (L.length + 1) (pcflat L ++ pccells p)) : OwnC W B v (L ++ [p]) := by
  show W.ownsRow B 115 5 v (L ++ [p]).length (pcflat (L ++ [p]))
  rw [List.length_append, pcflat_append]
  have e : pcflat [p] = pccells p := by simp [pcflat]
  rw [e]; exact h
theorem ownC_one (W : World) (p : PlC) (B : Nat) (hB : B ≤ W.heap.size) : OwnC (W.alloc (.cells (pccells p).toArray 115)) B (.slice (some ⟨W.heap.size, 0, none⟩) 1 1) [p] := by
  have : World.ownsRow (W.alloc (.cells (pccells p).toArray 115)) B 115 5 (.slice (some ⟨W.heap.size, 0, none⟩) 1 1) 1 (pccells p) := World.ownsRow_lit W (pccells p).toArray 1 hB (by decide) rfl
  have e : pcflat [p] = pccells p := by simp [pcflat]
  show World.ownsRow _ B 115 5 _ 1 (pcflat [p])
  rw [e]; exact this

/-- Words that lie in memory stay where they are. -/
theorem innW_map {W : World} {br : Nat} {m : Array MapEntry} {c : Nat} (hm : W.heap[br]? = some (.map m c)) (o : Obj) {x : Value} {xs : List Int} (h : InnW 0 W x xs) : InnW 0 (setMap W br o) x xs :=
  h.kept (by rw [size_setMap]; exact Nat.le_refl _) (fun j hj => absurd hj (Nat.not_lt_zero _)) (fun g cs hg => heap_setMap_ne _ _ _ (fun e => by rw [e, hm] at hg; cases hg))
theorem innW_grown {W W2 : World} {B n : Nat} {v : Value} {vs : List Value} (ho : W.ownsRow B 115 5 v n vs) (g : W.grownBy W2 v.ownBlock) {x : Value} {xs : List Int} (h : InnW 0 W x xs) : InnW 0 W2 x xs :=
  h.kept g.size (fun j hj => absurd hj (Nat.not_lt_zero _)) (fun q cs hq => g.block q (Array.getElem?_eq_some_iff.1 hq).1 (fun e => by
    obtain ⟨c2, h2⟩ := own_type ho e.symm
    rw [hq] at h2; cases h2))

/-- What a search knows: its row of places, made from block B on, and its map. -/
structure LCI (B : Nat) (W : World) (br : Nat) (vs : Value) (L : List PlC) : Prop where
  ss : OwnC W B vs L
  inn : ∀ q ∈ L, InnW 0 W q.v q.word
  mp : W.heap[br]? = some (.map (entsC L) L.length)
  lr : B ≤ br
section
variable {B : Nat} {W : World} {br : Nat} {vs : Value} {L : List PlC}
theorem LCI.below {W' : World} (h : LCI B W br vs L) (hb : Below W.heap.size W W') : LCI B W' br vs L :=
  ⟨own_same h.ss (fun k hk => hb.block k (World.ownsRow.lt h.ss k hk).2), fun q hq => (h.inn q hq).below hb (Nat.zero_le _), (hb.block br (Array.getElem?_eq_some_iff.1 h.mp).1).trans h.mp, h.lr⟩
theorem LCI.apart (h : LCI B W br vs L) : vs.ownBlock ≠ some br := by
  have hm := h.mp
  exact fun e => (by obtain ⟨cs, hc⟩ := own_type h.ss e; rw [hm] at hc; cases hc)
theorem LCI.mapped (h : LCI B W br vs L) (o : Obj) : OwnC (setMap W br o) B vs L := own_same h.ss (fun j hj => heap_setMap_ne _ _ _ (fun e => h.apart (by rw [hj, e])))
theorem LCI.push {w0 : World} {W2 W3 : World} {vs' : Value} {p : PlC} (h : LCI B W br vs L) (h0 : Below B w0 W) (hW3 : Below (setMap W br (.map (entsC (L ++ [p])) (L.length + 1))).heap.size (setMap W br (.map (entsC (L ++ [p])) (L.length + 1))) W3) (hi : InnW 0 W3 p.v p.word) (o1 : OwnC W2 B vs' (L ++ [p])) (g : W3.grownBy W2 vs.ownBlock) (hBW : B ≤ W.heap.size) :
    LCI B W2 br vs' (L ++ [p]) ∧ Below B w0 W2 := by
  have a1 := h.apart
  have hbr := (Array.getElem?_eq_some_iff.1 h.mp).1
  have hz : W.heap.size ≤ W3.heap.size := by have := hW3.size; rwa [size_setMap] at this
  have k3 : ∀ j, j < W.heap.size → W3.heap[j]? = (setMap W br (.map (entsC (L ++ [p])) (L.length + 1))).heap[j]? := fun j hj => hW3.block j (by rw [size_setMap]; exact hj)
  have k2 : ∀ j, j < W.heap.size → vs.ownBlock ≠ some j → W2.heap[j]? = (setMap W br (.map (entsC (L ++ [p])) (L.length + 1))).heap[j]? := fun j hj hne => (g.block j (Nat.lt_of_lt_of_le hj hz) (fun e => hne e.symm)).trans (k3 j hj)
  have o3 : OwnC W3 B vs L := own_same (h.mapped (.map (entsC (L ++ [p])) (L.length + 1))) (fun j hj => hW3.block j (World.ownsRow.lt (h.mapped _) j hj).2)
  refine ⟨⟨o1, fun q hq => ?_, ?_, h.lr⟩, ?_⟩
  · rcases List.mem_append.1 hq with hq | hq
    · exact innW_grown o3 g ((innW_map h.mp _ (h.inn q hq)).below hW3 (Nat.zero_le _))
    · have : q = p := by simpa using hq
      subst this
      exact innW_grown o3 g hi
  · rw [k2 br hbr a1, heap_setMap _ _ hbr, List.length_append]; rfl
  · have b1 : Below B w0 (setMap W br (.map (entsC (L ++ [p])) (L.length + 1))) :=
      h0.trans ⟨rfl, rfl, rfl, by rw [size_setMap]; exact Nat.le_refl _, fun j hj => heap_setMap_ne _ _ _ (by have := h.lr; omega)⟩
    exact (b1.trans (hW3.mono (by rw [size_setMap]; exact hBW))).grown g (Nat.le_trans hBW hz) (fun j hj => (World.ownsRow.lt h.ss j hj).1)
end
theorem lci_first {B : Nat} {W : World} {br : Nat} {v : Value} {p : PlC} (ho : OwnC W B v [p]) (hi : InnW 0 W p.v p.word) (hm : W.heap[br]? = some (.map #[] 0)) (hb : B ≤ br) : LCI B (setMap W br (.map (entsC [p]) 1)) br v [p] := by
  have hbr := (Array.getElem?_eq_some_iff.1 hm).1
  refine ⟨own_same ho (fun k hk => heap_setMap_ne _ _ _ (fun e => ?_)), fun q hq => ?_, heap_setMap _ _ hbr, hb⟩
  · obtain ⟨cs, hc⟩ := own_type ho hk
    rw [e, hm] at hc; cases hc
  · have : q = p := by simpa using hq
    subst this
    exact innW_map hm _ hi
theorem lci_first2 {B : Nat} {W : World} {br : Nat} {p : PlC} (hi : InnW 0 W p.v p.word) (hm : W.heap[br]? = some (.map (entsC [p]) 1)) (hb : B ≤ br) (hB : B ≤ W.heap.size) : LCI B (W.alloc (.cells (pccells p).toArray 115)) br (.slice (some ⟨W.heap.size, 0, none⟩) 1 1) [p] :=
  ⟨ownC_one W p B hB, fun q hq => (by
    have : q = p := by simpa using hq
    subst this
    exact hi.below ((Below.refl _ _).alloc (Nat.le_refl _) _) (Nat.zero_le _)), (Below.heap_alloc W _ br (Array.getElem?_eq_some_iff.1 hm).1).trans hm, hb⟩
/-- A row that lies elsewhere, appended to, lies elsewhere still. -/
theorem ne_append {v v' : Value} {n hp : Nat} (h : v.ownBlock ≠ some hp) (hl : hp < n) (hn : v'.ownBlock = v.ownBlock ∨ v'.ownBlock = some n) : v'.ownBlock ≠ some hp := by
  rcases hn with e | e
  · rw [e]; exact h
  · rw [e]; intro h'; have := Option.some.inj h'; omega

/-- The places bear the lists of what has been found. -/
def WdC (seen : List Int) (L : List PlC) (l : List (List Int × List Int)) : Prop := ∀ (j : Nat) (p : PlC) (x : List Int × List Int), L[j]? = some p → l[j]? = some x → p.word = wordS seen x.2
theorem WdC.snoc {seen : List Int} {L : List PlC} {l : List (List Int × List Int)} (h : WdC seen L l) (hl : L.length = l.length) {p : PlC} {x : List Int × List Int} (hw : p.word = wordS seen x.2) : WdC seen (L ++ [p]) (l ++ [x]) := by
  intro j q y hq hy
  by_cases hlt : j < L.length
  · rw [List.getElem?_append_left hlt] at hq
    rw [List.getElem?_append_left (by omega)] at hy
    exact h j q y hq hy
  · have hk' := (List.getElem?_eq_some_iff.1 hq).1
    simp at hk'
    have e1 : j = L.length := by omega
    subst e1
    rw [List.getElem?_append_right (Nat.le_refl _)] at hq
    rw [hl, List.getElem?_append_right (Nat.le_refl _)] at hy
    have e2 : p = q := by simpa using hq
    have e3 : x = y := by simpa using hy
    subst e2
    subst e3
    exact hw
theorem WdC.one {seen : List Int} {p : PlC} {x : List Int × List Int} (hw : p.word = wordS seen x.2) : WdC seen [p] [x] := WdC.snoc (L := []) (l := []) (fun j q y h => by simp at h) rfl hw
/-- A row of places that a call hands back: sets and lists of what has been found. -/
structure Pls (W : World) (B : Nat) (v : Value) (seen : List Int) (L : List PlC) (l : List (List Int × List Int)) : Prop where
  ow : OwnC W B v L
  inn : ∀ q ∈ L, InnW 0 W q.v q.word
  rep : RepCL L l
  wd : WdC seen L l
/-- What Estimates and Origins leave, where the plant may be. -/
def PlsPost (w : World) (seen : List Int) (l : List (List Int × List Int)) (e : Ending) (w' : World) : Prop := ∃ (v : Value) (L : List PlC), e = .returned (.tuple #[v, .int .i64 0]) ∧ Pls w' w.heap.size v seen L l ∧ Below w.heap.size w w'
abbrev pcarr (p : PlC) : Array Value := #[.int .u64 (p.s 0), .int .u64 (p.s 1), .int .u64 (p.s 2), .int .u64 (p.s 3), p.v]
abbrev pcval (p : PlC) : Value := .agg (pcarr p)
theorem PCk.cells {W : World} {b : Nat} {p : PlC} (h : Blk W b 115 (pcarr p)) : W.cell? ⟨b, 0, none⟩ = some (.int .u64 (p.s 0)) ∧ W.cell? ⟨b, 1, none⟩ = some (.int .u64 (p.s 1)) ∧ W.cell? ⟨b, 2, none⟩ = some (.int .u64 (p.s 2)) ∧ W.cell? ⟨b, 3, none⟩ = some (.int .u64 (p.s 3)) ∧ W.cell? ⟨b, 4, none⟩ = some p.v :=
  ⟨h.cell 0 rfl, h.cell 1 rfl, h.cell 2 rfl, h.cell 3 rfl, h.cell 4 rfl⟩

end Go.Proofs.YtmlkpdeidpcidaaDoor
namespace Go.Proofs.YtmlkpdeidpcidaaDoor
open Go.RowKit
set_option linter.unusedVariables false

theorem wide_small {m : Mach} (hm : mayB m = true) (z : m.st ≤ 6) {seen ss : List Int} (hs : ∀ x ∈ ss, 0 ≤ x ∧ x < m.st) : (wideL m.arrows seen ss).length ≤ 6 := by
  refine nodup_len 6 _ (inc_nodup (inc_wide _ _ _)) (fun x hx => ?_)
  have := wide_bd hm hs x hx
  omega
theorem hFrom_small {m : Mach} (hm : mayB m = true) (z : m.st ≤ 6) (seen : List Int) (f : Nat) : ∀ k, (hFrom m seen f k).length ≤ k * 6
  | 0 => by simp [hFrom]
  | k + 1 => by
    have h1 := hFrom_small hm z seen f k
    have h2 : (hRow m seen f k).length ≤ 6 := by unfold hRow; rw [List.length_map]; exact wide_small hm z (step_bd hm)
    rw [hFrom_succ, List.length_append]; omega
theorem hAll_small {m : Mach} (hm : mayB m = true) (z : m.st ≤ 6) (seen : List Int) (h8 : seen.length ≤ 8) : ∀ f, (hAll m seen f).length ≤ f * 48
  | 0 => by simp [hAll]
  | f + 1 => by
    have h1 := hAll_small hm z seen h8 f
    have h2 := hFrom_small hm z seen f seen.length
    rw [hAll_succ, List.length_append]; omega
theorem hide_small {m : Mach} (hm : mayB m = true) (z : m.st ≤ 6) {seen : List Int} (hr : rowB m.ev seen = true) : (hAll m seen m.st.toNat).length ≤ 4096 := by
  have hz := mayB_size hm
  unfold sizeOk at hz
  have h8 := row_short (by omega) (by omega) hr
  have := hAll_small hm z seen (by omega) m.st.toNat
  omega
/-- Hide, where nothing is wrong. -/
theorem hide_okp (m : Mach) (l : ML) (sa : Option Addr) (sc : Nat) (seen : List Int) (w : World) (h : MAt w m l) (hs : At w sa seen) (hsl : seen.length ≤ maxLen) (hT : Tab w) (hm : mayB m = true) (hr : rowB m.ev seen = true) (ha : (hAll m seen m.st.toNat).length ≤ 4096) :
    Calls Tryd.prog 25 #[mval m l, .slice sa seen.length sc] w fun e w' => ∃ L, e = .returned (.tuple #[mval (hideM m seen) L, .int .i64 0]) ∧ MAt w' (hideM m seen) L ∧ Below w.heap.size w w' := by
  refine (pHide_any m l sa sc seen w h hs hsl hT).mono ?_
  intro e w' hp
  unfold HidePost at hp
  rw [if_neg (by rw [hm, hr]; simp), if_pos ha] at hp
  exact hp

end Go.Proofs.YtmlkpdeidpcidaaDoor
namespace Go.Proofs.YtmlkpdeidpcidaaDoor
open Go.RowKit
set_option linter.unusedVariables false

/-! A set that has states, all of them another one's. -/
def onlyS (S T : Nat → Nat) : Bool := !emptyB S && emptyB (lessS S T)
theorem only_set {M R : Nat → Nat} {row k : List Int} (hm : Rep M row) (hR : Rep R k) : onlyS M R = leakB k row := by
  unfold onlyS leakB
  cases he : emptyB M with
  | true =>
    have : row = [] := by
      rw [List.eq_nil_iff_forall_not_mem]
      intro x hx
      obtain ⟨b0, b1⟩ := hm.bd x hx
      have h1 := empty_has he x.toNat (by omega)
      rw [(hm.mem x.toNat (by omega)).2 (by rwa [Int.toNat_of_nonneg b0])] at h1
      cases h1
    subst this; rfl
  | false =>
    obtain ⟨n, hn, h1⟩ := empty_not hm.ok he
    have hpos : 0 < row.length := List.length_pos_of_mem ((hm.mem n hn).1 h1)
    rw [decide_eq_true hpos]
    simp only [Bool.not_false, Bool.true_and]
    cases hl : emptyB (lessS M R) with
    | true =>
      symm
      rw [decide_eq_true_eq, List.length_eq_zero_iff, List.filter_eq_nil_iff]
      intro x hx
      obtain ⟨b0, b1⟩ := hm.bd x hx
      have h2 := empty_has hl x.toNat (by omega)
      rw [hasS_less hR.ok, (hm.mem x.toNat (by omega)).2 (by rwa [Int.toNat_of_nonneg b0])] at h2
      have h3 : hasS R x.toNat = true := by simpa using h2
      have := (hR.mem x.toNat (by omega)).1 h3
      rw [Int.toNat_of_nonneg b0] at this
      unfold hasB; simpa using this
    | false =>
      obtain ⟨m, hm1, h2⟩ := empty_not (okS_less hm.ok) hl
      rw [hasS_less hR.ok] at h2
      simp only [Bool.and_eq_true, Bool.not_eq_true'] at h2
      have m1 := (hm.mem m hm1).1 h2.1
      have m2 : ¬ (m : Int) ∈ k := fun hk => by
        have := (hR.mem m hm1).2 hk
        rw [h2.2] at this; cases this
      symm
      rw [decide_eq_false_iff_not]
      have : 0 < (row.filter fun n => hasB k n == false).length := List.length_pos_of_mem (List.mem_filter.2 ⟨m1, by unfold hasB; simpa using m2⟩)
      omega

end Go.Proofs.YtmlkpdeidpcidaaDoor
namespace Go.Proofs.YtmlkpdeidpcidaaDoor
open Go.RowKit
set_option linter.unusedVariables false

theorem fold_take {σ : Type} (f : σ → Int → σ) (s : σ) {word : List Int} {k : Nat} {x : Int} (h : k < word.length) (hx : Hid (x = word[k]?.getD 0)) : (word.take (k + 1)).foldl f s = f ((word.take k).foldl f s) x := by
  rw [List.take_add_one, List.getElem?_eq_getElem h, Option.toList_some, List.foldl_append, hx.out, List.getElem?_eq_getElem h]; rfl

set_option maxRecDepth 100000 in
set_option maxHeartbeats 8000000 in
theorem rfrom_go (st ev : Int) (starts : List Int) (ars : List Arr) (ends seen secret : List Int) (a1 : Option Addr) (c1 : Nat) (a2 : Option Addr) (c2 : Nat) (a3 : Option Addr) (c3 : Nat) (sa : Option Addr) (sc : Nat) (ta : Option Addr) (tc : Nat) (xa wa : Option Addr) (xc wc : Nat) (ss word : List Int) (w : World) (h : Hid (PAt w ⟨⟨st, ev, starts, ars, ends⟩, seen, secret⟩ ⟨⟨a1, c1, a2, c2, a3, c3⟩, sa, sc, ta, tc⟩)) (hm : Hid (mayB ⟨st, ev, starts, ars, ends⟩ = true)) (hs : Hid (At w xa ss)) (hsl : Hid (ss.length ≤ 4096)) (hsn : Hid (xa = none → xc = 0)) (hw : Hid (At w wa word)) (hwl : word.length ≤ 9223372036854775807) :
    Calls Tryd.prog 80 #[ptval ⟨⟨st, ev, starts, ars, ends⟩, seen, secret⟩ ⟨⟨a1, c1, a2, c2, a3, c3⟩, sa, sc, ta, tc⟩, .slice xa ss.length xc, .slice wa word.length wc] w fun e w' => GivesO w (fromL ⟨⟨st, ev, starts, ars, ends⟩, seen, secret⟩ ss word) e w' := by
  have hz := mayB_size hm.out
  unfold sizeOk at hz
  dsimp only at hz
  have hlen : Hid (ars.length ≤ 4096) := show _ ≤ _ by omega
  clear hz
  have hto : Hid (∀ a ∈ ars, 0 ≤ a.t ∧ a.t < (256 : Nat)) := may_to hm.out
  have B : Hid (Below w.heap.size w (w.alloc (.cells (ptcells ⟨⟨st, ev, starts, ars, ends⟩, seen, secret⟩ ⟨⟨a1, c1, a2, c2, a3, c3⟩, sa, sc, ta, tc⟩) 44))) := (Below.refl _ _).alloc (Nat.le_refl _) _
  have K : Hid (Blk (w.alloc (.cells (ptcells ⟨⟨st, ev, starts, ars, ends⟩, seen, secret⟩ ⟨⟨a1, c1, a2, c2, a3, c3⟩, sa, sc, ta, tc⟩) 44)) w.heap.size 44 (ptcells ⟨⟨st, ev, starts, ars, ends⟩, seen, secret⟩ ⟨⟨a1, c1, a2, c2, a3, c3⟩, sa, sc, ta, tc⟩)) := Blk.new w _ _
  go_enter Tryd.func80, Tryd.ntmps80
  go_wp2_with fail
  revert B K
  show Hid (Below w.heap.size w (w.alloc (.cells #[.int .i64 st, .int .i64 ev, .slice a1 starts.length c1, .slice a2 ars.length c2, .slice a3 ends.length c3, .slice sa seen.length sc, .slice ta secret.length tc] 44))) → _
  generalize w.alloc (.cells #[.int .i64 st, .int .i64 ev, .slice a1 starts.length c1, .slice a2 ars.length c2, .slice a3 ends.length c3, .slice sa seen.length sc, .slice ta secret.length tc] 44) = V0
  intro B K
  refine (refWide_any ⟨st, ev, starts, ars, ends⟩ ⟨a1, c1, a2, c2, a3, c3⟩ xa sa xc sc ss seen V0 (h.out.m.a.below B.out (Nat.le_refl _)) hlen.out hto.out (hs.out.below B.out (Nat.le_refl _)) hsl.out hsn.out (h.out.s.at_.below B.out (Nat.le_refl _)) h.out.s.len).mono ?_
  rintro e W1 ⟨v, rfl, ov, hb⟩
  have OV : Hid (Own W1 w.heap.size v (wideL ars seen ss)) := Own.low ov B.out.size
  replace B := Hid.of (B.out.trans (hb.mono B.out.size))
  replace K := Hid.of (K.out.below hb K.out.lt)
  clear hb ov
  go_wp2_with fail
  go_loopw [7, 8] (fun v7 i wr => ∃ k : Nat, i = .int .i64 k ∧ k ≤ word.length ∧ Hid (Own wr w.heap.size v7 ((word.take k).foldl (seeL ⟨⟨st, ev, starts, ars, ends⟩, seen, secret⟩) (wideL ars seen ss))) ∧ Hid (Below w.heap.size w wr) ∧ Hid (Blk wr w.heap.size 44 (ptcells ⟨⟨st, ev, starts, ars, ends⟩, seen, secret⟩ ⟨⟨a1, c1, a2, c2, a3, c3⟩, sa, sc, ta, tc⟩))) (fun _ i _ => word.length - (intOf i).toNat)
  case atStart => exact ⟨0, rfl, Nat.zero_le _, OV, B, K⟩
  case round =>
    clear OV B K
    obtain ⟨k, rfl, hk, OV, B, K⟩ := hrel
    by_cases hlt : k < word.length
    · rcases hw.out with hw0 | ⟨wb, wo, rfl, hwb, hwc⟩
      · rw [hw0] at hlt; simp at hlt
      obtain ⟨x, HX⟩ : ∃ x, Hid (x = word[k]?.getD 0) := ⟨_, rfl⟩
      have cw : wr.cell? ⟨wb, wo + k, none⟩ = some (.int .i64 x) := by
        rw [HX.out, ← List.getD_eq_getElem?_getD]
        exact (B.out.cell (p := ⟨wb, wo + k, none⟩) hwb).trans (hwc k hlt)
      have HWB := Hid.of hwb
      obtain ⟨x0, x1, x2, x3, x4, x5, x6⟩ := ptcell_at K.out
      dsimp only at x0 x1 x2 x3 x4 x5 x6
      obtain ⟨va, vc, hva, vat, vl1, vl2, -⟩ := Own.at2 OV.out
      have hvl : Hid (((word.take k).foldl (seeL ⟨⟨st, ev, starts, ars, ends⟩, seen, secret⟩) (wideL ars seen ss)).length ≤ maxLen) := Nat.le_trans vl1 vl2
      have HV := Hid.of vat
      have HNX : Hid ((word.take (k + 1)).foldl (seeL ⟨⟨st, ev, starts, ars, ends⟩, seen, secret⟩) (wideL ars seen ss) = seeL ⟨⟨st, ev, starts, ars, ends⟩, seen, secret⟩ ((word.take k).foldl (seeL ⟨⟨st, ev, starts, ars, ends⟩, seen, secret⟩) (wideL ars seen ss)) x) := fold_take _ _ hlt HX
      subst hva
      clear vat vl1 vl2 hwc hwb
      revert HNX HV hvl OV
      generalize (word.take k).foldl (seeL ⟨⟨st, ev, starts, ars, ends⟩, seen, secret⟩) (wideL ars seen ss) = cur
      intro hvl HV HNX OV
      go_wp2_with fail
      refine wp_region_held_drew (S := fun w' => w'.cell? ⟨w.heap.size, 0, none⟩ = some (.int .i64 st) ∧ w'.cell? ⟨w.heap.size, 1, none⟩ = some (.int .i64 ev) ∧ w'.cell? ⟨w.heap.size, 2, none⟩ = some (.slice a1 starts.length c1) ∧ w'.cell? ⟨w.heap.size, 3, none⟩ = some (.slice a2 ars.length c2) ∧ w'.cell? ⟨w.heap.size, 4, none⟩ = some (.slice a3 ends.length c3) ∧ w'.cell? ⟨w.heap.size, 5, none⟩ = some (.slice sa seen.length sc) ∧ w'.cell? ⟨w.heap.size, 6, none⟩ = some (.slice ta secret.length tc) ∧ w'.cell? ⟨wb, wo + k, none⟩ = some (.int .i64 x)) (by kernel_rfl) ⟨x0, x1, x2, x3, x4, x5, x6, cw⟩ (fun hS => ?_)
      have Bd : Hid (Below w.heap.size w wr.drew) := B.out.drew
      have Kd : Hid (Blk wr.drew w.heap.size 44 (ptcells ⟨⟨st, ev, starts, ars, ends⟩, seen, secret⟩ ⟨⟨a1, c1, a2, c2, a3, c3⟩, sa, sc, ta, tc⟩)) := Blk.drew K.out
      have HVd : Hid (At wr.drew va cur) := At.drewN HV.out 1
      have CW : Hid (wr.drew.cell? ⟨wb, wo + k, none⟩ = some (.int .i64 x)) := cw
      clear x0 x1 x2 x3 x4 x5 x6 cw B K HV OV
      revert hS Bd Kd HVd CW
      generalize wr.drew = Y
      intro hS Bd Kd HVd CW
      refine wpAnyH_take (i := 0) (v := .pointer (some ⟨w.heap.size, 0, none⟩)) rfl (by kernel_rfl) (by kernel_rfl) (by kernel_rfl) (fun _ _ _ h => h) (Or.inl ⟨by kernel_rfl, fun w' hw' => by obtain ⟨q0, q1, q2, q3, q4, q5, q6, q7⟩ := hw'; go_simp⟩) hS ?_
      refine wpAnyH_take (i := 1) (v := mval ⟨st, ev, starts, ars, ends⟩ ⟨a1, c1, a2, c2, a3, c3⟩) rfl (by kernel_rfl) (by kernel_rfl) (by kernel_rfl) (fun _ _ _ h => h) (Or.inl ⟨by kernel_rfl, fun w' hw' => by obtain ⟨q0, q1, q2, q3, q4, q5, q6, q7⟩ := hw'; go_simp⟩) hS ?_
      refine wpAnyH_take (i := 2) (v := .slice va cur.length vc) rfl (by kernel_rfl) (by kernel_rfl) (by kernel_rfl) (fun _ _ _ h => h) (Or.inl ⟨by kernel_rfl, fun w' hw' => by obtain ⟨q0, q1, q2, q3, q4, q5, q6, q7⟩ := hw'; go_simp⟩) hS ?_
      refine wpAnyH_take (i := 3) (v := .pointer (some ⟨w.heap.size, 5, none⟩)) rfl (by kernel_rfl) (by kernel_rfl) (by kernel_rfl) (fun _ _ _ h => h) (Or.inl ⟨by kernel_rfl, fun w' hw' => by obtain ⟨q0, q1, q2, q3, q4, q5, q6, q7⟩ := hw'; go_simp⟩) hS ?_
      refine wpAnyH_take (i := 4) (v := .slice sa seen.length sc) rfl (by kernel_rfl) (by kernel_rfl) (by kernel_rfl) (fun _ _ _ h => h) (Or.inl ⟨by kernel_rfl, fun w' hw' => by obtain ⟨q0, q1, q2, q3, q4, q5, q6, q7⟩ := hw'; go_simp⟩) hS ?_
      refine wpAnyH_take (i := 5) (v := .slice (some ⟨wb, wo, none⟩) word.length wc) rfl (by kernel_rfl) (by kernel_rfl) (by kernel_rfl) (fun _ _ _ h => h) (Or.inl ⟨by kernel_rfl, fun w' hw' => by obtain ⟨q0, q1, q2, q3, q4, q5, q6, q7⟩ := hw'; go_simp⟩) hS ?_
      refine wpAnyH_take (i := 6) (v := .int .i64 k) rfl (by kernel_rfl) (by kernel_rfl) (by kernel_rfl) (fun _ _ _ h => h) (Or.inl ⟨by kernel_rfl, fun w' hw' => by obtain ⟨q0, q1, q2, q3, q4, q5, q6, q7⟩ := hw'; go_simp⟩) hS ?_
      refine wpAnyH_take (i := 7) (v := .pointer (some ⟨wb, wo + k, none⟩)) rfl (by kernel_rfl) (by kernel_rfl) (by kernel_rfl) (fun _ _ _ h => h) (Or.inl ⟨by kernel_rfl, fun w' hw' => by obtain ⟨q0, q1, q2, q3, q4, q5, q6, q7⟩ := hw'; go_simp⟩) hS ?_
      refine wpAnyH_take (i := 8) (v := .int .i64 x) rfl (by kernel_rfl) (by kernel_rfl) (by kernel_rfl) (fun _ _ _ h => h) (Or.inl ⟨by kernel_rfl, fun w' hw' => by obtain ⟨q0, q1, q2, q3, q4, q5, q6, q7⟩ := hw'; go_simp⟩) hS ?_
      simp only [Act.put, List.setIfInBounds_toArray]
      refine wpAnyH_ready (rs := [9]) (by kernel_rfl) (by simp) ?_
      refine AllReadyH.cons rfl (fun K' hK' => ?_) AllReadyH.nil
      go_simp
      refine (refSeeing_any ⟨st, ev, starts, ars, ends⟩ ⟨a1, c1, a2, c2, a3, c3⟩ va sa vc sc cur seen x Y (h.out.m.a.below Bd.out (Nat.le_refl _)) hlen.out hto.out HVd.out hvl.out (h.out.s.at_.below Bd.out (Nat.le_refl _)) h.out.s.len).mono ?_
      rintro e Y1 ⟨v, rfl, ov, hb⟩
      have OV : Hid (Own Y1 w.heap.size v (seeL ⟨⟨st, ev, starts, ars, ends⟩, seen, secret⟩ cur x)) := Own.low ov Bd.out.size
      have B := Hid.of (Bd.out.trans (hb.mono Bd.out.size))
      have K := Hid.of (Kd.out.below hb Kd.out.lt)
      have cw1 : Y1.cell? ⟨wb, wo + k, none⟩ = some (.int .i64 x) := (hb.cell (p := ⟨wb, wo + k, none⟩) (Nat.lt_of_lt_of_le HWB.out Bd.out.size)).trans CW.out
      obtain ⟨x0, x1, x2, x3, x4, x5, x6⟩ := ptcell_at K.out
      obtain ⟨na, nc, hna, -, -, -⟩ := own_form2 OV.out
      subst hna
      refine hK'.out _ _ ⟨x0, x1, x2, x3, x4, x5, x6, cw1⟩ (fun hS1 => ?_)
      clear hK' K' hb ov hS x0 x1 x2 x3 x4 x5 x6 cw1 Bd Kd HVd CW
      refine wpAnyH_take (i := 10) (v := .slice na (seeL ⟨⟨st, ev, starts, ars, ends⟩, seen, secret⟩ cur x).length nc) rfl (by kernel_rfl) (by kernel_rfl) (by kernel_rfl) (fun _ _ _ h => h) (Or.inl ⟨by kernel_rfl, fun w' hw' => by obtain ⟨q0, q1, q2, q3, q4, q5, q6, q7⟩ := hw'; go_simp⟩) hS1 ?_
      refine wpAnyH_done (by kernel_rfl) ?_ _
      clear hS1
      revert HNX OV
      generalize seeL ⟨⟨st, ev, starts, ars, ends⟩, seen, secret⟩ cur x = nxt
      intro HNX OV
      go_wp2_with fail
      go_roundw
      case rel => exact ⟨k + 1, by go_num, by omega, (by show Own _ _ _ _; rw [HNX.out]; exact OV.out), B, K⟩
      case measure => simp [intOf]; omega
    · have hk2 : k = word.length := by omega
      have HE : Hid ((word.take k).foldl (seeL ⟨⟨st, ev, starts, ars, ends⟩, seen, secret⟩) (wideL ars seen ss) = fromL ⟨⟨st, ev, starts, ars, ends⟩, seen, secret⟩ ss word) := by show _ = _; rw [hk2, List.take_of_length_le (Nat.le_refl _)]; rfl
      have hltD : decide ((k : Int) < (word.length : Int)) = false := by simp; omega
      clear hk2
      rw [HE.out] at OV
      go_wp2_with fail
      go_ret
      exact ⟨_, rfl, OV.out, B.out⟩

theorem rFrom_any (p : Plant) (P : PTL) (xa wa : Option Addr) (xc wc : Nat) (ss word : List Int) (w : World) (h : PAt w p P) (hm : mayB p.m = true) (hs : At w xa ss) (hsl : ss.length ≤ 4096) (hsn : xa = none → xc = 0) (hw : At w wa word) (hwl : word.length ≤ maxLen) :
    Calls Tryd.prog 80 #[ptval p P, .slice xa ss.length xc, .slice wa word.length wc] w fun e w' => GivesO w (fromL p ss word) e w' := by
  obtain ⟨⟨st, ev, starts, ars, ends⟩, seen, secret⟩ := p
  obtain ⟨⟨a1, c1, a2, c2, a3, c3⟩, sa, sc, ta, tc⟩ := P
  exact rfrom_go st ev starts ars ends seen secret a1 c1 a2 c2 a3 c3 sa sc ta tc xa wa xc wc ss word w (Hid.of h) (Hid.of hm) (Hid.of hs) (Hid.of hsl) (Hid.of hsn) (Hid.of hw) hwl

set_option maxRecDepth 100000 in
set_option maxHeartbeats 4000000 in
theorem rEst_any (p : Plant) (P : PTL) (wa : Option Addr) (wc : Nat) (word : List Int) (w : World) (h : PAt w p P) (hm : mayB p.m = true) (hw : At w wa word) (hwl : word.length ≤ maxLen) :
    Calls Tryd.prog 33 #[ptval p P, .slice wa word.length wc] w fun e w' => GivesO w (estL p word) e w' := by
  have hsl : p.m.starts.length ≤ 4096 := by
    have h1 := mayB_size hm
    unfold sizeOk at h1
    have h2 := may_starts hm
    have := nodup_len 256 _ (inc_nodup h2.1) (fun x hx => by have := h2.2 x hx; omega)
    omega
  have B : Hid (Below w.heap.size w (w.alloc (.cells (ptcells p P) 44))) := (Below.refl _ _).alloc (Nat.le_refl _) _
  have H := Hid.of h
  have HM := Hid.of hm
  have HW := Hid.of hw
  have HWL := Hid.of hwl
  have HSL := Hid.of hsl
  clear h hm hw hwl hsl
  go_enter Tryd.func33, Tryd.ntmps33
  go_wp2_with fail
  have KEY := Hid.of (rFrom_any p P P.l.a1 wa P.l.c1 wc p.m.starts word _ (H.out.below B.out (Nat.le_refl _)) HM.out (H.out.m.s.below B.out (Nat.le_refl _)) HSL.out H.out.m.s3 (HW.out.below B.out (Nat.le_refl _)) HWL.out)
  refine KEY.out.mono ?_
  rintro e W1 ⟨v, rfl, ov, hb⟩
  have OV : Hid (Own W1 w.heap.size v (estL p word)) := Own.low ov B.out.size
  have B1 := Hid.of (B.out.trans (hb.mono B.out.size))
  clear ov hb KEY
  go_wp2_with fail
  go_ret
  exact ⟨v, rfl, OV.out, B1.out⟩

end Go.Proofs.YtmlkpdeidpcidaaDoor
