/-
  Plain: what package beside makes of pairs and arrows on its way, held against what the chapter says. No program, no model.
  What is said of package beside's finder in a world: its block, its rows, its map; what a call turns of it; the map's look-up and its store.
  What a call turns of a world ('Turn'); what is said of package beside's finder ('FD').
  The walks of finder.fits and finder.number.
  The finder's rows of starts, of arrows and of ends: one element more.
  The walk of finder.begin.
-/
import Derived.Test.YtdnglodemkeooaaDoorG31
import Derived.DeepKeys4
import Derived.Maps.Keyed
import Derived.Deep.RegionHeld3
import Derived.Test.YtdnglodemkeooaaDoorCOwnMore
import Derived.Deep.RegionWith
namespace Go.Proofs.YtdnglodemkeooaaDoor
open Go.RowKit
set_option linter.unusedVariables false

/-- Where the arrows of a state lead to at an event, in the arrows' order. -/
def tosL (ars : List Arr) (s e : Int) : List Int := (ars.filter fun a => a.f == s && a.e == e).map (·.t)
theorem inc_tosL {ars : List Arr} (h : IncA ars) (s e : Int) : Inc (tosL ars s e) := by
  unfold tosL
  rw [Inc, List.pairwise_map]
  refine (h.filter _).imp_of_mem (fun {x y} hx hy hxy => ?_)
  have h1 := (List.mem_filter.1 hx).2
  have h2 := (List.mem_filter.1 hy).2
  simp at h1 h2
  rw [aheadB_iff] at hxy
  omega
theorem tosL_step {m : Mach} (hm : mayB m = true) (s e : Int) : tosL m.arrows s e = stepL m.arrows [s] e := by
  refine inc_ext (inc_tosL (may_inc hm) s e) (inc_srt _) (fun x => ?_)
  refine Iff.trans ?_ (mem_stepL m.arrows [s] e x).symm
  unfold tosL
  rw [List.mem_map]
  constructor
  · rintro ⟨a, ha, rfl⟩
    obtain ⟨h1, h2⟩ := List.mem_filter.1 ha
    simp at h2
    exact ⟨a, h1, h2.2, by simp [h2.1], rfl⟩
  · rintro ⟨a, ha, h1, h2, h3⟩
    exact ⟨a, List.mem_filter.2 ⟨ha, by simp at h2; simp [h1, h2]⟩, h3⟩
/-- What stands in the table at a state and an event. -/
def toL (ars : List Arr) (of : List Int) (s e : Int) : List Int := if hasB of e = true then tosL ars s e else [s]
theorem leadsP_to {a b : Mach} (ha : mayB a = true) (hb : mayB b = true) (ofA ofB : List Int) (p : Int × Int) (e : Int) (h : (hasB ofA e || hasB ofB e) = true) : leadsP a.arrows b.arrows p e (hasB ofA e) (hasB ofB e) = crossP (toL a.arrows ofA p.1 e) (toL b.arrows ofB p.2 e) := by
  unfold leadsP toL
  rw [if_pos h, tosL_step ha, tosL_step hb]
theorem toL_inc {m : Mach} (hm : mayB m = true) (of : List Int) (s e : Int) : Inc (toL m.arrows of s e) := by
  unfold toL
  split
  · exact inc_tosL (may_inc hm) s e
  · simp [Inc]
theorem toL_bd {m : Mach} (hm : mayB m = true) (of : List Int) {s : Int} (e : Int) (hs : 0 ≤ s ∧ s < m.st) : ∀ x ∈ toL m.arrows of s e, 0 ≤ x ∧ x < m.st := by
  intro x hx
  unfold toL at hx
  split at hx
  · unfold tosL at hx
    obtain ⟨a, ha, rfl⟩ := List.mem_map.1 hx
    have := may_arrs hm a (List.mem_filter.1 ha).1
    exact ⟨this.2.2.1, this.2.2.2.1⟩
  · simp at hx; subst hx; exact hs
theorem toL_len {m : Mach} (hm : mayB m = true) (of : List Int) (s e : Int) : (toL m.arrows of s e).length ≤ 4096 := by
  have := mayB_size hm
  unfold sizeOk at this
  unfold toL tosL
  split
  · rw [List.length_map]; exact Nat.le_trans (List.length_filter_le _ _) (by omega)
  · simp

/-- The events of which one takes part. -/
def evL (n : Nat) (ofA ofB : List Int) : List Int := (rngI n).filter fun e => (hasB ofA e || hasB ofB e)
theorem leadsP_none (A B : List Arr) (p : Int × Int) (e : Int) {x y : Bool} (h : (x || y) = false) : leadsP A B p e x y = [] := by
  unfold leadsP; rw [if_neg (by simp [h])]
theorem bEvs_evL (a b : Mach) (ofA ofB : List Int) (i : Nat) (p : Int × Int) (s : BS) : ∀ k, bEvs a b ofA ofB i p s k = (evL k ofA ofB).foldl (bEv a b ofA ofB i p) s
  | 0 => by simp [bEvs, evL, rngI]
  | k + 1 => by
    rw [bEvs_succ, bEvs_evL a b ofA ofB i p s k]
    unfold evL
    rw [rngI_succ, List.filter_append, List.foldl_append]
    cases h : (hasB ofA (k : Int) || hasB ofB (k : Int)) with
    | true => simp [h]
    | false =>
      unfold bEv
      rw [leadsP_none _ _ _ _ h]
      simp [h]
theorem evL_eq {n : Int} {ofA ofB l : List Int} (h0 : 0 ≤ n) (hA : ∀ x ∈ ofA, 0 ≤ x ∧ x < n) (hB : ∀ x ∈ ofB, 0 ≤ x ∧ x < n) (hl : Inc l) (hm : ∀ x, x ∈ l ↔ x ∈ ofA ∨ x ∈ ofB) : l = evL n.toNat ofA ofB := by
  refine inc_ext hl ((inc_rngI _).filter _) (fun x => ?_)
  unfold evL
  rw [List.mem_filter, mem_rngI, hm, Bool.or_eq_true, hasB_iff, hasB_iff]
  constructor
  · rintro (h | h)
    · have := hA x h; exact ⟨by omega, .inl h⟩
    · have := hB x h; exact ⟨by omega, .inr h⟩
  · exact fun h => h.2
theorem evL_bd {n : Nat} {ofA ofB : List Int} : ∀ x ∈ evL n ofA ofB, (0 ≤ x ∧ x < n) ∧ (hasB ofA x || hasB ofB x) = true := fun x hx => by
  obtain ⟨h1, h2⟩ := List.mem_filter.1 hx
  exact ⟨(mem_rngI _ _).1 h1, h2⟩
theorem evL_inc (n : Nat) (ofA ofB : List Int) : Inc (evL n ofA ofB) := (inc_rngI _).filter _
theorem evL_len (n : Nat) (ofA ofB : List Int) : (evL n ofA ofB).length ≤ n := Nat.le_trans (List.length_filter_le _ _) (by rw [rngI_len]; exact Nat.le_refl _)

/-! Too many: once, and for ever. -/
theorem bBig_add {i : Nat} {e : Int} {s : BS} {p : Int × Int} (h : bBig s = true) : bBig (bAdd i e s p) = true := by
  obtain ⟨t, h1, -⟩ := bAdd_ps i e s p
  have h2 : (bAdd i e s p).ar.length = s.ar.length + 1 := by simp [bAdd]
  unfold bBig at h ⊢
  rw [h1, h2, List.length_append]
  simp at h ⊢
  omega
theorem bBig_fold {i : Nat} {e : Int} : ∀ (L : List (Int × Int)) {s : BS}, bBig s = true → bBig (L.foldl (bAdd i e) s) = true
  | [], _, h => h
  | p :: r, s, h => bBig_fold r (bBig_add h)
theorem bBig_evs {a b : Mach} {ofA ofB : List Int} {i : Nat} {p : Int × Int} : ∀ (E : List Int) {s : BS}, bBig s = true → bBig (E.foldl (bEv a b ofA ofB i p) s) = true
  | [], _, h => h
  | e :: r, s, h => bBig_evs r (bBig_fold _ h)
theorem bBig_some {s : BS} (h : bBig s = false) : s.ps.length ≤ 256 ∧ s.ar.length ≤ 4096 := by
  unfold bBig at h; simp at h; omega
theorem bBig_mk {s : BS} (h1 : s.ps.length ≤ 256) (h2 : s.ar.length ≤ 4096) : bBig s = false := by
  unfold bBig; simp; omega
theorem besideS_great {a b : Mach} {ofA ofB : List Int} (h : 256 < (crossP a.starts b.starts).length) : besideS a b ofA ofB = none := by
  unfold besideS
  rw [show (300 : Nat) = 299 + 1 from rfl, bGo, if_pos (by dsimp only; omega)]
  rw [if_pos]
  unfold bPair
  rw [bEvs_evL]
  refine bBig_evs _ ?_
  unfold bBig
  simp; omega

/-! The order of arrows. -/
theorem incA_ext : ∀ {a b : List Arr}, IncA a → IncA b → (∀ x, x ∈ a ↔ x ∈ b) → a = b
  | [], [], _, _, _ => rfl
  | [], y :: r, _, _, h => absurd ((h y).2 (by simp)) (by simp)
  | x :: r, [], _, _, h => absurd ((h x).1 (by simp)) (by simp)
  | x :: r, y :: t, ha, hb, h => by
    obtain ⟨a1, a2⟩ := List.pairwise_cons.1 ha
    obtain ⟨b1, b2⟩ := List.pairwise_cons.1 hb
    have irr : ∀ z : Arr, ¬ aheadB z z = true := fun z hz => by rw [aheadB_iff] at hz; omega
    have hxy : x = y := by
      rcases List.mem_cons.1 ((h x).1 (by simp)) with e | hx
      · exact e
      · rcases List.mem_cons.1 ((h y).2 (by simp)) with e | hy
        · exact e.symm
        · exact absurd (aheadB_trans (a1 y hy) (b1 x hx)) (irr x)
    subst hxy
    congr 1
    refine incA_ext a2 b2 (fun z => ?_)
    constructor
    · intro hz
      rcases List.mem_cons.1 ((h z).1 (by simp [hz])) with e | hz'
      · subst e; exact absurd (a1 z hz) (irr z)
      · exact hz'
    · intro hz
      rcases List.mem_cons.1 ((h z).2 (by simp [hz])) with e | hz'
      · subst e; exact absurd (b1 z hz) (irr z)
      · exact hz'
/-- The arrows that are new, sorted, behind those of before. -/
theorem srtA_behind {A N D : List Arr} {i e : Int} (hA : ∀ x ∈ A, x.f < i ∨ (x.f = i ∧ x.e < e)) (hN : ∀ x ∈ N, x.f = i ∧ x.e = e) (hp : D.Perm N) (hs : D.Pairwise fun x y => x.t < y.t) : srtA A ++ D = srtA (A ++ N) := by
  refine incA_ext (List.pairwise_append.2 ⟨inc_srtA A, ?_, fun x hx y hy => ?_⟩) (inc_srtA _) (fun x => ?_)
  · refine hs.imp_of_mem (fun {x y} hx hy h => ?_)
    have h1 := hN x (hp.mem_iff.1 hx)
    have h2 := hN y (hp.mem_iff.1 hy)
    rw [aheadB_iff]; omega
  · have h1 := hA x ((mem_srtA _ _).1 hx)
    have h2 := hN y (hp.mem_iff.1 hy)
    rw [aheadB_iff]; omega
  · rw [List.mem_append, mem_srtA, mem_srtA, List.mem_append, hp.mem_iff]

/-- What holds of pairs and arrows ahead of pair i's event e. -/
structure SI (a b : Mach) (i e : Int) (s : BS) : Prop where
  nd : s.ps.Nodup
  cr : ∀ p ∈ s.ps, (0 ≤ p.1 ∧ p.1 < a.st) ∧ (0 ≤ p.2 ∧ p.2 < b.st)
  lo : ∀ x ∈ s.ar, x.f < i ∨ (x.f = i ∧ x.e < e)
theorem SI.mono {a b : Mach} {i e i' e' : Int} {s : BS} (h : SI a b i e s) (hlt : i < i' ∨ (i = i' ∧ e ≤ e')) : SI a b i' e' s :=
  ⟨h.nd, h.cr, fun x hx => by have := h.lo x hx; omega⟩
theorem bAdd_nd {i : Nat} {e : Int} {s : BS} {p : Int × Int} (h : s.ps.Nodup) : (bAdd i e s p).ps.Nodup := by
  unfold bAdd
  by_cases hn : findP s.ps p.1 p.2 = s.ps.length
  · dsimp only
    rw [if_pos hn, List.nodup_append]
    have hm := findP_new.1 hn
    exact ⟨h, by simp, fun x hx y hy e => by simp at hy; subst hy; subst e; exact hm hx⟩
  · dsimp only
    rw [if_neg hn]; exact h
theorem bAdd_mem {i : Nat} {e : Int} {s : BS} {p q : Int × Int} (h : q ∈ (bAdd i e s p).ps) : q ∈ s.ps ∨ q = p := by
  unfold bAdd at h
  dsimp only at h
  split at h
  · simpa using h
  · exact .inl h
theorem bAdd_at {i : Nat} {e : Int} {s : BS} {p : Int × Int} : (bAdd i e s p).ps[findP s.ps p.1 p.2]? = some p := by
  unfold bAdd
  by_cases hn : findP s.ps p.1 p.2 = s.ps.length
  · dsimp only
    rw [if_pos hn, hn]; simp
  · have hm : p ∈ s.ps := Classical.byContradiction fun hc => hn (findP_new.2 hc)
    dsimp only
    rw [if_neg hn]; exact findP_nth hm
/-- The arrows that a list of pairs brings. -/
def newA (i : Nat) (e : Int) : BS → List (Int × Int) → List Arr
  | _, [] => []
  | s, p :: r => ⟨(i : Int), e, (findP s.ps p.1 p.2 : Nat)⟩ :: newA i e (bAdd i e s p) r
theorem fold_ar (i : Nat) (e : Int) : ∀ (L : List (Int × Int)) (s : BS), (L.foldl (bAdd i e) s).ar = s.ar ++ newA i e s L
  | [], s => by simp [newA]
  | p :: r, s => by
    rw [List.foldl_cons, fold_ar i e r (bAdd i e s p), newA]
    show (s.ar ++ [_]) ++ _ = _
    simp
theorem newA_len (i : Nat) (e : Int) : ∀ (L : List (Int × Int)) (s : BS), (newA i e s L).length = L.length
  | [], _ => rfl
  | p :: r, s => by rw [newA, List.length_cons, newA_len i e r, List.length_cons]
theorem newA_in (i : Nat) (e : Int) : ∀ (L : List (Int × Int)) (s : BS), ∀ x ∈ newA i e s L, x.f = i ∧ x.e = e
  | [], s => by simp [newA]
  | p :: r, s => by
    intro x hx
    rw [newA] at hx
    rcases List.mem_cons.1 hx with rfl | hx
    · exact ⟨rfl, rfl⟩
    · exact newA_in i e r _ x hx
theorem newA_at (i : Nat) (e : Int) : ∀ (L : List (Int × Int)) (s : BS), ∀ x ∈ newA i e s L, ∃ p ∈ L, 0 ≤ x.t ∧ (L.foldl (bAdd i e) s).ps[x.t.toNat]? = some p
  | [], s => by simp [newA]
  | p :: r, s => by
    intro x hx
    rw [newA] at hx
    rcases List.mem_cons.1 hx with rfl | hx
    · refine ⟨p, by simp, by dsimp only; omega, ?_⟩
      rw [List.foldl_cons]
      obtain ⟨t, h1, -⟩ := bFold_ps i e r (bAdd i e s p)
      have h2 := bAdd_at (i := i) (e := e) (s := s) (p := p)
      dsimp only
      rw [Int.toNat_natCast, h1, List.getElem?_append_left (List.getElem?_eq_some_iff.1 h2).1]
      exact h2
    · obtain ⟨q, hq, h1, h2⟩ := newA_at i e r _ x hx
      exact ⟨q, by simp [hq], h1, h2⟩
theorem newA_nd (i : Nat) (e : Int) : ∀ (L : List (Int × Int)) (s : BS), L.Nodup → (newA i e s L).Pairwise (fun x y => x.t ≠ y.t)
  | [], s, _ => by simp [newA]
  | p :: r, s, h => by
    obtain ⟨h1, h2⟩ := List.nodup_cons.1 h
    rw [newA]
    refine List.pairwise_cons.2 ⟨fun y hy he => ?_, newA_nd i e r _ h2⟩
    obtain ⟨q, hq, h3, h4⟩ := newA_at i e r _ y hy
    dsimp only at he
    rw [← he, Int.toNat_natCast] at h4
    obtain ⟨t, h5, -⟩ := bFold_ps i e r (bAdd i e s p)
    have h6 := bAdd_at (i := i) (e := e) (s := s) (p := p)
    rw [h5, List.getElem?_append_left (List.getElem?_eq_some_iff.1 h6).1, h6] at h4
    cases h4
    exact h1 hq
theorem fold_nd (i : Nat) (e : Int) : ∀ (L : List (Int × Int)) {s : BS}, s.ps.Nodup → (L.foldl (bAdd i e) s).ps.Nodup
  | [], _, h => h
  | p :: r, s, h => fold_nd i e r (bAdd_nd h)
theorem fold_mem (i : Nat) (e : Int) : ∀ (L : List (Int × Int)) {s : BS} {q : Int × Int}, q ∈ (L.foldl (bAdd i e) s).ps → q ∈ s.ps ∨ q ∈ L
  | [], _, _, h => .inl h
  | p :: r, s, q, h => by
    rcases fold_mem i e r (s := bAdd i e s p) h with h | h
    · rcases bAdd_mem h with h | rfl
      · exact .inl h
      · exact .inr (by simp)
    · exact .inr (by simp [h])
theorem SI.fold {a b : Mach} {i : Nat} {e : Int} {s : BS} {L : List (Int × Int)} (h : SI a b i e s) (hL : ∀ p ∈ L, (0 ≤ p.1 ∧ p.1 < a.st) ∧ (0 ≤ p.2 ∧ p.2 < b.st)) : SI a b i (e + 1) (L.foldl (bAdd i e) s) := by
  refine ⟨fold_nd i e L h.nd, fun p hp => ?_, fun x hx => ?_⟩
  · rcases fold_mem i e L hp with hp | hp
    · exact h.cr p hp
    · exact hL p hp
  · rw [fold_ar] at hx
    rcases List.mem_append.1 hx with hx | hx
    · have := h.lo x hx; omega
    · have := newA_in i e L s x hx; omega
theorem newA_snoc (i : Nat) (e : Int) : ∀ (L : List (Int × Int)) (s : BS) (p : Int × Int), newA i e s (L ++ [p]) = newA i e s L ++ [⟨(i : Int), e, (findP (L.foldl (bAdd i e) s).ps p.1 p.2 : Nat)⟩]
  | [], s, p => by simp [newA]
  | q :: r, s, p => by
    rw [List.cons_append, newA, newA_snoc i e r (bAdd i e s q) p, newA]
    simp
/-- Starts: each pair is new. -/
theorem findP_cross {S T : List Int} (hS : Inc S) (hT : Inc T) {n : Nat} {p : Int × Int} (hp : (crossP S T)[n]? = some p) : findP ((crossP S T).take n) p.1 p.2 = n := by
  have hn := (List.getElem?_eq_some_iff.1 hp).1
  have hnd := nodup_crossP (inc_nodup hS) (inc_nodup hT)
  have : p ∉ (crossP S T).take n := by
    intro hm
    obtain ⟨j, hj⟩ := List.mem_iff_getElem?.1 hm
    rw [List.getElem?_take] at hj
    split at hj
    · rename_i hjn
      obtain ⟨l1, e1⟩ := List.getElem?_eq_some_iff.1 hj
      obtain ⟨l2, e2⟩ := List.getElem?_eq_some_iff.1 hp
      have := (List.getElem_inj hnd).1 (e1.trans e2.symm)
      omega
    · cases hj
  rw [findP_new.2 this, List.length_take]
  omega

end Go.Proofs.YtdnglodemkeooaaDoor
namespace Go.Proofs.YtdnglodemkeooaaDoor
open Go.RowKit
set_option linter.unusedVariables false

/-! The map. -/
theorem laidOut : laidOutB Tryd.prog = true := by kernel_rfl
theorem rowPair : (129 : TypeId) < Tryd.prog.types.size := of_decide_eq_true (by kernel_rfl)
theorem widePair : (match Tryd.prog.underlying 129 with | some (.array _ _) | some (.struct _) => true | _ => false) = true := by kernel_rfl
set_option maxRecDepth 100000 in
theorem lawPair : WideMaps.KeyLaw Tryd.prog 129 := deep_law_laid laidOut (m := 3) (by omega) rowPair (by kernel_rfl) widePair
abbrev pval (p : Int × Int) : Value := .agg #[.int .i64 p.1, .int .i64 p.2]
set_option maxRecDepth 100000 in
theorem keyPair (p : Int × Int) (h1 : (Lit.int .i64 p.1).wf = true) (h2 : (Lit.int .i64 p.2).wf = true) : ∃ l, keyOf Tryd.prog 129 (pval p) = some l := by
  have hk : Tryd.prog.keyType 129 = true := by kernel_rfl
  have hc : Tryd.prog.cellsOf 129 = 2 := by kernel_rfl
  have hci : Tryd.prog.cellsOf 3 = 1 := by kernel_rfl
  have hs : ∃ m, Tryd.prog.types.size = m + 1 := ⟨_, (Nat.succ_pred_eq_of_pos (Nat.lt_of_le_of_lt (Nat.zero_le _) rowPair)).symm⟩
  obtain ⟨m, hm⟩ := hs
  unfold keyOf
  simp only [Tryd.underlying129]
  rw [if_pos (by simp [hk, Value.formed, Tryd.underlying129, hc]), hm]
  unfold Program.keyLits
  simp only [Tryd.underlying129, Value.cells]
  simp [hc, hci, Program.keyLits, Tryd.underlying3, h1, h2]

def entP (k : Nat) (p : Int × Int) : MapEntry := { key := pval p, val := .int .i64 k, born := k }
def entsP (L : List (Int × Int)) : Array MapEntry := (L.mapIdx entP).toArray
theorem entsP_snoc (L : List (Int × Int)) (p : Int × Int) : entsP (L ++ [p]) = (entsP L).push (entP L.length p) := by
  unfold entsP; rw [List.mapIdx_concat]; simp
theorem wf_state {x : Int} (h : 0 ≤ x ∧ x < 256) : (Lit.int .i64 x).wf = true := WalkArith.wf_i64 (by omega)
/-- Pairs of states. -/
abbrev StP (p : Int × Int) : Prop := (0 ≤ p.1 ∧ p.1 < 256) ∧ (0 ≤ p.2 ∧ p.2 < 256)
theorem keyPair' {p : Int × Int} (h : StP p) : ∃ l, keyOf Tryd.prog 129 (pval p) = some l := keyPair p (wf_state h.1) (wf_state h.2)
theorem pval_inj {p q : Int × Int} (h : pval p = pval q) : p = q := by
  simp [pval] at h; exact Prod.ext h.1 h.2
theorem find_pair {L : List (Int × Int)} (hL : ∀ p ∈ L, StP p) (hnd : L.Nodup) {p : Int × Int} (hp : StP p) (w : World) :
    (Instr.findKey 129 (pval p) (entsP L).toList).run Tryd.prog w = .ok (if findP L p.1 p.2 = L.length then none else some (findP L p.1 p.2, .int .i64 (findP L p.1 p.2 : Nat))) w := by
  obtain ⟨l, hl⟩ := keyPair' hp
  have hget : ∀ j e, (entsP L).toList[j]? = some e → ∃ q, L[j]? = some q ∧ e = entP j q := by
    intro j e h
    simp only [entsP] at h
    rw [List.getElem?_mapIdx] at h
    cases hq : L[j]? with
    | none => rw [hq] at h; cases h
    | some q => rw [hq] at h; exact ⟨q, rfl, (Option.some.inj h).symm⟩
  have hes : ∀ e ∈ (entsP L).toList, ∃ l, keyOf Tryd.prog 129 e.key = some l := by
    intro e he
    obtain ⟨j, hj⟩ := List.mem_iff_getElem?.1 he
    obtain ⟨q, hq, rfl⟩ := hget j e hj
    exact keyPair' (hL q (List.mem_of_getElem? hq))
  rcases lawPair.find w hl (entsP L).toList hes with ⟨h1, h2⟩ | ⟨j, e, h1, h2, h3⟩
  · have hn : findP L p.1 p.2 = L.length := findP_new.2 fun hm => by
      obtain ⟨j, hj⟩ := List.mem_iff_getElem?.1 hm
      refine h2 (entP j p) (List.mem_of_getElem? (i := j) ?_) rfl
      simp only [entsP]
      rw [List.getElem?_mapIdx, hj]; rfl
    rw [h1, if_pos hn]
  · obtain ⟨q, hq, rfl⟩ := hget j e h2
    have : q = p := pval_inj h3
    subst this
    have hj : findP L q.1 q.2 = j := findP_at hnd hq
    have hlt := (List.getElem?_eq_some_iff.1 hq).1
    rw [h1, hj, if_neg (by omega)]; rfl
theorem mapPair : Tryd.prog.underlying 77 = some (.map 129 3) := by kernel_rfl
theorem look_known {L : List (Int × Int)} (hL : ∀ p ∈ L, StP p) (hnd : L.Nodup) {p : Int × Int} (hp : StP p) {w : World} {r c : Nat} (hm : w.heap[r]? = some (.map (entsP L) c)) (h : ¬ findP L p.1 p.2 = L.length) :
    (Instr.lookup 77 (.map (some r)) (pval p) true).run Tryd.prog w = .ok (.tuple #[.int .i64 (findP L p.1 p.2 : Nat), .bool true]) w := by
  obtain ⟨l, hl⟩ := keyPair' hp
  have h1 := find_pair hL hnd hp w
  rw [if_neg h] at h1
  simp [Instr.lookup, run_underlying mapPair, MapKept.run_getObj_map hm, lawPair.check w _ hl, h1, Result.andThen]
theorem look_new {L : List (Int × Int)} (hL : ∀ p ∈ L, StP p) (hnd : L.Nodup) {p : Int × Int} (hp : StP p) {w : World} {r c : Nat} (hm : w.heap[r]? = some (.map (entsP L) c)) (h : findP L p.1 p.2 = L.length) :
    (Instr.lookup 77 (.map (some r)) (pval p) true).run Tryd.prog w = .ok (.tuple #[.int .i64 0, .bool false]) w := by
  obtain ⟨l, hl⟩ := keyPair' hp
  have h1 := find_pair hL hnd hp w
  rw [if_pos h] at h1
  simp [Instr.lookup, run_underlying mapPair, MapKept.run_getObj_map hm, lawPair.check w _ hl, h1, Result.andThen]
theorem upd_new {L : List (Int × Int)} (hL : ∀ p ∈ L, StP p) (hnd : L.Nodup) {p : Int × Int} (hp : StP p) {w : World} {r : Nat} (hm : w.heap[r]? = some (.map (entsP L) L.length)) (h : findP L p.1 p.2 = L.length) :
    (Instr.mapUpdate 77 (.map (some r)) (pval p) (.int .i64 (L.length : Nat))).run Tryd.prog w = .ok () (setMap w r (.map (entsP (L ++ [p])) (L ++ [p]).length)) := by
  obtain ⟨l, hl⟩ := keyPair' hp
  have h1 := find_pair hL hnd hp w
  rw [if_pos h] at h1
  simp [Instr.mapUpdate, run_underlying mapPair, MapKept.run_getObj_map hm, lawPair.check w _ hl, h1, MapKept.run_setObj_map _ hm, Result.andThen, setMap, entsP_snoc, entP]

end Go.Proofs.YtdnglodemkeooaaDoor
namespace Go.Proofs.YtdnglodemkeooaaDoor
open Go.RowKit
set_option linter.unusedVariables false

/-- Nothing is turned but the blocks of F; and F' are blocks of F, or new ones. -/
structure Turn (F F' : Nat → Prop) (W W' : World) : Prop where
  os : W'.os = W.os
  tape : W'.tape = W.tape
  output : W'.output = W.output
  size : W.heap.size ≤ W'.heap.size
  block : ∀ j, j < W.heap.size → ¬ F j → W'.heap[j]? = W.heap[j]?
  fp : ∀ j, F' j → F j ∨ W.heap.size ≤ j
theorem Turn.refl (F : Nat → Prop) (W : World) : Turn F F W W := ⟨rfl, rfl, rfl, Nat.le_refl _, fun _ _ _ => rfl, fun _ h => .inl h⟩
theorem Turn.trans {F F' F'' : Nat → Prop} {W W' W'' : World} (h : Turn F F' W W') (k : Turn F' F'' W' W'') : Turn F F'' W W'' :=
  ⟨k.os.trans h.os, k.tape.trans h.tape, k.output.trans h.output, Nat.le_trans h.size k.size, fun j hj hn => (k.block j (Nat.lt_of_lt_of_le hj h.size) (fun hF => by
    rcases h.fp j hF with h1 | h1
    · exact hn h1
    · omega)).trans (h.block j hj hn), fun j hj => by
    rcases k.fp j hj with h1 | h1
    · exact h.fp j h1
    · exact .inr (Nat.le_trans h.size h1)⟩
theorem Turn.of_below {F : Nat → Prop} {W W' : World} (h : Below W.heap.size W W') : Turn F F W W' := ⟨h.os, h.tape, h.output, h.size, fun j hj _ => h.block j hj, fun _ h => .inl h⟩
theorem Turn.below {F F' : Nat → Prop} {n : Nat} {W W' : World} (h : Turn F F' W W') (hF : ∀ j, F j → n ≤ j) (hn : n ≤ W.heap.size) : Below n W W' := ⟨h.os, h.tape, h.output, h.size, fun j hj => h.block j (by omega) (fun hF' => by have := hF j hF'; omega)⟩
theorem Turn.alloc {F F' : Nat → Prop} {W W' : World} (h : Turn F F' W W') (o : Obj) : Turn F F' W (W'.alloc o) := h.trans (Turn.of_below ((Below.refl _ _).alloc (Nat.le_refl _) o))
theorem Turn.drew {F F' : Nat → Prop} {W W' : World} (h : Turn F F' W W') : Turn F F' W W'.drew := h.trans (Turn.of_below (Below.refl _ _).drew)
theorem Turn.set {F F' : Nat → Prop} {W W' : World} (h : Turn F F' W W') {b j : Nat} (hb : F' b) (v : Value) : Turn F F' W (W'.setCell ⟨b, j, none⟩ v) :=
  h.trans ⟨rfl, rfl, rfl, by simp [World.setCell], fun k _ hn => Below.heap_setCell _ _ _ _ (fun e => hn (by rw [e]; exact hb)), fun _ h => .inl h⟩
theorem Turn.map {F F' : Nat → Prop} {W W' : World} (h : Turn F F' W W') {b : Nat} (hb : F' b) (o : Obj) : Turn F F' W (setMap W' b o) :=
  h.trans ⟨rfl, rfl, rfl, by rw [size_setMap]; exact Nat.le_refl _, fun k _ hn => heap_setMap_ne _ _ _ (fun e => hn (by rw [e]; exact hb)), fun _ h => .inl h⟩
theorem Turn.grown {F F' F'' : Nat → Prop} {W W' W'' : World} {row : Option Nat} (h : Turn F F' W W') (g : W'.grownBy W'' row) (hr : ∀ k, row = some k → F' k) (hf : ∀ j, F'' j → F' j ∨ W'.heap.size ≤ j) : Turn F F'' W W'' :=
  h.trans ⟨g.os, g.tape, g.output, g.size, fun j hj hn => g.block j hj (fun e => hn (hr j e.symm)), hf⟩

/-! Rows of pairs. -/
theorem Tryd.infoPair : (Tryd.prog.info? 129).map (fun i => (i.zero, i.size, i.bytes)) = some (some (.agg #[.int .i64 0, .int .i64 0]), 2, 16) := by kernel_rfl
def pflat : List (Int × Int) → List Value
  | [] => []
  | p :: r => .int .i64 p.1 :: .int .i64 p.2 :: pflat r
theorem pflat_append : ∀ L M : List (Int × Int), pflat (L ++ M) = pflat L ++ pflat M
  | [], M => rfl
  | a :: r, M => by simp only [List.cons_append, pflat, pflat_append r M]
theorem pflat_at : ∀ {L : List (Int × Int)} {k : Nat} {p : Int × Int}, L[k]? = some p → (pflat L)[k * 2]? = some (.int .i64 p.1) ∧ (pflat L)[k * 2 + 1]? = some (.int .i64 p.2)
  | [], k, p, h => by simp at h
  | a :: r, 0, p, h => by simp at h; subst h; simp [pflat]
  | a :: r, k + 1, p, h => by
    have := pflat_at (L := r) (k := k) (p := p) (by simpa using h)
    rw [show (k + 1) * 2 = k * 2 + 1 + 1 by omega]
    simpa [pflat] using this
abbrev OwnP (W : World) (B : Nat) (v : Value) (P : List (Int × Int)) : Prop := W.ownsRow B 129 2 v P.length (pflat P)
theorem OwnP.cell {W : World} {B : Nat} {v : Value} {P : List (Int × Int)} (h : OwnP W B v P) {k : Nat} {p : Int × Int} (hk : P[k]? = some p) : ∃ g cap, v = .slice (some ⟨g, 0, none⟩) P.length cap ∧ B ≤ g ∧ g < W.heap.size ∧ W.cell? ⟨g, k * 2, none⟩ = some (.int .i64 p.1) ∧ W.cell? ⟨g, k * 2 + 1, none⟩ = some (.int .i64 p.2) := by
  rcases h.2 with ⟨rfl, hn⟩ | ⟨g, cap, cur, rfl, hg, hh, hnc, hcm, hcs, ht⟩
  · have := (List.getElem?_eq_some_iff.1 hk).1; omega
  · obtain ⟨h1, h2⟩ := pflat_at hk
    have c1 := h.cells (g := g) rfl _ _ h1
    have c2 := h.cells (g := g) rfl _ _ h2
    rw [addr0_add, Nat.zero_add] at c1 c2
    exact ⟨g, cap, rfl, hg, (Array.getElem?_eq_some_iff.1 hh).1, c1, c2⟩

abbrev fcells (st ev : Int) (vs va ve vp : Value) (br : Nat) : Array Value := #[.int .i64 st, .int .i64 ev, vs, va, ve, vp, .map (some br)]
/-- The finder in a world: its block bf, its map br, its rows made from block B on. -/
structure FD (B : Nat) (W : World) (bf br : Nat) (st ev : Int) (vs va ve vp : Value) (S : List Int) (A : List Arr) (E : List Int) (P : List (Int × Int)) : Prop where
  blk : Blk W bf 80 (fcells st ev vs va ve vp br)
  st : Own W B vs S
  ar : OwnA W B va A
  en : Own W B ve E
  ps : OwnP W B vp P
  mp : W.heap[br]? = some (.map (entsP P) P.length)
  ne : vs.ownBlock = none ∨ vs.ownBlock ≠ ve.ownBlock
  nd : P.Nodup
  cr : ∀ p ∈ P, StP p
  lof : B ≤ bf
  lor : B ≤ br
/-- Its blocks. -/
def FF (bf br : Nat) (vs va ve vp : Value) : Nat → Prop := fun j => j = bf ∨ j = br ∨ vs.ownBlock = some j ∨ va.ownBlock = some j ∨ ve.ownBlock = some j ∨ vp.ownBlock = some j
theorem FF.f (bf br : Nat) (vs va ve vp : Value) : FF bf br vs va ve vp bf := .inl rfl
theorem FF.r (bf br : Nat) (vs va ve vp : Value) : FF bf br vs va ve vp br := .inr (.inl rfl)
section
variable {B : Nat} {W W' : World} {bf br : Nat} {st ev : Int} {vs va ve vp : Value} {S : List Int} {A : List Arr} {E : List Int} {P : List (Int × Int)}
theorem FD.lt (h : FD B W bf br st ev vs va ve vp S A E P) : ∀ j, FF bf br vs va ve vp j → B ≤ j ∧ j < W.heap.size := by
  rintro j (rfl | rfl | hj | hj | hj | hj)
  · exact ⟨h.lof, h.blk.lt⟩
  · exact ⟨h.lor, (Array.getElem?_eq_some_iff.1 h.mp).1⟩
  · exact World.ownsRow.lt h.st j hj
  · exact World.ownsRow.lt h.ar j hj
  · exact World.ownsRow.lt h.en j hj
  · exact World.ownsRow.lt h.ps j hj
theorem FD.same (h : FD B W bf br st ev vs va ve vp S A E P) (hs : ∀ j, FF bf br vs va ve vp j → W'.heap[j]? = W.heap[j]?) : FD B W' bf br st ev vs va ve vp S A E P :=
  ⟨(hs bf (.inl rfl)).trans h.blk, own_same h.st (fun k hk => hs k (.inr (.inr (.inl hk)))), own_same h.ar (fun k hk => hs k (.inr (.inr (.inr (.inl hk))))), own_same h.en (fun k hk => hs k (.inr (.inr (.inr (.inr (.inl hk)))))), own_same h.ps (fun k hk => hs k (.inr (.inr (.inr (.inr (.inr hk)))))), (hs br (.inr (.inl rfl))).trans h.mp, h.ne, h.nd, h.cr, h.lof, h.lor⟩
theorem FD.below (h : FD B W bf br st ev vs va ve vp S A E P) (hb : Below W.heap.size W W') : FD B W' bf br st ev vs va ve vp S A E P := h.same fun j hj => hb.block j (h.lt j hj).2
theorem FD.alloc (h : FD B W bf br st ev vs va ve vp S A E P) (o : Obj) : FD B (W.alloc o) bf br st ev vs va ve vp S A E P := h.below ((Below.refl _ _).alloc (Nat.le_refl _) o)
theorem FD.drew (h : FD B W bf br st ev vs va ve vp S A E P) : FD B W.drew bf br st ev vs va ve vp S A E P := h.below (Below.refl _ _).drew
/-- The finder's block is no row's, nor is the map. -/
theorem FD.apart (h : FD B W bf br st ev vs va ve vp S A E P) : bf ≠ br ∧ (∀ v ∈ [vs, va, ve, vp], v.ownBlock ≠ some bf ∧ v.ownBlock ≠ some br) := by
  have hb : W.heap[bf]? = _ := h.blk
  have hm := h.mp
  refine ⟨fun e => (by rw [e, hm] at hb; cases hb), fun v hv => ?_⟩
  have key : ∀ {e : TypeId} {s n : Nat} {xs : List Value}, e ≠ 80 → W.ownsRow B e s v n xs → v.ownBlock ≠ some bf ∧ v.ownBlock ≠ some br := fun {e s n xs} he ho =>
    ⟨fun hk => (by obtain ⟨cs, hc⟩ := own_type ho hk; rw [hb] at hc; cases hc; exact he rfl), fun hk => (by obtain ⟨cs, hc⟩ := own_type ho hk; rw [hm] at hc; cases hc)⟩
  simp at hv
  rcases hv with rfl | rfl | rfl | rfl
  · exact key (by decide) h.st
  · exact key (by decide) h.ar
  · exact key (by decide) h.en
  · exact key (by decide) h.ps
/-- The rows' blocks are apart. -/
theorem FD.rows (h : FD B W bf br st ev vs va ve vp S A E P) : (vp.ownBlock = none ∨ (vp.ownBlock ≠ vs.ownBlock ∧ vp.ownBlock ≠ va.ownBlock ∧ vp.ownBlock ≠ ve.ownBlock)) ∧ (va.ownBlock = none ∨ (va.ownBlock ≠ vs.ownBlock ∧ va.ownBlock ≠ vp.ownBlock ∧ va.ownBlock ≠ ve.ownBlock)) := by
  refine ⟨?_, ?_⟩
  · rcases own_apart h.ps h.st (by decide) with h1 | h1
    · exact .inl h1
    rcases own_apart h.ps h.ar (by decide) with h2 | h2
    · exact .inl h2
    rcases own_apart h.ps h.en (by decide) with h3 | h3
    · exact .inl h3
    exact .inr ⟨h1, h2, h3⟩
  · rcases own_apart h.ar h.st (by decide) with h1 | h1
    · exact .inl h1
    rcases own_apart h.ar h.ps (by decide) with h2 | h2
    · exact .inl h2
    rcases own_apart h.ar h.en (by decide) with h3 | h3
    · exact .inl h3
    exact .inr ⟨h1, h2, h3⟩
theorem FD.cells (h : FD B W bf br st ev vs va ve vp S A E P) : W.cell? ⟨bf, 0, none⟩ = some (.int .i64 st) ∧ W.cell? ⟨bf, 1, none⟩ = some (.int .i64 ev) ∧ W.cell? ⟨bf, 2, none⟩ = some vs ∧ W.cell? ⟨bf, 3, none⟩ = some va ∧ W.cell? ⟨bf, 4, none⟩ = some ve ∧ W.cell? ⟨bf, 5, none⟩ = some vp ∧ W.cell? ⟨bf, 6, none⟩ = some (.map (some br)) :=
  ⟨h.blk.cell 0 rfl, h.blk.cell 1 rfl, h.blk.cell 2 rfl, h.blk.cell 3 rfl, h.blk.cell 4 rfl, h.blk.cell 5 rfl, h.blk.cell 6 rfl⟩
/-- One pair more: the map, the row, the count. -/
theorem FD.push {W1 W2 : World} {vp' : Value} {p : Int × Int} (h : FD B W bf br st ev vs va ve vp S A E P) (hb1 : Below W.heap.size W W1) (hn : findP P p.1 p.2 = P.length) (hp : StP p)
    {W3 : World} (hW3 : Below (setMap W1 br (.map (entsP (P ++ [p])) (P.length + 1))).heap.size (setMap W1 br (.map (entsP (P ++ [p])) (P.length + 1))) W3) (o1 : W2.ownsRow B 129 2 vp' (P.length + 1) (pflat P ++ [.int .i64 p.1, .int .i64 p.2])) (g : W3.grownBy W2 vp.ownBlock) (hb : vp'.ownBlock = vp.ownBlock ∨ vp'.ownBlock = some W3.heap.size) (st' : Int) :
    Blk W2 bf 80 (fcells st ev vs va ve vp br) ∧ FD B ((W2.setCell ⟨bf, 5, none⟩ vp').setCell ⟨bf, 0, none⟩ (.int .i64 st')) bf br st' ev vs va ve vp' S A E (P ++ [p]) ∧ Turn (FF bf br vs va ve vp) (FF bf br vs va ve vp') W ((W2.setCell ⟨bf, 5, none⟩ vp').setCell ⟨bf, 0, none⟩ (.int .i64 st')) := by
  have h1 := h.below hb1
  obtain ⟨a1, a2⟩ := h1.apart
  obtain ⟨r1, r2⟩ := h1.rows
  have a5 := a2 vp (by simp)
  -- what stays
  have keep : ∀ j, j < W1.heap.size → j ≠ br → vp.ownBlock ≠ some j → j ≠ bf → ((W2.setCell ⟨bf, 5, none⟩ vp').setCell ⟨bf, 0, none⟩ (.int .i64 st')).heap[j]? = W1.heap[j]? := by
    intro j hj h2 h3 h4
    rw [Below.heap_setCell _ _ _ _ h4, Below.heap_setCell _ _ _ _ h4, g.block j (Nat.lt_of_lt_of_le (by rw [size_setMap]; exact hj) hW3.size) (fun e => h3 e.symm), hW3.block j (by rw [size_setMap]; exact hj), heap_setMap_ne _ _ _ h2]
  have hbf2 : W2.heap[bf]? = W1.heap[bf]? := by
    rw [g.block bf (Nat.lt_of_lt_of_le (by rw [size_setMap]; exact h1.blk.lt) hW3.size) (fun e => a5.1 e.symm), hW3.block bf (by rw [size_setMap]; exact h1.blk.lt), heap_setMap_ne _ _ _ a1]
  have b2 : Blk W2 bf 80 (fcells st ev vs va ve vp br) := hbf2.trans h1.blk
  have hbr := (Array.getElem?_eq_some_iff.1 h1.mp).1
  have m2 : W2.heap[br]? = some (.map (entsP (P ++ [p])) (P.length + 1)) := by
    rw [g.block br (Nat.lt_of_lt_of_le (by rw [size_setMap]; exact hbr) hW3.size) (fun e => a5.2 e.symm), hW3.block br (by rw [size_setMap]; exact hbr), heap_setMap _ _ hbr]
  refine ⟨b2, ⟨(b2.set 5 vp').set 0 _, own_same h1.st (fun k hk => keep k (World.ownsRow.lt h1.st k hk).2 (fun e => (a2 vs (by simp)).2 (by rw [hk, e])) (fun e => ?_) (fun e => (a2 vs (by simp)).1 (by rw [hk, e]))), own_same h1.ar (fun k hk => keep k (World.ownsRow.lt h1.ar k hk).2 (fun e => (a2 va (by simp)).2 (by rw [hk, e])) (fun e => ?_) (fun e => (a2 va (by simp)).1 (by rw [hk, e]))), own_same h1.en (fun k hk => keep k (World.ownsRow.lt h1.en k hk).2 (fun e => (a2 ve (by simp)).2 (by rw [hk, e])) (fun e => ?_) (fun e => (a2 ve (by simp)).1 (by rw [hk, e]))), ?_, ?_, h.ne, ?_, ?_, h.lof, h.lor⟩, ?_⟩
  · rcases r1 with r1 | r1
    · rw [r1] at e; cases e
    · exact r1.1 (e.trans hk.symm)
  · rcases r1 with r1 | r1
    · rw [r1] at e; cases e
    · exact r1.2.1 (e.trans hk.symm)
  · rcases r1 with r1 | r1
    · rw [r1] at e; cases e
    · exact r1.2.2 (e.trans hk.symm)
  · have hbk : vp'.ownBlock ≠ some bf := by
      rcases hb with hb | hb
      · rw [hb]; exact a5.1
      · rw [hb]; intro e
        have e1 := Option.some.inj e
        have := Nat.lt_of_lt_of_le (show bf < (setMap W1 br (.map (entsP (P ++ [p])) (P.length + 1))).heap.size by rw [size_setMap]; exact h1.blk.lt) hW3.size
        omega
    show World.ownsRow _ _ _ _ _ _ _
    rw [List.length_append, pflat_append]
    exact own_same o1 (fun k hk => by rw [Below.heap_setCell _ _ _ _ (fun e => hbk (by rw [hk, e])), Below.heap_setCell _ _ _ _ (fun e => hbk (by rw [hk, e]))])
  · rw [Below.heap_setCell _ _ _ _ (Ne.symm a1), Below.heap_setCell _ _ _ _ (Ne.symm a1), List.length_append]; exact m2
  · rw [List.nodup_append]
    have hm := findP_new.1 hn
    exact ⟨h.nd, by simp, fun x hx y hy e => by simp at hy; subst hy; subst e; exact hm hx⟩
  · intro q hq
    rcases List.mem_append.1 hq with hq | hq
    · exact h.cr q hq
    · simp at hq; subst hq; exact hp
  · have t1 : Turn (FF bf br vs va ve vp) (FF bf br vs va ve vp) W W1 := Turn.of_below hb1
    have t2 := t1.map (FF.r bf br vs va ve vp) (.map (entsP (P ++ [p])) (P.length + 1))
    have t3 := t2.trans (Turn.of_below (F := FF bf br vs va ve vp) hW3)
    have t4 : Turn (FF bf br vs va ve vp) (FF bf br vs va ve vp') W W2 := t3.grown g (fun k hk => .inr (.inr (.inr (.inr (.inr hk))))) (fun j hj => by
      rcases hj with h | h | h | h | h | h
      · exact .inl (.inl h)
      · exact .inl (.inr (.inl h))
      · exact .inl (.inr (.inr (.inl h)))
      · exact .inl (.inr (.inr (.inr (.inl h))))
      · exact .inl (.inr (.inr (.inr (.inr (.inl h)))))
      · rcases hb with hb | hb
        · exact .inl (.inr (.inr (.inr (.inr (.inr (by rw [← hb]; exact h))))))
        · rw [hb] at h
          exact .inr (Nat.le_of_eq (Option.some.inj h)))
    exact (t4.set (FF.f bf br vs va ve vp') vp').set (FF.f bf br vs va ve vp') _
end

end Go.Proofs.YtdnglodemkeooaaDoor
namespace Go.Proofs.YtdnglodemkeooaaDoor
open Go.RowKit
set_option linter.unusedVariables false

theorem fits_any (B : Nat) (W : World) (bf br : Nat) (st ev : Int) (vs va ve vp : Value) (S : List Int) (A : List Arr) (E : List Int) (P : List (Int × Int)) (h : Hid (FD B W bf br st ev vs va ve vp S A E P)) (hl : A.length ≤ 1000000000) :
    Calls Tryd.prog 103 #[.pointer (some ⟨bf, 0, none⟩)] W fun e W' => e = .returned (.bool (decide (st ≤ 256) && decide ((A.length : Int) ≤ 4096))) ∧ W' = W := by
  obtain ⟨c0, c1, c2, c3, c4, c5, c6⟩ := h.out.cells
  obtain ⟨aa, ac, hva, -, ha1, ha2, ha3⟩ := h.out.ar.at
  subst hva
  have hb := h.out.blk.lt
  by_cases h1 : st ≤ 256
  · have d1 : decide (st ≤ 256) = true := by simpa using h1
    rw [d1]
    go_enter Tryd.func103, Tryd.ntmps103
    go_wp2
    go_ret
    exact ⟨rfl, rfl⟩
  · have d1 : decide (st ≤ 256) = false := by simpa using h1
    rw [d1]
    go_enter Tryd.func103, Tryd.ntmps103
    go_wp2
    go_ret
    exact ⟨rfl, rfl⟩

theorem cell_setMap (W : World) (b : Nat) (o : Obj) {j k : Nat} (h : j ≠ b) : (setMap W b o).cell? ⟨j, k, none⟩ = W.cell? ⟨j, k, none⟩ := World.cell?_of_block (w := W) (heap_setMap_ne W b o h)
theorem cells_two (W W' : World) (hW : W'.heap = W.heap) (t : TypeId) (x y : Value) : ∀ j u, ([x, y] : List Value)[j]? = some u → (W'.alloc (.cells #[x, y] t)).cell? ((⟨W.heap.size, 0, none⟩ : Addr).add j) = some u := by
  intro j u hu
  rw [addr0_add, Nat.zero_add, ← hW]
  exact (Blk.new W' t #[x, y]).cell j (by rw [← Array.getElem?_toList]; exact hu)
/-- The pairs, and one more if it is new. -/
def addP (P : List (Int × Int)) (p : Int × Int) : List (Int × Int) := if findP P p.1 p.2 = P.length then P ++ [p] else P

set_option maxHeartbeats 4000000 in
set_option maxRecDepth 100000 in
theorem number_known (B : Nat) (W : World) (bf br : Nat) (ev : Int) (vs va ve vp : Value) (S : List Int) (A : List Arr) (E : List Int) (P : List (Int × Int)) (x y : Int) (h : Hid (FD B W bf br P.length ev vs va ve vp S A E P)) (hp : Hid (StP (x, y))) (hk : Hid (¬ findP P x y = P.length)) :
    Calls Tryd.prog 102 #[.pointer (some ⟨bf, 0, none⟩), .agg #[.int .i64 x, .int .i64 y]] W fun e W' => e = .returned (.int .i64 (findP P x y : Nat)) ∧ Below W.heap.size W W' := by
  obtain ⟨c0, c1, c2, c3, c4, c5, c6⟩ := h.out.cells
  have hb := h.out.blk.lt
  have hlk : (Instr.lookup 77 (.map (some br)) (.agg #[.int .i64 x, .int .i64 y]) true).run Tryd.prog (W.alloc (.cells #[.int .i64 x, .int .i64 y] 129)).drew = .ok (.tuple #[.int .i64 (findP P x y : Nat), .bool true]) (W.alloc (.cells #[.int .i64 x, .int .i64 y] 129)).drew := look_known h.out.cr h.out.nd hp.out (h.out.alloc _).drew.mp hk.out
  go_enter Tryd.func102, Tryd.ntmps102
  go_wp2_with fail
  go_region_held3 (fun w' => w'.cell? ⟨bf, 6, none⟩ = some (.map (some br)) ∧ w'.cell? ⟨W.heap.size, 0, none⟩ = some (.int .i64 x) ∧ w'.cell? ⟨W.heap.size, 1, none⟩ = some (.int .i64 y)) (go_keep) (fail)
  go_wp2_with fail
  go_ret
  exact ⟨rfl, ((Below.refl _ _).alloc (Nat.le_refl _) _).drew⟩

set_option maxHeartbeats 4000000 in
set_option maxRecDepth 100000 in
theorem number_new (B : Nat) (W : World) (bf br : Nat) (ev : Int) (vs va ve vp : Value) (S : List Int) (A : List Arr) (E : List Int) (P : List (Int × Int)) (x y : Int) (h : Hid (FD B W bf br P.length ev vs va ve vp S A E P)) (hp : Hid (StP (x, y))) (hk : Hid (findP P x y = P.length)) (hl : P.length ≤ 1000000) :
    Calls Tryd.prog 102 #[.pointer (some ⟨bf, 0, none⟩), .agg #[.int .i64 x, .int .i64 y]] W fun e W' => e = .returned (.int .i64 (P.length : Nat)) ∧ ∃ vp', FD B W' bf br (P ++ [(x, y)]).length ev vs va ve vp' S A E (P ++ [(x, y)]) ∧ Turn (FF bf br vs va ve vp) (FF bf br vs va ve vp') W W' := by
  obtain ⟨c0, c1, c2, c3, c4, c5, c6⟩ := h.out.cells
  have hb := h.out.blk.lt
  have hlk : (Instr.lookup 77 (.map (some br)) (.agg #[.int .i64 x, .int .i64 y]) true).run Tryd.prog (W.alloc (.cells #[.int .i64 x, .int .i64 y] 129)).drew = .ok (.tuple #[.int .i64 0, .bool false]) (W.alloc (.cells #[.int .i64 x, .int .i64 y] 129)).drew := look_new h.out.cr h.out.nd hp.out (h.out.alloc _).drew.mp hk.out
  have H1 := Hid.of (h.out.alloc (.cells #[.int .i64 x, .int .i64 y] 129)).drew
  have K1 := Hid.of (Blk.new W 129 #[.int .i64 x, .int .i64 y])
  go_enter Tryd.func102, Tryd.ntmps102
  go_wp2_with fail
  go_region_held3 (fun w' => w'.cell? ⟨bf, 6, none⟩ = some (.map (some br)) ∧ w'.cell? ⟨W.heap.size, 0, none⟩ = some (.int .i64 x) ∧ w'.cell? ⟨W.heap.size, 1, none⟩ = some (.int .i64 y)) (go_keep) (fail)
  have X1 := Hid.of (show Below W.heap.size W (W.alloc (.cells #[.int .i64 x, .int .i64 y] 129)).drew from ((Below.refl _ _).alloc (Nat.le_refl _) _).drew)
  have Y1 := Hid.of (show (W.alloc (.cells #[.int .i64 x, .int .i64 y] 129)).drew.heap.size = W.heap.size + 1 from by simp [World.drew])
  have K2 : Hid (Blk (W.alloc (.cells #[.int .i64 x, .int .i64 y] 129)).drew W.heap.size 129 #[.int .i64 x, .int .i64 y]) := K1.out.drew
  clear hlk K1 c0 c1 c2 c3 c4 c5 c6
  revert H1 X1 Y1 K2
  generalize (W.alloc (.cells #[.int .i64 x, .int .i64 y] 129)).drew = V
  intro H1 X1 Y1 K2
  obtain ⟨c0, c1, c2, c3, c4, c5, c6⟩ := H1.out.cells
  have k0 : V.cell? ⟨W.heap.size, 0, none⟩ = some (.int .i64 x) := K2.out.cell 0 rfl
  have k1 : V.cell? ⟨W.heap.size, 1, none⟩ = some (.int .i64 y) := K2.out.cell 1 rfl
  have hb1 := H1.out.blk.lt
  have hb2 := K2.out.lt
  go_wp2_with fail
  have hup : (Instr.mapUpdate 77 (.map (some br)) (.agg #[.int .i64 x, .int .i64 y]) (.int .i64 (P.length : Nat))).run Tryd.prog V.drew = .ok () (setMap V.drew br (.map (entsP (P ++ [(x, y)])) (P.length + 1))) := by
    have := upd_new (p := (x, y)) H1.out.cr H1.out.nd hp.out H1.out.drew.mp hk.out
    rwa [List.length_append] at this
  have n1 := Hid.of H1.out.apart.1
  have n2 : Hid (W.heap.size ≠ br) := fun e => by
    have h1 := H1.out.mp
    rw [← e, show V.heap[W.heap.size]? = _ from K2.out] at h1; cases h1
  have HM : Hid (∀ j k : Nat, j ≠ br → (setMap V.drew br (.map (entsP (P ++ [(x, y)])) (P.length + 1))).cell? ⟨j, k, none⟩ = V.cell? ⟨j, k, none⟩) := fun j k hj => cell_setMap V.drew br _ hj
  have s6 := (HM.out bf 6 n1.out).trans c6
  have s0 := (HM.out W.heap.size 0 n2.out).trans k0
  have s1 := (HM.out W.heap.size 1 n2.out).trans k1
  go_region_held3 (fun w' => w'.cell? ⟨bf, 6, none⟩ = some (.map (some br)) ∧ w'.cell? ⟨W.heap.size, 0, none⟩ = some (.int .i64 x) ∧ w'.cell? ⟨W.heap.size, 1, none⟩ = some (.int .i64 y)) (go_keep) (fail)
  have X2 := Hid.of (show Below W.heap.size W V.drew from X1.out.drew)
  have m5 := (HM.out bf 5 n1.out).trans c5
  have m0 := (HM.out bf 0 n1.out).trans c0
  have O2 : Hid (OwnP (setMap V.drew br (.map (entsP (P ++ [(x, y)])) (P.length + 1))) B vp P) := own_same H1.out.ps (fun k hk => heap_setMap_ne V.drew br _ (fun e => (H1.out.apart.2 vp (by simp)).2 (by rw [hk, e])))
  have b2 : Hid (B ≤ (setMap V.drew br (.map (entsP (P ++ [(x, y)])) (P.length + 1))).heap.size) := show B ≤ _ by rw [size_setMap]; exact Nat.le_trans H1.out.lof (Nat.le_of_lt H1.out.blk.lt)
  have l2 : bf < (setMap V.drew br (.map (entsP (P ++ [(x, y)])) (P.length + 1))).heap.size := by rw [size_setMap]; exact hb1
  have l3 : W.heap.size < (setMap V.drew br (.map (entsP (P ++ [(x, y)])) (P.length + 1))).heap.size := by rw [size_setMap]; exact hb2
  clear c0 c1 c2 c3 c4 c5 c6 k0 k1 hup HM hb1 hb2 s6
  obtain ⟨pa, pc, hvp, hpc1, hpc2, hpc3⟩ := own_form2 H1.out.ps
  subst hvp
  obtain ⟨i0, hi, hz0, hz1, hz2⟩ := info_parts Tryd.infoPair
  obtain ⟨M, hM⟩ : ∃ M, M = setMap V.drew br (.map (entsP (P ++ [(x, y)])) (P.length + 1)) := ⟨_, rfl⟩
  have HM := Hid.of hM
  rw [← hM] at s0 s1 m5 m0 O2 b2 l2 l3 ⊢
  clear hM
  have nM := World.new_ne M _ m5
  have nM2 := World.new_ne M _ s0
  go_wp2_with fail
  have BX : Hid (∀ (w9 : World), (M.drew.alloc (.cells #[.int .i64 x, .int .i64 y] 129)).grownBy w9 (Value.slice pa P.length pc).ownBlock → ∀ (j : Nat) (u : Value), M.cell? ⟨W.heap.size, j, none⟩ = some u → w9.cell? ⟨W.heap.size, j, none⟩ = some u) := fun w9 g j u hu => by
    have h1 : w9.heap[W.heap.size]? = M.heap[W.heap.size]? := by
      rw [g.block W.heap.size (by rw [World.size_alloc]; exact Nat.lt_succ_of_lt l3) (fun e => by have := (World.ownsRow.lt h.out.ps _ e.symm).2; omega)]
      exact (((Below.refl M.heap.size M).drew).alloc (Nat.le_refl _) _).block _ l3
    exact (World.cell?_of_block (w := M) h1).trans hu
  go_region_law (first | (refine step_append_block rfl (.tmp 33) (.tmp 35) 78 rfl B 129 i0 (.agg #[.int .i64 0, .int .i64 0]) 2 16 Tryd.underlying78 hi hz0 hz1 hz2 rfl (by decide) _ P.length (pflat P) rfl (World.ownsRow.alloc (own_same O2.out (fun _ _ => rfl)) _) ⟨M.heap.size, 0, none⟩ 1 1 [.int .i64 x, .int .i64 y] rfl rfl (cells_two M _ rfl _ _ _) (by intro u hu; simp at hu; rcases hu with rfl | rfl <;> rfl) (by decide) (by unfold maxLen; omega) (by omega) (Nat.le_trans b2.out (((Below.refl _ M).drew).alloc (Nat.le_refl _) _).size) ?_; intro v9 w9 o9 g9 n9; obtain ⟨ga, gc, hv9, -, -, -⟩ := own_form2 o9; subst hv9; obtain ⟨e1, e2⟩ := FD.push (W1 := V.drew) h.out X2.out hk.out hp.out (by rw [← HM.out]; exact ((Below.refl _ M).drew).alloc (Nat.le_refl _) _) o9 g9 n9 ((P.length : Int) + 1); have z5 := e1.cell 5 rfl; have z0 := e1.cell 0 rfl; have y0 : w9.cell? ⟨W.heap.size, 0, none⟩ = some (.int .i64 x) := BX.out _ g9 0 _ s0; have y1 : w9.cell? ⟨W.heap.size, 1, none⟩ = some (.int .i64 y) := BX.out _ g9 1 _ s1; have zf := e1.frozen; have E2 := Hid.of e2; clear e2 o9 g9 n9))
  all_goals (go_wp2_with fail; go_ret; exact ⟨rfl, _, by rw [List.length_append]; exact E2.out.1, E2.out.2⟩)

theorem number_any (B : Nat) (W : World) (bf br : Nat) (ev : Int) (vs va ve vp : Value) (S : List Int) (A : List Arr) (E : List Int) (P : List (Int × Int)) (x y : Int) (h : Hid (FD B W bf br P.length ev vs va ve vp S A E P)) (hp : Hid (StP (x, y))) (hl : P.length ≤ 1000000) :
    Calls Tryd.prog 102 #[.pointer (some ⟨bf, 0, none⟩), .agg #[.int .i64 x, .int .i64 y]] W fun e W' => e = .returned (.int .i64 (findP P x y : Nat)) ∧ ∃ vp', FD B W' bf br (addP P (x, y)).length ev vs va ve vp' S A E (addP P (x, y)) ∧ Turn (FF bf br vs va ve vp) (FF bf br vs va ve vp') W W' := by
  by_cases hk : findP P x y = P.length
  · refine (number_new B W bf br ev vs va ve vp S A E P x y h hp hk hl).mono ?_
    rintro e W' ⟨rfl, vp', h1, h2⟩
    have e1 : addP P (x, y) = P ++ [(x, y)] := if_pos hk
    rw [e1, hk]
    exact ⟨rfl, vp', h1, h2⟩
  · refine (number_known B W bf br ev vs va ve vp S A E P x y h hp hk).mono ?_
    rintro e W' ⟨rfl, h1⟩
    have e1 : addP P (x, y) = P := if_neg hk
    rw [e1]
    exact ⟨rfl, vp, h.out.below h1, Turn.of_below h1⟩

end Go.Proofs.YtdnglodemkeooaaDoor
namespace Go.Proofs.YtdnglodemkeooaaDoor
open Go.RowKit
set_option linter.unusedVariables false

section
variable {B : Nat} {W : World} {bf br : Nat} {st ev : Int} {vs va ve vp : Value} {S : List Int} {A : List Arr} {E : List Int} {P : List (Int × Int)}
theorem FD.pushS {W2 W3 : World} {vs' : Value} {x : Int} (h : FD B W bf br st ev vs va ve vp S A E P) (hW3 : Below W.heap.size W W3) (o1 : W2.ownsRow B 3 1 vs' (S.length + 1) (S.map (Value.int .i64) ++ [.int .i64 x])) (g : W3.grownBy W2 vs.ownBlock) (hb : vs'.ownBlock = vs.ownBlock ∨ vs'.ownBlock = some W3.heap.size) :
    Blk W2 bf 80 (fcells st ev vs va ve vp br) ∧ FD B (W2.setCell ⟨bf, 2, none⟩ vs') bf br st ev vs' va ve vp (S ++ [x]) A E P ∧ Turn (FF bf br vs va ve vp) (FF bf br vs' va ve vp) W (W2.setCell ⟨bf, 2, none⟩ vs') := by
  have h1 := h.below hW3
  obtain ⟨a1, a2⟩ := h1.apart
  obtain ⟨r1, r2⟩ := h1.rows
  have ne := h1.ne
  have a5 := a2 vs (by simp)
  have keep : ∀ j, j < W3.heap.size → vs.ownBlock ≠ some j → j ≠ bf → (W2.setCell ⟨bf, 2, none⟩ vs').heap[j]? = W3.heap[j]? := by
    intro j hj h3 h4
    rw [Below.heap_setCell _ _ _ _ h4, g.block j hj (fun e => h3 e.symm)]
  have b2 : Blk W2 bf 80 (fcells st ev vs va ve vp br) := (g.block bf h1.blk.lt (fun e => a5.1 e.symm)).trans h1.blk
  have hbr := (Array.getElem?_eq_some_iff.1 h1.mp).1
  have hbk : vs'.ownBlock ≠ some bf := by
    rcases hb with hb | hb
    · rw [hb]; exact a5.1
    · rw [hb]; intro e
      have e1 := Option.some.inj e
      have := h1.blk.lt
      omega
  have apart : ∀ v ∈ [vs, va, ve, vp], ∀ k, v.ownBlock = some k → k ≠ bf := fun v hv k hk e => (a2 v hv).1 (by rw [hk, e])
  refine ⟨b2, ⟨b2.set 2 vs', ?_, ?_, ?_, ?_, ?_, ?_, h.nd, h.cr, h.lof, h.lor⟩, ?_⟩
  · show World.ownsRow _ _ _ _ _ _ _
    rw [List.length_append, List.map_append]
    exact own_same o1 (fun k hk => by rw [Below.heap_setCell _ _ _ _ (fun e => hbk (by rw [hk, e]))])
  · refine own_same h1.ar (fun k hk => keep k (World.ownsRow.lt h1.ar k hk).2 (fun e => ?_) (apart va (by simp) k hk))
    · rcases r2 with r | r
      · rw [r] at hk; cases hk
      · exact r.1 (hk.trans e.symm)
  · refine own_same h1.en (fun k hk => keep k (World.ownsRow.lt h1.en k hk).2 (fun e => ?_) (apart ve (by simp) k hk))
    · rcases ne with r | r
      · rw [r] at e; cases e
      · exact r (e.trans hk.symm)
  · refine own_same h1.ps (fun k hk => keep k (World.ownsRow.lt h1.ps k hk).2 (fun e => ?_) (apart vp (by simp) k hk))
    · rcases r1 with r | r
      · rw [r] at hk; cases hk
      · exact r.1 (hk.trans e.symm)
  · rw [Below.heap_setCell _ _ _ _ (Ne.symm a1), g.block br hbr (fun e => a5.2 e.symm)]; exact h1.mp
  · rcases hb with hb | hb
    · rw [hb]; exact ne
    · right; rw [hb]; intro e
      have := (World.ownsRow.lt h1.en _ e.symm).2
      omega
  · have t1 : Turn (FF bf br vs va ve vp) (FF bf br vs va ve vp) W W3 := Turn.of_below hW3
    have t4 : Turn (FF bf br vs va ve vp) (FF bf br vs' va ve vp) W W2 := t1.grown g (fun k hk => .inr (.inr (.inl hk))) (fun j hj => by
      unfold FF at hj ⊢
      rcases hb with hb | hb
      · rw [hb] at hj; exact .inl hj
      · rw [hb] at hj
        rcases hj with h | h | h | h | h | h
        all_goals first
          | exact .inr (Nat.le_of_eq (Option.some.inj h))
          | exact .inl (by simp [h]))
    exact t4.set (FF.f bf br vs' va ve vp) vs'
theorem FD.pushA {W2 W3 : World} {va' : Value} {x : Arr} (h : FD B W bf br st ev vs va ve vp S A E P) (hW3 : Below W.heap.size W W3) (o1 : OwnA W2 B va' (A ++ [x])) (g : W3.grownBy W2 va.ownBlock) (hb : va'.ownBlock = va.ownBlock ∨ va'.ownBlock = some W3.heap.size) :
    Blk W2 bf 80 (fcells st ev vs va ve vp br) ∧ FD B (W2.setCell ⟨bf, 3, none⟩ va') bf br st ev vs va' ve vp S (A ++ [x]) E P ∧ Turn (FF bf br vs va ve vp) (FF bf br vs va' ve vp) W (W2.setCell ⟨bf, 3, none⟩ va') := by
  have h1 := h.below hW3
  obtain ⟨a1, a2⟩ := h1.apart
  obtain ⟨r1, r2⟩ := h1.rows
  have ne := h1.ne
  have a5 := a2 va (by simp)
  have keep : ∀ j, j < W3.heap.size → va.ownBlock ≠ some j → j ≠ bf → (W2.setCell ⟨bf, 3, none⟩ va').heap[j]? = W3.heap[j]? := by
    intro j hj h3 h4
    rw [Below.heap_setCell _ _ _ _ h4, g.block j hj (fun e => h3 e.symm)]
  have b2 : Blk W2 bf 80 (fcells st ev vs va ve vp br) := (g.block bf h1.blk.lt (fun e => a5.1 e.symm)).trans h1.blk
  have hbr := (Array.getElem?_eq_some_iff.1 h1.mp).1
  have hbk : va'.ownBlock ≠ some bf := by
    rcases hb with hb | hb
    · rw [hb]; exact a5.1
    · rw [hb]; intro e
      have e1 := Option.some.inj e
      have := h1.blk.lt
      omega
  have apart : ∀ v ∈ [vs, va, ve, vp], ∀ k, v.ownBlock = some k → k ≠ bf := fun v hv k hk e => (a2 v hv).1 (by rw [hk, e])
  refine ⟨b2, ⟨b2.set 3 va', ?_, ?_, ?_, ?_, ?_, ?_, h.nd, h.cr, h.lof, h.lor⟩, ?_⟩
  · refine own_same h1.st (fun k hk => keep k (World.ownsRow.lt h1.st k hk).2 (fun e => ?_) (apart vs (by simp) k hk))
    · rcases r2 with r | r
      · rw [r] at e; cases e
      · exact r.1 (e.trans hk.symm)
  · show World.ownsRow _ _ _ _ _ _ _
    exact own_same o1 (fun k hk => by rw [Below.heap_setCell _ _ _ _ (fun e => hbk (by rw [hk, e]))])
  · refine own_same h1.en (fun k hk => keep k (World.ownsRow.lt h1.en k hk).2 (fun e => ?_) (apart ve (by simp) k hk))
    · rcases r2 with r | r
      · rw [r] at e; cases e
      · exact r.2.2 (e.trans hk.symm)
  · refine own_same h1.ps (fun k hk => keep k (World.ownsRow.lt h1.ps k hk).2 (fun e => ?_) (apart vp (by simp) k hk))
    · rcases r1 with r | r
      · rw [r] at hk; cases hk
      · exact r.2.1 (hk.trans e.symm)
  · rw [Below.heap_setCell _ _ _ _ (Ne.symm a1), g.block br hbr (fun e => a5.2 e.symm)]; exact h1.mp
  · exact ne
  · have t1 : Turn (FF bf br vs va ve vp) (FF bf br vs va ve vp) W W3 := Turn.of_below hW3
    have t4 : Turn (FF bf br vs va ve vp) (FF bf br vs va' ve vp) W W2 := t1.grown g (fun k hk => .inr (.inr (.inr (.inl hk)))) (fun j hj => by
      unfold FF at hj ⊢
      rcases hb with hb | hb
      · rw [hb] at hj; exact .inl hj
      · rw [hb] at hj
        rcases hj with h | h | h | h | h | h
        all_goals first
          | exact .inr (Nat.le_of_eq (Option.some.inj h))
          | exact .inl (by simp [h]))
    exact t4.set (FF.f bf br vs va' ve vp) va'
theorem FD.pushE {W2 W3 : World} {ve' : Value} {x : Int} (h : FD B W bf br st ev vs va ve vp S A E P) (hW3 : Below W.heap.size W W3) (o1 : W2.ownsRow B 3 1 ve' (E.length + 1) (E.map (Value.int .i64) ++ [.int .i64 x])) (g : W3.grownBy W2 ve.ownBlock) (hb : ve'.ownBlock = ve.ownBlock ∨ ve'.ownBlock = some W3.heap.size) :
    Blk W2 bf 80 (fcells st ev vs va ve vp br) ∧ FD B (W2.setCell ⟨bf, 4, none⟩ ve') bf br st ev vs va ve' vp S A (E ++ [x]) P ∧ Turn (FF bf br vs va ve vp) (FF bf br vs va ve' vp) W (W2.setCell ⟨bf, 4, none⟩ ve') := by
  have h1 := h.below hW3
  obtain ⟨a1, a2⟩ := h1.apart
  obtain ⟨r1, r2⟩ := h1.rows
  have ne := h1.ne
  have a5 := a2 ve (by simp)
  have keep : ∀ j, j < W3.heap.size → ve.ownBlock ≠ some j → j ≠ bf → (W2.setCell ⟨bf, 4, none⟩ ve').heap[j]? = W3.heap[j]? := by
    intro j hj h3 h4
    rw [Below.heap_setCell _ _ _ _ h4, g.block j hj (fun e => h3 e.symm)]
  have b2 : Blk W2 bf 80 (fcells st ev vs va ve vp br) := (g.block bf h1.blk.lt (fun e => a5.1 e.symm)).trans h1.blk
  have hbr := (Array.getElem?_eq_some_iff.1 h1.mp).1
  have hbk : ve'.ownBlock ≠ some bf := by
    rcases hb with hb | hb
    · rw [hb]; exact a5.1
    · rw [hb]; intro e
      have e1 := Option.some.inj e
      have := h1.blk.lt
      omega
  have apart : ∀ v ∈ [vs, va, ve, vp], ∀ k, v.ownBlock = some k → k ≠ bf := fun v hv k hk e => (a2 v hv).1 (by rw [hk, e])
  refine ⟨b2, ⟨b2.set 4 ve', ?_, ?_, ?_, ?_, ?_, ?_, h.nd, h.cr, h.lof, h.lor⟩, ?_⟩
  · refine own_same h1.st (fun k hk => keep k (World.ownsRow.lt h1.st k hk).2 (fun e => ?_) (apart vs (by simp) k hk))
    · rcases ne with r | r
      · rw [r] at hk; cases hk
      · exact r (hk.trans e.symm)
  · refine own_same h1.ar (fun k hk => keep k (World.ownsRow.lt h1.ar k hk).2 (fun e => ?_) (apart va (by simp) k hk))
    · rcases r2 with r | r
      · rw [r] at hk; cases hk
      · exact r.2.2 (hk.trans e.symm)
  · show World.ownsRow _ _ _ _ _ _ _
    rw [List.length_append, List.map_append]
    exact own_same o1 (fun k hk => by rw [Below.heap_setCell _ _ _ _ (fun e => hbk (by rw [hk, e]))])
  · refine own_same h1.ps (fun k hk => keep k (World.ownsRow.lt h1.ps k hk).2 (fun e => ?_) (apart vp (by simp) k hk))
    · rcases r1 with r | r
      · rw [r] at hk; cases hk
      · exact r.2.2 (hk.trans e.symm)
  · rw [Below.heap_setCell _ _ _ _ (Ne.symm a1), g.block br hbr (fun e => a5.2 e.symm)]; exact h1.mp
  · rcases hb with hb | hb
    · rw [hb]; exact ne
    · rcases ne with r | r
      · exact .inl r
      · right; rw [hb]; intro e
        have := (World.ownsRow.lt h1.st _ e).2
        omega
  · have t1 : Turn (FF bf br vs va ve vp) (FF bf br vs va ve vp) W W3 := Turn.of_below hW3
    have t4 : Turn (FF bf br vs va ve vp) (FF bf br vs va ve' vp) W W2 := t1.grown g (fun k hk => .inr (.inr (.inr (.inr (.inl hk))))) (fun j hj => by
      unfold FF at hj ⊢
      rcases hb with hb | hb
      · rw [hb] at hj; exact .inl hj
      · rw [hb] at hj
        rcases hj with h | h | h | h | h | h
        all_goals first
          | exact .inr (Nat.le_of_eq (Option.some.inj h))
          | exact .inl (by simp [h]))
    exact t4.set (FF.f bf br vs va ve' vp) ve'
end

end Go.Proofs.YtdnglodemkeooaaDoor
namespace Go.Proofs.YtdnglodemkeooaaDoor
open Go.RowKit
set_option linter.unusedVariables false

/-- What begin leaves. -/
def BegPost (w0 W : World) (bf br : Nat) (ev : Int) (SA SB : List Int) (e : Ending) (W' : World) : Prop :=
  e = .returned (.bool (decide ((crossP SA SB).length ≤ 256))) ∧ Below w0.heap.size w0 W' ∧ ∃ vs vp, Turn (FF bf br (.slice none 0 0) (.slice none 0 0) (.slice none 0 0) (.slice none 0 0)) (FF bf br vs (.slice none 0 0) (.slice none 0 0) vp) W W' ∧ ((crossP SA SB).length ≤ 256 → FD w0.heap.size W' bf br (crossP SA SB).length ev vs (.slice none 0 0) (.slice none 0 0) vp (rngI (crossP SA SB).length) [] [] (crossP SA SB))

set_option maxHeartbeats 4000000 in
set_option maxRecDepth 100000 in
theorem begin_any (w0 W : World) (bf br : Nat) (ev : Int) (sa sb : Option Addr) (ca cb : Nat) (SA SB : List Int) (hA : Hid (At w0 sa SA)) (hB : Hid (At w0 sb SB)) (lA : Hid (SA.length ≤ 256)) (lB : Hid (SB.length ≤ 256)) (iA : Hid (Inc SA)) (iB : Hid (Inc SB)) (bA : Hid (∀ x ∈ SA, 0 ≤ x ∧ x < 256)) (bB : Hid (∀ x ∈ SB, 0 ≤ x ∧ x < 256))
    (hF : Hid (FD w0.heap.size W bf br (([] : List (Int × Int)).length : Nat) ev (.slice none 0 0) (.slice none 0 0) (.slice none 0 0) (.slice none 0 0) [] [] [] [])) (hbel : Hid (Below w0.heap.size w0 W)) :
    Calls Tryd.prog 67 #[.pointer (some ⟨bf, 0, none⟩), .slice sa SA.length ca, .slice sb SB.length cb] W fun e W' => BegPost w0 W bf br ev SA SB e W' := by
  obtain ⟨j0, ji, jz0, jz1, jz2⟩ := info_parts Tryd.infoInt
  have kA := lA.out
  have kB := lB.out
  go_enter Tryd.func67, Tryd.ntmps67
  go_wp2_with fail
  go_loopw [13] (fun i wr => ∃ (k : Nat) (vs vp : Value), k ≤ SA.length ∧ i = .int .i64 k ∧ Hid (FD w0.heap.size wr bf br (crossP (SA.take k) SB).length ev vs (.slice none 0 0) (.slice none 0 0) vp (rngI (crossP (SA.take k) SB).length) [] [] (crossP (SA.take k) SB)) ∧ Hid (Below w0.heap.size w0 wr) ∧ Hid ((crossP (SA.take k) SB).length ≤ 256) ∧ Hid (Turn (FF bf br (.slice none 0 0) (.slice none 0 0) (.slice none 0 0) (.slice none 0 0)) (FF bf br vs (.slice none 0 0) (.slice none 0 0) vp) W wr)) (fun i _ => SA.length - (intOf i).toNat)
  case atStart => exact ⟨0, .slice none 0 0, .slice none 0 0, Nat.zero_le _, rfl, hF, hbel, show (0 : Nat) ≤ 256 by omega, Turn.refl _ _⟩
  case round =>
    obtain ⟨k, vs, vp, hk, rfl, HF, HB, HL, HTn⟩ := hrel
    by_cases hlt : k < SA.length
    · obtain ⟨bs, os, hsa, hbs, hcs⟩ := (hA.out.below HB.out (Nat.le_refl _)).cells_of (k := k) hlt
      obtain ⟨x, HX, cx0⟩ := hcs.at (k := k) hlt
      rw [hsa]
      clear hcs
      have HXM : Hid (0 ≤ x ∧ x < 256) := bA.out x (by rw [HX.out, List.getElem?_eq_getElem hlt]; exact List.getElem_mem hlt)
      go_wp2_with fail
      go_loopw [19] (fun i wr => ∃ (q : Nat) (vs vp : Value), q ≤ SB.length ∧ i = .int .i64 q ∧ Hid (FD w0.heap.size wr bf br (crossP (SA.take k) SB ++ (SB.take q).map fun z => (x, z)).length ev vs (.slice none 0 0) (.slice none 0 0) vp (rngI (crossP (SA.take k) SB ++ (SB.take q).map fun z => (x, z)).length) [] [] (crossP (SA.take k) SB ++ (SB.take q).map fun z => (x, z))) ∧ Hid (Below w0.heap.size w0 wr) ∧ Hid ((crossP (SA.take k) SB ++ (SB.take q).map fun z => (x, z)).length ≤ 256) ∧ Hid (Turn (FF bf br (.slice none 0 0) (.slice none 0 0) (.slice none 0 0) (.slice none 0 0)) (FF bf br vs (.slice none 0 0) (.slice none 0 0) vp) W wr)) (fun i _ => SB.length - (intOf i).toNat)
      case atStart => exact ⟨0, vs, vp, Nat.zero_le _, rfl, by show FD _ _ _ _ _ _ _ _ _ _ _ _ _ _; rw [List.take_zero, List.map_nil, List.append_nil]; exact HF.out, HB, by show _ ≤ _; rw [List.take_zero, List.map_nil, List.append_nil]; exact HL.out, HTn⟩
      case round =>
        clear HF HB HL cx0 hbs HTn
        obtain ⟨q, vs, vp, hq, rfl, HF, HB, HL, HTn⟩ := hrel
        by_cases hqt : q < SB.length
        · obtain ⟨bt, ot, hta, hbt, hct⟩ := (hB.out.below HB.out (Nat.le_refl _)).cells_of (k := q) hqt
          obtain ⟨y, HY, cy0⟩ := hct.at (k := q) hqt
          rw [hta]
          clear hct
          have HYM : Hid (0 ≤ y ∧ y < 256) := bB.out y (by rw [HY.out, List.getElem?_eq_getElem hqt]; exact List.getElem_mem hqt)
          have HP : Hid (StP (x, y)) := ⟨HXM.out, HYM.out⟩
          have HN : Hid ((crossP (SA.take k) SB ++ (SB.take (q + 1)).map fun z => (x, z)) = (crossP (SA.take k) SB ++ (SB.take q).map fun z => (x, z)) ++ [(x, y)]) := by
            show _ = _
            rw [mapP_take hqt HY, ← List.append_assoc]
          have HC : Hid (∃ t, crossP SA SB = (crossP (SA.take k) SB ++ (SB.take q).map fun z => (x, z)) ++ (x, y) :: t) := by
            show ∃ t, _
            have e1 : SA = SA.take (k + 1) ++ SA.drop (k + 1) := (List.take_append_drop _ _).symm
            have e2 : SB = SB.take (q + 1) ++ SB.drop (q + 1) := (List.take_append_drop _ _).symm
            have e3 : crossP SA SB = crossP (SA.take (k + 1)) SB ++ crossP (SA.drop (k + 1)) SB := by
              conv => lhs; rw [e1]
              unfold crossP; rw [List.flatMap_append]
            have e4 : (SB.map fun z => (x, z)) = ((SB.take (q + 1)).map fun z => (x, z)) ++ ((SB.drop (q + 1)).map fun z => (x, z)) := by
              conv => lhs; rw [e2]
              rw [List.map_append]
            rw [e3, crossP_take hlt HX, e4, mapP_take hqt HY]
            exact ⟨((SB.drop (q + 1)).map fun z => (x, z)) ++ crossP (SA.drop (k + 1)) SB, by simp⟩
          generalize (crossP (SA.take k) SB ++ (SB.take q).map fun z => (x, z)) = P at *
          have HW : Hid (findP P x y = P.length) := by
            show _ = _
            obtain ⟨t, ht⟩ := HC.out
            have hget : (crossP SA SB)[P.length]? = some (x, y) := by rw [ht]; simp
            have := findP_cross iA.out iB.out hget
            rwa [ht, List.take_left] at this
          have HAD : Hid (addP P (x, y) = P ++ [(x, y)]) := if_pos HW.out
          obtain ⟨va, vc, hvs, -, -, -⟩ := own_form2 HF.out.st
          rw [rngI_len] at hvs
          subst hvs
          have c2 := HF.out.cells.2.2.1
          have hl := HL.out
          have lb1 := HF.out.blk.lt
          go_wp2_with fail
          go_region_law (first | (refine step_append_block rfl (.tmp 28) (.tmp 34) 22 rfl w0.heap.size 3 j0 (.int .i64 0) 1 8 Tryd.underlying22 ji jz0 jz1 jz2 rfl (by decide) _ (rngI P.length).length ((rngI P.length).map (Value.int .i64)) rfl (World.ownsRow.alloc F1.out.st _) ⟨w1.heap.size, 0, none⟩ 1 1 [.int .i64 (P.length : Nat)] rfl rfl (cell_one_new _ _ _) (by intro u hu; simp at hu; subst hu; rfl) (by decide) (by rw [rngI_len]; unfold maxLen; omega) (by rw [rngI_len]; omega) (by have := B1.out.size; simp; omega) ?_; intro v9 w9 o9 g9 n9; obtain ⟨ga, gc, hv9, -, -, -⟩ := own_form2 o9; subst hv9; obtain ⟨e1, e2⟩ := F1.out.pushS ((Below.refl _ _).alloc (Nat.le_refl _) _) o9 g9 n9; have z2 := e1.cell 2 rfl; have zf := e1.frozen; have E2 := Hid.of e2.1; have B2 := Hid.of (B1.out.trans (e2.2.below (fun j hj => (F1.out.lt j hj).1) B1.out.size)); have T2 := Hid.of (T1.out.trans e2.2); clear e2 o9 g9 n9) | (go_simp; go_at_call 102; refine (number_any w0.heap.size _ bf br ev _ _ _ _ _ _ _ P x y HF.out.drew HP.out (by omega)).mono ?_; rintro e w1 ⟨rfl, vp1, hF1, hT1⟩; rw [HW.out]; rw [HAD.out] at hF1; have F1 := Hid.of hF1; have B1 := Hid.of (HB.out.drew.trans (hT1.below (fun j hj => (HF.out.drew.lt j hj).1) HB.out.drew.size)); have T1 := Hid.of (HTn.out.drew.trans hT1); have d2 := hF1.cells.2.2.1; have d3 : ∀ o, (w1.alloc o).cell? ⟨bf, 2, none⟩ = some (.slice va P.length vc) := fun o => (hF1.alloc o).cells.2.2.1; clear hF1 hT1))
          all_goals
            have E3 : Hid (FD w0.heap.size (w9.setCell ⟨bf, 2, none⟩ (.slice ga ((rngI P.length).length + 1) gc)) bf br (P ++ [(x, y)]).length ev (.slice ga ((rngI P.length).length + 1) gc) (.slice none 0 0) (.slice none 0 0) vp1 (rngI (P ++ [(x, y)]).length) [] [] (P ++ [(x, y)])) := by
              have := E2.out
              show FD _ _ _ _ _ _ _ _ _ _ _ _ _ _
              rw [List.length_append] at this ⊢
              rw [show P.length + [(x, y)].length = P.length + 1 from rfl, rngI_succ]
              exact this
            clear E2 F1 B1 T1 e1 d2 d3 z2 zf c2
            revert B2 T2 E3
            generalize w9.setCell ⟨bf, 2, none⟩ (.slice ga ((rngI P.length).length + 1) gc) = Y
            generalize Value.slice ga ((rngI P.length).length + 1) gc = vs1
            intro B2 T2 E3
            by_cases hfit : P.length + 1 ≤ 256
            · have FT : Hid ((decide (((P ++ [(x, y)]).length : Int) ≤ 256) && decide (((([] : List Arr).length : Nat) : Int) ≤ 4096)) = true) := by
                show _ = _
                rw [List.length_append]; simp; omega
              go_wp2_with fail
              refine (fits_any w0.heap.size _ bf br _ ev _ _ _ _ _ _ _ _ E3 (by simp)).mono ?_
              rintro e w2 ⟨rfl, rfl⟩
              rw [FT.out]
              go_wp2_with fail
              go_roundw
              case rel => exact ⟨q + 1, _, _, by omega, by go_num, by show FD _ _ _ _ _ _ _ _ _ _ _ _ _ _; rw [HN.out]; exact E3.out, B2, by show _ ≤ _; rw [HN.out, List.length_append]; exact hfit, T2⟩
              case measure => simp [intOf]; omega
            · have FT : Hid ((decide (((P ++ [(x, y)]).length : Int) ≤ 256) && decide (((([] : List Arr).length : Nat) : Int) ≤ 4096)) = false) := by
                show _ = _
                rw [List.length_append]; simp; omega
              have HG : Hid (256 < (crossP SA SB).length) := by
                obtain ⟨t, ht⟩ := HC.out
                show _ < _
                rw [ht, List.length_append, List.length_cons]; omega
              go_wp2_with fail
              refine (fits_any w0.heap.size _ bf br _ ev _ _ _ _ _ _ _ _ E3 (by simp)).mono ?_
              rintro e w2 ⟨rfl, rfl⟩
              rw [FT.out]
              go_wp2_with fail
              go_ret
              exact ⟨ret_bool (by have := HG.out; simp; omega), B2.out, _, _, T2.out, fun h => by have := HG.out; omega⟩
        · rw [List.take_of_length_le (show SB.length ≤ q by omega)] at HF HL
          have HN : Hid (crossP (SA.take (k + 1)) SB = crossP (SA.take k) SB ++ SB.map fun z => (x, z)) := crossP_take hlt HX
          go_wp2_with fail
          go_roundw
          case rel => exact ⟨k + 1, _, _, by omega, by go_num, by show FD _ _ _ _ _ _ _ _ _ _ _ _ _ _; rw [HN.out]; exact HF.out, HB, by show _ ≤ _; rw [HN.out]; exact HL.out, HTn⟩
          case measure => simp [intOf]; omega
    · rw [List.take_of_length_le (show SA.length ≤ k by omega)] at HF HL
      go_wp2_with fail
      go_ret
      exact ⟨ret_bool (by have := HL.out; simp; omega), HB.out, _, _, HTn.out, fun _ => HF.out⟩

end Go.Proofs.YtdnglodemkeooaaDoor
