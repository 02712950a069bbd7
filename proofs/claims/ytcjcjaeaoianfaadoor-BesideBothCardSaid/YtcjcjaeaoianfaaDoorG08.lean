/-
  Plain: what package beside makes of pairs and arrows on its way, held against what the chapter says. No program, no model.
  The walk of jalousieref1.Sorted: insertion, one number after the other: it answers 'srt xs'.
  jalousieref1.Sorted hands back a slice of its own.
  append(v, y...) of integers: v a row of the call's own, y any slice; and the empty literal slice.
  The walk of jalousieref1.Has: whether a list has a number.
-/
import Derived.Test.YtcjcjaeaoianfaaDoorG07
import Derived.Test.YtcjcjaeaoianfaaDoorG05
import Derived.Deep.QuietTactic
import Derived.BigQuiet
import Derived.Test.YtcjcjaeaoianfaaDoorG03
namespace Go.Proofs.YtcjcjaeaoianfaaDoor
open Go.RowKit
set_option linter.unusedVariables false

/-- Where the arrows of a state lead to at an event, in the arrows' order. -/
def tosL (ars : List Arr) (s e : Int) : List Int := (ars.filter fun a => a.f == s && a.e == e).map (·.t)
theorem inc_tosL {ars : List Arr} (h : IncA ars) (s e : Int) : Inc (tosL ars s e) := by
  unfold tosL
  rw [Inc, List.pairwise_map]
  refine (h.filter _).imp_of_mem (fun {x y} hx hy hxy => ?_)
  have h1 := (List.mem_filter.1 hx).2
  have h2 := (List.mem_filter.1 hy).2
  simp at h1 h2
  rw [aheadB_iff] at hxy
  omega
theorem tosL_step {m : Mach} (hm : mayB m = true) (s e : Int) : tosL m.arrows s e = stepL m.arrows [s] e := by
  refine inc_ext (inc_tosL (may_inc hm) s e) (inc_srt _) (fun x => ?_)
  refine Iff.trans ?_ (mem_stepL m.arrows [s] e x).symm
  unfold tosL
  rw [List.mem_map]
  constructor
  · rintro ⟨a, ha, rfl⟩
    obtain ⟨h1, h2⟩ := List.mem_filter.1 ha
    simp at h2
    exact ⟨a, h1, h2.2, by simp [h2.1], rfl⟩
  · rintro ⟨a, ha, h1, h2, h3⟩
    exact ⟨a, List.mem_filter.2 ⟨ha, by simp at h2; simp [h1, h2]⟩, h3⟩
/-- What stands in the table at a state and an event. -/
def toL (ars : List Arr) (of : List Int) (s e : Int) : List Int := if hasB of e = true then tosL ars s e else [s]
theorem leadsP_to {a b : Mach} (ha : mayB a = true) (hb : mayB b = true) (ofA ofB : List Int) (p : Int × Int) (e : Int) (h : (hasB ofA e || hasB ofB e) = true) : leadsP a.arrows b.arrows p e (hasB ofA e) (hasB ofB e) = crossP (toL a.arrows ofA p.1 e) (toL b.arrows ofB p.2 e) := by
  unfold leadsP toL
  rw [if_pos h, tosL_step ha, tosL_step hb]
theorem toL_inc {m : Mach} (hm : mayB m = true) (of : List Int) (s e : Int) : Inc (toL m.arrows of s e) := by
  unfold toL
  split
  · exact inc_tosL (may_inc hm) s e
  · simp [Inc]
theorem toL_bd {m : Mach} (hm : mayB m = true) (of : List Int) {s : Int} (e : Int) (hs : 0 ≤ s ∧ s < m.st) : ∀ x ∈ toL m.arrows of s e, 0 ≤ x ∧ x < m.st := by
  intro x hx
  unfold toL at hx
  split at hx
  · unfold tosL at hx
    obtain ⟨a, ha, rfl⟩ := List.mem_map.1 hx
    have := may_arrs hm a (List.mem_filter.1 ha).1
    exact ⟨this.2.2.1, this.2.2.2.1⟩
  · simp at hx; subst hx; exact hs
theorem toL_len {m : Mach} (hm : mayB m = true) (of : List Int) (s e : Int) : (toL m.arrows of s e).length ≤ 4096 := by
  have := mayB_size hm
  unfold sizeOk at this
  unfold toL tosL
  split
  · rw [List.length_map]; exact Nat.le_trans (List.length_filter_le _ _) (by omega)
  · simp

/-- The events of which one takes part. -/
def evL (n : Nat) (ofA ofB : List Int) : List Int := (rngI n).filter fun e => (hasB ofA e || hasB ofB e)
theorem leadsP_none (A B : List Arr) (p : Int × Int) (e : Int) {x y : Bool} (h : (x || y) = false) : leadsP A B p e x y = [] := by
  unfold leadsP; rw [if_neg (by simp [h])]
theorem bEvs_evL (a b : Mach) (ofA ofB : List Int) (i : Nat) (p : Int × Int) (s : BS) : ∀ k, bEvs a b ofA ofB i p s k = (evL k ofA ofB).foldl (bEv a b ofA ofB i p) s
  | 0 => by simp [bEvs, evL, rngI]
  | k + 1 => by
    rw [bEvs_succ, bEvs_evL a b ofA ofB i p s k]
    unfold evL
    rw [rngI_succ, List.filter_append, List.foldl_append]
    cases h : (hasB ofA (k : Int) || hasB ofB (k : Int)) with
    | true => simp [h]
    | false =>
      unfold bEv
      rw [leadsP_none _ _ _ _ h]
      simp [h]
theorem evL_eq {n : Int} {ofA ofB l : List Int} (h0 : 0 ≤ n) (hA : ∀ x ∈ ofA, 0 ≤ x ∧ x < n) (hB : ∀ x ∈ ofB, 0 ≤ x ∧ x < n) (hl : Inc l) (hm : ∀ x, x ∈ l ↔ x ∈ ofA ∨ x ∈ ofB) : l = evL n.toNat ofA ofB := by
  refine inc_ext hl ((inc_rngI _).filter _) (fun x => ?_)
  unfold evL
  rw [List.mem_filter, mem_rngI, hm, Bool.or_eq_true, hasB_iff, hasB_iff]
  constructor
  · rintro (h | h)
    · have := hA x h; exact ⟨by omega, .inl h⟩
    · have := hB x h; exact ⟨by omega, .inr h⟩
  · exact fun h => h.2
theorem evL_bd {n : Nat} {ofA ofB : List Int} : ∀ x ∈ evL n ofA ofB, (0 ≤ x ∧ x < n) ∧ (hasB ofA x || hasB ofB x) = true := fun x hx => by
  obtain ⟨h1, h2⟩ := List.mem_filter.1 hx
  exact ⟨(mem_rngI _ _).1 h1, h2⟩
theorem evL_inc (n : Nat) (ofA ofB : List Int) : Inc (evL n ofA ofB) := (inc_rngI _).filter _
theorem evL_len (n : Nat) (ofA ofB : List Int) : (evL n ofA ofB).length ≤ n := Nat.le_trans (List.length_filter_le _ _) (by rw [rngI_len]; exact Nat.le_refl _)

/-! Too many: once, and for ever. -/
theorem bBig_add {i : Nat} {e : Int} {s : BS} {p : Int × Int} (h : bBig s = true) : bBig (bAdd i e s p) = true := by
  obtain ⟨t, h1, -⟩ := bAdd_ps i e s p
  have h2 : (bAdd i e s p).ar.length = s.ar.length + 1 := by simp [bAdd]
  unfold bBig at h ⊢
  rw [h1, h2, List.length_append]
  simp at h ⊢
  omega
theorem bBig_fold {i : Nat} {e : Int} : ∀ (L : List (Int × Int)) {s : BS}, bBig s = true → bBig (L.foldl (bAdd i e) s) = true
  | [], _, h => h
  | p :: r, s, h => bBig_fold r (bBig_add h)
theorem bBig_evs {a b : Mach} {ofA ofB : List Int} {i : Nat} {p : Int × Int} : ∀ (E : List Int) {s : BS}, bBig s = true → bBig (E.foldl (bEv a b ofA ofB i p) s) = true
  | [], _, h => h
  | e :: r, s, h => bBig_evs r (bBig_fold _ h)
theorem bBig_some {s : BS} (h : bBig s = false) : s.ps.length ≤ 256 ∧ s.ar.length ≤ 4096 := by
  unfold bBig at h; simp at h; omega
theorem bBig_mk {s : BS} (h1 : s.ps.length ≤ 256) (h2 : s.ar.length ≤ 4096) : bBig s = false := by
  unfold bBig; simp; omega
theorem besideS_great {a b : Mach} {ofA ofB : List Int} (h : 256 < (crossP a.starts b.starts).length) : besideS a b ofA ofB = none := by
  unfold besideS
  rw [show (300 : Nat) = 299 + 1 from rfl, bGo, if_pos (by dsimp only; omega)]
  rw [if_pos]
  unfold bPair
  rw [bEvs_evL]
  refine bBig_evs _ ?_
  unfold bBig
  simp; omega

/-! The order of arrows. -/
theorem incA_ext : ∀ {a b : List Arr}, IncA a → IncA b → (∀ x, x ∈ a ↔ x ∈ b) → a = b
  | [], [], _, _, _ => rfl
  | [], y :: r, _, _, h => absurd ((h y).2 (by simp)) (by simp)
  | x :: r, [], _, _, h => absurd ((h x).1 (by simp)) (by simp)
  | x :: r, y :: t, ha, hb, h => by
    obtain ⟨a1, a2⟩ := List.pairwise_cons.1 ha
    obtain ⟨b1, b2⟩ := List.pairwise_cons.1 hb
    have irr : ∀ z : Arr, ¬ aheadB z z = true := fun z hz => by rw [aheadB_iff] at hz; omega
    have hxy : x = y := by
      rcases List.mem_cons.1 ((h x).1 (by simp)) with e | hx
      · exact e
      · rcases List.mem_cons.1 ((h y).2 (by simp)) with e | hy
        · exact e.symm
        · exact absurd (aheadB_trans (a1 y hy) (b1 x hx)) (irr x)
    subst hxy
    congr 1
    refine incA_ext a2 b2 (fun z => ?_)
    constructor
    · intro hz
      rcases List.mem_cons.1 ((h z).1 (by simp [hz])) with e | hz'
      · subst e; exact absurd (a1 z hz) (irr z)
      · exact hz'
    · intro hz
      rcases List.mem_cons.1 ((h z).2 (by simp [hz])) with e | hz'
      · subst e; exact absurd (b1 z hz) (irr z)
      · exact hz'
/-- The arrows that are new, sorted, behind those of before. -/
theorem srtA_behind {A N D : List Arr} {i e : Int} (hA : ∀ x ∈ A, x.f < i ∨ (x.f = i ∧ x.e < e)) (hN : ∀ x ∈ N, x.f = i ∧ x.e = e) (hp : D.Perm N) (hs : D.Pairwise fun x y => x.t < y.t) : srtA A ++ D = srtA (A ++ N) := by
  refine incA_ext (List.pairwise_append.2 ⟨inc_srtA A, ?_, fun x hx y hy => ?_⟩) (inc_srtA _) (fun x => ?_)
  · refine hs.imp_of_mem (fun {x y} hx hy h => ?_)
    have h1 := hN x (hp.mem_iff.1 hx)
    have h2 := hN y (hp.mem_iff.1 hy)
    rw [aheadB_iff]; omega
  · have h1 := hA x ((mem_srtA _ _).1 hx)
    have h2 := hN y (hp.mem_iff.1 hy)
    rw [aheadB_iff]; omega
  · rw [List.mem_append, mem_srtA, mem_srtA, List.mem_append, hp.mem_iff]

/-- What holds of pairs and arrows ahead of pair i's event e. -/
structure SI (a b : Mach) (i e : Int) (s : BS) : Prop where
  nd : s.ps.Nodup
  cr : ∀ p ∈ s.ps, (0 ≤ p.1 ∧ p.1 < a.st) ∧ (0 ≤ p.2 ∧ p.2 < b.st)
  lo : ∀ x ∈ s.ar, x.f < i ∨ (x.f = i ∧ x.e < e)
theorem SI.mono {a b : Mach} {i e i' e' : Int} {s : BS} (h : SI a b i e s) (hlt : i < i' ∨ (i = i' ∧ e ≤ e')) : SI a b i' e' s :=
  ⟨h.nd, h.cr, fun x hx => by have := h.lo x hx; omega⟩
theorem bAdd_nd {i : Nat} {e : Int} {s : BS} {p : Int × Int} (h : s.ps.Nodup) : (bAdd i e s p).ps.Nodup := by
  unfold bAdd
  by_cases hn : findP s.ps p.1 p.2 = s.ps.length
  · dsimp only
    rw [if_pos hn, List.nodup_append]
    have hm := findP_new.1 hn
    exact ⟨h, by simp, fun x hx y hy e => by simp at hy; subst hy; subst e; exact hm hx⟩
  · dsimp only
    rw [if_neg hn]; exact h
theorem bAdd_mem {i : Nat} {e : Int} {s : BS} {p q : Int × Int} (h : q ∈ (bAdd i e s p).ps) : q ∈ s.ps ∨ q = p := by
  unfold bAdd at h
  dsimp only at h
  split at h
  · simpa using h
  · exact .inl h
theorem bAdd_at {i : Nat} {e : Int} {s : BS} {p : Int × Int} : (bAdd i e s p).ps[findP s.ps p.1 p.2]? = some p := by
  unfold bAdd
  by_cases hn : findP s.ps p.1 p.2 = s.ps.length
  · dsimp only
    rw [if_pos hn, hn]; simp
  · have hm : p ∈ s.ps := Classical.byContradiction fun hc => hn (findP_new.2 hc)
    dsimp only
    rw [if_neg hn]; exact findP_nth hm
/-- The arrows that a list of pairs brings. -/
def newA (i : Nat) (e : Int) : BS → List (Int × Int) → List Arr
  | _, [] => []
  | s, p :: r => ⟨(i : Int), e, (findP s.ps p.1 p.2 : Nat)⟩ :: newA i e (bAdd i e s p) r
theorem fold_ar (i : Nat) (e : Int) : ∀ (L : List (Int × Int)) (s : BS), (L.foldl (bAdd i e) s).ar = s.ar ++ newA i e s L
  | [], s => by simp [newA]
  | p :: r, s => by
    rw [List.foldl_cons, fold_ar i e r (bAdd i e s p), newA]
    show (s.ar ++ [_]) ++ _ = _
    simp
theorem newA_len (i : Nat) (e : Int) : ∀ (L : List (Int × Int)) (s : BS), (newA i e s L).length = L.length
  | [], _ => rfl
  | p :: r, s => by rw [newA, List.length_cons, newA_len i e r, List.length_cons]
theorem newA_in (i : Nat) (e : Int) : ∀ (L : List (Int × Int)) (s : BS), ∀ x ∈ newA i e s L, x.f = i ∧ x.e = e
  | [], s => by simp [newA]
  | p :: r, s => by
    intro x hx
    rw [newA] at hx
    rcases List.mem_cons.1 hx with rfl | hx
    · exact ⟨rfl, rfl⟩
    · exact newA_in i e r _ x hx
theorem newA_at (i : Nat) (e : Int) : ∀ (L : List (Int × Int)) (s : BS), ∀ x ∈ newA i e s L, ∃ p ∈ L, 0 ≤ x.t ∧ (L.foldl (bAdd i e) s).ps[x.t.toNat]? = some p
  | [], s => by simp [newA]
  | p :: r, s => by
    intro x hx
    rw [newA] at hx
    rcases List.mem_cons.1 hx with rfl | hx
    · refine ⟨p, by simp, by dsimp only; omega, ?_⟩
      rw [List.foldl_cons]
      obtain ⟨t, h1, -⟩ := bFold_ps i e r (bAdd i e s p)
      have h2 := bAdd_at (i := i) (e := e) (s := s) (p := p)
      dsimp only
      rw [Int.toNat_natCast, h1, List.getElem?_append_left (List.getElem?_eq_some_iff.1 h2).1]
      exact h2
    · obtain ⟨q, hq, h1, h2⟩ := newA_at i e r _ x hx
      exact ⟨q, by simp [hq], h1, h2⟩
theorem newA_nd (i : Nat) (e : Int) : ∀ (L : List (Int × Int)) (s : BS), L.Nodup → (newA i e s L).Pairwise (fun x y => x.t ≠ y.t)
  | [], s, _ => by simp [newA]
  | p :: r, s, h => by
    obtain ⟨h1, h2⟩ := List.nodup_cons.1 h
    rw [newA]
    refine List.pairwise_cons.2 ⟨fun y hy he => ?_, newA_nd i e r _ h2⟩
    obtain ⟨q, hq, h3, h4⟩ := newA_at i e r _ y hy
    dsimp only at he
    rw [← he, Int.toNat_natCast] at h4
    obtain ⟨t, h5, -⟩ := bFold_ps i e r (bAdd i e s p)
    have h6 := bAdd_at (i := i) (e := e) (s := s) (p := p)
    rw [h5, List.getElem?_append_left (List.getElem?_eq_some_iff.1 h6).1, h6] at h4
    cases h4
    exact h1 hq
theorem fold_nd (i : Nat) (e : Int) : ∀ (L : List (Int × Int)) {s : BS}, s.ps.Nodup → (L.foldl (bAdd i e) s).ps.Nodup
  | [], _, h => h
  | p :: r, s, h => fold_nd i e r (bAdd_nd h)
theorem fold_mem (i : Nat) (e : Int) : ∀ (L : List (Int × Int)) {s : BS} {q : Int × Int}, q ∈ (L.foldl (bAdd i e) s).ps → q ∈ s.ps ∨ q ∈ L
  | [], _, _, h => .inl h
  | p :: r, s, q, h => by
    rcases fold_mem i e r (s := bAdd i e s p) h with h | h
    · rcases bAdd_mem h with h | rfl
      · exact .inl h
      · exact .inr (by simp)
    · exact .inr (by simp [h])
theorem SI.fold {a b : Mach} {i : Nat} {e : Int} {s : BS} {L : List (Int × Int)} (h : SI a b i e s) (hL : ∀ p ∈ L, (0 ≤ p.1 ∧ p.1 < a.st) ∧ (0 ≤ p.2 ∧ p.2 < b.st)) : SI a b i (e + 1) (L.foldl (bAdd i e) s) := by
  refine ⟨fold_nd i e L h.nd, fun p hp => ?_, fun x hx => ?_⟩
  · rcases fold_mem i e L hp with hp | hp
    · exact h.cr p hp
    · exact hL p hp
  · rw [fold_ar] at hx
    rcases List.mem_append.1 hx with hx | hx
    · have := h.lo x hx; omega
    · have := newA_in i e L s x hx; omega
theorem newA_snoc (i : Nat) (e : Int) : ∀ (L : List (Int × Int)) (s : BS) (p : Int × Int), newA i e s (L ++ [p]) = newA i e s L ++ [⟨(i : Int), e, (findP (L.foldl (bAdd i e) s).ps p.1 p.2 : Nat)⟩]
  | [], s, p => by simp [newA]
  | q :: r, s, p => by
    rw [List.cons_append, newA, newA_snoc i e r (bAdd i e s q) p, newA]
    simp
/-- Starts: each pair is new. -/
theorem findP_cross {S T : List Int} (hS : Inc S) (hT : Inc T) {n : Nat} {p : Int × Int} (hp : (crossP S T)[n]? = some p) : findP ((crossP S T).take n) p.1 p.2 = n := by
  have hn := (List.getElem?_eq_some_iff.1 hp).1
  have hnd := nodup_crossP (inc_nodup hS) (inc_nodup hT)
  have : p ∉ (crossP S T).take n := by
    intro hm
    obtain ⟨j, hj⟩ := List.mem_iff_getElem?.1 hm
    rw [List.getElem?_take] at hj
    split at hj
    · rename_i hjn
      obtain ⟨l1, e1⟩ := List.getElem?_eq_some_iff.1 hj
      obtain ⟨l2, e2⟩ := List.getElem?_eq_some_iff.1 hp
      have := (List.getElem_inj hnd).1 (e1.trans e2.symm)
      omega
    · cases hj
  rw [findP_new.2 this, List.length_take]
  omega

end Go.Proofs.YtcjcjaeaoianfaaDoor
namespace Go.Proofs.YtcjcjaeaoianfaaDoor
open Go.RowKit
set_option linter.unusedVariables false

theorem getD_cons_succ' (y : Int) (r : List Int) (j : Nat) : (y :: r)[j + 1]?.getD 0 = r[j]?.getD 0 := by simp

theorem ins_put {x : Int} : ∀ {L : List Int} {p : Nat}, p ≤ L.length → (∀ j, j < p → L[j]?.getD 0 < x) → (p = L.length ∨ x < L[p]?.getD 0) → ins x L = L.take p ++ x :: L.drop p
  | [], p, hp, _, _ => by have : p = 0 := by simpa using hp
                          subst this; simp [ins]
  | y :: r, 0, _, _, h => by
    rcases h with h | h
    · simp at h
    · have h : x < y := by simpa using h
      simp only [ins, List.take_zero, List.drop_zero, List.nil_append]
      rw [if_neg (by omega), if_neg (by omega)]
  | y :: r, p + 1, hp, hl, h => by
    have h0 : y < x := by simpa using hl 0 (by omega)
    have := ins_put (x := x) (L := r) (p := p) (by simpa using hp) (fun j hj => by have := hl (j + 1) (by omega); rwa [getD_cons_succ'] at this) (by rcases h with h | h; left; simpa using h; right; rwa [getD_cons_succ'] at h)
    simp only [ins]
    rw [if_pos h0, this]
    simp
theorem ins_same {x : Int} : ∀ {L : List Int} {p : Nat}, p < L.length → (∀ j, j < p → L[j]?.getD 0 < x) → L[p]?.getD 0 = x → ins x L = L
  | [], p, hp, _, _ => by simp at hp
  | y :: r, 0, _, _, h => by
    have h : y = x := by simpa using h
    simp only [ins]
    rw [if_neg (by omega), if_pos h]
  | y :: r, p + 1, hp, hl, h => by
    have h0 : y < x := by simpa using hl 0 (by omega)
    have := ins_same (x := x) (L := r) (p := p) (by simpa using hp) (fun j hj => by have := hl (j + 1) (by omega); rwa [getD_cons_succ'] at this) (by rwa [getD_cons_succ'] at h)
    simp only [ins]
    rw [if_pos h0, this]

/-- The list with one place more, at c. -/
def gap (L : List Int) (c : Nat) (y : Int) : List Int := L.take c ++ y :: L.drop c

theorem gap_len {L : List Int} {c : Nat} {y : Int} (h : c ≤ L.length) : (gap L c y).length = L.length + 1 := by simp [gap]; omega
theorem gap_end (L : List Int) : L ++ [0] = gap L L.length 0 := by simp [gap]
theorem gap_at {L : List Int} {c : Nat} {y : Int} (h : c < L.length) : (gap L (c + 1) y)[c]?.getD 0 = L[c]?.getD 0 := by
  rw [gap, List.getElem?_append_left (by simp; omega), List.getElem?_take_of_lt (by omega)]
theorem gap_set {L : List Int} {c : Nat} {y x : Int} (h : c ≤ L.length) : (gap L c y).set c x = gap L c x := by
  rw [gap, gap, List.set_append_right _ _ (by simp; omega)]
  simp only [List.length_take]
  rw [show c - min c L.length = 0 by omega]; rfl
theorem gap_move {L : List Int} {c : Nat} {y : Int} (h : c < L.length) : (gap L (c + 1) y).set (c + 1) (L[c]?.getD 0) = gap L c (L[c]?.getD 0) := by
  rw [gap_set (by omega), gap, gap, List.take_add_one, List.getElem?_eq_getElem h]
  conv => rhs; rw [List.drop_eq_getElem_cons h]
  simp only [Option.toList_some, Option.getD_some, List.append_assoc, List.singleton_append]

theorem Own.cellAt {w : World} {B g n cap : Nat} {M : List Int} (h : Own w B (.slice (some ⟨g, 0, none⟩) n cap) M) {j : Nat} (hj : j < M.length) : w.cell? ⟨g, j, none⟩ = some (.int .i64 (M[j]?.getD 0)) ∧ w.frozen? ⟨g, j, none⟩ = false ∧ B ≤ g := by
  rcases h.cells_of with ⟨h0, _⟩ | ⟨g', cap', h0, hb, hg, hc, hf⟩
  · simp at h0
  · simp only [Value.slice.injEq, Option.some.injEq, Addr.mk.injEq, and_true] at h0
    obtain ⟨rfl, rfl, rfl⟩ := h0
    have := hc j hj
    rw [Nat.zero_add, List.getD_eq_getElem?_getD] at this
    exact ⟨this, hf j, hb⟩
theorem Own.stored {w : World} {B g n cap : Nat} {M : List Int} (h : Own w B (.slice (some ⟨g, 0, none⟩) n cap) M) (j : Nat) (x : Int) : Own (w.setCell ⟨g, j, none⟩ (.int .i64 x)) B (.slice (some ⟨g, 0, none⟩) n cap) (M.set j x) := by
  have hn : n = M.length := by
    rcases h.2 with ⟨h0, _⟩ | ⟨g', cap', cur, h0, _⟩
    · simp at h0
    · simp only [Value.slice.injEq] at h0; exact h0.2.1
  subst hn
  have := (World.ownsRow.stored h j (.int .i64 x)).1
  unfold Own
  rw [List.length_set, List.map_set]
  exact this
theorem Own.shape {w : World} {B : Nat} {v : Value} {M : List Int} (h : Own w B v M) (hp : 0 < M.length) : ∃ g cap, v = .slice (some ⟨g, 0, none⟩) M.length cap := by
  rcases h.cells_of with ⟨_, h0⟩ | ⟨g', cap', h0, _⟩
  · subst h0; simp at hp
  · exact ⟨g', cap', h0⟩

theorem srt_take {xs : List Int} {k : Nat} {x : Int} (h : k < xs.length) (hx : Hid (x = xs[k]?.getD 0)) : srt (xs.take (k + 1)) = ins x (srt (xs.take k)) := by
  have hx := hx.out
  rw [List.getElem?_eq_getElem h, Option.getD_some] at hx
  rw [List.take_add_one, List.getElem?_eq_getElem h, Option.toList_some, srt_snoc, hx]

set_option maxHeartbeats 2000000 in
set_option maxRecDepth 100000 in
theorem sorted_some (bx ox cx : Nat) (xs : List Int) (w : World) (hl : xs.length ≤ 17592186044416) (hbx : bx < w.heap.size) (hc : Cells w bx ox xs) :
    Calls Tryd.prog 76 #[.slice (some ⟨bx, ox, none⟩) xs.length cx] w fun e w' => ∃ v, e = .returned v ∧ Own w' w.heap.size v (srt xs) ∧ Below w.heap.size w w' := by
  obtain ⟨i0, hi, hz0, hz1, hz2⟩ := info_parts Tryd.infoInt
  go_enter Tryd.func76, Tryd.ntmps76
  go_wp2
  go_loopw [3, 4] (fun v i wr => ∃ k : Nat, k ≤ xs.length ∧ i = .int .i64 k ∧ Own wr w.heap.size v (srt (xs.take k)) ∧ Below w.heap.size w wr) (fun _ i _ => xs.length - (intOf i).toNat)
  case atStart => exact ⟨0, Nat.zero_le _, rfl, own_nil _ _, Below.refl _ _⟩
  case round =>
    obtain ⟨k, hk, rfl, hown, hbel⟩ := hrel
    by_cases hlt : k < xs.length
    · obtain ⟨x, HX, hcx0⟩ := hc.at hlt
      obtain ⟨wo, hwo⟩ : ∃ wo : World, wo = wr := ⟨_, rfl⟩
      subst hwo
      have hcx : wo.cell? ⟨bx, ox + k, none⟩ = some (.int .i64 x) := (hbel.cell (p := ⟨bx, ox + k, none⟩) hbx).trans hcx0
      have hcx00 := hcx0
      clear hcx0
      have hnext : Hid (srt (xs.take (k + 1)) = ins x (srt (xs.take k))) := srt_take hlt HX
      have hll : (srt (xs.take k)).length ≤ k := Nat.le_trans (srt_len _) (List.length_take_le _ _)
      generalize srt (xs.take k) = L at *
      obtain ⟨a, cap, rfl, hat, hlm⟩ := hown.at
      unfold maxLen at hlm
      go_wp2
      go_loopw [5] (fun i wr' => ∃ p q : Nat, p ≤ L.length ∧ i = .int .i64 p ∧ wr' = wo.drewN q ∧ Hid (∀ j, j < p → L[j]?.getD 0 < x)) (fun i _ => L.length - (intOf i).toNat)
      case atStart => exact ⟨0, 0, Nat.zero_le _, rfl, rfl, fun j hj => by omega⟩
      case round =>
        obtain ⟨p, q, hp, rfl, rfl, hlow⟩ := hrel
        by_cases hpl : p < L.length
        · rcases hat with h0 | ⟨b, off, rfl, hb, hca⟩
          · subst h0; simp at hpl
          · obtain ⟨y, HY, hcy⟩ := hca.at hpl
            by_cases c1 : y < x
            · have d : decide (y < x) = true := by simpa using c1
              go_wp2
              go_quiet (fail)
              go_wp2
              go_roundw
              case rel => exact ⟨p + 1, _, by omega, by go_num, rfl, fun j hj => by
                by_cases e : j = p
                · subst e; have := HY.out; omega
                · exact hlow.out j (by omega)⟩
              case measure => simp [intOf]; omega
            · have d : decide (y < x) = false := by simpa using c1
              go_wp2
              go_quiet (fail)
              go_wp2
              obtain ⟨Q, hQ⟩ : ∃ Q, (wo.drewN q).drewN nq = wo.drewN Q := ⟨_, World.drewN_drewN _ _ _⟩
              rw [hQ]
              clear hQ
              by_cases c2 : y = x
              · have HC : Hid (y = x) := c2
                have d2 : (y == x) = true := by simp [c2]
                clear c2
                have E2 : Hid (srt (xs.take (k + 1)) = L) := by show _ = _; rw [hnext.out]; exact ins_same hpl hlow.out (by rw [← HY.out]; exact HC.out)
                go_quiet (fail)
                go_wp2
                go_roundw
                case rel => exact ⟨k + 1, by omega, by go_num, by rw [E2.out]; exact hown.drewN _, below_drewN hbel _⟩
                case measure => simp [intOf]; omega
              · have d2 : (y == x) = false := by simp [c2]
                go_quiet (fail)
                obtain ⟨Q', hQ'⟩ : ∃ Q', (wo.drewN Q).drewN nq = wo.drewN Q' := ⟨_, World.drewN_drewN _ _ _⟩
                rw [hQ']
                clear hQ'
                have HE : Hid (p = L.length ∨ x < L[p]?.getD 0) := .inr (by have := HY.out; omega)
                obtain ⟨wq, hwq⟩ : ∃ wq : World, wq = wo.drewN Q' := ⟨_, rfl⟩
                have hown0 : Own wq w.heap.size (.slice (some ⟨b, off, none⟩) L.length cap) L := by rw [hwq]; exact hown.drewN Q'
                have hbelo : Below w.heap.size w wq := by rw [hwq]; exact below_drewN hbel _
                have hcxq : wq.cell? ⟨bx, ox + k, none⟩ = some (.int .i64 x) := by rw [hwq]; exact hcx
                rw [← hwq]
                clear hwq hown hbel hcx
                have hszo : w.heap.size ≤ wq.heap.size := hbelo.size
                have hbxq : bx < wq.heap.size := by omega
                go_wp2_with (at_builtin; refine wpList_append_own _ rfl _ _ 22 rfl w.heap.size 3 i0 (.int .i64 0) 1 8 Tryd.underlying22 hi hz0 hz1 hz2 rfl (by decide) _ _ _ rfl (World.ownsRow.alloc hown0 _) ⟨wq.heap.size, 0, none⟩ 1 1 [.int .i64 0] rfl rfl (cell_one_new _ _ _) (by intro u hu; simp at hu; subst hu; rfl) (by unfold maxLen; omega) (by omega) (by simp; omega) ?_)
                intro v' w1 hown' hgrow _
                obtain ⟨o1, o2, -⟩ := own_snoc hown0 hbelo hszo hown' hgrow
                clear hown' hgrow hown0 hcxq
                obtain ⟨g, cap', rfl⟩ := o1.shape (by simp)
                rw [List.length_append, List.length_singleton] at o1 ⊢
                rw [gap_end] at o1
                go_wp2
                go_loopw [6] (fun i wr' => ∃ (c : Nat) (z : Int), p ≤ c ∧ c ≤ L.length ∧ i = .int .i64 c ∧ Own wr' w.heap.size (.slice (some ⟨g, 0, none⟩) (L.length + 1) cap') (gap L c z) ∧ Below w.heap.size w wr') (fun i _ => (intOf i).toNat)
                case atStart => exact ⟨L.length, 0, hp, Nat.le_refl _, by go_num, o1, o2⟩
                case round =>
                  obtain ⟨c, z, hc1, hc2, rfl, ow, bw⟩ := hrel
                  clear o1 o2
                  by_cases hcp : p < c
                  · obtain ⟨e, rfl⟩ : ∃ e, c = e + 1 := ⟨c - 1, by omega⟩
                    have hgl := gap_len (y := z) hc2
                    obtain ⟨f1, f2, f3⟩ := ow.cellAt (j := e) (by omega)
                    obtain ⟨f4, f5, -⟩ := ow.cellAt (j := e + 1) (by omega)
                    rw [gap_at (by omega)] at f1
                    have ow' := ow.stored (e + 1) (L[e]?.getD 0)
                    rw [gap_move (by omega)] at ow'
                    have bw' := bw.setCell (p := ⟨g, e + 1, none⟩) f3 (.int .i64 (L[e]?.getD 0))
                    generalize L[e]?.getD 0 = u at *
                    generalize (gap L (e + 1) z)[e + 1]?.getD 0 = u' at *
                    clear ow
                    go_wp2
                    go_roundw
                    case rel => exact ⟨e, u, by omega, by omega, by go_num, ow', bw'⟩
                    case measure => simp [intOf]
                  · have hcp' : c = p := by omega
                    subst hcp'
                    have hgl := gap_len (y := z) hc2
                    obtain ⟨f1, f2, f3⟩ := ow.cellAt (j := c) (by omega)
                    have hcx2 : wr.cell? ⟨bx, ox + k, none⟩ = some (.int .i64 x) := (bw.cell (p := ⟨bx, ox + k, none⟩) hbx).trans hcx00
                    have ow' := ow.stored c x
                    rw [gap_set hc2, gap, ← ins_put hc2 hlow.out HE.out, ← hnext.out] at ow'
                    have bw' := bw.setCell (p := ⟨g, c, none⟩) f3 (.int .i64 x)
                    generalize (gap L c z)[c]?.getD 0 = u' at *
                    clear ow
                    go_wp2
                    go_roundw
                    case rel => exact ⟨k + 1, by omega, by go_num, ow', bw'⟩
                    case measure => simp [intOf]; omega
        · go_wp2
          go_quiet (fail)
          go_wp2
          obtain ⟨Q, hQ⟩ : ∃ Q, (wo.drewN q).drewN nq = wo.drewN Q := ⟨_, World.drewN_drewN _ _ _⟩
          rw [hQ]
          clear hQ
          go_quiet (fail)
          obtain ⟨Q', hQ'⟩ : ∃ Q', (wo.drewN Q).drewN nq = wo.drewN Q' := ⟨_, World.drewN_drewN _ _ _⟩
          rw [hQ']
          clear hQ'
          have HE : Hid (p = L.length ∨ x < L[p]?.getD 0) := .inl (by omega)
          obtain ⟨wq, hwq⟩ : ∃ wq : World, wq = wo.drewN Q' := ⟨_, rfl⟩
          have hown0 : Own wq w.heap.size (.slice a L.length cap) L := by rw [hwq]; exact hown.drewN Q'
          have hbelo : Below w.heap.size w wq := by rw [hwq]; exact below_drewN hbel _
          have hcxq : wq.cell? ⟨bx, ox + k, none⟩ = some (.int .i64 x) := by rw [hwq]; exact hcx
          rw [← hwq]
          clear hwq hown hbel hcx hat
          have hszo : w.heap.size ≤ wq.heap.size := hbelo.size
          have hbxq : bx < wq.heap.size := by omega
          go_wp2_with (at_builtin; refine wpList_append_own _ rfl _ _ 22 rfl w.heap.size 3 i0 (.int .i64 0) 1 8 Tryd.underlying22 hi hz0 hz1 hz2 rfl (by decide) _ _ _ rfl (World.ownsRow.alloc hown0 _) ⟨wq.heap.size, 0, none⟩ 1 1 [.int .i64 0] rfl rfl (cell_one_new _ _ _) (by intro u hu; simp at hu; subst hu; rfl) (by unfold maxLen; omega) (by omega) (by simp; omega) ?_)
          intro v' w1 hown' hgrow _
          obtain ⟨o1, o2, -⟩ := own_snoc hown0 hbelo hszo hown' hgrow
          clear hown' hgrow hown0 hcxq
          obtain ⟨g, cap', rfl⟩ := o1.shape (by simp)
          rw [List.length_append, List.length_singleton] at o1 ⊢
          rw [gap_end] at o1
          go_wp2
          go_loopw [6] (fun i wr' => ∃ (c : Nat) (z : Int), p ≤ c ∧ c ≤ L.length ∧ i = .int .i64 c ∧ Own wr' w.heap.size (.slice (some ⟨g, 0, none⟩) (L.length + 1) cap') (gap L c z) ∧ Below w.heap.size w wr') (fun i _ => (intOf i).toNat)
          case atStart => exact ⟨L.length, 0, hp, Nat.le_refl _, by go_num, o1, o2⟩
          case round =>
            obtain ⟨c, z, hc1, hc2, rfl, ow, bw⟩ := hrel
            clear o1 o2
            by_cases hcp : p < c
            · omega
            · have hcp' : c = p := by omega
              subst hcp'
              have hgl := gap_len (y := z) hc2
              obtain ⟨f1, f2, f3⟩ := ow.cellAt (j := c) (by omega)
              have hcx2 : wr.cell? ⟨bx, ox + k, none⟩ = some (.int .i64 x) := (bw.cell (p := ⟨bx, ox + k, none⟩) hbx).trans hcx00
              have ow' := ow.stored c x
              rw [gap_set hc2, gap, ← ins_put hc2 hlow.out HE.out, ← hnext.out] at ow'
              have bw' := bw.setCell (p := ⟨g, c, none⟩) f3 (.int .i64 x)
              generalize (gap L c z)[c]?.getD 0 = u' at *
              clear ow
              go_wp2
              go_roundw
              case rel => exact ⟨k + 1, by omega, by go_num, ow', bw'⟩
              case measure => simp [intOf]; omega
    · rw [List.take_of_length_le (by omega)] at hown
      go_wp2
      go_ret
      exact ⟨_, rfl, hown, hbel⟩

set_option maxHeartbeats 400000 in
theorem sorted_nil (a : Option Addr) (cx : Nat) (w : World) :
    Calls Tryd.prog 76 #[.slice a 0 cx] w fun e w' => e = .returned (.slice none 0 0) ∧ w' = w := by
  go_enter Tryd.func76, Tryd.ntmps76
  go_wp2
  refine wp_loop_rounds 1 ?_
  rw [rounds_succ]
  go_wp2
  go_ret
  exact ⟨rfl, rfl⟩

theorem sorted_any (a : Option Addr) (cx : Nat) (xs : List Int) (w : World) (hs : At w a xs) (hl : xs.length ≤ 17592186044416) :
    Calls Tryd.prog 76 #[.slice a xs.length cx] w fun e w' => Gives w (srt xs) e w' := by
  rcases hs with rfl | ⟨b, off, rfl, hb, hc⟩
  · refine (sorted_nil a cx w).mono ?_
    rintro e w' ⟨rfl, rfl⟩
    exact gives_of_own (B := w'.heap.size) (own_nil _ _) (Below.refl _ _)
  · refine (sorted_some b off cx xs w hl hb hc).mono ?_
    rintro e w' ⟨v, rfl, h1, h2⟩
    exact gives_of_own h1 h2

end Go.Proofs.YtcjcjaeaoianfaaDoor
namespace Go.Proofs.YtcjcjaeaoianfaaDoor
open Go.RowKit

theorem Own.low {w : World} {B B' : Nat} {v : Value} {xs : List Int} (h : Own w B v xs) (hB : B' ≤ B) : Own w B' v xs := by
  refine ⟨h.1, ?_⟩
  rcases h.2 with hn | ⟨g, cap, cur, e, hg, rest⟩
  · exact .inl hn
  · exact .inr ⟨g, cap, cur, e, Nat.le_trans hB hg, rest⟩
theorem GivesO.gives {w : World} {xs : List Int} {e : Ending} {w' : World} (h : GivesO w xs e w') : Gives w xs e w' := by
  obtain ⟨v, rfl, h1, h2⟩ := h
  exact gives_of_own h1 h2
theorem sorted_own (a : Option Addr) (cx : Nat) (xs : List Int) (w : World) (hs : At w a xs) (hl : xs.length ≤ 17592186044416) :
    Calls Tryd.prog 76 #[.slice a xs.length cx] w fun e w' => GivesO w (srt xs) e w' := by
  rcases hs with rfl | ⟨b, off, rfl, hb, hc⟩
  · refine (sorted_nil a cx w).mono ?_
    rintro e w' ⟨rfl, rfl⟩
    exact ⟨_, rfl, own_nil _ _, Below.refl _ _⟩
  · refine (sorted_some b off cx xs w hl hb hc).mono ?_
    rintro e w' ⟨v, rfl, h1, h2⟩
    exact ⟨v, rfl, h1, h2⟩

end Go.Proofs.YtcjcjaeaoianfaaDoor
namespace Go.Proofs.YtcjcjaeaoianfaaDoor
open Go.RowKit
set_option linter.unusedVariables false

section
variable {P : Program} (w : World)
theorem wp_append_nil {o : Oper} {a : Act} {K : Act → World → Prop} {Q : Exit → Act → World → Prop} (s x : Operand) (t : TypeId)
    (ho : o.op = .call { callee := .builtin .append, args := #[s, x], argTypes := #[t, t] })
    (base : Nat) (e : TypeId) (i : TypeInfo) (size : Nat) (ht : P.underlying t = some (.slice e)) (hi : P.info? e = some i)
    (v : Value) (n : Nat) (xs : List Value) (hs : a.eval s = v) (hown : w.ownsRow base e size v n xs) (hx : a.eval x = .slice none 0 0)
    (h : K (a.put o.dst v) w) : o.wp P a w K Q := by
  have hr := run_append_owned_none (P := P) w base t o.type e i size ht hi v n xs hown
  unfold Oper.wp execOp
  simp only [ho, resolve, invoke, builtin, Sem.run_bind, Sem.run_pure, Result.andThen_ok, List.map_toArray, List.map_cons, List.map_nil, hs, hx, hr]
  exact h

/-- append(v, y...): v is a row of integers of the call's own, y any slice of integers (nil among them). -/
theorem wpList_append_ints {ops : Array Oper} {rest : List Oper} {o : Oper} {a : Act} {Q : Exit → Act → World → Prop} (hgd : o.guard = none) (s x : Operand) (t : TypeId)
    (ho : o.op = .call { callee := .builtin .append, args := #[s, x], argTypes := #[t, t] })
    (B : Nat) (i : TypeInfo) (ht : P.underlying t = some (.slice 3)) (hi : P.info? 3 = some i) (hz : i.zero = some (.int .i64 0)) (hsize : i.size = 1) (hby : i.bytes = 8)
    (v : Value) (L : List Int) (hs : a.eval s = v) (hown : Own w B v L)
    (ad : Option Addr) (c : Nat) (ys : List Int) (hx : a.eval x = .slice ad ys.length c) (hat : At w ad ys) (hnil : ad = none → c = 0)
    (hroom : (L.length + ys.length) * 8 ≤ 140737488355328) (hbase : B ≤ w.heap.size)
    (h : ∀ v' w', Own w' B v' (L ++ ys) → Below B w w' → B ≤ w'.heap.size → wpList P ops Q rest (a.put o.dst v') w') : wpList P ops Q (o :: rest) a w := by
  cases ad with
  | none =>
    have hy : ys = [] := by
      rcases hat with h | ⟨b, off, h, _⟩
      · exact h
      · cases h
    subst hy
    rw [hnil rfl] at hx
    refine wpList_plain hgd fun _ hK => wp_append_nil w s x t ho B 3 i 1 ht hi v _ _ hs hown hx (hK _ _ (h v w ?_ (Below.refl _ _) hbase))
    rw [List.append_nil]; exact hown
  | some ad =>
    refine wpList_append_own w hgd s x t ho B 3 i (.int .i64 0) 1 8 ht hi hz hsize hby rfl (by decide) v _ _ hs hown ad ys.length c (ys.map (Value.int .i64)) hx (by simp) ?_ ?_ (by unfold maxLen; omega) hroom hbase ?_
    · intro j u hu
      rw [List.getElem?_map] at hu
      rcases hat with h0 | ⟨b, off, h0, _, hc⟩
      · subst h0; simp at hu
      · cases h0
        cases hj : ys[j]? with
        | none => rw [hj] at hu; simp at hu
        | some y =>
          rw [hj] at hu
          simp only [Option.map_some, Option.some.injEq] at hu
          subst hu
          have := hc j (List.getElem?_eq_some_iff.1 hj).1
          rw [List.getD_eq_getElem?_getD, hj, Option.getD_some] at this
          rw [show (⟨b, off, none⟩ : Addr).add j = ⟨b, off + j, none⟩ from by simp [Addr.add]]
          exact this
    · intro u hu
      obtain ⟨y, _, rfl⟩ := List.mem_map.1 hu
      rfl
    · intro v' w' ho' hg _
      refine h v' w' ?_ ((Below.refl _ _).grown hg hbase (fun j hj => (hown.lt j hj).1)) (Nat.le_trans hbase hg.size)
      unfold Own
      rw [List.length_append, List.map_append]
      exact ho'
end

theorem own_empty (w : World) : Own (w.alloc (.cells #[] 3)) w.heap.size (.slice (some ⟨w.heap.size, 0, none⟩) 0 0) [] :=
  World.ownsRow_lit w #[] 0 (Nat.le_refl _) (Nat.zero_le _) rfl

end Go.Proofs.YtcjcjaeaoianfaaDoor
namespace Go.Proofs.YtcjcjaeaoianfaaDoor
open Go.RowKit

set_option maxHeartbeats 400000 in
theorem refHas_some (b off cap : Nat) (xs : List Int) (n : Int) (w : World) (hl : xs.length ≤ 9223372036854775807) (hc : Cells w b off xs) :
    Calls Tryd.prog 75 #[.slice (some ⟨b, off, none⟩) xs.length cap, .int .i64 n] w fun e w' => e = .returned (.bool (hasB xs n)) ∧ w' = w := by
  go_enter Tryd.func75, Tryd.ntmps75
  go_wp2
  go_loop [5] (fun i => ∃ k : Nat, k ≤ xs.length ∧ i = .int .i64 k ∧ Hid (hasB xs n = hasB (xs.drop k) n)) (fun i => xs.length - (intOf i).toNat)
  case atStart => exact ⟨0, Nat.zero_le _, rfl, rfl⟩
  case round =>
    obtain ⟨k, hk, rfl, he⟩ := hrel
    by_cases hlt : k < xs.length
    · obtain ⟨x, HX, hcell⟩ := hc.at hlt
      go_wp2
      · go_ret
        exact ⟨ret_bool (has_hit hlt he HX (by assumption)), rfl⟩
      · go_round
        case rel => exact ⟨k + 1, by omega, by go_num, has_miss hlt he HX (by assumption)⟩
        case measure => simp [intOf]; omega
    · go_wp2
      go_ret
      exact ⟨ret_bool (has_end hlt he), rfl⟩

set_option maxHeartbeats 400000 in
theorem refHas_nil (a : Option Addr) (cap : Nat) (n : Int) (w : World) :
    Calls Tryd.prog 75 #[.slice a 0 cap, .int .i64 n] w fun e w' => e = .returned (.bool false) ∧ w' = w := by
  go_enter Tryd.func75, Tryd.ntmps75
  go_wp2
  refine wp_loop_rounds 1 ?_
  rw [rounds_succ]
  go_wp2
  go_ret
  exact ⟨rfl, rfl⟩

theorem refHas_any (a : Option Addr) (cap : Nat) (xs : List Int) (n : Int) (w : World) (hs : At w a xs) (hl : xs.length ≤ maxLen) :
    Calls Tryd.prog 75 #[.slice a xs.length cap, .int .i64 n] w fun e w' => e = .returned (.bool (hasB xs n)) ∧ w' = w := by
  rcases hs with rfl | ⟨b, off, rfl, -, hc⟩
  · exact refHas_nil a cap n w
  · exact refHas_some b off cap xs n w hl hc

end Go.Proofs.YtcjcjaeaoianfaaDoor
