/-
  Plain: what package beside makes of pairs and arrows on its way, held against what the chapter says. No program, no model.
  Plain: the table of where the states of a machine lead to, as package beside fills it. No program, no model.
  What is said of a machine's block, and of slices that lie elsewhere.
  The walk of beside.refuse.
  A machine's block that is written whole; results with a machine.
  What is said on the way through jalousieref4.Beside, where the machine is laid out.
  What both walks of package beside leave.
-/
import Derived.Test.YtdnglodemkeooaaG10
import Derived.Laws.ResultCell
import Derived.Test.YtdnglodemkeooaaG02
import Derived.Test.YtdnglodemkeooaaG03
import Derived.Test.YtdnglodemkeooaaG01
import Derived.Test.YtdnglodemkeooaaG08
import Derived.Test.YtdnglodemkeooaaG06
namespace Go.Proofs.Ytdnglodemkeooaa
open Go.RowKit
set_option linter.unusedVariables false

/-- Where the arrows of a state lead to at an event, in the arrows' order. -/
def tosL (ars : List Arr) (s e : Int) : List Int := (ars.filter fun a => a.f == s && a.e == e).map (·.t)
theorem inc_tosL {ars : List Arr} (h : IncA ars) (s e : Int) : Inc (tosL ars s e) := by
  unfold tosL
  rw [Inc, List.pairwise_map]
  refine (h.filter _).imp_of_mem (fun {x y} hx hy hxy => ?_)
  have h1 := (List.mem_filter.1 hx).2
  have h2 := (List.mem_filter.1 hy).2
  simp at h1 h2
  rw [aheadB_iff] at hxy
  omega
theorem tosL_step {m : Mach} (hm : mayB m = true) (s e : Int) : tosL m.arrows s e = stepL m.arrows [s] e := by
  refine inc_ext (inc_tosL (may_inc hm) s e) (inc_srt _) (fun x => ?_)
  refine Iff.trans ?_ (mem_stepL m.arrows [s] e x).symm
  unfold tosL
  rw [List.mem_map]
  constructor
  · rintro ⟨a, ha, rfl⟩
    obtain ⟨h1, h2⟩ := List.mem_filter.1 ha
    simp at h2
    exact ⟨a, h1, h2.2, by simp [h2.1], rfl⟩
  · rintro ⟨a, ha, h1, h2, h3⟩
    exact ⟨a, List.mem_filter.2 ⟨ha, by simp at h2; simp [h1, h2]⟩, h3⟩
/-- What stands in the table at a state and an event. -/
def toL (ars : List Arr) (of : List Int) (s e : Int) : List Int := if hasB of e = true then tosL ars s e else [s]
theorem leadsP_to {a b : Mach} (ha : mayB a = true) (hb : mayB b = true) (ofA ofB : List Int) (p : Int × Int) (e : Int) (h : (hasB ofA e || hasB ofB e) = true) : leadsP a.arrows b.arrows p e (hasB ofA e) (hasB ofB e) = crossP (toL a.arrows ofA p.1 e) (toL b.arrows ofB p.2 e) := by
  unfold leadsP toL
  rw [if_pos h, tosL_step ha, tosL_step hb]
theorem toL_inc {m : Mach} (hm : mayB m = true) (of : List Int) (s e : Int) : Inc (toL m.arrows of s e) := by
  unfold toL
  split
  · exact inc_tosL (may_inc hm) s e
  · simp [Inc]
theorem toL_bd {m : Mach} (hm : mayB m = true) (of : List Int) {s : Int} (e : Int) (hs : 0 ≤ s ∧ s < m.st) : ∀ x ∈ toL m.arrows of s e, 0 ≤ x ∧ x < m.st := by
  intro x hx
  unfold toL at hx
  split at hx
  · unfold tosL at hx
    obtain ⟨a, ha, rfl⟩ := List.mem_map.1 hx
    have := may_arrs hm a (List.mem_filter.1 ha).1
    exact ⟨this.2.2.1, this.2.2.2.1⟩
  · simp at hx; subst hx; exact hs
theorem toL_len {m : Mach} (hm : mayB m = true) (of : List Int) (s e : Int) : (toL m.arrows of s e).length ≤ 4096 := by
  have := mayB_size hm
  unfold sizeOk at this
  unfold toL tosL
  split
  · rw [List.length_map]; exact Nat.le_trans (List.length_filter_le _ _) (by omega)
  · simp

/-- The events of which one takes part. -/
def evL (n : Nat) (ofA ofB : List Int) : List Int := (rngI n).filter fun e => (hasB ofA e || hasB ofB e)
theorem leadsP_none (A B : List Arr) (p : Int × Int) (e : Int) {x y : Bool} (h : (x || y) = false) : leadsP A B p e x y = [] := by
  unfold leadsP; rw [if_neg (by simp [h])]
theorem bEvs_evL (a b : Mach) (ofA ofB : List Int) (i : Nat) (p : Int × Int) (s : BS) : ∀ k, bEvs a b ofA ofB i p s k = (evL k ofA ofB).foldl (bEv a b ofA ofB i p) s
  | 0 => by simp [bEvs, evL, rngI]
  | k + 1 => by
    rw [bEvs_succ, bEvs_evL a b ofA ofB i p s k]
    unfold evL
    rw [rngI_succ, List.filter_append, List.foldl_append]
    cases h : (hasB ofA (k : Int) || hasB ofB (k : Int)) with
    | true => simp [h]
    | false =>
      unfold bEv
      rw [leadsP_none _ _ _ _ h]
      simp [h]
theorem evL_eq {n : Int} {ofA ofB l : List Int} (h0 : 0 ≤ n) (hA : ∀ x ∈ ofA, 0 ≤ x ∧ x < n) (hB : ∀ x ∈ ofB, 0 ≤ x ∧ x < n) (hl : Inc l) (hm : ∀ x, x ∈ l ↔ x ∈ ofA ∨ x ∈ ofB) : l = evL n.toNat ofA ofB := by
  refine inc_ext hl ((inc_rngI _).filter _) (fun x => ?_)
  unfold evL
  rw [List.mem_filter, mem_rngI, hm, Bool.or_eq_true, hasB_iff, hasB_iff]
  constructor
  · rintro (h | h)
    · have := hA x h; exact ⟨by omega, .inl h⟩
    · have := hB x h; exact ⟨by omega, .inr h⟩
  · exact fun h => h.2
theorem evL_bd {n : Nat} {ofA ofB : List Int} : ∀ x ∈ evL n ofA ofB, (0 ≤ x ∧ x < n) ∧ (hasB ofA x || hasB ofB x) = true := fun x hx => by
  obtain ⟨h1, h2⟩ := List.mem_filter.1 hx
  exact ⟨(mem_rngI _ _).1 h1, h2⟩
theorem evL_inc (n : Nat) (ofA ofB : List Int) : Inc (evL n ofA ofB) := (inc_rngI _).filter _
theorem evL_len (n : Nat) (ofA ofB : List Int) : (evL n ofA ofB).length ≤ n := Nat.le_trans (List.length_filter_le _ _) (by rw [rngI_len]; exact Nat.le_refl _)

/-! Too many: once, and for ever. -/
theorem bBig_add {i : Nat} {e : Int} {s : BS} {p : Int × Int} (h : bBig s = true) : bBig (bAdd i e s p) = true := by
  obtain ⟨t, h1, -⟩ := bAdd_ps i e s p
  have h2 : (bAdd i e s p).ar.length = s.ar.length + 1 := by simp [bAdd]
  unfold bBig at h ⊢
  rw [h1, h2, List.length_append]
  simp at h ⊢
  omega
theorem bBig_fold {i : Nat} {e : Int} : ∀ (L : List (Int × Int)) {s : BS}, bBig s = true → bBig (L.foldl (bAdd i e) s) = true
  | [], _, h => h
  | p :: r, s, h => bBig_fold r (bBig_add h)
theorem bBig_evs {a b : Mach} {ofA ofB : List Int} {i : Nat} {p : Int × Int} : ∀ (E : List Int) {s : BS}, bBig s = true → bBig (E.foldl (bEv a b ofA ofB i p) s) = true
  | [], _, h => h
  | e :: r, s, h => bBig_evs r (bBig_fold _ h)
theorem bBig_some {s : BS} (h : bBig s = false) : s.ps.length ≤ 256 ∧ s.ar.length ≤ 4096 := by
  unfold bBig at h; simp at h; omega
theorem bBig_mk {s : BS} (h1 : s.ps.length ≤ 256) (h2 : s.ar.length ≤ 4096) : bBig s = false := by
  unfold bBig; simp; omega
theorem besideS_great {a b : Mach} {ofA ofB : List Int} (h : 256 < (crossP a.starts b.starts).length) : besideS a b ofA ofB = none := by
  unfold besideS
  rw [show (300 : Nat) = 299 + 1 from rfl, bGo, if_pos (by dsimp only; omega)]
  rw [if_pos]
  unfold bPair
  rw [bEvs_evL]
  refine bBig_evs _ ?_
  unfold bBig
  simp; omega

/-! The order of arrows. -/
theorem incA_ext : ∀ {a b : List Arr}, IncA a → IncA b → (∀ x, x ∈ a ↔ x ∈ b) → a = b
  | [], [], _, _, _ => rfl
  | [], y :: r, _, _, h => absurd ((h y).2 (by simp)) (by simp)
  | x :: r, [], _, _, h => absurd ((h x).1 (by simp)) (by simp)
  | x :: r, y :: t, ha, hb, h => by
    obtain ⟨a1, a2⟩ := List.pairwise_cons.1 ha
    obtain ⟨b1, b2⟩ := List.pairwise_cons.1 hb
    have irr : ∀ z : Arr, ¬ aheadB z z = true := fun z hz => by rw [aheadB_iff] at hz; omega
    have hxy : x = y := by
      rcases List.mem_cons.1 ((h x).1 (by simp)) with e | hx
      · exact e
      · rcases List.mem_cons.1 ((h y).2 (by simp)) with e | hy
        · exact e.symm
        · exact absurd (aheadB_trans (a1 y hy) (b1 x hx)) (irr x)
    subst hxy
    congr 1
    refine incA_ext a2 b2 (fun z => ?_)
    constructor
    · intro hz
      rcases List.mem_cons.1 ((h z).1 (by simp [hz])) with e | hz'
      · subst e; exact absurd (a1 z hz) (irr z)
      · exact hz'
    · intro hz
      rcases List.mem_cons.1 ((h z).2 (by simp [hz])) with e | hz'
      · subst e; exact absurd (b1 z hz) (irr z)
      · exact hz'
/-- The arrows that are new, sorted, behind those of before. -/
theorem srtA_behind {A N D : List Arr} {i e : Int} (hA : ∀ x ∈ A, x.f < i ∨ (x.f = i ∧ x.e < e)) (hN : ∀ x ∈ N, x.f = i ∧ x.e = e) (hp : D.Perm N) (hs : D.Pairwise fun x y => x.t < y.t) : srtA A ++ D = srtA (A ++ N) := by
  refine incA_ext (List.pairwise_append.2 ⟨inc_srtA A, ?_, fun x hx y hy => ?_⟩) (inc_srtA _) (fun x => ?_)
  · refine hs.imp_of_mem (fun {x y} hx hy h => ?_)
    have h1 := hN x (hp.mem_iff.1 hx)
    have h2 := hN y (hp.mem_iff.1 hy)
    rw [aheadB_iff]; omega
  · have h1 := hA x ((mem_srtA _ _).1 hx)
    have h2 := hN y (hp.mem_iff.1 hy)
    rw [aheadB_iff]; omega
  · rw [List.mem_append, mem_srtA, mem_srtA, List.mem_append, hp.mem_iff]

/-- What holds of pairs and arrows ahead of pair i's event e. -/
structure SI (a b : Mach) (i e : Int) (s : BS) : Prop where
  nd : s.ps.Nodup
  cr : ∀ p ∈ s.ps, (0 ≤ p.1 ∧ p.1 < a.st) ∧ (0 ≤ p.2 ∧ p.2 < b.st)
  lo : ∀ x ∈ s.ar, x.f < i ∨ (x.f = i ∧ x.e < e)
theorem SI.mono {a b : Mach} {i e i' e' : Int} {s : BS} (h : SI a b i e s) (hlt : i < i' ∨ (i = i' ∧ e ≤ e')) : SI a b i' e' s :=
  ⟨h.nd, h.cr, fun x hx => by have := h.lo x hx; omega⟩
theorem bAdd_nd {i : Nat} {e : Int} {s : BS} {p : Int × Int} (h : s.ps.Nodup) : (bAdd i e s p).ps.Nodup := by
  unfold bAdd
  by_cases hn : findP s.ps p.1 p.2 = s.ps.length
  · dsimp only
    rw [if_pos hn, List.nodup_append]
    have hm := findP_new.1 hn
    exact ⟨h, by simp, fun x hx y hy e => by simp at hy; subst hy; subst e; exact hm hx⟩
  · dsimp only
    rw [if_neg hn]; exact h
theorem bAdd_mem {i : Nat} {e : Int} {s : BS} {p q : Int × Int} (h : q ∈ (bAdd i e s p).ps) : q ∈ s.ps ∨ q = p := by
  unfold bAdd at h
  dsimp only at h
  split at h
  · simpa using h
  · exact .inl h
theorem bAdd_at {i : Nat} {e : Int} {s : BS} {p : Int × Int} : (bAdd i e s p).ps[findP s.ps p.1 p.2]? = some p := by
  unfold bAdd
  by_cases hn : findP s.ps p.1 p.2 = s.ps.length
  · dsimp only
    rw [if_pos hn, hn]; simp
  · have hm : p ∈ s.ps := Classical.byContradiction fun hc => hn (findP_new.2 hc)
    dsimp only
    rw [if_neg hn]; exact findP_nth hm
/-- The arrows that a list of pairs brings. -/
def newA (i : Nat) (e : Int) : BS → List (Int × Int) → List Arr
  | _, [] => []
  | s, p :: r => ⟨(i : Int), e, (findP s.ps p.1 p.2 : Nat)⟩ :: newA i e (bAdd i e s p) r
theorem fold_ar (i : Nat) (e : Int) : ∀ (L : List (Int × Int)) (s : BS), (L.foldl (bAdd i e) s).ar = s.ar ++ newA i e s L
  | [], s => by simp [newA]
  | p :: r, s => by
    rw [List.foldl_cons, fold_ar i e r (bAdd i e s p), newA]
    show (s.ar ++ [_]) ++ _ = _
    simp
theorem newA_len (i : Nat) (e : Int) : ∀ (L : List (Int × Int)) (s : BS), (newA i e s L).length = L.length
  | [], _ => rfl
  | p :: r, s => by rw [newA, List.length_cons, newA_len i e r, List.length_cons]
theorem newA_in (i : Nat) (e : Int) : ∀ (L : List (Int × Int)) (s : BS), ∀ x ∈ newA i e s L, x.f = i ∧ x.e = e
  | [], s => by simp [newA]
  | p :: r, s => by
    intro x hx
    rw [newA] at hx
    rcases List.mem_cons.1 hx with rfl | hx
    · exact ⟨rfl, rfl⟩
    · exact newA_in i e r _ x hx
theorem newA_at (i : Nat) (e : Int) : ∀ (L : List (Int × Int)) (s : BS), ∀ x ∈ newA i e s L, ∃ p ∈ L, 0 ≤ x.t ∧ (L.foldl (bAdd i e) s).ps[x.t.toNat]? = some p
  | [], s => by simp [newA]
  | p :: r, s => by
    intro x hx
    rw [newA] at hx
    rcases List.mem_cons.1 hx with rfl | hx
    · refine ⟨p, by simp, by dsimp only; omega, ?_⟩
      rw [List.foldl_cons]
      obtain ⟨t, h1, -⟩ := bFold_ps i e r (bAdd i e s p)
      have h2 := bAdd_at (i := i) (e := e) (s := s) (p := p)
      dsimp only
      rw [Int.toNat_natCast, h1, List.getElem?_append_left (List.getElem?_eq_some_iff.1 h2).1]
      exact h2
    · obtain ⟨q, hq, h1, h2⟩ := newA_at i e r _ x hx
      exact ⟨q, by simp [hq], h1, h2⟩
theorem newA_nd (i : Nat) (e : Int) : ∀ (L : List (Int × Int)) (s : BS), L.Nodup → (newA i e s L).Pairwise (fun x y => x.t ≠ y.t)
  | [], s, _ => by simp [newA]
  | p :: r, s, h => by
    obtain ⟨h1, h2⟩ := List.nodup_cons.1 h
    rw [newA]
    refine List.pairwise_cons.2 ⟨fun y hy he => ?_, newA_nd i e r _ h2⟩
    obtain ⟨q, hq, h3, h4⟩ := newA_at i e r _ y hy
    dsimp only at he
    rw [← he, Int.toNat_natCast] at h4
    obtain ⟨t, h5, -⟩ := bFold_ps i e r (bAdd i e s p)
    have h6 := bAdd_at (i := i) (e := e) (s := s) (p := p)
    rw [h5, List.getElem?_append_left (List.getElem?_eq_some_iff.1 h6).1, h6] at h4
    cases h4
    exact h1 hq
theorem fold_nd (i : Nat) (e : Int) : ∀ (L : List (Int × Int)) {s : BS}, s.ps.Nodup → (L.foldl (bAdd i e) s).ps.Nodup
  | [], _, h => h
  | p :: r, s, h => fold_nd i e r (bAdd_nd h)
theorem fold_mem (i : Nat) (e : Int) : ∀ (L : List (Int × Int)) {s : BS} {q : Int × Int}, q ∈ (L.foldl (bAdd i e) s).ps → q ∈ s.ps ∨ q ∈ L
  | [], _, _, h => .inl h
  | p :: r, s, q, h => by
    rcases fold_mem i e r (s := bAdd i e s p) h with h | h
    · rcases bAdd_mem h with h | rfl
      · exact .inl h
      · exact .inr (by simp)
    · exact .inr (by simp [h])
theorem SI.fold {a b : Mach} {i : Nat} {e : Int} {s : BS} {L : List (Int × Int)} (h : SI a b i e s) (hL : ∀ p ∈ L, (0 ≤ p.1 ∧ p.1 < a.st) ∧ (0 ≤ p.2 ∧ p.2 < b.st)) : SI a b i (e + 1) (L.foldl (bAdd i e) s) := by
  refine ⟨fold_nd i e L h.nd, fun p hp => ?_, fun x hx => ?_⟩
  · rcases fold_mem i e L hp with hp | hp
    · exact h.cr p hp
    · exact hL p hp
  · rw [fold_ar] at hx
    rcases List.mem_append.1 hx with hx | hx
    · have := h.lo x hx; omega
    · have := newA_in i e L s x hx; omega
theorem newA_snoc (i : Nat) (e : Int) : ∀ (L : List (Int × Int)) (s : BS) (p : Int × Int), newA i e s (L ++ [p]) = newA i e s L ++ [⟨(i : Int), e, (findP (L.foldl (bAdd i e) s).ps p.1 p.2 : Nat)⟩]
  | [], s, p => by simp [newA]
  | q :: r, s, p => by
    rw [List.cons_append, newA, newA_snoc i e r (bAdd i e s q) p, newA]
    simp
/-- Starts: each pair is new. -/
theorem findP_cross {S T : List Int} (hS : Inc S) (hT : Inc T) {n : Nat} {p : Int × Int} (hp : (crossP S T)[n]? = some p) : findP ((crossP S T).take n) p.1 p.2 = n := by
  have hn := (List.getElem?_eq_some_iff.1 hp).1
  have hnd := nodup_crossP (inc_nodup hS) (inc_nodup hT)
  have : p ∉ (crossP S T).take n := by
    intro hm
    obtain ⟨j, hj⟩ := List.mem_iff_getElem?.1 hm
    rw [List.getElem?_take] at hj
    split at hj
    · rename_i hjn
      obtain ⟨l1, e1⟩ := List.getElem?_eq_some_iff.1 hj
      obtain ⟨l2, e2⟩ := List.getElem?_eq_some_iff.1 hp
      have := (List.getElem_inj hnd).1 (e1.trans e2.symm)
      omega
    · cases hj
  rw [findP_new.2 this, List.length_take]
  omega

end Go.Proofs.Ytdnglodemkeooaa
namespace Go.Proofs.Ytdnglodemkeooaa
open Go.RowKit
set_option linter.unusedVariables false

/-- What stands at place p ahead of the arrows. -/
def tab0 (of : List Int) (E k p : Nat) : List Int := if p < k ∧ hasB of ((p % E : Nat) : Int) = false then [((p / E : Nat) : Int)] else []
theorem tab0_skip {of : List Int} {E k : Nat} (h : hasB of ((k % E : Nat) : Int) = true) (p : Nat) : tab0 of E (k + 1) p = tab0 of E k p := by
  unfold tab0
  by_cases c : p < k ∧ hasB of ((p % E : Nat) : Int) = false
  · rw [if_pos c, if_pos ⟨by omega, c.2⟩]
  · rw [if_neg c, if_neg (fun d => ?_)]
    rcases Nat.lt_or_ge p k with h1 | h1
    · exact c ⟨h1, d.2⟩
    · have e : p = k := by omega
      rw [e, h] at d; cases d.2
theorem tab0_put {of : List Int} {E k : Nat} (h : hasB of ((k % E : Nat) : Int) = false) : tab0 of E (k + 1) k = [((k / E : Nat) : Int)] := if_pos ⟨by omega, h⟩
theorem tab0_other {of : List Int} {E k p : Nat} (h : p ≠ k) : tab0 of E (k + 1) p = tab0 of E k p := by
  unfold tab0
  by_cases c : p < k ∧ hasB of ((p % E : Nat) : Int) = false
  · rw [if_pos c, if_pos ⟨by omega, c.2⟩]
  · rw [if_neg c, if_neg (fun d => c ⟨by omega, d.2⟩)]
/-- .. and what k arrows have brought. -/
def tabL (ars : List Arr) (of : List Int) (E N k p : Nat) : List Int := tab0 of E N p ++ ((ars.take k).filter fun a => hasB of a.e && decide (a.f * E + a.e = (p : Int))).map (·.t)
theorem tabL_zero (ars : List Arr) (of : List Int) (E N p : Nat) : tabL ars of E N 0 p = tab0 of E N p := by simp [tabL]
theorem tabL_next {ars : List Arr} {of : List Int} {E N k p : Nat} {a : Arr} (h : k < ars.length) (ha : Hid (a = ars[k]?.getD arr0)) : tabL ars of E N (k + 1) p = if (hasB of a.e && decide (a.f * E + a.e = (p : Int))) = true then tabL ars of E N k p ++ [a.t] else tabL ars of E N k p := by
  have ha := ha.out
  rw [List.getElem?_eq_getElem h, Option.getD_some] at ha
  unfold tabL
  rw [List.take_add_one, List.getElem?_eq_getElem h, ← ha, List.filter_append, List.map_append]
  by_cases c : (hasB of a.e && decide (a.f * E + a.e = (p : Int))) = true
  · rw [if_pos c, ← List.append_assoc]
    congr 1
    simp only [Option.toList_some, List.filter_cons, c, if_true, List.filter_nil, List.map_cons, List.map_nil]
  · rw [if_neg c]
    simp only [Option.toList_some, List.filter_cons, c, Bool.false_eq_true, if_false, List.filter_nil, List.map_nil, List.append_nil]
theorem place_iff {f e : Int} {E s k : Nat} (hf : 0 ≤ f) (he : 0 ≤ e ∧ e < E) (hk : k < E) : f * E + e = ((s * E + k : Nat) : Int) ↔ f = s ∧ e = k := by
  constructor
  · intro h
    obtain ⟨F, rfl⟩ : ∃ F : Nat, f = F := ⟨f.toNat, by omega⟩
    obtain ⟨G, rfl⟩ : ∃ G : Nat, e = G := ⟨e.toNat, by omega⟩
    have h' : F * E + G = s * E + k := by
      have : ((F * E + G : Nat) : Int) = ((s * E + k : Nat) : Int) := by rw [← h]; simp
      exact Int.ofNat.inj this
    have hG : G < E := by omega
    have hE : 0 < E := by omega
    have h1 : (F * E + G) / E = (s * E + k) / E := by rw [h']
    rw [Nat.mul_comm F, Nat.mul_comm s, Nat.mul_add_div hE, Nat.mul_add_div hE, Nat.div_eq_of_lt hG, Nat.div_eq_of_lt hk] at h1
    have h2 : F = s := by omega
    subst h2
    have : G = k := by omega
    subst this
    exact ⟨rfl, rfl⟩
  · rintro ⟨rfl, rfl⟩; simp
theorem tabL_end {m : Mach} (hm : mayB m = true) {E : Nat} (hE : m.ev = (E : Int)) (of : List Int) {N s k : Nat} (hN : s * E + k < N) (hk : k < E) : tabL m.arrows of E N m.arrows.length (s * E + k) = toL m.arrows of s k := by
  have e1 : (s * E + k) % E = k := by rw [Nat.mul_comm, Nat.mul_add_mod, Nat.mod_eq_of_lt hk]
  have e2 : (s * E + k) / E = s := by rw [Nat.mul_comm, Nat.mul_add_div (by omega), Nat.div_eq_of_lt hk]; omega
  unfold tabL tab0 toL tosL
  rw [List.take_of_length_le (Nat.le_refl _), e1, e2]
  have hfil : ∀ a ∈ m.arrows, (hasB of a.e && decide (a.f * E + a.e = ((s * E + k : Nat) : Int))) = (hasB of (k : Int) && (a.f == (s : Int) && a.e == (k : Int))) := by
    intro a ha
    have hin := may_arrs hm a ha
    unfold arrIn at hin
    have hp := place_iff (f := a.f) (e := a.e) (E := E) (s := s) (k := k) hin.1 ⟨hin.2.2.2.2.1, by rw [← hE]; exact hin.2.2.2.2.2⟩ hk
    by_cases hc : a.f = (s : Int) ∧ a.e = (k : Int)
    · rw [hc.1, hc.2]; simp
    · have h1 : decide (a.f * E + a.e = ((s * E + k : Nat) : Int)) = false := by
        rw [decide_eq_false_iff_not]; exact fun h => hc (hp.1 h)
      have h2 : (a.f == (s : Int) && a.e == (k : Int)) = false := by
        rw [← Bool.not_eq_true]; simp; exact fun h1 h2 => hc ⟨h1, h2⟩
      rw [h1, h2]; simp
  rw [List.filter_congr hfil]
  cases hb : hasB of (k : Int) with
  | true => simp
  | false => simp [hN]
end Go.Proofs.Ytdnglodemkeooaa
namespace Go.Proofs.Ytdnglodemkeooaa
open Go.RowKit
set_option linter.unusedVariables false

abbrev zcells : Array Value := #[.int .i64 0, .int .i64 0, .slice none 0 0, .slice none 0 0, .slice none 0 0]
theorem mcell_at {W : World} {b : Nat} {m : Mach} {l : ML} (h : Blk W b 25 (mcells m l)) : W.cell? ⟨b, 0, none⟩ = some (.int .i64 m.st) ∧ W.cell? ⟨b, 1, none⟩ = some (.int .i64 m.ev) ∧ W.cell? ⟨b, 2, none⟩ = some (.slice l.a1 m.starts.length l.c1) ∧ W.cell? ⟨b, 3, none⟩ = some (.slice l.a2 m.arrows.length l.c2) ∧ W.cell? ⟨b, 4, none⟩ = some (.slice l.a3 m.ends.length l.c3) :=
  ⟨h.cell 0 rfl, h.cell 1 rfl, h.cell 2 rfl, h.cell 3 rfl, h.cell 4 rfl⟩

/-- Arrows that do not lie in block g. -/
def AtXA (w : World) (g : Nat) (a : Option Addr) (ars : List Arr) : Prop := ars = [] ∨ ∃ b off, a = some ⟨b, off, none⟩ ∧ b ≠ g ∧ b < w.heap.size ∧ CellsA w b off ars
/-- Arrows do not lie in a machine's block. -/
theorem AtA.apart {w : World} {bn : Nat} {t : TypeId} {a : Option Addr} {ars : List Arr} {x y : Int} {a1 a2 a3 : Option Addr} {n1 n2 n3 c1 c2 c3 : Nat} (h : AtA w a ars) (hB : Blk w bn t #[.int .i64 x, .int .i64 y, .slice a1 n1 c1, .slice a2 n2 c2, .slice a3 n3 c3]) : AtXA w bn a ars := by
  rcases h with h | ⟨b, off, h1, h2, h3⟩
  · exact .inl h
  · by_cases he : ars = []
    · exact .inl he
    · have hlen : 0 < ars.length := List.length_pos_iff.2 he
      have hne : b ≠ bn := by
        rintro rfl
        obtain ⟨k1, k2, k3⟩ := h3 0 hlen
        have hf : ∀ i v, w.cell? ⟨b, i, none⟩ = some v → (#[Value.int .i64 x, .int .i64 y, .slice a1 n1 c1, .slice a2 n2 c2, .slice a3 n3 c3] : Array Value)[i]? = some v := fun i v hv => by
          have := hv
          simp only [World.cell?, show w.heap[b]? = _ from hB] at this
          simpa using this
        have q := hf _ _ k3
        have hi : off + 0 * 3 + 2 = 2 ∨ off + 0 * 3 + 2 = 3 ∨ off + 0 * 3 + 2 = 4 ∨ 5 ≤ off + 0 * 3 + 2 := by omega
        rcases hi with hi | hi | hi | hi
        · rw [hi] at q; simp at q
        · rw [hi] at q; simp at q
        · rw [hi] at q; simp at q
        · rw [Array.getElem?_eq_none (by simpa using hi)] at q; cases q
      exact .inr ⟨b, off, h1, hne, h2, h3⟩
theorem atA_new (W : World) (t : TypeId) (x : Arr) (b : Nat) (hb : b = W.heap.size) : AtA (W.alloc (.cells #[.int .i64 x.f, .int .i64 x.e, .int .i64 x.t] t)) (some ⟨b, 0, none⟩) [x] := by
  subst hb
  refine .inr ⟨_, 0, rfl, by simp, fun j hj => ?_⟩
  have : j = 0 := by simp at hj; omega
  subst this
  exact ⟨(Blk.new W t #[.int .i64 x.f, .int .i64 x.e, .int .i64 x.t]).cell 0 rfl, (Blk.new W t #[.int .i64 x.f, .int .i64 x.e, .int .i64 x.t]).cell 1 rfl, (Blk.new W t #[.int .i64 x.f, .int .i64 x.e, .int .i64 x.t]).cell 2 rfl⟩
theorem startsLen {m : Mach} (hm : mayB m = true) : m.starts.length ≤ 4096 := by
  have hz := mayB_size hm
  have hr := mayB_starts hm
  unfold sizeOk at hz
  unfold rowB at hr
  have := goIs_len _ _ _ (by omega) hr
  omega
theorem endsLen {m : Mach} (hm : mayB m = true) : m.ends.length ≤ 4096 := by
  have hz := mayB_size hm
  have hr := mayB_ends hm
  unfold sizeOk at hz
  unfold rowB at hr
  have := goIs_len _ _ _ (by omega) hr
  omega

end Go.Proofs.Ytdnglodemkeooaa
namespace Go.Proofs.Ytdnglodemkeooaa
open Go.RowKit
set_option linter.unusedVariables false

/-- What is wrong, but for the size. -/
def refC (a b : Mach) (ofA ofB : List Int) : Int :=
  if mayB a = false ∨ mayB b = false then 2 else if ¬ a.ev = b.ev then 3 else if rowB a.ev ofA = false ∨ rowB a.ev ofB = false then 2 else 0

theorem refC_a {a b : Mach} {ofA ofB : List Int} (h : mayB a = false) : 2 = refC a b ofA ofB := by unfold refC; rw [if_pos (.inl h)]
theorem refC_b {a b : Mach} {ofA ofB : List Int} (h : mayB b = false) : 2 = refC a b ofA ofB := by unfold refC; rw [if_pos (.inr h)]
theorem refC_k {a b : Mach} {ofA ofB : List Int} (h1 : mayB a = true) (h2 : mayB b = true) (h : ¬ a.ev = b.ev) : 3 = refC a b ofA ofB := by unfold refC; rw [if_neg (by simp [h1, h2]), if_pos h]
theorem refC_r {a b : Mach} {ofA ofB : List Int} (h1 : mayB a = true) (h2 : mayB b = true) (h : a.ev = b.ev) : refC a b ofA ofB = if rowB a.ev ofA = false ∨ rowB a.ev ofB = false then 2 else 0 := by unfold refC; rw [if_neg (by simp [h1, h2]), if_neg (by simp [h])]

set_option maxRecDepth 100000 in
set_option maxHeartbeats 4000000 in
theorem refuse_any (a b : Mach) (la lb : ML) (fa ga : Option Addr) (fc gc : Nat) (ofA ofB : List Int) (w : World) (ha : Hid (MAt w a la)) (hb : Hid (MAt w b lb)) (hA : Hid (At w fa ofA)) (lA : Hid (ofA.length ≤ maxLen)) (hB : Hid (At w ga ofB)) (lB : Hid (ofB.length ≤ maxLen)) :
    Calls Try.prog 9 #[mval a la, mval b lb, .slice fa ofA.length fc, .slice ga ofB.length gc] w fun e w' => e = .returned (.int .i64 (refC a b ofA ofB)) ∧ Below w.heap.size w w' := by
  have B0 : Hid (Below w.heap.size w ((w.alloc (.cells (mcells a la) 25)).alloc (.cells (mcells b lb) 25))) := ((Below.refl _ _).alloc (Nat.le_refl _) _).alloc (by simp) _
  have KA0 : Hid (Blk ((w.alloc (.cells (mcells a la) 25)).alloc (.cells (mcells b lb) 25)) w.heap.size 25 (mcells a la)) := (Blk.new w _ _).alloc _
  have KB0 : Hid (Blk ((w.alloc (.cells (mcells a la) 25)).alloc (.cells (mcells b lb) 25)) (w.heap.size + 1) 25 (mcells b lb)) := by
    have := Blk.new (w.alloc (.cells (mcells a la) 25)) 25 (mcells b lb)
    rwa [World.size_alloc] at this
  go_enter Try.func9, Try.ntmps9
  go_wp2_with fail
  revert B0 KA0 KB0
  generalize (w.alloc (.cells (mcells a la) 25)).alloc (.cells (mcells b lb) 25) = V0
  intro B0 KA0 KB0
  refine (pMay_any a la _ (ha.out.below B0.out (Nat.le_refl _))).mono ?_
  rintro e V1 ⟨rfl, hb1⟩
  have B1 := Hid.of (B0.out.trans (hb1.mono B0.out.size))
  have KA1 := Hid.of (KA0.out.below hb1 KA0.out.lt)
  have KB1 := Hid.of (KB0.out.below hb1 KB0.out.lt)
  clear hb1 B0 KA0 KB0
  obtain ⟨x0, x1, x2, x3, x4⟩ := mcell_at KA1.out
  obtain ⟨y0, y1, y2, y3, y4⟩ := mcell_at KB1.out
  have lk := KA1.out.lt
  have lk2 := KB1.out.lt
  cases ma : mayB a with
  | false =>
    go_wp2_with fail
    go_ret
    exact ⟨ret_int (refC_a ma), B1.out⟩
  | true =>
    go_wp2_with fail
    refine (pMay_any b lb _ (hb.out.below B1.out (Nat.le_refl _))).mono ?_
    rintro e V2 ⟨rfl, hb1⟩
    have B2 := Hid.of (B1.out.trans (hb1.mono B1.out.size))
    have KA2 := Hid.of (KA1.out.below hb1 KA1.out.lt)
    have KB2 := Hid.of (KB1.out.below hb1 KB1.out.lt)
    clear hb1 B1 KA1 KB1 x0 x1 x2 x3 x4 y0 y1 y2 y3 y4 lk lk2
    obtain ⟨x0, x1, x2, x3, x4⟩ := mcell_at KA2.out
    obtain ⟨y0, y1, y2, y3, y4⟩ := mcell_at KB2.out
    have lk := KA2.out.lt
    have lk2 := KB2.out.lt
    cases mb : mayB b with
    | false =>
      go_wp2_with fail
      go_ret
      exact ⟨ret_int (refC_b mb), B2.out⟩
    | true =>
      by_cases ne : a.ev = b.ev
      · have HR : Hid (refC a b ofA ofB = if rowB a.ev ofA = false ∨ rowB a.ev ofB = false then 2 else 0) := refC_r ma mb ne
        rw [← ne] at y1
        clear ne
        cases ra : rowB a.ev ofA with
        | false =>
          go_wp2_with fail
          refine (rowIs_any fa fc ofA a.ev _ (hA.out.below B2.out (Nat.le_refl _)) lA.out).mono ?_
          rintro e V3 ⟨rfl, rfl⟩
          rw [ra]
          go_wp2_with fail
          go_ret
          exact ⟨ret_int (by rw [HR.out, if_pos (.inl ra)]), B2.out⟩
        | true =>
          cases rb : rowB a.ev ofB with
          | false =>
            go_wp2_with fail
            refine (rowIs_any fa fc ofA a.ev _ (hA.out.below B2.out (Nat.le_refl _)) lA.out).mono ?_
            rintro e V3 ⟨rfl, rfl⟩
            rw [ra]
            go_wp2_with fail
            refine (rowIs_any ga gc ofB a.ev _ (hB.out.below B2.out (Nat.le_refl _)) lB.out).mono ?_
            rintro e V3 ⟨rfl, rfl⟩
            rw [rb]
            go_wp2_with fail
            go_ret
            exact ⟨ret_int (by rw [HR.out, if_pos (.inr rb)]), B2.out⟩
          | true =>
            go_wp2_with fail
            refine (rowIs_any fa fc ofA a.ev _ (hA.out.below B2.out (Nat.le_refl _)) lA.out).mono ?_
            rintro e V3 ⟨rfl, rfl⟩
            rw [ra]
            go_wp2_with fail
            refine (rowIs_any ga gc ofB a.ev _ (hB.out.below B2.out (Nat.le_refl _)) lB.out).mono ?_
            rintro e V3 ⟨rfl, rfl⟩
            rw [rb]
            go_wp2_with fail
            go_ret
            exact ⟨ret_int (by rw [HR.out, if_neg (by simp [ra, rb])]), B2.out⟩
      · have d : (a.ev != b.ev) = true := by simpa using ne
        go_wp2_with fail
        go_ret
        exact ⟨ret_int (refC_k ma mb ne), B2.out⟩

end Go.Proofs.Ytdnglodemkeooaa
namespace Go.Proofs.Ytdnglodemkeooaa
open Go.RowKit
set_option linter.unusedVariables false

theorem zcell_at {W : World} {b : Nat} {t : TypeId} (h : Blk W b t zcells) : W.cell? ⟨b, 0, none⟩ = some (.int .i64 0) ∧ W.cell? ⟨b, 1, none⟩ = some (.int .i64 0) ∧ W.cell? ⟨b, 2, none⟩ = some (.slice none 0 0) ∧ W.cell? ⟨b, 3, none⟩ = some (.slice none 0 0) ∧ W.cell? ⟨b, 4, none⟩ = some (.slice none 0 0) :=
  ⟨h.cell 0 rfl, h.cell 1 rfl, h.cell 2 rfl, h.cell 3 rfl, h.cell 4 rfl⟩
theorem Blk.set5 {W : World} {b : Nat} {t : TypeId} (h : Blk W b t zcells) (v0 v1 v2 v3 v4 : Value) : Blk (((((W.setCell ⟨b, 0, none⟩ v0).setCell ⟨b, 1, none⟩ v1).setCell ⟨b, 2, none⟩ v2).setCell ⟨b, 3, none⟩ v3).setCell ⟨b, 4, none⟩ v4) b t #[v0, v1, v2, v3, v4] :=
  ((((h.set 0 v0).set 1 v1).set 2 v2).set 3 v3).set 4 v4
theorem below_set5 {W V : World} {B b' : Nat} (h : Below B V W) (hb : B ≤ b') (v0 v1 v2 v3 v4 : Value) : Below B V (((((W.setCell ⟨b', 0, none⟩ v0).setCell ⟨b', 1, none⟩ v1).setCell ⟨b', 2, none⟩ v2).setCell ⟨b', 3, none⟩ v3).setCell ⟨b', 4, none⟩ v4) :=
  ((((h.setCell (p := ⟨b', 0, none⟩) hb v0).setCell (p := ⟨b', 1, none⟩) hb v1).setCell (p := ⟨b', 2, none⟩) hb v2).setCell (p := ⟨b', 3, none⟩) hb v3).setCell (p := ⟨b', 4, none⟩) hb v4
theorem results_three {fn : Func} {p u v : Tmp} (h : fn.results = #[.cell p 25, .tmp u, .tmp v]) (tmps : Array Value) (w : World) (g : Nat) (m : Mach) (l : ML) (x y : Value) (hp : tmps.getD p undef = .pointer (some ⟨g, 0, none⟩)) (hu : tmps.getD u undef = x) (hv : tmps.getD v undef = y) (hB : Blk w g 25 (mcells m l)) :
    (results fn tmps).run Try.prog w = .ok (.tuple #[mval m l, x, y]) w := by
  obtain ⟨x0, x1, x2, x3, x4⟩ := mcell_at hB
  have e : (results fn tmps).run Try.prog w = ((asAddr (tmps.getD p undef)).run Try.prog w).andThen fun a w₁ => ((loadVar 25 a).run Try.prog w₁).andThen fun r w₂ => .ok (.tuple #[r, tmps.getD u undef, tmps.getD v undef]) w₂ := by
    simp only [results, h]
    simp [Sem.run_bind, Result.andThen]
  rw [e, hp, hu, hv]
  go_simp

abbrev m0 : Mach := ⟨0, 0, [], [], []⟩
abbrev ml0 : ML := ⟨none, 0, none, 0, none, 0⟩

end Go.Proofs.Ytdnglodemkeooaa
namespace Go.Proofs.Ytdnglodemkeooaa
open Go.RowKit
set_option linter.unusedVariables false

theorem Kp.trans {b : Nat} {X Y W : World} (h : Kp b X Y) (k : Kp b Y W) : Kp b X W :=
  ⟨Nat.le_trans h.size k.size, fun j hj hne => (k.same j (Nat.lt_of_lt_of_le hj h.size) hne).trans (h.same j hj hne)⟩
theorem InnB.kp {Y W : World} {v : Value} {xs : List Int} {b : Nat} {t : TypeId} {cs : Array Value} (h : InnB Y v xs) (hk : Kp b Y W) (hB : Blk Y b t cs) (ht : t ≠ 3) : InnB W v xs :=
  h.kept fun g cs' hg => hk.same g (Array.getElem?_eq_some_iff.1 hg).1 (by
    rintro rfl
    rw [show Y.heap[g]? = _ from hB] at hg; cases hg; exact ht rfl)
theorem Own2.kp {Y W : World} {B b : Nat} {v : Value} {LL : List (List Int)} {t : TypeId} {cs : Array Value} (h : Own2 Y B v LL) (hk : Kp b Y W) (hB : Blk Y b t cs) (ht : t ≠ 3) (ht2 : t ≠ 22) : Own2 W B v LL := by
  obtain ⟨vs, ho, hi⟩ := h
  refine ⟨vs, ⟨ho.1, ?_⟩, fun j x xs h1 h2 => (hi j x xs h1 h2).kp hk hB ht⟩
  rcases ho.2 with hn | ⟨g, cap, cur, rfl, hg, hgg, rest⟩
  · exact .inl hn
  · refine .inr ⟨g, cap, cur, rfl, hg, (hk.same g (Array.getElem?_eq_some_iff.1 hgg).1 ?_).trans hgg, rest⟩
    rintro rfl
    rw [show Y.heap[g]? = _ from hB] at hgg; cases hgg; exact ht2 rfl
theorem Kp.set5 {b : Nat} {W : World} (v0 v1 v2 v3 v4 : Value) : Kp b W (((((W.setCell ⟨b, 0, none⟩ v0).setCell ⟨b, 1, none⟩ v1).setCell ⟨b, 2, none⟩ v2).setCell ⟨b, 3, none⟩ v3).setCell ⟨b, 4, none⟩ v4) :=
  (((((Kp.refl b W).set 0 v0).set 1 v1).set 2 v2).set 3 v3).set 4 v4
theorem AtXA.kp {Y W : World} {g : Nat} {a : Option Addr} {ars : List Arr} (h : AtXA Y g a ars) (hk : Kp g Y W) : AtA W a ars := by
  rcases h with h | ⟨b, off, h1, hne, h2, h3⟩
  · exact .inl h
  · refine .inr ⟨b, off, h1, Nat.lt_of_lt_of_le h2 hk.size, fun i hi => ?_⟩
    have e : ∀ q, W.cell? ⟨b, q, none⟩ = Y.cell? ⟨b, q, none⟩ := fun q => World.cell?_of_block (w := Y) (hk.same b h2 hne)
    rw [e, e, e]; exact h3 i hi
theorem Own.kp {Y W : World} {B b : Nat} {v : Value} {xs : List Int} (h : Own Y B v xs) (hk : Kp b Y W) (hb : b < B) : Own W B v xs := by
  refine ⟨h.1, ?_⟩
  rcases h.2 with hn | ⟨g, cap, cur, rfl, hg, hgg, rest⟩
  · exact .inl hn
  · exact .inr ⟨g, cap, cur, rfl, hg, (hk.same g (Array.getElem?_eq_some_iff.1 hgg).1 (by omega)).trans hgg, rest⟩

/-- Where ends are laid. -/
structure PD (w Y W : World) (bm : Nat) (st ev : Int) (v2 v3 v4 : Value) (E : List Int) : Prop where
  blk : Blk W bm 25 #[.int .i64 st, .int .i64 ev, v2, v3, v4]
  kp : Kp bm Y W
  own : Own W Y.heap.size v4 E
  bel : Below w.heap.size w W
theorem PD.drewNn {w Y W : World} {bm : Nat} {st ev : Int} {v2 v3 v4 : Value} {E : List Int} (h : PD w Y W bm st ev v2 v3 v4 E) (n : Nat) : PD w Y (W.drewN n) bm st ev v2 v3 v4 E := ⟨h.blk, ⟨h.kp.size, h.kp.same⟩, h.own, below_drewN h.bel n⟩
theorem PD.one {w Y W W1 : World} {bm : Nat} {st ev x : Int} {v2 v3 v4 v4' : Value} {E : List Int} {o : Obj} (h : PD w Y W bm st ev v2 v3 v4 E) (hlo : w.heap.size ≤ bm) (hbm : bm < Y.heap.size)
    (o1 : W1.ownsRow Y.heap.size 3 1 v4' (E.length + 1) (E.map (Value.int .i64) ++ [.int .i64 x])) (g : (W.alloc o).grownBy W1 v4.ownBlock) :
    Blk W1 bm 25 #[.int .i64 st, .int .i64 ev, v2, v3, v4] ∧ PD w Y (W1.setCell ⟨bm, 4, none⟩ v4') bm st ev v2 v3 v4' (E ++ [x]) := by
  have hr : ∀ k, v4.ownBlock = some k → Y.heap.size ≤ k := fun k hk => (World.ownsRow.lt h.own k hk).1
  have b1 : Blk W1 bm 25 #[.int .i64 st, .int .i64 ev, v2, v3, v4] := (g.block bm (h.blk.alloc o).lt (fun e => by have := hr bm e.symm; omega)).trans (h.blk.alloc o)
  refine ⟨b1, b1.set 4 v4', ((h.kp.alloc o).grown g hr).set 4 v4', ?_, ?_⟩
  · unfold Own
    rw [List.length_append, List.map_append]
    exact ownsRow_set o1 hbm v4'
  · exact ((h.bel.alloc h.bel.size o).grown g (by simp; have := h.bel.size; omega) (fun j hj => Nat.le_trans (Nat.le_trans hlo (Nat.le_of_lt hbm)) (hr j hj))).setCell (p := ⟨bm, 4, none⟩) hlo v4'

theorem endsP_succ {a b : Mach} {L : List (Int × Int)} {n : Nat} {p : Int × Int} (hp : Hid (L[n]? = some p)) : endsP a b L (n + 1) = if (hasB a.ends p.1 && hasB b.ends p.2) = true then endsP a b L n ++ [(n : Int)] else endsP a b L n := by
  unfold endsP
  rw [rngI_succ, List.filter_append]
  have e : (L[((n : Int)).toNat]?.getD (0, 0)) = p := by rw [Int.toNat_natCast, hp.out]; rfl
  by_cases c : (hasB a.ends p.1 && hasB b.ends p.2) = true
  · rw [if_pos c]
    congr 1
    simp only [List.filter_cons, e, c, if_true, List.filter_nil]
  · rw [if_neg c]
    simp only [List.filter_cons, e, c, Bool.false_eq_true, if_false, List.filter_nil, List.append_nil]
theorem endsP_len (a b : Mach) (L : List (Int × Int)) (n : Nat) : (endsP a b L n).length ≤ n := by
  unfold endsP
  exact Nat.le_trans (List.length_filter_le _ _) (by rw [rngI_len]; exact Nat.le_refl _)

end Go.Proofs.Ytdnglodemkeooaa
namespace Go.Proofs.Ytdnglodemkeooaa
open Go.RowKit
set_option linter.unusedVariables false

/-- What Beside leaves where something is wrong. -/
def BesErr (c : Int) (w : World) (e : Ending) (w' : World) : Prop := e = .returned (.tuple #[mval m0 ml0, .slice none 0 0, .int .i64 c]) ∧ Below w.heap.size w w'

/-- What Beside leaves where nothing is wrong with what comes in. -/
def BesGives (w : World) (a b : Mach) (ofA ofB : List Int) (e : Ending) (w' : World) : Prop :=
  match besideS a b ofA ofB with
  | none => BesErr 1 w e w'
  | some s => ∃ L v, e = .returned (.tuple #[mval (besideM a b s) L, v, .int .i64 0]) ∧ MAt w' (besideM a b s) L ∧ Own2 w' w.heap.size v (prs s.ps) ∧ Below w.heap.size w w'
theorem bGo_big {a b : Mach} {ofA ofB : List Int} {f k : Nat} {s : BS} {p : Int × Int} (hp : s.ps[k]? = some p) (hB : bBig (bEvs a b ofA ofB k p s a.ev.toNat) = true) (hf : 0 < f) : bGo a b ofA ofB f k s = none := by
  obtain ⟨g, rfl⟩ : ∃ g, f = g + 1 := ⟨f - 1, by omega⟩
  have hk := (List.getElem?_eq_some_iff.1 hp).1
  have e : bPair a b ofA ofB s k = bEvs a b ofA ofB k p s a.ev.toNat := by unfold bPair; rw [hp]; rfl
  unfold bGo
  rw [if_pos hk, e, if_pos hB]
theorem bGo_next {a b : Mach} {ofA ofB : List Int} {f k : Nat} {s : BS} {p : Int × Int} (hp : s.ps[k]? = some p) (hB : bBig (bEvs a b ofA ofB k p s a.ev.toNat) = false) (hf : 0 < f) : bGo a b ofA ofB f k s = bGo a b ofA ofB (f - 1) (k + 1) (bEvs a b ofA ofB k p s a.ev.toNat) := by
  obtain ⟨g, rfl⟩ : ∃ g, f = g + 1 := ⟨f - 1, by omega⟩
  have hk := (List.getElem?_eq_some_iff.1 hp).1
  have e : bPair a b ofA ofB s k = bEvs a b ofA ofB k p s a.ev.toNat := by unfold bPair; rw [hp]; rfl
  rw [bGo, if_pos hk, e, if_neg (by rw [hB]; simp)]
  rfl
theorem bGo_end {a b : Mach} {ofA ofB : List Int} {f k : Nat} {s : BS} (hk : ¬ k < s.ps.length) : bGo a b ofA ofB f k s = some s := by
  cases f with
  | zero => rfl
  | succ g => rw [bGo, if_neg hk]
theorem own_form {W : World} {B s n : Nat} {e : TypeId} {v : Value} {xs : List Value} (h : W.ownsRow B e s v n xs) : ∃ a c, v = .slice a n c := by
  rcases h.2 with ⟨rfl, rfl⟩ | ⟨g, cap, cur, rfl, -⟩
  · exact ⟨none, 0, rfl⟩
  · exact ⟨_, cap, rfl⟩

/-- What Beside leaves: the code of what is wrong, or the machine of both and its pairs. -/
def BesAll (w : World) (a b : Mach) (ofA ofB : List Int) (e : Ending) (w' : World) : Prop :=
  if mayB a = false ∨ mayB b = false then BesErr 2 w e w'
  else if ¬ a.ev = b.ev then BesErr 3 w e w'
  else if rowB a.ev ofA = false ∨ rowB a.ev ofB = false then BesErr 2 w e w'
  else BesGives w a b ofA ofB e w'

end Go.Proofs.Ytdnglodemkeooaa
