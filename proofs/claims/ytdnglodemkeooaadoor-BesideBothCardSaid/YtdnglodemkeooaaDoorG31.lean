/-
  Plain: the machine of two beside one another accepts a word just when each accepts what of it is its own. No program, no model.
  What is said of rows of rows on the way through both walks of package beside.
  What is said on the way through jalousieref4.Beside, where the machine is laid out.
  What both walks of package beside leave.
  What both walks of package beside leave, plainly.
  The walk of row.pick: the numbers of two rows of which a closure says that they stay; and its answer where one is no row.
  The walk of row.pick with the closure of row.Join: the numbers of two rows of which it says that they stay.
-/
import Derived.Test.YtdnglodemkeooaaDoorG30
import Derived.Test.YtdnglodemkeooaaDoorG11
import Derived.Deep.RegionHeld3
import Derived.Deep.RegionLaw
import Derived.Deep.RegionWith
import Derived.BigQuiet
import Derived.Test.YtdnglodemkeooaaDoorG23
import Derived.Test.YtdnglodemkeooaaDoorG04
import Derived.Test.YtdnglodemkeooaaDoorCAppInts
import Derived.Test.YtdnglodemkeooaaDoorG05
import Derived.Test.YtdnglodemkeooaaDoorCOwnMore
import Derived.Test.YtdnglodemkeooaaDoorG22
namespace Go.Proofs.YtdnglodemkeooaaDoor
open Go.RowKit
set_option linter.unusedVariables false

/-! Places of pairs. -/
theorem findP_nth : ∀ {L : List (Int × Int)} {q : Int × Int}, q ∈ L → L[findP L q.1 q.2]? = some q
  | [], q, h => by simp at h
  | p :: r, q, h => by
    unfold findP
    by_cases hc : p.1 = q.1 ∧ p.2 = q.2
    · rw [if_pos hc]
      have : p = q := Prod.ext hc.1 hc.2
      simp [this]
    · rw [if_neg hc]
      have hq : q ∈ r := by
        rcases List.mem_cons.1 h with rfl | h
        · exact absurd ⟨rfl, rfl⟩ hc
        · exact h
      simpa using findP_nth hq
theorem findP_lt {L : List (Int × Int)} {q : Int × Int} (h : q ∈ L) : findP L q.1 q.2 < L.length := (List.getElem?_eq_some_iff.1 (findP_nth h)).1
theorem findP_new : ∀ {L : List (Int × Int)} {q : Int × Int}, findP L q.1 q.2 = L.length ↔ q ∉ L := by
  intro L q
  constructor
  · intro h hq
    have := findP_lt hq
    omega
  · intro h
    induction L with
    | nil => rfl
    | cons p r ih =>
      unfold findP
      have hc : ¬ (p.1 = q.1 ∧ p.2 = q.2) := fun hc => h (by have : p = q := Prod.ext hc.1 hc.2; simp [this])
      rw [if_neg hc, ih (fun hq => h (by simp [hq]))]; rfl
theorem findP_app : ∀ {L : List (Int × Int)} {q : Int × Int} (t : List (Int × Int)), q ∈ L → findP (L ++ t) q.1 q.2 = findP L q.1 q.2
  | [], q, t, h => by simp at h
  | p :: r, q, t, h => by
    rw [List.cons_append]
    unfold findP
    by_cases hc : p.1 = q.1 ∧ p.2 = q.2
    · rw [if_pos hc, if_pos hc]
    · have hq : q ∈ r := by
        rcases List.mem_cons.1 h with rfl | h
        · exact absurd ⟨rfl, rfl⟩ hc
        · exact h
      rw [if_neg hc, if_neg hc, findP_app t hq]
theorem findP_at : ∀ {L : List (Int × Int)} {q : Int × Int} {i : Nat}, L.Nodup → L[i]? = some q → findP L q.1 q.2 = i := by
  intro L q i hn hi
  have hm : q ∈ L := List.mem_of_getElem? hi
  have h1 := findP_nth hm
  obtain ⟨l1, e1⟩ := List.getElem?_eq_some_iff.1 h1
  obtain ⟨l2, e2⟩ := List.getElem?_eq_some_iff.1 hi
  exact (List.getElem_inj hn).1 (e1.trans e2.symm)
theorem mem_crossP (S T : List Int) (q : Int × Int) : q ∈ crossP S T ↔ q.1 ∈ S ∧ q.2 ∈ T := by
  unfold crossP
  rw [List.mem_flatMap]
  constructor
  · rintro ⟨x, hx, h⟩
    obtain ⟨y, hy, rfl⟩ := List.mem_map.1 h
    exact ⟨hx, hy⟩
  · rintro ⟨h1, h2⟩
    exact ⟨q.1, h1, List.mem_map.2 ⟨q.2, h2, rfl⟩⟩
theorem nodup_crossP : ∀ {S T : List Int}, S.Nodup → T.Nodup → (crossP S T).Nodup
  | [], T, _, _ => by simp [crossP]
  | x :: r, T, hS, hT => by
    obtain ⟨h1, h2⟩ := List.nodup_cons.1 hS
    have ih := nodup_crossP h2 hT
    show ((T.map fun y => (x, y)) ++ crossP r T).Nodup
    rw [List.nodup_append]
    refine ⟨?_, ih, ?_⟩
    · rw [List.Nodup, List.pairwise_map]
      exact hT.imp (fun h e => h (Prod.mk.inj e).2)
    · intro p hp q hq e
      subst e
      obtain ⟨y, hy, rfl⟩ := List.mem_map.1 hp
      exact h1 ((mem_crossP _ _ _).1 hq).1

/-! What has been found: the invariant. -/
/-- What is known once the pairs before k, and of pair k the events before e, and of these at e the places in Q, have been gone through. -/
structure BInv (a b : Mach) (ofA ofB : List Int) (s : BS) (D : Nat → Int → (Int × Int) → Prop) : Prop where
  nd : s.ps.Nodup
  pre : ∃ t, s.ps = crossP a.starts b.starts ++ t
  fwd : ∀ x ∈ s.ar, ∃ (i : Nat) (p q : Int × Int) (e : Int), D i e q ∧ s.ps[i]? = some p ∧ 0 ≤ e ∧ e < a.ev ∧ q ∈ leadsP a.arrows b.arrows p e (hasB ofA e) (hasB ofB e) ∧ q ∈ s.ps ∧ x = ⟨(i : Int), e, (findP s.ps q.1 q.2 : Nat)⟩
  bwd : ∀ (i : Nat) (p q : Int × Int) (e : Int), D i e q → s.ps[i]? = some p → 0 ≤ e → e < a.ev → q ∈ leadsP a.arrows b.arrows p e (hasB ofA e) (hasB ofB e) → q ∈ s.ps ∧ (⟨(i : Int), e, (findP s.ps q.1 q.2 : Nat)⟩ : Arr) ∈ s.ar
  cr : ∀ p ∈ s.ps, (0 ≤ p.1 ∧ p.1 < a.st) ∧ (0 ≤ p.2 ∧ p.2 < b.st)

theorem binv_congr {a b : Mach} {ofA ofB : List Int} {s : BS} {D D' : Nat → Int → (Int × Int) → Prop} (h : BInv a b ofA ofB s D) (hD : ∀ (i : Nat) (p q : Int × Int) (e : Int), s.ps[i]? = some p → 0 ≤ e → e < a.ev → q ∈ leadsP a.arrows b.arrows p e (hasB ofA e) (hasB ofB e) → (D i e q ↔ D' i e q)) : BInv a b ofA ofB s D' := by
  refine ⟨h.nd, h.pre, fun x hx => ?_, fun i p q e hd hp h0 h1 hq => ?_, h.cr⟩
  · obtain ⟨i, p, q, e, hd, hp, h0, h1, hq, hm, rfl⟩ := h.fwd x hx
    exact ⟨i, p, q, e, (hD i p q e hp h0 h1 hq).1 hd, hp, h0, h1, hq, hm, rfl⟩
  · exact h.bwd i p q e ((hD i p q e hp h0 h1 hq).2 hd) hp h0 h1 hq

theorem mem_leadsP (A B : List Arr) (p q : Int × Int) (e : Int) (x y : Bool) : q ∈ leadsP A B p e x y ↔ (x = true ∨ y = true) ∧ (if x = true then q.1 ∈ stepL A [p.1] e else q.1 = p.1) ∧ (if y = true then q.2 ∈ stepL B [p.2] e else q.2 = p.2) := by
  unfold leadsP
  cases x <;> cases y <;> simp [mem_crossP]
theorem leadsP_bd {a b : Mach} (ha : mayB a = true) (hb : mayB b = true) {p q : Int × Int} {e : Int} {x y : Bool} (hp : (0 ≤ p.1 ∧ p.1 < a.st) ∧ (0 ≤ p.2 ∧ p.2 < b.st)) (h : q ∈ leadsP a.arrows b.arrows p e x y) : (0 ≤ q.1 ∧ q.1 < a.st) ∧ (0 ≤ q.2 ∧ q.2 < b.st) := by
  obtain ⟨-, h1, h2⟩ := (mem_leadsP _ _ _ _ _ _ _).1 h
  refine ⟨?_, ?_⟩
  · split at h1
    · obtain ⟨c, hc, -, -, ec⟩ := (mem_stepL _ _ _ _).1 h1
      have := may_arrs ha c hc
      rw [← ec]
      exact ⟨this.2.2.1, this.2.2.2.1⟩
    · rw [h1]; exact hp.1
  · split at h2
    · obtain ⟨c, hc, -, -, ec⟩ := (mem_stepL _ _ _ _).1 h2
      have := may_arrs hb c hc
      rw [← ec]
      exact ⟨this.2.2.1, this.2.2.2.1⟩
    · rw [h2]; exact hp.2

/-- One pair more that is led to. -/
theorem binv_add {a b : Mach} (ha : mayB a = true) (hb : mayB b = true) {ofA ofB : List Int} {s : BS} {D : Nat → Int → (Int × Int) → Prop} (h : BInv a b ofA ofB s D) {k : Nat} {p q : Int × Int} {e : Int} (hp : s.ps[k]? = some p) (h0 : 0 ≤ e) (h1 : e < a.ev) (hq : q ∈ leadsP a.arrows b.arrows p e (hasB ofA e) (hasB ofB e)) (hD : ∀ i e q, D i e q → i < s.ps.length) :
    BInv a b ofA ofB (bAdd k e s q) (fun i e' q' => D i e' q' ∨ (i = k ∧ e' = e ∧ q' = q)) := by
  have hk := (List.getElem?_eq_some_iff.1 hp).1
  have hE : ∃ t, (bAdd k e s q).ps = s.ps ++ t ∧ q ∈ (bAdd k e s q).ps ∧ (bAdd k e s q).ps.Nodup ∧ (∀ r ∈ t, r = q) ∧ findP (bAdd k e s q).ps q.1 q.2 = findP s.ps q.1 q.2 := by
    unfold bAdd
    by_cases hn : findP s.ps q.1 q.2 = s.ps.length
    · have hm := findP_new.1 hn
      dsimp only
      rw [if_pos hn]
      have hnd : (s.ps ++ [q]).Nodup := by
        rw [List.nodup_append]
        exact ⟨h.nd, by simp, fun x hx y hy e => by simp at hy; subst hy; subst e; exact hm hx⟩
      refine ⟨[q], rfl, by simp, hnd, by simp, ?_⟩
      rw [hn]
      exact findP_at hnd (by simp)
    · have hm : q ∈ s.ps := Classical.byContradiction fun hc => hn (findP_new.2 hc)
      dsimp only
      rw [if_neg hn]
      exact ⟨[], by simp, hm, h.nd, by simp, rfl⟩
  obtain ⟨t, ht, hqm, hnd, htq, hf⟩ := hE
  have har : (bAdd k e s q).ar = s.ar ++ [⟨(k : Int), e, (findP s.ps q.1 q.2 : Nat)⟩] := rfl
  have hget : ∀ {i : Nat} {p' : Int × Int}, s.ps[i]? = some p' → (bAdd k e s q).ps[i]? = some p' := fun {i p'} hi => by
    rw [ht, List.getElem?_append_left (List.getElem?_eq_some_iff.1 hi).1]; exact hi
  have hback : ∀ {i : Nat} {p' : Int × Int}, i < s.ps.length → (bAdd k e s q).ps[i]? = some p' → s.ps[i]? = some p' := fun {i p'} hi hp' => by
    rw [ht, List.getElem?_append_left hi] at hp'; exact hp'
  refine ⟨hnd, ?_, ?_, ?_, ?_⟩
  · obtain ⟨u, hu⟩ := h.pre
    exact ⟨u ++ t, by rw [ht, hu, List.append_assoc]⟩
  · intro x hx
    rw [har] at hx
    rcases List.mem_append.1 hx with hx | hx
    · obtain ⟨i, p', q', e', hd, hp', h0', h1', hq', hm', rfl⟩ := h.fwd x hx
      exact ⟨i, p', q', e', .inl hd, hget hp', h0', h1', hq', by rw [ht]; simp [hm'], by rw [ht, findP_app t hm']⟩
    · have hx : x = ⟨(k : Int), e, (findP s.ps q.1 q.2 : Nat)⟩ := by simpa using hx
      exact ⟨k, p, q, e, .inr ⟨rfl, rfl, rfl⟩, hget hp, h0, h1, hq, hqm, by rw [hx, hf]⟩
  · rintro i p' q' e' (hd | ⟨rfl, rfl, rfl⟩) hp' h0' h1' hq'
    · obtain ⟨k1, k2⟩ := h.bwd i p' q' e' hd (hback (hD _ _ _ hd) hp') h0' h1' hq'
      exact ⟨by rw [ht]; simp [k1], by rw [har, ht, findP_app t k1]; simp [k2]⟩
    · exact ⟨hqm, by rw [har, hf]; simp⟩
  · intro r hr
    rw [ht] at hr
    rcases List.mem_append.1 hr with hr | hr
    · exact h.cr r hr
    · rw [htq r hr]
      exact leadsP_bd ha hb (h.cr p (List.mem_of_getElem? hp)) hq

theorem binv_fold {a b : Mach} (ha : mayB a = true) (hb : mayB b = true) {ofA ofB : List Int} {k : Nat} {p : Int × Int} {e : Int} (h0 : 0 ≤ e) (h1 : e < a.ev) : ∀ (L : List (Int × Int)) {s : BS} {D : Nat → Int → (Int × Int) → Prop}, BInv a b ofA ofB s D → s.ps[k]? = some p → (∀ q ∈ L, q ∈ leadsP a.arrows b.arrows p e (hasB ofA e) (hasB ofB e)) → (∀ i e q, D i e q → i < s.ps.length) →
    BInv a b ofA ofB (L.foldl (bAdd k e) s) (fun i e' q' => D i e' q' ∨ (i = k ∧ e' = e ∧ q' ∈ L))
  | [], s, D, h, _, _, _ => binv_congr h (fun i p q e _ _ _ _ => by simp)
  | q :: r, s, D, h, hp, hL, hD => by
    have hk := (List.getElem?_eq_some_iff.1 hp).1
    obtain ⟨t, ht, -⟩ := bAdd_ps k e s q
    have hp' : (bAdd k e s q).ps[k]? = some p := by rw [ht, List.getElem?_append_left hk]; exact hp
    have hl : s.ps.length ≤ (bAdd k e s q).ps.length := by rw [ht, List.length_append]; omega
    have h2 := binv_fold ha hb h0 h1 r (binv_add ha hb h hp h0 h1 (hL q (by simp)) hD) hp' (fun q' hq' => hL q' (by simp [hq'])) (fun i e q hd => by
      rcases hd with hd | ⟨rfl, -, -⟩
      · exact Nat.lt_of_lt_of_le (hD _ _ _ hd) hl
      · omega)
    rw [List.foldl_cons]
    refine binv_congr h2 (fun i p' q' e' _ _ _ _ => ?_)
    rw [List.mem_cons]
    constructor
    · rintro ((h | ⟨h1, h2, h3⟩) | ⟨h1, h2, h3⟩)
      · exact .inl h
      · exact .inr ⟨h1, h2, .inl h3⟩
      · exact .inr ⟨h1, h2, .inr h3⟩
    · rintro (h | ⟨h1, h2, h3 | h3⟩)
      · exact .inl (.inl h)
      · exact .inl (.inr ⟨h1, h2, h3⟩)
      · exact .inr ⟨h1, h2, h3⟩
theorem bEv_ps (a b : Mach) (ofA ofB : List Int) (k : Nat) (p : Int × Int) (s : BS) (e : Int) : ∃ t, (bEv a b ofA ofB k p s e).ps = s.ps ++ t := by
  obtain ⟨t, h, -⟩ := bFold_ps k e (leadsP a.arrows b.arrows p e (hasB ofA e) (hasB ofB e)) s
  exact ⟨t, h⟩
theorem bEvs_ps (a b : Mach) (ofA ofB : List Int) (k : Nat) (p : Int × Int) (s : BS) : ∀ n, ∃ t, (bEvs a b ofA ofB k p s n).ps = s.ps ++ t
  | 0 => ⟨[], by simp [bEvs]⟩
  | n + 1 => by
    obtain ⟨t, h⟩ := bEvs_ps a b ofA ofB k p s n
    obtain ⟨u, h'⟩ := bEv_ps a b ofA ofB k p (bEvs a b ofA ofB k p s n) (n : Int)
    exact ⟨t ++ u, by rw [bEvs_succ, h', h, List.append_assoc]⟩
theorem binv_ev {a b : Mach} (ha : mayB a = true) (hb : mayB b = true) {ofA ofB : List Int} {s : BS} {D : Nat → Int → (Int × Int) → Prop} (h : BInv a b ofA ofB s D) {k : Nat} {p : Int × Int} {e : Int} (hp : s.ps[k]? = some p) (h0 : 0 ≤ e) (h1 : e < a.ev) (hD : ∀ i e q, D i e q → i < s.ps.length) :
    BInv a b ofA ofB (bEv a b ofA ofB k p s e) (fun i e' q' => D i e' q' ∨ (i = k ∧ e' = e)) := by
  have hk := (List.getElem?_eq_some_iff.1 hp).1
  have h2 := binv_fold ha hb h0 h1 (leadsP a.arrows b.arrows p e (hasB ofA e) (hasB ofB e)) h hp (fun q hq => hq) hD
  refine binv_congr (s := bEv a b ofA ofB k p s e) h2 (fun i p' q' e' hp' _ _ hq' => ?_)
  constructor
  · rintro (h | ⟨h1, h2, -⟩)
    · exact .inl h
    · exact .inr ⟨h1, h2⟩
  · rintro (h | ⟨rfl, rfl⟩)
    · exact .inl h
    · obtain ⟨t, ht⟩ := bEv_ps a b ofA ofB i p s e'
      rw [ht, List.getElem?_append_left hk, hp] at hp'
      cases hp'
      exact .inr ⟨rfl, rfl, hq'⟩
theorem binv_evs {a b : Mach} (ha : mayB a = true) (hb : mayB b = true) {ofA ofB : List Int} {s : BS} {D : Nat → Int → (Int × Int) → Prop} (h : BInv a b ofA ofB s D) {k : Nat} {p : Int × Int} (hp : s.ps[k]? = some p) (hD : ∀ i e q, D i e q → i < s.ps.length) : ∀ n : Nat, (n : Int) ≤ a.ev →
    BInv a b ofA ofB (bEvs a b ofA ofB k p s n) (fun i e' q' => D i e' q' ∨ (i = k ∧ e' < n))
  | 0, _ => binv_congr (s := s) h (fun i p q e _ h0 _ _ => by
      constructor
      · exact .inl
      · rintro (h | ⟨-, h⟩)
        · exact h
        · omega)
  | n + 1, hn => by
    have hk := (List.getElem?_eq_some_iff.1 hp).1
    obtain ⟨t, ht⟩ := bEvs_ps a b ofA ofB k p s n
    have hp' : (bEvs a b ofA ofB k p s n).ps[k]? = some p := by rw [ht, List.getElem?_append_left hk]; exact hp
    have hl : s.ps.length ≤ (bEvs a b ofA ofB k p s n).ps.length := by rw [ht, List.length_append]; omega
    rw [bEvs_succ]
    refine binv_congr (binv_ev ha hb (binv_evs ha hb h hp hD n (by omega)) hp' (e := (n : Int)) (by omega) (by omega) (fun i e q hd => by
      rcases hd with hd | ⟨rfl, -⟩
      · exact Nat.lt_of_lt_of_le (hD _ _ _ hd) hl
      · omega)) (fun i p' q' e' _ _ _ _ => ?_)
    constructor
    · rintro ((h | ⟨h1, h2⟩) | ⟨h1, h2⟩)
      · exact .inl h
      · exact .inr ⟨h1, by omega⟩
      · exact .inr ⟨h1, by omega⟩
    · rintro (h | ⟨h1, h2⟩)
      · exact .inl (.inl h)
      · by_cases h3 : e' = n
        · exact .inr ⟨h1, h3⟩
        · exact .inl (.inr ⟨h1, by omega⟩)
theorem binv_pair {a b : Mach} (ha : mayB a = true) (hb : mayB b = true) {ofA ofB : List Int} {s : BS} {k : Nat} (h : BInv a b ofA ofB s (fun i _ _ => i < k)) (hk : k < s.ps.length) :
    BInv a b ofA ofB (bPair a b ofA ofB s k) (fun i _ _ => i < k + 1) := by
  have hz := mayB_size ha
  unfold sizeOk at hz
  have hp : s.ps[k]? = some s.ps[k] := List.getElem?_eq_getElem hk
  unfold bPair
  rw [hp, Option.getD_some]
  refine binv_congr (binv_evs ha hb h hp (fun i _ _ hi => by omega) a.ev.toNat (by omega)) (fun i p q e _ h0 h1 _ => ?_)
  constructor
  · rintro (h | ⟨h, -⟩) <;> omega
  · intro h
    by_cases h2 : i = k
    · exact .inr ⟨h2, by omega⟩
    · exact .inl (by omega)
/-- What is known of what has been found at last. -/
theorem binv_go {a b : Mach} (ha : mayB a = true) (hb : mayB b = true) {ofA ofB : List Int} : ∀ (f k : Nat) (s s' : BS), BInv a b ofA ofB s (fun i _ _ => i < k) → k ≤ s.ps.length → 300 ≤ f + k → (k = 0 ∨ s.ps.length ≤ 256) → s.ar.length ≤ 4096 → bGo a b ofA ofB f k s = some s' →
    BInv a b ofA ofB s' (fun i _ _ => i < s'.ps.length) ∧ s'.ps.length ≤ 256 ∧ s'.ar.length ≤ 4096
  | 0, k, s, s', h, hk, hf, hs, hr, e => by omega
  | f + 1, k, s, s', h, hk, hf, hs, hr, e => by
    rw [bGo] at e
    by_cases hlt : k < s.ps.length
    · rw [if_pos hlt] at e
      by_cases hB : bBig (bPair a b ofA ofB s k) = true
      · rw [if_pos hB] at e; cases e
      · rw [if_neg hB] at e
        have hn : (bPair a b ofA ofB s k).ps.length ≤ 256 ∧ (bPair a b ofA ofB s k).ar.length ≤ 4096 := by
          unfold bBig at hB
          simp only [Bool.or_eq_true, decide_eq_true_eq, not_or] at hB
          omega
        have hl : s.ps.length ≤ (bPair a b ofA ofB s k).ps.length := by
          obtain ⟨t, ht⟩ := bEvs_ps a b ofA ofB k (s.ps[k]?.getD (0, 0)) s a.ev.toNat
          unfold bPair
          rw [ht, List.length_append]; omega
        exact binv_go ha hb f (k + 1) _ s' (binv_pair ha hb h hlt) (by omega) (by omega) (.inr hn.1) hn.2 e
    · rw [if_neg hlt] at e
      cases e
      have : k = s.ps.length := by omega
      subst this
      refine ⟨h, ?_, hr⟩
      rcases hs with hs | hs <;> omega
theorem beside_inv {a b : Mach} (ha : mayB a = true) (hb : mayB b = true) {ofA ofB : List Int} {s : BS} (h : besideS a b ofA ofB = some s) : BInv a b ofA ofB s (fun i _ _ => i < s.ps.length) ∧ s.ps.length ≤ 256 ∧ s.ar.length ≤ 4096 := by
  have sa := may_starts ha
  have sb := may_starts hb
  refine binv_go ha hb 300 0 _ s ⟨nodup_crossP (inc_nodup sa.1) (inc_nodup sb.1), ⟨[], by simp⟩, fun x hx => by simp at hx, fun i p q e hd => by omega, fun p hp => ?_⟩ (by omega) (by omega) (.inl rfl) (by simp) h
  obtain ⟨h1, h2⟩ := (mem_crossP _ _ _).1 hp
  exact ⟨sa.2 _ h1, sb.2 _ h2⟩

/-! Arrows in order. -/
theorem arr_ext {x y : Arr} (h : arrEq x y) : x = y := by
  cases x; cases y; obtain ⟨h1, h2, h3⟩ := h; dsimp only at h1 h2 h3; subst h1; subst h2; subst h3; rfl
theorem mem_insA (z x : Arr) : ∀ L, z ∈ insA x L ↔ z = x ∨ z ∈ L
  | [] => by simp [insA]
  | y :: r => by
    unfold insA
    split
    · rw [List.mem_cons, mem_insA z x r, List.mem_cons]
      constructor
      · rintro (h | h | h)
        · exact .inr (.inl h)
        · exact .inl h
        · exact .inr (.inr h)
      · rintro (h | h | h)
        · exact .inr (.inl h)
        · exact .inl h
        · exact .inr (.inr h)
    · split
      · rename_i h
        have := arr_ext h
        subst this
        simp
      · simp
theorem inc_insA (x : Arr) : ∀ {L : List Arr}, IncA L → IncA (insA x L)
  | [], _ => by simp [insA, IncA]
  | y :: r, h => by
    obtain ⟨h1, h2⟩ := List.pairwise_cons.1 h
    unfold insA
    split
    · rename_i hy
      refine List.pairwise_cons.2 ⟨fun z hz => ?_, inc_insA x h2⟩
      rcases (mem_insA z x r).1 hz with rfl | hz
      · exact hy
      · exact h1 z hz
    · rename_i hy
      split
      · exact h
      · rename_i he
        have hx : aheadB x y = true := by
          rw [aheadB_iff] at hy ⊢
          unfold arrEq at he
          omega
        refine List.pairwise_cons.2 ⟨fun z hz => ?_, h⟩
        rcases List.mem_cons.1 hz with rfl | hz
        · exact hx
        · exact aheadB_trans hx (h1 z hz)
theorem srtA_both : ∀ (l o : List Arr), IncA o → IncA (l.foldl (fun out x => insA x out) o) ∧ ∀ z, z ∈ l.foldl (fun out x => insA x out) o ↔ z ∈ o ∨ z ∈ l
  | [], o, h => ⟨h, fun z => by simp⟩
  | x :: r, o, h => by
    obtain ⟨k1, k2⟩ := srtA_both r (insA x o) (inc_insA x h)
    refine ⟨k1, fun z => ?_⟩
    rw [List.foldl_cons, k2 z, mem_insA, List.mem_cons]
    constructor
    · rintro ((h | h) | h)
      · exact .inr (.inl h)
      · exact .inl h
      · exact .inr (.inr h)
    · rintro (h | h | h)
      · exact .inl (.inr h)
      · exact .inl (.inl h)
      · exact .inr h
theorem inc_srtA (l : List Arr) : IncA (srtA l) := (srtA_both l [] (by simp [IncA])).1
theorem mem_srtA (l : List Arr) (z : Arr) : z ∈ srtA l ↔ z ∈ l := by rw [show (z ∈ srtA l ↔ _) from (srtA_both l [] (by simp [IncA])).2 z]; simp

/-! The machine of both may be. -/
theorem mem_rngI (n : Nat) (x : Int) : x ∈ rngI n ↔ 0 ≤ x ∧ x < n := by
  unfold rngI
  rw [List.mem_map]
  constructor
  · rintro ⟨k, hk, rfl⟩
    have := List.mem_range.1 hk
    omega
  · rintro ⟨h1, h2⟩
    exact ⟨x.toNat, List.mem_range.2 (by omega), by omega⟩
theorem inc_rngI : ∀ n, Inc (rngI n)
  | 0 => by simp [rngI, Inc]
  | n + 1 => by
    rw [rngI_succ]
    refine List.pairwise_append.2 ⟨inc_rngI n, by simp, fun x hx y hy => ?_⟩
    have h1 := (mem_rngI n x).1 hx
    have h2 : y = n := by simpa using hy
    omega
theorem mem_endsP (a b : Mach) (L : List (Int × Int)) (x : Int) : x ∈ endsP a b L L.length ↔ ∃ (i : Nat) (p : Int × Int), L[i]? = some p ∧ x = i ∧ p.1 ∈ a.ends ∧ p.2 ∈ b.ends := by
  unfold endsP
  rw [List.mem_filter, mem_rngI, Bool.and_eq_true, hasB_iff, hasB_iff]
  constructor
  · rintro ⟨⟨h1, h2⟩, h3, h4⟩
    have hl : x.toNat < L.length := by omega
    refine ⟨x.toNat, L[x.toNat], List.getElem?_eq_getElem hl, by omega, ?_, ?_⟩
    · rwa [List.getElem?_eq_getElem hl, Option.getD_some] at h3
    · rwa [List.getElem?_eq_getElem hl, Option.getD_some] at h4
  · rintro ⟨i, p, hp, rfl, h3, h4⟩
    have hl := (List.getElem?_eq_some_iff.1 hp).1
    rw [Int.toNat_natCast, hp, Option.getD_some]
    exact ⟨⟨by omega, by omega⟩, h3, h4⟩
theorem may_beside {a b : Mach} (ha : mayB a = true) (hb : mayB b = true) {ofA ofB : List Int} {s : BS} (h : besideS a b ofA ofB = some s) : mayB (besideM a b s) = true := by
  obtain ⟨hI, h1, h2⟩ := beside_inv ha hb h
  have hz := mayB_size ha
  unfold sizeOk at hz
  have hst : 1 ≤ (besideM a b s).st ∧ (besideM a b s).st ≤ 256 ∧ (s.ps.length : Int) ≤ (besideM a b s).st := by
    unfold besideM; dsimp only; split <;> omega
  rw [mayB_go ⟨hst.1, hst.2.1, hz.2.2.1, hz.2.2.2.1, Nat.le_trans (srtA_len _) h2⟩ ((rowB_iff _ (by omega) _).2 ⟨inc_rngI _, fun x hx => ?_⟩) ((rowB_iff _ (by omega) _).2 ⟨(inc_rngI _).filter _, fun x hx => ?_⟩)]
  · rw [arrsFrom_iff]
    refine ⟨fun x hx => ?_, inc_srtA _, fun _ _ => rfl⟩
    obtain ⟨i, p, q, e, -, hp, h0, h1, hq, hm, rfl⟩ := hI.fwd x ((mem_srtA _ _).1 hx)
    have hi := (List.getElem?_eq_some_iff.1 hp).1
    have hj := findP_lt hm
    exact ⟨by dsimp only; omega, by dsimp only; omega, by dsimp only; omega, by dsimp only; omega, h0, h1⟩
  · have h3 := (mem_rngI _ x).1 hx
    obtain ⟨t, ht⟩ := hI.pre
    have : (crossP a.starts b.starts).length ≤ s.ps.length := by rw [ht, List.length_append]; omega
    omega
  · have h3 := (mem_rngI _ x).1 (List.mem_filter.1 hx).1
    omega

/-! Words. -/
structure Sim (s : BS) (ss sa sb : List Int) : Prop where
  mem : ∀ x, x ∈ ss ↔ ∃ (i : Nat) (p : Int × Int), s.ps[i]? = some p ∧ x = i ∧ p.1 ∈ sa ∧ p.2 ∈ sb
  all : ∀ x ∈ sa, ∀ y ∈ sb, (x, y) ∈ s.ps
theorem step_one {ars : List Arr} {l : List Int} {x y e : Int} (hx : x ∈ l) (h : y ∈ stepL ars [x] e) : y ∈ stepL ars l e := by
  obtain ⟨c, hc, h1, h2, h3⟩ := (mem_stepL _ _ _ _).1 h
  have : c.f = x := by simpa using h2
  exact (mem_stepL _ _ _ _).2 ⟨c, hc, h1, by rw [this]; exact hx, h3⟩
theorem step_of {ars : List Arr} {l : List Int} {y e : Int} (h : y ∈ stepL ars l e) : ∃ x ∈ l, y ∈ stepL ars [x] e := by
  obtain ⟨c, hc, h1, h2, h3⟩ := (mem_stepL _ _ _ _).1 h
  exact ⟨c.f, h2, (mem_stepL _ _ _ _).2 ⟨c, hc, h1, by simp, h3⟩⟩
theorem half_of {ars : List Arr} {l : List Int} {y e : Int} {x : Bool} (h : y ∈ (if x = true then stepL ars l e else l)) : ∃ z ∈ l, (if x = true then y ∈ stepL ars [z] e else y = z) := by
  cases x with
  | true => exact step_of h
  | false => exact ⟨y, h, rfl⟩
theorem half_one {ars : List Arr} {l : List Int} {y z e : Int} {x : Bool} (hz : z ∈ l) (h : if x = true then y ∈ stepL ars [z] e else y = z) : y ∈ (if x = true then stepL ars l e else l) := by
  cases x with
  | true => exact step_one hz h
  | false => have : y = z := h; subst this; exact hz
theorem sim_step {a b : Mach} {ofA ofB : List Int} {s : BS} (hI : BInv a b ofA ofB s (fun i _ _ => i < s.ps.length)) {ss sa sb : List Int} (h : Sim s ss sa sb) {e : Int} (h0 : 0 ≤ e) (h1 : e < a.ev) (ho : hasB ofA e = true ∨ hasB ofB e = true) :
    Sim s (stepL (besideM a b s).arrows ss e) (if hasB ofA e = true then stepL a.arrows sa e else sa) (if hasB ofB e = true then stepL b.arrows sb e else sb) := by
  have hK : ∀ x y, x ∈ (if hasB ofA e = true then stepL a.arrows sa e else sa) → y ∈ (if hasB ofB e = true then stepL b.arrows sb e else sb) → ∃ (j : Nat) (p : Int × Int), s.ps[j]? = some p ∧ p.1 ∈ sa ∧ p.2 ∈ sb ∧ (x, y) ∈ leadsP a.arrows b.arrows p e (hasB ofA e) (hasB ofB e) := by
    intro x y hx hy
    obtain ⟨u, hu, hu'⟩ := half_of hx
    obtain ⟨v, hv, hv'⟩ := half_of hy
    obtain ⟨j, hj⟩ := List.getElem?_of_mem (h.all u hu v hv)
    exact ⟨j, (u, v), hj, hu, hv, (mem_leadsP _ _ _ _ _ _ _).2 ⟨ho, hu', hv'⟩⟩
  refine ⟨fun x => ?_, fun x hx y hy => ?_⟩
  · rw [mem_stepL]
    show (∃ c ∈ srtA s.ar, _) ↔ _
    constructor
    · rintro ⟨c, hc, k1, k2, k3⟩
      obtain ⟨i, p, q, e', -, hp, -, -, hq, hm, rfl⟩ := hI.fwd c ((mem_srtA _ _).1 hc)
      dsimp only at k1 k2 k3
      subst k1
      obtain ⟨i', p', hp', hi, hA, hB⟩ := (h.mem _).1 k2
      have : i = i' := by omega
      subst this
      rw [hp] at hp'
      cases hp'
      obtain ⟨-, q1, q2⟩ := (mem_leadsP _ _ _ _ _ _ _).1 hq
      exact ⟨_, q, findP_nth hm, k3.symm, half_one hA q1, half_one hB q2⟩
    · rintro ⟨i, q, hq, rfl, hA, hB⟩
      obtain ⟨j, p, hp, pA, pB, hl⟩ := hK _ _ hA hB
      obtain ⟨k1, k2⟩ := hI.bwd j p q e (List.getElem?_eq_some_iff.1 hp).1 hp h0 h1 hl
      exact ⟨_, (mem_srtA _ _).2 k2, rfl, (h.mem _).2 ⟨j, p, hp, rfl, pA, pB⟩, by dsimp only; rw [findP_at hI.nd hq]⟩
  · obtain ⟨j, p, hp, pA, pB, hl⟩ := hK _ _ hx hy
    exact (hI.bwd j p (x, y) e (List.getElem?_eq_some_iff.1 hp).1 hp h0 h1 hl).1
theorem sim_none {a b : Mach} {ofA ofB : List Int} {s : BS} (hI : BInv a b ofA ofB s (fun i _ _ => i < s.ps.length)) (ss : List Int) {e : Int} (ho : ¬ (hasB ofA e = true ∨ hasB ofB e = true)) : stepL (besideM a b s).arrows ss e = [] := by
  refine List.eq_nil_iff_forall_not_mem.2 fun x hx => ?_
  obtain ⟨c, hc, k1, -, -⟩ := (mem_stepL _ _ _ _).1 hx
  obtain ⟨i, p, q, e', -, hp, -, -, hq, hm, rfl⟩ := hI.fwd c ((mem_srtA _ _).1 hc)
  dsimp only at k1
  subst k1
  exact ho ((mem_leadsP _ _ _ _ _ _ _).1 hq).1
/-- What of a word is of some events. -/
abbrev ownW (l word : List Int) : List Int := word.filter fun e => hasB l e
theorem afterL_own (ars : List Arr) (l ss : List Int) (e : Int) (r : List Int) : afterL ars ss (ownW l (e :: r)) = afterL ars (if hasB l e = true then stepL ars ss e else ss) (ownW l r) := by
  cases h : hasB l e
  · rw [if_neg (by simp)]
    simp [ownW, h]
  · rw [if_pos rfl]
    simp [ownW, h, afterL]
theorem sim_after {a b : Mach} {ofA ofB : List Int} {s : BS} (hI : BInv a b ofA ofB s (fun i _ _ => i < s.ps.length)) : ∀ (word : List Int) {ss sa sb : List Int}, Sim s ss sa sb → (∀ e ∈ word, 0 ≤ e ∧ e < a.ev) → (∀ e ∈ word, hasB ofA e = true ∨ hasB ofB e = true) →
    Sim s (afterL (besideM a b s).arrows ss word) (afterL a.arrows sa (ownW ofA word)) (afterL b.arrows sb (ownW ofB word))
  | [], _, _, _, h, _, _ => h
  | e :: r, ss, sa, sb, h, hw, ho => by
    rw [afterL_own, afterL_own]
    exact sim_after hI r (sim_step hI h (hw e (by simp)).1 (hw e (by simp)).2 (ho e (by simp))) (fun e' he' => hw e' (by simp [he'])) (fun e' he' => ho e' (by simp [he']))
theorem sim_stop {a b : Mach} {ofA ofB : List Int} {s : BS} (hI : BInv a b ofA ofB s (fun i _ _ => i < s.ps.length)) : ∀ (word : List Int) (ss : List Int), (∃ e ∈ word, ¬ (hasB ofA e = true ∨ hasB ofB e = true)) → afterL (besideM a b s).arrows ss word = []
  | [], _, h => by obtain ⟨e, he, -⟩ := h; simp at he
  | e :: r, ss, h => by
    show afterL _ (stepL _ ss e) r = []
    by_cases ho : hasB ofA e = true ∨ hasB ofB e = true
    · obtain ⟨e', he', hn⟩ := h
      rcases List.mem_cons.1 he' with rfl | he'
      · exact absurd ho hn
      · exact sim_stop hI r _ ⟨e', he', hn⟩
    · rw [sim_none hI ss ho, afterL_nil]
/-- D3. -/
theorem beside_accepts {a b : Mach} (ha : mayB a = true) (hb : mayB b = true) {ofA ofB : List Int} {s : BS} (h : besideS a b ofA ofB = some s) (word : List Int) (hw : ∀ e ∈ word, 0 ≤ e ∧ e < a.ev) :
    acceptsB (besideM a b s) word = (word.all (fun e => hasB ofA e || hasB ofB e) && (acceptsB a (ownW ofA word) && acceptsB b (ownW ofB word))) := by
  obtain ⟨hI, -, -⟩ := beside_inv ha hb h
  rw [Bool.eq_iff_iff, accepts_iff, Bool.and_eq_true, Bool.and_eq_true, accepts_iff, accepts_iff, List.all_eq_true]
  by_cases ho : ∀ e ∈ word, hasB ofA e = true ∨ hasB ofB e = true
  · have h0 : Sim s (besideM a b s).starts a.starts b.starts := by
      obtain ⟨t, ht⟩ := hI.pre
      refine ⟨fun x => ?_, fun x hx y hy => by rw [ht]; exact List.mem_append_left _ ((mem_crossP _ _ _).2 ⟨hx, hy⟩)⟩
      show x ∈ rngI _ ↔ _
      rw [mem_rngI]
      constructor
      · rintro ⟨k1, k2⟩
        have hl : x.toNat < (crossP a.starts b.starts).length := by omega
        have hg : (crossP a.starts b.starts)[x.toNat]? = some (crossP a.starts b.starts)[x.toNat] := List.getElem?_eq_getElem hl
        obtain ⟨m1, m2⟩ := (mem_crossP _ _ _).1 (List.mem_of_getElem? hg)
        exact ⟨x.toNat, _, by rw [ht, List.getElem?_append_left hl]; exact hg, by omega, m1, m2⟩
      · rintro ⟨i, p, hp, rfl, hA, hB⟩
        have hm : p ∈ crossP a.starts b.starts := (mem_crossP _ _ _).2 ⟨hA, hB⟩
        have h1 := findP_at hI.nd hp
        rw [ht, findP_app t hm] at h1
        have := findP_lt hm
        omega
    have h1 := sim_after hI word h0 hw ho
    constructor
    · rintro ⟨x, hx, he⟩
      obtain ⟨i, p, hp, rfl, hA, hB⟩ := (h1.mem x).1 hx
      obtain ⟨j, p', hp', hj, eA, eB⟩ := (mem_endsP _ _ _ _).1 he
      have : i = j := by omega
      subst this
      rw [hp] at hp'
      cases hp'
      exact ⟨fun e he => by simpa using ho e he, ⟨_, hA, eA⟩, ⟨_, hB, eB⟩⟩
    · rintro ⟨-, ⟨x, hx, ex⟩, ⟨y, hy, ey⟩⟩
      obtain ⟨i, hi⟩ := List.getElem?_of_mem (h1.all x hx y hy)
      exact ⟨(i : Int), (h1.mem _).2 ⟨i, (x, y), hi, rfl, hx, hy⟩, (mem_endsP _ _ _ _).2 ⟨i, (x, y), hi, rfl, ex, ey⟩⟩
  · have hE : ∃ e ∈ word, ¬ (hasB ofA e = true ∨ hasB ofB e = true) := by
      refine Classical.byContradiction fun hc => ho fun e he => Classical.byContradiction fun hn => hc ⟨e, he, hn⟩
    rw [sim_stop hI word _ hE]
    constructor
    · rintro ⟨x, hx, -⟩; simp at hx
    · rintro ⟨h1, -⟩
      exact absurd (fun e he => by simpa using h1 e he) ho

end Go.Proofs.YtdnglodemkeooaaDoor
namespace Go.Proofs.YtdnglodemkeooaaDoor
open Go.RowKit
set_option linter.unusedVariables false

theorem At.cells_of {w : World} {a : Option Addr} {xs : List Int} (h : At w a xs) {k : Nat} (hk : k < xs.length) : ∃ b off, a = some ⟨b, off, none⟩ ∧ b < w.heap.size ∧ Cells w b off xs := by
  rcases h with rfl | h
  · simp at hk
  · exact h
theorem Own2.lower {w : World} {B B' : Nat} {v : Value} {LL : List (List Int)} (h : Own2 w B v LL) (hB : B' ≤ B) : Own2 w B' v LL := by
  obtain ⟨vs, ho, hi⟩ := h
  refine ⟨vs, ⟨ho.1, ?_⟩, hi⟩
  rcases ho.2 with hn | ⟨g, cap, cur, e, hg, rest⟩
  · exact .inl hn
  · exact .inr ⟨g, cap, cur, e, Nat.le_trans hB hg, rest⟩
end Go.Proofs.YtdnglodemkeooaaDoor
namespace Go.Proofs.YtdnglodemkeooaaDoor
open Go.RowKit
set_option linter.unusedVariables false

theorem InnB.kp {Y W : World} {v : Value} {xs : List Int} {b : Nat} {t : TypeId} {cs : Array Value} (h : InnB Y v xs) (hk : Kp b Y W) (hB : Blk Y b t cs) (ht : t ≠ 3) : InnB W v xs :=
  h.kept fun g cs' hg => hk.same g (Array.getElem?_eq_some_iff.1 hg).1 (by
    rintro rfl
    rw [show Y.heap[g]? = _ from hB] at hg; cases hg; exact ht rfl)
theorem Own2.kp {Y W : World} {B b : Nat} {v : Value} {LL : List (List Int)} {t : TypeId} {cs : Array Value} (h : Own2 Y B v LL) (hk : Kp b Y W) (hB : Blk Y b t cs) (ht : t ≠ 3) (ht2 : t ≠ 22) : Own2 W B v LL := by
  obtain ⟨vs, ho, hi⟩ := h
  refine ⟨vs, ⟨ho.1, ?_⟩, fun j x xs h1 h2 => (hi j x xs h1 h2).kp hk hB ht⟩
  rcases ho.2 with hn | ⟨g, cap, cur, rfl, hg, hgg, rest⟩
  · exact .inl hn
  · refine .inr ⟨g, cap, cur, rfl, hg, (hk.same g (Array.getElem?_eq_some_iff.1 hgg).1 ?_).trans hgg, rest⟩
    rintro rfl
    rw [show Y.heap[g]? = _ from hB] at hgg; cases hgg; exact ht2 rfl
theorem Kp.set5 {b : Nat} {W : World} (v0 v1 v2 v3 v4 : Value) : Kp b W (((((W.setCell ⟨b, 0, none⟩ v0).setCell ⟨b, 1, none⟩ v1).setCell ⟨b, 2, none⟩ v2).setCell ⟨b, 3, none⟩ v3).setCell ⟨b, 4, none⟩ v4) :=
  (((((Kp.refl b W).set 0 v0).set 1 v1).set 2 v2).set 3 v3).set 4 v4
theorem endsP_succ {a b : Mach} {L : List (Int × Int)} {n : Nat} {p : Int × Int} (hp : Hid (L[n]? = some p)) : endsP a b L (n + 1) = if (hasB a.ends p.1 && hasB b.ends p.2) = true then endsP a b L n ++ [(n : Int)] else endsP a b L n := by
  unfold endsP
  rw [rngI_succ, List.filter_append]
  have e : (L[((n : Int)).toNat]?.getD (0, 0)) = p := by rw [Int.toNat_natCast, hp.out]; rfl
  by_cases c : (hasB a.ends p.1 && hasB b.ends p.2) = true
  · rw [if_pos c]
    congr 1
    simp only [List.filter_cons, e, c, if_true, List.filter_nil]
  · rw [if_neg c]
    simp only [List.filter_cons, e, c, Bool.false_eq_true, if_false, List.filter_nil, List.append_nil]
theorem endsP_len (a b : Mach) (L : List (Int × Int)) (n : Nat) : (endsP a b L n).length ≤ n := by
  unfold endsP
  exact Nat.le_trans (List.length_filter_le _ _) (by rw [rngI_len]; exact Nat.le_refl _)

end Go.Proofs.YtdnglodemkeooaaDoor
namespace Go.Proofs.YtdnglodemkeooaaDoor
open Go.RowKit
set_option linter.unusedVariables false

/-- What Beside leaves where something is wrong. -/
def BesErr (c : Int) (w : World) (e : Ending) (w' : World) : Prop := e = .returned (.tuple #[mval m0 ml0, .slice none 0 0, .int .i64 c]) ∧ Below w.heap.size w w'

/-- What Beside leaves where nothing is wrong with what comes in. -/
def BesGives (w : World) (a b : Mach) (ofA ofB : List Int) (e : Ending) (w' : World) : Prop :=
  match besideS a b ofA ofB with
  | none => BesErr 1 w e w'
  | some s => ∃ L v, e = .returned (.tuple #[mval (besideM a b s) L, v, .int .i64 0]) ∧ MAt w' (besideM a b s) L ∧ Own2 w' w.heap.size v (prs s.ps) ∧ Below w.heap.size w w'
/-- What Beside leaves: the code of what is wrong, or the machine of both and its pairs. -/
def BesAll (w : World) (a b : Mach) (ofA ofB : List Int) (e : Ending) (w' : World) : Prop :=
  if mayB a = false ∨ mayB b = false then BesErr 2 w e w'
  else if ¬ a.ev = b.ev then BesErr 3 w e w'
  else if rowB a.ev ofA = false ∨ rowB a.ev ofB = false then BesErr 2 w e w'
  else BesGives w a b ofA ofB e w'

end Go.Proofs.YtdnglodemkeooaaDoor
namespace Go.Proofs.YtdnglodemkeooaaDoor
open Go.RowKit
set_option linter.unusedVariables false

/-- What Beside answers, plainly: the machine, the list, and what is wrong. -/
def besOut (a b : Mach) (ofA ofB : List Int) : Mach × List (List Int) × Int :=
  if mayB a = false ∨ mayB b = false then (m0, [], 2)
  else if ¬ a.ev = b.ev then (m0, [], 3)
  else if rowB a.ev ofA = false ∨ rowB a.ev ofB = false then (m0, [], 2)
  else match besideS a b ofA ofB with
    | none => (m0, [], 1)
    | some s => (besideM a b s, prs s.ps, 0)

theorem besErr_out {c : Int} {w w' : World} {e : Ending} (h : BesErr c w e w') : ∃ L va vc, e = .returned (.tuple #[mval m0 L, .slice va ([] : List (List Int)).length vc, .int .i64 c]) ∧ MAt w' m0 L ∧ At2 w' va ([] : List (List Int)) ∧ Below w.heap.size w w' := by
  obtain ⟨rfl, hb⟩ := h
  exact ⟨ml0, none, 0, rfl, mat0 _, .inl rfl, hb⟩

theorem besAll_out {w w' : World} {a b : Mach} {ofA ofB : List Int} {e : Ending} (h : BesAll w a b ofA ofB e w') :
    ∃ L va vc, e = .returned (.tuple #[mval (besOut a b ofA ofB).1 L, .slice va (besOut a b ofA ofB).2.1.length vc, .int .i64 (besOut a b ofA ofB).2.2]) ∧ MAt w' (besOut a b ofA ofB).1 L ∧ At2 w' va (besOut a b ofA ofB).2.1 ∧ Below w.heap.size w w' ∧ (besOut a b ofA ofB).2.1.length ≤ maxLen := by
  have h0 : ([] : List (List Int)).length ≤ maxLen := Nat.zero_le _
  unfold BesAll at h
  unfold besOut
  split
  · rw [if_pos ‹_›] at h
    obtain ⟨L, va, vc, h1, h2, h3, h4⟩ := besErr_out h
    exact ⟨L, va, vc, h1, h2, h3, h4, h0⟩
  · rw [if_neg ‹_›] at h
    split
    · rw [if_pos ‹_›] at h
      obtain ⟨L, va, vc, h1, h2, h3, h4⟩ := besErr_out h
      exact ⟨L, va, vc, h1, h2, h3, h4, h0⟩
    · rw [if_neg ‹_›] at h
      split
      · rw [if_pos ‹_›] at h
        obtain ⟨L, va, vc, h1, h2, h3, h4⟩ := besErr_out h
        exact ⟨L, va, vc, h1, h2, h3, h4, h0⟩
      · rw [if_neg ‹_›] at h
        unfold BesGives at h
        split
        · rename_i heq
          rw [heq] at h
          obtain ⟨L, va, vc, h1, h2, h3, h4⟩ := besErr_out h
          exact ⟨L, va, vc, h1, h2, h3, h4, h0⟩
        · rename_i s heq
          rw [heq] at h
          obtain ⟨L, v, rfl, hm, hown, hb⟩ := h
          obtain ⟨va, vc, rfl, hat, hl1, hl2, -⟩ := hown.at
          exact ⟨L, va, vc, rfl, hm, hat, hb, Nat.le_trans hl1 hl2⟩

/-- Something is wrong, or it is the machine of both. -/
theorem besOut_cases (a b : Mach) (ofA ofB : List Int) : ((besOut a b ofA ofB).1 = m0 ∧ ¬ (besOut a b ofA ofB).2.2 = 0) ∨ (∃ s, besideS a b ofA ofB = some s ∧ (besOut a b ofA ofB).1 = besideM a b s ∧ (besOut a b ofA ofB).2.2 = 0 ∧ mayB a = true ∧ mayB b = true ∧ a.ev = b.ev ∧ rowB a.ev ofA = true ∧ rowB a.ev ofB = true) := by
  unfold besOut
  split
  · exact .inl ⟨rfl, by decide⟩
  · rename_i h1
    split
    · exact .inl ⟨rfl, by decide⟩
    · rename_i h2
      split
      · exact .inl ⟨rfl, by decide⟩
      · rename_i h3
        split
        · exact .inl ⟨rfl, by decide⟩
        · rename_i s hs
          refine .inr ⟨s, hs, rfl, rfl, ?_, ?_, ?_, ?_, ?_⟩
          · cases h : mayB a with
            | true => rfl
            | false => exact absurd (.inl h) h1
          · cases h : mayB b with
            | true => rfl
            | false => exact absurd (.inr h) h1
          · exact Classical.not_not.1 h2
          · cases h : rowB a.ev ofA with
            | true => rfl
            | false => exact absurd (.inl h) h3
          · cases h : rowB a.ev ofB with
            | true => rfl
            | false => exact absurd (.inr h) h3

end Go.Proofs.YtdnglodemkeooaaDoor
namespace Go.Proofs.YtdnglodemkeooaaDoor
open Go.RowKit
set_option linter.unusedVariables false

theorem AtB.at {w : World} {B : Nat} {a : Option Addr} {xs : List Int} (h : AtB w B a xs) (hB : B ≤ w.heap.size) : At w a xs := by
  rcases h with h | ⟨b, off, rfl, hlt, hc⟩
  · exact .inl h
  · exact .inr ⟨b, off, rfl, by omega, hc⟩

/-- Not both are empty. -/
def NE (xs ys : List Int) : Prop := ¬ (xs = [] ∧ ys = [])

/-- What a closure that says whether a number stays is good for. -/
def StaysSaid (F B : Nat) (a1 : Option Addr) (c1 : Nat) (xs : List Int) (a2 : Option Addr) (c2 : Nat) (ys : List Int) (st : Int → Bool) : Prop :=
  ∀ (w : World) (n : Int), PI w B a1 c1 xs a2 c2 ys n → Calls Tryd.prog F #[.int .i64 n, .pointer (some ⟨B + 4, 0, none⟩), .pointer (some ⟨B + 5, 0, none⟩)] w fun e w' => e = .returned (.bool (st n)) ∧ PI w' B a1 c1 xs a2 c2 ys n ∧ Kept (fun k => k ≠ B + 1 ∧ k ≠ B + 3) w w'

/-- What holds at the head of each round of pick. -/
structure PR (w wr : World) (B : Nat) (a1 : Option Addr) (c1 : Nat) (xs : List Int) (a2 : Option Addr) (c2 : Nat) (ys : List Int) (st : Int → Bool) (p1 : Option Addr) (d1 : Nat) (xs' : List Int) (p2 : Option Addr) (d2 : Nat) (ys' : List Int) (v : Value) (L : List Int) (m : Int) : Prop where
  r1 : AtB wr B p1 xs'
  r2 : AtB wr B p2 ys'
  k1 : xs'.length ≤ d1
  k2 : ys'.length ≤ d2
  m1 : d1 ≤ maxLen
  m2 : d2 ≤ maxLen
  i1 : Inc xs'
  i2 : Inc ys'
  g1 : ∀ z ∈ xs', m ≤ z
  g2 : ∀ z ∈ ys', m ≤ z
  pi : PI wr B a1 c1 xs a2 c2 ys m
  own : Own wr (B + 6) v L
  bel : Below B w wr
  hsz : B + 6 ≤ wr.heap.size
  eq : (uni xs ys).filter st = L ++ (uni xs' ys').filter st

/-- The length of a slice value. -/
def lenSl : Value → Nat
  | .slice _ n _ => n
  | _ => 0

theorem pi_drewN {w : World} {B : Nat} {a1 : Option Addr} {c1 : Nat} {xs : List Int} {a2 : Option Addr} {c2 : Nat} {ys : List Int} {n : Int} (h : PI w B a1 c1 xs a2 c2 ys n) (q : Nat) : PI (w.drewN q) B a1 c1 xs a2 c2 ys n := h.kept ⟨rfl, rfl, rfl, Nat.le_refl _, fun _ _ => rfl⟩
theorem atB_drewN {w : World} {B : Nat} {a : Option Addr} {xs : List Int} (h : AtB w B a xs) (q : Nat) : AtB (w.drewN q) B a xs := h

theorem Own.kept {w w' : World} {B : Nat} {v : Value} {xs : List Int} {K : Nat → Prop} (h : Own w B v xs) (hk : Kept K w w') (hK : ∀ k, B ≤ k → K k) : Own w' B v xs := by
  refine ⟨h.1, ?_⟩
  rcases h.2 with hn | ⟨g, cap, cur, rfl, hb, hgg, rest⟩
  · exact .inl hn
  · exact .inr ⟨g, cap, cur, rfl, hb, (hk.block g (hK g hb)).trans hgg, rest⟩

theorem kept_of_drewN {K : Nat → Prop} {a w : World} {q : Nat} (h : Kept K (a.drewN q) w) : Kept K a w := ⟨h.os, h.tape, h.output, h.size, h.block⟩

section
variable {w wr w2 : World} {B : Nat} {a1 : Option Addr} {c1 : Nat} {xs : List Int} {a2 : Option Addr} {c2 : Nat} {ys : List Int} {st : Int → Bool} {p1 : Option Addr} {d1 : Nat} {xs' : List Int} {p2 : Option Addr} {d2 : Nat} {ys' : List Int} {v : Value} {L : List Int} {m : Int} {p1' : Option Addr} {d1' : Nat} {p2' : Option Addr} {d2' : Nat} {q : Nat}

theorem PR.drop (hr : PR w wr B a1 c1 xs a2 c2 ys st p1 d1 xs' p2 d2 ys' v L m) (hne : NE xs' ys')
    (s1 : AtB (wr.drewN q) B p1' (rem xs' (fst xs' ys'))) (s2 : (rem xs' (fst xs' ys')).length ≤ d1') (s3 : d1' ≤ maxLen) (t1 : AtB (wr.drewN q) B p2' (rem ys' (fst xs' ys'))) (t2 : (rem ys' (fst xs' ys')).length ≤ d2') (t3 : d2' ≤ maxLen)
    (hpi : PI w2 B a1 c1 xs a2 c2 ys (fst xs' ys')) (hk : Kept (fun k => k ≠ B + 1 ∧ k ≠ B + 3) (wr.drewN q) w2) (hs : st (fst xs' ys') = false) :
    PR w w2 B a1 c1 xs a2 c2 ys st p1' d1' (rem xs' (fst xs' ys')) p2' d2' (rem ys' (fst xs' ys')) v L (fst xs' ys') where
  r1 := s1.kept hk (fun k h => by omega)
  r2 := t1.kept hk (fun k h => by omega)
  k1 := s2
  k2 := t2
  m1 := s3
  m2 := t3
  i1 := inc_rem _ hr.i1
  i2 := inc_rem _ hr.i2
  g1 := fun z hz => Int.le_of_lt ((rem_low hr.i1 hr.i2).1 z hz)
  g2 := fun z hz => Int.le_of_lt ((rem_low hr.i1 hr.i2).2 z hz)
  pi := hpi
  own := hr.own.kept (kept_of_drewN hk) (fun k h => by omega)
  bel := hr.bel.trans ((kept_of_drewN hk).below (fun k h => by omega))
  hsz := Nat.le_trans hr.hsz hk.size
  eq := by rw [hr.eq, uni_step _ _ hne, List.filter_cons, hs]; rfl

theorem PR.keep {w3 : World} {v' : Value} {o : Obj} (hr : PR w wr B a1 c1 xs a2 c2 ys st p1 d1 xs' p2 d2 ys' v L m) (hne : NE xs' ys')
    (s1 : AtB (wr.drewN q) B p1' (rem xs' (fst xs' ys'))) (s2 : (rem xs' (fst xs' ys')).length ≤ d1') (s3 : d1' ≤ maxLen) (t1 : AtB (wr.drewN q) B p2' (rem ys' (fst xs' ys'))) (t2 : (rem ys' (fst xs' ys')).length ≤ d2') (t3 : d2' ≤ maxLen)
    (hpi : PI w2 B a1 c1 xs a2 c2 ys (fst xs' ys')) (hk : Kept (fun k => k ≠ B + 1 ∧ k ≠ B + 3) (wr.drewN q) w2) (hs : st (fst xs' ys') = true)
    (hown' : w3.ownsRow (B + 6) 3 1 v' (L.length + 1) (L.map (Value.int .i64) ++ [.int .i64 (fst xs' ys')])) (hgrow : (w2.alloc o).grownBy w3 v.ownBlock) :
    PR w w3 B a1 c1 xs a2 c2 ys st p1' d1' (rem xs' (fst xs' ys')) p2' d2' (rem ys' (fst xs' ys')) v' (L ++ [fst xs' ys']) (fst xs' ys') := by
  have hsz2 : B + 6 ≤ w2.heap.size := Nat.le_trans hr.hsz hk.size
  obtain ⟨o1, o2, o3⟩ := own_snoc (w := w2) (hr.own.kept (kept_of_drewN hk) (fun k h => by omega)) (Below.refl _ _) hsz2 hown' hgrow
  have hk3 : Kept (fun k => k < B + 6) w2 w3 := ⟨o2.os, o2.tape, o2.output, o2.size, o2.block⟩
  exact {
    r1 := (s1.kept hk (fun k h => by omega)).kept hk3 (fun k h => by omega)
    r2 := (t1.kept hk (fun k h => by omega)).kept hk3 (fun k h => by omega)
    k1 := s2
    k2 := t2
    m1 := s3
    m2 := t3
    i1 := inc_rem _ hr.i1
    i2 := inc_rem _ hr.i2
    g1 := fun z hz => Int.le_of_lt ((rem_low hr.i1 hr.i2).1 z hz)
    g2 := fun z hz => Int.le_of_lt ((rem_low hr.i1 hr.i2).2 z hz)
    pi := hpi.kept hk3
    own := o1
    bel := (hr.bel.trans ((kept_of_drewN hk).below (fun k h => by omega))).trans (o2.mono (by omega))
    hsz := o3
    eq := by rw [hr.eq, uni_step _ _ hne, List.filter_cons, hs]; simp }

theorem PR.room (hr : PR w wr B a1 c1 xs a2 c2 ys st p1 d1 xs' p2 d2 ys' v L m) : L.length ≤ xs.length + ys.length := by
  have h := congrArg List.length hr.eq
  have h1 := List.length_filter_le st (uni xs ys)
  have h2 := uni_len_le xs ys
  rw [List.length_append] at h
  omega
end

end Go.Proofs.YtdnglodemkeooaaDoor
namespace Go.Proofs.YtdnglodemkeooaaDoor
open Go.RowKit
set_option linter.unusedVariables false

set_option maxHeartbeats 2000000 in
set_option maxRecDepth 100000 in
theorem join_pick (w : World) (B : Nat) (a1 : Option Addr) (c1 : Nat) (xs : List Int) (a2 : Option Addr) (c2 : Nat) (ys : List Int) (st : Int → Bool) (hst : StaysSaid 101 B a1 c1 xs a2 c2 ys st)
    (hp : PI w B a1 c1 xs a2 c2 ys (-1)) (h1 : AtB w B a1 xs) (h2 : AtB w B a2 ys) (k1 : xs.length ≤ c1) (k2 : ys.length ≤ c2) (m1 : c1 ≤ maxLen) (m2 : c2 ≤ maxLen) (hB : B + 6 ≤ w.heap.size)
    (hx : Hid (rowB 2147483648 xs = true)) (hy : Hid (rowB 2147483648 ys = true)) :
    Calls Tryd.prog 100 #[.slice a1 xs.length c1, .slice a2 ys.length c2, .func (.func 101) #[] #[.pointer (some ⟨B + 4, 0, none⟩), .pointer (some ⟨B + 5, 0, none⟩)]] w fun e w' => ∃ v, e = .returned (.tuple #[v, .int .i64 0]) ∧ Own w' (B + 6) v ((uni xs ys).filter st) ∧ Below B w w' := by
  obtain ⟨i0, hi, hz0, hz1, hz2⟩ := info_parts Tryd.infoInt
  have hlx := rowB_len hx.out
  have hly := rowB_len hy.out
  go_enter Tryd.func100, Tryd.ntmps100
  go_wp2_with fail
  refine (rowIs_any a1 c1 xs 2147483648 _ (h1.at (by omega)) (by omega)).mono ?_
  rintro e w' ⟨rfl, rfl⟩
  rw [hx.out]
  go_wp2_with fail
  refine (rowIs_any a2 c2 ys 2147483648 _ (h2.at (by omega)) (by omega)).mono ?_
  rintro e w' ⟨rfl, rfl⟩
  rw [hy.out]
  go_wp2_with fail
  go_loopw [0, 1, 8] (fun v0 v1 v wr => ∃ p1 d1 xs' p2 d2 ys' L m, v0 = .slice p1 xs'.length d1 ∧ v1 = .slice p2 ys'.length d2 ∧ PR w' wr B a1 c1 xs a2 c2 ys st p1 d1 xs' p2 d2 ys' v L m) (fun v0 v1 _ _ => lenSl v0 + lenSl v1)
  case atStart => exact ⟨a1, c1, xs, a2, c2, ys, [], -1, rfl, rfl, ⟨h1, h2, k1, k2, m1, m2, rowB_inc hx.out, rowB_inc hy.out, fun z hz => by have := rowB_bd hx.out z hz; omega, fun z hz => by have := rowB_bd hy.out z hz; omega, hp, own_nil _ _, Below.refl _ _, hB, rfl⟩⟩
  case round =>
    obtain ⟨p1, d1, xs', p2, d2, ys', L, m, rfl, rfl, hr⟩ := hrel
    clear hp h1 h2 k1 k2 m1 m2 hB
    have k1 := hr.k1
    have k2 := hr.k2
    have m1 := hr.m1
    have m2 := hr.m2
    have hsz := hr.hsz
    unfold maxLen at m1 m2
    by_cases hne : xs' = [] ∧ ys' = []
    · obtain ⟨rfl, rfl⟩ := hne
      have hown := hr.own
      have heq := hr.eq
      have hbel := hr.bel
      rw [show uni [] [] = [] from rfl, List.filter_nil, List.append_nil] at heq
      rw [← heq] at hown
      clear heq
      go_wp2
      go_ret2
      exact ⟨_, rfl, hown, hbel⟩
    · have HNE : NE xs' ys' := hne
      by_cases e1 : 0 < xs'.length
      · clear hne
        go_wp2_with fail
        refine (first_any p1 p2 d1 d2 xs' ys' _ HNE (hr.r1.at (by omega)) (hr.r2.at (by omega)) (by unfold maxLen; omega) (by unfold maxLen; omega)).mono ?_
        rintro e w1 ⟨rfl, q, rfl⟩
        go_wp2_with fail
        refine (behind_any p1 d1 B xs' _ _ (atB_drewN hr.r1 q) k1 hr.m1).mono ?_
        rintro e w1 ⟨⟨p1', d1', rfl, s1, s2, s3⟩, rfl⟩
        go_wp2_with fail
        refine (behind_any p2 d2 B ys' _ _ (atB_drewN hr.r2 q) k2 hr.m2).mono ?_
        rintro e w1 ⟨⟨p2', d2', rfl, t1, t2, t3⟩, rfl⟩
        go_wp2_with fail
        refine (hst _ _ ((pi_drewN hr.pi q).mono (fst_ge HNE hr.g1 hr.g2))).mono ?_
        rintro e w2 ⟨rfl, hpi, hkept⟩
        have hlt := rem_lenlt xs' ys' HNE
        have hroom := hr.room
        by_cases hs : st (fst xs' ys') = true
        · have HS : Hid (st (fst xs' ys') = true) := hs
          have hown2 : Own w2 (B + 6) _ L := hr.own.kept (kept_of_drewN hkept) (fun k h => by omega)
          have hsz2 : B + 6 ≤ w2.heap.size := Nat.le_trans hr.hsz hkept.size
          go_wp2_with (at_builtin; refine wpList_append_own _ rfl _ _ 22 rfl (B + 6) 3 i0 (.int .i64 0) 1 8 Tryd.underlying22 hi hz0 hz1 hz2 rfl (by decide) _ _ _ rfl (World.ownsRow.alloc hown2 _) ⟨w2.heap.size, 0, none⟩ 1 1 [.int .i64 (fst xs' ys')] rfl rfl (cell_one_new _ _ _) (by intro u hu; simp at hu; subst hu; rfl) (by unfold maxLen; omega) (by omega) (by simp; omega) ?_)
          intro v' w3 hown' hgrow _
          have R := hr.keep HNE s1 s2 s3 t1 t2 t3 hpi hkept HS.out hown' hgrow
          clear hown' hgrow hown2 hr hpi hkept s1 t1
          go_wp2
          go_roundw
          case rel => exact ⟨p1', d1', _, p2', d2', _, _, _, rfl, rfl, R⟩
          case measure => simp only [lenSl]; exact hlt
        · have hs : st (fst xs' ys') = false := by simpa using hs
          have R := hr.drop HNE s1 s2 s3 t1 t2 t3 hpi hkept hs
          go_wp2
          go_roundw
          case rel => exact ⟨p1', d1', _, p2', d2', _, _, _, rfl, rfl, R⟩
          case measure => simp only [lenSl]; exact hlt
      · have e0 : xs' = [] := List.eq_nil_of_length_eq_zero (by omega)
        subst e0
        have e2 : 0 < ys'.length := List.length_pos_iff.2 (fun h => hne ⟨rfl, h⟩)
        clear hne e1
        go_wp2_with fail
        refine (first_any p1 p2 d1 d2 [] ys' _ HNE (hr.r1.at (by omega)) (hr.r2.at (by omega)) (by unfold maxLen; omega) (by unfold maxLen; omega)).mono ?_
        rintro e w1 ⟨rfl, q, rfl⟩
        go_wp2_with fail
        refine (behind_any p1 d1 B [] _ _ (atB_drewN hr.r1 q) k1 hr.m1).mono ?_
        rintro e w1 ⟨⟨p1', d1', rfl, s1, s2, s3⟩, rfl⟩
        go_wp2_with fail
        refine (behind_any p2 d2 B ys' _ _ (atB_drewN hr.r2 q) k2 hr.m2).mono ?_
        rintro e w1 ⟨⟨p2', d2', rfl, t1, t2, t3⟩, rfl⟩
        go_wp2_with fail
        refine (hst _ _ ((pi_drewN hr.pi q).mono (fst_ge HNE hr.g1 hr.g2))).mono ?_
        rintro e w2 ⟨rfl, hpi, hkept⟩
        have hlt := rem_lenlt [] ys' HNE
        have hroom := hr.room
        by_cases hs : st (fst [] ys') = true
        · have HS : Hid (st (fst [] ys') = true) := hs
          have hown2 : Own w2 (B + 6) _ L := hr.own.kept (kept_of_drewN hkept) (fun k h => by omega)
          have hsz2 : B + 6 ≤ w2.heap.size := Nat.le_trans hr.hsz hkept.size
          go_wp2_with (at_builtin; refine wpList_append_own _ rfl _ _ 22 rfl (B + 6) 3 i0 (.int .i64 0) 1 8 Tryd.underlying22 hi hz0 hz1 hz2 rfl (by decide) _ _ _ rfl (World.ownsRow.alloc hown2 _) ⟨w2.heap.size, 0, none⟩ 1 1 [.int .i64 (fst [] ys')] rfl rfl (cell_one_new _ _ _) (by intro u hu; simp at hu; subst hu; rfl) (by unfold maxLen; omega) (by omega) (by simp; omega) ?_)
          intro v' w3 hown' hgrow _
          have R := hr.keep HNE s1 s2 s3 t1 t2 t3 hpi hkept HS.out hown' hgrow
          clear hown' hgrow hown2 hr hpi hkept s1 t1
          go_wp2
          go_roundw
          case rel => exact ⟨p1', d1', _, p2', d2', _, _, _, rfl, rfl, R⟩
          case measure => simp only [lenSl]; exact hlt
        · have hs : st (fst [] ys') = false := by simpa using hs
          have R := hr.drop HNE s1 s2 s3 t1 t2 t3 hpi hkept hs
          go_wp2
          go_roundw
          case rel => exact ⟨p1', d1', _, p2', d2', _, _, _, rfl, rfl, R⟩
          case measure => simp only [lenSl]; exact hlt

end Go.Proofs.YtdnglodemkeooaaDoor
