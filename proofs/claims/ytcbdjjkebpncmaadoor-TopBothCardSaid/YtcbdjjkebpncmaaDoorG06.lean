/-
  Plain: the machine of two beside one another accepts a word just when each accepts what of it is its own. No program, no model.
  Plain: what package beside makes of pairs and arrows on its way, held against what the chapter says. No program, no model.
  Plain: a search, level by level, of what words lead to; the least words. No program, no model.
-/
import Derived.Test.YtcbdjjkebpncmaaDoorG04
import Derived.Test.YtcbdjjkebpncmaaDoorG05
import Derived.Test.YtcbdjjkebpncmaaDoorG03
namespace Go.Proofs.YtcbdjjkebpncmaaDoor
open Go.RowKit
set_option linter.unusedVariables false

/-! Places of pairs. -/
theorem findP_nth : ∀ {L : List (Int × Int)} {q : Int × Int}, q ∈ L → L[findP L q.1 q.2]? = some q
  | [], q, h => by simp at h
  | p :: r, q, h => by
    unfold findP
    by_cases hc : p.1 = q.1 ∧ p.2 = q.2
    · rw [if_pos hc]
      have : p = q := Prod.ext hc.1 hc.2
      simp [this]
    · rw [if_neg hc]
      have hq : q ∈ r := by
        rcases List.mem_cons.1 h with rfl | h
        · exact absurd ⟨rfl, rfl⟩ hc
        · exact h
      simpa using findP_nth hq
theorem findP_lt {L : List (Int × Int)} {q : Int × Int} (h : q ∈ L) : findP L q.1 q.2 < L.length := (List.getElem?_eq_some_iff.1 (findP_nth h)).1
theorem findP_new : ∀ {L : List (Int × Int)} {q : Int × Int}, findP L q.1 q.2 = L.length ↔ q ∉ L := by
  intro L q
  constructor
  · intro h hq
    have := findP_lt hq
    omega
  · intro h
    induction L with
    | nil => rfl
    | cons p r ih =>
      unfold findP
      have hc : ¬ (p.1 = q.1 ∧ p.2 = q.2) := fun hc => h (by have : p = q := Prod.ext hc.1 hc.2; simp [this])
      rw [if_neg hc, ih (fun hq => h (by simp [hq]))]; rfl
theorem findP_app : ∀ {L : List (Int × Int)} {q : Int × Int} (t : List (Int × Int)), q ∈ L → findP (L ++ t) q.1 q.2 = findP L q.1 q.2
  | [], q, t, h => by simp at h
  | p :: r, q, t, h => by
    rw [List.cons_append]
    unfold findP
    by_cases hc : p.1 = q.1 ∧ p.2 = q.2
    · rw [if_pos hc, if_pos hc]
    · have hq : q ∈ r := by
        rcases List.mem_cons.1 h with rfl | h
        · exact absurd ⟨rfl, rfl⟩ hc
        · exact h
      rw [if_neg hc, if_neg hc, findP_app t hq]
theorem findP_at : ∀ {L : List (Int × Int)} {q : Int × Int} {i : Nat}, L.Nodup → L[i]? = some q → findP L q.1 q.2 = i := by
  intro L q i hn hi
  have hm : q ∈ L := List.mem_of_getElem? hi
  have h1 := findP_nth hm
  obtain ⟨l1, e1⟩ := List.getElem?_eq_some_iff.1 h1
  obtain ⟨l2, e2⟩ := List.getElem?_eq_some_iff.1 hi
  exact (List.getElem_inj hn).1 (e1.trans e2.symm)
theorem mem_crossP (S T : List Int) (q : Int × Int) : q ∈ crossP S T ↔ q.1 ∈ S ∧ q.2 ∈ T := by
  unfold crossP
  rw [List.mem_flatMap]
  constructor
  · rintro ⟨x, hx, h⟩
    obtain ⟨y, hy, rfl⟩ := List.mem_map.1 h
    exact ⟨hx, hy⟩
  · rintro ⟨h1, h2⟩
    exact ⟨q.1, h1, List.mem_map.2 ⟨q.2, h2, rfl⟩⟩
theorem nodup_crossP : ∀ {S T : List Int}, S.Nodup → T.Nodup → (crossP S T).Nodup
  | [], T, _, _ => by simp [crossP]
  | x :: r, T, hS, hT => by
    obtain ⟨h1, h2⟩ := List.nodup_cons.1 hS
    have ih := nodup_crossP h2 hT
    show ((T.map fun y => (x, y)) ++ crossP r T).Nodup
    rw [List.nodup_append]
    refine ⟨?_, ih, ?_⟩
    · rw [List.Nodup, List.pairwise_map]
      exact hT.imp (fun h e => h (Prod.mk.inj e).2)
    · intro p hp q hq e
      subst e
      obtain ⟨y, hy, rfl⟩ := List.mem_map.1 hp
      exact h1 ((mem_crossP _ _ _).1 hq).1

/-! What has been found: the invariant. -/
/-- What is known once the pairs before k, and of pair k the events before e, and of these at e the places in Q, have been gone through. -/
structure BInv (a b : Mach) (ofA ofB : List Int) (s : BS) (D : Nat → Int → (Int × Int) → Prop) : Prop where
  nd : s.ps.Nodup
  pre : ∃ t, s.ps = crossP a.starts b.starts ++ t
  fwd : ∀ x ∈ s.ar, ∃ (i : Nat) (p q : Int × Int) (e : Int), D i e q ∧ s.ps[i]? = some p ∧ 0 ≤ e ∧ e < a.ev ∧ q ∈ leadsP a.arrows b.arrows p e (hasB ofA e) (hasB ofB e) ∧ q ∈ s.ps ∧ x = ⟨(i : Int), e, (findP s.ps q.1 q.2 : Nat)⟩
  bwd : ∀ (i : Nat) (p q : Int × Int) (e : Int), D i e q → s.ps[i]? = some p → 0 ≤ e → e < a.ev → q ∈ leadsP a.arrows b.arrows p e (hasB ofA e) (hasB ofB e) → q ∈ s.ps ∧ (⟨(i : Int), e, (findP s.ps q.1 q.2 : Nat)⟩ : Arr) ∈ s.ar
  cr : ∀ p ∈ s.ps, (0 ≤ p.1 ∧ p.1 < a.st) ∧ (0 ≤ p.2 ∧ p.2 < b.st)

theorem binv_congr {a b : Mach} {ofA ofB : List Int} {s : BS} {D D' : Nat → Int → (Int × Int) → Prop} (h : BInv a b ofA ofB s D) (hD : ∀ (i : Nat) (p q : Int × Int) (e : Int), s.ps[i]? = some p → 0 ≤ e → e < a.ev → q ∈ leadsP a.arrows b.arrows p e (hasB ofA e) (hasB ofB e) → (D i e q ↔ D' i e q)) : BInv a b ofA ofB s D' := by
  refine ⟨h.nd, h.pre, fun x hx => ?_, fun i p q e hd hp h0 h1 hq => ?_, h.cr⟩
  · obtain ⟨i, p, q, e, hd, hp, h0, h1, hq, hm, rfl⟩ := h.fwd x hx
    exact ⟨i, p, q, e, (hD i p q e hp h0 h1 hq).1 hd, hp, h0, h1, hq, hm, rfl⟩
  · exact h.bwd i p q e ((hD i p q e hp h0 h1 hq).2 hd) hp h0 h1 hq

theorem mem_leadsP (A B : List Arr) (p q : Int × Int) (e : Int) (x y : Bool) : q ∈ leadsP A B p e x y ↔ (x = true ∨ y = true) ∧ (if x = true then q.1 ∈ stepL A [p.1] e else q.1 = p.1) ∧ (if y = true then q.2 ∈ stepL B [p.2] e else q.2 = p.2) := by
  unfold leadsP
  cases x <;> cases y <;> simp [mem_crossP]
theorem leadsP_bd {a b : Mach} (ha : mayB a = true) (hb : mayB b = true) {p q : Int × Int} {e : Int} {x y : Bool} (hp : (0 ≤ p.1 ∧ p.1 < a.st) ∧ (0 ≤ p.2 ∧ p.2 < b.st)) (h : q ∈ leadsP a.arrows b.arrows p e x y) : (0 ≤ q.1 ∧ q.1 < a.st) ∧ (0 ≤ q.2 ∧ q.2 < b.st) := by
  obtain ⟨-, h1, h2⟩ := (mem_leadsP _ _ _ _ _ _ _).1 h
  refine ⟨?_, ?_⟩
  · split at h1
    · obtain ⟨c, hc, -, -, ec⟩ := (mem_stepL _ _ _ _).1 h1
      have := may_arrs ha c hc
      rw [← ec]
      exact ⟨this.2.2.1, this.2.2.2.1⟩
    · rw [h1]; exact hp.1
  · split at h2
    · obtain ⟨c, hc, -, -, ec⟩ := (mem_stepL _ _ _ _).1 h2
      have := may_arrs hb c hc
      rw [← ec]
      exact ⟨this.2.2.1, this.2.2.2.1⟩
    · rw [h2]; exact hp.2

/-- One pair more that is led to. -/
theorem binv_add {a b : Mach} (ha : mayB a = true) (hb : mayB b = true) {ofA ofB : List Int} {s : BS} {D : Nat → Int → (Int × Int) → Prop} (h : BInv a b ofA ofB s D) {k : Nat} {p q : Int × Int} {e : Int} (hp : s.ps[k]? = some p) (h0 : 0 ≤ e) (h1 : e < a.ev) (hq : q ∈ leadsP a.arrows b.arrows p e (hasB ofA e) (hasB ofB e)) (hD : ∀ i e q, D i e q → i < s.ps.length) :
    BInv a b ofA ofB (bAdd k e s q) (fun i e' q' => D i e' q' ∨ (i = k ∧ e' = e ∧ q' = q)) := by
  have hk := (List.getElem?_eq_some_iff.1 hp).1
  have hE : ∃ t, (bAdd k e s q).ps = s.ps ++ t ∧ q ∈ (bAdd k e s q).ps ∧ (bAdd k e s q).ps.Nodup ∧ (∀ r ∈ t, r = q) ∧ findP (bAdd k e s q).ps q.1 q.2 = findP s.ps q.1 q.2 := by
    unfold bAdd
    by_cases hn : findP s.ps q.1 q.2 = s.ps.length
    · have hm := findP_new.1 hn
      dsimp only
      rw [if_pos hn]
      have hnd : (s.ps ++ [q]).Nodup := by
        rw [List.nodup_append]
        exact ⟨h.nd, by simp, fun x hx y hy e => by simp at hy; subst hy; subst e; exact hm hx⟩
      refine ⟨[q], rfl, by simp, hnd, by simp, ?_⟩
      rw [hn]
      exact findP_at hnd (by simp)
    · have hm : q ∈ s.ps := Classical.byContradiction fun hc => hn (findP_new.2 hc)
      dsimp only
      rw [if_neg hn]
      exact ⟨[], by simp, hm, h.nd, by simp, rfl⟩
  obtain ⟨t, ht, hqm, hnd, htq, hf⟩ := hE
  have har : (bAdd k e s q).ar = s.ar ++ [⟨(k : Int), e, (findP s.ps q.1 q.2 : Nat)⟩] := rfl
  have hget : ∀ {i : Nat} {p' : Int × Int}, s.ps[i]? = some p' → (bAdd k e s q).ps[i]? = some p' := fun {i p'} hi => by
    rw [ht, List.getElem?_append_left (List.getElem?_eq_some_iff.1 hi).1]; exact hi
  have hback : ∀ {i : Nat} {p' : Int × Int}, i < s.ps.length → (bAdd k e s q).ps[i]? = some p' → s.ps[i]? = some p' := fun {i p'} hi hp' => by
    rw [ht, List.getElem?_append_left hi] at hp'; exact hp'
  refine ⟨hnd, ?_, ?_, ?_, ?_⟩
  · obtain ⟨u, hu⟩ := h.pre
    exact ⟨u ++ t, by rw [ht, hu, List.append_assoc]⟩
  · intro x hx
    rw [har] at hx
    rcases List.mem_append.1 hx with hx | hx
    · obtain ⟨i, p', q', e', hd, hp', h0', h1', hq', hm', rfl⟩ := h.fwd x hx
      exact ⟨i, p', q', e', .inl hd, hget hp', h0', h1', hq', by rw [ht]; simp [hm'], by rw [ht, findP_app t hm']⟩
    · have hx : x = ⟨(k : Int), e, (findP s.ps q.1 q.2 : Nat)⟩ := by simpa using hx
      exact ⟨k, p, q, e, .inr ⟨rfl, rfl, rfl⟩, hget hp, h0, h1, hq, hqm, by rw [hx, hf]⟩
  · rintro i p' q' e' (hd | ⟨rfl, rfl, rfl⟩) hp' h0' h1' hq'
    · obtain ⟨k1, k2⟩ := h.bwd i p' q' e' hd (hback (hD _ _ _ hd) hp') h0' h1' hq'
      exact ⟨by rw [ht]; simp [k1], by rw [har, ht, findP_app t k1]; simp [k2]⟩
    · exact ⟨hqm, by rw [har, hf]; simp⟩
  · intro r hr
    rw [ht] at hr
    rcases List.mem_append.1 hr with hr | hr
    · exact h.cr r hr
    · rw [htq r hr]
      exact leadsP_bd ha hb (h.cr p (List.mem_of_getElem? hp)) hq

theorem binv_fold {a b : Mach} (ha : mayB a = true) (hb : mayB b = true) {ofA ofB : List Int} {k : Nat} {p : Int × Int} {e : Int} (h0 : 0 ≤ e) (h1 : e < a.ev) : ∀ (L : List (Int × Int)) {s : BS} {D : Nat → Int → (Int × Int) → Prop}, BInv a b ofA ofB s D → s.ps[k]? = some p → (∀ q ∈ L, q ∈ leadsP a.arrows b.arrows p e (hasB ofA e) (hasB ofB e)) → (∀ i e q, D i e q → i < s.ps.length) →
    BInv a b ofA ofB (L.foldl (bAdd k e) s) (fun i e' q' => D i e' q' ∨ (i = k ∧ e' = e ∧ q' ∈ L))
  | [], s, D, h, _, _, _ => binv_congr h (fun i p q e _ _ _ _ => by simp)
  | q :: r, s, D, h, hp, hL, hD => by
    have hk := (List.getElem?_eq_some_iff.1 hp).1
    obtain ⟨t, ht, -⟩ := bAdd_ps k e s q
    have hp' : (bAdd k e s q).ps[k]? = some p := by rw [ht, List.getElem?_append_left hk]; exact hp
    have hl : s.ps.length ≤ (bAdd k e s q).ps.length := by rw [ht, List.length_append]; omega
    have h2 := binv_fold ha hb h0 h1 r (binv_add ha hb h hp h0 h1 (hL q (by simp)) hD) hp' (fun q' hq' => hL q' (by simp [hq'])) (fun i e q hd => by
      rcases hd with hd | ⟨rfl, -, -⟩
      · exact Nat.lt_of_lt_of_le (hD _ _ _ hd) hl
      · omega)
    rw [List.foldl_cons]
    refine binv_congr h2 (fun i p' q' e' _ _ _ _ => ?_)
    rw [List.mem_cons]
    constructor
    · rintro ((h | ⟨h1, h2, h3⟩) | ⟨h1, h2, h3⟩)
      · exact .inl h
      · exact .inr ⟨h1, h2, .inl h3⟩
      · exact .inr ⟨h1, h2, .inr h3⟩
    · rintro (h | ⟨h1, h2, h3 | h3⟩)
      · exact .inl (.inl h)
      · exact .inl (.inr ⟨h1, h2, h3⟩)
      · exact .inr ⟨h1, h2, h3⟩
theorem bEv_ps (a b : Mach) (ofA ofB : List Int) (k : Nat) (p : Int × Int) (s : BS) (e : Int) : ∃ t, (bEv a b ofA ofB k p s e).ps = s.ps ++ t := by
  obtain ⟨t, h, -⟩ := bFold_ps k e (leadsP a.arrows b.arrows p e (hasB ofA e) (hasB ofB e)) s
  exact ⟨t, h⟩
theorem bEvs_ps (a b : Mach) (ofA ofB : List Int) (k : Nat) (p : Int × Int) (s : BS) : ∀ n, ∃ t, (bEvs a b ofA ofB k p s n).ps = s.ps ++ t
  | 0 => ⟨[], by simp [bEvs]⟩
  | n + 1 => by
    obtain ⟨t, h⟩ := bEvs_ps a b ofA ofB k p s n
    obtain ⟨u, h'⟩ := bEv_ps a b ofA ofB k p (bEvs a b ofA ofB k p s n) (n : Int)
    exact ⟨t ++ u, by rw [bEvs_succ, h', h, List.append_assoc]⟩
theorem binv_ev {a b : Mach} (ha : mayB a = true) (hb : mayB b = true) {ofA ofB : List Int} {s : BS} {D : Nat → Int → (Int × Int) → Prop} (h : BInv a b ofA ofB s D) {k : Nat} {p : Int × Int} {e : Int} (hp : s.ps[k]? = some p) (h0 : 0 ≤ e) (h1 : e < a.ev) (hD : ∀ i e q, D i e q → i < s.ps.length) :
    BInv a b ofA ofB (bEv a b ofA ofB k p s e) (fun i e' q' => D i e' q' ∨ (i = k ∧ e' = e)) := by
  have hk := (List.getElem?_eq_some_iff.1 hp).1
  have h2 := binv_fold ha hb h0 h1 (leadsP a.arrows b.arrows p e (hasB ofA e) (hasB ofB e)) h hp (fun q hq => hq) hD
  refine binv_congr (s := bEv a b ofA ofB k p s e) h2 (fun i p' q' e' hp' _ _ hq' => ?_)
  constructor
  · rintro (h | ⟨h1, h2, -⟩)
    · exact .inl h
    · exact .inr ⟨h1, h2⟩
  · rintro (h | ⟨rfl, rfl⟩)
    · exact .inl h
    · obtain ⟨t, ht⟩ := bEv_ps a b ofA ofB i p s e'
      rw [ht, List.getElem?_append_left hk, hp] at hp'
      cases hp'
      exact .inr ⟨rfl, rfl, hq'⟩
theorem binv_evs {a b : Mach} (ha : mayB a = true) (hb : mayB b = true) {ofA ofB : List Int} {s : BS} {D : Nat → Int → (Int × Int) → Prop} (h : BInv a b ofA ofB s D) {k : Nat} {p : Int × Int} (hp : s.ps[k]? = some p) (hD : ∀ i e q, D i e q → i < s.ps.length) : ∀ n : Nat, (n : Int) ≤ a.ev →
    BInv a b ofA ofB (bEvs a b ofA ofB k p s n) (fun i e' q' => D i e' q' ∨ (i = k ∧ e' < n))
  | 0, _ => binv_congr (s := s) h (fun i p q e _ h0 _ _ => by
      constructor
      · exact .inl
      · rintro (h | ⟨-, h⟩)
        · exact h
        · omega)
  | n + 1, hn => by
    have hk := (List.getElem?_eq_some_iff.1 hp).1
    obtain ⟨t, ht⟩ := bEvs_ps a b ofA ofB k p s n
    have hp' : (bEvs a b ofA ofB k p s n).ps[k]? = some p := by rw [ht, List.getElem?_append_left hk]; exact hp
    have hl : s.ps.length ≤ (bEvs a b ofA ofB k p s n).ps.length := by rw [ht, List.length_append]; omega
    rw [bEvs_succ]
    refine binv_congr (binv_ev ha hb (binv_evs ha hb h hp hD n (by omega)) hp' (e := (n : Int)) (by omega) (by omega) (fun i e q hd => by
      rcases hd with hd | ⟨rfl, -⟩
      · exact Nat.lt_of_lt_of_le (hD _ _ _ hd) hl
      · omega)) (fun i p' q' e' _ _ _ _ => ?_)
    constructor
    · rintro ((h | ⟨h1, h2⟩) | ⟨h1, h2⟩)
      · exact .inl h
      · exact .inr ⟨h1, by omega⟩
      · exact .inr ⟨h1, by omega⟩
    · rintro (h | ⟨h1, h2⟩)
      · exact .inl (.inl h)
      · by_cases h3 : e' = n
        · exact .inr ⟨h1, h3⟩
        · exact .inl (.inr ⟨h1, by omega⟩)
theorem binv_pair {a b : Mach} (ha : mayB a = true) (hb : mayB b = true) {ofA ofB : List Int} {s : BS} {k : Nat} (h : BInv a b ofA ofB s (fun i _ _ => i < k)) (hk : k < s.ps.length) :
    BInv a b ofA ofB (bPair a b ofA ofB s k) (fun i _ _ => i < k + 1) := by
  have hz := mayB_size ha
  unfold sizeOk at hz
  have hp : s.ps[k]? = some s.ps[k] := List.getElem?_eq_getElem hk
  unfold bPair
  rw [hp, Option.getD_some]
  refine binv_congr (binv_evs ha hb h hp (fun i _ _ hi => by omega) a.ev.toNat (by omega)) (fun i p q e _ h0 h1 _ => ?_)
  constructor
  · rintro (h | ⟨h, -⟩) <;> omega
  · intro h
    by_cases h2 : i = k
    · exact .inr ⟨h2, by omega⟩
    · exact .inl (by omega)
/-- What is known of what has been found at last. -/
theorem binv_go {a b : Mach} (ha : mayB a = true) (hb : mayB b = true) {ofA ofB : List Int} : ∀ (f k : Nat) (s s' : BS), BInv a b ofA ofB s (fun i _ _ => i < k) → k ≤ s.ps.length → 300 ≤ f + k → (k = 0 ∨ s.ps.length ≤ 256) → s.ar.length ≤ 4096 → bGo a b ofA ofB f k s = some s' →
    BInv a b ofA ofB s' (fun i _ _ => i < s'.ps.length) ∧ s'.ps.length ≤ 256 ∧ s'.ar.length ≤ 4096
  | 0, k, s, s', h, hk, hf, hs, hr, e => by omega
  | f + 1, k, s, s', h, hk, hf, hs, hr, e => by
    rw [bGo] at e
    by_cases hlt : k < s.ps.length
    · rw [if_pos hlt] at e
      by_cases hB : bBig (bPair a b ofA ofB s k) = true
      · rw [if_pos hB] at e; cases e
      · rw [if_neg hB] at e
        have hn : (bPair a b ofA ofB s k).ps.length ≤ 256 ∧ (bPair a b ofA ofB s k).ar.length ≤ 4096 := by
          unfold bBig at hB
          simp only [Bool.or_eq_true, decide_eq_true_eq, not_or] at hB
          omega
        have hl : s.ps.length ≤ (bPair a b ofA ofB s k).ps.length := by
          obtain ⟨t, ht⟩ := bEvs_ps a b ofA ofB k (s.ps[k]?.getD (0, 0)) s a.ev.toNat
          unfold bPair
          rw [ht, List.length_append]; omega
        exact binv_go ha hb f (k + 1) _ s' (binv_pair ha hb h hlt) (by omega) (by omega) (.inr hn.1) hn.2 e
    · rw [if_neg hlt] at e
      cases e
      have : k = s.ps.length := by omega
      subst this
      refine ⟨h, ?_, hr⟩
      rcases hs with hs | hs <;> omega
theorem beside_inv {a b : Mach} (ha : mayB a = true) (hb : mayB b = true) {ofA ofB : List Int} {s : BS} (h : besideS a b ofA ofB = some s) : BInv a b ofA ofB s (fun i _ _ => i < s.ps.length) ∧ s.ps.length ≤ 256 ∧ s.ar.length ≤ 4096 := by
  have sa := may_starts ha
  have sb := may_starts hb
  refine binv_go ha hb 300 0 _ s ⟨nodup_crossP (inc_nodup sa.1) (inc_nodup sb.1), ⟨[], by simp⟩, fun x hx => by simp at hx, fun i p q e hd => by omega, fun p hp => ?_⟩ (by omega) (by omega) (.inl rfl) (by simp) h
  obtain ⟨h1, h2⟩ := (mem_crossP _ _ _).1 hp
  exact ⟨sa.2 _ h1, sb.2 _ h2⟩

/-! Arrows in order. -/
theorem arr_ext {x y : Arr} (h : arrEq x y) : x = y := by
  cases x; cases y; obtain ⟨h1, h2, h3⟩ := h; dsimp only at h1 h2 h3; subst h1; subst h2; subst h3; rfl
theorem mem_insA (z x : Arr) : ∀ L, z ∈ insA x L ↔ z = x ∨ z ∈ L
  | [] => by simp [insA]
  | y :: r => by
    unfold insA
    split
    · rw [List.mem_cons, mem_insA z x r, List.mem_cons]
      constructor
      · rintro (h | h | h)
        · exact .inr (.inl h)
        · exact .inl h
        · exact .inr (.inr h)
      · rintro (h | h | h)
        · exact .inr (.inl h)
        · exact .inl h
        · exact .inr (.inr h)
    · split
      · rename_i h
        have := arr_ext h
        subst this
        simp
      · simp
theorem inc_insA (x : Arr) : ∀ {L : List Arr}, IncA L → IncA (insA x L)
  | [], _ => by simp [insA, IncA]
  | y :: r, h => by
    obtain ⟨h1, h2⟩ := List.pairwise_cons.1 h
    unfold insA
    split
    · rename_i hy
      refine List.pairwise_cons.2 ⟨fun z hz => ?_, inc_insA x h2⟩
      rcases (mem_insA z x r).1 hz with rfl | hz
      · exact hy
      · exact h1 z hz
    · rename_i hy
      split
      · exact h
      · rename_i he
        have hx : aheadB x y = true := by
          rw [aheadB_iff] at hy ⊢
          unfold arrEq at he
          omega
        refine List.pairwise_cons.2 ⟨fun z hz => ?_, h⟩
        rcases List.mem_cons.1 hz with rfl | hz
        · exact hx
        · exact aheadB_trans hx (h1 z hz)
theorem srtA_both : ∀ (l o : List Arr), IncA o → IncA (l.foldl (fun out x => insA x out) o) ∧ ∀ z, z ∈ l.foldl (fun out x => insA x out) o ↔ z ∈ o ∨ z ∈ l
  | [], o, h => ⟨h, fun z => by simp⟩
  | x :: r, o, h => by
    obtain ⟨k1, k2⟩ := srtA_both r (insA x o) (inc_insA x h)
    refine ⟨k1, fun z => ?_⟩
    rw [List.foldl_cons, k2 z, mem_insA, List.mem_cons]
    constructor
    · rintro ((h | h) | h)
      · exact .inr (.inl h)
      · exact .inl h
      · exact .inr (.inr h)
    · rintro (h | h | h)
      · exact .inl (.inr h)
      · exact .inl (.inl h)
      · exact .inr h
theorem inc_srtA (l : List Arr) : IncA (srtA l) := (srtA_both l [] (by simp [IncA])).1
theorem mem_srtA (l : List Arr) (z : Arr) : z ∈ srtA l ↔ z ∈ l := by rw [show (z ∈ srtA l ↔ _) from (srtA_both l [] (by simp [IncA])).2 z]; simp

/-! The machine of both may be. -/
theorem mem_rngI (n : Nat) (x : Int) : x ∈ rngI n ↔ 0 ≤ x ∧ x < n := by
  unfold rngI
  rw [List.mem_map]
  constructor
  · rintro ⟨k, hk, rfl⟩
    have := List.mem_range.1 hk
    omega
  · rintro ⟨h1, h2⟩
    exact ⟨x.toNat, List.mem_range.2 (by omega), by omega⟩
theorem inc_rngI : ∀ n, Inc (rngI n)
  | 0 => by simp [rngI, Inc]
  | n + 1 => by
    rw [rngI_succ]
    refine List.pairwise_append.2 ⟨inc_rngI n, by simp, fun x hx y hy => ?_⟩
    have h1 := (mem_rngI n x).1 hx
    have h2 : y = n := by simpa using hy
    omega
theorem mem_endsP (a b : Mach) (L : List (Int × Int)) (x : Int) : x ∈ endsP a b L L.length ↔ ∃ (i : Nat) (p : Int × Int), L[i]? = some p ∧ x = i ∧ p.1 ∈ a.ends ∧ p.2 ∈ b.ends := by
  unfold endsP
  rw [List.mem_filter, mem_rngI, Bool.and_eq_true, hasB_iff, hasB_iff]
  constructor
  · rintro ⟨⟨h1, h2⟩, h3, h4⟩
    have hl : x.toNat < L.length := by omega
    refine ⟨x.toNat, L[x.toNat], List.getElem?_eq_getElem hl, by omega, ?_, ?_⟩
    · rwa [List.getElem?_eq_getElem hl, Option.getD_some] at h3
    · rwa [List.getElem?_eq_getElem hl, Option.getD_some] at h4
  · rintro ⟨i, p, hp, rfl, h3, h4⟩
    have hl := (List.getElem?_eq_some_iff.1 hp).1
    rw [Int.toNat_natCast, hp, Option.getD_some]
    exact ⟨⟨by omega, by omega⟩, h3, h4⟩
theorem may_beside {a b : Mach} (ha : mayB a = true) (hb : mayB b = true) {ofA ofB : List Int} {s : BS} (h : besideS a b ofA ofB = some s) : mayB (besideM a b s) = true := by
  obtain ⟨hI, h1, h2⟩ := beside_inv ha hb h
  have hz := mayB_size ha
  unfold sizeOk at hz
  have hst : 1 ≤ (besideM a b s).st ∧ (besideM a b s).st ≤ 256 ∧ (s.ps.length : Int) ≤ (besideM a b s).st := by
    unfold besideM; dsimp only; split <;> omega
  rw [mayB_go ⟨hst.1, hst.2.1, hz.2.2.1, hz.2.2.2.1, Nat.le_trans (srtA_len _) h2⟩ ((rowB_iff _ (by omega) _).2 ⟨inc_rngI _, fun x hx => ?_⟩) ((rowB_iff _ (by omega) _).2 ⟨(inc_rngI _).filter _, fun x hx => ?_⟩)]
  · rw [arrsFrom_iff]
    refine ⟨fun x hx => ?_, inc_srtA _, fun _ _ => rfl⟩
    obtain ⟨i, p, q, e, -, hp, h0, h1, hq, hm, rfl⟩ := hI.fwd x ((mem_srtA _ _).1 hx)
    have hi := (List.getElem?_eq_some_iff.1 hp).1
    have hj := findP_lt hm
    exact ⟨by dsimp only; omega, by dsimp only; omega, by dsimp only; omega, by dsimp only; omega, h0, h1⟩
  · have h3 := (mem_rngI _ x).1 hx
    obtain ⟨t, ht⟩ := hI.pre
    have : (crossP a.starts b.starts).length ≤ s.ps.length := by rw [ht, List.length_append]; omega
    omega
  · have h3 := (mem_rngI _ x).1 (List.mem_filter.1 hx).1
    omega

/-! Words. -/
structure Sim (s : BS) (ss sa sb : List Int) : Prop where
  mem : ∀ x, x ∈ ss ↔ ∃ (i : Nat) (p : Int × Int), s.ps[i]? = some p ∧ x = i ∧ p.1 ∈ sa ∧ p.2 ∈ sb
  all : ∀ x ∈ sa, ∀ y ∈ sb, (x, y) ∈ s.ps
theorem step_one {ars : List Arr} {l : List Int} {x y e : Int} (hx : x ∈ l) (h : y ∈ stepL ars [x] e) : y ∈ stepL ars l e := by
  obtain ⟨c, hc, h1, h2, h3⟩ := (mem_stepL _ _ _ _).1 h
  have : c.f = x := by simpa using h2
  exact (mem_stepL _ _ _ _).2 ⟨c, hc, h1, by rw [this]; exact hx, h3⟩
theorem step_of {ars : List Arr} {l : List Int} {y e : Int} (h : y ∈ stepL ars l e) : ∃ x ∈ l, y ∈ stepL ars [x] e := by
  obtain ⟨c, hc, h1, h2, h3⟩ := (mem_stepL _ _ _ _).1 h
  exact ⟨c.f, h2, (mem_stepL _ _ _ _).2 ⟨c, hc, h1, by simp, h3⟩⟩
theorem half_of {ars : List Arr} {l : List Int} {y e : Int} {x : Bool} (h : y ∈ (if x = true then stepL ars l e else l)) : ∃ z ∈ l, (if x = true then y ∈ stepL ars [z] e else y = z) := by
  cases x with
  | true => exact step_of h
  | false => exact ⟨y, h, rfl⟩
theorem half_one {ars : List Arr} {l : List Int} {y z e : Int} {x : Bool} (hz : z ∈ l) (h : if x = true then y ∈ stepL ars [z] e else y = z) : y ∈ (if x = true then stepL ars l e else l) := by
  cases x with
  | true => exact step_one hz h
  | false => have : y = z := h; subst this; exact hz
theorem sim_step {a b : Mach} {ofA ofB : List Int} {s : BS} (hI : BInv a b ofA ofB s (fun i _ _ => i < s.ps.length)) {ss sa sb : List Int} (h : Sim s ss sa sb) {e : Int} (h0 : 0 ≤ e) (h1 : e < a.ev) (ho : hasB ofA e = true ∨ hasB ofB e = true) :
    Sim s (stepL (besideM a b s).arrows ss e) (if hasB ofA e = true then stepL a.arrows sa e else sa) (if hasB ofB e = true then stepL b.arrows sb e else sb) := by
  have hK : ∀ x y, x ∈ (if hasB ofA e = true then stepL a.arrows sa e else sa) → y ∈ (if hasB ofB e = true then stepL b.arrows sb e else sb) → ∃ (j : Nat) (p : Int × Int), s.ps[j]? = some p ∧ p.1 ∈ sa ∧ p.2 ∈ sb ∧ (x, y) ∈ leadsP a.arrows b.arrows p e (hasB ofA e) (hasB ofB e) := by
    intro x y hx hy
    obtain ⟨u, hu, hu'⟩ := half_of hx
    obtain ⟨v, hv, hv'⟩ := half_of hy
    obtain ⟨j, hj⟩ := List.getElem?_of_mem (h.all u hu v hv)
    exact ⟨j, (u, v), hj, hu, hv, (mem_leadsP _ _ _ _ _ _ _).2 ⟨ho, hu', hv'⟩⟩
  refine ⟨fun x => ?_, fun x hx y hy => ?_⟩
  · rw [mem_stepL]
    show (∃ c ∈ srtA s.ar, _) ↔ _
    constructor
    · rintro ⟨c, hc, k1, k2, k3⟩
      obtain ⟨i, p, q, e', -, hp, -, -, hq, hm, rfl⟩ := hI.fwd c ((mem_srtA _ _).1 hc)
      dsimp only at k1 k2 k3
      subst k1
      obtain ⟨i', p', hp', hi, hA, hB⟩ := (h.mem _).1 k2
      have : i = i' := by omega
      subst this
      rw [hp] at hp'
      cases hp'
      obtain ⟨-, q1, q2⟩ := (mem_leadsP _ _ _ _ _ _ _).1 hq
      exact ⟨_, q, findP_nth hm, k3.symm, half_one hA q1, half_one hB q2⟩
    · rintro ⟨i, q, hq, rfl, hA, hB⟩
      obtain ⟨j, p, hp, pA, pB, hl⟩ := hK _ _ hA hB
      obtain ⟨k1, k2⟩ := hI.bwd j p q e (List.getElem?_eq_some_iff.1 hp).1 hp h0 h1 hl
      exact ⟨_, (mem_srtA _ _).2 k2, rfl, (h.mem _).2 ⟨j, p, hp, rfl, pA, pB⟩, by dsimp only; rw [findP_at hI.nd hq]⟩
  · obtain ⟨j, p, hp, pA, pB, hl⟩ := hK _ _ hx hy
    exact (hI.bwd j p (x, y) e (List.getElem?_eq_some_iff.1 hp).1 hp h0 h1 hl).1
theorem sim_none {a b : Mach} {ofA ofB : List Int} {s : BS} (hI : BInv a b ofA ofB s (fun i _ _ => i < s.ps.length)) (ss : List Int) {e : Int} (ho : ¬ (hasB ofA e = true ∨ hasB ofB e = true)) : stepL (besideM a b s).arrows ss e = [] := by
  refine List.eq_nil_iff_forall_not_mem.2 fun x hx => ?_
  obtain ⟨c, hc, k1, -, -⟩ := (mem_stepL _ _ _ _).1 hx
  obtain ⟨i, p, q, e', -, hp, -, -, hq, hm, rfl⟩ := hI.fwd c ((mem_srtA _ _).1 hc)
  dsimp only at k1
  subst k1
  exact ho ((mem_leadsP _ _ _ _ _ _ _).1 hq).1
/-- What of a word is of some events. -/
abbrev ownW (l word : List Int) : List Int := word.filter fun e => hasB l e
theorem afterL_own (ars : List Arr) (l ss : List Int) (e : Int) (r : List Int) : afterL ars ss (ownW l (e :: r)) = afterL ars (if hasB l e = true then stepL ars ss e else ss) (ownW l r) := by
  cases h : hasB l e
  · rw [if_neg (by simp)]
    simp [ownW, h]
  · rw [if_pos rfl]
    simp [ownW, h, afterL]
theorem sim_after {a b : Mach} {ofA ofB : List Int} {s : BS} (hI : BInv a b ofA ofB s (fun i _ _ => i < s.ps.length)) : ∀ (word : List Int) {ss sa sb : List Int}, Sim s ss sa sb → (∀ e ∈ word, 0 ≤ e ∧ e < a.ev) → (∀ e ∈ word, hasB ofA e = true ∨ hasB ofB e = true) →
    Sim s (afterL (besideM a b s).arrows ss word) (afterL a.arrows sa (ownW ofA word)) (afterL b.arrows sb (ownW ofB word))
  | [], _, _, _, h, _, _ => h
  | e :: r, ss, sa, sb, h, hw, ho => by
    rw [afterL_own, afterL_own]
    exact sim_after hI r (sim_step hI h (hw e (by simp)).1 (hw e (by simp)).2 (ho e (by simp))) (fun e' he' => hw e' (by simp [he'])) (fun e' he' => ho e' (by simp [he']))
theorem sim_stop {a b : Mach} {ofA ofB : List Int} {s : BS} (hI : BInv a b ofA ofB s (fun i _ _ => i < s.ps.length)) : ∀ (word : List Int) (ss : List Int), (∃ e ∈ word, ¬ (hasB ofA e = true ∨ hasB ofB e = true)) → afterL (besideM a b s).arrows ss word = []
  | [], _, h => by obtain ⟨e, he, -⟩ := h; simp at he
  | e :: r, ss, h => by
    show afterL _ (stepL _ ss e) r = []
    by_cases ho : hasB ofA e = true ∨ hasB ofB e = true
    · obtain ⟨e', he', hn⟩ := h
      rcases List.mem_cons.1 he' with rfl | he'
      · exact absurd ho hn
      · exact sim_stop hI r _ ⟨e', he', hn⟩
    · rw [sim_none hI ss ho, afterL_nil]
/-- D3. -/
theorem beside_accepts {a b : Mach} (ha : mayB a = true) (hb : mayB b = true) {ofA ofB : List Int} {s : BS} (h : besideS a b ofA ofB = some s) (word : List Int) (hw : ∀ e ∈ word, 0 ≤ e ∧ e < a.ev) :
    acceptsB (besideM a b s) word = (word.all (fun e => hasB ofA e || hasB ofB e) && (acceptsB a (ownW ofA word) && acceptsB b (ownW ofB word))) := by
  obtain ⟨hI, -, -⟩ := beside_inv ha hb h
  rw [Bool.eq_iff_iff, accepts_iff, Bool.and_eq_true, Bool.and_eq_true, accepts_iff, accepts_iff, List.all_eq_true]
  by_cases ho : ∀ e ∈ word, hasB ofA e = true ∨ hasB ofB e = true
  · have h0 : Sim s (besideM a b s).starts a.starts b.starts := by
      obtain ⟨t, ht⟩ := hI.pre
      refine ⟨fun x => ?_, fun x hx y hy => by rw [ht]; exact List.mem_append_left _ ((mem_crossP _ _ _).2 ⟨hx, hy⟩)⟩
      show x ∈ rngI _ ↔ _
      rw [mem_rngI]
      constructor
      · rintro ⟨k1, k2⟩
        have hl : x.toNat < (crossP a.starts b.starts).length := by omega
        have hg : (crossP a.starts b.starts)[x.toNat]? = some (crossP a.starts b.starts)[x.toNat] := List.getElem?_eq_getElem hl
        obtain ⟨m1, m2⟩ := (mem_crossP _ _ _).1 (List.mem_of_getElem? hg)
        exact ⟨x.toNat, _, by rw [ht, List.getElem?_append_left hl]; exact hg, by omega, m1, m2⟩
      · rintro ⟨i, p, hp, rfl, hA, hB⟩
        have hm : p ∈ crossP a.starts b.starts := (mem_crossP _ _ _).2 ⟨hA, hB⟩
        have h1 := findP_at hI.nd hp
        rw [ht, findP_app t hm] at h1
        have := findP_lt hm
        omega
    have h1 := sim_after hI word h0 hw ho
    constructor
    · rintro ⟨x, hx, he⟩
      obtain ⟨i, p, hp, rfl, hA, hB⟩ := (h1.mem x).1 hx
      obtain ⟨j, p', hp', hj, eA, eB⟩ := (mem_endsP _ _ _ _).1 he
      have : i = j := by omega
      subst this
      rw [hp] at hp'
      cases hp'
      exact ⟨fun e he => by simpa using ho e he, ⟨_, hA, eA⟩, ⟨_, hB, eB⟩⟩
    · rintro ⟨-, ⟨x, hx, ex⟩, ⟨y, hy, ey⟩⟩
      obtain ⟨i, hi⟩ := List.getElem?_of_mem (h1.all x hx y hy)
      exact ⟨(i : Int), (h1.mem _).2 ⟨i, (x, y), hi, rfl, hx, hy⟩, (mem_endsP _ _ _ _).2 ⟨i, (x, y), hi, rfl, ex, ey⟩⟩
  · have hE : ∃ e ∈ word, ¬ (hasB ofA e = true ∨ hasB ofB e = true) := by
      refine Classical.byContradiction fun hc => ho fun e he => Classical.byContradiction fun hn => hc ⟨e, he, hn⟩
    rw [sim_stop hI word _ hE]
    constructor
    · rintro ⟨x, hx, -⟩; simp at hx
    · rintro ⟨h1, -⟩
      exact absurd (fun e he => by simpa using h1 e he) ho

end Go.Proofs.YtcbdjjkebpncmaaDoor
namespace Go.Proofs.YtcbdjjkebpncmaaDoor
open Go.RowKit
set_option linter.unusedVariables false

/-- Where the arrows of a state lead to at an event, in the arrows' order. -/
def tosL (ars : List Arr) (s e : Int) : List Int := (ars.filter fun a => a.f == s && a.e == e).map (·.t)
theorem inc_tosL {ars : List Arr} (h : IncA ars) (s e : Int) : Inc (tosL ars s e) := by
  unfold tosL
  rw [Inc, List.pairwise_map]
  refine (h.filter _).imp_of_mem (fun {x y} hx hy hxy => ?_)
  have h1 := (List.mem_filter.1 hx).2
  have h2 := (List.mem_filter.1 hy).2
  simp at h1 h2
  rw [aheadB_iff] at hxy
  omega
theorem tosL_step {m : Mach} (hm : mayB m = true) (s e : Int) : tosL m.arrows s e = stepL m.arrows [s] e := by
  refine inc_ext (inc_tosL (may_inc hm) s e) (inc_srt _) (fun x => ?_)
  refine Iff.trans ?_ (mem_stepL m.arrows [s] e x).symm
  unfold tosL
  rw [List.mem_map]
  constructor
  · rintro ⟨a, ha, rfl⟩
    obtain ⟨h1, h2⟩ := List.mem_filter.1 ha
    simp at h2
    exact ⟨a, h1, h2.2, by simp [h2.1], rfl⟩
  · rintro ⟨a, ha, h1, h2, h3⟩
    exact ⟨a, List.mem_filter.2 ⟨ha, by simp at h2; simp [h1, h2]⟩, h3⟩
/-- What stands in the table at a state and an event. -/
def toL (ars : List Arr) (of : List Int) (s e : Int) : List Int := if hasB of e = true then tosL ars s e else [s]
theorem leadsP_to {a b : Mach} (ha : mayB a = true) (hb : mayB b = true) (ofA ofB : List Int) (p : Int × Int) (e : Int) (h : (hasB ofA e || hasB ofB e) = true) : leadsP a.arrows b.arrows p e (hasB ofA e) (hasB ofB e) = crossP (toL a.arrows ofA p.1 e) (toL b.arrows ofB p.2 e) := by
  unfold leadsP toL
  rw [if_pos h, tosL_step ha, tosL_step hb]
theorem toL_inc {m : Mach} (hm : mayB m = true) (of : List Int) (s e : Int) : Inc (toL m.arrows of s e) := by
  unfold toL
  split
  · exact inc_tosL (may_inc hm) s e
  · simp [Inc]
theorem toL_bd {m : Mach} (hm : mayB m = true) (of : List Int) {s : Int} (e : Int) (hs : 0 ≤ s ∧ s < m.st) : ∀ x ∈ toL m.arrows of s e, 0 ≤ x ∧ x < m.st := by
  intro x hx
  unfold toL at hx
  split at hx
  · unfold tosL at hx
    obtain ⟨a, ha, rfl⟩ := List.mem_map.1 hx
    have := may_arrs hm a (List.mem_filter.1 ha).1
    exact ⟨this.2.2.1, this.2.2.2.1⟩
  · simp at hx; subst hx; exact hs
theorem toL_len {m : Mach} (hm : mayB m = true) (of : List Int) (s e : Int) : (toL m.arrows of s e).length ≤ 4096 := by
  have := mayB_size hm
  unfold sizeOk at this
  unfold toL tosL
  split
  · rw [List.length_map]; exact Nat.le_trans (List.length_filter_le _ _) (by omega)
  · simp

/-- The events of which one takes part. -/
def evL (n : Nat) (ofA ofB : List Int) : List Int := (rngI n).filter fun e => (hasB ofA e || hasB ofB e)
theorem leadsP_none (A B : List Arr) (p : Int × Int) (e : Int) {x y : Bool} (h : (x || y) = false) : leadsP A B p e x y = [] := by
  unfold leadsP; rw [if_neg (by simp [h])]
theorem bEvs_evL (a b : Mach) (ofA ofB : List Int) (i : Nat) (p : Int × Int) (s : BS) : ∀ k, bEvs a b ofA ofB i p s k = (evL k ofA ofB).foldl (bEv a b ofA ofB i p) s
  | 0 => by simp [bEvs, evL, rngI]
  | k + 1 => by
    rw [bEvs_succ, bEvs_evL a b ofA ofB i p s k]
    unfold evL
    rw [rngI_succ, List.filter_append, List.foldl_append]
    cases h : (hasB ofA (k : Int) || hasB ofB (k : Int)) with
    | true => simp [h]
    | false =>
      unfold bEv
      rw [leadsP_none _ _ _ _ h]
      simp [h]
theorem evL_eq {n : Int} {ofA ofB l : List Int} (h0 : 0 ≤ n) (hA : ∀ x ∈ ofA, 0 ≤ x ∧ x < n) (hB : ∀ x ∈ ofB, 0 ≤ x ∧ x < n) (hl : Inc l) (hm : ∀ x, x ∈ l ↔ x ∈ ofA ∨ x ∈ ofB) : l = evL n.toNat ofA ofB := by
  refine inc_ext hl ((inc_rngI _).filter _) (fun x => ?_)
  unfold evL
  rw [List.mem_filter, mem_rngI, hm, Bool.or_eq_true, hasB_iff, hasB_iff]
  constructor
  · rintro (h | h)
    · have := hA x h; exact ⟨by omega, .inl h⟩
    · have := hB x h; exact ⟨by omega, .inr h⟩
  · exact fun h => h.2
theorem evL_bd {n : Nat} {ofA ofB : List Int} : ∀ x ∈ evL n ofA ofB, (0 ≤ x ∧ x < n) ∧ (hasB ofA x || hasB ofB x) = true := fun x hx => by
  obtain ⟨h1, h2⟩ := List.mem_filter.1 hx
  exact ⟨(mem_rngI _ _).1 h1, h2⟩
theorem evL_inc (n : Nat) (ofA ofB : List Int) : Inc (evL n ofA ofB) := (inc_rngI _).filter _
theorem evL_len (n : Nat) (ofA ofB : List Int) : (evL n ofA ofB).length ≤ n := Nat.le_trans (List.length_filter_le _ _) (by rw [rngI_len]; exact Nat.le_refl _)

/-! Too many: once, and for ever. -/
theorem bBig_add {i : Nat} {e : Int} {s : BS} {p : Int × Int} (h : bBig s = true) : bBig (bAdd i e s p) = true := by
  obtain ⟨t, h1, -⟩ := bAdd_ps i e s p
  have h2 : (bAdd i e s p).ar.length = s.ar.length + 1 := by simp [bAdd]
  unfold bBig at h ⊢
  rw [h1, h2, List.length_append]
  simp at h ⊢
  omega
theorem bBig_fold {i : Nat} {e : Int} : ∀ (L : List (Int × Int)) {s : BS}, bBig s = true → bBig (L.foldl (bAdd i e) s) = true
  | [], _, h => h
  | p :: r, s, h => bBig_fold r (bBig_add h)
theorem bBig_evs {a b : Mach} {ofA ofB : List Int} {i : Nat} {p : Int × Int} : ∀ (E : List Int) {s : BS}, bBig s = true → bBig (E.foldl (bEv a b ofA ofB i p) s) = true
  | [], _, h => h
  | e :: r, s, h => bBig_evs r (bBig_fold _ h)
theorem bBig_some {s : BS} (h : bBig s = false) : s.ps.length ≤ 256 ∧ s.ar.length ≤ 4096 := by
  unfold bBig at h; simp at h; omega
theorem bBig_mk {s : BS} (h1 : s.ps.length ≤ 256) (h2 : s.ar.length ≤ 4096) : bBig s = false := by
  unfold bBig; simp; omega
theorem besideS_great {a b : Mach} {ofA ofB : List Int} (h : 256 < (crossP a.starts b.starts).length) : besideS a b ofA ofB = none := by
  unfold besideS
  rw [show (300 : Nat) = 299 + 1 from rfl, bGo, if_pos (by dsimp only; omega)]
  rw [if_pos]
  unfold bPair
  rw [bEvs_evL]
  refine bBig_evs _ ?_
  unfold bBig
  simp; omega

/-! The order of arrows. -/
theorem incA_ext : ∀ {a b : List Arr}, IncA a → IncA b → (∀ x, x ∈ a ↔ x ∈ b) → a = b
  | [], [], _, _, _ => rfl
  | [], y :: r, _, _, h => absurd ((h y).2 (by simp)) (by simp)
  | x :: r, [], _, _, h => absurd ((h x).1 (by simp)) (by simp)
  | x :: r, y :: t, ha, hb, h => by
    obtain ⟨a1, a2⟩ := List.pairwise_cons.1 ha
    obtain ⟨b1, b2⟩ := List.pairwise_cons.1 hb
    have irr : ∀ z : Arr, ¬ aheadB z z = true := fun z hz => by rw [aheadB_iff] at hz; omega
    have hxy : x = y := by
      rcases List.mem_cons.1 ((h x).1 (by simp)) with e | hx
      · exact e
      · rcases List.mem_cons.1 ((h y).2 (by simp)) with e | hy
        · exact e.symm
        · exact absurd (aheadB_trans (a1 y hy) (b1 x hx)) (irr x)
    subst hxy
    congr 1
    refine incA_ext a2 b2 (fun z => ?_)
    constructor
    · intro hz
      rcases List.mem_cons.1 ((h z).1 (by simp [hz])) with e | hz'
      · subst e; exact absurd (a1 z hz) (irr z)
      · exact hz'
    · intro hz
      rcases List.mem_cons.1 ((h z).2 (by simp [hz])) with e | hz'
      · subst e; exact absurd (b1 z hz) (irr z)
      · exact hz'
/-- The arrows that are new, sorted, behind those of before. -/
theorem srtA_behind {A N D : List Arr} {i e : Int} (hA : ∀ x ∈ A, x.f < i ∨ (x.f = i ∧ x.e < e)) (hN : ∀ x ∈ N, x.f = i ∧ x.e = e) (hp : D.Perm N) (hs : D.Pairwise fun x y => x.t < y.t) : srtA A ++ D = srtA (A ++ N) := by
  refine incA_ext (List.pairwise_append.2 ⟨inc_srtA A, ?_, fun x hx y hy => ?_⟩) (inc_srtA _) (fun x => ?_)
  · refine hs.imp_of_mem (fun {x y} hx hy h => ?_)
    have h1 := hN x (hp.mem_iff.1 hx)
    have h2 := hN y (hp.mem_iff.1 hy)
    rw [aheadB_iff]; omega
  · have h1 := hA x ((mem_srtA _ _).1 hx)
    have h2 := hN y (hp.mem_iff.1 hy)
    rw [aheadB_iff]; omega
  · rw [List.mem_append, mem_srtA, mem_srtA, List.mem_append, hp.mem_iff]

/-- What holds of pairs and arrows ahead of pair i's event e. -/
structure SI (a b : Mach) (i e : Int) (s : BS) : Prop where
  nd : s.ps.Nodup
  cr : ∀ p ∈ s.ps, (0 ≤ p.1 ∧ p.1 < a.st) ∧ (0 ≤ p.2 ∧ p.2 < b.st)
  lo : ∀ x ∈ s.ar, x.f < i ∨ (x.f = i ∧ x.e < e)
theorem SI.mono {a b : Mach} {i e i' e' : Int} {s : BS} (h : SI a b i e s) (hlt : i < i' ∨ (i = i' ∧ e ≤ e')) : SI a b i' e' s :=
  ⟨h.nd, h.cr, fun x hx => by have := h.lo x hx; omega⟩
theorem bAdd_nd {i : Nat} {e : Int} {s : BS} {p : Int × Int} (h : s.ps.Nodup) : (bAdd i e s p).ps.Nodup := by
  unfold bAdd
  by_cases hn : findP s.ps p.1 p.2 = s.ps.length
  · dsimp only
    rw [if_pos hn, List.nodup_append]
    have hm := findP_new.1 hn
    exact ⟨h, by simp, fun x hx y hy e => by simp at hy; subst hy; subst e; exact hm hx⟩
  · dsimp only
    rw [if_neg hn]; exact h
theorem bAdd_mem {i : Nat} {e : Int} {s : BS} {p q : Int × Int} (h : q ∈ (bAdd i e s p).ps) : q ∈ s.ps ∨ q = p := by
  unfold bAdd at h
  dsimp only at h
  split at h
  · simpa using h
  · exact .inl h
theorem bAdd_at {i : Nat} {e : Int} {s : BS} {p : Int × Int} : (bAdd i e s p).ps[findP s.ps p.1 p.2]? = some p := by
  unfold bAdd
  by_cases hn : findP s.ps p.1 p.2 = s.ps.length
  · dsimp only
    rw [if_pos hn, hn]; simp
  · have hm : p ∈ s.ps := Classical.byContradiction fun hc => hn (findP_new.2 hc)
    dsimp only
    rw [if_neg hn]; exact findP_nth hm
/-- The arrows that a list of pairs brings. -/
def newA (i : Nat) (e : Int) : BS → List (Int × Int) → List Arr
  | _, [] => []
  | s, p :: r => ⟨(i : Int), e, (findP s.ps p.1 p.2 : Nat)⟩ :: newA i e (bAdd i e s p) r
theorem fold_ar (i : Nat) (e : Int) : ∀ (L : List (Int × Int)) (s : BS), (L.foldl (bAdd i e) s).ar = s.ar ++ newA i e s L
  | [], s => by simp [newA]
  | p :: r, s => by
    rw [List.foldl_cons, fold_ar i e r (bAdd i e s p), newA]
    show (s.ar ++ [_]) ++ _ = _
    simp
theorem newA_len (i : Nat) (e : Int) : ∀ (L : List (Int × Int)) (s : BS), (newA i e s L).length = L.length
  | [], _ => rfl
  | p :: r, s => by rw [newA, List.length_cons, newA_len i e r, List.length_cons]
theorem newA_in (i : Nat) (e : Int) : ∀ (L : List (Int × Int)) (s : BS), ∀ x ∈ newA i e s L, x.f = i ∧ x.e = e
  | [], s => by simp [newA]
  | p :: r, s => by
    intro x hx
    rw [newA] at hx
    rcases List.mem_cons.1 hx with rfl | hx
    · exact ⟨rfl, rfl⟩
    · exact newA_in i e r _ x hx
theorem newA_at (i : Nat) (e : Int) : ∀ (L : List (Int × Int)) (s : BS), ∀ x ∈ newA i e s L, ∃ p ∈ L, 0 ≤ x.t ∧ (L.foldl (bAdd i e) s).ps[x.t.toNat]? = some p
  | [], s => by simp [newA]
  | p :: r, s => by
    intro x hx
    rw [newA] at hx
    rcases List.mem_cons.1 hx with rfl | hx
    · refine ⟨p, by simp, by dsimp only; omega, ?_⟩
      rw [List.foldl_cons]
      obtain ⟨t, h1, -⟩ := bFold_ps i e r (bAdd i e s p)
      have h2 := bAdd_at (i := i) (e := e) (s := s) (p := p)
      dsimp only
      rw [Int.toNat_natCast, h1, List.getElem?_append_left (List.getElem?_eq_some_iff.1 h2).1]
      exact h2
    · obtain ⟨q, hq, h1, h2⟩ := newA_at i e r _ x hx
      exact ⟨q, by simp [hq], h1, h2⟩
theorem newA_nd (i : Nat) (e : Int) : ∀ (L : List (Int × Int)) (s : BS), L.Nodup → (newA i e s L).Pairwise (fun x y => x.t ≠ y.t)
  | [], s, _ => by simp [newA]
  | p :: r, s, h => by
    obtain ⟨h1, h2⟩ := List.nodup_cons.1 h
    rw [newA]
    refine List.pairwise_cons.2 ⟨fun y hy he => ?_, newA_nd i e r _ h2⟩
    obtain ⟨q, hq, h3, h4⟩ := newA_at i e r _ y hy
    dsimp only at he
    rw [← he, Int.toNat_natCast] at h4
    obtain ⟨t, h5, -⟩ := bFold_ps i e r (bAdd i e s p)
    have h6 := bAdd_at (i := i) (e := e) (s := s) (p := p)
    rw [h5, List.getElem?_append_left (List.getElem?_eq_some_iff.1 h6).1, h6] at h4
    cases h4
    exact h1 hq
theorem fold_nd (i : Nat) (e : Int) : ∀ (L : List (Int × Int)) {s : BS}, s.ps.Nodup → (L.foldl (bAdd i e) s).ps.Nodup
  | [], _, h => h
  | p :: r, s, h => fold_nd i e r (bAdd_nd h)
theorem fold_mem (i : Nat) (e : Int) : ∀ (L : List (Int × Int)) {s : BS} {q : Int × Int}, q ∈ (L.foldl (bAdd i e) s).ps → q ∈ s.ps ∨ q ∈ L
  | [], _, _, h => .inl h
  | p :: r, s, q, h => by
    rcases fold_mem i e r (s := bAdd i e s p) h with h | h
    · rcases bAdd_mem h with h | rfl
      · exact .inl h
      · exact .inr (by simp)
    · exact .inr (by simp [h])
theorem SI.fold {a b : Mach} {i : Nat} {e : Int} {s : BS} {L : List (Int × Int)} (h : SI a b i e s) (hL : ∀ p ∈ L, (0 ≤ p.1 ∧ p.1 < a.st) ∧ (0 ≤ p.2 ∧ p.2 < b.st)) : SI a b i (e + 1) (L.foldl (bAdd i e) s) := by
  refine ⟨fold_nd i e L h.nd, fun p hp => ?_, fun x hx => ?_⟩
  · rcases fold_mem i e L hp with hp | hp
    · exact h.cr p hp
    · exact hL p hp
  · rw [fold_ar] at hx
    rcases List.mem_append.1 hx with hx | hx
    · have := h.lo x hx; omega
    · have := newA_in i e L s x hx; omega
theorem newA_snoc (i : Nat) (e : Int) : ∀ (L : List (Int × Int)) (s : BS) (p : Int × Int), newA i e s (L ++ [p]) = newA i e s L ++ [⟨(i : Int), e, (findP (L.foldl (bAdd i e) s).ps p.1 p.2 : Nat)⟩]
  | [], s, p => by simp [newA]
  | q :: r, s, p => by
    rw [List.cons_append, newA, newA_snoc i e r (bAdd i e s q) p, newA]
    simp
/-- Starts: each pair is new. -/
theorem findP_cross {S T : List Int} (hS : Inc S) (hT : Inc T) {n : Nat} {p : Int × Int} (hp : (crossP S T)[n]? = some p) : findP ((crossP S T).take n) p.1 p.2 = n := by
  have hn := (List.getElem?_eq_some_iff.1 hp).1
  have hnd := nodup_crossP (inc_nodup hS) (inc_nodup hT)
  have : p ∉ (crossP S T).take n := by
    intro hm
    obtain ⟨j, hj⟩ := List.mem_iff_getElem?.1 hm
    rw [List.getElem?_take] at hj
    split at hj
    · rename_i hjn
      obtain ⟨l1, e1⟩ := List.getElem?_eq_some_iff.1 hj
      obtain ⟨l2, e2⟩ := List.getElem?_eq_some_iff.1 hp
      have := (List.getElem_inj hnd).1 (e1.trans e2.symm)
      omega
    · cases hj
  rw [findP_new.2 this, List.length_take]
  omega

end Go.Proofs.YtcbdjjkebpncmaaDoor
namespace Go.Proofs.YtcbdjjkebpncmaaDoor
open Go.RowKit
set_option linter.unusedVariables false
set_option linter.unusedSectionVars false

/-! Which of two lists is the lesser one (G1). -/
def lexB : List Int → List Int → Bool
  | x :: a, y :: b => if x = y then lexB a b else decide (x < y)
  | _, _ => false
def lessB (a b : List Int) : Bool := if a.length = b.length then lexB a b else decide (a.length < b.length)
theorem lexB_irrefl : ∀ a, lexB a a = false
  | [] => rfl
  | x :: a => by unfold lexB; rw [if_pos rfl]; exact lexB_irrefl a
theorem lexB_trans : ∀ {a b c : List Int}, lexB a b = true → lexB b c = true → lexB a c = true
  | [], _, _, h, _ => by simp [lexB] at h
  | _ :: _, [], _, h, _ => by simp [lexB] at h
  | _ :: _, _ :: _, [], _, h => by simp [lexB] at h
  | x :: a, y :: b, z :: c, h, k => by
    unfold lexB at h k ⊢
    by_cases e1 : x = y
    · rw [if_pos e1] at h
      by_cases e2 : y = z
      · rw [if_pos e2] at k
        rw [if_pos (e1.trans e2)]
        exact lexB_trans h k
      · rw [if_neg e2] at k
        rw [if_neg (by omega)]
        have := of_decide_eq_true k
        exact decide_eq_true (by omega)
    · rw [if_neg e1] at h
      have h := of_decide_eq_true h
      by_cases e2 : y = z
      · rw [if_neg (by omega)]
        exact decide_eq_true (by omega)
      · rw [if_neg e2] at k
        have k := of_decide_eq_true k
        rw [if_neg (by omega)]
        exact decide_eq_true (by omega)
theorem lexB_total : ∀ {a b : List Int}, a.length = b.length → a ≠ b → lexB a b = true ∨ lexB b a = true
  | [], [], _, h => absurd rfl h
  | [], _ :: _, h, _ => by simp at h
  | _ :: _, [], h, _ => by simp at h
  | x :: a, y :: b, hl, h => by
    unfold lexB
    by_cases e : x = y
    · subst e
      rw [if_pos rfl, if_pos rfl]
      exact lexB_total (by simpa using hl) (fun e => h (by rw [e]))
    · rw [if_neg e, if_neg (fun h => e h.symm)]
      by_cases h1 : x < y
      · exact .inl (decide_eq_true h1)
      · exact .inr (decide_eq_true (by omega))
theorem lexB_snoc : ∀ {a b : List Int} (x y : Int), a.length = b.length → lexB a b = true → lexB (a ++ [x]) (b ++ [y]) = true
  | [], _, _, _, _, h => by simp [lexB] at h
  | _ :: _, [], _, _, h, _ => by simp at h
  | u :: a, v :: b, x, y, hl, h => by
    rw [List.cons_append, List.cons_append]
    unfold lexB at h ⊢
    by_cases e : u = v
    · rw [if_pos e] at h ⊢
      exact lexB_snoc x y (by simpa using hl) h
    · rw [if_neg e] at h ⊢
      exact h
theorem lexB_last : ∀ (a : List Int) {x y : Int}, x < y → lexB (a ++ [x]) (a ++ [y]) = true
  | [], x, y, h => by
    show lexB [x] [y] = true
    unfold lexB; rw [if_neg (by omega)]; exact decide_eq_true h
  | u :: a, x, y, h => by
    rw [List.cons_append, List.cons_append]
    unfold lexB
    rw [if_pos rfl]
    exact lexB_last a h
theorem lessB_irrefl (a : List Int) : lessB a a = false := by unfold lessB; rw [if_pos rfl]; exact lexB_irrefl a
theorem lessB_len {a b : List Int} (h : lessB a b = true) : a.length ≤ b.length := by
  unfold lessB at h
  by_cases e : a.length = b.length
  · omega
  · rw [if_neg e] at h
    have := of_decide_eq_true h; omega
theorem lessB_trans {a b c : List Int} (h : lessB a b = true) (k : lessB b c = true) : lessB a c = true := by
  have l1 := lessB_len h
  have l2 := lessB_len k
  unfold lessB at h k ⊢
  by_cases e1 : a.length = b.length
  · rw [if_pos e1] at h
    by_cases e2 : b.length = c.length
    · rw [if_pos e2] at k
      rw [if_pos (e1.trans e2)]
      exact lexB_trans h k
    · rw [if_neg (by omega)]
      exact decide_eq_true (by omega)
  · rw [if_neg (by omega)]
    exact decide_eq_true (by omega)
theorem lessB_total {a b : List Int} (h : a ≠ b) : lessB a b = true ∨ lessB b a = true := by
  unfold lessB
  by_cases e : a.length = b.length
  · rw [if_pos e, if_pos e.symm]
    exact lexB_total e h
  · rw [if_neg e, if_neg (fun h => e h.symm)]
    by_cases h1 : a.length < b.length
    · exact .inl (decide_eq_true h1)
    · exact .inr (decide_eq_true (by omega))
theorem lessB_snoc {a b : List Int} (x y : Int) (h : lessB a b = true) : lessB (a ++ [x]) (b ++ [y]) = true := by
  have l1 := lessB_len h
  unfold lessB at h ⊢
  simp only [List.length_append, List.length_cons, List.length_nil]
  by_cases e : a.length = b.length
  · rw [if_pos e] at h
    rw [if_pos (by omega)]
    exact lexB_snoc x y e h
  · rw [if_neg (by omega)]
    exact decide_eq_true (by omega)
theorem lessB_last (a : List Int) {x y : Int} (h : x < y) : lessB (a ++ [x]) (a ++ [y]) = true := by
  unfold lessB; rw [if_pos (by simp)]; exact lexB_last a h
theorem lessB_more (a : List Int) (x : Int) : lessB a (a ++ [x]) = true := by
  unfold lessB; rw [if_neg (by simp)]; exact decide_eq_true (by simp)
/-- Lesser, or the same. -/
def leW (a b : List Int) : Prop := a = b ∨ lessB a b = true
theorem leW_refl (a : List Int) : leW a a := .inl rfl
theorem leW_trans {a b c : List Int} (h : leW a b) (k : leW b c) : leW a c := by
  rcases h with rfl | h
  · exact k
  · rcases k with rfl | k
    · exact .inr h
    · exact .inr (lessB_trans h k)
theorem leW_snoc {a b : List Int} (x : Int) (h : leW a b) : leW (a ++ [x]) (b ++ [x]) := by
  rcases h with rfl | h
  · exact .inl rfl
  · exact .inr (lessB_snoc x x h)
theorem leW_not {a b : List Int} (h : leW a b) : lessB b a = false := by
  cases hk : lessB b a with
  | false => rfl
  | true =>
    rcases h with rfl | h
    · rw [lessB_irrefl] at hk; cases hk
    · have := lessB_trans h hk; rw [lessB_irrefl] at this; cases this
theorem nil_le (a : List Int) : leW [] a := by
  cases a with
  | nil => exact .inl rfl
  | cons x r => exact .inr (by unfold lessB; rw [if_neg (by simp)]; exact decide_eq_true (by simp))

/-! The search. -/
section
variable {σ : Type} [DecidableEq σ] (δ : σ → Nat → σ)
def runF (s : σ) (u : List Int) : σ := u.foldl (fun s e => δ s e.toNat) s
theorem runF_snoc (s : σ) (u : List Int) (e : Int) : runF δ s (u ++ [e]) = δ (runF δ s u) e.toNat := by simp [runF, List.foldl_append]
/-- Is a place among some? -/
def knownB (l : List (σ × List Int)) (s : σ) : Bool := l.any fun p => decide (p.1 = s)
theorem knownB_iff (l : List (σ × List Int)) (s : σ) : knownB l s = true ↔ ∃ p ∈ l, p.1 = s := by simp [knownB]
/-- One event more, from place x. -/
def bfStep (x : σ × List Int) (l : List (σ × List Int)) (e : Nat) : List (σ × List Int) := if knownB l (δ x.1 e) = true then l else l ++ [(δ x.1 e, x.2 ++ [(e : Int)])]
def bfRow (x : σ × List Int) (l : List (σ × List Int)) (n : Nat) : List (σ × List Int) := (List.range n).foldl (bfStep δ x) l
theorem bfRow_succ (x : σ × List Int) (l : List (σ × List Int)) (n : Nat) : bfRow δ x l (n + 1) = bfStep δ x (bfRow δ x l n) n := by
  unfold bfRow; rw [List.range_succ, List.foldl_append]; rfl
def bfGo (ev : Nat) : Nat → Nat → List (σ × List Int) → List (σ × List Int)
  | 0, _, l => l
  | f + 1, k, l => match l[k]? with
    | none => l
    | some x => bfGo ev f (k + 1) (bfRow δ x l ev)
theorem bfStep_pre (x : σ × List Int) (l : List (σ × List Int)) (e : Nat) : ∃ t, bfStep δ x l e = l ++ t := by
  unfold bfStep; split
  · exact ⟨[], by simp⟩
  · exact ⟨_, rfl⟩
theorem bfRow_pre (x : σ × List Int) (l : List (σ × List Int)) : ∀ n, ∃ t, bfRow δ x l n = l ++ t
  | 0 => ⟨[], by simp [bfRow]⟩
  | n + 1 => by
    obtain ⟨t, h⟩ := bfRow_pre x l n
    obtain ⟨u, h'⟩ := bfStep_pre δ x (bfRow δ x l n) n
    exact ⟨t ++ u, by rw [bfRow_succ, h', h, List.append_assoc]⟩
theorem bfGo_pre (ev : Nat) : ∀ (f k : Nat) (l : List (σ × List Int)), ∃ t, bfGo δ ev f k l = l ++ t
  | 0, k, l => ⟨[], by simp [bfGo]⟩
  | f + 1, k, l => by
    unfold bfGo
    cases l[k]? with
    | none => exact ⟨[], by simp⟩
    | some x =>
      obtain ⟨t, h⟩ := bfRow_pre δ x l ev
      obtain ⟨u, h'⟩ := bfGo_pre ev f (k + 1) (bfRow δ x l ev)
      exact ⟨t ++ u, by show bfGo δ ev f (k + 1) (bfRow δ x l ev) = _; rw [h', h, List.append_assoc]⟩

/-- What holds when all events of the first k places, and the first n of the place k, have been gone on from. -/
structure BI (s0 : σ) (ev k n : Nat) (l : List (σ × List Int)) : Prop where
  nd : (l.map (·.1)).Nodup
  hd : l[0]? = some (s0, [])
  run : ∀ p ∈ l, p.1 = runF δ s0 p.2 ∧ ∀ e ∈ p.2, 0 ≤ e ∧ e < (ev : Int)
  inc : l.Pairwise (fun p q => lessB p.2 q.2 = true)
  cl : ∀ (i : Nat) (x : σ × List Int), l[i]? = some x → ∀ e : Nat, e < ev → (i < k ∨ (i = k ∧ e < n)) → ∃ y ∈ l, y.1 = δ x.1 e ∧ leW y.2 (x.2 ++ [(e : Int)])
  top : ∀ p ∈ l, p.2 = [] ∨ ∃ (i : Nat) (x : σ × List Int) (e : Nat), l[i]? = some x ∧ p.2 = x.2 ++ [(e : Int)] ∧ (i < k ∨ (i = k ∧ e < n))
theorem bi_start (s0 : σ) (ev : Nat) : BI δ s0 ev 0 0 [(s0, [])] := by
  refine ⟨by simp, rfl, fun p hp => ?_, by simp, fun i x hx e he h => by omega, fun p hp => ?_⟩
  · have : p = (s0, []) := by simpa using hp
    subst this; exact ⟨rfl, by simp⟩
  · have : p = (s0, []) := by simpa using hp
    subst this; exact .inl rfl
theorem bi_step {s0 : σ} {ev k n : Nat} {l : List (σ × List Int)} {x : σ × List Int} (h : BI δ s0 ev k n l) (hx : l[k]? = some x) (hn : n < ev) : BI δ s0 ev k (n + 1) (bfStep δ x l n) := by
  have hxm := List.mem_of_getElem? hx
  have hklt := (List.getElem?_eq_some_iff.1 hx).1
  -- every word so far is lesser than the new one
  have hless : ∀ p ∈ l, lessB p.2 (x.2 ++ [(n : Int)]) = true := by
    intro p hp
    rcases h.top p hp with h0 | ⟨i, y, e, hy, h1, h2⟩
    · rw [h0]
      rcases nil_le (x.2 ++ [(n : Int)]) with h3 | h3
      · have := congrArg List.length h3; simp at this
      · exact h3
    · rw [h1]
      rcases h2 with h2 | ⟨h2, h3⟩
      · have hlt := (List.getElem?_eq_some_iff.1 hy).1
        have := List.pairwise_iff_getElem.1 h.inc i k hlt hklt h2
        rw [(List.getElem?_eq_some_iff.1 hy).2, (List.getElem?_eq_some_iff.1 hx).2] at this
        exact lessB_snoc _ _ this
      · subst h2
        rw [hx] at hy
        have := Option.some.inj hy
        subst this
        exact lessB_last _ (by omega)
  by_cases hk : knownB l (δ x.1 n) = true
  · have e : bfStep δ x l n = l := by unfold bfStep; rw [if_pos hk]
    rw [e]
    refine ⟨h.nd, h.hd, h.run, h.inc, fun i y hy e he hi => ?_, fun p hp => ?_⟩
    · by_cases h1 : i < k ∨ (i = k ∧ e < n)
      · exact h.cl i y hy e he h1
      · have hik : i = k := by omega
        have hen : e = n := by omega
        subst hik; subst hen
        rw [hx] at hy
        have := Option.some.inj hy
        subst this
        obtain ⟨q, hq, e1⟩ := (knownB_iff _ _).1 hk
        exact ⟨q, hq, e1, .inr (hless q hq)⟩
    · rcases h.top p hp with h0 | ⟨i, y, e, hy, h1, h2⟩
      · exact .inl h0
      · exact .inr ⟨i, y, e, hy, h1, by omega⟩
  · have e : bfStep δ x l n = l ++ [(δ x.1 n, x.2 ++ [(n : Int)])] := by unfold bfStep; rw [if_neg hk]
    rw [e]
    have hx2 := h.run x hxm
    refine ⟨?_, ?_, ?_, ?_, ?_, ?_⟩
    · rw [List.map_append, List.nodup_append]
      refine ⟨h.nd, by simp, fun a ha b hb e => ?_⟩
      have hb : b = δ x.1 n := by simpa using hb
      subst hb; subst e
      obtain ⟨q, hq, e1⟩ := List.mem_map.1 ha
      exact hk ((knownB_iff _ _).2 ⟨q, hq, e1⟩)
    · rw [List.getElem?_append_left (List.getElem?_eq_some_iff.1 h.hd).1]; exact h.hd
    · intro p hp
      rcases List.mem_append.1 hp with hp | hp
      · exact h.run p hp
      · have : p = (δ x.1 n, x.2 ++ [(n : Int)]) := by simpa using hp
        subst this
        refine ⟨by rw [runF_snoc, ← hx2.1]; simp, fun e he => ?_⟩
        rcases List.mem_append.1 he with he | he
        · exact hx2.2 e he
        · have : e = (n : Int) := by simpa using he
          omega
    · rw [List.pairwise_append]
      refine ⟨h.inc, by simp, fun p hp q hq => ?_⟩
      have : q = (δ x.1 n, x.2 ++ [(n : Int)]) := by simpa using hq
      subst this
      exact hless p hp
    · intro i y hy e he hi
      have hil : i < l.length := by rcases hi with hi | hi <;> omega
      rw [List.getElem?_append_left hil] at hy
      by_cases h1 : i < k ∨ (i = k ∧ e < n)
      · obtain ⟨q, hq, e1, e2⟩ := h.cl i y hy e he h1
        exact ⟨q, List.mem_append_left _ hq, e1, e2⟩
      · have hik : i = k := by omega
        have hen : n = e := by omega
        subst hik; subst hen
        rw [hx] at hy
        have := Option.some.inj hy
        subst this
        exact ⟨(δ x.1 n, x.2 ++ [(n : Int)]), List.mem_append_right _ (by simp), rfl, leW_refl _⟩
    · intro p hp
      have hlk : ∀ (i : Nat) (y : σ × List Int), l[i]? = some y → (l ++ [(δ x.1 n, x.2 ++ [(n : Int)])])[i]? = some y := fun i y hy => by
        rw [List.getElem?_append_left (List.getElem?_eq_some_iff.1 hy).1]; exact hy
      rcases List.mem_append.1 hp with hp | hp
      · rcases h.top p hp with h0 | ⟨i, y, e, hy, h1, h2⟩
        · exact .inl h0
        · exact .inr ⟨i, y, e, hlk i y hy, h1, by omega⟩
      · have : p = (δ x.1 n, x.2 ++ [(n : Int)]) := by simpa using hp
        subst this
        exact .inr ⟨k, x, n, hlk k x hx, rfl, .inr ⟨rfl, by omega⟩⟩
theorem bi_row {s0 : σ} {ev k : Nat} {l : List (σ × List Int)} {x : σ × List Int} (h : BI δ s0 ev k 0 l) (hx : l[k]? = some x) : ∀ n, n ≤ ev → BI δ s0 ev k n (bfRow δ x l n)
  | 0, _ => h
  | n + 1, hn => by
    rw [bfRow_succ]
    obtain ⟨t, ht⟩ := bfRow_pre δ x l n
    exact bi_step δ (bi_row h hx n (by omega)) (by rw [ht, List.getElem?_append_left (List.getElem?_eq_some_iff.1 hx).1]; exact hx) (by omega)
theorem bi_next {s0 : σ} {ev k : Nat} {l : List (σ × List Int)} {x : σ × List Int} (h : BI δ s0 ev k 0 l) (hx : l[k]? = some x) : BI δ s0 ev (k + 1) 0 (bfRow δ x l ev) := by
  have h' := bi_row δ h hx ev (Nat.le_refl _)
  refine ⟨h'.nd, h'.hd, h'.run, h'.inc, fun i y hy e he hi => h'.cl i y hy e he (by omega), fun p hp => ?_⟩
  rcases h'.top p hp with h0 | ⟨i, y, e, hy, h1, h2⟩
  · exact .inl h0
  · exact .inr ⟨i, y, e, hy, h1, by omega⟩
/-- Where all places have been gone on from, each word's place is there, with a word that is no greater. -/
theorem bi_all {s0 : σ} {ev : Nat} {l : List (σ × List Int)} (h : BI δ s0 ev l.length 0 l) : ∀ (u : List Int), (∀ e ∈ u, 0 ≤ e ∧ e < (ev : Int)) → ∃ p ∈ l, p.1 = runF δ s0 u ∧ leW p.2 u := by
  have key : ∀ (n : Nat) (u : List Int), u.length = n → (∀ e ∈ u, 0 ≤ e ∧ e < (ev : Int)) → ∃ p ∈ l, p.1 = runF δ s0 u ∧ leW p.2 u := by
    intro n
    induction n with
    | zero =>
      intro u hu _
      have : u = [] := List.eq_nil_of_length_eq_zero hu
      subst this
      exact ⟨_, List.mem_of_getElem? h.hd, rfl, leW_refl _⟩
    | succ n ih =>
      intro u hu hb
      have hne : u ≠ [] := fun e => by rw [e] at hu; simp at hu
      have hsp := (List.dropLast_concat_getLast hne).symm
      obtain ⟨v, z, e⟩ : ∃ v z, u = v ++ [z] := ⟨_, _, hsp⟩
      subst e
      have hv : v.length = n := by simpa using hu
      obtain ⟨p, hp, e1, e2⟩ := ih v hv (fun y hy => hb y (by simp [hy]))
      have hz := hb z (by simp)
      obtain ⟨i, hi⟩ := List.mem_iff_getElem?.1 hp
      obtain ⟨q, hq, e3, e4⟩ := h.cl i p hi z.toNat (by omega) (.inl (List.getElem?_eq_some_iff.1 hi).1)
      refine ⟨q, hq, by rw [e3, e1, runF_snoc], ?_⟩
      have hc : ((z.toNat : Nat) : Int) = z := by omega
      rw [hc] at e4
      exact leW_trans e4 (leW_snoc z e2)
  exact fun u hb => key u.length u rfl hb
end

end Go.Proofs.YtcbdjjkebpncmaaDoor
