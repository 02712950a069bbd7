/-
  Plain: the machine of two beside one another accepts a word just when each accepts what of it is its own. No program, no model.
  Plain: a machine made of what is found from one beginning on, each thing once, in the order found (over any things and any step). No program, no model.
-/
import Derived.Test.YtkkkacmccndinaaDoorG14
import Derived.Test.YtkkkacmccndinaaDoorG07
namespace Go.Proofs.YtkkkacmccndinaaDoor
open Go.RowKit
set_option linter.unusedVariables false

/-! Places of pairs. -/
theorem findP_nth : ∀ {L : List (Int × Int)} {q : Int × Int}, q ∈ L → L[findP L q.1 q.2]? = some q
  | [], q, h => by simp at h
  | p :: r, q, h => by
    unfold findP
    by_cases hc : p.1 = q.1 ∧ p.2 = q.2
    · rw [if_pos hc]
      have : p = q := Prod.ext hc.1 hc.2
      simp [this]
    · rw [if_neg hc]
      have hq : q ∈ r := by
        rcases List.mem_cons.1 h with rfl | h
        · exact absurd ⟨rfl, rfl⟩ hc
        · exact h
      simpa using findP_nth hq
theorem findP_lt {L : List (Int × Int)} {q : Int × Int} (h : q ∈ L) : findP L q.1 q.2 < L.length := (List.getElem?_eq_some_iff.1 (findP_nth h)).1
theorem findP_new : ∀ {L : List (Int × Int)} {q : Int × Int}, findP L q.1 q.2 = L.length ↔ q ∉ L := by
  intro L q
  constructor
  · intro h hq
    have := findP_lt hq
    omega
  · intro h
    induction L with
    | nil => rfl
    | cons p r ih =>
      unfold findP
      have hc : ¬ (p.1 = q.1 ∧ p.2 = q.2) := fun hc => h (by have : p = q := Prod.ext hc.1 hc.2; simp [this])
      rw [if_neg hc, ih (fun hq => h (by simp [hq]))]; rfl
theorem findP_app : ∀ {L : List (Int × Int)} {q : Int × Int} (t : List (Int × Int)), q ∈ L → findP (L ++ t) q.1 q.2 = findP L q.1 q.2
  | [], q, t, h => by simp at h
  | p :: r, q, t, h => by
    rw [List.cons_append]
    unfold findP
    by_cases hc : p.1 = q.1 ∧ p.2 = q.2
    · rw [if_pos hc, if_pos hc]
    · have hq : q ∈ r := by
        rcases List.mem_cons.1 h with rfl | h
        · exact absurd ⟨rfl, rfl⟩ hc
        · exact h
      rw [if_neg hc, if_neg hc, findP_app t hq]
theorem findP_at : ∀ {L : List (Int × Int)} {q : Int × Int} {i : Nat}, L.Nodup → L[i]? = some q → findP L q.1 q.2 = i := by
  intro L q i hn hi
  have hm : q ∈ L := List.mem_of_getElem? hi
  have h1 := findP_nth hm
  obtain ⟨l1, e1⟩ := List.getElem?_eq_some_iff.1 h1
  obtain ⟨l2, e2⟩ := List.getElem?_eq_some_iff.1 hi
  exact (List.getElem_inj hn).1 (e1.trans e2.symm)
theorem mem_crossP (S T : List Int) (q : Int × Int) : q ∈ crossP S T ↔ q.1 ∈ S ∧ q.2 ∈ T := by
  unfold crossP
  rw [List.mem_flatMap]
  constructor
  · rintro ⟨x, hx, h⟩
    obtain ⟨y, hy, rfl⟩ := List.mem_map.1 h
    exact ⟨hx, hy⟩
  · rintro ⟨h1, h2⟩
    exact ⟨q.1, h1, List.mem_map.2 ⟨q.2, h2, rfl⟩⟩
theorem nodup_crossP : ∀ {S T : List Int}, S.Nodup → T.Nodup → (crossP S T).Nodup
  | [], T, _, _ => by simp [crossP]
  | x :: r, T, hS, hT => by
    obtain ⟨h1, h2⟩ := List.nodup_cons.1 hS
    have ih := nodup_crossP h2 hT
    show ((T.map fun y => (x, y)) ++ crossP r T).Nodup
    rw [List.nodup_append]
    refine ⟨?_, ih, ?_⟩
    · rw [List.Nodup, List.pairwise_map]
      exact hT.imp (fun h e => h (Prod.mk.inj e).2)
    · intro p hp q hq e
      subst e
      obtain ⟨y, hy, rfl⟩ := List.mem_map.1 hp
      exact h1 ((mem_crossP _ _ _).1 hq).1

/-! What has been found: the invariant. -/
/-- What is known once the pairs before k, and of pair k the events before e, and of these at e the places in Q, have been gone through. -/
structure BInv (a b : Mach) (ofA ofB : List Int) (s : BS) (D : Nat → Int → (Int × Int) → Prop) : Prop where
  nd : s.ps.Nodup
  pre : ∃ t, s.ps = crossP a.starts b.starts ++ t
  fwd : ∀ x ∈ s.ar, ∃ (i : Nat) (p q : Int × Int) (e : Int), D i e q ∧ s.ps[i]? = some p ∧ 0 ≤ e ∧ e < a.ev ∧ q ∈ leadsP a.arrows b.arrows p e (hasB ofA e) (hasB ofB e) ∧ q ∈ s.ps ∧ x = ⟨(i : Int), e, (findP s.ps q.1 q.2 : Nat)⟩
  bwd : ∀ (i : Nat) (p q : Int × Int) (e : Int), D i e q → s.ps[i]? = some p → 0 ≤ e → e < a.ev → q ∈ leadsP a.arrows b.arrows p e (hasB ofA e) (hasB ofB e) → q ∈ s.ps ∧ (⟨(i : Int), e, (findP s.ps q.1 q.2 : Nat)⟩ : Arr) ∈ s.ar
  cr : ∀ p ∈ s.ps, (0 ≤ p.1 ∧ p.1 < a.st) ∧ (0 ≤ p.2 ∧ p.2 < b.st)

theorem binv_congr {a b : Mach} {ofA ofB : List Int} {s : BS} {D D' : Nat → Int → (Int × Int) → Prop} (h : BInv a b ofA ofB s D) (hD : ∀ (i : Nat) (p q : Int × Int) (e : Int), s.ps[i]? = some p → 0 ≤ e → e < a.ev → q ∈ leadsP a.arrows b.arrows p e (hasB ofA e) (hasB ofB e) → (D i e q ↔ D' i e q)) : BInv a b ofA ofB s D' := by
  refine ⟨h.nd, h.pre, fun x hx => ?_, fun i p q e hd hp h0 h1 hq => ?_, h.cr⟩
  · obtain ⟨i, p, q, e, hd, hp, h0, h1, hq, hm, rfl⟩ := h.fwd x hx
    exact ⟨i, p, q, e, (hD i p q e hp h0 h1 hq).1 hd, hp, h0, h1, hq, hm, rfl⟩
  · exact h.bwd i p q e ((hD i p q e hp h0 h1 hq).2 hd) hp h0 h1 hq

theorem mem_leadsP (A B : List Arr) (p q : Int × Int) (e : Int) (x y : Bool) : q ∈ leadsP A B p e x y ↔ (x = true ∨ y = true) ∧ (if x = true then q.1 ∈ stepL A [p.1] e else q.1 = p.1) ∧ (if y = true then q.2 ∈ stepL B [p.2] e else q.2 = p.2) := by
  unfold leadsP
  cases x <;> cases y <;> simp [mem_crossP]
theorem leadsP_bd {a b : Mach} (ha : mayB a = true) (hb : mayB b = true) {p q : Int × Int} {e : Int} {x y : Bool} (hp : (0 ≤ p.1 ∧ p.1 < a.st) ∧ (0 ≤ p.2 ∧ p.2 < b.st)) (h : q ∈ leadsP a.arrows b.arrows p e x y) : (0 ≤ q.1 ∧ q.1 < a.st) ∧ (0 ≤ q.2 ∧ q.2 < b.st) := by
  obtain ⟨-, h1, h2⟩ := (mem_leadsP _ _ _ _ _ _ _).1 h
  refine ⟨?_, ?_⟩
  · split at h1
    · obtain ⟨c, hc, -, -, ec⟩ := (mem_stepL _ _ _ _).1 h1
      have := may_arrs ha c hc
      rw [← ec]
      exact ⟨this.2.2.1, this.2.2.2.1⟩
    · rw [h1]; exact hp.1
  · split at h2
    · obtain ⟨c, hc, -, -, ec⟩ := (mem_stepL _ _ _ _).1 h2
      have := may_arrs hb c hc
      rw [← ec]
      exact ⟨this.2.2.1, this.2.2.2.1⟩
    · rw [h2]; exact hp.2

/-- One pair more that is led to. -/
theorem binv_add {a b : Mach} (ha : mayB a = true) (hb : mayB b = true) {ofA ofB : List Int} {s : BS} {D : Nat → Int → (Int × Int) → Prop} (h : BInv a b ofA ofB s D) {k : Nat} {p q : Int × Int} {e : Int} (hp : s.ps[k]? = some p) (h0 : 0 ≤ e) (h1 : e < a.ev) (hq : q ∈ leadsP a.arrows b.arrows p e (hasB ofA e) (hasB ofB e)) (hD : ∀ i e q, D i e q → i < s.ps.length) :
    BInv a b ofA ofB (bAdd k e s q) (fun i e' q' => D i e' q' ∨ (i = k ∧ e' = e ∧ q' = q)) := by
  have hk := (List.getElem?_eq_some_iff.1 hp).1
  have hE : ∃ t, (bAdd k e s q).ps = s.ps ++ t ∧ q ∈ (bAdd k e s q).ps ∧ (bAdd k e s q).ps.Nodup ∧ (∀ r ∈ t, r = q) ∧ findP (bAdd k e s q).ps q.1 q.2 = findP s.ps q.1 q.2 := by
    unfold bAdd
    by_cases hn : findP s.ps q.1 q.2 = s.ps.length
    · have hm := findP_new.1 hn
      dsimp only
      rw [if_pos hn]
      have hnd : (s.ps ++ [q]).Nodup := by
        rw [List.nodup_append]
        exact ⟨h.nd, by simp, fun x hx y hy e => by simp at hy; subst hy; subst e; exact hm hx⟩
      refine ⟨[q], rfl, by simp, hnd, by simp, ?_⟩
      rw [hn]
      exact findP_at hnd (by simp)
    · have hm : q ∈ s.ps := Classical.byContradiction fun hc => hn (findP_new.2 hc)
      dsimp only
      rw [if_neg hn]
      exact ⟨[], by simp, hm, h.nd, by simp, rfl⟩
  obtain ⟨t, ht, hqm, hnd, htq, hf⟩ := hE
  have har : (bAdd k e s q).ar = s.ar ++ [⟨(k : Int), e, (findP s.ps q.1 q.2 : Nat)⟩] := rfl
  have hget : ∀ {i : Nat} {p' : Int × Int}, s.ps[i]? = some p' → (bAdd k e s q).ps[i]? = some p' := fun {i p'} hi => by
    rw [ht, List.getElem?_append_left (List.getElem?_eq_some_iff.1 hi).1]; exact hi
  have hback : ∀ {i : Nat} {p' : Int × Int}, i < s.ps.length → (bAdd k e s q).ps[i]? = some p' → s.ps[i]? = some p' := fun {i p'} hi hp' => by
    rw [ht, List.getElem?_append_left hi] at hp'; exact hp'
  refine ⟨hnd, ?_, ?_, ?_, ?_⟩
  · obtain ⟨u, hu⟩ := h.pre
    exact ⟨u ++ t, by rw [ht, hu, List.append_assoc]⟩
  · intro x hx
    rw [har] at hx
    rcases List.mem_append.1 hx with hx | hx
    · obtain ⟨i, p', q', e', hd, hp', h0', h1', hq', hm', rfl⟩ := h.fwd x hx
      exact ⟨i, p', q', e', .inl hd, hget hp', h0', h1', hq', by rw [ht]; simp [hm'], by rw [ht, findP_app t hm']⟩
    · have hx : x = ⟨(k : Int), e, (findP s.ps q.1 q.2 : Nat)⟩ := by simpa using hx
      exact ⟨k, p, q, e, .inr ⟨rfl, rfl, rfl⟩, hget hp, h0, h1, hq, hqm, by rw [hx, hf]⟩
  · rintro i p' q' e' (hd | ⟨rfl, rfl, rfl⟩) hp' h0' h1' hq'
    · obtain ⟨k1, k2⟩ := h.bwd i p' q' e' hd (hback (hD _ _ _ hd) hp') h0' h1' hq'
      exact ⟨by rw [ht]; simp [k1], by rw [har, ht, findP_app t k1]; simp [k2]⟩
    · exact ⟨hqm, by rw [har, hf]; simp⟩
  · intro r hr
    rw [ht] at hr
    rcases List.mem_append.1 hr with hr | hr
    · exact h.cr r hr
    · rw [htq r hr]
      exact leadsP_bd ha hb (h.cr p (List.mem_of_getElem? hp)) hq

theorem binv_fold {a b : Mach} (ha : mayB a = true) (hb : mayB b = true) {ofA ofB : List Int} {k : Nat} {p : Int × Int} {e : Int} (h0 : 0 ≤ e) (h1 : e < a.ev) : ∀ (L : List (Int × Int)) {s : BS} {D : Nat → Int → (Int × Int) → Prop}, BInv a b ofA ofB s D → s.ps[k]? = some p → (∀ q ∈ L, q ∈ leadsP a.arrows b.arrows p e (hasB ofA e) (hasB ofB e)) → (∀ i e q, D i e q → i < s.ps.length) →
    BInv a b ofA ofB (L.foldl (bAdd k e) s) (fun i e' q' => D i e' q' ∨ (i = k ∧ e' = e ∧ q' ∈ L))
  | [], s, D, h, _, _, _ => binv_congr h (fun i p q e _ _ _ _ => by simp)
  | q :: r, s, D, h, hp, hL, hD => by
    have hk := (List.getElem?_eq_some_iff.1 hp).1
    obtain ⟨t, ht, -⟩ := bAdd_ps k e s q
    have hp' : (bAdd k e s q).ps[k]? = some p := by rw [ht, List.getElem?_append_left hk]; exact hp
    have hl : s.ps.length ≤ (bAdd k e s q).ps.length := by rw [ht, List.length_append]; omega
    have h2 := binv_fold ha hb h0 h1 r (binv_add ha hb h hp h0 h1 (hL q (by simp)) hD) hp' (fun q' hq' => hL q' (by simp [hq'])) (fun i e q hd => by
      rcases hd with hd | ⟨rfl, -, -⟩
      · exact Nat.lt_of_lt_of_le (hD _ _ _ hd) hl
      · omega)
    rw [List.foldl_cons]
    refine binv_congr h2 (fun i p' q' e' _ _ _ _ => ?_)
    rw [List.mem_cons]
    constructor
    · rintro ((h | ⟨h1, h2, h3⟩) | ⟨h1, h2, h3⟩)
      · exact .inl h
      · exact .inr ⟨h1, h2, .inl h3⟩
      · exact .inr ⟨h1, h2, .inr h3⟩
    · rintro (h | ⟨h1, h2, h3 | h3⟩)
      · exact .inl (.inl h)
      · exact .inl (.inr ⟨h1, h2, h3⟩)
      · exact .inr ⟨h1, h2, h3⟩
theorem bEv_ps (a b : Mach) (ofA ofB : List Int) (k : Nat) (p : Int × Int) (s : BS) (e : Int) : ∃ t, (bEv a b ofA ofB k p s e).ps = s.ps ++ t := by
  obtain ⟨t, h, -⟩ := bFold_ps k e (leadsP a.arrows b.arrows p e (hasB ofA e) (hasB ofB e)) s
  exact ⟨t, h⟩
theorem bEvs_ps (a b : Mach) (ofA ofB : List Int) (k : Nat) (p : Int × Int) (s : BS) : ∀ n, ∃ t, (bEvs a b ofA ofB k p s n).ps = s.ps ++ t
  | 0 => ⟨[], by simp [bEvs]⟩
  | n + 1 => by
    obtain ⟨t, h⟩ := bEvs_ps a b ofA ofB k p s n
    obtain ⟨u, h'⟩ := bEv_ps a b ofA ofB k p (bEvs a b ofA ofB k p s n) (n : Int)
    exact ⟨t ++ u, by rw [bEvs_succ, h', h, List.append_assoc]⟩
theorem binv_ev {a b : Mach} (ha : mayB a = true) (hb : mayB b = true) {ofA ofB : List Int} {s : BS} {D : Nat → Int → (Int × Int) → Prop} (h : BInv a b ofA ofB s D) {k : Nat} {p : Int × Int} {e : Int} (hp : s.ps[k]? = some p) (h0 : 0 ≤ e) (h1 : e < a.ev) (hD : ∀ i e q, D i e q → i < s.ps.length) :
    BInv a b ofA ofB (bEv a b ofA ofB k p s e) (fun i e' q' => D i e' q' ∨ (i = k ∧ e' = e)) := by
  have hk := (List.getElem?_eq_some_iff.1 hp).1
  have h2 := binv_fold ha hb h0 h1 (leadsP a.arrows b.arrows p e (hasB ofA e) (hasB ofB e)) h hp (fun q hq => hq) hD
  refine binv_congr (s := bEv a b ofA ofB k p s e) h2 (fun i p' q' e' hp' _ _ hq' => ?_)
  constructor
  · rintro (h | ⟨h1, h2, -⟩)
    · exact .inl h
    · exact .inr ⟨h1, h2⟩
  · rintro (h | ⟨rfl, rfl⟩)
    · exact .inl h
    · obtain ⟨t, ht⟩ := bEv_ps a b ofA ofB i p s e'
      rw [ht, List.getElem?_append_left hk, hp] at hp'
      cases hp'
      exact .inr ⟨rfl, rfl, hq'⟩
theorem binv_evs {a b : Mach} (ha : mayB a = true) (hb : mayB b = true) {ofA ofB : List Int} {s : BS} {D : Nat → Int → (Int × Int) → Prop} (h : BInv a b ofA ofB s D) {k : Nat} {p : Int × Int} (hp : s.ps[k]? = some p) (hD : ∀ i e q, D i e q → i < s.ps.length) : ∀ n : Nat, (n : Int) ≤ a.ev →
    BInv a b ofA ofB (bEvs a b ofA ofB k p s n) (fun i e' q' => D i e' q' ∨ (i = k ∧ e' < n))
  | 0, _ => binv_congr (s := s) h (fun i p q e _ h0 _ _ => by
      constructor
      · exact .inl
      · rintro (h | ⟨-, h⟩)
        · exact h
        · omega)
  | n + 1, hn => by
    have hk := (List.getElem?_eq_some_iff.1 hp).1
    obtain ⟨t, ht⟩ := bEvs_ps a b ofA ofB k p s n
    have hp' : (bEvs a b ofA ofB k p s n).ps[k]? = some p := by rw [ht, List.getElem?_append_left hk]; exact hp
    have hl : s.ps.length ≤ (bEvs a b ofA ofB k p s n).ps.length := by rw [ht, List.length_append]; omega
    rw [bEvs_succ]
    refine binv_congr (binv_ev ha hb (binv_evs ha hb h hp hD n (by omega)) hp' (e := (n : Int)) (by omega) (by omega) (fun i e q hd => by
      rcases hd with hd | ⟨rfl, -⟩
      · exact Nat.lt_of_lt_of_le (hD _ _ _ hd) hl
      · omega)) (fun i p' q' e' _ _ _ _ => ?_)
    constructor
    · rintro ((h | ⟨h1, h2⟩) | ⟨h1, h2⟩)
      · exact .inl h
      · exact .inr ⟨h1, by omega⟩
      · exact .inr ⟨h1, by omega⟩
    · rintro (h | ⟨h1, h2⟩)
      · exact .inl (.inl h)
      · by_cases h3 : e' = n
        · exact .inr ⟨h1, h3⟩
        · exact .inl (.inr ⟨h1, by omega⟩)
theorem binv_pair {a b : Mach} (ha : mayB a = true) (hb : mayB b = true) {ofA ofB : List Int} {s : BS} {k : Nat} (h : BInv a b ofA ofB s (fun i _ _ => i < k)) (hk : k < s.ps.length) :
    BInv a b ofA ofB (bPair a b ofA ofB s k) (fun i _ _ => i < k + 1) := by
  have hz := mayB_size ha
  unfold sizeOk at hz
  have hp : s.ps[k]? = some s.ps[k] := List.getElem?_eq_getElem hk
  unfold bPair
  rw [hp, Option.getD_some]
  refine binv_congr (binv_evs ha hb h hp (fun i _ _ hi => by omega) a.ev.toNat (by omega)) (fun i p q e _ h0 h1 _ => ?_)
  constructor
  · rintro (h | ⟨h, -⟩) <;> omega
  · intro h
    by_cases h2 : i = k
    · exact .inr ⟨h2, by omega⟩
    · exact .inl (by omega)
/-- What is known of what has been found at last. -/
theorem binv_go {a b : Mach} (ha : mayB a = true) (hb : mayB b = true) {ofA ofB : List Int} : ∀ (f k : Nat) (s s' : BS), BInv a b ofA ofB s (fun i _ _ => i < k) → k ≤ s.ps.length → 300 ≤ f + k → (k = 0 ∨ s.ps.length ≤ 256) → s.ar.length ≤ 4096 → bGo a b ofA ofB f k s = some s' →
    BInv a b ofA ofB s' (fun i _ _ => i < s'.ps.length) ∧ s'.ps.length ≤ 256 ∧ s'.ar.length ≤ 4096
  | 0, k, s, s', h, hk, hf, hs, hr, e => by omega
  | f + 1, k, s, s', h, hk, hf, hs, hr, e => by
    rw [bGo] at e
    by_cases hlt : k < s.ps.length
    · rw [if_pos hlt] at e
      by_cases hB : bBig (bPair a b ofA ofB s k) = true
      · rw [if_pos hB] at e; cases e
      · rw [if_neg hB] at e
        have hn : (bPair a b ofA ofB s k).ps.length ≤ 256 ∧ (bPair a b ofA ofB s k).ar.length ≤ 4096 := by
          unfold bBig at hB
          simp only [Bool.or_eq_true, decide_eq_true_eq, not_or] at hB
          omega
        have hl : s.ps.length ≤ (bPair a b ofA ofB s k).ps.length := by
          obtain ⟨t, ht⟩ := bEvs_ps a b ofA ofB k (s.ps[k]?.getD (0, 0)) s a.ev.toNat
          unfold bPair
          rw [ht, List.length_append]; omega
        exact binv_go ha hb f (k + 1) _ s' (binv_pair ha hb h hlt) (by omega) (by omega) (.inr hn.1) hn.2 e
    · rw [if_neg hlt] at e
      cases e
      have : k = s.ps.length := by omega
      subst this
      refine ⟨h, ?_, hr⟩
      rcases hs with hs | hs <;> omega
theorem beside_inv {a b : Mach} (ha : mayB a = true) (hb : mayB b = true) {ofA ofB : List Int} {s : BS} (h : besideS a b ofA ofB = some s) : BInv a b ofA ofB s (fun i _ _ => i < s.ps.length) ∧ s.ps.length ≤ 256 ∧ s.ar.length ≤ 4096 := by
  have sa := may_starts ha
  have sb := may_starts hb
  refine binv_go ha hb 300 0 _ s ⟨nodup_crossP (inc_nodup sa.1) (inc_nodup sb.1), ⟨[], by simp⟩, fun x hx => by simp at hx, fun i p q e hd => by omega, fun p hp => ?_⟩ (by omega) (by omega) (.inl rfl) (by simp) h
  obtain ⟨h1, h2⟩ := (mem_crossP _ _ _).1 hp
  exact ⟨sa.2 _ h1, sb.2 _ h2⟩

/-! Arrows in order. -/
theorem arr_ext {x y : Arr} (h : arrEq x y) : x = y := by
  cases x; cases y; obtain ⟨h1, h2, h3⟩ := h; dsimp only at h1 h2 h3; subst h1; subst h2; subst h3; rfl
theorem mem_insA (z x : Arr) : ∀ L, z ∈ insA x L ↔ z = x ∨ z ∈ L
  | [] => by simp [insA]
  | y :: r => by
    unfold insA
    split
    · rw [List.mem_cons, mem_insA z x r, List.mem_cons]
      constructor
      · rintro (h | h | h)
        · exact .inr (.inl h)
        · exact .inl h
        · exact .inr (.inr h)
      · rintro (h | h | h)
        · exact .inr (.inl h)
        · exact .inl h
        · exact .inr (.inr h)
    · split
      · rename_i h
        have := arr_ext h
        subst this
        simp
      · simp
theorem inc_insA (x : Arr) : ∀ {L : List Arr}, IncA L → IncA (insA x L)
  | [], _ => by simp [insA, IncA]
  | y :: r, h => by
    obtain ⟨h1, h2⟩ := List.pairwise_cons.1 h
    unfold insA
    split
    · rename_i hy
      refine List.pairwise_cons.2 ⟨fun z hz => ?_, inc_insA x h2⟩
      rcases (mem_insA z x r).1 hz with rfl | hz
      · exact hy
      · exact h1 z hz
    · rename_i hy
      split
      · exact h
      · rename_i he
        have hx : aheadB x y = true := by
          rw [aheadB_iff] at hy ⊢
          unfold arrEq at he
          omega
        refine List.pairwise_cons.2 ⟨fun z hz => ?_, h⟩
        rcases List.mem_cons.1 hz with rfl | hz
        · exact hx
        · exact aheadB_trans hx (h1 z hz)
theorem srtA_both : ∀ (l o : List Arr), IncA o → IncA (l.foldl (fun out x => insA x out) o) ∧ ∀ z, z ∈ l.foldl (fun out x => insA x out) o ↔ z ∈ o ∨ z ∈ l
  | [], o, h => ⟨h, fun z => by simp⟩
  | x :: r, o, h => by
    obtain ⟨k1, k2⟩ := srtA_both r (insA x o) (inc_insA x h)
    refine ⟨k1, fun z => ?_⟩
    rw [List.foldl_cons, k2 z, mem_insA, List.mem_cons]
    constructor
    · rintro ((h | h) | h)
      · exact .inr (.inl h)
      · exact .inl h
      · exact .inr (.inr h)
    · rintro (h | h | h)
      · exact .inl (.inr h)
      · exact .inl (.inl h)
      · exact .inr h
theorem inc_srtA (l : List Arr) : IncA (srtA l) := (srtA_both l [] (by simp [IncA])).1
theorem mem_srtA (l : List Arr) (z : Arr) : z ∈ srtA l ↔ z ∈ l := by rw [show (z ∈ srtA l ↔ _) from (srtA_both l [] (by simp [IncA])).2 z]; simp

/-! The machine of both may be. -/
theorem mem_rngI (n : Nat) (x : Int) : x ∈ rngI n ↔ 0 ≤ x ∧ x < n := by
  unfold rngI
  rw [List.mem_map]
  constructor
  · rintro ⟨k, hk, rfl⟩
    have := List.mem_range.1 hk
    omega
  · rintro ⟨h1, h2⟩
    exact ⟨x.toNat, List.mem_range.2 (by omega), by omega⟩
theorem inc_rngI : ∀ n, Inc (rngI n)
  | 0 => by simp [rngI, Inc]
  | n + 1 => by
    rw [rngI_succ]
    refine List.pairwise_append.2 ⟨inc_rngI n, by simp, fun x hx y hy => ?_⟩
    have h1 := (mem_rngI n x).1 hx
    have h2 : y = n := by simpa using hy
    omega
theorem mem_endsP (a b : Mach) (L : List (Int × Int)) (x : Int) : x ∈ endsP a b L L.length ↔ ∃ (i : Nat) (p : Int × Int), L[i]? = some p ∧ x = i ∧ p.1 ∈ a.ends ∧ p.2 ∈ b.ends := by
  unfold endsP
  rw [List.mem_filter, mem_rngI, Bool.and_eq_true, hasB_iff, hasB_iff]
  constructor
  · rintro ⟨⟨h1, h2⟩, h3, h4⟩
    have hl : x.toNat < L.length := by omega
    refine ⟨x.toNat, L[x.toNat], List.getElem?_eq_getElem hl, by omega, ?_, ?_⟩
    · rwa [List.getElem?_eq_getElem hl, Option.getD_some] at h3
    · rwa [List.getElem?_eq_getElem hl, Option.getD_some] at h4
  · rintro ⟨i, p, hp, rfl, h3, h4⟩
    have hl := (List.getElem?_eq_some_iff.1 hp).1
    rw [Int.toNat_natCast, hp, Option.getD_some]
    exact ⟨⟨by omega, by omega⟩, h3, h4⟩
theorem may_beside {a b : Mach} (ha : mayB a = true) (hb : mayB b = true) {ofA ofB : List Int} {s : BS} (h : besideS a b ofA ofB = some s) : mayB (besideM a b s) = true := by
  obtain ⟨hI, h1, h2⟩ := beside_inv ha hb h
  have hz := mayB_size ha
  unfold sizeOk at hz
  have hst : 1 ≤ (besideM a b s).st ∧ (besideM a b s).st ≤ 256 ∧ (s.ps.length : Int) ≤ (besideM a b s).st := by
    unfold besideM; dsimp only; split <;> omega
  rw [mayB_go ⟨hst.1, hst.2.1, hz.2.2.1, hz.2.2.2.1, Nat.le_trans (srtA_len _) h2⟩ ((rowB_iff _ (by omega) _).2 ⟨inc_rngI _, fun x hx => ?_⟩) ((rowB_iff _ (by omega) _).2 ⟨(inc_rngI _).filter _, fun x hx => ?_⟩)]
  · rw [arrsFrom_iff]
    refine ⟨fun x hx => ?_, inc_srtA _, fun _ _ => rfl⟩
    obtain ⟨i, p, q, e, -, hp, h0, h1, hq, hm, rfl⟩ := hI.fwd x ((mem_srtA _ _).1 hx)
    have hi := (List.getElem?_eq_some_iff.1 hp).1
    have hj := findP_lt hm
    exact ⟨by dsimp only; omega, by dsimp only; omega, by dsimp only; omega, by dsimp only; omega, h0, h1⟩
  · have h3 := (mem_rngI _ x).1 hx
    obtain ⟨t, ht⟩ := hI.pre
    have : (crossP a.starts b.starts).length ≤ s.ps.length := by rw [ht, List.length_append]; omega
    omega
  · have h3 := (mem_rngI _ x).1 (List.mem_filter.1 hx).1
    omega

/-! Words. -/
structure Sim (s : BS) (ss sa sb : List Int) : Prop where
  mem : ∀ x, x ∈ ss ↔ ∃ (i : Nat) (p : Int × Int), s.ps[i]? = some p ∧ x = i ∧ p.1 ∈ sa ∧ p.2 ∈ sb
  all : ∀ x ∈ sa, ∀ y ∈ sb, (x, y) ∈ s.ps
theorem step_one {ars : List Arr} {l : List Int} {x y e : Int} (hx : x ∈ l) (h : y ∈ stepL ars [x] e) : y ∈ stepL ars l e := by
  obtain ⟨c, hc, h1, h2, h3⟩ := (mem_stepL _ _ _ _).1 h
  have : c.f = x := by simpa using h2
  exact (mem_stepL _ _ _ _).2 ⟨c, hc, h1, by rw [this]; exact hx, h3⟩
theorem step_of {ars : List Arr} {l : List Int} {y e : Int} (h : y ∈ stepL ars l e) : ∃ x ∈ l, y ∈ stepL ars [x] e := by
  obtain ⟨c, hc, h1, h2, h3⟩ := (mem_stepL _ _ _ _).1 h
  exact ⟨c.f, h2, (mem_stepL _ _ _ _).2 ⟨c, hc, h1, by simp, h3⟩⟩
theorem half_of {ars : List Arr} {l : List Int} {y e : Int} {x : Bool} (h : y ∈ (if x = true then stepL ars l e else l)) : ∃ z ∈ l, (if x = true then y ∈ stepL ars [z] e else y = z) := by
  cases x with
  | true => exact step_of h
  | false => exact ⟨y, h, rfl⟩
theorem half_one {ars : List Arr} {l : List Int} {y z e : Int} {x : Bool} (hz : z ∈ l) (h : if x = true then y ∈ stepL ars [z] e else y = z) : y ∈ (if x = true then stepL ars l e else l) := by
  cases x with
  | true => exact step_one hz h
  | false => have : y = z := h; subst this; exact hz
theorem sim_step {a b : Mach} {ofA ofB : List Int} {s : BS} (hI : BInv a b ofA ofB s (fun i _ _ => i < s.ps.length)) {ss sa sb : List Int} (h : Sim s ss sa sb) {e : Int} (h0 : 0 ≤ e) (h1 : e < a.ev) (ho : hasB ofA e = true ∨ hasB ofB e = true) :
    Sim s (stepL (besideM a b s).arrows ss e) (if hasB ofA e = true then stepL a.arrows sa e else sa) (if hasB ofB e = true then stepL b.arrows sb e else sb) := by
  have hK : ∀ x y, x ∈ (if hasB ofA e = true then stepL a.arrows sa e else sa) → y ∈ (if hasB ofB e = true then stepL b.arrows sb e else sb) → ∃ (j : Nat) (p : Int × Int), s.ps[j]? = some p ∧ p.1 ∈ sa ∧ p.2 ∈ sb ∧ (x, y) ∈ leadsP a.arrows b.arrows p e (hasB ofA e) (hasB ofB e) := by
    intro x y hx hy
    obtain ⟨u, hu, hu'⟩ := half_of hx
    obtain ⟨v, hv, hv'⟩ := half_of hy
    obtain ⟨j, hj⟩ := List.getElem?_of_mem (h.all u hu v hv)
    exact ⟨j, (u, v), hj, hu, hv, (mem_leadsP _ _ _ _ _ _ _).2 ⟨ho, hu', hv'⟩⟩
  refine ⟨fun x => ?_, fun x hx y hy => ?_⟩
  · rw [mem_stepL]
    show (∃ c ∈ srtA s.ar, _) ↔ _
    constructor
    · rintro ⟨c, hc, k1, k2, k3⟩
      obtain ⟨i, p, q, e', -, hp, -, -, hq, hm, rfl⟩ := hI.fwd c ((mem_srtA _ _).1 hc)
      dsimp only at k1 k2 k3
      subst k1
      obtain ⟨i', p', hp', hi, hA, hB⟩ := (h.mem _).1 k2
      have : i = i' := by omega
      subst this
      rw [hp] at hp'
      cases hp'
      obtain ⟨-, q1, q2⟩ := (mem_leadsP _ _ _ _ _ _ _).1 hq
      exact ⟨_, q, findP_nth hm, k3.symm, half_one hA q1, half_one hB q2⟩
    · rintro ⟨i, q, hq, rfl, hA, hB⟩
      obtain ⟨j, p, hp, pA, pB, hl⟩ := hK _ _ hA hB
      obtain ⟨k1, k2⟩ := hI.bwd j p q e (List.getElem?_eq_some_iff.1 hp).1 hp h0 h1 hl
      exact ⟨_, (mem_srtA _ _).2 k2, rfl, (h.mem _).2 ⟨j, p, hp, rfl, pA, pB⟩, by dsimp only; rw [findP_at hI.nd hq]⟩
  · obtain ⟨j, p, hp, pA, pB, hl⟩ := hK _ _ hx hy
    exact (hI.bwd j p (x, y) e (List.getElem?_eq_some_iff.1 hp).1 hp h0 h1 hl).1
theorem sim_none {a b : Mach} {ofA ofB : List Int} {s : BS} (hI : BInv a b ofA ofB s (fun i _ _ => i < s.ps.length)) (ss : List Int) {e : Int} (ho : ¬ (hasB ofA e = true ∨ hasB ofB e = true)) : stepL (besideM a b s).arrows ss e = [] := by
  refine List.eq_nil_iff_forall_not_mem.2 fun x hx => ?_
  obtain ⟨c, hc, k1, -, -⟩ := (mem_stepL _ _ _ _).1 hx
  obtain ⟨i, p, q, e', -, hp, -, -, hq, hm, rfl⟩ := hI.fwd c ((mem_srtA _ _).1 hc)
  dsimp only at k1
  subst k1
  exact ho ((mem_leadsP _ _ _ _ _ _ _).1 hq).1
/-- What of a word is of some events. -/
abbrev ownW (l word : List Int) : List Int := word.filter fun e => hasB l e
theorem afterL_own (ars : List Arr) (l ss : List Int) (e : Int) (r : List Int) : afterL ars ss (ownW l (e :: r)) = afterL ars (if hasB l e = true then stepL ars ss e else ss) (ownW l r) := by
  cases h : hasB l e
  · rw [if_neg (by simp)]
    simp [ownW, h]
  · rw [if_pos rfl]
    simp [ownW, h, afterL]
theorem sim_after {a b : Mach} {ofA ofB : List Int} {s : BS} (hI : BInv a b ofA ofB s (fun i _ _ => i < s.ps.length)) : ∀ (word : List Int) {ss sa sb : List Int}, Sim s ss sa sb → (∀ e ∈ word, 0 ≤ e ∧ e < a.ev) → (∀ e ∈ word, hasB ofA e = true ∨ hasB ofB e = true) →
    Sim s (afterL (besideM a b s).arrows ss word) (afterL a.arrows sa (ownW ofA word)) (afterL b.arrows sb (ownW ofB word))
  | [], _, _, _, h, _, _ => h
  | e :: r, ss, sa, sb, h, hw, ho => by
    rw [afterL_own, afterL_own]
    exact sim_after hI r (sim_step hI h (hw e (by simp)).1 (hw e (by simp)).2 (ho e (by simp))) (fun e' he' => hw e' (by simp [he'])) (fun e' he' => ho e' (by simp [he']))
theorem sim_stop {a b : Mach} {ofA ofB : List Int} {s : BS} (hI : BInv a b ofA ofB s (fun i _ _ => i < s.ps.length)) : ∀ (word : List Int) (ss : List Int), (∃ e ∈ word, ¬ (hasB ofA e = true ∨ hasB ofB e = true)) → afterL (besideM a b s).arrows ss word = []
  | [], _, h => by obtain ⟨e, he, -⟩ := h; simp at he
  | e :: r, ss, h => by
    show afterL _ (stepL _ ss e) r = []
    by_cases ho : hasB ofA e = true ∨ hasB ofB e = true
    · obtain ⟨e', he', hn⟩ := h
      rcases List.mem_cons.1 he' with rfl | he'
      · exact absurd ho hn
      · exact sim_stop hI r _ ⟨e', he', hn⟩
    · rw [sim_none hI ss ho, afterL_nil]
/-- D3. -/
theorem beside_accepts {a b : Mach} (ha : mayB a = true) (hb : mayB b = true) {ofA ofB : List Int} {s : BS} (h : besideS a b ofA ofB = some s) (word : List Int) (hw : ∀ e ∈ word, 0 ≤ e ∧ e < a.ev) :
    acceptsB (besideM a b s) word = (word.all (fun e => hasB ofA e || hasB ofB e) && (acceptsB a (ownW ofA word) && acceptsB b (ownW ofB word))) := by
  obtain ⟨hI, -, -⟩ := beside_inv ha hb h
  rw [Bool.eq_iff_iff, accepts_iff, Bool.and_eq_true, Bool.and_eq_true, accepts_iff, accepts_iff, List.all_eq_true]
  by_cases ho : ∀ e ∈ word, hasB ofA e = true ∨ hasB ofB e = true
  · have h0 : Sim s (besideM a b s).starts a.starts b.starts := by
      obtain ⟨t, ht⟩ := hI.pre
      refine ⟨fun x => ?_, fun x hx y hy => by rw [ht]; exact List.mem_append_left _ ((mem_crossP _ _ _).2 ⟨hx, hy⟩)⟩
      show x ∈ rngI _ ↔ _
      rw [mem_rngI]
      constructor
      · rintro ⟨k1, k2⟩
        have hl : x.toNat < (crossP a.starts b.starts).length := by omega
        have hg : (crossP a.starts b.starts)[x.toNat]? = some (crossP a.starts b.starts)[x.toNat] := List.getElem?_eq_getElem hl
        obtain ⟨m1, m2⟩ := (mem_crossP _ _ _).1 (List.mem_of_getElem? hg)
        exact ⟨x.toNat, _, by rw [ht, List.getElem?_append_left hl]; exact hg, by omega, m1, m2⟩
      · rintro ⟨i, p, hp, rfl, hA, hB⟩
        have hm : p ∈ crossP a.starts b.starts := (mem_crossP _ _ _).2 ⟨hA, hB⟩
        have h1 := findP_at hI.nd hp
        rw [ht, findP_app t hm] at h1
        have := findP_lt hm
        omega
    have h1 := sim_after hI word h0 hw ho
    constructor
    · rintro ⟨x, hx, he⟩
      obtain ⟨i, p, hp, rfl, hA, hB⟩ := (h1.mem x).1 hx
      obtain ⟨j, p', hp', hj, eA, eB⟩ := (mem_endsP _ _ _ _).1 he
      have : i = j := by omega
      subst this
      rw [hp] at hp'
      cases hp'
      exact ⟨fun e he => by simpa using ho e he, ⟨_, hA, eA⟩, ⟨_, hB, eB⟩⟩
    · rintro ⟨-, ⟨x, hx, ex⟩, ⟨y, hy, ey⟩⟩
      obtain ⟨i, hi⟩ := List.getElem?_of_mem (h1.all x hx y hy)
      exact ⟨(i : Int), (h1.mem _).2 ⟨i, (x, y), hi, rfl, hx, hy⟩, (mem_endsP _ _ _ _).2 ⟨i, (x, y), hi, rfl, ex, ey⟩⟩
  · have hE : ∃ e ∈ word, ¬ (hasB ofA e = true ∨ hasB ofB e = true) := by
      refine Classical.byContradiction fun hc => ho fun e he => Classical.byContradiction fun hn => hc ⟨e, he, hn⟩
    rw [sim_stop hI word _ hE]
    constructor
    · rintro ⟨x, hx, -⟩; simp at hx
    · rintro ⟨h1, -⟩
      exact absurd (fun e he => by simpa using h1 e he) ho

end Go.Proofs.YtkkkacmccndinaaDoor
namespace Go.Proofs.YtkkkacmccndinaaDoor
open Go.RowKit
set_option linter.unusedVariables false
set_option linter.unusedSectionVars false

section
variable {σ : Type} [DecidableEq σ]
def findG : List σ → σ → Nat
  | [], _ => 0
  | a :: r, s => if a = s then 0 else findG r s + 1
theorem findG_le : ∀ (L : List σ) (s : σ), findG L s ≤ L.length
  | [], _ => Nat.le_refl _
  | a :: r, s => by
    have := findG_le r s
    unfold findG; split <;> simp <;> omega
theorem findG_get : ∀ {L : List σ} {s : σ}, findG L s < L.length → L[findG L s]? = some s
  | [], _, h => by simp [findG] at h
  | a :: r, s, h => by
    unfold findG at h ⊢
    by_cases e : a = s
    · rw [if_pos e]; simp [e]
    · rw [if_neg e] at h ⊢
      have : findG r s < r.length := by simp at h; omega
      simpa using findG_get this
theorem findG_new : ∀ {L : List σ} {s : σ}, findG L s = L.length ↔ s ∉ L
  | [], s => by simp [findG]
  | a :: r, s => by
    unfold findG
    by_cases e : a = s
    · rw [if_pos e]; simp [e]
    · rw [if_neg e]
      have := findG_new (L := r) (s := s)
      simp only [List.length_cons, Nat.add_right_cancel_iff, List.mem_cons, not_or]
      rw [this]
      exact ⟨fun h => ⟨fun h' => e h'.symm, h⟩, fun h => h.2⟩
end
/-- What has been found, and the arrows. -/
structure GS (σ : Type) where
  sets : List σ
  ar : List Arr
section
variable {σ : Type} [DecidableEq σ] (δ : σ → Nat → σ)
def gStep (k : Nat) (s : GS σ) (e : Nat) : GS σ := match s.sets[k]? with
  | none => s
  | some l => ⟨if findG s.sets (δ l e) = s.sets.length then s.sets ++ [δ l e] else s.sets, s.ar ++ [⟨(k : Int), (e : Int), (findG s.sets (δ l e) : Nat)⟩]⟩
def gRow (k : Nat) (s : GS σ) (n : Nat) : GS σ := (List.range n).foldl (gStep δ k) s
theorem gRow_succ (k : Nat) (s : GS σ) (n : Nat) : gRow δ k s (n + 1) = gStep δ k (gRow δ k s n) n := by
  unfold gRow; rw [List.range_succ, List.foldl_append]; rfl
def gGo (ev : Nat) : Nat → Nat → GS σ → GS σ
  | 0, _, s => s
  | f + 1, k, s => if k < s.sets.length then gGo ev f (k + 1) (gRow δ k s ev) else s
theorem gStep_pre (k : Nat) (s : GS σ) (e : Nat) : ∃ t, (gStep δ k s e).sets = s.sets ++ t := by
  unfold gStep
  split
  · exact ⟨[], by simp⟩
  · dsimp only
    split
    · exact ⟨_, rfl⟩
    · exact ⟨[], by simp⟩
theorem gRow_pre (k : Nat) (s : GS σ) : ∀ n, ∃ t, (gRow δ k s n).sets = s.sets ++ t
  | 0 => ⟨[], by simp [gRow]⟩
  | n + 1 => by
    obtain ⟨t, h1⟩ := gRow_pre k s n
    obtain ⟨u, h3⟩ := gStep_pre δ k (gRow δ k s n) n
    exact ⟨t ++ u, by rw [gRow_succ, h3, h1, List.append_assoc]⟩

structure GI (s0 : σ) (ev : Nat) (n : Nat) (s : GS σ) : Prop where
  nd : s.sets.Nodup
  hd : s.sets[0]? = some s0
  rch : ∀ l ∈ s.sets, ∃ u : List Int, (∀ e ∈ u, 0 ≤ e ∧ e < (ev : Int)) ∧ l = runF δ s0 u
  len : s.ar.length = n
  ar : ∀ i, i < n → ∃ f e t : Nat, ∃ l, s.ar[i]? = some ⟨(f : Int), (e : Int), (t : Int)⟩ ∧ f * ev + e = i ∧ e < ev ∧ s.sets[f]? = some l ∧ s.sets[t]? = some (δ l e)
theorem GI.pos {s0 : σ} {ev n : Nat} {s : GS σ} (h : GI δ s0 ev n s) : 0 < s.sets.length := (List.getElem?_eq_some_iff.1 h.hd).1
theorem gi_start (s0 : σ) (ev : Nat) : GI δ s0 ev (0 * ev) ⟨[s0], []⟩ := by
  refine ⟨by simp, rfl, fun l hl => ?_, by simp, fun i hi => by omega⟩
  have : l = s0 := by simpa using hl
  exact ⟨[], by simp, this⟩
theorem gi_step {s0 : σ} {ev k e : Nat} {s : GS σ} (h : GI δ s0 ev (k * ev + e) s) (hk : k < s.sets.length) (he : e < ev) : GI δ s0 ev (k * ev + (e + 1)) (gStep δ k s e) := by
  obtain ⟨l, hl⟩ : ∃ l, s.sets[k]? = some l := ⟨_, List.getElem?_eq_getElem hk⟩
  obtain ⟨to, hto⟩ : ∃ to, to = δ l e := ⟨_, rfl⟩
  have e1 : gStep δ k s e = ⟨if findG s.sets to = s.sets.length then s.sets ++ [to] else s.sets, s.ar ++ [⟨(k : Int), (e : Int), (findG s.sets to : Nat)⟩]⟩ := by
    unfold gStep; rw [hl, hto]
  have hin : ∃ u : List Int, (∀ e ∈ u, 0 ≤ e ∧ e < (ev : Int)) ∧ to = runF δ s0 u := by
    obtain ⟨u, hu, e2⟩ := h.rch l (List.mem_of_getElem? hl)
    refine ⟨u ++ [(e : Int)], fun x hx => ?_, by rw [hto, e2, runF_snoc]; rfl⟩
    rcases List.mem_append.1 hx with hx | hx
    · exact hu x hx
    · have : x = (e : Int) := by simpa using hx
      omega
  have hlk : ∀ (j : Nat) (x : σ), s.sets[j]? = some x → (if findG s.sets to = s.sets.length then s.sets ++ [to] else s.sets)[j]? = some x := by
    intro j x hj
    split
    · rw [List.getElem?_append_left (List.getElem?_eq_some_iff.1 hj).1]; exact hj
    · exact hj
  have hnew : (if findG s.sets to = s.sets.length then s.sets ++ [to] else s.sets)[findG s.sets to]? = some to := by
    have := findG_le s.sets to
    split
    · rename_i h1
      rw [h1, List.getElem?_append_right (Nat.le_refl _)]; simp
    · exact findG_get (by omega)
  rw [e1]
  refine ⟨?_, hlk 0 _ h.hd, ?_, ?_, ?_⟩
  · dsimp only
    split
    · rename_i h1
      rw [List.nodup_append]
      exact ⟨h.nd, by simp, fun x hx y hy e => by simp at hy; subst hy; subst e; exact findG_new.1 h1 hx⟩
    · exact h.nd
  · dsimp only
    intro x hx
    split at hx
    · rcases List.mem_append.1 hx with hx | hx
      · exact h.rch x hx
      · have : x = to := by simpa using hx
        rw [this]; exact hin
    · exact h.rch x hx
  · simp only [List.length_append, List.length_cons, List.length_nil, h.len]; omega
  · intro i hi
    by_cases hlt : i < k * ev + e
    · obtain ⟨f, e', t, l', h1, h2, h3, h4, h5⟩ := h.ar i hlt
      exact ⟨f, e', t, l', by rw [List.getElem?_append_left (by rw [h.len]; exact hlt)]; exact h1, h2, h3, hlk _ _ h4, hlk _ _ h5⟩
    · have hi' : i = k * ev + e := by omega
      refine ⟨k, e, findG s.sets to, l, ?_, hi'.symm, he, hlk _ _ hl, by rw [← hto]; exact hnew⟩
      rw [List.getElem?_append_right (by rw [h.len]; omega), h.len, hi']; simp
theorem gi_row {s0 : σ} {ev k : Nat} {s : GS σ} (h : GI δ s0 ev (k * ev) s) (hk : k < s.sets.length) : ∀ n, n ≤ ev → GI δ s0 ev (k * ev + n) (gRow δ k s n)
  | 0, _ => h
  | n + 1, hn => by
    rw [gRow_succ]
    obtain ⟨t, ht⟩ := gRow_pre δ k s n
    exact gi_step δ (gi_row h hk n (by omega)) (by rw [ht, List.length_append]; omega) (by omega)
theorem gi_go {s0 : σ} {ev N : Nat} (hN : ∀ (n : Nat) (s : GS σ), GI δ s0 ev n s → s.sets.length ≤ N) : ∀ (f k : Nat) (s : GS σ), GI δ s0 ev (k * ev) s → k ≤ s.sets.length → N < f + k → GI δ s0 ev ((gGo δ ev f k s).sets.length * ev) (gGo δ ev f k s)
  | 0, k, s, h, hk, hf => by have := hN _ _ h; omega
  | f + 1, k, s, h, hk, hf => by
    rw [gGo]
    by_cases hlt : k < s.sets.length
    · rw [if_pos hlt]
      obtain ⟨t, ht⟩ := gRow_pre δ k s ev
      refine gi_go hN f (k + 1) _ ?_ (by rw [ht, List.length_append]; omega) (by omega)
      have := gi_row δ h hlt ev (Nat.le_refl _)
      rw [Nat.succ_mul]; exact this
    · rw [if_neg hlt]
      have : k = s.sets.length := by omega
      rw [← this]; exact h

/-! The machine. -/
def endsG (fin : σ → Bool) : Nat → List σ → List Int
  | _, [] => []
  | k, a :: r => if fin a = true then (k : Int) :: endsG fin (k + 1) r else endsG fin (k + 1) r
theorem mem_endsG (fin : σ → Bool) : ∀ (L : List σ) (k : Nat) (x : Int), x ∈ endsG fin k L ↔ ∃ j a, L[j]? = some a ∧ x = ((k + j : Nat) : Int) ∧ fin a = true
  | [], k, x => by simp [endsG]
  | b :: r, k, x => by
    have ih := mem_endsG fin r (k + 1) x
    have hr : (∃ j a, (b :: r)[j]? = some a ∧ x = ((k + j : Nat) : Int) ∧ fin a = true) ↔ (x = (k : Int) ∧ fin b = true) ∨ (∃ j a, r[j]? = some a ∧ x = ((k + 1 + j : Nat) : Int) ∧ fin a = true) := by
      constructor
      · rintro ⟨j, a, h1, h2, h3⟩
        rcases j with _ | j
        · have e : b = a := by simpa using h1
          subst e
          exact .inl ⟨by simpa using h2, h3⟩
        · exact .inr ⟨j, a, by simpa using h1, by rw [h2]; congr 1; omega, h3⟩
      · rintro (⟨h1, h2⟩ | ⟨j, a, h1, h2, h3⟩)
        · exact ⟨0, b, rfl, by simpa using h1, h2⟩
        · exact ⟨j + 1, a, by simpa using h1, by rw [h2]; congr 1; omega, h3⟩
    rw [hr, ← ih, endsG]
    by_cases h : fin b = true
    · rw [if_pos h, List.mem_cons]
      constructor
      · rintro (h1 | h1)
        · exact .inl ⟨h1, h⟩
        · exact .inr h1
      · rintro (h1 | h1)
        · exact .inl h1.1
        · exact .inr h1
    · rw [if_neg h]
      constructor
      · exact .inr
      · rintro (h1 | h1)
        · exact absurd h1.2 h
        · exact h1
theorem inc_endsG (fin : σ → Bool) : ∀ (L : List σ) (k : Nat), Inc (endsG fin k L)
  | [], k => by simp [endsG, Inc]
  | b :: r, k => by
    unfold endsG
    split
    · rw [Inc, List.pairwise_cons]
      refine ⟨fun x hx => ?_, inc_endsG fin r (k + 1)⟩
      obtain ⟨j, a, -, h2, -⟩ := (mem_endsG fin r (k + 1) x).1 hx
      omega
    · exact inc_endsG fin r (k + 1)
def gM (ev : Int) (fin : σ → Bool) (s : GS σ) : Mach := ⟨s.sets.length, ev, [0], s.ar, endsG fin 0 s.sets⟩

variable {δ} {s0 : σ} {ev : Nat} {s : GS σ} {fin : σ → Bool}
theorem g_arr (h : GI δ s0 ev (s.sets.length * ev) s) {a : Arr} (ha : a ∈ s.ar) : ∃ (i f e t : Nat) (l : σ), s.ar[i]? = some a ∧ a = ⟨(f : Int), (e : Int), (t : Int)⟩ ∧ f * ev + e = i ∧ e < ev ∧ s.sets[f]? = some l ∧ s.sets[t]? = some (δ l e) := by
  obtain ⟨i, hi⟩ := List.mem_iff_getElem?.1 ha
  have hlt := (List.getElem?_eq_some_iff.1 hi).1
  rw [h.len] at hlt
  obtain ⟨f, e, t, l, h1, h2, h3, h4, h5⟩ := h.ar i hlt
  rw [hi] at h1
  exact ⟨i, f, e, t, l, hi, Option.some.inj h1, h2, h3, h4, h5⟩
theorem g_inc (h : GI δ s0 ev (s.sets.length * ev) s) : IncA s.ar := by
  rw [IncA, List.pairwise_iff_getElem]
  intro i j hi hj hij
  obtain ⟨f, e, t, l, h1, h2, h3, -, -⟩ := h.ar i (by rw [← h.len]; exact hi)
  obtain ⟨f', e', t', l', k1, k2, k3, -, -⟩ := h.ar j (by rw [← h.len]; exact hj)
  rw [List.getElem?_eq_getElem hi] at h1
  rw [List.getElem?_eq_getElem hj] at k1
  rw [Option.some.inj h1, Option.some.inj k1]
  refine (aheadB_iff _ _).2 ?_
  dsimp only
  rcases (code_lt h3 k3 (f := f) (f' := f')).1 (by omega) with h4 | ⟨h4, h5⟩
  · exact .inl (by omega)
  · exact .inr ⟨by omega, .inl (by omega)⟩
theorem g_may (h : GI δ s0 ev (s.sets.length * ev) s) (h256 : s.sets.length ≤ 256) (he8 : ev ≤ 8) : mayB (gM (ev : Int) fin s) = true := by
  have hp := h.pos
  have hlen : s.ar.length ≤ 256 * 8 := by rw [h.len]; exact Nat.mul_le_mul h256 he8
  rw [mayB_go (m := gM (ev : Int) fin s) ⟨by show (1 : Int) ≤ s.sets.length; omega, by show (s.sets.length : Int) ≤ 256; omega, by show (0 : Int) ≤ (ev : Int); omega, by show (ev : Int) ≤ 8; omega, by show s.ar.length ≤ 4096; omega⟩ ((rowB_iff _ (by show (s.sets.length : Int) ≤ _; omega) _).2 ⟨by show Inc [0]; simp [Inc], fun x hx => by have hx : x ∈ [(0 : Int)] := hx; have : x = 0 := List.mem_singleton.1 hx; show 0 ≤ x ∧ x < (s.sets.length : Int); omega⟩) ((rowB_iff _ (by show (s.sets.length : Int) ≤ _; omega) _).2 ⟨inc_endsG _ _ _, fun x hx => by
    obtain ⟨j, a, h1, h2, -⟩ := (mem_endsG _ _ _ _).1 hx
    have := (List.getElem?_eq_some_iff.1 h1).1
    show 0 ≤ x ∧ x < (s.sets.length : Int); omega⟩)]
  rw [arrsFrom_iff]
  refine ⟨fun a ha => ?_, g_inc h, fun _ _ => rfl⟩
  obtain ⟨i, f, e, t, l, -, rfl, -, h3, h4, h5⟩ := g_arr h ha
  have h4 := (List.getElem?_eq_some_iff.1 h4).1
  have h5 := (List.getElem?_eq_some_iff.1 h5).1
  exact ⟨by dsimp only; omega, by show (f : Int) < s.sets.length; omega, by dsimp only; omega, by show (t : Int) < s.sets.length; omega, by dsimp only; omega, by show (e : Int) < (ev : Int); omega⟩
theorem g_det (h : GI δ s0 ev (s.sets.length * ev) s) (h256 : s.sets.length ≤ 256) (he8 : ev ≤ 8) : detB (gM (ev : Int) fin s) = true := by
  unfold detB
  rw [g_may h h256 he8, Bool.true_and, Bool.and_eq_true, Bool.and_eq_true]
  refine ⟨rfl, ?_, ?_⟩
  · rw [decide_eq_true_eq]
    show (s.ar.length : Int) = (s.sets.length : Int) * (ev : Int)
    rw [h.len, Int.natCast_mul]
  · show goD (ev : Int) 0 s.ar = true
    rw [goD_iff ev s.ar 0 (fun a ha => by obtain ⟨i, f, e, t, l, -, rfl, -, h3, -, -⟩ := g_arr h ha; exact ⟨by dsimp only; omega, by dsimp only; omega⟩)]
    refine List.ext_getElem? fun i => ?_
    rw [List.getElem?_map]
    by_cases hi : i < s.ar.length
    · obtain ⟨f, e, t, l, h1, h2, h3, -, -⟩ := h.ar i (by rw [← h.len]; exact hi)
      rw [h1, List.getElem?_range' (by exact hi)]
      simp [codeN, h2]
    · rw [List.getElem?_eq_none (by omega), List.getElem?_eq_none (by simp; omega)]; rfl
theorem g_step (h : GI δ s0 ev (s.sets.length * ev) s) {k e : Nat} {l : σ} (hk : s.sets[k]? = some l) (he : e < ev) : ∃ t : Nat, stepL s.ar [(k : Int)] (e : Int) = [(t : Int)] ∧ s.sets[t]? = some (δ l e) := by
  have hlt := (List.getElem?_eq_some_iff.1 hk).1
  obtain ⟨f, e', t, l', h1, h2, h3, h4, h5⟩ := h.ar (k * ev + e) (code_bd hlt he)
  obtain ⟨q1, q2⟩ := code_inj h3 he h2
  rw [q1, q2] at h1 h2
  rw [q1, hk] at h4
  rw [q2] at h5
  have h4 := Option.some.inj h4
  subst h4
  refine ⟨t, inc_ext (inc_srt _) (by simp [Inc]) (fun x => ?_), h5⟩
  rw [mem_stepL]
  constructor
  · rintro ⟨a, ha, ha1, ha2, ha3⟩
    obtain ⟨i, f1, e1, t1, l1, k0, rfl, k2, k3, -, -⟩ := g_arr h ha
    dsimp only at ha1 ha2 ha3
    have q3 : e1 = e := by omega
    have q4 : f1 = k := by have : (f1 : Int) = (k : Int) := List.mem_singleton.1 ha2
                           omega
    rw [q3, q4] at k2
    rw [← k2, h1] at k0
    have q5 := Option.some.inj k0
    injection q5 with _ _ q6
    rw [← ha3, ← q6]; simp
  · intro hx
    have : x = (t : Int) := List.mem_singleton.1 hx
    rw [this]
    exact ⟨_, List.mem_of_getElem? h1, rfl, by simp, rfl⟩
theorem g_after (h : GI δ s0 ev (s.sets.length * ev) s) : ∀ (word : List Int) {k : Nat} {l : σ}, wordB (ev : Int) word = true → s.sets[k]? = some l → ∃ t : Nat, afterL s.ar [(k : Int)] word = [(t : Int)] ∧ s.sets[t]? = some (runF δ l word)
  | [], k, l, _, hk => ⟨k, rfl, hk⟩
  | x :: r, k, l, hw, hk => by
    obtain ⟨hx, hr⟩ := wordB_cons hw
    obtain ⟨e, rfl⟩ : ∃ e : Nat, x = (e : Int) := ⟨x.toNat, by omega⟩
    obtain ⟨t, h1, h2⟩ := g_step h hk (e := e) (by omega)
    obtain ⟨t', h3, h4⟩ := g_after h r hr h2
    exact ⟨t', by show afterL s.ar (stepL s.ar [(k : Int)] (e : Int)) r = _; rw [h1, h3], h4⟩
theorem g_accepts (h : GI δ s0 ev (s.sets.length * ev) s) {word : List Int} (hw : wordB (ev : Int) word = true) : acceptsB (gM (ev : Int) fin s) word = fin (runF δ s0 word) := by
  obtain ⟨t, h1, h2⟩ := g_after h word hw h.hd
  rw [Bool.eq_iff_iff, accepts_iff]
  have e1 : afterL (gM (ev : Int) fin s).arrows (gM (ev : Int) fin s).starts word = [(t : Int)] := h1
  rw [e1]
  constructor
  · rintro ⟨x, hx, he⟩
    have : x = (t : Int) := by simpa using hx
    subst this
    obtain ⟨j, a, k1, k2, k3⟩ := (mem_endsG _ _ _ _).1 he
    have : t = j := by omega
    subst this
    rw [h2] at k1
    rw [Option.some.inj k1]; exact k3
  · intro hf
    exact ⟨(t : Int), by simp, (mem_endsG _ _ _ _).2 ⟨t, _, h2, by simp, hf⟩⟩
end

/-! The least machine, by what a language goes on with. -/
/-- What is accepted behind a word. -/
abbrev Lang := List Int → Bool
def langD (f : Lang) (e : Nat) : Lang := fun u => f ((e : Int) :: u)
def langM (m : Mach) : Lang := fun u => wordB m.ev u && acceptsB m u
theorem langD_run : ∀ (u : List Int) (f : Lang), (∀ e ∈ u, 0 ≤ e) → runF langD f u = fun v => f (u ++ v)
  | [], f, _ => rfl
  | e :: u, f, h => by
    have he : ((e.toNat : Nat) : Int) = e := by have := h e (by simp); omega
    show runF langD (langD f e.toNat) u = _
    rw [langD_run u _ (fun z hz => h z (by simp [hz]))]
    funext v
    unfold langD
    rw [he]; rfl
/-- The search for the least machine. -/
def leastS [DecidableEq Lang] (L : Lang) (ev : Nat) : GS Lang := gGo langD ev 65 0 ⟨[L], []⟩
def leastM [DecidableEq Lang] (L : Lang) (ev : Nat) : Mach := gM (ev : Int) (fun f => f []) (leastS L ev)

theorem wordB_app (ev : Int) : ∀ a b : List Int, wordB ev (a ++ b) = (wordB ev a && wordB ev b)
  | [], b => by simp [wordB]
  | x :: r, b => by
    rw [List.cons_append, wordB, wordB]
    by_cases h : x < 0 ∨ ev ≤ x
    · rw [if_pos h, if_pos h]; rfl
    · rw [if_neg h, if_neg h]; exact wordB_app ev r b
theorem wordB_of {ev : Int} : ∀ {u : List Int}, (∀ e ∈ u, 0 ≤ e ∧ e < ev) → wordB ev u = true
  | [], _ => by simp [wordB]
  | x :: r, h => by
    have := h x (by simp)
    rw [wordB, if_neg (by omega)]
    exact wordB_of (fun e he => h e (by simp [he]))
theorem wordB_in {ev : Int} : ∀ {u : List Int}, wordB ev u = true → ∀ e ∈ u, 0 ≤ e ∧ e < ev
  | [], _, e, he => by simp at he
  | x :: r, h, e, he => by
    obtain ⟨h1, h2⟩ := wordB_cons h
    rcases List.mem_cons.1 he with rfl | he
    · exact h1
    · exact wordB_in h2 e he
/-- What is accepted from some states on. -/
def langS (m : Mach) (ss : List Int) : Lang := fun v => wordB m.ev v && decide (0 < ((afterL m.arrows ss v).filter fun n => hasB m.ends n == true).length)
theorem lang_after {m : Mach} {u : List Int} (hu : ∀ e ∈ u, 0 ≤ e ∧ e < m.ev) : runF langD (langM m) u = langS m (afterL m.arrows m.starts u) := by
  rw [langD_run u _ (fun e he => (hu e he).1)]
  funext v
  unfold langM langS acceptsB acceptsL
  rw [wordB_app, wordB_of hu, Bool.true_and, show afterL m.arrows m.starts (u ++ v) = afterL m.arrows (afterL m.arrows m.starts u) v from by unfold afterL; rw [List.foldl_append]]

/-! A determined machine's ways. -/
theorem det_one {d : Mach} (hd : detB d = true) {s e : Int} (h0 : 0 ≤ s) (h1 : s < d.st) (k0 : 0 ≤ e) (k1 : e < d.ev) : ∃ t, 0 ≤ t ∧ t < d.st ∧ stepL d.arrows [s] e = [t] := by
  unfold detB at hd
  rw [Bool.and_eq_true, Bool.and_eq_true] at hd
  obtain ⟨hm, -, hg⟩ := hd
  have hz := mayB_size hm
  unfold sizeOk at hz
  obtain ⟨st, hst⟩ : ∃ st : Nat, d.st = (st : Int) := ⟨d.st.toNat, by omega⟩
  obtain ⟨ev, hev⟩ : ∃ ev : Nat, d.ev = (ev : Int) := ⟨d.ev.toNat, by omega⟩
  rw [hst, hev, det_same (st := st) (ev := ev) (by rw [← hst, ← hev]; exact may_arrs hm) (may_inc hm)] at hg
  unfold allOne oneRow at hg
  simp only [List.all_eq_true, List.mem_range, decide_eq_true_eq] at hg
  have hc := hg s.toNat (by omega) e.toNat (by omega)
  rw [show ((s.toNat : Nat) : Int) = s by omega, show ((e.toNat : Nat) : Int) = e by omega] at hc
  unfold cntL at hc
  obtain ⟨a, ha⟩ := List.length_eq_one_iff.1 hc
  have hmem : ∀ b, b ∈ d.arrows ∧ b.f = s ∧ b.e = e ↔ b = a := by
    intro b
    have : b ∈ d.arrows.filter (fun a => decide (a.f = s) && decide (a.e = e)) ↔ b = a := by rw [ha]; simp
    rw [← this, List.mem_filter]; simp
  have h := (hmem a).2 rfl
  have hin := may_arrs hm a h.1
  unfold arrIn at hin
  refine ⟨a.t, by omega, by omega, inc_ext (inc_srt _) (by simp [Inc]) (fun x => ?_)⟩
  rw [mem_stepL]
  constructor
  · rintro ⟨b, b1, b2, b3, b4⟩
    have b3 : b.f = s := by simpa using b3
    rw [(hmem b).1 ⟨b1, b3, b2⟩] at b4
    rw [b4]; simp
  · intro hx
    have : x = a.t := by simpa using hx
    exact ⟨a, h.1, h.2.2, by rw [h.2.1]; simp, this.symm⟩
theorem det_run {d : Mach} (hd : detB d = true) : ∀ (u : List Int) (s : Int), 0 ≤ s → s < d.st → (∀ e ∈ u, 0 ≤ e ∧ e < d.ev) → ∃ t, 0 ≤ t ∧ t < d.st ∧ afterL d.arrows [s] u = [t]
  | [], s, h0, h1, _ => ⟨s, h0, h1, rfl⟩
  | e :: u, s, h0, h1, hu => by
    have he := hu e (by simp)
    obtain ⟨t, t0, t1, ht⟩ := det_one hd h0 h1 he.1 he.2
    obtain ⟨r, r0, r1, hr⟩ := det_run hd u t t0 t1 (fun z hz => hu z (by simp [hz]))
    exact ⟨r, r0, r1, by show afterL d.arrows (stepL d.arrows [s] e) u = _; rw [ht, hr]⟩
section
variable [DecidableEq Lang]
theorem least_bound {m : Mach} (hm : mayB m = true) (zm : m.st ≤ 6) {ev : Nat} (he : m.ev = (ev : Int)) {n : Nat} {s : GS Lang} (h : GI langD (langM m) ev n s) : s.sets.length ≤ 64 := by
  have h1 := nodup_sub (m := (subs 6).map (langS m)) h.nd (fun l hl => by
    obtain ⟨u, hu, e1⟩ := h.rch l hl
    rw [← he] at hu
    rw [e1, lang_after hu]
    have i1 := afterIn hm u _ (may_starts hm)
    exact List.mem_map.2 ⟨_, mem_subs 6 _ i1.1 (fun x hx => by have := i1.2 x hx; omega), rfl⟩)
  rw [List.length_map, subs_len] at h1
  exact h1
theorem least_gi {m : Mach} (hm : mayB m = true) (zm : m.st ≤ 6) {ev : Nat} (he : m.ev = (ev : Int)) : GI langD (langM m) ev ((leastS (langM m) ev).sets.length * ev) (leastS (langM m) ev) :=
  gi_go langD (N := 64) (fun n s h => least_bound hm zm he h) 65 0 _ (gi_start _ _ _) (by simp) (by omega)
/-- The least machine has the same language. -/
theorem least_acc {m : Mach} (hm : mayB m = true) (zm : m.st ≤ 6) {ev : Nat} (he : m.ev = (ev : Int)) {u : List Int} (hu : wordB m.ev u = true) : acceptsB (leastM (langM m) ev) u = acceptsB m u := by
  have h := g_accepts (fin := fun f => f []) (least_gi hm zm he) (word := u) (by rw [← he]; exact hu)
  unfold leastM
  rw [h, langD_run u _ (fun e h => (wordB_in hu e h).1)]
  unfold langM
  show (wordB m.ev (u ++ []) && acceptsB m (u ++ [])) = acceptsB m u
  rw [List.append_nil, hu, Bool.true_and]
theorem least_may {m : Mach} (hm : mayB m = true) (zm : m.st ≤ 6) {ev : Nat} (he : m.ev = (ev : Int)) : mayB (leastM (langM m) ev) = true ∧ detB (leastM (langM m) ev) = true ∧ (leastM (langM m) ev).st ≤ 64 := by
  have hz := mayB_size hm
  unfold sizeOk at hz
  have h := least_gi hm zm he
  have hb := least_bound hm zm he h
  exact ⟨g_may h (by omega) (by omega), g_det h (by omega) (by omega), by show ((leastS (langM m) ev).sets.length : Int) ≤ 64; omega⟩
/-- H2: the least machines are the same just when the languages are. -/
theorem least_same {a b : Mach} (ha : mayB a = true) (hb : mayB b = true) (za : a.st ≤ 6) (zb : b.st ≤ 6) {ev : Nat} (ea : a.ev = (ev : Int)) (eb : b.ev = (ev : Int)) : leastM (langM a) ev = leastM (langM b) ev ↔ ∀ u, wordB (ev : Int) u = true → acceptsB a u = acceptsB b u := by
  constructor
  · intro h u hu
    rw [← least_acc ha za ea (by rw [ea]; exact hu), ← least_acc hb zb eb (by rw [eb]; exact hu), h]
  · intro h
    have : langM a = langM b := by
      funext u
      unfold langM
      rw [ea, eb]
      cases hw : wordB (ev : Int) u with
      | false => rfl
      | true => rw [h u hw]
    rw [this]
theorem least_fewest {m d : Mach} (hm : mayB m = true) (zm : m.st ≤ 6) {ev : Nat} (he : m.ev = (ev : Int)) (hd : detB d = true) (ed : d.ev = (ev : Int)) (hl : ∀ u, wordB (ev : Int) u = true → acceptsB m u = acceptsB d u) : (leastM (langM m) ev).st ≤ d.st := by
  have h := least_gi hm zm he
  have hmd : mayB d = true := by unfold detB at hd; rw [Bool.and_eq_true] at hd; exact hd.1
  have hz := mayB_size hmd
  unfold sizeOk at hz
  have hsame : langM m = langM d := by
    funext u
    unfold langM
    rw [he, ed]
    cases hw : wordB (ev : Int) u with
    | false => rfl
    | true => rw [hl u hw]
  obtain ⟨s0, hs0⟩ : ∃ s0, d.starts = [s0] := by
    have hd' := hd
    unfold detB at hd'
    rw [Bool.and_eq_true, Bool.and_eq_true, decide_eq_true_eq] at hd'
    exact List.length_eq_one_iff.1 hd'.2.1
  have hs1 := (may_starts hmd).2 s0 (by rw [hs0]; simp)
  have h1 := nodup_sub (m := (rngI d.st.toNat).map fun t => langS d [t]) h.nd (fun l hl => by
    obtain ⟨u, hu, e1⟩ := h.rch l hl
    rw [← ed] at hu
    obtain ⟨t, t0, t1, ht⟩ := det_run hd u s0 hs1.1 hs1.2 hu
    rw [e1, hsame, lang_after hu, hs0, ht]
    exact List.mem_map.2 ⟨t, (mem_rngI _ _).2 ⟨t0, by omega⟩, rfl⟩)
  rw [List.length_map, rngI_len] at h1
  show ((leastS (langM m) ev).sets.length : Int) ≤ d.st
  omega
end

end Go.Proofs.YtkkkacmccndinaaDoor
