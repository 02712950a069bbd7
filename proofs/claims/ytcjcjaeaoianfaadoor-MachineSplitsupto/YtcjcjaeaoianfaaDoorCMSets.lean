/-
  Plain mathematics: sets of bits for rows of states; a table of where each state leads at each event; where a set leads. No program, no model.
-/
import Derived.Test.YtcjcjaeaoianfaaDoorCMach
import Derived.Test.YtcjcjaeaoianfaaDoorCBitSet
namespace Go.Proofs.YtcjcjaeaoianfaaDoor
open Go.RowKit
set_option linter.unusedVariables false

/-- The set stands for the list. -/
structure Rep (S : Nat → Nat) (l : List Int) : Prop where
  ok : okS S
  bd : ∀ x ∈ l, 0 ≤ x ∧ x < 256
  mem : ∀ n, n < 256 → (hasS S n = true ↔ (n : Int) ∈ l)

theorem rep_row {S : Nat → Nat} {l : List Int} (h : Rep S l) (hl : Inc l) : rowS S = l := by
  refine inc_ext (inc_rowS S) hl fun x => ?_
  rw [mem_rowS]
  constructor
  · rintro ⟨h1, h2, h3⟩
    have := (h.mem x.toNat (by omega)).1 h3
    rwa [Int.toNat_of_nonneg h1] at this
  · intro hx
    obtain ⟨h1, h2⟩ := h.bd x hx
    exact ⟨h1, h2, (h.mem x.toNat (by omega)).2 (by rwa [Int.toNat_of_nonneg h1])⟩

def ofS (l : List Int) : Nat → Nat := l.foldl (fun s x => withS s x.toNat) zeroS
theorem ofS_snoc (l : List Int) (x : Int) : ofS (l ++ [x]) = withS (ofS l) x.toNat := by simp [ofS, List.foldl_append]
theorem rep_snoc {S : Nat → Nat} {l : List Int} {x : Int} (h : Rep S l) (h0 : 0 ≤ x) (h1 : x < 256) : Rep (withS S x.toNat) (l ++ [x]) := by
  refine ⟨okS_with h.ok _, ?_, fun n hn => ?_⟩
  · intro y hy
    rcases List.mem_append.1 hy with hy | hy
    · exact h.bd y hy
    · rw [List.mem_singleton.1 hy]; exact ⟨h0, h1⟩
  · rw [hasS_with, Bool.or_eq_true, h.mem n hn, List.mem_append, List.mem_singleton, decide_eq_true_eq]
    constructor
    · rintro (a | b)
      · exact .inl a
      · exact .inr (by omega)
    · rintro (a | b)
      · exact .inl a
      · exact .inr (by omega)
theorem rep_nil : Rep zeroS [] := ⟨okS_zero, by simp, fun n _ => by simp [hasS_zero]⟩
theorem rep_of : ∀ {l : List Int}, (∀ x ∈ l, 0 ≤ x ∧ x < 256) → ∀ k, Rep (ofS (l.take k)) (l.take k) := by
  intro l hl k
  induction k with
  | zero => simpa [ofS] using rep_nil
  | succ k ih =>
    by_cases h : k < l.length
    · have e : l.take (k + 1) = l.take k ++ [l[k]] := by rw [List.take_add_one, List.getElem?_eq_getElem h]; rfl
      have := hl l[k] (List.getElem_mem h)
      rw [e, ofS_snoc]
      exact rep_snoc ih this.1 this.2
    · rw [List.take_of_length_le (by omega)] at ih ⊢; exact ih

/-- The table: at place f * ev + e, where state f leads at event e. -/
def tabStep (ev : Nat) (T : Nat → Nat → Nat) (a : Arr) : Nat → Nat → Nat := fun p => if p = a.f.toNat * ev + a.e.toNat then withS (T p) a.t.toNat else T p
def tabS (ev : Nat) (ars : List Arr) : Nat → Nat → Nat := ars.foldl (tabStep ev) (fun _ => zeroS)
theorem tabS_snoc (ev : Nat) (ars : List Arr) (a : Arr) : tabS ev (ars ++ [a]) = tabStep ev (tabS ev ars) a := by simp [tabS, List.foldl_append]
theorem tabS_take {ev : Nat} {ars : List Arr} {k : Nat} {a : Arr} (h : k < ars.length) (ha : Hid (a = ars[k]?.getD arr0)) : tabS ev (ars.take (k + 1)) = tabStep ev (tabS ev (ars.take k)) a := by
  have ha := ha.out
  rw [List.getElem?_eq_getElem h, Option.getD_some] at ha
  rw [List.take_add_one, List.getElem?_eq_getElem h, ← ha]
  exact tabS_snoc _ _ _
theorem okS_tabStep {ev : Nat} {T : Nat → Nat → Nat} (h : ∀ p, okS (T p)) (a : Arr) : ∀ p, okS (tabStep ev T a p) := fun p => by
  unfold tabStep; split
  · exact okS_with (h p) _
  · exact h p
theorem okS_foldTab {ev : Nat} : ∀ (ars : List Arr) (T : Nat → Nat → Nat), (∀ p, okS (T p)) → ∀ p, okS (ars.foldl (tabStep ev) T p)
  | [], _, h => h
  | a :: r, T, h => okS_foldTab r _ (okS_tabStep h a)
theorem okS_tab (ev : Nat) (ars : List Arr) (p : Nat) : okS (tabS ev ars p) := okS_foldTab ars _ (fun _ => okS_zero) p
theorem has_foldTab {ev p n : Nat} : ∀ (ars : List Arr) (T : Nat → Nat → Nat), hasS (ars.foldl (tabStep ev) T p) n = true ↔ hasS (T p) n = true ∨ ∃ a ∈ ars, p = a.f.toNat * ev + a.e.toNat ∧ n = a.t.toNat
  | [], T => by simp
  | a :: r, T => by
    rw [List.foldl_cons, has_foldTab r]
    have e : hasS (tabStep ev T a p) n = true ↔ hasS (T p) n = true ∨ (p = a.f.toNat * ev + a.e.toNat ∧ n = a.t.toNat) := by
      unfold tabStep
      by_cases h : p = a.f.toNat * ev + a.e.toNat
      · rw [if_pos h, hasS_with, Bool.or_eq_true, decide_eq_true_eq]; simp [h]
      · rw [if_neg h]; simp [h]
    rw [e]
    simp only [List.mem_cons, exists_eq_or_imp]
    rw [or_assoc]
theorem has_tab (ev p n : Nat) (ars : List Arr) : hasS (tabS ev ars p) n = true ↔ ∃ a ∈ ars, p = a.f.toNat * ev + a.e.toNat ∧ n = a.t.toNat := by
  unfold tabS; rw [has_foldTab]; simp [hasS_zero]

/-- Where states lead to, by the table. -/
def leadF (T : Nat → Nat → Nat) (ev e : Nat) (ns : List Nat) : Nat → Nat := ns.foldl (fun o n => joinS o (T (n * ev + e))) zeroS
theorem leadF_snoc (T : Nat → Nat → Nat) (ev e : Nat) (ns : List Nat) (n : Nat) : leadF T ev e (ns ++ [n]) = joinS (leadF T ev e ns) (T (n * ev + e)) := by simp [leadF, List.foldl_append]
theorem ok_leadG {T : Nat → Nat → Nat} {ev e : Nat} (h : ∀ p, okS (T p)) : ∀ (ns : List Nat) (o : Nat → Nat), okS o → okS (ns.foldl (fun o n => joinS o (T (n * ev + e))) o)
  | [], _, ho => ho
  | n :: r, o, ho => ok_leadG h r _ (okS_join ho (h _))
theorem ok_leadF {T : Nat → Nat → Nat} {ev e : Nat} (h : ∀ p, okS (T p)) (ns : List Nat) : okS (leadF T ev e ns) := ok_leadG h ns _ okS_zero
theorem has_leadG {T : Nat → Nat → Nat} {ev e k : Nat} : ∀ (ns : List Nat) (o : Nat → Nat), hasS (ns.foldl (fun o n => joinS o (T (n * ev + e))) o) k = true ↔ hasS o k = true ∨ ∃ n ∈ ns, hasS (T (n * ev + e)) k = true
  | [], o => by simp
  | n :: r, o => by
    rw [List.foldl_cons, has_leadG r, hasS_join, Bool.or_eq_true]
    simp only [List.mem_cons, exists_eq_or_imp]
    rw [or_assoc]
theorem has_leadF (T : Nat → Nat → Nat) (ev e k : Nat) (ns : List Nat) : hasS (leadF T ev e ns) k = true ↔ ∃ n ∈ ns, hasS (T (n * ev + e)) k = true := by
  unfold leadF; rw [has_leadG]; simp [hasS_zero]

/-- Where a set leads, at an event. -/
def leadS (ev : Nat) (ars : List Arr) (S : Nat → Nat) (e : Nat) : Nat → Nat := leadF (tabS ev ars) ev e (allS S)

theorem mem_stepL (ars : List Arr) (l : List Int) (e : Int) (x : Int) : x ∈ stepL ars l e ↔ ∃ a ∈ ars, a.e = e ∧ a.f ∈ l ∧ a.t = x := by
  unfold stepL stepTo
  rw [mem_srt]
  simp only [List.mem_map, List.mem_filter, Bool.and_eq_true, beq_iff_eq, hasB, List.contains_iff_mem]
  constructor
  · rintro ⟨a, ⟨h1, h2, h3⟩, h4⟩; exact ⟨a, h1, h2, h3, h4⟩
  · rintro ⟨a, h1, h2, h3, h4⟩; exact ⟨a, ⟨h1, h2, h3⟩, h4⟩

theorem arrsFrom_in {st ev : Int} : ∀ {ars : List Arr} {p : Option Arr}, arrsFrom st ev p ars = true → ∀ a ∈ ars, arrIn st ev a
  | [], _, _ => by simp
  | b :: r, p, h => by
    unfold arrsFrom at h
    by_cases hc : arrIn st ev b ∧ behindB p b = true
    · rw [if_pos hc] at h
      intro a ha
      rcases List.mem_cons.1 ha with rfl | ha
      · exact hc.1
      · exact arrsFrom_in h a ha
    · rw [if_neg hc] at h; cases h

theorem rep_lead {S : Nat → Nat} {l : List Int} {st ev e : Int} {ars : List Arr} (h : Rep S l) (hin : ∀ a ∈ ars, arrIn st ev a) (hst : st ≤ 256) (h0 : 0 ≤ e) (h1 : e < ev) :
    Rep (leadS ev.toNat ars S e.toNat) (stepL ars l e) := by
  refine ⟨ok_leadF (okS_tab _ _) _, ?_, fun n hn => ?_⟩
  · intro x hx
    obtain ⟨a, ha, -, -, rfl⟩ := (mem_stepL _ _ _ _).1 hx
    have := hin a ha
    exact ⟨this.2.2.1, by omega⟩
  · unfold leadS
    rw [has_leadF, mem_stepL]
    constructor
    · rintro ⟨k, hk, ht⟩
      obtain ⟨a, ha, hp, hn⟩ := (has_tab _ _ _ _).1 ht
      obtain ⟨hk1, hk2⟩ := (mem_allS _ _).1 hk
      have hi := hin a ha
      have he : a.e.toNat < ev.toNat := by omega
      have he' : e.toNat < ev.toNat := by omega
      have hee : a.e.toNat = e.toNat := by
        have := congrArg (· % ev.toNat) hp
        simp only [Nat.mul_comm _ ev.toNat, Nat.mul_add_mod, Nat.mod_eq_of_lt he, Nat.mod_eq_of_lt he'] at this
        exact this.symm
      have hff : a.f.toNat = k := by
        rw [hee] at hp
        have := Nat.add_right_cancel hp
        exact (Nat.eq_of_mul_eq_mul_right (by omega) this).symm
      refine ⟨a, ha, by omega, ?_, by omega⟩
      have := (h.mem k hk1).1 hk2
      rw [← hff, Int.toNat_of_nonneg hi.1] at this
      exact this
    · rintro ⟨a, ha, hae, haf, hat⟩
      have hi := hin a ha
      have hb := h.bd _ haf
      refine ⟨a.f.toNat, (mem_allS _ _).2 ⟨by omega, (h.mem _ (by omega)).2 (by rwa [Int.toNat_of_nonneg hi.1])⟩, (has_tab _ _ _ _).2 ⟨a, ha, ?_, by omega⟩⟩
      rw [hae]

/-- Nothing is in a set. -/
def emptyB (S : Nat → Nat) : Bool := decide (S 0 = 0 ∧ S 1 = 0 ∧ S 2 = 0 ∧ S 3 = 0)
theorem word_zero {w : Nat} (h : w < 18446744073709551616) (hz : ∀ j, j < 64 → w.testBit j = false) : w = 0 := by
  apply Nat.eq_of_testBit_eq
  intro i
  rw [Nat.zero_testBit]
  by_cases hi : i < 64
  · exact hz i hi
  · exact Nat.testBit_lt_two_pow (Nat.lt_of_lt_of_le h (Nat.pow_le_pow_right (n := 2) (i := 64) (by omega) (by omega)))
theorem empty_yes {S : Nat → Nat} {l : List Int} (h : Rep S l) (he : emptyB S = true) : l = [] := by
  obtain ⟨e0, e1, e2, e3⟩ := of_decide_eq_true he
  cases l with
  | nil => rfl
  | cons x r =>
    obtain ⟨b0, b1⟩ := h.bd x (by simp)
    have := (h.mem x.toNat (by omega)).2 (by rw [Int.toNat_of_nonneg b0]; simp)
    exfalso
    unfold hasS at this
    have hk : x.toNat / 64 = 0 ∨ x.toNat / 64 = 1 ∨ x.toNat / 64 = 2 ∨ x.toNat / 64 = 3 := by omega
    rcases hk with hk | hk | hk | hk <;> rw [hk] at this <;> simp_all
theorem stepL_nil (ars : List Arr) (e : Int) : stepL ars [] e = [] := by
  cases h : stepL ars [] e with
  | nil => rfl
  | cons x r =>
    have : x ∈ stepL ars [] e := by rw [h]; simp
    obtain ⟨a, -, -, ha, -⟩ := (mem_stepL _ _ _ _).1 this
    simp at ha
theorem afterL_nil (ars : List Arr) : ∀ word, afterL ars [] word = []
  | [] => rfl
  | e :: r => by show afterL ars (stepL ars [] e) r = []; rw [stepL_nil]; exact afterL_nil ars r
theorem afterL_split (ars : List Arr) (ss : List Int) (word : List Int) (k : Nat) : afterL ars ss word = afterL ars (afterL ars ss (word.take k)) (word.drop k) := by
  unfold afterL
  rw [← List.foldl_append, List.take_append_drop]

/-- Is there a number that both have? -/
def meetB (S T : Nat → Nat) : Bool := decide (¬ (S 0 &&& T 0 = 0 ∧ S 1 &&& T 1 = 0 ∧ S 2 &&& T 2 = 0 ∧ S 3 &&& T 3 = 0))
theorem meet_word {a b : Nat} (ha : a < 18446744073709551616) : a &&& b = 0 ↔ ∀ j, j < 64 → ¬ (a.testBit j = true ∧ b.testBit j = true) := by
  constructor
  · intro h j _ ⟨h1, h2⟩
    have : (a &&& b).testBit j = true := by rw [Nat.testBit_and, h1, h2]; rfl
    rw [h] at this; simp at this
  · intro h
    apply word_zero (Nat.lt_of_le_of_lt Nat.and_le_left ha)
    intro j hj
    rw [Nat.testBit_and]
    have := h j hj
    cases h1 : a.testBit j <;> cases h2 : b.testBit j <;> simp_all
theorem meet_iff {S T : Nat → Nat} {l k : List Int} (h : Rep S l) (h' : Rep T k) : meetB S T = decide (0 < (l.filter fun n => hasB k n == true).length) := by
  unfold meetB
  apply decide_eq_decide.2
  constructor
  · intro hn
    have hex : ∃ i j, i < 4 ∧ j < 64 ∧ (S i).testBit j = true ∧ (T i).testBit j = true := by
      apply Classical.byContradiction
      intro hc
      apply hn
      have : ∀ i, i < 4 → S i &&& T i = 0 := fun i hi => (meet_word (h.ok i)).2 fun j hj ⟨a, b⟩ => hc ⟨i, j, hi, hj, a, b⟩
      exact ⟨this 0 (by omega), this 1 (by omega), this 2 (by omega), this 3 (by omega)⟩
    obtain ⟨i, j, hi, hj, h1, h2⟩ := hex
    have e1 : (64 * i + j) / 64 = i := by omega
    have e2 : (64 * i + j) % 64 = j := by omega
    have m1 := (h.mem (64 * i + j) (by omega)).1 (by unfold hasS; rw [e1, e2]; exact h1)
    have m2 := (h'.mem (64 * i + j) (by omega)).1 (by unfold hasS; rw [e1, e2]; exact h2)
    exact List.length_pos_of_mem (List.mem_filter.2 ⟨m1, by simpa [hasB] using m2⟩)
  · intro hp hz
    obtain ⟨x, hx⟩ := List.exists_mem_of_length_pos hp
    obtain ⟨x1, x2⟩ := List.mem_filter.1 hx
    have x3 : x ∈ k := by simpa [hasB] using x2
    obtain ⟨b0, b1⟩ := h.bd x x1
    have m1 := (h.mem x.toNat (by omega)).2 (by rwa [Int.toNat_of_nonneg b0])
    have m2 := (h'.mem x.toNat (by omega)).2 (by rwa [Int.toNat_of_nonneg b0])
    unfold hasS at m1 m2
    have key : ∀ i, x.toNat / 64 = i → S i &&& T i = 0 → False := fun i hi he => by
      rw [hi] at m1 m2
      exact (meet_word (h.ok i)).1 he _ (by omega) ⟨m1, m2⟩
    have hk : x.toNat / 64 = 0 ∨ x.toNat / 64 = 1 ∨ x.toNat / 64 = 2 ∨ x.toNat / 64 = 3 := by omega
    obtain ⟨z0, z1, z2, z3⟩ := hz
    rcases hk with hk | hk | hk | hk
    · exact key 0 hk z0
    · exact key 1 hk z1
    · exact key 2 hk z2
    · exact key 3 hk z3

end Go.Proofs.YtcjcjaeaoianfaaDoor
