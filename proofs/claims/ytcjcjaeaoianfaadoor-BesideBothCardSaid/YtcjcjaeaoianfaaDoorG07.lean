/-
  Plain mathematics: sets of bits for rows of states; a table of where each state leads at each event; where a set leads. No program, no model.
  Plain mathematics of a machine trimmed: the states that are in both, numbered anew; it accepts the same words. No program, no model.
  Plain: the machine of two beside one another accepts a word just when each accepts what of it is its own. No program, no model.
-/
import Derived.Test.YtcjcjaeaoianfaaDoorG03
import Derived.Test.YtcjcjaeaoianfaaDoorG06
namespace Go.Proofs.YtcjcjaeaoianfaaDoor
open Go.RowKit
set_option linter.unusedVariables false

/-- The set stands for the list. -/
structure Rep (S : Nat → Nat) (l : List Int) : Prop where
  ok : okS S
  bd : ∀ x ∈ l, 0 ≤ x ∧ x < 256
  mem : ∀ n, n < 256 → (hasS S n = true ↔ (n : Int) ∈ l)

theorem rep_row {S : Nat → Nat} {l : List Int} (h : Rep S l) (hl : Inc l) : rowS S = l := by
  refine inc_ext (inc_rowS S) hl fun x => ?_
  rw [mem_rowS]
  constructor
  · rintro ⟨h1, h2, h3⟩
    have := (h.mem x.toNat (by omega)).1 h3
    rwa [Int.toNat_of_nonneg h1] at this
  · intro hx
    obtain ⟨h1, h2⟩ := h.bd x hx
    exact ⟨h1, h2, (h.mem x.toNat (by omega)).2 (by rwa [Int.toNat_of_nonneg h1])⟩

def ofS (l : List Int) : Nat → Nat := l.foldl (fun s x => withS s x.toNat) zeroS
theorem ofS_snoc (l : List Int) (x : Int) : ofS (l ++ [x]) = withS (ofS l) x.toNat := by simp [ofS, List.foldl_append]
theorem rep_snoc {S : Nat → Nat} {l : List Int} {x : Int} (h : Rep S l) (h0 : 0 ≤ x) (h1 : x < 256) : Rep (withS S x.toNat) (l ++ [x]) := by
  refine ⟨okS_with h.ok _, ?_, fun n hn => ?_⟩
  · intro y hy
    rcases List.mem_append.1 hy with hy | hy
    · exact h.bd y hy
    · rw [List.mem_singleton.1 hy]; exact ⟨h0, h1⟩
  · rw [hasS_with, Bool.or_eq_true, h.mem n hn, List.mem_append, List.mem_singleton, decide_eq_true_eq]
    constructor
    · rintro (a | b)
      · exact .inl a
      · exact .inr (by omega)
    · rintro (a | b)
      · exact .inl a
      · exact .inr (by omega)
theorem rep_nil : Rep zeroS [] := ⟨okS_zero, by simp, fun n _ => by simp [hasS_zero]⟩
theorem rep_of : ∀ {l : List Int}, (∀ x ∈ l, 0 ≤ x ∧ x < 256) → ∀ k, Rep (ofS (l.take k)) (l.take k) := by
  intro l hl k
  induction k with
  | zero => simpa [ofS] using rep_nil
  | succ k ih =>
    by_cases h : k < l.length
    · have e : l.take (k + 1) = l.take k ++ [l[k]] := by rw [List.take_add_one, List.getElem?_eq_getElem h]; rfl
      have := hl l[k] (List.getElem_mem h)
      rw [e, ofS_snoc]
      exact rep_snoc ih this.1 this.2
    · rw [List.take_of_length_le (by omega)] at ih ⊢; exact ih

/-- The table: at place f * ev + e, where state f leads at event e. -/
def tabStep (ev : Nat) (T : Nat → Nat → Nat) (a : Arr) : Nat → Nat → Nat := fun p => if p = a.f.toNat * ev + a.e.toNat then withS (T p) a.t.toNat else T p
def tabS (ev : Nat) (ars : List Arr) : Nat → Nat → Nat := ars.foldl (tabStep ev) (fun _ => zeroS)
theorem tabS_snoc (ev : Nat) (ars : List Arr) (a : Arr) : tabS ev (ars ++ [a]) = tabStep ev (tabS ev ars) a := by simp [tabS, List.foldl_append]
theorem tabS_take {ev : Nat} {ars : List Arr} {k : Nat} {a : Arr} (h : k < ars.length) (ha : Hid (a = ars[k]?.getD arr0)) : tabS ev (ars.take (k + 1)) = tabStep ev (tabS ev (ars.take k)) a := by
  have ha := ha.out
  rw [List.getElem?_eq_getElem h, Option.getD_some] at ha
  rw [List.take_add_one, List.getElem?_eq_getElem h, ← ha]
  exact tabS_snoc _ _ _
theorem okS_tabStep {ev : Nat} {T : Nat → Nat → Nat} (h : ∀ p, okS (T p)) (a : Arr) : ∀ p, okS (tabStep ev T a p) := fun p => by
  unfold tabStep; split
  · exact okS_with (h p) _
  · exact h p
theorem okS_foldTab {ev : Nat} : ∀ (ars : List Arr) (T : Nat → Nat → Nat), (∀ p, okS (T p)) → ∀ p, okS (ars.foldl (tabStep ev) T p)
  | [], _, h => h
  | a :: r, T, h => okS_foldTab r _ (okS_tabStep h a)
theorem okS_tab (ev : Nat) (ars : List Arr) (p : Nat) : okS (tabS ev ars p) := okS_foldTab ars _ (fun _ => okS_zero) p
theorem has_foldTab {ev p n : Nat} : ∀ (ars : List Arr) (T : Nat → Nat → Nat), hasS (ars.foldl (tabStep ev) T p) n = true ↔ hasS (T p) n = true ∨ ∃ a ∈ ars, p = a.f.toNat * ev + a.e.toNat ∧ n = a.t.toNat
  | [], T => by simp
  | a :: r, T => by
    rw [List.foldl_cons, has_foldTab r]
    have e : hasS (tabStep ev T a p) n = true ↔ hasS (T p) n = true ∨ (p = a.f.toNat * ev + a.e.toNat ∧ n = a.t.toNat) := by
      unfold tabStep
      by_cases h : p = a.f.toNat * ev + a.e.toNat
      · rw [if_pos h, hasS_with, Bool.or_eq_true, decide_eq_true_eq]; simp [h]
      · rw [if_neg h]; simp [h]
    rw [e]
    simp only [List.mem_cons, exists_eq_or_imp]
    rw [or_assoc]
theorem has_tab (ev p n : Nat) (ars : List Arr) : hasS (tabS ev ars p) n = true ↔ ∃ a ∈ ars, p = a.f.toNat * ev + a.e.toNat ∧ n = a.t.toNat := by
  unfold tabS; rw [has_foldTab]; simp [hasS_zero]

/-- Where states lead to, by the table. -/
def leadF (T : Nat → Nat → Nat) (ev e : Nat) (ns : List Nat) : Nat → Nat := ns.foldl (fun o n => joinS o (T (n * ev + e))) zeroS
theorem leadF_snoc (T : Nat → Nat → Nat) (ev e : Nat) (ns : List Nat) (n : Nat) : leadF T ev e (ns ++ [n]) = joinS (leadF T ev e ns) (T (n * ev + e)) := by simp [leadF, List.foldl_append]
theorem ok_leadG {T : Nat → Nat → Nat} {ev e : Nat} (h : ∀ p, okS (T p)) : ∀ (ns : List Nat) (o : Nat → Nat), okS o → okS (ns.foldl (fun o n => joinS o (T (n * ev + e))) o)
  | [], _, ho => ho
  | n :: r, o, ho => ok_leadG h r _ (okS_join ho (h _))
theorem ok_leadF {T : Nat → Nat → Nat} {ev e : Nat} (h : ∀ p, okS (T p)) (ns : List Nat) : okS (leadF T ev e ns) := ok_leadG h ns _ okS_zero
theorem has_leadG {T : Nat → Nat → Nat} {ev e k : Nat} : ∀ (ns : List Nat) (o : Nat → Nat), hasS (ns.foldl (fun o n => joinS o (T (n * ev + e))) o) k = true ↔ hasS o k = true ∨ ∃ n ∈ ns, hasS (T (n * ev + e)) k = true
  | [], o => by simp
  | n :: r, o => by
    rw [List.foldl_cons, has_leadG r, hasS_join, Bool.or_eq_true]
    simp only [List.mem_cons, exists_eq_or_imp]
    rw [or_assoc]
theorem has_leadF (T : Nat → Nat → Nat) (ev e k : Nat) (ns : List Nat) : hasS (leadF T ev e ns) k = true ↔ ∃ n ∈ ns, hasS (T (n * ev + e)) k = true := by
  unfold leadF; rw [has_leadG]; simp [hasS_zero]

/-- Where a set leads, at an event. -/
def leadS (ev : Nat) (ars : List Arr) (S : Nat → Nat) (e : Nat) : Nat → Nat := leadF (tabS ev ars) ev e (allS S)

theorem mem_stepL (ars : List Arr) (l : List Int) (e : Int) (x : Int) : x ∈ stepL ars l e ↔ ∃ a ∈ ars, a.e = e ∧ a.f ∈ l ∧ a.t = x := by
  unfold stepL stepTo
  rw [mem_srt]
  simp only [List.mem_map, List.mem_filter, Bool.and_eq_true, beq_iff_eq, hasB, List.contains_iff_mem]
  constructor
  · rintro ⟨a, ⟨h1, h2, h3⟩, h4⟩; exact ⟨a, h1, h2, h3, h4⟩
  · rintro ⟨a, h1, h2, h3, h4⟩; exact ⟨a, ⟨h1, h2, h3⟩, h4⟩

theorem arrsFrom_in {st ev : Int} : ∀ {ars : List Arr} {p : Option Arr}, arrsFrom st ev p ars = true → ∀ a ∈ ars, arrIn st ev a
  | [], _, _ => by simp
  | b :: r, p, h => by
    unfold arrsFrom at h
    by_cases hc : arrIn st ev b ∧ behindB p b = true
    · rw [if_pos hc] at h
      intro a ha
      rcases List.mem_cons.1 ha with rfl | ha
      · exact hc.1
      · exact arrsFrom_in h a ha
    · rw [if_neg hc] at h; cases h

theorem rep_lead {S : Nat → Nat} {l : List Int} {st ev e : Int} {ars : List Arr} (h : Rep S l) (hin : ∀ a ∈ ars, arrIn st ev a) (hst : st ≤ 256) (h0 : 0 ≤ e) (h1 : e < ev) :
    Rep (leadS ev.toNat ars S e.toNat) (stepL ars l e) := by
  refine ⟨ok_leadF (okS_tab _ _) _, ?_, fun n hn => ?_⟩
  · intro x hx
    obtain ⟨a, ha, -, -, rfl⟩ := (mem_stepL _ _ _ _).1 hx
    have := hin a ha
    exact ⟨this.2.2.1, by omega⟩
  · unfold leadS
    rw [has_leadF, mem_stepL]
    constructor
    · rintro ⟨k, hk, ht⟩
      obtain ⟨a, ha, hp, hn⟩ := (has_tab _ _ _ _).1 ht
      obtain ⟨hk1, hk2⟩ := (mem_allS _ _).1 hk
      have hi := hin a ha
      have he : a.e.toNat < ev.toNat := by omega
      have he' : e.toNat < ev.toNat := by omega
      have hee : a.e.toNat = e.toNat := by
        have := congrArg (· % ev.toNat) hp
        simp only [Nat.mul_comm _ ev.toNat, Nat.mul_add_mod, Nat.mod_eq_of_lt he, Nat.mod_eq_of_lt he'] at this
        exact this.symm
      have hff : a.f.toNat = k := by
        rw [hee] at hp
        have := Nat.add_right_cancel hp
        exact (Nat.eq_of_mul_eq_mul_right (by omega) this).symm
      refine ⟨a, ha, by omega, ?_, by omega⟩
      have := (h.mem k hk1).1 hk2
      rw [← hff, Int.toNat_of_nonneg hi.1] at this
      exact this
    · rintro ⟨a, ha, hae, haf, hat⟩
      have hi := hin a ha
      have hb := h.bd _ haf
      refine ⟨a.f.toNat, (mem_allS _ _).2 ⟨by omega, (h.mem _ (by omega)).2 (by rwa [Int.toNat_of_nonneg hi.1])⟩, (has_tab _ _ _ _).2 ⟨a, ha, ?_, by omega⟩⟩
      rw [hae]

/-- Nothing is in a set. -/
def emptyB (S : Nat → Nat) : Bool := decide (S 0 = 0 ∧ S 1 = 0 ∧ S 2 = 0 ∧ S 3 = 0)
theorem word_zero {w : Nat} (h : w < 18446744073709551616) (hz : ∀ j, j < 64 → w.testBit j = false) : w = 0 := by
  apply Nat.eq_of_testBit_eq
  intro i
  rw [Nat.zero_testBit]
  by_cases hi : i < 64
  · exact hz i hi
  · exact Nat.testBit_lt_two_pow (Nat.lt_of_lt_of_le h (Nat.pow_le_pow_right (n := 2) (i := 64) (by omega) (by omega)))
theorem empty_yes {S : Nat → Nat} {l : List Int} (h : Rep S l) (he : emptyB S = true) : l = [] := by
  obtain ⟨e0, e1, e2, e3⟩ := of_decide_eq_true he
  cases l with
  | nil => rfl
  | cons x r =>
    obtain ⟨b0, b1⟩ := h.bd x (by simp)
    have := (h.mem x.toNat (by omega)).2 (by rw [Int.toNat_of_nonneg b0]; simp)
    exfalso
    unfold hasS at this
    have hk : x.toNat / 64 = 0 ∨ x.toNat / 64 = 1 ∨ x.toNat / 64 = 2 ∨ x.toNat / 64 = 3 := by omega
    rcases hk with hk | hk | hk | hk <;> rw [hk] at this <;> simp_all
theorem stepL_nil (ars : List Arr) (e : Int) : stepL ars [] e = [] := by
  cases h : stepL ars [] e with
  | nil => rfl
  | cons x r =>
    have : x ∈ stepL ars [] e := by rw [h]; simp
    obtain ⟨a, -, -, ha, -⟩ := (mem_stepL _ _ _ _).1 this
    simp at ha
theorem afterL_nil (ars : List Arr) : ∀ word, afterL ars [] word = []
  | [] => rfl
  | e :: r => by show afterL ars (stepL ars [] e) r = []; rw [stepL_nil]; exact afterL_nil ars r
theorem afterL_split (ars : List Arr) (ss : List Int) (word : List Int) (k : Nat) : afterL ars ss word = afterL ars (afterL ars ss (word.take k)) (word.drop k) := by
  unfold afterL
  rw [← List.foldl_append, List.take_append_drop]

/-- Is there a number that both have? -/
def meetB (S T : Nat → Nat) : Bool := decide (¬ (S 0 &&& T 0 = 0 ∧ S 1 &&& T 1 = 0 ∧ S 2 &&& T 2 = 0 ∧ S 3 &&& T 3 = 0))
theorem meet_word {a b : Nat} (ha : a < 18446744073709551616) : a &&& b = 0 ↔ ∀ j, j < 64 → ¬ (a.testBit j = true ∧ b.testBit j = true) := by
  constructor
  · intro h j _ ⟨h1, h2⟩
    have : (a &&& b).testBit j = true := by rw [Nat.testBit_and, h1, h2]; rfl
    rw [h] at this; simp at this
  · intro h
    apply word_zero (Nat.lt_of_le_of_lt Nat.and_le_left ha)
    intro j hj
    rw [Nat.testBit_and]
    have := h j hj
    cases h1 : a.testBit j <;> cases h2 : b.testBit j <;> simp_all
theorem meet_iff {S T : Nat → Nat} {l k : List Int} (h : Rep S l) (h' : Rep T k) : meetB S T = decide (0 < (l.filter fun n => hasB k n == true).length) := by
  unfold meetB
  apply decide_eq_decide.2
  constructor
  · intro hn
    have hex : ∃ i j, i < 4 ∧ j < 64 ∧ (S i).testBit j = true ∧ (T i).testBit j = true := by
      apply Classical.byContradiction
      intro hc
      apply hn
      have : ∀ i, i < 4 → S i &&& T i = 0 := fun i hi => (meet_word (h.ok i)).2 fun j hj ⟨a, b⟩ => hc ⟨i, j, hi, hj, a, b⟩
      exact ⟨this 0 (by omega), this 1 (by omega), this 2 (by omega), this 3 (by omega)⟩
    obtain ⟨i, j, hi, hj, h1, h2⟩ := hex
    have e1 : (64 * i + j) / 64 = i := by omega
    have e2 : (64 * i + j) % 64 = j := by omega
    have m1 := (h.mem (64 * i + j) (by omega)).1 (by unfold hasS; rw [e1, e2]; exact h1)
    have m2 := (h'.mem (64 * i + j) (by omega)).1 (by unfold hasS; rw [e1, e2]; exact h2)
    exact List.length_pos_of_mem (List.mem_filter.2 ⟨m1, by simpa [hasB] using m2⟩)
  · intro hp hz
    obtain ⟨x, hx⟩ := List.exists_mem_of_length_pos hp
    obtain ⟨x1, x2⟩ := List.mem_filter.1 hx
    have x3 : x ∈ k := by simpa [hasB] using x2
    obtain ⟨b0, b1⟩ := h.bd x x1
    have m1 := (h.mem x.toNat (by omega)).2 (by rwa [Int.toNat_of_nonneg b0])
    have m2 := (h'.mem x.toNat (by omega)).2 (by rwa [Int.toNat_of_nonneg b0])
    unfold hasS at m1 m2
    have key : ∀ i, x.toNat / 64 = i → S i &&& T i = 0 → False := fun i hi he => by
      rw [hi] at m1 m2
      exact (meet_word (h.ok i)).1 he _ (by omega) ⟨m1, m2⟩
    have hk : x.toNat / 64 = 0 ∨ x.toNat / 64 = 1 ∨ x.toNat / 64 = 2 ∨ x.toNat / 64 = 3 := by omega
    obtain ⟨z0, z1, z2, z3⟩ := hz
    rcases hk with hk | hk | hk | hk
    · exact key 0 hk z0
    · exact key 1 hk z1
    · exact key 2 hk z2
    · exact key 3 hk z3

end Go.Proofs.YtcjcjaeaoianfaaDoor
namespace Go.Proofs.YtcjcjaeaoianfaaDoor
open Go.RowKit
set_option linter.unusedVariables false

/-- The states that are in both. -/
def trimL (m : Mach) : List Int := (reachL m).filter (fun n => hasB (liveL m) n == true)
/-- The arrows between them, numbered anew. -/
def trimA (T : List Int) (ars : List Arr) : List Arr := (ars.filter fun a => decide (0 ≤ placeI T a.f) && decide (0 ≤ placeI T a.t)).map fun a => ⟨placeI T a.f, a.e, placeI T a.t⟩
def trimM (m : Mach) : Mach := ⟨if (trimL m).length = 0 then 1 else (trimL m).length, m.ev, placesL (trimL m) m.starts, srtA (trimA (trimL m) m.arrows), placesL (trimL m) m.ends⟩

theorem trimA_take {T : List Int} {ars : List Arr} {k : Nat} {a : Arr} (h : k < ars.length) (ha : Hid (a = ars[k]?.getD arr0)) : trimA T (ars.take (k + 1)) = if (decide (0 ≤ placeI T a.f) && decide (0 ≤ placeI T a.t)) = true then trimA T (ars.take k) ++ [⟨placeI T a.f, a.e, placeI T a.t⟩] else trimA T (ars.take k) := by
  have ha := ha.out
  rw [List.getElem?_eq_getElem h, Option.getD_some] at ha
  unfold trimA
  rw [List.take_add_one, List.getElem?_eq_getElem h, List.filter_append, List.map_append, ← ha]
  by_cases c : (decide (0 ≤ placeI T a.f) && decide (0 ≤ placeI T a.t)) = true
  · rw [if_pos c]; simp only [Option.toList_some, List.filter_cons, c, if_true, List.filter_nil, List.map_cons, List.map_nil]
  · rw [if_neg c]; simp only [Option.toList_some, List.filter_cons, c, Bool.false_eq_true, if_false, List.filter_nil, List.map_nil, List.append_nil]
theorem trimA_len (T : List Int) (ars : List Arr) : (trimA T ars).length ≤ ars.length := by unfold trimA; rw [List.length_map]; exact List.length_filter_le _ _

/-! Places. -/
theorem placeN_some : ∀ {l : List Int} {n : Int} {j : Nat}, placeN l n = some j → l[j]? = some n
  | [], _, _, h => by simp [placeN] at h
  | x :: r, n, j, h => by
    unfold placeN at h
    by_cases hx : x = n
    · rw [if_pos hx] at h; cases h; simp [hx]
    · rw [if_neg hx] at h
      cases hp : placeN r n with
      | none => rw [hp] at h; cases h
      | some i => rw [hp] at h; cases h; simpa using placeN_some hp
theorem placeN_mem : ∀ {l : List Int} {n : Int}, n ∈ l → ∃ j, placeN l n = some j
  | [], _, h => by simp at h
  | x :: r, n, h => by
    unfold placeN
    by_cases hx : x = n
    · exact ⟨0, by rw [if_pos hx]⟩
    · rw [if_neg hx]
      rcases List.mem_cons.1 h with h | h
      · exact absurd h.symm hx
      · obtain ⟨j, hj⟩ := placeN_mem h
        exact ⟨j + 1, by rw [hj]; rfl⟩
theorem placeI_of {l : List Int} {n : Int} {j : Nat} (h : placeN l n = some j) : placeI l n = j := by unfold placeI placeF; rw [h]; simp
theorem placeI_nn (l : List Int) (n : Int) : 0 ≤ placeI l n ↔ n ∈ l := by
  constructor
  · intro h
    cases hp : placeN l n with
    | none => unfold placeI placeF at h; rw [hp] at h; simp at h
    | some j => exact List.mem_of_getElem? (placeN_some hp)
  · intro h
    obtain ⟨j, hj⟩ := placeN_mem h
    rw [placeI_of hj]; omega
theorem placeI_lt {l : List Int} {n : Int} (h : n ∈ l) : placeI l n < l.length := by
  obtain ⟨j, hj⟩ := placeN_mem h
  have := placeF_lt l n j hj
  rw [placeI_of hj]; omega
theorem placeI_mono {l : List Int} (hl : Inc l) {x y : Int} (hx : x ∈ l) (hy : y ∈ l) : placeI l x < placeI l y ↔ x < y := by
  obtain ⟨i, hi⟩ := placeN_mem hx
  obtain ⟨j, hj⟩ := placeN_mem hy
  rw [placeI_of hi, placeI_of hj]
  obtain ⟨i1, i2⟩ := List.getElem?_eq_some_iff.1 (placeN_some hi)
  obtain ⟨j1, j2⟩ := List.getElem?_eq_some_iff.1 (placeN_some hj)
  have hp := List.pairwise_iff_getElem.1 hl
  constructor
  · intro h
    have := hp i j i1 j1 (by omega)
    rwa [i2, j2] at this
  · intro h
    rcases Nat.lt_trichotomy i j with h1 | h1 | h1
    · omega
    · subst h1; rw [i2] at j2; omega
    · have := hp j i j1 i1 h1
      rw [i2, j2] at this; omega
theorem placeI_inj {l : List Int} {x y : Int} (hx : x ∈ l) (hy : y ∈ l) (h : placeI l x = placeI l y) : x = y := by
  obtain ⟨i, hi⟩ := placeN_mem hx
  obtain ⟨j, hj⟩ := placeN_mem hy
  rw [placeI_of hi, placeI_of hj] at h
  have e : i = j := by omega
  subst e
  have := (placeN_some hi).symm.trans (placeN_some hj)
  exact Option.some.inj this

/-! Rows and arrows in order. -/
theorem rowB_iff (n : Int) (hn : n ≤ 2147483648) (l : List Int) : rowB n l = true ↔ Inc l ∧ ∀ x ∈ l, 0 ≤ x ∧ x < n := by
  unfold rowB
  rw [goIs_iff]
  constructor
  · rintro ⟨h1, h2⟩; exact ⟨h1, fun x hx => by have := h2 x hx; omega⟩
  · rintro ⟨h1, h2⟩; exact ⟨h1, fun x hx => by have := h2 x hx; omega⟩
abbrev IncA (l : List Arr) : Prop := l.Pairwise (fun a b => aheadB a b = true)
theorem aheadB_iff (a b : Arr) : aheadB a b = true ↔ a.f < b.f ∨ (a.f = b.f ∧ (a.e < b.e ∨ (a.e = b.e ∧ a.t < b.t))) := by
  unfold aheadB
  split
  · split
    · simp only [decide_eq_true_eq]; omega
    · simp only [decide_eq_true_eq]; omega
  · simp only [decide_eq_true_eq]; omega
theorem aheadB_trans {a b c : Arr} (h : aheadB a b = true) (k : aheadB b c = true) : aheadB a c = true := by
  rw [aheadB_iff] at *; omega
theorem arrsFrom_iff (st ev : Int) : ∀ (ars : List Arr) (p : Option Arr), arrsFrom st ev p ars = true ↔ (∀ a ∈ ars, arrIn st ev a) ∧ IncA ars ∧ ∀ a ∈ ars, behindB p a = true
  | [], p => by simp [arrsFrom]
  | b :: r, p => by
    unfold arrsFrom
    by_cases hc : arrIn st ev b ∧ behindB p b = true
    · rw [if_pos hc, arrsFrom_iff st ev r (some b)]
      constructor
      · rintro ⟨h1, h2, h3⟩
        refine ⟨?_, List.pairwise_cons.2 ⟨fun a ha => h3 a ha, h2⟩, ?_⟩
        · intro a ha
          rcases List.mem_cons.1 ha with rfl | ha
          · exact hc.1
          · exact h1 a ha
        · intro a ha
          rcases List.mem_cons.1 ha with rfl | ha
          · exact hc.2
          · cases p with
            | none => rfl
            | some q => exact aheadB_trans (b := b) hc.2 (h3 a ha)
      · rintro ⟨h1, h2, h3⟩
        obtain ⟨k1, k2⟩ := List.pairwise_cons.1 h2
        exact ⟨fun a ha => h1 a (by simp [ha]), k2, k1⟩
    · rw [if_neg hc]
      constructor
      · intro h; cases h
      · rintro ⟨h1, h2, h3⟩
        exact absurd ⟨h1 b (by simp), h3 b (by simp)⟩ hc
theorem insA_last {x : Arr} : ∀ {L : List Arr}, (∀ a ∈ L, aheadB a x = true) → insA x L = L ++ [x]
  | [], _ => rfl
  | y :: r, h => by
    unfold insA
    rw [if_pos (h y (by simp)), insA_last (fun a ha => h a (by simp [ha]))]; rfl
theorem srtA_go : ∀ (l o : List Arr), IncA (o ++ l) → l.foldl (fun out x => insA x out) o = o ++ l
  | [], o, _ => by simp
  | x :: r, o, h => by
    have h1 : ∀ a ∈ o, aheadB a x = true := fun a ha => (List.pairwise_append.1 h).2.2 a ha x (by simp)
    rw [List.foldl_cons, insA_last h1, srtA_go r (o ++ [x]) (by simpa using h)]
    simp
theorem srtA_id {l : List Arr} (h : IncA l) : srtA l = l := by
  have := srtA_go l [] (by simpa using h)
  simpa [srtA] using this

/-! What is come to, of a machine that may be. -/
theorem may_arrs {m : Mach} (hm : mayB m = true) : ∀ a ∈ m.arrows, arrIn m.st m.ev a := ((arrsFrom_iff _ _ _ _).1 (mayB_arrs hm)).1
theorem may_inc {m : Mach} (hm : mayB m = true) : IncA m.arrows := ((arrsFrom_iff _ _ _ _).1 (mayB_arrs hm)).2.1
theorem may_starts {m : Mach} (hm : mayB m = true) : Inc m.starts ∧ ∀ x ∈ m.starts, 0 ≤ x ∧ x < m.st := (rowB_iff _ (by have := mayB_size hm; unfold sizeOk at this; omega) _).1 (mayB_starts hm)
theorem may_ends {m : Mach} (hm : mayB m = true) : Inc m.ends ∧ ∀ x ∈ m.ends, 0 ≤ x ∧ x < m.st := (rowB_iff _ (by have := mayB_size hm; unfold sizeOk at this; omega) _).1 (mayB_ends hm)
theorem mem_reach {m : Mach} (hm : mayB m = true) (x : Int) : x ∈ reachL m ↔ Rch (·.f) (·.t) m.arrows m.starts x := by
  have hz := mayB_size hm
  unfold sizeOk at hz
  have hs := may_starts hm
  have ha := may_arrs hm
  unfold reachL
  rw [mem_srt]
  exact mem_close (fun a h => by have := ha a h; omega) (inc_nodup hs.1) (fun y hy => by have := hs.2 y hy; omega) x
theorem mem_live {m : Mach} (hm : mayB m = true) (x : Int) : x ∈ liveL m ↔ Rch (·.t) (·.f) m.arrows m.ends x := by
  have hz := mayB_size hm
  unfold sizeOk at hz
  have hs := may_ends hm
  have ha := may_arrs hm
  unfold liveL
  rw [mem_srt]
  exact mem_close (fun a h => by have := ha a h; omega) (inc_nodup hs.1) (fun y hy => by have := hs.2 y hy; omega) x
theorem rch_bd {fr to : Arr → Int} {ars : List Arr} {l : List Int} {n x : Int} (hl : ∀ x ∈ l, 0 ≤ x ∧ x < n) (ha : ∀ a ∈ ars, 0 ≤ to a ∧ to a < n) (h : Rch fr to ars l x) : 0 ≤ x ∧ x < n :=
  h (fun x => 0 ≤ x ∧ x < n) ⟨hl, fun a h _ => ha a h⟩
theorem reach_bd {m : Mach} (hm : mayB m = true) {x : Int} (h : x ∈ reachL m) : 0 ≤ x ∧ x < m.st :=
  rch_bd (may_starts hm).2 (fun a ha => by have := may_arrs hm a ha; omega) ((mem_reach hm x).1 h)
theorem mem_trim (m : Mach) (x : Int) : x ∈ trimL m ↔ x ∈ reachL m ∧ x ∈ liveL m := by
  unfold trimL
  rw [List.mem_filter, beq_iff_eq, hasB_iff]
theorem inc_trim (m : Mach) : Inc (trimL m) := (inc_srt _).filter _
theorem trim_le {m : Mach} (hm : mayB m = true) : (trimL m).length ≤ m.st.toNat := by
  have hz := mayB_size hm
  unfold sizeOk at hz
  exact nodup_len _ _ (inc_nodup (inc_trim m)) (fun x hx => by have := reach_bd hm ((mem_trim m x).1 hx).1; omega)

/-! The trimmed machine may be. -/
theorem mem_places (T ss : List Int) (x : Int) : x ∈ placesL T ss ↔ ∃ s ∈ ss, s ∈ T ∧ placeI T s = x := by
  unfold placesL
  simp only [List.mem_filter, List.mem_map, decide_eq_true_eq]
  constructor
  · rintro ⟨⟨s, h1, rfl⟩, h2⟩; exact ⟨s, h1, (placeI_nn _ _).1 h2, rfl⟩
  · rintro ⟨s, h1, h2, rfl⟩; exact ⟨⟨s, h1, rfl⟩, (placeI_nn _ _).2 h2⟩
theorem inc_places {T ss : List Int} (hT : Inc T) (hs : Inc ss) : Inc (placesL T ss) := by
  unfold placesL
  rw [List.filter_map]
  refine List.pairwise_map.2 ?_
  refine (hs.filter _).imp_of_mem ?_
  intro a b ha hb hab
  simp only [List.mem_filter, Function.comp_apply, decide_eq_true_eq, placeI_nn] at ha hb
  exact (placeI_mono hT ha.2 hb.2).2 hab
theorem mem_trimA (T : List Int) (ars : List Arr) (x : Arr) : x ∈ trimA T ars ↔ ∃ a ∈ ars, a.f ∈ T ∧ a.t ∈ T ∧ x = ⟨placeI T a.f, a.e, placeI T a.t⟩ := by
  unfold trimA
  simp only [List.mem_map, List.mem_filter, Bool.and_eq_true, decide_eq_true_eq, placeI_nn]
  constructor
  · rintro ⟨a, ⟨h1, h2, h3⟩, rfl⟩; exact ⟨a, h1, h2, h3, rfl⟩
  · rintro ⟨a, h1, h2, h3, rfl⟩; exact ⟨a, ⟨h1, h2, h3⟩, rfl⟩
theorem inc_trimA {T : List Int} {ars : List Arr} (hT : Inc T) (ha : IncA ars) : IncA (trimA T ars) := by
  unfold trimA
  refine List.pairwise_map.2 ?_
  refine (ha.filter _).imp_of_mem ?_
  intro a b h1 h2 hab
  simp only [List.mem_filter, Bool.and_eq_true, decide_eq_true_eq, placeI_nn] at h1 h2
  rw [aheadB_iff] at hab ⊢
  dsimp only
  have m1 := placeI_mono hT h1.2.1 h2.2.1
  have m2 := placeI_mono hT h1.2.2 h2.2.2
  rcases hab with h | ⟨h, h'⟩
  · exact .inl (m1.2 h)
  · refine .inr ⟨by rw [h], ?_⟩
    rcases h' with h' | ⟨h', h''⟩
    · exact .inl h'
    · exact .inr ⟨h', m2.2 h''⟩
theorem srt_trimA {m : Mach} (hm : mayB m = true) : srtA (trimA (trimL m) m.arrows) = trimA (trimL m) m.arrows := srtA_id (inc_trimA (inc_trim m) (may_inc hm))
theorem may_trim {m : Mach} (hm : mayB m = true) : mayB (trimM m) = true := by
  have hz := mayB_size hm
  unfold sizeOk at hz
  have hl := trim_le hm
  have hst : 1 ≤ (trimM m).st ∧ (trimM m).st ≤ 256 ∧ ((trimL m).length : Int) ≤ (trimM m).st := by
    unfold trimM; dsimp only; split <;> omega
  have hT := inc_trim m
  rw [mayB_go ⟨hst.1, hst.2.1, hz.2.2.1, hz.2.2.2.1, Nat.le_trans (Nat.le_trans (srtA_len _) (trimA_len _ _)) hz.2.2.2.2⟩ ((rowB_iff _ (by omega) _).2 ⟨inc_places hT (may_starts hm).1, fun x hx => ?_⟩) ((rowB_iff _ (by omega) _).2 ⟨inc_places hT (may_ends hm).1, fun x hx => ?_⟩)]
  · rw [arrsFrom_iff]
    show (∀ a ∈ srtA (trimA (trimL m) m.arrows), _) ∧ IncA (srtA (trimA (trimL m) m.arrows)) ∧ _
    rw [srt_trimA hm]
    refine ⟨?_, inc_trimA hT (may_inc hm), fun _ _ => rfl⟩
    intro a ha
    obtain ⟨b, h1, h2, h3, rfl⟩ := (mem_trimA _ _ _).1 ha
    have i1 := placeI_lt h2
    have i2 := placeI_lt h3
    have i3 := (placeI_nn _ _).2 h2
    have i4 := (placeI_nn _ _).2 h3
    have i5 := may_arrs hm b h1
    exact ⟨i3, by dsimp only; omega, i4, by dsimp only; omega, i5.2.2.2.2.1, i5.2.2.2.2.2⟩
  · obtain ⟨s, h1, h2, rfl⟩ := (mem_places _ _ _).1 hx
    have i1 := placeI_lt h2
    exact ⟨(placeI_nn _ _).2 h2, by omega⟩
  · obtain ⟨s, h1, h2, rfl⟩ := (mem_places _ _ _).1 hx
    have i1 := placeI_lt h2
    exact ⟨(placeI_nn _ _).2 h2, by omega⟩

/-! The trimmed machine accepts the same words. -/
structure TrimOf (m : Mach) (ss ss' : List Int) : Prop where
  mem : ∀ x, x ∈ ss' ↔ ∃ s ∈ ss, s ∈ trimL m ∧ placeI (trimL m) s = x
  sub : ∀ s ∈ ss, s ∈ reachL m
theorem trim_step {m : Mach} (hm : mayB m = true) {ss ss' : List Int} (h : TrimOf m ss ss') (e : Int) : TrimOf m (stepL m.arrows ss e) (stepL (trimM m).arrows ss' e) := by
  have hst : ∀ a ∈ m.arrows, a.f ∈ reachL m → a.t ∈ reachL m := fun a ha hf => (mem_reach hm _).2 (rch_step (fr := (·.f)) (to := (·.t)) ha ((mem_reach hm _).1 hf))
  have hlv : ∀ a ∈ m.arrows, a.t ∈ liveL m → a.f ∈ liveL m := fun a ha hf => (mem_live hm _).2 (rch_step (fr := (·.t)) (to := (·.f)) ha ((mem_live hm _).1 hf))
  refine ⟨fun x => ?_, fun s hs => ?_⟩
  · rw [mem_stepL]
    show (∃ a ∈ srtA (trimA (trimL m) m.arrows), _) ↔ _
    rw [srt_trimA hm]
    constructor
    · rintro ⟨a', ha', h1, h2, h3⟩
      obtain ⟨a, ha, hf, ht, rfl⟩ := (mem_trimA _ _ _).1 ha'
      obtain ⟨s, hs, hsT, hp⟩ := (h.mem _).1 h2
      have : s = a.f := placeI_inj hsT hf hp
      subst this
      exact ⟨a.t, (mem_stepL _ _ _ _).2 ⟨a, ha, h1, hs, rfl⟩, ht, h3⟩
    · rintro ⟨s, hs, hsT, hp⟩
      obtain ⟨a, ha, h1, h2, rfl⟩ := (mem_stepL _ _ _ _).1 hs
      have hfT : a.f ∈ trimL m := (mem_trim m _).2 ⟨h.sub _ h2, hlv a ha ((mem_trim m _).1 hsT).2⟩
      exact ⟨_, (mem_trimA _ _ _).2 ⟨a, ha, hfT, hsT, rfl⟩, h1, (h.mem _).2 ⟨a.f, h2, hfT, rfl⟩, hp⟩
  · obtain ⟨a, ha, -, h2, rfl⟩ := (mem_stepL _ _ _ _).1 hs
    exact hst a ha (h.sub _ h2)
theorem trim_after {m : Mach} (hm : mayB m = true) : ∀ (word : List Int) {ss ss' : List Int}, TrimOf m ss ss' → TrimOf m (afterL m.arrows ss word) (afterL (trimM m).arrows ss' word)
  | [], _, _, h => h
  | e :: r, _, _, h => trim_after hm r (trim_step hm h e)
theorem accepts_iff (m : Mach) (word : List Int) : acceptsB m word = true ↔ ∃ x ∈ afterL m.arrows m.starts word, x ∈ m.ends := by
  unfold acceptsB acceptsL
  rw [decide_eq_true_eq, List.length_pos_iff_exists_mem]
  simp only [List.mem_filter, beq_iff_eq, hasB_iff]
theorem trim_accepts {m : Mach} (hm : mayB m = true) (word : List Int) : acceptsB (trimM m) word = acceptsB m word := by
  have h0 : TrimOf m m.starts (trimM m).starts := ⟨fun x => mem_places _ _ x, fun s hs => (mem_reach hm s).2 (rch_start hs)⟩
  have h1 := trim_after hm word h0
  rw [Bool.eq_iff_iff, accepts_iff, accepts_iff]
  constructor
  · rintro ⟨x, hx, he⟩
    obtain ⟨s, hs, hsT, hp⟩ := (h1.mem x).1 hx
    obtain ⟨t, ht, htT, hq⟩ := (mem_places _ _ _).1 he
    have : s = t := placeI_inj hsT htT (hp.trans hq.symm)
    subst this
    exact ⟨s, hs, ht⟩
  · rintro ⟨s, hs, he⟩
    have hT : s ∈ trimL m := (mem_trim m s).2 ⟨h1.sub s hs, (mem_live hm s).2 (rch_start he)⟩
    exact ⟨_, (h1.mem _).2 ⟨s, hs, hT, rfl⟩, (mem_places _ _ _).2 ⟨s, he, hT, rfl⟩⟩

end Go.Proofs.YtcjcjaeaoianfaaDoor
namespace Go.Proofs.YtcjcjaeaoianfaaDoor
open Go.RowKit
set_option linter.unusedVariables false

/-! Places of pairs. -/
theorem findP_nth : ∀ {L : List (Int × Int)} {q : Int × Int}, q ∈ L → L[findP L q.1 q.2]? = some q
  | [], q, h => by simp at h
  | p :: r, q, h => by
    unfold findP
    by_cases hc : p.1 = q.1 ∧ p.2 = q.2
    · rw [if_pos hc]
      have : p = q := Prod.ext hc.1 hc.2
      simp [this]
    · rw [if_neg hc]
      have hq : q ∈ r := by
        rcases List.mem_cons.1 h with rfl | h
        · exact absurd ⟨rfl, rfl⟩ hc
        · exact h
      simpa using findP_nth hq
theorem findP_lt {L : List (Int × Int)} {q : Int × Int} (h : q ∈ L) : findP L q.1 q.2 < L.length := (List.getElem?_eq_some_iff.1 (findP_nth h)).1
theorem findP_new : ∀ {L : List (Int × Int)} {q : Int × Int}, findP L q.1 q.2 = L.length ↔ q ∉ L := by
  intro L q
  constructor
  · intro h hq
    have := findP_lt hq
    omega
  · intro h
    induction L with
    | nil => rfl
    | cons p r ih =>
      unfold findP
      have hc : ¬ (p.1 = q.1 ∧ p.2 = q.2) := fun hc => h (by have : p = q := Prod.ext hc.1 hc.2; simp [this])
      rw [if_neg hc, ih (fun hq => h (by simp [hq]))]; rfl
theorem findP_app : ∀ {L : List (Int × Int)} {q : Int × Int} (t : List (Int × Int)), q ∈ L → findP (L ++ t) q.1 q.2 = findP L q.1 q.2
  | [], q, t, h => by simp at h
  | p :: r, q, t, h => by
    rw [List.cons_append]
    unfold findP
    by_cases hc : p.1 = q.1 ∧ p.2 = q.2
    · rw [if_pos hc, if_pos hc]
    · have hq : q ∈ r := by
        rcases List.mem_cons.1 h with rfl | h
        · exact absurd ⟨rfl, rfl⟩ hc
        · exact h
      rw [if_neg hc, if_neg hc, findP_app t hq]
theorem findP_at : ∀ {L : List (Int × Int)} {q : Int × Int} {i : Nat}, L.Nodup → L[i]? = some q → findP L q.1 q.2 = i := by
  intro L q i hn hi
  have hm : q ∈ L := List.mem_of_getElem? hi
  have h1 := findP_nth hm
  obtain ⟨l1, e1⟩ := List.getElem?_eq_some_iff.1 h1
  obtain ⟨l2, e2⟩ := List.getElem?_eq_some_iff.1 hi
  exact (List.getElem_inj hn).1 (e1.trans e2.symm)
theorem mem_crossP (S T : List Int) (q : Int × Int) : q ∈ crossP S T ↔ q.1 ∈ S ∧ q.2 ∈ T := by
  unfold crossP
  rw [List.mem_flatMap]
  constructor
  · rintro ⟨x, hx, h⟩
    obtain ⟨y, hy, rfl⟩ := List.mem_map.1 h
    exact ⟨hx, hy⟩
  · rintro ⟨h1, h2⟩
    exact ⟨q.1, h1, List.mem_map.2 ⟨q.2, h2, rfl⟩⟩
theorem nodup_crossP : ∀ {S T : List Int}, S.Nodup → T.Nodup → (crossP S T).Nodup
  | [], T, _, _ => by simp [crossP]
  | x :: r, T, hS, hT => by
    obtain ⟨h1, h2⟩ := List.nodup_cons.1 hS
    have ih := nodup_crossP h2 hT
    show ((T.map fun y => (x, y)) ++ crossP r T).Nodup
    rw [List.nodup_append]
    refine ⟨?_, ih, ?_⟩
    · rw [List.Nodup, List.pairwise_map]
      exact hT.imp (fun h e => h (Prod.mk.inj e).2)
    · intro p hp q hq e
      subst e
      obtain ⟨y, hy, rfl⟩ := List.mem_map.1 hp
      exact h1 ((mem_crossP _ _ _).1 hq).1

/-! What has been found: the invariant. -/
/-- What is known once the pairs before k, and of pair k the events before e, and of these at e the places in Q, have been gone through. -/
structure BInv (a b : Mach) (ofA ofB : List Int) (s : BS) (D : Nat → Int → (Int × Int) → Prop) : Prop where
  nd : s.ps.Nodup
  pre : ∃ t, s.ps = crossP a.starts b.starts ++ t
  fwd : ∀ x ∈ s.ar, ∃ (i : Nat) (p q : Int × Int) (e : Int), D i e q ∧ s.ps[i]? = some p ∧ 0 ≤ e ∧ e < a.ev ∧ q ∈ leadsP a.arrows b.arrows p e (hasB ofA e) (hasB ofB e) ∧ q ∈ s.ps ∧ x = ⟨(i : Int), e, (findP s.ps q.1 q.2 : Nat)⟩
  bwd : ∀ (i : Nat) (p q : Int × Int) (e : Int), D i e q → s.ps[i]? = some p → 0 ≤ e → e < a.ev → q ∈ leadsP a.arrows b.arrows p e (hasB ofA e) (hasB ofB e) → q ∈ s.ps ∧ (⟨(i : Int), e, (findP s.ps q.1 q.2 : Nat)⟩ : Arr) ∈ s.ar
  cr : ∀ p ∈ s.ps, (0 ≤ p.1 ∧ p.1 < a.st) ∧ (0 ≤ p.2 ∧ p.2 < b.st)

theorem binv_congr {a b : Mach} {ofA ofB : List Int} {s : BS} {D D' : Nat → Int → (Int × Int) → Prop} (h : BInv a b ofA ofB s D) (hD : ∀ (i : Nat) (p q : Int × Int) (e : Int), s.ps[i]? = some p → 0 ≤ e → e < a.ev → q ∈ leadsP a.arrows b.arrows p e (hasB ofA e) (hasB ofB e) → (D i e q ↔ D' i e q)) : BInv a b ofA ofB s D' := by
  refine ⟨h.nd, h.pre, fun x hx => ?_, fun i p q e hd hp h0 h1 hq => ?_, h.cr⟩
  · obtain ⟨i, p, q, e, hd, hp, h0, h1, hq, hm, rfl⟩ := h.fwd x hx
    exact ⟨i, p, q, e, (hD i p q e hp h0 h1 hq).1 hd, hp, h0, h1, hq, hm, rfl⟩
  · exact h.bwd i p q e ((hD i p q e hp h0 h1 hq).2 hd) hp h0 h1 hq

theorem mem_leadsP (A B : List Arr) (p q : Int × Int) (e : Int) (x y : Bool) : q ∈ leadsP A B p e x y ↔ (x = true ∨ y = true) ∧ (if x = true then q.1 ∈ stepL A [p.1] e else q.1 = p.1) ∧ (if y = true then q.2 ∈ stepL B [p.2] e else q.2 = p.2) := by
  unfold leadsP
  cases x <;> cases y <;> simp [mem_crossP]
theorem leadsP_bd {a b : Mach} (ha : mayB a = true) (hb : mayB b = true) {p q : Int × Int} {e : Int} {x y : Bool} (hp : (0 ≤ p.1 ∧ p.1 < a.st) ∧ (0 ≤ p.2 ∧ p.2 < b.st)) (h : q ∈ leadsP a.arrows b.arrows p e x y) : (0 ≤ q.1 ∧ q.1 < a.st) ∧ (0 ≤ q.2 ∧ q.2 < b.st) := by
  obtain ⟨-, h1, h2⟩ := (mem_leadsP _ _ _ _ _ _ _).1 h
  refine ⟨?_, ?_⟩
  · split at h1
    · obtain ⟨c, hc, -, -, ec⟩ := (mem_stepL _ _ _ _).1 h1
      have := may_arrs ha c hc
      rw [← ec]
      exact ⟨this.2.2.1, this.2.2.2.1⟩
    · rw [h1]; exact hp.1
  · split at h2
    · obtain ⟨c, hc, -, -, ec⟩ := (mem_stepL _ _ _ _).1 h2
      have := may_arrs hb c hc
      rw [← ec]
      exact ⟨this.2.2.1, this.2.2.2.1⟩
    · rw [h2]; exact hp.2

/-- One pair more that is led to. -/
theorem binv_add {a b : Mach} (ha : mayB a = true) (hb : mayB b = true) {ofA ofB : List Int} {s : BS} {D : Nat → Int → (Int × Int) → Prop} (h : BInv a b ofA ofB s D) {k : Nat} {p q : Int × Int} {e : Int} (hp : s.ps[k]? = some p) (h0 : 0 ≤ e) (h1 : e < a.ev) (hq : q ∈ leadsP a.arrows b.arrows p e (hasB ofA e) (hasB ofB e)) (hD : ∀ i e q, D i e q → i < s.ps.length) :
    BInv a b ofA ofB (bAdd k e s q) (fun i e' q' => D i e' q' ∨ (i = k ∧ e' = e ∧ q' = q)) := by
  have hk := (List.getElem?_eq_some_iff.1 hp).1
  have hE : ∃ t, (bAdd k e s q).ps = s.ps ++ t ∧ q ∈ (bAdd k e s q).ps ∧ (bAdd k e s q).ps.Nodup ∧ (∀ r ∈ t, r = q) ∧ findP (bAdd k e s q).ps q.1 q.2 = findP s.ps q.1 q.2 := by
    unfold bAdd
    by_cases hn : findP s.ps q.1 q.2 = s.ps.length
    · have hm := findP_new.1 hn
      dsimp only
      rw [if_pos hn]
      have hnd : (s.ps ++ [q]).Nodup := by
        rw [List.nodup_append]
        exact ⟨h.nd, by simp, fun x hx y hy e => by simp at hy; subst hy; subst e; exact hm hx⟩
      refine ⟨[q], rfl, by simp, hnd, by simp, ?_⟩
      rw [hn]
      exact findP_at hnd (by simp)
    · have hm : q ∈ s.ps := Classical.byContradiction fun hc => hn (findP_new.2 hc)
      dsimp only
      rw [if_neg hn]
      exact ⟨[], by simp, hm, h.nd, by simp, rfl⟩
  obtain ⟨t, ht, hqm, hnd, htq, hf⟩ := hE
  have har : (bAdd k e s q).ar = s.ar ++ [⟨(k : Int), e, (findP s.ps q.1 q.2 : Nat)⟩] := rfl
  have hget : ∀ {i : Nat} {p' : Int × Int}, s.ps[i]? = some p' → (bAdd k e s q).ps[i]? = some p' := fun {i p'} hi => by
    rw [ht, List.getElem?_append_left (List.getElem?_eq_some_iff.1 hi).1]; exact hi
  have hback : ∀ {i : Nat} {p' : Int × Int}, i < s.ps.length → (bAdd k e s q).ps[i]? = some p' → s.ps[i]? = some p' := fun {i p'} hi hp' => by
    rw [ht, List.getElem?_append_left hi] at hp'; exact hp'
  refine ⟨hnd, ?_, ?_, ?_, ?_⟩
  · obtain ⟨u, hu⟩ := h.pre
    exact ⟨u ++ t, by rw [ht, hu, List.append_assoc]⟩
  · intro x hx
    rw [har] at hx
    rcases List.mem_append.1 hx with hx | hx
    · obtain ⟨i, p', q', e', hd, hp', h0', h1', hq', hm', rfl⟩ := h.fwd x hx
      exact ⟨i, p', q', e', .inl hd, hget hp', h0', h1', hq', by rw [ht]; simp [hm'], by rw [ht, findP_app t hm']⟩
    · have hx : x = ⟨(k : Int), e, (findP s.ps q.1 q.2 : Nat)⟩ := by simpa using hx
      exact ⟨k, p, q, e, .inr ⟨rfl, rfl, rfl⟩, hget hp, h0, h1, hq, hqm, by rw [hx, hf]⟩
  · rintro i p' q' e' (hd | ⟨rfl, rfl, rfl⟩) hp' h0' h1' hq'
    · obtain ⟨k1, k2⟩ := h.bwd i p' q' e' hd (hback (hD _ _ _ hd) hp') h0' h1' hq'
      exact ⟨by rw [ht]; simp [k1], by rw [har, ht, findP_app t k1]; simp [k2]⟩
    · exact ⟨hqm, by rw [har, hf]; simp⟩
  · intro r hr
    rw [ht] at hr
    rcases List.mem_append.1 hr with hr | hr
    · exact h.cr r hr
    · rw [htq r hr]
      exact leadsP_bd ha hb (h.cr p (List.mem_of_getElem? hp)) hq

theorem binv_fold {a b : Mach} (ha : mayB a = true) (hb : mayB b = true) {ofA ofB : List Int} {k : Nat} {p : Int × Int} {e : Int} (h0 : 0 ≤ e) (h1 : e < a.ev) : ∀ (L : List (Int × Int)) {s : BS} {D : Nat → Int → (Int × Int) → Prop}, BInv a b ofA ofB s D → s.ps[k]? = some p → (∀ q ∈ L, q ∈ leadsP a.arrows b.arrows p e (hasB ofA e) (hasB ofB e)) → (∀ i e q, D i e q → i < s.ps.length) →
    BInv a b ofA ofB (L.foldl (bAdd k e) s) (fun i e' q' => D i e' q' ∨ (i = k ∧ e' = e ∧ q' ∈ L))
  | [], s, D, h, _, _, _ => binv_congr h (fun i p q e _ _ _ _ => by simp)
  | q :: r, s, D, h, hp, hL, hD => by
    have hk := (List.getElem?_eq_some_iff.1 hp).1
    obtain ⟨t, ht, -⟩ := bAdd_ps k e s q
    have hp' : (bAdd k e s q).ps[k]? = some p := by rw [ht, List.getElem?_append_left hk]; exact hp
    have hl : s.ps.length ≤ (bAdd k e s q).ps.length := by rw [ht, List.length_append]; omega
    have h2 := binv_fold ha hb h0 h1 r (binv_add ha hb h hp h0 h1 (hL q (by simp)) hD) hp' (fun q' hq' => hL q' (by simp [hq'])) (fun i e q hd => by
      rcases hd with hd | ⟨rfl, -, -⟩
      · exact Nat.lt_of_lt_of_le (hD _ _ _ hd) hl
      · omega)
    rw [List.foldl_cons]
    refine binv_congr h2 (fun i p' q' e' _ _ _ _ => ?_)
    rw [List.mem_cons]
    constructor
    · rintro ((h | ⟨h1, h2, h3⟩) | ⟨h1, h2, h3⟩)
      · exact .inl h
      · exact .inr ⟨h1, h2, .inl h3⟩
      · exact .inr ⟨h1, h2, .inr h3⟩
    · rintro (h | ⟨h1, h2, h3 | h3⟩)
      · exact .inl (.inl h)
      · exact .inl (.inr ⟨h1, h2, h3⟩)
      · exact .inr ⟨h1, h2, h3⟩
theorem bEv_ps (a b : Mach) (ofA ofB : List Int) (k : Nat) (p : Int × Int) (s : BS) (e : Int) : ∃ t, (bEv a b ofA ofB k p s e).ps = s.ps ++ t := by
  obtain ⟨t, h, -⟩ := bFold_ps k e (leadsP a.arrows b.arrows p e (hasB ofA e) (hasB ofB e)) s
  exact ⟨t, h⟩
theorem bEvs_ps (a b : Mach) (ofA ofB : List Int) (k : Nat) (p : Int × Int) (s : BS) : ∀ n, ∃ t, (bEvs a b ofA ofB k p s n).ps = s.ps ++ t
  | 0 => ⟨[], by simp [bEvs]⟩
  | n + 1 => by
    obtain ⟨t, h⟩ := bEvs_ps a b ofA ofB k p s n
    obtain ⟨u, h'⟩ := bEv_ps a b ofA ofB k p (bEvs a b ofA ofB k p s n) (n : Int)
    exact ⟨t ++ u, by rw [bEvs_succ, h', h, List.append_assoc]⟩
theorem binv_ev {a b : Mach} (ha : mayB a = true) (hb : mayB b = true) {ofA ofB : List Int} {s : BS} {D : Nat → Int → (Int × Int) → Prop} (h : BInv a b ofA ofB s D) {k : Nat} {p : Int × Int} {e : Int} (hp : s.ps[k]? = some p) (h0 : 0 ≤ e) (h1 : e < a.ev) (hD : ∀ i e q, D i e q → i < s.ps.length) :
    BInv a b ofA ofB (bEv a b ofA ofB k p s e) (fun i e' q' => D i e' q' ∨ (i = k ∧ e' = e)) := by
  have hk := (List.getElem?_eq_some_iff.1 hp).1
  have h2 := binv_fold ha hb h0 h1 (leadsP a.arrows b.arrows p e (hasB ofA e) (hasB ofB e)) h hp (fun q hq => hq) hD
  refine binv_congr (s := bEv a b ofA ofB k p s e) h2 (fun i p' q' e' hp' _ _ hq' => ?_)
  constructor
  · rintro (h | ⟨h1, h2, -⟩)
    · exact .inl h
    · exact .inr ⟨h1, h2⟩
  · rintro (h | ⟨rfl, rfl⟩)
    · exact .inl h
    · obtain ⟨t, ht⟩ := bEv_ps a b ofA ofB i p s e'
      rw [ht, List.getElem?_append_left hk, hp] at hp'
      cases hp'
      exact .inr ⟨rfl, rfl, hq'⟩
theorem binv_evs {a b : Mach} (ha : mayB a = true) (hb : mayB b = true) {ofA ofB : List Int} {s : BS} {D : Nat → Int → (Int × Int) → Prop} (h : BInv a b ofA ofB s D) {k : Nat} {p : Int × Int} (hp : s.ps[k]? = some p) (hD : ∀ i e q, D i e q → i < s.ps.length) : ∀ n : Nat, (n : Int) ≤ a.ev →
    BInv a b ofA ofB (bEvs a b ofA ofB k p s n) (fun i e' q' => D i e' q' ∨ (i = k ∧ e' < n))
  | 0, _ => binv_congr (s := s) h (fun i p q e _ h0 _ _ => by
      constructor
      · exact .inl
      · rintro (h | ⟨-, h⟩)
        · exact h
        · omega)
  | n + 1, hn => by
    have hk := (List.getElem?_eq_some_iff.1 hp).1
    obtain ⟨t, ht⟩ := bEvs_ps a b ofA ofB k p s n
    have hp' : (bEvs a b ofA ofB k p s n).ps[k]? = some p := by rw [ht, List.getElem?_append_left hk]; exact hp
    have hl : s.ps.length ≤ (bEvs a b ofA ofB k p s n).ps.length := by rw [ht, List.length_append]; omega
    rw [bEvs_succ]
    refine binv_congr (binv_ev ha hb (binv_evs ha hb h hp hD n (by omega)) hp' (e := (n : Int)) (by omega) (by omega) (fun i e q hd => by
      rcases hd with hd | ⟨rfl, -⟩
      · exact Nat.lt_of_lt_of_le (hD _ _ _ hd) hl
      · omega)) (fun i p' q' e' _ _ _ _ => ?_)
    constructor
    · rintro ((h | ⟨h1, h2⟩) | ⟨h1, h2⟩)
      · exact .inl h
      · exact .inr ⟨h1, by omega⟩
      · exact .inr ⟨h1, by omega⟩
    · rintro (h | ⟨h1, h2⟩)
      · exact .inl (.inl h)
      · by_cases h3 : e' = n
        · exact .inr ⟨h1, h3⟩
        · exact .inl (.inr ⟨h1, by omega⟩)
theorem binv_pair {a b : Mach} (ha : mayB a = true) (hb : mayB b = true) {ofA ofB : List Int} {s : BS} {k : Nat} (h : BInv a b ofA ofB s (fun i _ _ => i < k)) (hk : k < s.ps.length) :
    BInv a b ofA ofB (bPair a b ofA ofB s k) (fun i _ _ => i < k + 1) := by
  have hz := mayB_size ha
  unfold sizeOk at hz
  have hp : s.ps[k]? = some s.ps[k] := List.getElem?_eq_getElem hk
  unfold bPair
  rw [hp, Option.getD_some]
  refine binv_congr (binv_evs ha hb h hp (fun i _ _ hi => by omega) a.ev.toNat (by omega)) (fun i p q e _ h0 h1 _ => ?_)
  constructor
  · rintro (h | ⟨h, -⟩) <;> omega
  · intro h
    by_cases h2 : i = k
    · exact .inr ⟨h2, by omega⟩
    · exact .inl (by omega)
/-- What is known of what has been found at last. -/
theorem binv_go {a b : Mach} (ha : mayB a = true) (hb : mayB b = true) {ofA ofB : List Int} : ∀ (f k : Nat) (s s' : BS), BInv a b ofA ofB s (fun i _ _ => i < k) → k ≤ s.ps.length → 300 ≤ f + k → (k = 0 ∨ s.ps.length ≤ 256) → s.ar.length ≤ 4096 → bGo a b ofA ofB f k s = some s' →
    BInv a b ofA ofB s' (fun i _ _ => i < s'.ps.length) ∧ s'.ps.length ≤ 256 ∧ s'.ar.length ≤ 4096
  | 0, k, s, s', h, hk, hf, hs, hr, e => by omega
  | f + 1, k, s, s', h, hk, hf, hs, hr, e => by
    rw [bGo] at e
    by_cases hlt : k < s.ps.length
    · rw [if_pos hlt] at e
      by_cases hB : bBig (bPair a b ofA ofB s k) = true
      · rw [if_pos hB] at e; cases e
      · rw [if_neg hB] at e
        have hn : (bPair a b ofA ofB s k).ps.length ≤ 256 ∧ (bPair a b ofA ofB s k).ar.length ≤ 4096 := by
          unfold bBig at hB
          simp only [Bool.or_eq_true, decide_eq_true_eq, not_or] at hB
          omega
        have hl : s.ps.length ≤ (bPair a b ofA ofB s k).ps.length := by
          obtain ⟨t, ht⟩ := bEvs_ps a b ofA ofB k (s.ps[k]?.getD (0, 0)) s a.ev.toNat
          unfold bPair
          rw [ht, List.length_append]; omega
        exact binv_go ha hb f (k + 1) _ s' (binv_pair ha hb h hlt) (by omega) (by omega) (.inr hn.1) hn.2 e
    · rw [if_neg hlt] at e
      cases e
      have : k = s.ps.length := by omega
      subst this
      refine ⟨h, ?_, hr⟩
      rcases hs with hs | hs <;> omega
theorem beside_inv {a b : Mach} (ha : mayB a = true) (hb : mayB b = true) {ofA ofB : List Int} {s : BS} (h : besideS a b ofA ofB = some s) : BInv a b ofA ofB s (fun i _ _ => i < s.ps.length) ∧ s.ps.length ≤ 256 ∧ s.ar.length ≤ 4096 := by
  have sa := may_starts ha
  have sb := may_starts hb
  refine binv_go ha hb 300 0 _ s ⟨nodup_crossP (inc_nodup sa.1) (inc_nodup sb.1), ⟨[], by simp⟩, fun x hx => by simp at hx, fun i p q e hd => by omega, fun p hp => ?_⟩ (by omega) (by omega) (.inl rfl) (by simp) h
  obtain ⟨h1, h2⟩ := (mem_crossP _ _ _).1 hp
  exact ⟨sa.2 _ h1, sb.2 _ h2⟩

/-! Arrows in order. -/
theorem arr_ext {x y : Arr} (h : arrEq x y) : x = y := by
  cases x; cases y; obtain ⟨h1, h2, h3⟩ := h; dsimp only at h1 h2 h3; subst h1; subst h2; subst h3; rfl
theorem mem_insA (z x : Arr) : ∀ L, z ∈ insA x L ↔ z = x ∨ z ∈ L
  | [] => by simp [insA]
  | y :: r => by
    unfold insA
    split
    · rw [List.mem_cons, mem_insA z x r, List.mem_cons]
      constructor
      · rintro (h | h | h)
        · exact .inr (.inl h)
        · exact .inl h
        · exact .inr (.inr h)
      · rintro (h | h | h)
        · exact .inr (.inl h)
        · exact .inl h
        · exact .inr (.inr h)
    · split
      · rename_i h
        have := arr_ext h
        subst this
        simp
      · simp
theorem inc_insA (x : Arr) : ∀ {L : List Arr}, IncA L → IncA (insA x L)
  | [], _ => by simp [insA, IncA]
  | y :: r, h => by
    obtain ⟨h1, h2⟩ := List.pairwise_cons.1 h
    unfold insA
    split
    · rename_i hy
      refine List.pairwise_cons.2 ⟨fun z hz => ?_, inc_insA x h2⟩
      rcases (mem_insA z x r).1 hz with rfl | hz
      · exact hy
      · exact h1 z hz
    · rename_i hy
      split
      · exact h
      · rename_i he
        have hx : aheadB x y = true := by
          rw [aheadB_iff] at hy ⊢
          unfold arrEq at he
          omega
        refine List.pairwise_cons.2 ⟨fun z hz => ?_, h⟩
        rcases List.mem_cons.1 hz with rfl | hz
        · exact hx
        · exact aheadB_trans hx (h1 z hz)
theorem srtA_both : ∀ (l o : List Arr), IncA o → IncA (l.foldl (fun out x => insA x out) o) ∧ ∀ z, z ∈ l.foldl (fun out x => insA x out) o ↔ z ∈ o ∨ z ∈ l
  | [], o, h => ⟨h, fun z => by simp⟩
  | x :: r, o, h => by
    obtain ⟨k1, k2⟩ := srtA_both r (insA x o) (inc_insA x h)
    refine ⟨k1, fun z => ?_⟩
    rw [List.foldl_cons, k2 z, mem_insA, List.mem_cons]
    constructor
    · rintro ((h | h) | h)
      · exact .inr (.inl h)
      · exact .inl h
      · exact .inr (.inr h)
    · rintro (h | h | h)
      · exact .inl (.inr h)
      · exact .inl (.inl h)
      · exact .inr h
theorem inc_srtA (l : List Arr) : IncA (srtA l) := (srtA_both l [] (by simp [IncA])).1
theorem mem_srtA (l : List Arr) (z : Arr) : z ∈ srtA l ↔ z ∈ l := by rw [show (z ∈ srtA l ↔ _) from (srtA_both l [] (by simp [IncA])).2 z]; simp

/-! The machine of both may be. -/
theorem mem_rngI (n : Nat) (x : Int) : x ∈ rngI n ↔ 0 ≤ x ∧ x < n := by
  unfold rngI
  rw [List.mem_map]
  constructor
  · rintro ⟨k, hk, rfl⟩
    have := List.mem_range.1 hk
    omega
  · rintro ⟨h1, h2⟩
    exact ⟨x.toNat, List.mem_range.2 (by omega), by omega⟩
theorem inc_rngI : ∀ n, Inc (rngI n)
  | 0 => by simp [rngI, Inc]
  | n + 1 => by
    rw [rngI_succ]
    refine List.pairwise_append.2 ⟨inc_rngI n, by simp, fun x hx y hy => ?_⟩
    have h1 := (mem_rngI n x).1 hx
    have h2 : y = n := by simpa using hy
    omega
theorem mem_endsP (a b : Mach) (L : List (Int × Int)) (x : Int) : x ∈ endsP a b L L.length ↔ ∃ (i : Nat) (p : Int × Int), L[i]? = some p ∧ x = i ∧ p.1 ∈ a.ends ∧ p.2 ∈ b.ends := by
  unfold endsP
  rw [List.mem_filter, mem_rngI, Bool.and_eq_true, hasB_iff, hasB_iff]
  constructor
  · rintro ⟨⟨h1, h2⟩, h3, h4⟩
    have hl : x.toNat < L.length := by omega
    refine ⟨x.toNat, L[x.toNat], List.getElem?_eq_getElem hl, by omega, ?_, ?_⟩
    · rwa [List.getElem?_eq_getElem hl, Option.getD_some] at h3
    · rwa [List.getElem?_eq_getElem hl, Option.getD_some] at h4
  · rintro ⟨i, p, hp, rfl, h3, h4⟩
    have hl := (List.getElem?_eq_some_iff.1 hp).1
    rw [Int.toNat_natCast, hp, Option.getD_some]
    exact ⟨⟨by omega, by omega⟩, h3, h4⟩
theorem may_beside {a b : Mach} (ha : mayB a = true) (hb : mayB b = true) {ofA ofB : List Int} {s : BS} (h : besideS a b ofA ofB = some s) : mayB (besideM a b s) = true := by
  obtain ⟨hI, h1, h2⟩ := beside_inv ha hb h
  have hz := mayB_size ha
  unfold sizeOk at hz
  have hst : 1 ≤ (besideM a b s).st ∧ (besideM a b s).st ≤ 256 ∧ (s.ps.length : Int) ≤ (besideM a b s).st := by
    unfold besideM; dsimp only; split <;> omega
  rw [mayB_go ⟨hst.1, hst.2.1, hz.2.2.1, hz.2.2.2.1, Nat.le_trans (srtA_len _) h2⟩ ((rowB_iff _ (by omega) _).2 ⟨inc_rngI _, fun x hx => ?_⟩) ((rowB_iff _ (by omega) _).2 ⟨(inc_rngI _).filter _, fun x hx => ?_⟩)]
  · rw [arrsFrom_iff]
    refine ⟨fun x hx => ?_, inc_srtA _, fun _ _ => rfl⟩
    obtain ⟨i, p, q, e, -, hp, h0, h1, hq, hm, rfl⟩ := hI.fwd x ((mem_srtA _ _).1 hx)
    have hi := (List.getElem?_eq_some_iff.1 hp).1
    have hj := findP_lt hm
    exact ⟨by dsimp only; omega, by dsimp only; omega, by dsimp only; omega, by dsimp only; omega, h0, h1⟩
  · have h3 := (mem_rngI _ x).1 hx
    obtain ⟨t, ht⟩ := hI.pre
    have : (crossP a.starts b.starts).length ≤ s.ps.length := by rw [ht, List.length_append]; omega
    omega
  · have h3 := (mem_rngI _ x).1 (List.mem_filter.1 hx).1
    omega

/-! Words. -/
structure Sim (s : BS) (ss sa sb : List Int) : Prop where
  mem : ∀ x, x ∈ ss ↔ ∃ (i : Nat) (p : Int × Int), s.ps[i]? = some p ∧ x = i ∧ p.1 ∈ sa ∧ p.2 ∈ sb
  all : ∀ x ∈ sa, ∀ y ∈ sb, (x, y) ∈ s.ps
theorem step_one {ars : List Arr} {l : List Int} {x y e : Int} (hx : x ∈ l) (h : y ∈ stepL ars [x] e) : y ∈ stepL ars l e := by
  obtain ⟨c, hc, h1, h2, h3⟩ := (mem_stepL _ _ _ _).1 h
  have : c.f = x := by simpa using h2
  exact (mem_stepL _ _ _ _).2 ⟨c, hc, h1, by rw [this]; exact hx, h3⟩
theorem step_of {ars : List Arr} {l : List Int} {y e : Int} (h : y ∈ stepL ars l e) : ∃ x ∈ l, y ∈ stepL ars [x] e := by
  obtain ⟨c, hc, h1, h2, h3⟩ := (mem_stepL _ _ _ _).1 h
  exact ⟨c.f, h2, (mem_stepL _ _ _ _).2 ⟨c, hc, h1, by simp, h3⟩⟩
theorem half_of {ars : List Arr} {l : List Int} {y e : Int} {x : Bool} (h : y ∈ (if x = true then stepL ars l e else l)) : ∃ z ∈ l, (if x = true then y ∈ stepL ars [z] e else y = z) := by
  cases x with
  | true => exact step_of h
  | false => exact ⟨y, h, rfl⟩
theorem half_one {ars : List Arr} {l : List Int} {y z e : Int} {x : Bool} (hz : z ∈ l) (h : if x = true then y ∈ stepL ars [z] e else y = z) : y ∈ (if x = true then stepL ars l e else l) := by
  cases x with
  | true => exact step_one hz h
  | false => have : y = z := h; subst this; exact hz
theorem sim_step {a b : Mach} {ofA ofB : List Int} {s : BS} (hI : BInv a b ofA ofB s (fun i _ _ => i < s.ps.length)) {ss sa sb : List Int} (h : Sim s ss sa sb) {e : Int} (h0 : 0 ≤ e) (h1 : e < a.ev) (ho : hasB ofA e = true ∨ hasB ofB e = true) :
    Sim s (stepL (besideM a b s).arrows ss e) (if hasB ofA e = true then stepL a.arrows sa e else sa) (if hasB ofB e = true then stepL b.arrows sb e else sb) := by
  have hK : ∀ x y, x ∈ (if hasB ofA e = true then stepL a.arrows sa e else sa) → y ∈ (if hasB ofB e = true then stepL b.arrows sb e else sb) → ∃ (j : Nat) (p : Int × Int), s.ps[j]? = some p ∧ p.1 ∈ sa ∧ p.2 ∈ sb ∧ (x, y) ∈ leadsP a.arrows b.arrows p e (hasB ofA e) (hasB ofB e) := by
    intro x y hx hy
    obtain ⟨u, hu, hu'⟩ := half_of hx
    obtain ⟨v, hv, hv'⟩ := half_of hy
    obtain ⟨j, hj⟩ := List.getElem?_of_mem (h.all u hu v hv)
    exact ⟨j, (u, v), hj, hu, hv, (mem_leadsP _ _ _ _ _ _ _).2 ⟨ho, hu', hv'⟩⟩
  refine ⟨fun x => ?_, fun x hx y hy => ?_⟩
  · rw [mem_stepL]
    show (∃ c ∈ srtA s.ar, _) ↔ _
    constructor
    · rintro ⟨c, hc, k1, k2, k3⟩
      obtain ⟨i, p, q, e', -, hp, -, -, hq, hm, rfl⟩ := hI.fwd c ((mem_srtA _ _).1 hc)
      dsimp only at k1 k2 k3
      subst k1
      obtain ⟨i', p', hp', hi, hA, hB⟩ := (h.mem _).1 k2
      have : i = i' := by omega
      subst this
      rw [hp] at hp'
      cases hp'
      obtain ⟨-, q1, q2⟩ := (mem_leadsP _ _ _ _ _ _ _).1 hq
      exact ⟨_, q, findP_nth hm, k3.symm, half_one hA q1, half_one hB q2⟩
    · rintro ⟨i, q, hq, rfl, hA, hB⟩
      obtain ⟨j, p, hp, pA, pB, hl⟩ := hK _ _ hA hB
      obtain ⟨k1, k2⟩ := hI.bwd j p q e (List.getElem?_eq_some_iff.1 hp).1 hp h0 h1 hl
      exact ⟨_, (mem_srtA _ _).2 k2, rfl, (h.mem _).2 ⟨j, p, hp, rfl, pA, pB⟩, by dsimp only; rw [findP_at hI.nd hq]⟩
  · obtain ⟨j, p, hp, pA, pB, hl⟩ := hK _ _ hx hy
    exact (hI.bwd j p (x, y) e (List.getElem?_eq_some_iff.1 hp).1 hp h0 h1 hl).1
theorem sim_none {a b : Mach} {ofA ofB : List Int} {s : BS} (hI : BInv a b ofA ofB s (fun i _ _ => i < s.ps.length)) (ss : List Int) {e : Int} (ho : ¬ (hasB ofA e = true ∨ hasB ofB e = true)) : stepL (besideM a b s).arrows ss e = [] := by
  refine List.eq_nil_iff_forall_not_mem.2 fun x hx => ?_
  obtain ⟨c, hc, k1, -, -⟩ := (mem_stepL _ _ _ _).1 hx
  obtain ⟨i, p, q, e', -, hp, -, -, hq, hm, rfl⟩ := hI.fwd c ((mem_srtA _ _).1 hc)
  dsimp only at k1
  subst k1
  exact ho ((mem_leadsP _ _ _ _ _ _ _).1 hq).1
/-- What of a word is of some events. -/
abbrev ownW (l word : List Int) : List Int := word.filter fun e => hasB l e
theorem afterL_own (ars : List Arr) (l ss : List Int) (e : Int) (r : List Int) : afterL ars ss (ownW l (e :: r)) = afterL ars (if hasB l e = true then stepL ars ss e else ss) (ownW l r) := by
  cases h : hasB l e
  · rw [if_neg (by simp)]
    simp [ownW, h]
  · rw [if_pos rfl]
    simp [ownW, h, afterL]
theorem sim_after {a b : Mach} {ofA ofB : List Int} {s : BS} (hI : BInv a b ofA ofB s (fun i _ _ => i < s.ps.length)) : ∀ (word : List Int) {ss sa sb : List Int}, Sim s ss sa sb → (∀ e ∈ word, 0 ≤ e ∧ e < a.ev) → (∀ e ∈ word, hasB ofA e = true ∨ hasB ofB e = true) →
    Sim s (afterL (besideM a b s).arrows ss word) (afterL a.arrows sa (ownW ofA word)) (afterL b.arrows sb (ownW ofB word))
  | [], _, _, _, h, _, _ => h
  | e :: r, ss, sa, sb, h, hw, ho => by
    rw [afterL_own, afterL_own]
    exact sim_after hI r (sim_step hI h (hw e (by simp)).1 (hw e (by simp)).2 (ho e (by simp))) (fun e' he' => hw e' (by simp [he'])) (fun e' he' => ho e' (by simp [he']))
theorem sim_stop {a b : Mach} {ofA ofB : List Int} {s : BS} (hI : BInv a b ofA ofB s (fun i _ _ => i < s.ps.length)) : ∀ (word : List Int) (ss : List Int), (∃ e ∈ word, ¬ (hasB ofA e = true ∨ hasB ofB e = true)) → afterL (besideM a b s).arrows ss word = []
  | [], _, h => by obtain ⟨e, he, -⟩ := h; simp at he
  | e :: r, ss, h => by
    show afterL _ (stepL _ ss e) r = []
    by_cases ho : hasB ofA e = true ∨ hasB ofB e = true
    · obtain ⟨e', he', hn⟩ := h
      rcases List.mem_cons.1 he' with rfl | he'
      · exact absurd ho hn
      · exact sim_stop hI r _ ⟨e', he', hn⟩
    · rw [sim_none hI ss ho, afterL_nil]
/-- D3. -/
theorem beside_accepts {a b : Mach} (ha : mayB a = true) (hb : mayB b = true) {ofA ofB : List Int} {s : BS} (h : besideS a b ofA ofB = some s) (word : List Int) (hw : ∀ e ∈ word, 0 ≤ e ∧ e < a.ev) :
    acceptsB (besideM a b s) word = (word.all (fun e => hasB ofA e || hasB ofB e) && (acceptsB a (ownW ofA word) && acceptsB b (ownW ofB word))) := by
  obtain ⟨hI, -, -⟩ := beside_inv ha hb h
  rw [Bool.eq_iff_iff, accepts_iff, Bool.and_eq_true, Bool.and_eq_true, accepts_iff, accepts_iff, List.all_eq_true]
  by_cases ho : ∀ e ∈ word, hasB ofA e = true ∨ hasB ofB e = true
  · have h0 : Sim s (besideM a b s).starts a.starts b.starts := by
      obtain ⟨t, ht⟩ := hI.pre
      refine ⟨fun x => ?_, fun x hx y hy => by rw [ht]; exact List.mem_append_left _ ((mem_crossP _ _ _).2 ⟨hx, hy⟩)⟩
      show x ∈ rngI _ ↔ _
      rw [mem_rngI]
      constructor
      · rintro ⟨k1, k2⟩
        have hl : x.toNat < (crossP a.starts b.starts).length := by omega
        have hg : (crossP a.starts b.starts)[x.toNat]? = some (crossP a.starts b.starts)[x.toNat] := List.getElem?_eq_getElem hl
        obtain ⟨m1, m2⟩ := (mem_crossP _ _ _).1 (List.mem_of_getElem? hg)
        exact ⟨x.toNat, _, by rw [ht, List.getElem?_append_left hl]; exact hg, by omega, m1, m2⟩
      · rintro ⟨i, p, hp, rfl, hA, hB⟩
        have hm : p ∈ crossP a.starts b.starts := (mem_crossP _ _ _).2 ⟨hA, hB⟩
        have h1 := findP_at hI.nd hp
        rw [ht, findP_app t hm] at h1
        have := findP_lt hm
        omega
    have h1 := sim_after hI word h0 hw ho
    constructor
    · rintro ⟨x, hx, he⟩
      obtain ⟨i, p, hp, rfl, hA, hB⟩ := (h1.mem x).1 hx
      obtain ⟨j, p', hp', hj, eA, eB⟩ := (mem_endsP _ _ _ _).1 he
      have : i = j := by omega
      subst this
      rw [hp] at hp'
      cases hp'
      exact ⟨fun e he => by simpa using ho e he, ⟨_, hA, eA⟩, ⟨_, hB, eB⟩⟩
    · rintro ⟨-, ⟨x, hx, ex⟩, ⟨y, hy, ey⟩⟩
      obtain ⟨i, hi⟩ := List.getElem?_of_mem (h1.all x hx y hy)
      exact ⟨(i : Int), (h1.mem _).2 ⟨i, (x, y), hi, rfl, hx, hy⟩, (mem_endsP _ _ _ _).2 ⟨i, (x, y), hi, rfl, ex, ey⟩⟩
  · have hE : ∃ e ∈ word, ¬ (hasB ofA e = true ∨ hasB ofB e = true) := by
      refine Classical.byContradiction fun hc => ho fun e he => Classical.byContradiction fun hn => hc ⟨e, he, hn⟩
    rw [sim_stop hI word _ hE]
    constructor
    · rintro ⟨x, hx, -⟩; simp at hx
    · rintro ⟨h1, -⟩
      exact absurd (fun e he => by simpa using h1 e he) ho

end Go.Proofs.YtcjcjaeaoianfaaDoor
