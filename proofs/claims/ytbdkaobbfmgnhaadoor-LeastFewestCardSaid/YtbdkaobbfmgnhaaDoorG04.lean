/-
  Plain mathematics of what can be come to along arrows: rounds over all arrows, till nothing comes more. No program, no model.
  Plain mathematics: sets of bits for rows of states; a table of where each state leads at each event; where a set leads. No program, no model.
  What is said of a slice of integers that a call has made: 'Own'; what an append of one number does to it.
  append(v, y...) of integers: v a row of the call's own, y any slice; and the empty literal slice.
  What a call leaves that hands back a slice of its own.
  What is said of a slice of slices of integers: that it reads as a list of lists ('At2'), that it is in the call's own memory ('Own2'); one row more.
  append onto a row of the call's own: the row stays in its block, or it is in a new one.
-/
import Derived.Test.YtbdkaobbfmgnhaaDoorG03
import Derived.Deep.RegionLaw
namespace Go.Proofs.YtbdkaobbfmgnhaaDoor
open Go.RowKit
set_option linter.unusedVariables false

/-- What can be come to. -/
structure Come (fr to : Arr → Int) (ars : List Arr) (l0 : List Int) (P : Int → Prop) : Prop where
  start : ∀ x ∈ l0, P x
  step : ∀ a ∈ ars, P (fr a) → P (to a)
/-- .. from l0: in whatever holds l0 and is closed. -/
def Rch (fr to : Arr → Int) (ars : List Arr) (l0 : List Int) (x : Int) : Prop := ∀ P : Int → Prop, Come fr to ars l0 P → P x

theorem rch_start {fr to : Arr → Int} {ars : List Arr} {l0 : List Int} {x : Int} (h : x ∈ l0) : Rch fr to ars l0 x := fun _ hP => hP.start x h
theorem rch_step {fr to : Arr → Int} {ars : List Arr} {l0 : List Int} {a : Arr} (ha : a ∈ ars) (h : Rch fr to ars l0 (fr a)) : Rch fr to ars l0 (to a) := fun P hP => hP.step a ha (h P hP)

theorem hasB_iff (l : List Int) (x : Int) : hasB l x = true ↔ x ∈ l := by simp [hasB]
theorem nodup_len : ∀ (n : Nat) (l : List Int), l.Nodup → (∀ x ∈ l, 0 ≤ x ∧ x < n) → l.length ≤ n := by
  intro n l hn hb
  have hs : srt l = (srt l) := rfl
  have hi := inc_srt l
  have hm : ∀ x ∈ srt l, 0 ≤ x ∧ x < n := fun x hx => hb x ((mem_srt x l).1 hx)
  have hlen : (srt l).length ≤ n := by
    have := goIs_len (n : Int) (srt l) (-1) (by omega) ((goIs_iff _ _ _).2 ⟨hi, fun x hx => by have := hm x hx; omega⟩)
    omega
  have hp : l.Perm (srt l) := (List.perm_ext_iff_of_nodup hn (hi.imp (fun h => by omega))).2 (fun x => (mem_srt x l).symm)
  rw [hp.length_eq]; exact hlen
theorem inc_nodup {l : List Int} (h : Inc l) : l.Nodup := h.imp (fun h => by omega)

end Go.Proofs.YtbdkaobbfmgnhaaDoor
namespace Go.Proofs.YtbdkaobbfmgnhaaDoor
open Go.RowKit
set_option linter.unusedVariables false

/-- The set stands for the list. -/
structure Rep (S : Nat → Nat) (l : List Int) : Prop where
  ok : okS S
  bd : ∀ x ∈ l, 0 ≤ x ∧ x < 256
  mem : ∀ n, n < 256 → (hasS S n = true ↔ (n : Int) ∈ l)

theorem rep_row {S : Nat → Nat} {l : List Int} (h : Rep S l) (hl : Inc l) : rowS S = l := by
  refine inc_ext (inc_rowS S) hl fun x => ?_
  rw [mem_rowS]
  constructor
  · rintro ⟨h1, h2, h3⟩
    have := (h.mem x.toNat (by omega)).1 h3
    rwa [Int.toNat_of_nonneg h1] at this
  · intro hx
    obtain ⟨h1, h2⟩ := h.bd x hx
    exact ⟨h1, h2, (h.mem x.toNat (by omega)).2 (by rwa [Int.toNat_of_nonneg h1])⟩

def ofS (l : List Int) : Nat → Nat := l.foldl (fun s x => withS s x.toNat) zeroS
theorem ofS_snoc (l : List Int) (x : Int) : ofS (l ++ [x]) = withS (ofS l) x.toNat := by simp [ofS, List.foldl_append]
theorem rep_snoc {S : Nat → Nat} {l : List Int} {x : Int} (h : Rep S l) (h0 : 0 ≤ x) (h1 : x < 256) : Rep (withS S x.toNat) (l ++ [x]) := by
  refine ⟨okS_with h.ok _, ?_, fun n hn => ?_⟩
  · intro y hy
    rcases List.mem_append.1 hy with hy | hy
    · exact h.bd y hy
    · rw [List.mem_singleton.1 hy]; exact ⟨h0, h1⟩
  · rw [hasS_with, Bool.or_eq_true, h.mem n hn, List.mem_append, List.mem_singleton, decide_eq_true_eq]
    constructor
    · rintro (a | b)
      · exact .inl a
      · exact .inr (by omega)
    · rintro (a | b)
      · exact .inl a
      · exact .inr (by omega)
theorem rep_nil : Rep zeroS [] := ⟨okS_zero, by simp, fun n _ => by simp [hasS_zero]⟩
theorem rep_of : ∀ {l : List Int}, (∀ x ∈ l, 0 ≤ x ∧ x < 256) → ∀ k, Rep (ofS (l.take k)) (l.take k) := by
  intro l hl k
  induction k with
  | zero => simpa [ofS] using rep_nil
  | succ k ih =>
    by_cases h : k < l.length
    · have e : l.take (k + 1) = l.take k ++ [l[k]] := by rw [List.take_add_one, List.getElem?_eq_getElem h]; rfl
      have := hl l[k] (List.getElem_mem h)
      rw [e, ofS_snoc]
      exact rep_snoc ih this.1 this.2
    · rw [List.take_of_length_le (by omega)] at ih ⊢; exact ih

/-- The table: at place f * ev + e, where state f leads at event e. -/
def tabStep (ev : Nat) (T : Nat → Nat → Nat) (a : Arr) : Nat → Nat → Nat := fun p => if p = a.f.toNat * ev + a.e.toNat then withS (T p) a.t.toNat else T p
def tabS (ev : Nat) (ars : List Arr) : Nat → Nat → Nat := ars.foldl (tabStep ev) (fun _ => zeroS)
theorem tabS_snoc (ev : Nat) (ars : List Arr) (a : Arr) : tabS ev (ars ++ [a]) = tabStep ev (tabS ev ars) a := by simp [tabS, List.foldl_append]
theorem tabS_take {ev : Nat} {ars : List Arr} {k : Nat} {a : Arr} (h : k < ars.length) (ha : Hid (a = ars[k]?.getD arr0)) : tabS ev (ars.take (k + 1)) = tabStep ev (tabS ev (ars.take k)) a := by
  have ha := ha.out
  rw [List.getElem?_eq_getElem h, Option.getD_some] at ha
  rw [List.take_add_one, List.getElem?_eq_getElem h, ← ha]
  exact tabS_snoc _ _ _
theorem okS_tabStep {ev : Nat} {T : Nat → Nat → Nat} (h : ∀ p, okS (T p)) (a : Arr) : ∀ p, okS (tabStep ev T a p) := fun p => by
  unfold tabStep; split
  · exact okS_with (h p) _
  · exact h p
theorem okS_foldTab {ev : Nat} : ∀ (ars : List Arr) (T : Nat → Nat → Nat), (∀ p, okS (T p)) → ∀ p, okS (ars.foldl (tabStep ev) T p)
  | [], _, h => h
  | a :: r, T, h => okS_foldTab r _ (okS_tabStep h a)
theorem okS_tab (ev : Nat) (ars : List Arr) (p : Nat) : okS (tabS ev ars p) := okS_foldTab ars _ (fun _ => okS_zero) p
theorem has_foldTab {ev p n : Nat} : ∀ (ars : List Arr) (T : Nat → Nat → Nat), hasS (ars.foldl (tabStep ev) T p) n = true ↔ hasS (T p) n = true ∨ ∃ a ∈ ars, p = a.f.toNat * ev + a.e.toNat ∧ n = a.t.toNat
  | [], T => by simp
  | a :: r, T => by
    rw [List.foldl_cons, has_foldTab r]
    have e : hasS (tabStep ev T a p) n = true ↔ hasS (T p) n = true ∨ (p = a.f.toNat * ev + a.e.toNat ∧ n = a.t.toNat) := by
      unfold tabStep
      by_cases h : p = a.f.toNat * ev + a.e.toNat
      · rw [if_pos h, hasS_with, Bool.or_eq_true, decide_eq_true_eq]; simp [h]
      · rw [if_neg h]; simp [h]
    rw [e]
    simp only [List.mem_cons, exists_eq_or_imp]
    rw [or_assoc]
theorem has_tab (ev p n : Nat) (ars : List Arr) : hasS (tabS ev ars p) n = true ↔ ∃ a ∈ ars, p = a.f.toNat * ev + a.e.toNat ∧ n = a.t.toNat := by
  unfold tabS; rw [has_foldTab]; simp [hasS_zero]

/-- Where states lead to, by the table. -/
def leadF (T : Nat → Nat → Nat) (ev e : Nat) (ns : List Nat) : Nat → Nat := ns.foldl (fun o n => joinS o (T (n * ev + e))) zeroS
theorem leadF_snoc (T : Nat → Nat → Nat) (ev e : Nat) (ns : List Nat) (n : Nat) : leadF T ev e (ns ++ [n]) = joinS (leadF T ev e ns) (T (n * ev + e)) := by simp [leadF, List.foldl_append]
theorem ok_leadG {T : Nat → Nat → Nat} {ev e : Nat} (h : ∀ p, okS (T p)) : ∀ (ns : List Nat) (o : Nat → Nat), okS o → okS (ns.foldl (fun o n => joinS o (T (n * ev + e))) o)
  | [], _, ho => ho
  | n :: r, o, ho => ok_leadG h r _ (okS_join ho (h _))
theorem ok_leadF {T : Nat → Nat → Nat} {ev e : Nat} (h : ∀ p, okS (T p)) (ns : List Nat) : okS (leadF T ev e ns) := ok_leadG h ns _ okS_zero
theorem has_leadG {T : Nat → Nat → Nat} {ev e k : Nat} : ∀ (ns : List Nat) (o : Nat → Nat), hasS (ns.foldl (fun o n => joinS o (T (n * ev + e))) o) k = true ↔ hasS o k = true ∨ ∃ n ∈ ns, hasS (T (n * ev + e)) k = true
  | [], o => by simp
  | n :: r, o => by
    rw [List.foldl_cons, has_leadG r, hasS_join, Bool.or_eq_true]
    simp only [List.mem_cons, exists_eq_or_imp]
    rw [or_assoc]
theorem has_leadF (T : Nat → Nat → Nat) (ev e k : Nat) (ns : List Nat) : hasS (leadF T ev e ns) k = true ↔ ∃ n ∈ ns, hasS (T (n * ev + e)) k = true := by
  unfold leadF; rw [has_leadG]; simp [hasS_zero]

/-- Where a set leads, at an event. -/
def leadS (ev : Nat) (ars : List Arr) (S : Nat → Nat) (e : Nat) : Nat → Nat := leadF (tabS ev ars) ev e (allS S)

theorem mem_stepL (ars : List Arr) (l : List Int) (e : Int) (x : Int) : x ∈ stepL ars l e ↔ ∃ a ∈ ars, a.e = e ∧ a.f ∈ l ∧ a.t = x := by
  unfold stepL stepTo
  rw [mem_srt]
  simp only [List.mem_map, List.mem_filter, Bool.and_eq_true, beq_iff_eq, hasB, List.contains_iff_mem]
  constructor
  · rintro ⟨a, ⟨h1, h2, h3⟩, h4⟩; exact ⟨a, h1, h2, h3, h4⟩
  · rintro ⟨a, h1, h2, h3, h4⟩; exact ⟨a, ⟨h1, h2, h3⟩, h4⟩

theorem rep_lead {S : Nat → Nat} {l : List Int} {st ev e : Int} {ars : List Arr} (h : Rep S l) (hin : ∀ a ∈ ars, arrIn st ev a) (hst : st ≤ 256) (h0 : 0 ≤ e) (h1 : e < ev) :
    Rep (leadS ev.toNat ars S e.toNat) (stepL ars l e) := by
  refine ⟨ok_leadF (okS_tab _ _) _, ?_, fun n hn => ?_⟩
  · intro x hx
    obtain ⟨a, ha, -, -, rfl⟩ := (mem_stepL _ _ _ _).1 hx
    have := hin a ha
    exact ⟨this.2.2.1, by omega⟩
  · unfold leadS
    rw [has_leadF, mem_stepL]
    constructor
    · rintro ⟨k, hk, ht⟩
      obtain ⟨a, ha, hp, hn⟩ := (has_tab _ _ _ _).1 ht
      obtain ⟨hk1, hk2⟩ := (mem_allS _ _).1 hk
      have hi := hin a ha
      have he : a.e.toNat < ev.toNat := by omega
      have he' : e.toNat < ev.toNat := by omega
      have hee : a.e.toNat = e.toNat := by
        have := congrArg (· % ev.toNat) hp
        simp only [Nat.mul_comm _ ev.toNat, Nat.mul_add_mod, Nat.mod_eq_of_lt he, Nat.mod_eq_of_lt he'] at this
        exact this.symm
      have hff : a.f.toNat = k := by
        rw [hee] at hp
        have := Nat.add_right_cancel hp
        exact (Nat.eq_of_mul_eq_mul_right (by omega) this).symm
      refine ⟨a, ha, by omega, ?_, by omega⟩
      have := (h.mem k hk1).1 hk2
      rw [← hff, Int.toNat_of_nonneg hi.1] at this
      exact this
    · rintro ⟨a, ha, hae, haf, hat⟩
      have hi := hin a ha
      have hb := h.bd _ haf
      refine ⟨a.f.toNat, (mem_allS _ _).2 ⟨by omega, (h.mem _ (by omega)).2 (by rwa [Int.toNat_of_nonneg hi.1])⟩, (has_tab _ _ _ _).2 ⟨a, ha, ?_, by omega⟩⟩
      rw [hae]

theorem word_zero {w : Nat} (h : w < 18446744073709551616) (hz : ∀ j, j < 64 → w.testBit j = false) : w = 0 := by
  apply Nat.eq_of_testBit_eq
  intro i
  rw [Nat.zero_testBit]
  by_cases hi : i < 64
  · exact hz i hi
  · exact Nat.testBit_lt_two_pow (Nat.lt_of_lt_of_le h (Nat.pow_le_pow_right (n := 2) (i := 64) (by omega) (by omega)))
/-- Is there a number that both have? -/
def meetB (S T : Nat → Nat) : Bool := decide (¬ (S 0 &&& T 0 = 0 ∧ S 1 &&& T 1 = 0 ∧ S 2 &&& T 2 = 0 ∧ S 3 &&& T 3 = 0))
theorem meet_word {a b : Nat} (ha : a < 18446744073709551616) : a &&& b = 0 ↔ ∀ j, j < 64 → ¬ (a.testBit j = true ∧ b.testBit j = true) := by
  constructor
  · intro h j _ ⟨h1, h2⟩
    have : (a &&& b).testBit j = true := by rw [Nat.testBit_and, h1, h2]; rfl
    rw [h] at this; simp at this
  · intro h
    apply word_zero (Nat.lt_of_le_of_lt Nat.and_le_left ha)
    intro j hj
    rw [Nat.testBit_and]
    have := h j hj
    cases h1 : a.testBit j <;> cases h2 : b.testBit j <;> simp_all
theorem meet_iff {S T : Nat → Nat} {l k : List Int} (h : Rep S l) (h' : Rep T k) : meetB S T = decide (0 < (l.filter fun n => hasB k n == true).length) := by
  unfold meetB
  apply decide_eq_decide.2
  constructor
  · intro hn
    have hex : ∃ i j, i < 4 ∧ j < 64 ∧ (S i).testBit j = true ∧ (T i).testBit j = true := by
      apply Classical.byContradiction
      intro hc
      apply hn
      have : ∀ i, i < 4 → S i &&& T i = 0 := fun i hi => (meet_word (h.ok i)).2 fun j hj ⟨a, b⟩ => hc ⟨i, j, hi, hj, a, b⟩
      exact ⟨this 0 (by omega), this 1 (by omega), this 2 (by omega), this 3 (by omega)⟩
    obtain ⟨i, j, hi, hj, h1, h2⟩ := hex
    have e1 : (64 * i + j) / 64 = i := by omega
    have e2 : (64 * i + j) % 64 = j := by omega
    have m1 := (h.mem (64 * i + j) (by omega)).1 (by unfold hasS; rw [e1, e2]; exact h1)
    have m2 := (h'.mem (64 * i + j) (by omega)).1 (by unfold hasS; rw [e1, e2]; exact h2)
    exact List.length_pos_of_mem (List.mem_filter.2 ⟨m1, by simpa [hasB] using m2⟩)
  · intro hp hz
    obtain ⟨x, hx⟩ := List.exists_mem_of_length_pos hp
    obtain ⟨x1, x2⟩ := List.mem_filter.1 hx
    have x3 : x ∈ k := by simpa [hasB] using x2
    obtain ⟨b0, b1⟩ := h.bd x x1
    have m1 := (h.mem x.toNat (by omega)).2 (by rwa [Int.toNat_of_nonneg b0])
    have m2 := (h'.mem x.toNat (by omega)).2 (by rwa [Int.toNat_of_nonneg b0])
    unfold hasS at m1 m2
    have key : ∀ i, x.toNat / 64 = i → S i &&& T i = 0 → False := fun i hi he => by
      rw [hi] at m1 m2
      exact (meet_word (h.ok i)).1 he _ (by omega) ⟨m1, m2⟩
    have hk : x.toNat / 64 = 0 ∨ x.toNat / 64 = 1 ∨ x.toNat / 64 = 2 ∨ x.toNat / 64 = 3 := by omega
    obtain ⟨z0, z1, z2, z3⟩ := hz
    rcases hk with hk | hk | hk | hk
    · exact key 0 hk z0
    · exact key 1 hk z1
    · exact key 2 hk z2
    · exact key 3 hk z3

end Go.Proofs.YtbdkaobbfmgnhaaDoor
namespace Go.Proofs.YtbdkaobbfmgnhaaDoor
open Go.RowKit

theorem Tryd.infoInt : (Tryd.prog.info? 3).map (fun i => (i.zero, i.size, i.bytes)) = some (some (.int .i64 0), 1, 8) := by kernel_rfl

/-- The slice v is in memory made from block B on, and holds xs. -/
def Own (w : World) (B : Nat) (v : Value) (xs : List Int) : Prop := w.ownsRow B 3 1 v xs.length (xs.map (Value.int .i64))

theorem own_nil (w : World) (B : Nat) : Own w B (.slice none 0 0) [] := World.ownsRow_nil _ _ _ _

theorem Own.at {w : World} {B : Nat} {v : Value} {xs : List Int} (h : Own w B v xs) : ∃ a cap, v = .slice a xs.length cap ∧ At w a xs ∧ xs.length ≤ maxLen := by
  rcases h.2 with ⟨rfl, hn⟩ | ⟨g, cap, cur, rfl, hg, hh, hnc, hcm, hcs, ht⟩
  · have : xs = [] := List.eq_nil_of_length_eq_zero hn
    subst this
    exact ⟨none, 0, rfl, .inl rfl, Nat.zero_le _⟩
  · refine ⟨some ⟨g, 0, none⟩, cap, rfl, .inr ⟨g, 0, rfl, (Array.getElem?_eq_some_iff.1 hh).1, fun j hj => ?_⟩, Nat.le_trans hnc hcm⟩
    have := h.cells (g := g) rfl j (.int .i64 (xs.getD j 0)) (by rw [List.getElem?_map, List.getElem?_eq_getElem hj]; simp [List.getElem?_eq_getElem hj])
    rw [show (⟨g, 0, none⟩ : Addr).add j = ⟨g, 0 + j, none⟩ from by unfold Addr.add; split <;> simp_all] at this
    exact this

/-- What a call that hands back a slice leaves: the slice reads as xs, and nothing old has turned. -/
def Gives (w : World) (xs : List Int) (e : Ending) (w' : World) : Prop := ∃ a cap, e = .returned (.slice a xs.length cap) ∧ At w' a xs ∧ xs.length ≤ maxLen ∧ Below w.heap.size w w'

theorem gives_of_own {w w' : World} {B : Nat} {v : Value} {xs : List Int} (h : Own w' B v xs) (hb : Below w.heap.size w w') : Gives w xs (.returned v) w' := by
  obtain ⟨a, cap, rfl, h1, h2⟩ := h.at
  exact ⟨a, cap, rfl, h1, h2, hb⟩

theorem own_snoc {w wr w1 : World} {B : Nat} {v v' : Value} {L : List Int} {x : Int} {o : Obj} (hown : Own wr B v L) (hb : Below B w wr) (hB : B ≤ wr.heap.size)
    (hown' : w1.ownsRow B 3 1 v' (L.length + 1) (L.map (Value.int .i64) ++ [.int .i64 x])) (hgrow : (wr.alloc o).grownBy w1 v.ownBlock) :
    Own w1 B v' (L ++ [x]) ∧ Below B w w1 ∧ B ≤ w1.heap.size := by
  refine ⟨by unfold Own; rw [List.length_append, List.map_append]; exact hown', (hb.alloc hB o).grown hgrow (by simp; omega) (fun j hj => (hown.lt j hj).1), ?_⟩
  have := hgrow.size
  simp at this
  omega

theorem Own.drewN {w : World} {B : Nat} {v : Value} {xs : List Int} (h : Own w B v xs) (m : Nat) : Own (w.drewN m) B v xs := h

/-- An owned slice, as its value and its cells. -/
theorem Own.cells_of {w : World} {B : Nat} {v : Value} {xs : List Int} (h : Own w B v xs) : (v = .slice none 0 0 ∧ xs = []) ∨ ∃ g cap, v = .slice (some ⟨g, 0, none⟩) xs.length cap ∧ B ≤ g ∧ g < w.heap.size ∧ Cells w g 0 xs ∧ (∀ j, w.frozen? ⟨g, j, none⟩ = false) := by
  rcases h.2 with ⟨rfl, hn⟩ | ⟨g, cap, cur, rfl, hg, hh, hnc, hcm, hcs, ht⟩
  · exact .inl ⟨rfl, List.eq_nil_of_length_eq_zero hn⟩
  · refine .inr ⟨g, cap, rfl, hg, (Array.getElem?_eq_some_iff.1 hh).1, fun j hj => ?_, fun j => ?_⟩
    · have := h.cells (g := g) rfl j (.int .i64 (xs.getD j 0)) (by rw [List.getElem?_map, List.getElem?_eq_getElem hj]; simp [List.getElem?_eq_getElem hj])
      rw [show (⟨g, 0, none⟩ : Addr).add j = ⟨g, 0 + j, none⟩ from by unfold Addr.add; split <;> simp_all] at this
      exact this
    · simp [World.frozen?, hh]

end Go.Proofs.YtbdkaobbfmgnhaaDoor
namespace Go.Proofs.YtbdkaobbfmgnhaaDoor
open Go.RowKit
set_option linter.unusedVariables false

section
variable {P : Program} (w : World)
theorem wp_append_nil {o : Oper} {a : Act} {K : Act → World → Prop} {Q : Exit → Act → World → Prop} (s x : Operand) (t : TypeId)
    (ho : o.op = .call { callee := .builtin .append, args := #[s, x], argTypes := #[t, t] })
    (base : Nat) (e : TypeId) (i : TypeInfo) (size : Nat) (ht : P.underlying t = some (.slice e)) (hi : P.info? e = some i)
    (v : Value) (n : Nat) (xs : List Value) (hs : a.eval s = v) (hown : w.ownsRow base e size v n xs) (hx : a.eval x = .slice none 0 0)
    (h : K (a.put o.dst v) w) : o.wp P a w K Q := by
  have hr := run_append_owned_none (P := P) w base t o.type e i size ht hi v n xs hown
  unfold Oper.wp execOp
  simp only [ho, resolve, invoke, builtin, Sem.run_bind, Sem.run_pure, Result.andThen_ok, List.map_toArray, List.map_cons, List.map_nil, hs, hx, hr]
  exact h

/-- append(v, y...): v is a row of integers of the call's own, y any slice of integers (nil among them). -/
theorem wpList_append_ints {ops : Array Oper} {rest : List Oper} {o : Oper} {a : Act} {Q : Exit → Act → World → Prop} (hgd : o.guard = none) (s x : Operand) (t : TypeId)
    (ho : o.op = .call { callee := .builtin .append, args := #[s, x], argTypes := #[t, t] })
    (B : Nat) (i : TypeInfo) (ht : P.underlying t = some (.slice 3)) (hi : P.info? 3 = some i) (hz : i.zero = some (.int .i64 0)) (hsize : i.size = 1) (hby : i.bytes = 8)
    (v : Value) (L : List Int) (hs : a.eval s = v) (hown : Own w B v L)
    (ad : Option Addr) (c : Nat) (ys : List Int) (hx : a.eval x = .slice ad ys.length c) (hat : At w ad ys) (hnil : ad = none → c = 0)
    (hroom : (L.length + ys.length) * 8 ≤ 140737488355328) (hbase : B ≤ w.heap.size)
    (h : ∀ v' w', Own w' B v' (L ++ ys) → Below B w w' → B ≤ w'.heap.size → wpList P ops Q rest (a.put o.dst v') w') : wpList P ops Q (o :: rest) a w := by
  cases ad with
  | none =>
    have hy : ys = [] := by
      rcases hat with h | ⟨b, off, h, _⟩
      · exact h
      · cases h
    subst hy
    rw [hnil rfl] at hx
    refine wpList_plain hgd fun _ hK => wp_append_nil w s x t ho B 3 i 1 ht hi v _ _ hs hown hx (hK _ _ (h v w ?_ (Below.refl _ _) hbase))
    rw [List.append_nil]; exact hown
  | some ad =>
    refine wpList_append_own w hgd s x t ho B 3 i (.int .i64 0) 1 8 ht hi hz hsize hby rfl (by decide) v _ _ hs hown ad ys.length c (ys.map (Value.int .i64)) hx (by simp) ?_ ?_ (by unfold maxLen; omega) hroom hbase ?_
    · intro j u hu
      rw [List.getElem?_map] at hu
      rcases hat with h0 | ⟨b, off, h0, _, hc⟩
      · subst h0; simp at hu
      · cases h0
        cases hj : ys[j]? with
        | none => rw [hj] at hu; simp at hu
        | some y =>
          rw [hj] at hu
          simp only [Option.map_some, Option.some.injEq] at hu
          subst hu
          have := hc j (List.getElem?_eq_some_iff.1 hj).1
          rw [List.getD_eq_getElem?_getD, hj, Option.getD_some] at this
          rw [show (⟨b, off, none⟩ : Addr).add j = ⟨b, off + j, none⟩ from by simp [Addr.add]]
          exact this
    · intro u hu
      obtain ⟨y, _, rfl⟩ := List.mem_map.1 hu
      rfl
    · intro v' w' ho' hg _
      refine h v' w' ?_ ((Below.refl _ _).grown hg hbase (fun j hj => (hown.lt j hj).1)) (Nat.le_trans hbase hg.size)
      unfold Own
      rw [List.length_append, List.map_append]
      exact ho'
end

theorem own_empty (w : World) : Own (w.alloc (.cells #[] 3)) w.heap.size (.slice (some ⟨w.heap.size, 0, none⟩) 0 0) [] :=
  World.ownsRow_lit w #[] 0 (Nat.le_refl _) (Nat.zero_le _) rfl

end Go.Proofs.YtbdkaobbfmgnhaaDoor
namespace Go.Proofs.YtbdkaobbfmgnhaaDoor
open Go.RowKit
set_option linter.unusedVariables false

/-- What a call leaves that hands back a slice of its own. -/
def GivesO (w : World) (xs : List Int) (e : Ending) (w' : World) : Prop := ∃ v, e = .returned v ∧ Own w' w.heap.size v xs ∧ Below w.heap.size w w'
theorem Own.at2 {w : World} {B : Nat} {v : Value} {xs : List Int} (h : Own w B v xs) : ∃ a cap, v = .slice a xs.length cap ∧ At w a xs ∧ xs.length ≤ cap ∧ cap ≤ maxLen ∧ (a = none → cap = 0) := by
  obtain ⟨a, cap, e, h1, -⟩ := h.at
  rcases h.2 with ⟨rfl, hn⟩ | ⟨g, cap', cur, rfl, hg, hh, hnc, hcm, hcs, ht⟩
  · have : xs = [] := List.eq_nil_of_length_eq_zero hn
    subst this
    exact ⟨none, 0, rfl, .inl rfl, Nat.le_refl _, Nat.zero_le _, fun _ => rfl⟩
  · cases e
    exact ⟨_, _, rfl, h1, hnc, hcm, fun h => by cases h⟩

end Go.Proofs.YtbdkaobbfmgnhaaDoor
namespace Go.Proofs.YtbdkaobbfmgnhaaDoor
open Go.RowKit
set_option linter.unusedVariables false

theorem Tryd.infoInts : (Tryd.prog.info? 22).map (fun i => (i.zero, i.size, i.bytes)) = some (some (.slice none 0 0), 1, 24) := by kernel_rfl

/-- A slice of slices reads as a list of lists. -/
def At2 (w : World) (a : Option Addr) (LL : List (List Int)) : Prop :=
  LL = [] ∨ ∃ b off, a = some ⟨b, off, none⟩ ∧ b < w.heap.size ∧ ∀ (k : Nat) (xs : List Int), LL[k]? = some xs → ∃ a' c', w.cell? ⟨b, off + k, none⟩ = some (.slice a' xs.length c') ∧ At w a' xs ∧ xs.length ≤ maxLen
/-- An inner slice: it lies in a block of integers. -/
def InnB (w : World) (v : Value) (xs : List Int) : Prop := ∃ a c, v = .slice a xs.length c ∧ xs.length ≤ c ∧ c ≤ maxLen ∧ (xs = [] ∨ ∃ (g o : Nat) (cs : Array Value), a = some ⟨g, o, none⟩ ∧ w.heap[g]? = some (Obj.cells cs 3 (0, 0)) ∧ ∀ j, j < xs.length → cs[o + j]? = some (.int .i64 (xs.getD j 0)))
theorem InnB.kept {w w' : World} {v : Value} {xs : List Int} (h : InnB w v xs) (hk : ∀ (g : Nat) (cs : Array Value), w.heap[g]? = some (Obj.cells cs 3 (0, 0)) → w'.heap[g]? = w.heap[g]?) : InnB w' v xs := by
  obtain ⟨a, c, h1, h2, h3, h4⟩ := h
  refine ⟨a, c, h1, h2, h3, ?_⟩
  rcases h4 with h4 | ⟨k, o, cs, e, hh, hc⟩
  · exact .inl h4
  · exact .inr ⟨k, o, cs, e, (hk k cs hh).trans hh, hc⟩
theorem InnB.below {w w' : World} {v : Value} {xs : List Int} (h : InnB w v xs) (hb : Below w.heap.size w w') : InnB w' v xs :=
  h.kept fun g cs hg => hb.block g (Array.getElem?_eq_some_iff.1 hg).1
theorem InnB.at {w : World} {v : Value} {xs : List Int} (h : InnB w v xs) : ∃ a c, v = .slice a xs.length c ∧ At w a xs ∧ xs.length ≤ maxLen := by
  obtain ⟨a, c, h1, h2, h3, h4⟩ := h
  refine ⟨a, c, h1, ?_, Nat.le_trans h2 h3⟩
  rcases h4 with h4 | ⟨k, o, cs, e, hh, hc⟩
  · exact .inl h4
  · refine .inr ⟨k, o, e, (Array.getElem?_eq_some_iff.1 hh).1, fun j hj => ?_⟩
    simp [World.cell?, hh, hc j hj]

/-- The slice of slices v is in memory made from block B on, and holds LL. -/
def Own2 (w : World) (B : Nat) (v : Value) (LL : List (List Int)) : Prop := ∃ vs : List Value, w.ownsRow B 22 1 v LL.length vs ∧ ∀ (j : Nat) (x : Value) (xs : List Int), vs[j]? = some x → LL[j]? = some xs → InnB w x xs
theorem own2_nil (w : World) (B : Nat) : Own2 w B (.slice none 0 0) [] := ⟨[], World.ownsRow_nil _ _ _ _, fun j x xs h => by simp at h⟩
theorem Own2.at {w : World} {B : Nat} {v : Value} {LL : List (List Int)} (h : Own2 w B v LL) : ∃ a cap, v = .slice a LL.length cap ∧ At2 w a LL ∧ LL.length ≤ cap ∧ cap ≤ maxLen ∧ (a = none → cap = 0) := by
  obtain ⟨vs, ho, hi⟩ := h
  rcases ho.2 with ⟨rfl, hn⟩ | ⟨g, cap, cur, rfl, hg, hh, hnc, hcm, hcs, ht⟩
  · have : LL = [] := List.eq_nil_of_length_eq_zero hn
    subst this
    exact ⟨none, 0, rfl, .inl rfl, Nat.le_refl _, Nat.zero_le _, fun _ => rfl⟩
  · refine ⟨some ⟨g, 0, none⟩, cap, rfl, .inr ⟨g, 0, rfl, (Array.getElem?_eq_some_iff.1 hh).1, fun k xs hk => ?_⟩, hnc, hcm, fun h => by cases h⟩
    have hlt : k < vs.length := by rw [ho.1, Nat.mul_one]; exact (List.getElem?_eq_some_iff.1 hk).1
    have hx := List.getElem?_eq_getElem hlt
    obtain ⟨a, c, e, h1, h2⟩ := (hi k _ xs hx hk).at
    have hc := ho.cells (g := g) rfl k _ hx
    rw [show (⟨g, 0, none⟩ : Addr).add k = ⟨g, 0 + k, none⟩ from by unfold Addr.add; split <;> simp_all, e] at hc
    exact ⟨a, c, hc, h1, h2⟩
theorem Own2.below {w w' : World} {B : Nat} {v : Value} {LL : List (List Int)} (h : Own2 w B v LL) (hb : Below w.heap.size w w') : Own2 w' B v LL := by
  obtain ⟨vs, ho, hi⟩ := h
  refine ⟨vs, ⟨ho.1, ?_⟩, fun j x xs h1 h2 => (hi j x xs h1 h2).below hb⟩
  rcases ho.2 with hn | ⟨g, cap, cur, rfl, hg, hgg, rest⟩
  · exact .inl hn
  · exact .inr ⟨g, cap, cur, rfl, hg, (hb.block g (Array.getElem?_eq_some_iff.1 hgg).1).trans hgg, rest⟩
theorem Own2.alloc {w : World} {B : Nat} {v : Value} {LL : List (List Int)} (h : Own2 w B v LL) (o : Obj) : Own2 (w.alloc o) B v LL := h.below ((Below.refl _ _).alloc (Nat.le_refl _) o)
/-- A block that is not of slices is none of its own. -/
theorem Own2.apart {w : World} {B : Nat} {v : Value} {LL : List (List Int)} (h : Own2 w B v LL) {g : Nat} {t : TypeId} {cs : Array Value} (hg : w.heap[g]? = some (.cells cs t (0, 0))) (ht : t ≠ 22) : some g ≠ v.ownBlock := by
  intro e
  obtain ⟨vs, ho, -⟩ := h
  rcases ho.2 with ⟨rfl, hn⟩ | ⟨g', cap, cur, rfl, hg', hh, rest⟩
  · cases e
  · have : g = g' := Option.some.inj e
    subst this
    rw [hg] at hh
    cases hh
    exact ht rfl

/-- One row more: behind an append onto the call's own row. -/
theorem Own2.snoc {w w' : World} {B : Nat} {v v' x : Value} {LL : List (List Int)} {xs : List Int} {vs : List Value} (hown : w.ownsRow B 22 1 v LL.length vs) (hi : ∀ (j : Nat) (x : Value) (xs : List Int), vs[j]? = some x → LL[j]? = some xs → InnB w x xs) (hx : InnB w x xs)
    (hown' : w'.ownsRow B 22 1 v' (LL.length + 1) (vs ++ [x])) (hg : w.grownBy w' v.ownBlock) : Own2 w' B v' (LL ++ [xs]) := by
  have hl : vs.length = LL.length := by have := hown.1; omega
  have h2 : Own2 w B v LL := ⟨vs, hown, hi⟩
  have hk : ∀ (g : Nat) (cs : Array Value), w.heap[g]? = some (Obj.cells cs 3 (0, 0)) → w'.heap[g]? = w.heap[g]? := fun g cs hh => hg.block g (Array.getElem?_eq_some_iff.1 hh).1 (h2.apart hh (by decide))
  refine ⟨vs ++ [x], by rw [List.length_append]; exact hown', fun j y ys h1 h2 => ?_⟩
  by_cases hj : j < LL.length
  · rw [List.getElem?_append_left (by omega)] at h1
    rw [List.getElem?_append_left hj] at h2
    exact (hi j y ys h1 h2).kept hk
  · have hj2 : j < (LL ++ [xs]).length := (List.getElem?_eq_some_iff.1 h2).1
    have : j = LL.length := by simp at hj2; omega
    subst this
    rw [List.getElem?_append_right (by omega)] at h1 h2
    rw [hl] at h1
    simp at h1 h2
    subst h1; subst h2
    exact hx.kept hk
end Go.Proofs.YtbdkaobbfmgnhaaDoor
namespace Go.Proofs.YtbdkaobbfmgnhaaDoor
open Go.RowKit
set_option linter.unusedVariables false

section
variable {P : Program} (w : World)
theorem run_append_block (base : Nat) (t ty e : TypeId) (i : TypeInfo) (z : Value) (size bytes : Nat) (ht : P.underlying t = some (.slice e)) (hi : P.info? e = some i) (hz : i.zero = some z)
    (hsize : i.size = size) (hby : i.bytes = bytes) (hzs : z.cells.size = size) (hsz : 0 < size)
    (v : Value) (n : Nat) (xs : List Value) (hown : w.ownsRow base e size v n xs)
    (a : Addr) (m c : Nat) (news : List Value) (hl : news.length = m * size) (hnews : ∀ j u, news[j]? = some u → w.cell? (a.add j) = some u) (h1 : ∀ u ∈ news, u.oneCell' = true)
    (hm : 0 < m) (h63 : n + m ≤ maxLen) (hbytes : (n + m) * bytes ≤ 140737488355328) (hbase : base ≤ w.heap.size) :
    ∃ v' w', (Builtin.append_ #[t, t] ty #[v, .slice (some a) m c]).run P w = .ok v' w' ∧ w'.ownsRow base e size v' (n + m) (xs ++ news) ∧ w.grownBy w' v.ownBlock ∧ (v'.ownBlock = v.ownBlock ∨ v'.ownBlock = some w.heap.size) := by
  obtain ⟨v', w', hrun, h2, h3, -⟩ := run_append_own (P := P) w base t ty e i z size bytes ht hi hz hsize hby hzs hsz v n xs hown a m c news hl hnews h1 h63 hbytes hbase
  refine ⟨v', w', hrun, h2, h3, ?_⟩
  have h9 : n + m ≤ 9223372036854775807 := by simp only [maxLen] at h63; omega
  subst hsize
  subst hby
  rcases hown.2 with ⟨rfl, rfl⟩ | ⟨g, cap, cur, rfl, hbg, hg, hnc, hcm, hcs, htake⟩
  · have hr := run_append_nil (P := P) w t ty e i z ht hi hz a m c news hl hnews hm (by omega) (by have hb := hbytes; simp only [Nat.zero_add] at hb; omega)
    rw [hrun] at hr
    injection hr with e1 e2
    right; rw [e1]; rfl
  · by_cases hroom : n + m ≤ cap
    · have hr := run_append_room (P := P) w t ty e i ht hi g n cap cur hg a m c news hl hnews h1 hroom (by rw [hl, hcs, ← Nat.add_mul]; exact Nat.mul_le_mul_right _ hroom)
      rw [hrun] at hr
      injection hr with e1 e2
      left; rw [e1]; rfl
    · have hr := run_append_grow (P := P) w t ty e i z ht hi hz ⟨g, 0, none⟩ n cap xs hown.1 (hown.cells (g := g) rfl) a m c news hl hnews (by omega) (by omega) (growslice_fits (by omega) hbytes)
      rw [hrun] at hr
      injection hr with e1 e2
      right; rw [e1]; rfl

theorem wpList_append_block {ops : Array Oper} {rest : List Oper} {o : Oper} {a : Act} {Q : Exit → Act → World → Prop} (hgd : o.guard = none) (s x : Operand) (t : TypeId)
    (ho : o.op = .call { callee := .builtin .append, args := #[s, x], argTypes := #[t, t] })
    (base : Nat) (e : TypeId) (i : TypeInfo) (z : Value) (size bytes : Nat) (ht : P.underlying t = some (.slice e)) (hi : P.info? e = some i) (hz : i.zero = some z)
    (hsize : i.size = size) (hby : i.bytes = bytes) (hzs : z.cells.size = size) (hsz : 0 < size)
    (v : Value) (n : Nat) (xs : List Value) (hs : a.eval s = v) (hown : w.ownsRow base e size v n xs)
    (ad : Addr) (m c : Nat) (news : List Value) (hx : a.eval x = .slice (some ad) m c) (hl : news.length = m * size) (hnews : ∀ j u, news[j]? = some u → w.cell? (ad.add j) = some u) (h1 : ∀ u ∈ news, u.oneCell' = true)
    (hm : 0 < m) (h63 : n + m ≤ maxLen) (hbytes : (n + m) * bytes ≤ 140737488355328) (hbase : base ≤ w.heap.size)
    (h : ∀ v' w', w'.ownsRow base e size v' (n + m) (xs ++ news) → w.grownBy w' v.ownBlock → (v'.ownBlock = v.ownBlock ∨ v'.ownBlock = some w.heap.size) → wpList P ops Q rest (a.put o.dst v') w') : wpList P ops Q (o :: rest) a w := by
  obtain ⟨v', w', hr, h2, h3, h4⟩ := run_append_block (P := P) w base t o.type e i z size bytes ht hi hz hsize hby hzs hsz v n xs hown ad m c news hl hnews h1 hm h63 hbytes hbase
  refine wpList_plain hgd fun _ hK => ?_
  unfold Oper.wp execOp
  simp only [ho, resolve, invoke, builtin, Sem.run_bind, Sem.run_pure, Result.andThen_ok, List.map_toArray, List.map_cons, List.map_nil, hs, hx, hr]
  exact hK _ _ (h v' w' h2 h3 h4)
end

section
variable {P : Program} {ops : Array Oper} {o : Oper} {a : Act} {w : World} {K : Act → World → Prop} {Q : Exit → Act → World → Prop} {E : Prop}
/-- The same, as one step of a region that draws. -/
theorem step_append_block (hg : o.guard = none) (s x : Operand) (t : TypeId) (hop : o.op = Op.call { callee := Callee.builtin Builtin.append, args := #[s, x], argTypes := #[t, t] })
    (base : Nat) (e : TypeId) (i : TypeInfo) (z : Value) (size bytes : Nat) (h1 : P.underlying t = some (.slice e)) (h2 : P.info? e = some i) (h3 : i.zero = some z) (h4 : i.size = size) (h5 : i.bytes = bytes) (h6 : z.cells.size = size) (h7 : 0 < size)
    (v : Value) (n : Nat) (xs : List Value) (hs : a.eval s = v) (hown : w.ownsRow base e size v n xs)
    (ad : Addr) (m c : Nat) (news : List Value) (hx : a.eval x = .slice (some ad) m c) (hn : news.length = m * size) (hc : ∀ j u, news[j]? = some u → w.cell? (ad.add j) = some u) (h1c : ∀ u ∈ news, u.oneCell' = true)
    (hm : 0 < m) (b1 : n + m ≤ maxLen) (b2 : (n + m) * bytes ≤ 140737488355328) (hbase : base ≤ w.heap.size)
    (hK : ∀ v' w', w'.ownsRow base e size v' (n + m) (xs ++ news) → w.grownBy w' v.ownBlock → (v'.ownBlock = v.ownBlock ∨ v'.ownBlock = some w.heap.size) → K (a.put o.dst v') w') :
    if Region.wanted o (yielded ops a.tmps) = true then Oper.wp P o a w K Q else E := by
  have hw : Region.wanted o (yielded ops a.tmps) = true := by simp [Region.wanted, hg]
  rw [if_pos hw]
  obtain ⟨v', w', hrun, r1, r2, r3⟩ := run_append_block (P := P) w base t o.type e i z size bytes h1 h2 h3 h4 h5 h6 h7 v n xs hown ad m c news hn hc h1c hm b1 b2 hbase
  unfold Oper.wp
  simp [execOp, hop, resolve, invoke, builtin, hs, hx, hrun, Result.andThen]
  exact hK v' w' r1 r2 r3
end

end Go.Proofs.YtbdkaobbfmgnhaaDoor
