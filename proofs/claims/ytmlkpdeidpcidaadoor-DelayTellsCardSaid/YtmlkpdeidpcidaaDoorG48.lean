/-
  Plain: all that is come to from some things, each once, in the order found. No program, no model.
  Plain: what is seen of a machine hangs on its language alone. No program, no model.
  Plain: what a watcher knows, by the words that a plant does; who sees more knows no less. No program, no model.
  Plain: where a machine may be, and where all runs of a secret are then, when a list was seen. No program, no model.
  Plain: the search for the least list that leaks what a machine did. No program, no model.
  Plain: whereabouts as sets of numbers, as package secret keeps them: a pair's number is 16 times its state, and the bits of its row. No program, no model.
-/
import Derived.Test.YtmlkpdeidpcidaaDoorG24
import Derived.Test.YtmlkpdeidpcidaaDoorG20
import Derived.Test.YtmlkpdeidpcidaaDoorG23
import Derived.Test.YtmlkpdeidpcidaaDoorG11
import Derived.Test.YtmlkpdeidpcidaaDoorG34
namespace Go.Proofs.YtmlkpdeidpcidaaDoor
open Go.RowKit
set_option linter.unusedVariables false
set_option linter.unusedSectionVars false

section
variable {σ : Type} [DecidableEq σ] (nx : σ → List σ)
def cAdd (l : List σ) (x : σ) : List σ := if x ∈ l then l else l ++ [x]
def cRow (l xs : List σ) : List σ := xs.foldl cAdd l
def cGo (d : σ) : Nat → Nat → List σ → List σ
  | 0, _, l => l
  | f + 1, k, l => if k < l.length then cGo d f (k + 1) (cRow l (nx (l[k]?.getD d))) else l
theorem mem_cAdd (l : List σ) (x y : σ) : y ∈ cAdd l x ↔ y ∈ l ∨ y = x := by
  unfold cAdd
  split
  · rename_i h
    exact ⟨.inl, fun q => q.elim id (fun e => by rw [e]; exact h)⟩
  · rw [List.mem_append, List.mem_singleton]
theorem nodup_cAdd {l : List σ} (h : l.Nodup) (x : σ) : (cAdd l x).Nodup := by
  unfold cAdd
  split
  · exact h
  · rename_i hx
    rw [List.nodup_append]
    refine ⟨h, by simp, fun a ha b hb e => ?_⟩
    rw [List.mem_singleton] at hb
    subst hb; subst e; exact hx ha
theorem cAdd_pre (l : List σ) (x : σ) : ∃ t, cAdd l x = l ++ t := by
  unfold cAdd
  split
  · exact ⟨[], by simp⟩
  · exact ⟨[x], rfl⟩
theorem mem_cRow : ∀ (xs l : List σ) (y : σ), y ∈ cRow l xs ↔ y ∈ l ∨ y ∈ xs
  | [], l, y => by simp [cRow]
  | x :: r, l, y => by
    have := mem_cRow r (cAdd l x) y
    unfold cRow at this ⊢
    rw [List.foldl_cons, this, mem_cAdd, List.mem_cons, or_assoc]
theorem nodup_cRow : ∀ (xs : List σ) {l : List σ}, l.Nodup → (cRow l xs).Nodup
  | [], l, h => h
  | x :: r, l, h => nodup_cRow r (nodup_cAdd h x)
theorem cRow_pre : ∀ (xs l : List σ), ∃ t, cRow l xs = l ++ t
  | [], l => ⟨[], by simp [cRow]⟩
  | x :: r, l => by
    obtain ⟨t, ht⟩ := cAdd_pre l x
    obtain ⟨u, hu⟩ := cRow_pre r (cAdd l x)
    refine ⟨t ++ u, ?_⟩
    unfold cRow at hu ⊢
    rw [List.foldl_cons, hu, ht, List.append_assoc]
/-- What the search leaves: closed, and nothing else. -/
theorem cGo_inv {d : σ} {U : List σ} (hU : ∀ y ∈ U, ∀ x ∈ nx y, x ∈ U) (S : σ → Prop) (hS : ∀ y, S y → ∀ x ∈ nx y, S x) : ∀ (f k : Nat) (l : List σ), l.Nodup → (∀ x ∈ l, x ∈ U) → (∀ x ∈ l, S x) → (∀ (j : Nat) (y : σ), j < k → l[j]? = some y → ∀ x ∈ nx y, x ∈ l) → k ≤ l.length → U.length < f + k →
    (cGo nx d f k l).Nodup ∧ (∀ x ∈ cGo nx d f k l, x ∈ U ∧ S x) ∧ (∀ y ∈ cGo nx d f k l, ∀ x ∈ nx y, x ∈ cGo nx d f k l) ∧ (∀ x ∈ l, x ∈ cGo nx d f k l)
  | 0, k, l, hn, hu, hs, hc, hk, hf => by
    have := nodup_sub hn hu
    omega
  | f + 1, k, l, hn, hu, hs, hc, hk, hf => by
    rw [cGo]
    by_cases hlt : k < l.length
    · rw [if_pos hlt]
      obtain ⟨y, hy⟩ : ∃ y, l[k]? = some y := ⟨_, List.getElem?_eq_getElem hlt⟩
      rw [hy, Option.getD_some]
      have hym := List.mem_of_getElem? hy
      obtain ⟨t, ht⟩ := cRow_pre (nx y) l
      have ih := cGo_inv (d := d) hU S hS f (k + 1) (cRow l (nx y)) (nodup_cRow _ hn) (fun x hx => by
        rcases (mem_cRow _ _ _).1 hx with q | q
        · exact hu x q
        · exact hU y (hu y hym) x q) (fun x hx => by
        rcases (mem_cRow _ _ _).1 hx with q | q
        · exact hs x q
        · exact hS y (hs y hym) x q) (fun j z hj hz x hx => by
        have hjl : j < l.length := by omega
        rw [ht, List.getElem?_append_left hjl] at hz
        by_cases e : j = k
        · subst e
          rw [hy] at hz
          have := Option.some.inj hz
          subst this
          exact (mem_cRow _ _ _).2 (.inr hx)
        · exact (mem_cRow _ _ _).2 (.inl (hc j z (by omega) hz x hx))) (by rw [ht, List.length_append]; omega) (by omega)
      exact ⟨ih.1, ih.2.1, ih.2.2.1, fun x hx => ih.2.2.2 x ((mem_cRow _ _ _).2 (.inl hx))⟩
    · rw [if_neg hlt]
      refine ⟨hn, fun x hx => ⟨hu x hx, hs x hx⟩, fun y hy x hx => ?_, fun x hx => hx⟩
      obtain ⟨j, hj⟩ := List.mem_iff_getElem?.1 hy
      have hjl := (List.getElem?_eq_some_iff.1 hj).1
      exact hc j y (by omega) hj x hx
theorem cGo_start {d : σ} {U l : List σ} (hU : ∀ y ∈ U, ∀ x ∈ nx y, x ∈ U) (hn : l.Nodup) (hu : ∀ x ∈ l, x ∈ U) {f : Nat} (hf : U.length < f) (S : σ → Prop) (hS : ∀ y, S y → ∀ x ∈ nx y, S x) (hs : ∀ x ∈ l, S x) :
    (cGo nx d f 0 l).Nodup ∧ (∀ x ∈ cGo nx d f 0 l, x ∈ U ∧ S x) ∧ (∀ y ∈ cGo nx d f 0 l, ∀ x ∈ nx y, x ∈ cGo nx d f 0 l) ∧ (∀ x ∈ l, x ∈ cGo nx d f 0 l) :=
  cGo_inv nx hU S hS f 0 l hn hu hs (fun j y hj => by omega) (Nat.zero_le _) (by omega)

/-! Lists as sets. -/
def canG (U l : List σ) : List σ := U.filter fun x => decide (x ∈ l)
theorem canG_iff {U l l' : List σ} (h : ∀ x ∈ l, x ∈ U) (h' : ∀ x ∈ l', x ∈ U) : canG U l = canG U l' ↔ ∀ x, x ∈ l ↔ x ∈ l' := by
  constructor
  · intro e x
    have hm : ∀ k : List σ, (∀ y ∈ k, y ∈ U) → (x ∈ canG U k ↔ x ∈ k) := fun k hk => by
      unfold canG
      rw [List.mem_filter, decide_eq_true_eq]
      exact ⟨fun q => q.2, fun q => ⟨hk x q, q⟩⟩
    rw [← hm l h, e, hm l' h']
  · intro e
    unfold canG
    exact List.filter_congr fun x _ => by rw [decide_eq_decide]; exact e x
theorem mem_canG {U l : List σ} (h : ∀ x ∈ l, x ∈ U) (x : σ) : x ∈ canG U l ↔ x ∈ l := by
  unfold canG
  rw [List.mem_filter, decide_eq_true_eq]
  exact ⟨fun q => q.2, fun q => ⟨h x q, q⟩⟩
/-- As many, and all of the one in the other: the same. -/
theorem same_sets {a b : List σ} (ha : a.Nodup) (hb : b.Nodup) : (a.length = b.length ∧ ∀ x ∈ a, x ∈ b) ↔ ∀ x, x ∈ a ↔ x ∈ b := by
  constructor
  · rintro ⟨h1, h2⟩ x
    refine ⟨h2 x, fun hx => ?_⟩
    by_cases hn : x ∈ a
    · exact hn
    · exfalso
      have := nodup_sub (l := x :: a) (m := b) (List.nodup_cons.2 ⟨hn, ha⟩) (fun y hy => by
        rcases List.mem_cons.1 hy with rfl | hy
        · exact hx
        · exact h2 y hy)
      rw [List.length_cons] at this
      omega
  · intro h
    have h1 := nodup_sub (l := a) (m := b) ha (fun y hy => (h y).1 hy)
    have h2 := nodup_sub (l := b) (m := a) hb (fun y hy => (h y).2 hy)
    exact ⟨by omega, fun x hx => (h x).1 hx⟩
end

end Go.Proofs.YtmlkpdeidpcidaaDoor
namespace Go.Proofs.YtmlkpdeidpcidaaDoor
open Go.RowKit
set_option linter.unusedVariables false
set_option linter.unusedSectionVars false

theorem afterL_app (ars : List Arr) (ss a b : List Int) : afterL ars ss (a ++ b) = afterL ars (afterL ars ss a) b := by
  unfold afterL; rw [List.foldl_append]
theorem step_mono {ars : List Arr} {ss ss' : List Int} {e : Int} (h : ∀ x ∈ ss, x ∈ ss') : ∀ x ∈ stepL ars ss e, x ∈ stepL ars ss' e := fun x hx => by
  obtain ⟨a, h1, h2, h3, h4⟩ := (mem_stepL _ _ _ _).1 hx
  exact (mem_stepL _ _ _ _).2 ⟨a, h1, h2, h _ h3, h4⟩
theorem after_mono {ars : List Arr} : ∀ (u : List Int) {ss ss' : List Int}, (∀ x ∈ ss, x ∈ ss') → ∀ x ∈ afterL ars ss u, x ∈ afterL ars ss' u
  | [], _, _, h => h
  | e :: u, ss, ss', h => after_mono u (ss := stepL ars ss e) (ss' := stepL ars ss' e) (step_mono h)
end Go.Proofs.YtmlkpdeidpcidaaDoor
namespace Go.Proofs.YtmlkpdeidpcidaaDoor
open Go.RowKit
set_option linter.unusedVariables false

theorem step_of1 {ars : List Arr} {ss : List Int} {e x : Int} (h : x ∈ stepL ars ss e) : ∃ y ∈ ss, x ∈ stepL ars [y] e := by
  obtain ⟨a, h1, h2, h3, h4⟩ := (mem_stepL _ _ _ _).1 h
  exact ⟨a.f, h3, (mem_stepL _ _ _ _).2 ⟨a, h1, h2, by simp, h4⟩⟩
theorem after_one {ars : List Arr} : ∀ (u : List Int) {ss : List Int} {x : Int}, x ∈ afterL ars ss u → ∃ y ∈ ss, x ∈ afterL ars [y] u
  | [], ss, x, h => ⟨x, h, by simp [afterL]⟩
  | e :: u, ss, x, h => by
    obtain ⟨y, hy, h1⟩ := after_one u (ss := stepL ars ss e) h
    obtain ⟨z, hz, h2⟩ := step_of1 hy
    exact ⟨z, hz, after_mono u (ss := [y]) (ss' := stepL ars [z] e) (fun q hq => by rw [List.mem_singleton.1 hq]; exact h2) x h1⟩
theorem seen_app (seen a b : List Int) : seenL seen (a ++ b) = seenL seen a ++ seenL seen b := by unfold seenL; rw [List.filter_append]
section
variable {p : Plant}
theorem leakB_iff (secret row : List Int) : leakB secret row = true ↔ (∃ x, x ∈ row) ∧ ∀ x ∈ row, x ∈ secret := by
  unfold leakB
  rw [Bool.and_eq_true, decide_eq_true_eq, decide_eq_true_eq, pos_mem]
  refine and_congr Iff.rfl ?_
  rw [List.length_eq_zero_iff, List.filter_eq_nil_iff]
  refine forall_congr' fun x => forall_congr' fun hx => ?_
  rw [← hasB_iff]
  cases hasB secret x <;> simp

variable {q : Plant}
end
end Go.Proofs.YtmlkpdeidpcidaaDoor
namespace Go.Proofs.YtmlkpdeidpcidaaDoor
open Go.RowKit
set_option linter.unusedVariables false
set_option linter.unusedSectionVars false

/-- A state of the machine, and a row of states of the secret. -/
abbrev Pla := Int × List Int
def plTo (s : Mach) (y : Pla) (a : Arr) : Pla := (a.t, stepL s.arrows y.2 a.e)
/-- Where an event that is not seen leads to. -/
def unQ (m s : Mach) (seen : List Int) (y : Pla) : List Pla := (m.arrows.filter fun a => decide (a.f = y.1) && !hasB seen a.e).map (plTo s y)
/-- Where an event leads to. -/
def evQ (m s : Mach) (e : Int) (y : Pla) : List Pla := (m.arrows.filter fun a => decide (a.f = y.1) && decide (a.e = e)).map (plTo s y)
def wideQ (m s : Mach) (seen : List Int) (l : List Pla) : List Pla := cGo (unQ m s seen) (0, []) 1000 0 l
def stepQ (m s : Mach) (l : List Pla) (e : Int) : List Pla := l.foldl (fun o y => cRow o (evQ m s e y)) []
def seeQ (m s : Mach) (seen : List Int) (l : List Pla) (e : Int) : List Pla := wideQ m s seen (stepQ m s l e)
def firstQ (m s : Mach) (seen : List Int) : List Pla := wideQ m s seen (m.starts.map fun x => (x, s.starts))
/-- All places. -/
def allQ (m s : Mach) : List Pla := (rngI m.st.toNat).flatMap fun x => (subs 4).map fun S => (x, S)
theorem allQ_len {m : Mach} (z : m.st ≤ 6) (s : Mach) : (allQ m s).length ≤ 96 := by
  unfold allQ
  rw [List.length_flatMap]
  have : ((rngI m.st.toNat).map fun x => ((subs 4).map fun S => (x, S)).length) = (rngI m.st.toNat).map fun _ => 16 := by
    refine List.map_congr_left fun x _ => ?_
    rw [List.length_map, subs_len]
  rw [this, List.map_const', List.sum_replicate_nat, rngI_len]
  have : m.st.toNat ≤ 6 := by omega
  exact Nat.mul_le_mul this (Nat.le_refl 16)
theorem mem_allQ {m s : Mach} (hs : s.st ≤ 4) {x : Pla} (h : 0 ≤ x.1 ∧ x.1 < m.st) (hr : Inc x.2 ∧ ∀ y ∈ x.2, 0 ≤ y ∧ y < s.st) : x ∈ allQ m s := by
  unfold allQ
  rw [List.mem_flatMap]
  exact ⟨x.1, (mem_rng9 _ _).2 ⟨h.1, by omega⟩, List.mem_map.2 ⟨x.2, mem_subs 4 _ hr.1 (fun y hy => by have := hr.2 y hy; omega), rfl⟩⟩
theorem mem_unQ {m s : Mach} {seen : List Int} {y x : Pla} : x ∈ unQ m s seen y ↔ ∃ a ∈ m.arrows, a.f = y.1 ∧ hasB seen a.e = false ∧ x = plTo s y a := by
  unfold unQ
  rw [List.mem_map]
  constructor
  · rintro ⟨a, ha, rfl⟩
    obtain ⟨h1, h2⟩ := List.mem_filter.1 ha
    rw [Bool.and_eq_true, decide_eq_true_eq, Bool.not_eq_true'] at h2
    exact ⟨a, h1, h2.1, h2.2, rfl⟩
  · rintro ⟨a, h1, h2, h3, rfl⟩
    exact ⟨a, List.mem_filter.2 ⟨h1, by rw [Bool.and_eq_true, decide_eq_true_eq, Bool.not_eq_true']; exact ⟨h2, h3⟩⟩, rfl⟩
theorem mem_evQ {m s : Mach} {e : Int} {y x : Pla} : x ∈ evQ m s e y ↔ ∃ a ∈ m.arrows, a.f = y.1 ∧ a.e = e ∧ x = plTo s y a := by
  unfold evQ
  rw [List.mem_map]
  constructor
  · rintro ⟨a, ha, rfl⟩
    obtain ⟨h1, h2⟩ := List.mem_filter.1 ha
    rw [Bool.and_eq_true, decide_eq_true_eq, decide_eq_true_eq] at h2
    exact ⟨a, h1, h2.1, h2.2, rfl⟩
  · rintro ⟨a, h1, h2, h3, rfl⟩
    exact ⟨a, List.mem_filter.2 ⟨h1, by rw [Bool.and_eq_true, decide_eq_true_eq, decide_eq_true_eq]; exact ⟨h2, h3⟩⟩, rfl⟩
theorem stepQ_inv (m s : Mach) (e : Int) : ∀ (l o : List Pla), o.Nodup → (l.foldl (fun o y => cRow o (evQ m s e y)) o).Nodup ∧ ∀ x, x ∈ l.foldl (fun o y => cRow o (evQ m s e y)) o ↔ x ∈ o ∨ ∃ y ∈ l, x ∈ evQ m s e y
  | [], o, h => ⟨h, fun x => by simp⟩
  | y :: r, o, h => by
    have ih := stepQ_inv m s e r (cRow o (evQ m s e y)) (nodup_cRow _ h)
    refine ⟨ih.1, fun x => ?_⟩
    rw [List.foldl_cons, ih.2 x, mem_cRow]
    constructor
    · rintro ((h | h) | ⟨z, hz, h⟩)
      · exact .inl h
      · exact .inr ⟨y, by simp, h⟩
      · exact .inr ⟨z, by simp [hz], h⟩
    · rintro (h | ⟨z, hz, h⟩)
      · exact .inl (.inl h)
      · rcases List.mem_cons.1 hz with rfl | hz
        · exact .inl (.inr h)
        · exact .inr ⟨z, hz, h⟩
theorem mem_stepQ (m s : Mach) (l : List Pla) (e : Int) (x : Pla) : x ∈ stepQ m s l e ↔ ∃ y ∈ l, x ∈ evQ m s e y := by
  have := (stepQ_inv m s e l [] List.nodup_nil).2 x
  unfold stepQ
  rw [this]; simp
section
variable {m s : Mach}
theorem plTo_in (hm : mayB m = true) (hs : mayB s = true) (zm : m.st ≤ 6) (zs : s.st ≤ 4) {y : Pla} {a : Arr} (ha : a ∈ m.arrows) : plTo s y a ∈ allQ m s := by
  have h1 := may_arrs hm a ha
  exact mem_allQ zs ⟨h1.2.2.1, h1.2.2.2.1⟩ (stepIn hs y.2 a.e)
theorem start_in (hm : mayB m = true) (hs : mayB s = true) (zm : m.st ≤ 6) (zs : s.st ≤ 4) {x : Int} (hx : x ∈ m.starts) : ((x, s.starts) : Pla) ∈ allQ m s := mem_allQ zs ((may_starts hm).2 x hx) (may_starts hs)
/-- What is come to by events that are not seen. -/
theorem wideQ_all (hm : mayB m = true) (hs : mayB s = true) (zm : m.st ≤ 6) (zs : s.st ≤ 4) {seen : List Int} {l : List Pla} (hn : l.Nodup) (hu : ∀ x ∈ l, x ∈ allQ m s) : (wideQ m s seen l).Nodup ∧ (∀ x ∈ wideQ m s seen l, x ∈ allQ m s) ∧ ∀ x, x ∈ wideQ m s seen l ↔ ∃ t y, (∀ e ∈ t, hasB seen e = false) ∧ y ∈ l ∧ x.1 ∈ afterL m.arrows [y.1] t ∧ x.2 = afterL s.arrows y.2 t := by
  have hU : ∀ y ∈ allQ m s, ∀ x ∈ unQ m s seen y, x ∈ allQ m s := fun y _ x hx => by
    obtain ⟨a, h1, -, -, rfl⟩ := mem_unQ.1 hx
    exact plTo_in hm hs zm zs h1
  have hf : (allQ m s).length < 1000 := by have := allQ_len zm s; omega
  obtain ⟨k1, k2, k3, k4⟩ := cGo_start (unQ m s seen) (d := ((0, []) : Pla)) hU hn hu hf (fun x => ∃ t y, (∀ e ∈ t, hasB seen e = false) ∧ y ∈ l ∧ x.1 ∈ afterL m.arrows [y.1] t ∧ x.2 = afterL s.arrows y.2 t) (fun y hy x hx => by
    obtain ⟨t, z, h1, h2, h3, h4⟩ := hy
    obtain ⟨a, g1, g2, g3, rfl⟩ := mem_unQ.1 hx
    refine ⟨t ++ [a.e], z, fun e he => ?_, h2, ?_, ?_⟩
    · rcases List.mem_append.1 he with q | q
      · exact h1 e q
      · rw [List.mem_singleton.1 q]; exact g3
    · rw [afterL_app]
      exact (mem_stepL _ _ _ _).2 ⟨a, g1, rfl, by rw [g2]; exact h3, rfl⟩
    · rw [afterL_app, ← h4]; rfl) (fun x hx => ⟨[], x, by simp, hx, by simp [afterL], rfl⟩)
  refine ⟨k1, fun x hx => (k2 x hx).1, fun x => ⟨fun hx => (k2 x hx).2, ?_⟩⟩
  rintro ⟨t, y, h1, h2, h3, h4⟩
  have key : ∀ (t : List Int) (y : Pla) (x : Pla), (∀ e ∈ t, hasB seen e = false) → y ∈ wideQ m s seen l → x.1 ∈ afterL m.arrows [y.1] t → x.2 = afterL s.arrows y.2 t → x ∈ wideQ m s seen l := by
    intro t
    induction t with
    | nil =>
      intro y x _ hy h3 h4
      have e1 : x.1 = y.1 := by simpa [afterL] using h3
      have e2 : x.2 = y.2 := h4
      have : x = y := Prod.ext e1 e2
      rw [this]; exact hy
    | cons e t ih =>
      intro y x ht hy h3 h4
      obtain ⟨z, hz, h5⟩ := after_one t (ss := stepL m.arrows [y.1] e) h3
      obtain ⟨a, g1, g2, g3, g4⟩ := (mem_stepL _ _ _ _).1 hz
      have g3 : a.f = y.1 := by simpa using g3
      have hin : plTo s y a ∈ wideQ m s seen l := k3 y hy _ (mem_unQ.2 ⟨a, g1, g3, by rw [g2]; exact ht e (by simp), rfl⟩)
      refine ih (plTo s y a) x (fun q hq => ht q (by simp [hq])) hin ?_ ?_
      · show x.1 ∈ afterL m.arrows [a.t] t
        rw [g4]; exact h5
      · show x.2 = afterL s.arrows (stepL s.arrows y.2 a.e) t
        rw [g2]; exact h4
  exact key t y x h1 (k4 y h2) h3 h4
theorem stepQ_in (hm : mayB m = true) (hs : mayB s = true) (zm : m.st ≤ 6) (zs : s.st ≤ 4) {l : List Pla} (e : Int) : (stepQ m s l e).Nodup ∧ ∀ x ∈ stepQ m s l e, x ∈ allQ m s := by
  refine ⟨(stepQ_inv m s e l [] List.nodup_nil).1, fun x hx => ?_⟩
  obtain ⟨y, hy, h⟩ := (mem_stepQ m s l e x).1 hx
  obtain ⟨a, h1, -, -, rfl⟩ := mem_evQ.1 h
  exact plTo_in hm hs zm zs h1
theorem first_in (hm : mayB m = true) (hs : mayB s = true) (zm : m.st ≤ 6) (zs : s.st ≤ 4) {seen : List Int} : (firstQ m s seen).Nodup ∧ (∀ x ∈ firstQ m s seen, x ∈ allQ m s) ∧ ∀ x, x ∈ firstQ m s seen ↔ ∃ t, (∀ e ∈ t, hasB seen e = false) ∧ x.1 ∈ afterL m.arrows m.starts t ∧ x.2 = afterL s.arrows s.starts t := by
  have hn : (m.starts.map fun x => ((x, s.starts) : Pla)).Nodup := by
    have := inc_nodup (may_starts hm).1
    rw [List.nodup_iff_pairwise_ne, List.pairwise_map]
    exact List.Pairwise.imp (fun hab e => hab (by injection e)) (List.nodup_iff_pairwise_ne.1 this)
  obtain ⟨k1, k2, k3⟩ := wideQ_all hm hs zm zs (seen := seen) hn (fun x hx => by
    obtain ⟨y, hy, rfl⟩ := List.mem_map.1 hx
    exact start_in hm hs zm zs hy)
  refine ⟨k1, k2, fun x => ?_⟩
  rw [show (x ∈ firstQ m s seen ↔ _) from k3 x]
  constructor
  · rintro ⟨t, y, h1, h2, h3, h4⟩
    obtain ⟨z, hz, rfl⟩ := List.mem_map.1 h2
    exact ⟨t, h1, after_mono t (ss := [z]) (fun q hq => by rw [List.mem_singleton.1 hq]; exact hz) x.1 h3, h4⟩
  · rintro ⟨t, h1, h3, h4⟩
    obtain ⟨z, hz, h5⟩ := after_one t h3
    exact ⟨t, (z, s.starts), h1, List.mem_map.2 ⟨z, hz, rfl⟩, h5, h4⟩
theorem seeQ_in (hm : mayB m = true) (hs : mayB s = true) (zm : m.st ≤ 6) (zs : s.st ≤ 4) {seen : List Int} {l : List Pla} {e : Int} : (seeQ m s seen l e).Nodup ∧ ∀ x ∈ seeQ m s seen l e, x ∈ allQ m s := by
  obtain ⟨h1, h2⟩ := stepQ_in hm hs zm zs (l := l) e
  obtain ⟨k1, k2, -⟩ := wideQ_all hm hs zm zs (seen := seen) h1 h2
  exact ⟨k1, k2⟩
theorem mem_seeQ (hm : mayB m = true) (hs : mayB s = true) (zm : m.st ≤ 6) (zs : s.st ≤ 4) {seen : List Int} {l : List Pla} {e : Int} (x : Pla) : x ∈ seeQ m s seen l e ↔ ∃ t y, (∀ q ∈ t, hasB seen q = false) ∧ y ∈ l ∧ x.1 ∈ afterL m.arrows [y.1] (e :: t) ∧ x.2 = afterL s.arrows y.2 (e :: t) := by
  obtain ⟨h1, h2⟩ := stepQ_in hm hs zm zs (l := l) e
  rw [show (x ∈ seeQ m s seen l e ↔ _) from (wideQ_all hm hs zm zs (seen := seen) h1 h2).2.2 x]
  constructor
  · rintro ⟨t, z, k1, k2, k3, k4⟩
    obtain ⟨y, hy, k5⟩ := (mem_stepQ m s l e z).1 k2
    obtain ⟨a, g1, g2, g3, rfl⟩ := mem_evQ.1 k5
    refine ⟨t, y, k1, hy, ?_, ?_⟩
    · refine after_mono t (ss := [a.t]) (ss' := stepL m.arrows [y.1] e) (fun q hq => ?_) x.1 k3
      rw [List.mem_singleton.1 hq]
      exact (mem_stepL _ _ _ _).2 ⟨a, g1, g3, by rw [g2]; simp, rfl⟩
    · rw [k4]
      show afterL s.arrows (stepL s.arrows y.2 a.e) t = afterL s.arrows (stepL s.arrows y.2 e) t
      rw [g3]
  · rintro ⟨t, y, k1, hy, k3, k4⟩
    obtain ⟨z, hz, k5⟩ := after_one t (ss := stepL m.arrows [y.1] e) k3
    obtain ⟨a, g1, g2, g3, g4⟩ := (mem_stepL _ _ _ _).1 hz
    have g3 : a.f = y.1 := by simpa using g3
    refine ⟨t, plTo s y a, k1, (mem_stepQ m s l e _).2 ⟨y, hy, mem_evQ.2 ⟨a, g1, g3, g2, rfl⟩⟩, ?_, ?_⟩
    · show x.1 ∈ afterL m.arrows [a.t] t
      rw [g4]; exact k5
    · show x.2 = afterL s.arrows (stepL s.arrows y.2 a.e) t
      rw [g2]; exact k4
end

end Go.Proofs.YtmlkpdeidpcidaaDoor
namespace Go.Proofs.YtmlkpdeidpcidaaDoor
open Go.RowKit
set_option linter.unusedVariables false
set_option linter.unusedSectionVars false

/-! A search that is cut where more than so many are found. -/
section
variable {σ : Type} [DecidableEq σ] (δ : σ → Nat → σ)
def bfCut (M ev : Nat) : Nat → Nat → List (σ × List Int) → Option (List (σ × List Int))
  | 0, _, l => some l
  | f + 1, k, l => match l[k]? with
    | none => some l
    | some x => if M < l.length then none else bfCut M ev f (k + 1) (bfRow δ x l ev)
theorem bfCut_end {s0 : σ} {M ev : Nat} : ∀ (f k : Nat) (l l' : List (σ × List Int)), BI δ s0 ev k 0 l → k ≤ l.length → k ≤ M → M < f + k → bfCut δ M ev f k l = some l' → BI δ s0 ev l'.length 0 l' ∧ l'.length ≤ M
  | 0, k, l, l', h, hk, hM, hf, e => by omega
  | f + 1, k, l, l', h, hk, hM, hf, e => by
    rw [bfCut] at e
    cases hx : l[k]? with
    | none =>
      rw [hx] at e
      have e := Option.some.inj e
      subst e
      have hkl : k = l.length := by
        have := List.getElem?_eq_none_iff.1 hx
        omega
      rw [← hkl]; exact ⟨h, hM⟩
    | some x =>
      rw [hx] at e
      dsimp only at e
      have hlt := (List.getElem?_eq_some_iff.1 hx).1
      by_cases hc : M < l.length
      · rw [if_pos hc] at e; cases e
      · rw [if_neg hc] at e
        obtain ⟨t, ht⟩ := bfRow_pre δ x l ev
        exact bfCut_end f (k + 1) _ l' (bi_next δ h hx) (by rw [ht, List.length_append]; omega) (by omega) (by omega) e
end

/-! What is told by whereabouts. -/
def secQ (m s : Mach) (l : List Pla) : Bool := l.any fun x => hasB m.ends x.1 && decide (0 < (x.2.filter fun n => hasB s.ends n == true).length)
def opnQ (m s : Mach) (l : List Pla) : Bool := l.any fun x => hasB m.ends x.1 && !decide (0 < (x.2.filter fun n => hasB s.ends n == true).length)
/-- A secret word, and no open one. -/
def leakQ (m s : Mach) (l : List Pla) : Bool := secQ m s l && !opnQ m s l
theorem any_same {α : Type} {l l' : List α} (f : α → Bool) (h : ∀ x, x ∈ l ↔ x ∈ l') : l.any f = l'.any f := by
  rw [Bool.eq_iff_iff, List.any_eq_true, List.any_eq_true]
  exact ⟨fun ⟨x, hx, q⟩ => ⟨x, (h x).1 hx, q⟩, fun ⟨x, hx, q⟩ => ⟨x, (h x).2 hx, q⟩⟩
theorem leakQ_same (m s : Mach) {l l' : List Pla} (h : ∀ x, x ∈ l ↔ x ∈ l') : leakQ m s l = leakQ m s l' := by
  unfold leakQ secQ opnQ
  rw [any_same _ h, any_same _ h]
def qD (m s : Mach) (seen : List Int) (c : List Pla) (k : Nat) : List Pla := canG (allQ m s) (seeQ m s seen c (seen[k]?.getD 0))
def qF (m s : Mach) (seen : List Int) : List Pla := canG (allQ m s) (firstQ m s seen)
/-- All whereabouts, each with the least list (of numbers) that has them; nothing: there are too many. -/
def fndQ (m s : Mach) (seen : List Int) : Option (List (List Pla × List Int)) := bfCut (qD m s seen) 256 seen.length 257 0 [(qF m s seen, [])]
/-- The least list that leaks (L1). -/
def outQ (m s : Mach) (seen : List Int) : Option (Option (List Int)) := (fndQ m s seen).map fun l => (l.find? fun x => leakQ m s x.1).map fun x => wordS seen x.2
section
variable {m s : Mach}
theorem see_same (hm : mayB m = true) (hs : mayB s = true) (zm : m.st ≤ 6) (zs : s.st ≤ 4) {seen : List Int} {l l' : List Pla} (h : ∀ x, x ∈ l ↔ x ∈ l') (e : Int) : ∀ x, x ∈ seeQ m s seen l e ↔ x ∈ seeQ m s seen l' e := fun x => by
  rw [mem_seeQ hm hs zm zs, mem_seeQ hm hs zm zs]
  exact ⟨fun ⟨t, y, a, b, c⟩ => ⟨t, y, a, (h y).1 b, c⟩, fun ⟨t, y, a, b, c⟩ => ⟨t, y, a, (h y).2 b, c⟩⟩
end

end Go.Proofs.YtmlkpdeidpcidaaDoor
namespace Go.Proofs.YtmlkpdeidpcidaaDoor
open Go.RowKit
set_option linter.unusedVariables false
set_option linter.unusedSectionVars false

/-- All numbers below another one that are not in a list. -/
def othL (ev : Nat) (l : List Int) : List Int := (rngI ev).filter fun e => !hasB l e
theorem mem_oth (ev : Nat) (l : List Int) (e : Int) : e ∈ othL ev l ↔ (0 ≤ e ∧ e < (ev : Int)) ∧ hasB l e = false := by
  unfold othL
  rw [List.mem_filter, mem_rng9, Bool.not_eq_true']

/-! Sets of states below 4, by their first word. -/
def oneW (b : Nat) : Nat → Nat := fun k => if k = 0 then b else 0
def bitQ (l : List Int) : Nat := ofS l 0
def encQ (x : Pla) : Int := x.1 * 16 + (bitQ x.2 : Int)
theorem rep_allL {l : List Int} (h : ∀ x ∈ l, 0 ≤ x ∧ x < 256) : Rep (ofS l) l := by
  have := rep_of h l.length
  rwa [List.take_of_length_le (Nat.le_refl _)] at this
theorem has_low (S : Nat → Nat) {j : Nat} (h : j < 64) : hasS S j = (S 0).testBit j := by
  unfold hasS
  rw [show j / 64 = 0 by omega, show j % 64 = j by omega]
theorem first_lt {S : Nat → Nat} {l : List Int} (h : Rep S l) (hl : ∀ x ∈ l, 0 ≤ x ∧ x < 4) : S 0 < 16 := by
  refine Nat.lt_pow_two_of_testBit (n := 4) (S 0) (fun i hi => ?_)
  by_cases h64 : i < 64
  · cases hb : (S 0).testBit i with
    | false => rfl
    | true =>
      have := hl _ ((h.mem i (by omega)).1 (by rw [has_low S h64]; exact hb))
      omega
  · exact Nat.testBit_lt_two_pow (Nat.lt_of_lt_of_le (h.ok 0) (by
      have : 2 ^ 64 ≤ 2 ^ i := Nat.pow_le_pow_right (by omega) (by omega)
      exact this))
theorem first_eq {S T : Nat → Nat} {l : List Int} (h : Rep S l) (h' : Rep T l) : S 0 = T 0 := by
  refine word_eq (h.ok 0) (h'.ok 0) (fun j hj => ?_)
  rw [← has_low S hj, ← has_low T hj, Bool.eq_iff_iff, h.mem j (by omega), h'.mem j (by omega)]
theorem low_bd {l : List Int} (hl : ∀ x ∈ l, 0 ≤ x ∧ x < 4) : ∀ x ∈ l, 0 ≤ x ∧ x < 256 := fun x hx => by have := hl x hx; omega
theorem bit_lt {l : List Int} (hl : ∀ x ∈ l, 0 ≤ x ∧ x < 4) : bitQ l < 16 := first_lt (rep_allL (low_bd hl)) hl
theorem first_bit {S : Nat → Nat} {l : List Int} (h : Rep S l) : S 0 = bitQ l := first_eq h (rep_allL h.bd)
theorem rep_oneW {l : List Int} (hl : ∀ x ∈ l, 0 ≤ x ∧ x < 4) : Rep (oneW (bitQ l)) l := by
  have hr := rep_allL (low_bd hl)
  have hb := bit_lt hl
  refine ⟨fun k => ?_, low_bd hl, fun n hn => ?_⟩
  · unfold oneW; split
    · omega
    · omega
  · by_cases h64 : n < 64
    · rw [has_low _ h64]
      show (bitQ l).testBit n = true ↔ _
      rw [← hr.mem n hn, has_low _ h64]; rfl
    · have e : hasS (oneW (bitQ l)) n = false := by
        unfold hasS oneW
        rw [if_neg (by omega)]; simp
      rw [e]
      constructor
      · intro h; cases h
      · intro h; have := hl _ h; omega
theorem bit_inj {l k : List Int} (hl : ∀ x ∈ l, 0 ≤ x ∧ x < 4) (hk : ∀ x ∈ k, 0 ≤ x ∧ x < 4) (il : Inc l) (ik : Inc k) (h : bitQ l = bitQ k) : l = k := by
  have r1 := rep_oneW hl
  have r2 := rep_oneW hk
  rw [← h] at r2
  refine inc_ext il ik (fun x => ?_)
  constructor
  · intro hx
    have b := hl x hx
    have := (r2.mem x.toNat (by omega)).1 ((r1.mem x.toNat (by omega)).2 (by rwa [Int.toNat_of_nonneg b.1]))
    rwa [Int.toNat_of_nonneg b.1] at this
  · intro hx
    have b := hk x hx
    have := (r1.mem x.toNat (by omega)).1 ((r2.mem x.toNat (by omega)).2 (by rwa [Int.toNat_of_nonneg b.1]))
    rwa [Int.toNat_of_nonneg b.1] at this
theorem rep_one {n : Nat} (h : n < 256) : Rep (withS zeroS n) [(n : Int)] := by
  have := rep_snoc rep_nil (x := (n : Int)) (by omega) (by omega)
  rwa [Int.toNat_natCast, List.nil_append] at this

/-! All pairs. -/
theorem subs_in : ∀ {n : Nat} {l : List Int}, l ∈ subs n → Inc l ∧ ∀ x ∈ l, 0 ≤ x ∧ x < (n : Int)
  | 0, l, h => by
    have : l = [] := by simpa [subs] using h
    subst this
    exact ⟨by simp [Inc], by simp⟩
  | n + 1, l, h => by
    rw [subs, List.mem_append, List.mem_map] at h
    rcases h with h | ⟨k, hk, rfl⟩
    · obtain ⟨h1, h2⟩ := subs_in h
      exact ⟨h1, fun x hx => by have := h2 x hx; omega⟩
    · obtain ⟨h1, h2⟩ := subs_in hk
      refine ⟨?_, fun x hx => ?_⟩
      · unfold Inc at h1 ⊢
        rw [List.pairwise_append]
        refine ⟨h1, by simp, fun a ha b hb => ?_⟩
        have : b = (n : Int) := by simpa using hb
        have := h2 a ha; omega
      · rcases List.mem_append.1 hx with hx | hx
        · have := h2 x hx; omega
        · have : x = (n : Int) := by simpa using hx
          omega
section
variable {m s : Mach}
theorem allQ_in {x : Pla} (h : x ∈ allQ m s) : 0 ≤ x.1 ∧ x.1 < m.st ∧ Inc x.2 ∧ ∀ y ∈ x.2, 0 ≤ y ∧ y < 4 := by
  unfold allQ at h
  rw [List.mem_flatMap] at h
  obtain ⟨a, ha, h⟩ := h
  obtain ⟨S, hS, rfl⟩ := List.mem_map.1 h
  have h1 := (mem_rng9 _ _).1 ha
  have h2 := subs_in hS
  exact ⟨h1.1, by show a < m.st; omega, h2.1, fun y hy => by have := h2.2 y hy; omega⟩
theorem enc_at (zm : m.st ≤ 6) {x : Pla} (h : x ∈ allQ m s) : 0 ≤ encQ x ∧ encQ x < 96 ∧ (encQ x).toNat / 16 = x.1.toNat ∧ (encQ x).toNat % 16 = bitQ x.2 := by
  obtain ⟨h1, h2, h3, h4⟩ := allQ_in h
  have hb := bit_lt h4
  unfold encQ
  refine ⟨by omega, by omega, by omega, by omega⟩
theorem enc_inj (zm : m.st ≤ 6) {x y : Pla} (hx : x ∈ allQ m s) (hy : y ∈ allQ m s) (h : encQ x = encQ y) : x = y := by
  obtain ⟨h1, h2, h3, h4⟩ := allQ_in hx
  obtain ⟨k1, k2, k3, k4⟩ := allQ_in hy
  have b1 := bit_lt h4
  have b2 := bit_lt k4
  unfold encQ at h
  exact Prod.ext (by omega) (bit_inj h4 k4 h3 k3 (by omega))
theorem enc_mem (zm : m.st ≤ 6) {l : List Pla} (hl : ∀ x ∈ l, x ∈ allQ m s) {x : Pla} (hx : x ∈ allQ m s) : encQ x ∈ l.map encQ ↔ x ∈ l := by
  rw [List.mem_map]
  constructor
  · rintro ⟨y, hy, e⟩
    rw [← enc_inj zm (hl y hy) hx e]; exact hy
  · intro h; exact ⟨x, h, rfl⟩
theorem enc_bd (zm : m.st ≤ 6) {l : List Pla} (hl : ∀ x ∈ l, x ∈ allQ m s) : ∀ n ∈ l.map encQ, 0 ≤ n ∧ n < 256 := fun n hn => by
  obtain ⟨x, hx, rfl⟩ := List.mem_map.1 hn
  have := enc_at zm (hl x hx)
  omega
end
theorem rep_same {S : Nat → Nat} {l k : List Int} (h : Rep S l) (e : ∀ x, x ∈ l ↔ x ∈ k) : Rep S k :=
  ⟨h.ok, fun x hx => h.bd x ((e x).2 hx), fun n hn => (h.mem n hn).trans (e _)⟩
theorem rep_joinL {S T : Nat → Nat} {l k : List Int} (h : Rep S l) (h' : Rep T k) : Rep (joinS S T) (l ++ k) := by
  refine ⟨okS_join h.ok h'.ok, fun x hx => ?_, fun n hn => ?_⟩
  · rcases List.mem_append.1 hx with q | q
    · exact h.bd x q
    · exact h'.bd x q
  · rw [hasS_join, Bool.or_eq_true, List.mem_append, h.mem n hn, h'.mem n hn]
theorem rep_lessL {S T : Nat → Nat} {l k : List Int} (h : Rep S l) (h' : Rep T k) : Rep (lessS S T) (l.filter fun x => !hasB k x) := by
  refine ⟨okS_less h.ok, fun x hx => h.bd x (List.mem_filter.1 hx).1, fun n hn => ?_⟩
  rw [hasS_less h'.ok, Bool.and_eq_true, List.mem_filter, h.mem n hn, Bool.not_eq_true', Bool.not_eq_true']
  constructor
  · rintro ⟨h1, h2⟩
    refine ⟨h1, ?_⟩
    cases hb : hasB k (n : Int) with
    | false => rfl
    | true => rw [(h'.mem n hn).2 ((hasB_iff _ _).1 hb)] at h2; cases h2
  · rintro ⟨h1, h2⟩
    refine ⟨h1, ?_⟩
    cases hb : hasS T n with
    | false => rfl
    | true => rw [(hasB_iff _ _).2 ((h'.mem n hn).1 hb)] at h2; cases h2

/-! The pairs of states with one row. -/
def prsF (b : Nat) (ns : List Nat) : Nat → Nat := ns.foldl (fun o n => withS o (n * 16 + b)) zeroS
theorem prsF_snoc (b : Nat) (ns : List Nat) (n : Nat) : prsF b (ns ++ [n]) = withS (prsF b ns) (n * 16 + b) := by simp [prsF, List.foldl_append]
theorem ok_prsG (b : Nat) : ∀ (ns : List Nat) (o : Nat → Nat), okS o → okS (ns.foldl (fun o n => withS o (n * 16 + b)) o)
  | [], _, h => h
  | n :: r, o, h => ok_prsG b r _ (okS_with h _)
theorem ok_prsF (b : Nat) (ns : List Nat) : okS (prsF b ns) := ok_prsG b ns _ okS_zero
theorem has_prsG (b k : Nat) : ∀ (ns : List Nat) (o : Nat → Nat), hasS (ns.foldl (fun o n => withS o (n * 16 + b)) o) k = true ↔ hasS o k = true ∨ ∃ n ∈ ns, k = n * 16 + b
  | [], o => by simp
  | n :: r, o => by
    rw [List.foldl_cons, has_prsG b k r, hasS_with, Bool.or_eq_true, decide_eq_true_eq]
    simp only [List.mem_cons, exists_eq_or_imp]
    rw [or_assoc]
theorem has_prsF (b k : Nat) (ns : List Nat) : hasS (prsF b ns) k = true ↔ ∃ n ∈ ns, k = n * 16 + b := by
  unfold prsF; rw [has_prsG]; simp [hasS_zero]
def pairsS (S : Nat → Nat) (b : Nat) : Nat → Nat := prsF b (allS S)
theorem ok_pairs (S : Nat → Nat) (b : Nat) : okS (pairsS S b) := ok_prsF _ _
theorem has_pairs {S : Nat → Nat} {l : List Int} (h : Rep S l) (b k : Nat) : hasS (pairsS S b) k = true ↔ ∃ x ∈ l, (k : Int) = x * 16 + (b : Int) := by
  unfold pairsS
  rw [has_prsF]
  constructor
  · rintro ⟨n, hn, e⟩
    obtain ⟨h1, h2⟩ := (mem_allS _ _).1 hn
    exact ⟨(n : Int), (h.mem n h1).1 h2, by omega⟩
  · rintro ⟨x, hx, e⟩
    obtain ⟨b0, b1⟩ := h.bd x hx
    exact ⟨x.toNat, (mem_allS _ _).2 ⟨by omega, (h.mem x.toNat (by omega)).2 (by rwa [Int.toNat_of_nonneg b0])⟩, by omega⟩

/-! Where pairs lead to. -/
def lqP (ev : Nat) (A B : List Arr) (e n : Nat) : Nat → Nat := pairsS (leadS ev A (withS zeroS (n / 16)) e) (leadS ev B (oneW (n % 16)) e 0)
def lqS (ev : Nat) (A B : List Arr) (S : Nat → Nat) (e : Nat) : Nat → Nat := toF (lqP ev A B e) (allS S)
theorem ok_lqP (ev : Nat) (A B : List Arr) (e n : Nat) : okS (lqP ev A B e n) := ok_pairs _ _
theorem ok_lqS (ev : Nat) (A B : List Arr) (S : Nat → Nat) (e : Nat) : okS (lqS ev A B S e) := ok_toF (ok_lqP ev A B e) _
section
variable {m s : Mach}
theorem has_lqP (hm : mayB m = true) (hs : mayB s = true) (zm : m.st ≤ 6) (zs : s.st ≤ 4) (he : m.ev = s.ev) {e : Int} (h0 : 0 ≤ e) (h1 : e < m.ev) {y : Pla} (hy : y ∈ allQ m s) (k : Nat) : hasS (lqP m.ev.toNat m.arrows s.arrows e.toNat (encQ y).toNat) k = true ↔ ∃ x ∈ evQ m s e y, (k : Int) = encQ x := by
  obtain ⟨a1, a2, a3, a4⟩ := enc_at zm hy
  obtain ⟨y1, y2, y3, y4⟩ := allQ_in hy
  unfold lqP
  rw [a3, a4]
  have r1 : Rep (leadS m.ev.toNat m.arrows (withS zeroS y.1.toNat) e.toNat) (stepL m.arrows [y.1] e) := by
    have := rep_one (n := y.1.toNat) (by omega)
    rw [Int.toNat_of_nonneg y1] at this
    exact rep_lead (st := m.st) (ev := m.ev) this (may_arrs hm) (by omega) h0 h1
  have r2 : Rep (leadS m.ev.toNat s.arrows (oneW (bitQ y.2)) e.toNat) (stepL s.arrows y.2 e) := by
    rw [he]
    exact rep_lead (st := s.st) (ev := s.ev) (rep_oneW y4) (may_arrs hs) (by omega) h0 (by omega)
  rw [first_bit r2, has_pairs r1]
  constructor
  · rintro ⟨t, ht, e1⟩
    obtain ⟨a, g1, g2, g3, rfl⟩ := (mem_stepL _ _ _ _).1 ht
    have g3 : a.f = y.1 := by simpa using g3
    refine ⟨plTo s y a, mem_evQ.2 ⟨a, g1, g3, g2, rfl⟩, ?_⟩
    rw [e1]; unfold encQ plTo; rw [g2]
  · rintro ⟨x, hx, e1⟩
    obtain ⟨a, g1, g2, g3, rfl⟩ := mem_evQ.1 hx
    refine ⟨a.t, (mem_stepL _ _ _ _).2 ⟨a, g1, g3, by rw [g2]; simp, rfl⟩, ?_⟩
    rw [e1]; unfold encQ plTo; rw [g3]
theorem evQ_in (hm : mayB m = true) (hs : mayB s = true) (zm : m.st ≤ 6) (zs : s.st ≤ 4) {e : Int} {y x : Pla} (h : x ∈ evQ m s e y) : x ∈ allQ m s := by
  obtain ⟨a, g1, g2, g3, rfl⟩ := mem_evQ.1 h
  exact plTo_in hm hs zm zs g1
/-- Where a set of pairs leads to at an event. -/
theorem rep_lq (hm : mayB m = true) (hs : mayB s = true) (zm : m.st ≤ 6) (zs : s.st ≤ 4) (he : m.ev = s.ev) {e : Int} (h0 : 0 ≤ e) (h1 : e < m.ev) {S : Nat → Nat} {l : List Pla} (h : Rep S (l.map encQ)) (hl : ∀ x ∈ l, x ∈ allQ m s) : Rep (lqS m.ev.toNat m.arrows s.arrows S e.toNat) ((stepQ m s l e).map encQ) := by
  have hin : ∀ x ∈ stepQ m s l e, x ∈ allQ m s := fun x hx => by
    obtain ⟨y, -, hx⟩ := (mem_stepQ m s l e x).1 hx
    exact evQ_in hm hs zm zs hx
  refine ⟨ok_lqS _ _ _ _ _, enc_bd zm hin, fun k hk => ?_⟩
  unfold lqS
  rw [has_toF, List.mem_map]
  constructor
  · rintro ⟨n, hn, hx⟩
    obtain ⟨n1, n2⟩ := (mem_allS _ _).1 hn
    obtain ⟨y, hy, e1⟩ := List.mem_map.1 ((h.mem n n1).1 n2)
    have e2 : n = (encQ y).toNat := by omega
    rw [e2] at hx
    obtain ⟨x, g1, g2⟩ := (has_lqP hm hs zm zs he h0 h1 (hl y hy) k).1 hx
    exact ⟨x, (mem_stepQ m s l e x).2 ⟨y, hy, g1⟩, g2.symm⟩
  · rintro ⟨x, hx, e1⟩
    obtain ⟨y, hy, g1⟩ := (mem_stepQ m s l e x).1 hx
    have b := enc_at zm (hl y hy)
    refine ⟨(encQ y).toNat, (mem_allS _ _).2 ⟨by omega, (h.mem _ (by omega)).2 ?_⟩, (has_lqP hm hs zm zs he h0 h1 (hl y hy) k).2 ⟨x, g1, e1.symm⟩⟩
    rw [Int.toNat_of_nonneg b.1]
    exact List.mem_map.2 ⟨y, hy, rfl⟩
/-- The first pairs. -/
theorem rep_first (hm : mayB m = true) (hs : mayB s = true) (zm : m.st ≤ 6) (zs : s.st ≤ 4) : Rep (pairsS (ofS m.starts) (ofS s.starts 0)) ((m.starts.map fun x => ((x, s.starts) : Pla)).map encQ) := by
  have r1 := rep_allL (l := m.starts) (fun x hx => by have := (may_starts hm).2 x hx; omega)
  refine ⟨ok_pairs _ _, enc_bd zm (fun x hx => by obtain ⟨y, hy, rfl⟩ := List.mem_map.1 hx; exact start_in hm hs zm zs hy), fun k hk => ?_⟩
  rw [has_pairs r1, List.map_map, List.mem_map]
  constructor
  · rintro ⟨x, hx, e⟩
    exact ⟨x, hx, e.symm⟩
  · rintro ⟨x, hx, e⟩
    exact ⟨x, hx, e.symm⟩
end

/-! What unseen events come to. -/
def nxF (ev : Nat) (A B : List Arr) (R : Nat → Nat) (us : List Nat) : Nat → Nat := toF (fun e => lqS ev A B R e) us
def unsN (ev : Nat) (seen : List Int) : List Nat := (othL ev seen).map Int.toNat
def nxS (ev : Nat) (A B : List Arr) (seen : List Int) (R : Nat → Nat) : Nat → Nat := nxF ev A B R (unsN ev seen)
def frQ (ev : Nat) (A B : List Arr) (seen : List Int) (S R : Nat → Nat) : Nat → Nat := lessS (nxS ev A B seen R) S
/-- S is found, R of it is fresh. -/
def StQ (m s : Mach) (seen : List Int) (l0 : List Pla) (S R : Nat → Nat) : Prop := ∃ F Q : List Pla, Rep S (F.map encQ) ∧ Rep R (Q.map encQ) ∧ (∀ x ∈ F, x ∈ allQ m s) ∧ (∀ x ∈ Q, x ∈ F) ∧ (∀ x ∈ l0, x ∈ F) ∧ (∀ x ∈ F, x ∈ wideQ m s seen l0) ∧ ∀ y ∈ F, ¬ y ∈ Q → ∀ x ∈ unQ m s seen y, x ∈ F
theorem ok_nxF (ev : Nat) (A B : List Arr) (R : Nat → Nat) (us : List Nat) : okS (nxF ev A B R us) := ok_toF (fun e => ok_lqS ev A B R e) us
section
variable {m s : Mach}
theorem StQ.okS {seen : List Int} {l0 : List Pla} {S R : Nat → Nat} (h : StQ m s seen l0 S R) : Proofs.YtmlkpdeidpcidaaDoor.okS S ∧ Proofs.YtmlkpdeidpcidaaDoor.okS R := by
  obtain ⟨F, Q, h1, h2, -⟩ := h
  exact ⟨h1.ok, h2.ok⟩
theorem wideQ_props (hm : mayB m = true) (hs : mayB s = true) (zm : m.st ≤ 6) (zs : s.st ≤ 4) {seen : List Int} {l : List Pla} (hn : l.Nodup) (hu : ∀ x ∈ l, x ∈ allQ m s) (P : Pla → Prop) (hP : ∀ y, P y → ∀ x ∈ unQ m s seen y, P x) (h0 : ∀ x ∈ l, P x) : (∀ x ∈ wideQ m s seen l, P x) ∧ (∀ y ∈ wideQ m s seen l, ∀ x ∈ unQ m s seen y, x ∈ wideQ m s seen l) ∧ ∀ x ∈ l, x ∈ wideQ m s seen l := by
  have hU : ∀ y ∈ allQ m s, ∀ x ∈ unQ m s seen y, x ∈ allQ m s := fun y _ x hx => by
    obtain ⟨a, h1, -, -, rfl⟩ := mem_unQ.1 hx
    exact plTo_in hm hs zm zs h1
  have hf : (allQ m s).length < 1000 := by have := allQ_len zm s; omega
  obtain ⟨k1, k2, k3, k4⟩ := cGo_start (unQ m s seen) (d := ((0, []) : Pla)) hU hn hu hf P hP h0
  exact ⟨fun x hx => (k2 x hx).2, k3, k4⟩
theorem StQ.start (hm : mayB m = true) (hs : mayB s = true) (zm : m.st ≤ 6) (zs : s.st ≤ 4) {seen : List Int} {l0 : List Pla} {S : Nat → Nat} (hn : l0.Nodup) (hu : ∀ x ∈ l0, x ∈ allQ m s) (h : Rep S (l0.map encQ)) : StQ m s seen l0 S S :=
  ⟨l0, l0, h, h, hu, fun x hx => hx, fun x hx => hx, fun x hx => (wideQ_props hm hs zm zs (seen := seen) hn hu (fun _ => True) (fun _ _ _ _ => trivial) (fun _ _ => trivial)).2.2 x hx, fun y hy hn => absurd hy hn⟩
theorem mem_next (hm : mayB m = true) {seen : List Int} {Q : List Pla} (x : Pla) : (∃ e ∈ othL m.ev.toNat seen, x ∈ stepQ m s Q e) ↔ ∃ y ∈ Q, x ∈ unQ m s seen y := by
  have hz := mayB_size hm
  unfold sizeOk at hz
  constructor
  · rintro ⟨e, he, hx⟩
    obtain ⟨y, hy, hx⟩ := (mem_stepQ m s Q e x).1 hx
    obtain ⟨a, g1, g2, g3, rfl⟩ := mem_evQ.1 hx
    exact ⟨y, hy, mem_unQ.2 ⟨a, g1, g2, by rw [g3]; exact ((mem_oth _ _ _).1 he).2, rfl⟩⟩
  · rintro ⟨y, hy, hx⟩
    obtain ⟨a, g1, g2, g3, rfl⟩ := mem_unQ.1 hx
    have ha := may_arrs hm a g1
    unfold arrIn at ha
    exact ⟨a.e, (mem_oth _ _ _).2 ⟨by omega, g3⟩, (mem_stepQ m s Q a.e _).2 ⟨y, hy, mem_evQ.2 ⟨a, g1, g2, rfl, rfl⟩⟩⟩
theorem rep_next (hm : mayB m = true) (hs : mayB s = true) (zm : m.st ≤ 6) (zs : s.st ≤ 4) (he : m.ev = s.ev) {seen : List Int} {R : Nat → Nat} {Q : List Pla} (h : Rep R (Q.map encQ)) (hl : ∀ x ∈ Q, x ∈ allQ m s) : Rep (nxS m.ev.toNat m.arrows s.arrows seen R) ((Q.flatMap (unQ m s seen)).map encQ) := by
  have hz := mayB_size hm
  unfold sizeOk at hz
  have hin : ∀ x ∈ Q.flatMap (unQ m s seen), x ∈ allQ m s := fun x hx => by
    obtain ⟨y, -, hx⟩ := List.mem_flatMap.1 hx
    obtain ⟨a, g1, -, -, rfl⟩ := mem_unQ.1 hx
    exact plTo_in hm hs zm zs g1
  refine ⟨ok_nxF _ _ _ _ _, enc_bd zm hin, fun k hk => ?_⟩
  unfold nxS nxF
  rw [has_toF, List.mem_map]
  constructor
  · rintro ⟨n, hn, hx⟩
    obtain ⟨e, h2, rfl⟩ := List.mem_map.1 hn
    have b := ((mem_oth _ _ _).1 h2).1
    have r := rep_lq hm hs zm zs he b.1 (by omega) h hl
    obtain ⟨x, g1, g2⟩ := List.mem_map.1 ((r.mem k hk).1 hx)
    obtain ⟨y, hy, hx⟩ := (mem_next hm x).1 ⟨e, h2, g1⟩
    exact ⟨x, List.mem_flatMap.2 ⟨y, hy, hx⟩, g2⟩
  · rintro ⟨x, hx, e1⟩
    obtain ⟨y, hy, hx⟩ := List.mem_flatMap.1 hx
    obtain ⟨e, h2, g1⟩ := (mem_next hm x).2 ⟨y, hy, hx⟩
    have b := ((mem_oth _ _ _).1 h2).1
    have r := rep_lq hm hs zm zs he b.1 (by omega) h hl
    exact ⟨e.toNat, List.mem_map.2 ⟨e, h2, rfl⟩, (r.mem k hk).2 (List.mem_map.2 ⟨x, g1, e1⟩)⟩
theorem StQ.next (hm : mayB m = true) (hs : mayB s = true) (zm : m.st ≤ 6) (zs : s.st ≤ 4) (he : m.ev = s.ev) {seen : List Int} {l0 : List Pla} (hn : l0.Nodup) (hu : ∀ x ∈ l0, x ∈ allQ m s) {S R : Nat → Nat} (h : StQ m s seen l0 S R) : StQ m s seen l0 (joinS S (frQ m.ev.toNat m.arrows s.arrows seen S R)) (frQ m.ev.toNat m.arrows s.arrows seen S R) := by
  obtain ⟨F, Q, h1, h2, h3, h4, h5, h6, h7⟩ := h
  have hQ : ∀ x ∈ Q, x ∈ allQ m s := fun x hx => h3 x (h4 x hx)
  have hin : ∀ x ∈ Q.flatMap (unQ m s seen), x ∈ allQ m s := fun x hx => by
    obtain ⟨y, -, hx⟩ := List.mem_flatMap.1 hx
    obtain ⟨a, g1, -, -, rfl⟩ := mem_unQ.1 hx
    exact plTo_in hm hs zm zs g1
  have r1 := rep_lessL (rep_next hm hs zm zs he h2 hQ (seen := seen)) h1
  have hN : ∀ x, x ∈ (Q.flatMap (unQ m s seen)).filter (fun x => decide (¬ x ∈ F)) ↔ (∃ y ∈ Q, x ∈ unQ m s seen y) ∧ ¬ x ∈ F := fun x => by
    rw [List.mem_filter, List.mem_flatMap, decide_eq_true_eq]
  have r2 : Rep (frQ m.ev.toNat m.arrows s.arrows seen S R) (((Q.flatMap (unQ m s seen)).filter (fun x => decide (¬ x ∈ F))).map encQ) := by
    refine rep_same r1 (fun n => ?_)
    rw [List.mem_filter, List.mem_map, List.mem_map, Bool.not_eq_true']
    constructor
    · rintro ⟨⟨x, hx, rfl⟩, hb⟩
      refine ⟨x, List.mem_filter.2 ⟨hx, decide_eq_true (fun hF => ?_)⟩, rfl⟩
      rw [(hasB_iff _ _).2 (List.mem_map.2 ⟨x, hF, rfl⟩)] at hb; cases hb
    · rintro ⟨x, hx, rfl⟩
      obtain ⟨g1, g2⟩ := List.mem_filter.1 hx
      refine ⟨⟨x, g1, rfl⟩, ?_⟩
      cases hb : hasB (F.map encQ) (encQ x) with
      | false => rfl
      | true => exact absurd ((enc_mem zm h3 (hin x g1)).1 ((hasB_iff _ _).1 hb)) (of_decide_eq_true g2)
  obtain ⟨w1, w2, w3⟩ := wideQ_props hm hs zm zs (seen := seen) hn hu (fun _ => True) (fun _ _ _ _ => trivial) (fun _ _ => trivial)
  refine ⟨F ++ (Q.flatMap (unQ m s seen)).filter (fun x => decide (¬ x ∈ F)), (Q.flatMap (unQ m s seen)).filter (fun x => decide (¬ x ∈ F)), ?_, r2, fun x hx => ?_, fun x hx => List.mem_append_right _ hx, fun x hx => List.mem_append_left _ (h5 x hx), fun x hx => ?_, fun y hy hn x hx => ?_⟩
  · rw [List.map_append]; exact rep_joinL h1 r2
  · rcases List.mem_append.1 hx with q | q
    · exact h3 x q
    · exact hin x (List.mem_filter.1 q).1
  · rcases List.mem_append.1 hx with q | q
    · exact h6 x q
    · obtain ⟨⟨y, hy, hx⟩, -⟩ := (hN x).1 q
      exact w2 y (h6 y (h4 y hy)) x hx
  · rcases List.mem_append.1 hy with q | q
    · by_cases hyQ : y ∈ Q
      · by_cases hxF : x ∈ F
        · exact List.mem_append_left _ hxF
        · exact List.mem_append_right _ ((hN x).2 ⟨⟨y, hyQ, hx⟩, hxF⟩)
      · exact List.mem_append_left _ (h7 y q hyQ x hx)
    · exact absurd q hn
theorem StQ.done (hm : mayB m = true) (hs : mayB s = true) (zm : m.st ≤ 6) (zs : s.st ≤ 4) {seen : List Int} {l0 : List Pla} (hn : l0.Nodup) (hu : ∀ x ∈ l0, x ∈ allQ m s) {S R : Nat → Nat} (h : StQ m s seen l0 S R) (he : emptyB R = true) : Rep S ((wideQ m s seen l0).map encQ) := by
  obtain ⟨F, Q, h1, h2, h3, h4, h5, h6, h7⟩ := h
  have hQ : Q = [] := by
    have := empty_yes h2 he
    simpa using this
  subst hQ
  obtain ⟨w1, -, -⟩ := wideQ_props hm hs zm zs (seen := seen) hn hu (fun x => x ∈ F) (fun y hy x hx => h7 y hy (by simp) x hx) h5
  refine rep_same h1 (fun n => ?_)
  rw [List.mem_map, List.mem_map]
  exact ⟨fun ⟨x, hx, e⟩ => ⟨x, h6 x hx, e⟩, fun ⟨x, hx, e⟩ => ⟨x, w1 x hx, e⟩⟩
theorem StQ.msr {seen : List Int} {l0 : List Pla} {S R : Nat → Nat} (h : StQ m s seen l0 S R) (ev : Nat) (A B : List Arr) (he : emptyB R = false) : Proofs.YtmlkpdeidpcidaaDoor.msr (joinS S (frQ ev A B seen S R)) (frQ ev A B seen S R) < Proofs.YtmlkpdeidpcidaaDoor.msr S R := by
  have okF := h.okS.1
  have o1 : Proofs.YtmlkpdeidpcidaaDoor.okS (frQ ev A B seen S R) := okS_less (ok_nxF _ _ _ _ _)
  have hf := allS_filter (F := S) (G := joinS S (frQ ev A B seen S R)) (fun n _ hx => by rw [hasS_join, hx]; rfl)
  have hl2 := allS_len (joinS S (frQ ev A B seen S R))
  unfold Proofs.YtmlkpdeidpcidaaDoor.msr
  rw [he]
  cases hE : emptyB (frQ ev A B seen S R) with
  | true =>
    have : (allS S).length ≤ (allS (joinS S (frQ ev A B seen S R))).length := by rw [hf]; exact List.length_filter_le _ _
    simp
    omega
  | false =>
    obtain ⟨n, hn, hx⟩ := empty_not o1 hE
    have : (allS S).length < (allS (joinS S (frQ ev A B seen S R))).length := by
      rw [hf]
      apply List.length_filter_lt_length_iff_exists.2
      refine ⟨n, (mem_allS _ _).2 ⟨hn, by rw [hasS_join, hx]; simp⟩, ?_⟩
      have := hx
      unfold frQ at this
      rw [hasS_less okF, Bool.and_eq_true] at this
      have h2 : hasS S n = false := by simpa using this.2
      rw [h2]; simp
    simp
    omega
end

end Go.Proofs.YtmlkpdeidpcidaaDoor
