/-
  Plain: what a watcher knows, by the words that a plant does; who sees more knows no less. No program, no model.
  Plain: the least list of low events that tells that something high was done. No program, no model.
  Plain: whereabouts as sets of numbers, as package secret keeps them: a pair's number is 16 times its state, and the bits of its row. No program, no model.
  Plain: longest walks by rounds over all edges. No program, no model.
  Plain: all that is come to from some things, each with its number, and the edges between them; and the most that counts along a way. No program, no model.
  Plain: how long a fault may stay unfound, by the words that a machine does, and by twins. No program, no model.
  Plain: what follows from how long a fault may stay unfound. No program, no model.
-/
import Derived.Test.YtgebfkmfhpcdhaaDoorH16
import Derived.Test.YtgebfkmfhpcdhaaDoorH03
import Derived.Test.YtgebfkmfhpcdhaaDoorH13
namespace Go.Proofs.YtgebfkmfhpcdhaaDoor
open Go.RowKit
set_option linter.unusedVariables false

theorem step_of1 {ars : List Arr} {ss : List Int} {e x : Int} (h : x ∈ stepL ars ss e) : ∃ y ∈ ss, x ∈ stepL ars [y] e := by
  obtain ⟨a, h1, h2, h3, h4⟩ := (mem_stepL _ _ _ _).1 h
  exact ⟨a.f, h3, (mem_stepL _ _ _ _).2 ⟨a, h1, h2, by simp, h4⟩⟩
theorem after_one {ars : List Arr} : ∀ (u : List Int) {ss : List Int} {x : Int}, x ∈ afterL ars ss u → ∃ y ∈ ss, x ∈ afterL ars [y] u
  | [], ss, x, h => ⟨x, h, by simp [afterL]⟩
  | e :: u, ss, x, h => by
    obtain ⟨y, hy, h1⟩ := after_one u (ss := stepL ars ss e) h
    obtain ⟨z, hz, h2⟩ := step_of1 hy
    exact ⟨z, hz, after_mono u (ss := [y]) (ss' := stepL ars [z] e) (fun q hq => by rw [List.mem_singleton.1 hq]; exact h2) x h1⟩
theorem seen_un {ars : List Arr} {seen u : List Int} (h : unW ars seen u) : seenL seen u = [] := by
  unfold seenL
  rw [List.filter_eq_nil_iff]
  intro e he
  rw [(h e he).1]; simp
theorem seen_app (seen a b : List Int) : seenL seen (a ++ b) = seenL seen a ++ seenL seen b := by unfold seenL; rw [List.filter_append]
section
variable {p : Plant}
theorem fold_word (hm : mayB p.m = true) : ∀ (u : List Int) {S : List Int} {x : Int}, (∀ e ∈ u, e ∈ p.seen) → x ∈ u.foldl (seeL p) S → ∃ t, seenL p.seen t = u ∧ x ∈ afterL p.m.arrows S t
  | [], S, x, _, h => ⟨[], rfl, h⟩
  | e :: u, S, x, hu, h => by
    obtain ⟨t, h1, h2⟩ := fold_word hm u (S := seeL p S e) (fun z hz => hu z (by simp [hz])) h
    obtain ⟨y, hy, h3⟩ := after_one t h2
    obtain ⟨c, hc, h4⟩ := wide_word (may_to hm) hy
    refine ⟨e :: (c ++ t), ?_, ?_⟩
    · have he : hasB p.seen e = true := (hasB_iff _ _).2 (hu e (by simp))
      rw [show e :: (c ++ t) = [e] ++ (c ++ t) from rfl, seen_app, seen_app, seen_un hc, h1]
      unfold seenL
      rw [List.filter_cons_of_pos (by rw [he]; rfl)]; rfl
    · show x ∈ afterL p.m.arrows (stepL p.m.arrows S e) (c ++ t)
      rw [afterL_app]
      exact after_mono t (ss := [y]) (fun q hq => by rw [List.mem_singleton.1 hq]; exact h4) x h3
theorem word_fold (hm : mayB p.m = true) : ∀ (t : List Int) {S S' : List Int} {x : Int}, (∀ y ∈ S, y ∈ S') → ClS p S' → x ∈ afterL p.m.arrows S t → x ∈ (seenL p.seen t).foldl (seeL p) S'
  | [], S, S', x, h, _, hx => h x hx
  | e :: t, S, S', x, h, hc, hx => by
    have hx : x ∈ afterL p.m.arrows (stepL p.m.arrows S e) t := hx
    cases he : hasB p.seen e with
    | true =>
      have e1 : seenL p.seen (e :: t) = e :: seenL p.seen t := by unfold seenL; rw [List.filter_cons_of_pos (by rw [he]; rfl)]
      rw [e1, List.foldl_cons]
      exact word_fold hm t (S' := seeL p S' e) (fun y hy => wide_sub (may_to hm) y (step_mono h y hy)) (cl_wide hm _) hx
    | false =>
      have e1 : seenL p.seen (e :: t) = seenL p.seen t := by unfold seenL; rw [List.filter_cons_of_neg (by rw [he]; simp)]
      rw [e1]
      refine word_fold hm t (fun y hy => ?_) hc hx
      obtain ⟨a, h1, h2, h3, h4⟩ := (mem_stepL _ _ _ _).1 hy
      rw [← h4]
      exact hc a h1 (by rw [h2]; exact he) (h _ h3)
/-- What is known is where a word leads of which just that is seen. -/
theorem mem_from (hm : mayB p.m = true) {ss u : List Int} (hu : ∀ e ∈ u, e ∈ p.seen) (x : Int) : x ∈ fromL p ss u ↔ ∃ t, seenL p.seen t = u ∧ x ∈ afterL p.m.arrows ss t := by
  constructor
  · intro h
    obtain ⟨t, h1, h2⟩ := fold_word hm u hu h
    obtain ⟨y, hy, h3⟩ := after_one t h2
    obtain ⟨c, hc, h4⟩ := wide_word (may_to hm) hy
    refine ⟨c ++ t, by rw [seen_app, seen_un hc, h1]; rfl, ?_⟩
    rw [afterL_app]
    exact after_mono t (ss := [y]) (fun q hq => by rw [List.mem_singleton.1 hq]; exact h4) x h3
  · rintro ⟨t, rfl, h⟩
    exact word_fold hm t (fun y hy => wide_sub (may_to hm) y hy) (cl_wide hm _) h
theorem seen_mem (seen t : List Int) : ∀ e ∈ seenL seen t, e ∈ seen := fun e he => by
  unfold seenL at he
  have := (List.mem_filter.1 he).2
  exact (hasB_iff _ _).1 (by simpa using this)
theorem seen_seen {a b : List Int} (h : ∀ e ∈ a, e ∈ b) (t : List Int) : seenL a (seenL b t) = seenL a t := by
  unfold seenL
  rw [List.filter_filter]
  refine List.filter_congr (fun e _ => ?_)
  cases he : hasB a e with
  | false => simp
  | true =>
    have : hasB b e = true := (hasB_iff _ _).2 (h e ((hasB_iff _ _).1 he))
    rw [this]; rfl
variable {q : Plant}
end
end Go.Proofs.YtgebfkmfhpcdhaaDoor
namespace Go.Proofs.YtgebfkmfhpcdhaaDoor
open Go.RowKit
set_option linter.unusedVariables false
set_option linter.unusedSectionVars false

def lowA (m : Mach) (high : List Int) : List Arr := m.arrows.filter fun a => !hasB high a.e

end Go.Proofs.YtgebfkmfhpcdhaaDoor
namespace Go.Proofs.YtgebfkmfhpcdhaaDoor
open Go.RowKit
set_option linter.unusedVariables false
set_option linter.unusedSectionVars false

/-! Sets of states below 4, by their first word. -/
theorem rep_allL {l : List Int} (h : ∀ x ∈ l, 0 ≤ x ∧ x < 256) : Rep (ofS l) l := by
  have := rep_of h l.length
  rwa [List.take_of_length_le (Nat.le_refl _)] at this
/-! All pairs. -/
/-! The pairs of states with one row. -/
/-! Where pairs lead to. -/

/-! What unseen events come to. -/

end Go.Proofs.YtgebfkmfhpcdhaaDoor
namespace Go.Proofs.YtgebfkmfhpcdhaaDoor
open Go.RowKit
set_option linter.unusedVariables false

/-- An edge: from, to, whether it counts. -/
abbrev Edg := Nat × Nat × Bool
def wgt (p : List Edg) : Nat := (p.map fun e => e.2.2.toNat).sum
theorem wgt_app (p q : List Edg) : wgt (p ++ q) = wgt p + wgt q := by unfold wgt; rw [List.map_append, List.sum_append]
/-- A walk along edges. -/
def Wk (E : List Edg) : Nat → List Edg → Nat → Prop
  | a, [], b => a = b
  | a, e :: r, b => e ∈ E ∧ e.1 = a ∧ Wk E e.2.1 r b
theorem wk_app {E : List Edg} : ∀ {a c : Nat} (p : List Edg) {q : List Edg}, Wk E a (p ++ q) c ↔ ∃ b, Wk E a p b ∧ Wk E b q c
  | a, c, [], q => ⟨fun h => ⟨a, rfl, h⟩, fun ⟨b, h1, h2⟩ => by have : a = b := h1; rw [this]; exact h2⟩
  | a, c, e :: r, q => by
    constructor
    · rintro ⟨h1, h2, h3⟩
      obtain ⟨b, h4, h5⟩ := (wk_app r).1 h3
      exact ⟨b, ⟨h1, h2, h4⟩, h5⟩
    · rintro ⟨b, ⟨h1, h2, h4⟩, h5⟩
      exact ⟨h1, h2, (wk_app r).2 ⟨b, h4, h5⟩⟩
theorem wk_snoc {E : List Edg} {a c : Nat} {p : List Edg} {e : Edg} : Wk E a (p ++ [e]) c ↔ Wk E a p e.1 ∧ e ∈ E ∧ e.2.1 = c := by
  rw [wk_app]
  constructor
  · rintro ⟨b, h1, h2, h3, h4⟩
    rw [← h3] at h1
    exact ⟨h1, h2, h4⟩
  · rintro ⟨h1, h2, h3⟩
    exact ⟨e.1, h1, h2, rfl, h3⟩
/-- What a walk meets, one by one. -/
theorem wk_cut {E : List Edg} {a b : Nat} {p : List Edg} (h : Wk E a p b) : ∀ i, i ≤ p.length → ∃ v, Wk E a (p.take i) v ∧ Wk E v (p.drop i) b ∧ (a :: p.map (·.2.1))[i]? = some v := by
  intro i hi
  have h1 := h
  rw [← List.take_append_drop i p] at h1
  obtain ⟨v, h2, h3⟩ := (wk_app _).1 h1
  refine ⟨v, h2, h3, ?_⟩
  have key : ∀ (q : List Edg) (x y : Nat), Wk E x q y → (x :: q.map (·.2.1))[q.length]? = some y := by
    intro q
    induction q with
    | nil => intro x y hq; have : x = y := hq; simp [this]
    | cons e r ih =>
      intro x y hq
      have := ih e.2.1 y hq.2.2
      simpa using this
  have h4 := key _ _ _ h2
  rw [List.length_take, Nat.min_eq_left hi] at h4
  rw [← h4]
  cases i with
  | zero => rfl
  | succ j =>
    simp only [List.getElem?_cons_succ, List.getElem?_map]
    rw [List.getElem?_take_of_lt (by omega)]
theorem dup_nat {N : Nat} {l : List Nat} (h : ∀ x ∈ l, x < N) (hl : N < l.length) : ∃ i j, i < j ∧ j < l.length ∧ l[i]? = l[j]? := by
  apply Classical.byContradiction
  intro hc
  have hnd : l.Nodup := by
    rw [List.nodup_iff_pairwise_ne, List.pairwise_iff_getElem]
    intro i j hi hj hij e
    exact hc ⟨i, j, hij, hj, by rw [List.getElem?_eq_getElem hi, List.getElem?_eq_getElem hj, e]⟩
  have := nodup_sub (m := List.range N) hnd (fun x hx => List.mem_range.2 (h x hx))
  rw [List.length_range] at this
  omega
/-- Without circles that count a walk can be made short. -/
theorem wk_short {E : List Edg} {N : Nat} (hE : ∀ e ∈ E, e.2.1 < N) (hno : ∀ v p, Wk E v p v → wgt p = 0) : ∀ (n : Nat) {a b : Nat} (p : List Edg), a < N → p.length ≤ n → Wk E a p b → ∃ p', Wk E a p' b ∧ p'.length < N ∧ wgt p ≤ wgt p' := by
  intro n
  induction n with
  | zero =>
    intro a b p ha hp h
    exact ⟨p, h, by omega, Nat.le_refl _⟩
  | succ n ih =>
    intro a b p ha hp h
    by_cases hlt : p.length < N
    · exact ⟨p, h, hlt, Nat.le_refl _⟩
    · have hv : ∀ x ∈ (a :: p.map (·.2.1)), x < N := by
        have key : ∀ (q : List Edg) (x y : Nat), Wk E x q y → ∀ z ∈ q.map (·.2.1), z < N := by
          intro q
          induction q with
          | nil => intro x y _ z hz; simp at hz
          | cons e r ih2 =>
            intro x y hq z hz
            rw [List.map_cons, List.mem_cons] at hz
            rcases hz with rfl | hz
            · exact hE e hq.1
            · exact ih2 _ _ hq.2.2 z hz
        intro x hx
        rcases List.mem_cons.1 hx with rfl | hx
        · exact ha
        · exact key p a b h x hx
      obtain ⟨i, j, hij, hj, he⟩ := dup_nat hv (by simp; omega)
      have hj' : j ≤ p.length := by simp at hj; omega
      obtain ⟨v, h1, h2, h3⟩ := wk_cut h i (by omega)
      obtain ⟨u, h4, h5, h6⟩ := wk_cut h j hj'
      have huv : u = v := by rw [h3, h6] at he; exact (Option.some.inj he).symm
      subst huv
      have hmid : Wk E u ((p.take j).drop i) u := by
        have h7 := h4
        rw [← List.take_append_drop i (p.take j)] at h7
        obtain ⟨x, h8, h9⟩ := (wk_app _).1 h7
        rw [List.take_take, Nat.min_eq_left (by omega)] at h8
        have hx : x = u := by
          have det : ∀ (q : List Edg) (s x y : Nat), Wk E s q x → Wk E s q y → x = y := by
            intro q
            induction q with
            | nil => intro s x y e1 e2; have : s = x := e1; have : s = y := e2; omega
            | cons e r ih3 => intro s x y e1 e2; exact ih3 _ x y e1.2.2 e2.2.2
          exact det _ _ _ _ h8 h1
        rw [hx] at h9
        exact h9
      have hz := hno u _ hmid
      have hw : wgt p = wgt (p.take i ++ p.drop j) := by
        have e1 : p = p.take i ++ ((p.take j).drop i ++ p.drop j) := by
          have e2 : (p.take j).take i = p.take i := by rw [List.take_take, Nat.min_eq_left (by omega)]
          have e3 := List.take_append_drop i (p.take j)
          rw [e2] at e3
          rw [← List.append_assoc, e3, List.take_append_drop]
        have e4 := congrArg wgt e1
        rw [wgt_app, wgt_app, hz, Nat.zero_add] at e4
        rw [wgt_app]; exact e4
      obtain ⟨p', g1, g2, g3⟩ := ih (a := a) (b := b) (p.take i ++ p.drop j) ha (by rw [List.length_append, List.length_take, List.length_drop]; omega) ((wk_app _).2 ⟨u, h1, h5⟩)
      exact ⟨p', g1, g2, by rw [hw]; exact g3⟩

/-! Rounds. -/
def at0 (L : List Nat) (k : Nat) : Nat := L[k]?.getD 0
/-- One edge: it is told whether something grows. -/
def rlx (s : List Nat × Bool) (e : Edg) : List Nat × Bool := if at0 s.1 e.2.1 < at0 s.1 e.1 + e.2.2.toNat then (s.1.set e.2.1 (at0 s.1 e.1 + e.2.2.toNat), true) else s
def rnd (E : List Edg) (s : List Nat × Bool) : List Nat × Bool := E.foldl rlx s
/-- So many rounds, and the last one's word. -/
def rnds (E : List Edg) : Nat → List Nat × Bool → List Nat × Bool
  | 0, s => s
  | n + 1, s => rnd E ((rnds E n s).1, false)
theorem at0_set (L : List Nat) (i k v : Nat) : at0 (L.set i v) k = if i = k ∧ i < L.length then v else at0 L k := by
  unfold at0
  rw [List.getElem?_set]
  by_cases h : i = k
  · subst h
    by_cases h2 : i < L.length
    · rw [if_pos rfl, if_pos h2, if_pos ⟨rfl, h2⟩]; rfl
    · rw [if_pos rfl, if_neg h2, if_neg (fun q => h2 q.2), List.getElem?_eq_none (by omega)]
  · rw [if_neg h, if_neg (fun q => h q.1)]
theorem rlx_len (s : List Nat × Bool) (e : Edg) : (rlx s e).1.length = s.1.length := by unfold rlx; split <;> simp
theorem rlx_le (s : List Nat × Bool) (e : Edg) (k : Nat) : at0 s.1 k ≤ at0 (rlx s e).1 k := by
  unfold rlx
  split
  · rename_i h
    rw [at0_set]
    split
    · rename_i h2
      rw [← h2.1]; omega
    · exact Nat.le_refl _
  · exact Nat.le_refl _
theorem rlx_edge (s : List Nat × Bool) (e : Edg) (h : e.2.1 < s.1.length) : at0 s.1 e.1 + e.2.2.toNat ≤ at0 (rlx s e).1 e.2.1 := by
  unfold rlx
  split
  · rw [at0_set, if_pos ⟨rfl, h⟩]; exact Nat.le_refl _
  · rename_i h2; exact Nat.le_of_not_lt h2
theorem rlx_flag {s : List Nat × Bool} {e : Edg} (h : s.2 = true) : (rlx s e).2 = true := by unfold rlx; split <;> simp [h]
theorem rnd_len : ∀ (E : List Edg) (s : List Nat × Bool), (rnd E s).1.length = s.1.length
  | [], s => rfl
  | e :: r, s => by
    have := rnd_len r (rlx s e)
    unfold rnd at this ⊢
    rw [List.foldl_cons, this, rlx_len]
theorem rnd_le : ∀ (E : List Edg) (s : List Nat × Bool) (k : Nat), at0 s.1 k ≤ at0 (rnd E s).1 k
  | [], s, k => Nat.le_refl _
  | e :: r, s, k => by
    have := rnd_le r (rlx s e) k
    unfold rnd at this ⊢
    rw [List.foldl_cons]
    exact Nat.le_trans (rlx_le s e k) this
theorem rnd_edge : ∀ (E : List Edg) (s : List Nat × Bool), (∀ e ∈ E, e.2.1 < s.1.length) → ∀ e ∈ E, at0 s.1 e.1 + e.2.2.toNat ≤ at0 (rnd E s).1 e.2.1
  | [], s, _, e, h => by simp at h
  | f :: r, s, hE, e, h => by
    rcases List.mem_cons.1 h with rfl | h
    · have h1 := rlx_edge s e (hE e (by simp))
      have h2 := rnd_le r (rlx s e) e.2.1
      unfold rnd at h2 ⊢
      rw [List.foldl_cons]; omega
    · have h1 := rnd_edge r (rlx s f) (fun x hx => by rw [rlx_len]; exact hE x (by simp [hx])) e h
      have h2 := rlx_le s f e.1
      unfold rnd at h1 ⊢
      rw [List.foldl_cons]; omega
theorem rnd_flag : ∀ (E : List Edg) (s : List Nat × Bool), s.2 = true → (rnd E s).2 = true
  | [], s, h => h
  | e :: r, s, h => by
    have := rnd_flag r (rlx s e) (rlx_flag h)
    unfold rnd at this ⊢
    rw [List.foldl_cons]; exact this
/-- Nothing grows: nothing has turned, and all is as it should be. -/
theorem rnd_still : ∀ (E : List Edg) (s : List Nat × Bool), (rnd E s).2 = false → rnd E s = s ∧ ∀ e ∈ E, at0 s.1 e.1 + e.2.2.toNat ≤ at0 s.1 e.2.1
  | [], s, h => ⟨rfl, fun e he => by simp at he⟩
  | e :: r, s, h => by
    have h0 : rnd (e :: r) s = rnd r (rlx s e) := rfl
    rw [h0] at h
    by_cases hc : at0 s.1 e.2.1 < at0 s.1 e.1 + e.2.2.toNat
    · have h1 : (rlx s e).2 = true := by unfold rlx; rw [if_pos hc]
      rw [rnd_flag r _ h1] at h; cases h
    · have h1 : rlx s e = s := by unfold rlx; rw [if_neg hc]
      rw [h1] at h h0
      obtain ⟨h2, h3⟩ := rnd_still r s h
      refine ⟨by rw [h0, h2], fun f hf => ?_⟩
      rcases List.mem_cons.1 hf with rfl | hf
      · exact Nat.le_of_not_lt hc
      · exact h3 f hf
/-- Something grows: at an edge, in between. -/
theorem rnd_grow : ∀ (E : List Edg) (s : List Nat × Bool), s.2 = false → (rnd E s).2 = true → ∃ r1 e r2, E = r1 ++ e :: r2 ∧ at0 (rnd r1 s).1 e.2.1 < at0 (rnd r1 s).1 e.1 + e.2.2.toNat
  | [], s, h, h' => by rw [show rnd [] s = s from rfl, h] at h'; cases h'
  | e :: r, s, h, h' => by
    by_cases hc : at0 s.1 e.2.1 < at0 s.1 e.1 + e.2.2.toNat
    · exact ⟨[], e, r, rfl, hc⟩
    · have h1 : rlx s e = s := by unfold rlx; rw [if_neg hc]
      have h0 : rnd (e :: r) s = rnd r s := by show rnd r (rlx s e) = _; rw [h1]
      rw [h0] at h'
      obtain ⟨r1, f, r2, e1, e2⟩ := rnd_grow r s h h'
      refine ⟨e :: r1, f, r2, by rw [e1]; rfl, ?_⟩
      have h3 : rnd (e :: r1) s = rnd r1 s := by show rnd r1 (rlx s e) = _; rw [h1]
      rw [h3]; exact e2
/-- What is known is what some walk weighs. -/
def Gotten (E : List Edg) (N : Nat) (L : List Nat) : Prop := ∀ k, k < N → ∃ a p, a < N ∧ Wk E a p k ∧ at0 L k = wgt p
theorem rnd_got {E : List Edg} {N : Nat} (hE : ∀ e ∈ E, e.1 < N ∧ e.2.1 < N) : ∀ (R : List Edg) (s : List Nat × Bool), (∀ e ∈ R, e ∈ E) → Gotten E N s.1 → Gotten E N (rnd R s).1
  | [], s, _, h => h
  | e :: r, s, hR, h => by
    show Gotten E N (rnd r (rlx s e)).1
    refine rnd_got hE r (rlx s e) (fun x hx => hR x (by simp [hx])) ?_
    unfold rlx
    split
    · intro k hk
      show ∃ a p, a < N ∧ Wk E a p k ∧ at0 (s.1.set e.2.1 (at0 s.1 e.1 + e.2.2.toNat)) k = wgt p
      rw [at0_set]
      split
      · rename_i hq
        obtain ⟨a, p, h1, h2, h3⟩ := h e.1 (hE e (hR e (by simp))).1
        refine ⟨a, p ++ [e], h1, wk_snoc.2 ⟨h2, hR e (by simp), hq.1⟩, ?_⟩
        rw [wgt_app, h3]
        simp [wgt]
      · exact h k hk
    · exact h
theorem rnds_len (E : List Edg) (s : List Nat × Bool) : ∀ n, (rnds E n s).1.length = s.1.length
  | 0 => rfl
  | n + 1 => by rw [rnds, rnd_len]; exact rnds_len E s n
theorem rnds_got {E : List Edg} {N : Nat} (hE : ∀ e ∈ E, e.1 < N ∧ e.2.1 < N) {s : List Nat × Bool} (h : Gotten E N s.1) : ∀ n, Gotten E N (rnds E n s).1
  | 0 => h
  | n + 1 => rnd_got hE E _ (fun _ h => h) (rnds_got hE h n)
/-- So many rounds know all walks that are no longer. -/
theorem rnds_all {E : List Edg} {s : List Nat × Bool} (hE : ∀ e ∈ E, e.2.1 < s.1.length) : ∀ (n : Nat) (p : List Edg) {a b : Nat}, p.length ≤ n → Wk E a p b → wgt p ≤ at0 (rnds E n s).1 b
  | 0, p, a, b, hp, h => by
    have : p = [] := List.eq_nil_of_length_eq_zero (by omega)
    subst this
    simp [wgt]
  | n + 1, p, a, b, hp, h => by
    rcases List.eq_nil_or_concat p with rfl | ⟨q, e, rfl⟩
    · simp [wgt]
    · rw [List.concat_eq_append] at hp h ⊢
      obtain ⟨h1, h2, h3⟩ := wk_snoc.1 h
      have h4 := rnds_all hE n q (by rw [List.length_append] at hp; simp at hp; omega) h1
      have h5 := rnd_edge E ((rnds E n s).1, false) (fun x hx => by rw [rnds_len]; exact hE x hx) e h2
      rw [h3] at h5
      rw [wgt_app]
      have h6 : wgt [e] = e.2.2.toNat := by simp [wgt]
      rw [h6]
      show _ ≤ at0 (rnd E ((rnds E n s).1, false)).1 b
      dsimp only at h5
      omega
theorem at0_zero (N k : Nat) : at0 (List.replicate N 0) k = 0 := by
  unfold at0
  rw [List.getElem?_replicate]
  split <;> rfl
/-- What still grows goes round. -/
theorem rnds_round {E : List Edg} {N : Nat} (hE : ∀ e ∈ E, e.1 < N ∧ e.2.1 < N) {n : Nat} (hn : N ≤ n) (h : (rnds E (n + 1) (List.replicate N 0, false)).2 = true) : ∃ v p, Wk E v p v ∧ 0 < wgt p := by
  apply Classical.byContradiction
  intro hc
  have hno : ∀ v p, Wk E v p v → wgt p = 0 := fun v p hp => by
    rcases Nat.eq_zero_or_pos (wgt p) with q | q
    · exact q
    · exact absurd ⟨v, p, hp, q⟩ hc
  have hG : Gotten E N (rnds E n (List.replicate N 0, false)).1 := rnds_got hE (fun k hk => ⟨k, [], hk, rfl, by rw [at0_zero]; rfl⟩) n
  obtain ⟨r1, e, r2, e1, e2⟩ := rnd_grow E ((rnds E n (List.replicate N 0, false)).1, false) rfl h
  have he : e ∈ E := by rw [e1]; simp
  have hG2 := rnd_got hE r1 ((rnds E n (List.replicate N 0, false)).1, false) (fun x hx => by rw [e1]; simp [hx]) hG
  obtain ⟨a, p, h1, h2, h3⟩ := hG2 e.1 (hE e he).1
  obtain ⟨p', g1, g2, g3⟩ := wk_short (fun x hx => (hE x hx).2) hno _ (p ++ [e]) h1 (Nat.le_refl _) (wk_snoc.2 ⟨h2, he, rfl⟩)
  have h4 := rnds_all (s := (List.replicate N 0, false)) (fun x hx => by rw [List.length_replicate]; exact (hE x hx).2) n p' (by omega) g1
  have h5 := rnd_le r1 ((rnds E n (List.replicate N 0, false)).1, false) e.2.1
  rw [wgt_app, ← h3] at g3
  have h6 : wgt [e] = e.2.2.toNat := by simp [wgt]
  rw [h6] at g3
  dsimp only at h5
  omega
/-- What grows no more is the most. -/
theorem rnds_most {E : List Edg} {N : Nat} (hE : ∀ e ∈ E, e.1 < N ∧ e.2.1 < N) {n : Nat} (h : (rnds E (n + 1) (List.replicate N 0, false)).2 = false) : ∀ (p : List Edg) (a b : Nat), Wk E a p b → wgt p ≤ at0 (rnds E (n + 1) (List.replicate N 0, false)).1 b := by
  obtain ⟨h1, h2⟩ := rnd_still E _ h
  have h3 : (rnds E (n + 1) (List.replicate N 0, false)).1 = (rnds E n (List.replicate N 0, false)).1 := by rw [rnds, h1]
  intro p
  rw [h3]
  have key : ∀ (m : Nat) (p : List Edg) (a b : Nat), p.length ≤ m → Wk E a p b → wgt p ≤ at0 (rnds E n (List.replicate N 0, false)).1 b := by
    intro m
    induction m with
    | zero =>
      intro p a b hp hw
      have : p = [] := List.eq_nil_of_length_eq_zero (by omega)
      subst this; simp [wgt]
    | succ m ih =>
      intro p a b hp hw
      rcases List.eq_nil_or_concat p with rfl | ⟨q, e, rfl⟩
      · simp [wgt]
      · rw [List.concat_eq_append] at hp hw ⊢
        obtain ⟨k1, k2, k3⟩ := wk_snoc.1 hw
        have k4 := ih q a e.1 (by rw [List.length_append] at hp; simp at hp; omega) k1
        have k5 := h2 e k2
        dsimp only at k5
        rw [k3] at k5
        rw [wgt_app]
        have k6 : wgt [e] = e.2.2.toNat := by simp [wgt]
        omega
  intro a b hw
  exact key p.length p a b (Nat.le_refl _) hw

end Go.Proofs.YtgebfkmfhpcdhaaDoor
namespace Go.Proofs.YtgebfkmfhpcdhaaDoor
open Go.RowKit
set_option linter.unusedVariables false
set_option linter.unusedSectionVars false

section
variable {σ : Type} [DecidableEq σ] (nx : σ → List (σ × Bool))
/-- A way: where it comes to next, and whether this counts. -/
def Pt : σ → List (σ × Bool) → σ → Prop
  | a, [], b => a = b
  | a, y :: r, b => y ∈ nx a ∧ Pt y.1 r b
def pw (p : List (σ × Bool)) : Nat := (p.map fun y => y.2.toNat).sum
theorem pw_app (p q : List (σ × Bool)) : pw (p ++ q) = pw p + pw q := by unfold pw; rw [List.map_append, List.sum_append]
theorem pw_cons (y : σ × Bool) (q : List (σ × Bool)) : pw (y :: q) = y.2.toNat + pw q := rfl
variable {nx}
theorem pt_app : ∀ {a c : σ} (p : List (σ × Bool)) {q : List (σ × Bool)}, Pt nx a (p ++ q) c ↔ ∃ b, Pt nx a p b ∧ Pt nx b q c
  | a, c, [], q => ⟨fun h => ⟨a, rfl, h⟩, fun ⟨b, h1, h2⟩ => by have : a = b := h1; rw [this]; exact h2⟩
  | a, c, e :: r, q => by
    constructor
    · rintro ⟨h1, h3⟩
      obtain ⟨b, h4, h5⟩ := (pt_app r).1 h3
      exact ⟨b, ⟨h1, h4⟩, h5⟩
    · rintro ⟨b, ⟨h1, h4⟩, h5⟩
      exact ⟨h1, (pt_app r).2 ⟨b, h4, h5⟩⟩
theorem pt_snoc {a : σ} {p : List (σ × Bool)} {y : σ × Bool} {c : σ} : Pt nx a (p ++ [y]) c ↔ y.1 = c ∧ ∃ b, Pt nx a p b ∧ y ∈ nx b := by
  rw [pt_app]
  constructor
  · rintro ⟨b, h1, h2, h3⟩
    exact ⟨h3, b, h1, h2⟩
  · rintro ⟨h3, b, h1, h2⟩
    exact ⟨b, h1, h2, h3⟩
def idxG (l : List σ) (x : σ) : Nat := l.idxOf x
theorem idxG_at (l : List σ) (x : σ) : (cAdd l x)[idxG l x]? = some x := by
  unfold cAdd idxG
  split
  · rename_i h
    have hl := List.idxOf_lt_length_iff.2 h
    rw [List.getElem?_eq_getElem hl, List.getElem_idxOf hl]
  · rename_i h
    have : l.idxOf x = l.length := by
      have h1 := List.idxOf_le_length (a := x) (l := l)
      have h2 : ¬ l.idxOf x < l.length := fun q => h (List.idxOf_lt_length_iff.1 q)
      omega
    rw [this, List.getElem?_append_right (Nat.le_refl _)]
    simp
def nAdd (k : Nat) (s : List σ × List Edg) (y : σ × Bool) : List σ × List Edg := (cAdd s.1 y.1, s.2 ++ [(k, idxG s.1 y.1, y.2)])
def nRow (k : Nat) (s : List σ × List Edg) (ys : List (σ × Bool)) : List σ × List Edg := ys.foldl (nAdd k) s
theorem nRow_fst (k : Nat) : ∀ (ys : List (σ × Bool)) (s : List σ × List Edg), (nRow k s ys).1 = cRow s.1 (ys.map (·.1))
  | [], s => rfl
  | y :: r, s => nRow_fst k r (nAdd k s y)
theorem pre_at {l l' : List σ} (h : ∃ t, l' = l ++ t) {i : Nat} {a : σ} (hi : l[i]? = some a) : l'[i]? = some a := by
  obtain ⟨t, rfl⟩ := h
  rw [List.getElem?_append_left (List.getElem?_eq_some_iff.1 hi).1]
  exact hi
theorem nRow_pre (k : Nat) (ys : List (σ × Bool)) (s : List σ × List Edg) : ∃ t, (nRow k s ys).1 = s.1 ++ t := by
  rw [nRow_fst]
  exact cRow_pre _ _
theorem nRow_old (k : Nat) : ∀ (ys : List (σ × Bool)) (s : List σ × List Edg), ∀ e ∈ s.2, e ∈ (nRow k s ys).2
  | [], s, e, h => h
  | y :: r, s, e, h => nRow_old k r (nAdd k s y) e (List.mem_append.2 (.inl h))
theorem nRow_new (k : Nat) : ∀ (ys : List (σ × Bool)) (s : List σ × List Edg), ∀ e ∈ (nRow k s ys).2, e ∈ s.2 ∨ (e.1 = k ∧ ∃ b, (nRow k s ys).1[e.2.1]? = some b ∧ (b, e.2.2) ∈ ys)
  | [], s, e, h => .inl h
  | y :: r, s, e, h => by
    rcases nRow_new k r (nAdd k s y) e h with q | ⟨q1, b, q2, q3⟩
    · rcases List.mem_append.1 q with q | q
      · exact .inl q
      · rw [List.mem_singleton] at q
        subst q
        exact .inr ⟨rfl, y.1, pre_at (nRow_pre k r (nAdd k s y)) (idxG_at s.1 y.1), List.mem_cons_self ..⟩
    · exact .inr ⟨q1, b, q2, List.mem_cons_of_mem _ q3⟩
theorem nRow_all (k : Nat) : ∀ (ys : List (σ × Bool)) (s : List σ × List Edg), ∀ y ∈ ys, ∃ n, (nRow k s ys).1[n]? = some y.1 ∧ (k, n, y.2) ∈ (nRow k s ys).2
  | [], s, y, h => absurd h (by simp)
  | x :: r, s, y, h => by
    rcases List.mem_cons.1 h with q | q
    · subst q
      exact ⟨idxG s.1 y.1, pre_at (nRow_pre k r (nAdd k s y)) (idxG_at s.1 y.1), nRow_old k r (nAdd k s y) _ (List.mem_append.2 (.inr (List.mem_singleton.2 rfl)))⟩
    · exact nRow_all k r (nAdd k s x) y q
variable (nx)
def nGo (d : σ) : Nat → Nat → List σ × List Edg → List σ × List Edg
  | 0, _, s => s
  | f + 1, k, s => if k < s.1.length then nGo d f (k + 1) (nRow k s (nx (s.1[k]?.getD d))) else s
/-- What the search knows. -/
structure NI (U l0 : List σ) (k : Nat) (s : List σ × List Edg) : Prop where
  nd : s.1.Nodup
  inU : ∀ x ∈ s.1, x ∈ U
  inS : ∀ x ∈ s.1, ∃ a ∈ l0, ∃ p, Pt nx a p x
  es : ∀ e ∈ s.2, ∃ a b, s.1[e.1]? = some a ∧ s.1[e.2.1]? = some b ∧ (b, e.2.2) ∈ nx a
  ec : ∀ i a, i < k → s.1[i]? = some a → ∀ y ∈ nx a, ∃ n, s.1[n]? = some y.1 ∧ (i, n, y.2) ∈ s.2
  st : ∀ x ∈ l0, x ∈ s.1
  kl : k ≤ s.1.length
variable {nx}
theorem ni_start {U l0 : List σ} (hn : l0.Nodup) (hu : ∀ x ∈ l0, x ∈ U) : NI nx U l0 0 (l0, []) :=
  ⟨hn, hu, fun x hx => ⟨x, hx, [], rfl⟩, fun e he => absurd he (by simp), fun i a hi => absurd hi (by omega), fun x hx => hx, Nat.zero_le _⟩
theorem ni_step {U l0 : List σ} (hU : ∀ x ∈ U, ∀ y ∈ nx x, y.1 ∈ U) {k : Nat} {s : List σ × List Edg} (h : NI nx U l0 k s) {a : σ} (ha : s.1[k]? = some a) : NI nx U l0 (k + 1) (nRow k s (nx a)) := by
  have ham := List.mem_of_getElem? ha
  have hk := (List.getElem?_eq_some_iff.1 ha).1
  have hpre := nRow_pre k (nx a) s
  have hmem : ∀ x, x ∈ (nRow k s (nx a)).1 ↔ x ∈ s.1 ∨ ∃ y ∈ nx a, y.1 = x := fun x => by
    rw [nRow_fst, mem_cRow, List.mem_map]
  refine ⟨?_, fun x hx => ?_, fun x hx => ?_, fun e he => ?_, fun i b hi hb y hy => ?_, fun x hx => (hmem x).2 (.inl (h.st x hx)), ?_⟩
  · rw [nRow_fst]
    exact nodup_cRow _ h.nd
  · rcases (hmem x).1 hx with q | ⟨y, q, rfl⟩
    · exact h.inU x q
    · exact hU a (h.inU a ham) y q
  · rcases (hmem x).1 hx with q | ⟨y, q, rfl⟩
    · exact h.inS x q
    · obtain ⟨b, hb, p, hp⟩ := h.inS a ham
      exact ⟨b, hb, p ++ [y], pt_snoc.2 ⟨rfl, a, hp, q⟩⟩
  · rcases nRow_new k (nx a) s e he with q | ⟨q1, b, q2, q3⟩
    · obtain ⟨x, y, h1, h2, h3⟩ := h.es e q
      exact ⟨x, y, pre_at hpre h1, pre_at hpre h2, h3⟩
    · exact ⟨a, b, by rw [q1]; exact pre_at hpre ha, q2, q3⟩
  · have hil : i < s.1.length := by omega
    obtain ⟨c, hc⟩ : ∃ c, s.1[i]? = some c := ⟨_, List.getElem?_eq_getElem hil⟩
    have e1 : c = b := Option.some.inj ((pre_at hpre hc).symm.trans hb)
    subst e1
    by_cases e : i = k
    · subst e
      have : a = c := Option.some.inj (ha.symm.trans hc)
      subst this
      exact nRow_all i (nx a) s y hy
    · obtain ⟨n, h1, h2⟩ := h.ec i c (by omega) hc y hy
      exact ⟨n, pre_at hpre h1, nRow_old k _ s _ h2⟩
  · obtain ⟨t, ht⟩ := hpre
    rw [ht, List.length_append]
    omega
theorem nGo_all {U l0 : List σ} (hU : ∀ x ∈ U, ∀ y ∈ nx x, y.1 ∈ U) (d : σ) : ∀ (f k : Nat) (s : List σ × List Edg), NI nx U l0 k s → U.length < f + k → NI nx U l0 (nGo nx d f k s).1.length (nGo nx d f k s)
  | 0, k, s, h, hf => by
    have := nodup_sub h.nd h.inU
    have := h.kl
    omega
  | f + 1, k, s, h, hf => by
    rw [nGo]
    by_cases hlt : k < s.1.length
    · rw [if_pos hlt]
      have hy : s.1[k]? = some s.1[k] := List.getElem?_eq_getElem hlt
      rw [hy, Option.getD_some]
      exact nGo_all hU d f (k + 1) _ (ni_step hU h hy) (by omega)
    · rw [if_neg hlt]
      have : k = s.1.length := by have := h.kl; omega
      rw [← this]
      exact h
section
variable {U l0 : List σ} {s : List σ × List Edg}
theorem ni_edge (h : NI nx U l0 s.1.length s) : ∀ e ∈ s.2, e.1 < s.1.length ∧ e.2.1 < s.1.length := fun e he => by
  obtain ⟨a, b, h1, h2, h3⟩ := h.es e he
  exact ⟨(List.getElem?_eq_some_iff.1 h1).1, (List.getElem?_eq_some_iff.1 h2).1⟩
theorem wk_of_pt (h : NI nx U l0 s.1.length s) : ∀ (p : List (σ × Bool)) {a b : σ} {i : Nat}, Pt nx a p b → s.1[i]? = some a → ∃ q j, Wk s.2 i q j ∧ s.1[j]? = some b ∧ wgt q = pw p
  | [], a, b, i, hp, hi => by
    have : a = b := hp
    subst this
    exact ⟨[], i, rfl, hi, rfl⟩
  | y :: r, a, b, i, hp, hi => by
    obtain ⟨n, h1, h2⟩ := h.ec i a (List.getElem?_eq_some_iff.1 hi).1 hi y hp.1
    obtain ⟨q, j, k1, k2, k3⟩ := wk_of_pt h r hp.2 h1
    refine ⟨(i, n, y.2) :: q, j, ⟨h2, rfl, k1⟩, k2, ?_⟩
    rw [pw_cons, ← k3]
    rfl
theorem pt_of_wk (h : NI nx U l0 s.1.length s) : ∀ (q : List Edg) {i j : Nat} {a : σ}, Wk s.2 i q j → s.1[i]? = some a → ∃ p b, s.1[j]? = some b ∧ Pt nx a p b ∧ pw p = wgt q
  | [], i, j, a, hq, hi => by
    have : i = j := hq
    subst this
    exact ⟨[], a, hi, rfl, rfl⟩
  | e :: r, i, j, a, hq, hi => by
    obtain ⟨h1, h2, h3⟩ := hq
    obtain ⟨x, y, k1, k2, k3⟩ := h.es e h1
    rw [h2, hi] at k1
    have e1 := Option.some.inj k1
    subst e1
    obtain ⟨p, b, g1, g2, g3⟩ := pt_of_wk h r h3 k2
    refine ⟨(y, e.2.2) :: p, b, g1, ⟨k3, g2⟩, ?_⟩
    rw [pw_cons, g3]
    rfl
end
/-! What counts, counts behind a mark that stays. -/
section
variable {F : σ → Bool}
theorem pt_mark (hF : ∀ x, ∀ y ∈ nx x, (y.2 = true → F x = true) ∧ (F x = true → F y.1 = true)) : ∀ (p : List (σ × Bool)) {a b : σ}, Pt nx a p b → F a = true → F b = true
  | [], a, b, hp, ha => by have : a = b := hp; rw [← this]; exact ha
  | y :: r, a, b, hp, ha => pt_mark hF r hp.2 ((hF a y hp.1).2 ha)
theorem pt_pos (hF : ∀ x, ∀ y ∈ nx x, (y.2 = true → F x = true) ∧ (F x = true → F y.1 = true)) : ∀ (p : List (σ × Bool)) {a b : σ}, Pt nx a p b → 0 < pw p → F b = true
  | [], a, b, hp, ha => absurd ha (by simp [pw])
  | y :: r, a, b, hp, ha => by
    by_cases e : y.2 = true
    · exact pt_mark hF r hp.2 ((hF a y hp.1).2 ((hF a y hp.1).1 e))
    · rw [pw_cons] at ha
      have : y.2 = false := by simpa using e
      rw [this] at ha
      exact pt_pos hF r hp.2 (by simpa using ha)
end
/-- How often a way may count. -/
def DlIs (W : Nat → Prop) (d : Int) : Prop := (d = -1 ∧ ∀ n, ∃ k, n ≤ k ∧ W k) ∨ (0 ≤ d ∧ (∀ n : Nat, W n → (n : Int) < d) ∧ (d = 0 ∨ ∃ n : Nat, (n : Int) + 1 = d ∧ W n))
theorem dl_one {W : Nat → Prop} {d d' : Int} (h : DlIs W d) (h' : DlIs W d') : d = d' := by
  rcases h with ⟨h1, h2⟩ | ⟨h1, h2, h3⟩ <;> rcases h' with ⟨g1, g2⟩ | ⟨g1, g2, g3⟩
  · rw [h1, g1]
  · obtain ⟨k, k1, k2⟩ := h2 d'.toNat
    have := g2 k k2
    omega
  · obtain ⟨k, k1, k2⟩ := g2 d.toNat
    have := h2 k k2
    omega
  · have a1 : d ≤ d' := by
      rcases h3 with q | ⟨n, q1, q2⟩
      · omega
      · have := g2 n q2
        omega
    have a2 : d' ≤ d := by
      rcases g3 with q | ⟨n, q1, q2⟩
      · omega
      · have := h2 n q2
        omega
    omega
/-- The most of those that bear the mark. -/
def mostG (F : σ → Bool) (d : σ) (l : List σ) (L : List Nat) : Nat → Int
  | 0 => -1
  | k + 1 => if F (l[k]?.getD d) = true ∧ mostG F d l L k < (at0 L k : Nat) then (at0 L k : Nat) else mostG F d l L k
theorem most_ge {F : σ → Bool} {d : σ} {l : List σ} {L : List Nat} : ∀ (k : Nat), -1 ≤ mostG F d l L k ∧ ∀ j, j < k → F (l[j]?.getD d) = true → ((at0 L j : Nat) : Int) ≤ mostG F d l L k
  | 0 => ⟨by rw [mostG]; omega, fun j hj => by omega⟩
  | k + 1 => by
    have ih := most_ge (F := F) (d := d) (l := l) (L := L) k
    rw [mostG]
    split
    · rename_i hc
      refine ⟨by omega, fun j hj hf => ?_⟩
      by_cases e : j = k
      · subst e; omega
      · have := ih.2 j (by omega) hf
        omega
    · rename_i hc
      refine ⟨ih.1, fun j hj hf => ?_⟩
      by_cases e : j = k
      · subst e
        have : ¬ mostG F d l L j < (at0 L j : Nat) := fun q => hc ⟨hf, q⟩
        omega
      · exact ih.2 j (by omega) hf
theorem most_at {F : σ → Bool} {d : σ} {l : List σ} {L : List Nat} : ∀ (k : Nat), mostG F d l L k = -1 ∨ ∃ j, j < k ∧ F (l[j]?.getD d) = true ∧ mostG F d l L k = ((at0 L j : Nat) : Int)
  | 0 => .inl rfl
  | k + 1 => by
    rw [mostG]
    split
    · rename_i hc
      exact .inr ⟨k, by omega, hc.1, rfl⟩
    · rcases most_at (F := F) (d := d) (l := l) (L := L) k with q | ⟨j, q1, q2, q3⟩
      · exact .inl q
      · exact .inr ⟨j, by omega, q2, q3⟩
def dlyG (F : σ → Bool) (d : σ) (s : List σ × List Edg) : Int :=
  if (rnds s.2 (s.1.length + 2) (List.replicate s.1.length 0, false)).2 = true then -1
  else mostG F d s.1 (rnds s.2 (s.1.length + 2) (List.replicate s.1.length 0, false)).1 s.1.length + 1
variable (nx)
def WayN (l0 : List σ) (F : σ → Bool) (n : Nat) : Prop := ∃ a ∈ l0, ∃ p b, Pt nx a p b ∧ F b = true ∧ pw p = n
variable {nx}
def manyP (p : List (σ × Bool)) : Nat → List (σ × Bool)
  | 0 => []
  | n + 1 => p ++ manyP p n
theorem many_pt {x : σ} {p : List (σ × Bool)} (hp : Pt nx x p x) : ∀ n, Pt nx x (manyP p n) x
  | 0 => rfl
  | n + 1 => (pt_app p).2 ⟨x, hp, many_pt hp n⟩
theorem many_pw {p : List (σ × Bool)} (hp : 0 < pw p) : ∀ n, n ≤ pw (manyP p n)
  | 0 => Nat.zero_le _
  | n + 1 => by
    have := many_pw hp n
    rw [manyP, pw_app]
    omega
theorem dly_is {F : σ → Bool} (hF : ∀ x, ∀ y ∈ nx x, (y.2 = true → F x = true) ∧ (F x = true → F y.1 = true)) (d : σ) {U l0 : List σ} {s : List σ × List Edg} (h : NI nx U l0 s.1.length s) : DlIs (WayN nx l0 F) (dlyG F d s) := by
  unfold dlyG
  split
  · rename_i hr
    obtain ⟨v, q, h1, h2⟩ := rnds_round (ni_edge h) (Nat.le_succ _) hr
    have hv : v < s.1.length := by
      cases q with
      | nil => exact absurd h2 (by simp [wgt])
      | cons e r =>
        obtain ⟨k1, k2, k3⟩ := h1
        rw [← k2]
        exact (ni_edge h e k1).1
    have hx : s.1[v]? = some s.1[v] := List.getElem?_eq_getElem hv
    obtain ⟨p, b, g1, g2, g3⟩ := pt_of_wk h q h1 hx
    have e1 : s.1[v] = b := Option.some.inj (hx.symm.trans g1)
    rw [← e1] at g2
    obtain ⟨a, ha, p0, hp0⟩ := h.inS s.1[v] (List.getElem_mem hv)
    refine .inl ⟨rfl, fun n => ⟨pw (p0 ++ manyP p n), ?_, a, ha, p0 ++ manyP p n, s.1[v], (pt_app p0).2 ⟨_, hp0, many_pt g2 n⟩, pt_pos hF p g2 (by omega), rfl⟩⟩
    have := many_pw (p := p) (by omega) n
    rw [pw_app]
    omega
  · rename_i hr
    have hr2 : (rnds s.2 (s.1.length + 1 + 1) (List.replicate s.1.length 0, false)).2 = false := by simpa using hr
    have hm := rnds_most (ni_edge h) hr2
    have hg : Gotten s.2 s.1.length (rnds s.2 (s.1.length + 2) (List.replicate s.1.length 0, false)).1 := rnds_got (ni_edge h) (fun k hk => ⟨k, [], hk, rfl, by rw [at0_zero]; rfl⟩) _
    have hge := most_ge (F := F) (d := d) (l := s.1) (L := (rnds s.2 (s.1.length + 2) (List.replicate s.1.length 0, false)).1) s.1.length
    have hup : ∀ n : Nat, WayN nx l0 F n → (n : Int) ≤ mostG F d s.1 (rnds s.2 (s.1.length + 2) (List.replicate s.1.length 0, false)).1 s.1.length := by
      rintro n ⟨a, ha, p, b, h1, h2, h3⟩
      obtain ⟨i, hi⟩ := List.mem_iff_getElem?.1 (h.st a ha)
      obtain ⟨q, j, k1, k2, k3⟩ := wk_of_pt h p h1 hi
      have k4 := hm q i j k1
      have k5 := hge.2 j (List.getElem?_eq_some_iff.1 k2).1 (by rw [k2]; exact h2)
      have k6 : wgt q ≤ at0 (rnds s.2 (s.1.length + 2) (List.replicate s.1.length 0, false)).1 j := k4
      omega
    refine .inr ⟨by omega, fun n hn => by have := hup n hn; omega, ?_⟩
    rcases most_at (F := F) (d := d) (l := s.1) (L := (rnds s.2 (s.1.length + 2) (List.replicate s.1.length 0, false)).1) s.1.length with q | ⟨j, q1, q2, q3⟩
    · exact .inl (by omega)
    · right
      obtain ⟨v, w, k1, k2, k3⟩ := hg j q1
      have hx : s.1[v]? = some s.1[v] := List.getElem?_eq_getElem k1
      obtain ⟨p, b, g1, g2, g3⟩ := pt_of_wk h w k2 hx
      obtain ⟨a, ha, p0, hp0⟩ := h.inS s.1[v] (List.getElem_mem k1)
      rw [g1] at q2
      have hw : WayN nx l0 F (pw (p0 ++ p)) := ⟨a, ha, p0 ++ p, b, (pt_app p0).2 ⟨_, hp0, g2⟩, q2, rfl⟩
      refine ⟨_, ?_, hw⟩
      have k5 := hup _ hw
      rw [pw_app] at k5 ⊢
      omega
end
end Go.Proofs.YtgebfkmfhpcdhaaDoor
namespace Go.Proofs.YtgebfkmfhpcdhaaDoor
open Go.RowKit
set_option linter.unusedVariables false
set_option linter.unusedSectionVars false

/-- Where two runs are; whether the first one is faulty. -/
abbrev Tw := Int × Int × Int
def fltL (m : Mach) (faults : List Int) (x : Tw) (e : Int) : List Int := if hasB faults e = true then [] else stepL m.arrows [x.2.1] e
def leadE (m : Mach) (seen faults : List Int) (x : Tw) (e : Int) : List (Tw × Bool) :=
  if hasB seen e = true then (stepL m.arrows [x.1] e).flatMap fun a => (fltL m faults x e).map fun b => ((a, b, x.2.2), decide (x.2.2 = 1))
  else ((stepL m.arrows [x.1] e).map fun a => ((a, x.2.1, if hasB faults e = true then 1 else x.2.2), decide (x.2.2 = 1))) ++ (fltL m faults x e).map fun b => ((x.1, b, x.2.2), false)
def leadsT (m : Mach) (seen faults : List Int) (x : Tw) : List (Tw × Bool) := (rngI m.ev.toNat).flatMap (leadE m seen faults x)
theorem mem_fltL {m : Mach} {faults : List Int} {x : Tw} {e b : Int} : b ∈ fltL m faults x e ↔ hasB faults e = false ∧ b ∈ stepL m.arrows [x.2.1] e := by
  unfold fltL
  split
  · rename_i h
    rw [h]; simp
  · rename_i h
    exact ⟨fun q => ⟨by simpa using h, q⟩, fun q => q.2⟩
theorem mem_leadE {m : Mach} {seen faults : List Int} {x : Tw} {e : Int} {y : Tw × Bool} : y ∈ leadE m seen faults x e ↔
    (hasB seen e = true ∧ hasB faults e = false ∧ y.1.1 ∈ stepL m.arrows [x.1] e ∧ y.1.2.1 ∈ stepL m.arrows [x.2.1] e ∧ y.1.2.2 = x.2.2 ∧ y.2 = decide (x.2.2 = 1)) ∨
    (hasB seen e = false ∧ y.1.1 ∈ stepL m.arrows [x.1] e ∧ y.1.2.1 = x.2.1 ∧ y.1.2.2 = (if hasB faults e = true then 1 else x.2.2) ∧ y.2 = decide (x.2.2 = 1)) ∨
    (hasB seen e = false ∧ hasB faults e = false ∧ y.1.1 = x.1 ∧ y.1.2.1 ∈ stepL m.arrows [x.2.1] e ∧ y.1.2.2 = x.2.2 ∧ y.2 = false) := by
  unfold leadE
  obtain ⟨⟨y1, y2, y3⟩, y4⟩ := y
  split
  · rename_i h
    rw [List.mem_flatMap]
    constructor
    · rintro ⟨a, h1, h2⟩
      obtain ⟨b, h3, h4⟩ := List.mem_map.1 h2
      cases h4
      exact .inl ⟨h, (mem_fltL.1 h3).1, h1, (mem_fltL.1 h3).2, rfl, rfl⟩
    · rintro (⟨-, h1, h2, h3, h4, h5⟩ | ⟨h1, -⟩ | ⟨h1, -⟩)
      · dsimp only at h2 h3 h4 h5
        subst h4 h5
        exact ⟨y1, h2, List.mem_map.2 ⟨y2, mem_fltL.2 ⟨h1, h3⟩, rfl⟩⟩
      · rw [h] at h1; cases h1
      · rw [h] at h1; cases h1
  · rename_i h
    have hf : hasB seen e = false := by simpa using h
    rw [List.mem_append, List.mem_map, List.mem_map]
    constructor
    · rintro (⟨a, h1, h2⟩ | ⟨b, h1, h2⟩)
      · cases h2
        exact .inr (.inl ⟨hf, h1, rfl, rfl, rfl⟩)
      · cases h2
        exact .inr (.inr ⟨hf, (mem_fltL.1 h1).1, rfl, (mem_fltL.1 h1).2, rfl, rfl⟩)
    · rintro (⟨h1, -⟩ | ⟨-, h2, h3, h4, h5⟩ | ⟨-, h1, h2, h3, h4, h5⟩)
      · exact absurd h1 h
      · dsimp only at h2 h3 h4 h5
        subst h3 h4 h5
        exact .inl ⟨y1, h2, rfl⟩
      · dsimp only at h2 h3 h4 h5
        subst h2 h4 h5
        exact .inr ⟨y2, mem_fltL.2 ⟨h1, h3⟩, rfl⟩
theorem step_ev {m : Mach} (hm : mayB m = true) {ss : List Int} {e x : Int} (h : x ∈ stepL m.arrows ss e) : (0 ≤ e ∧ e < m.ev) ∧ 0 ≤ x ∧ x < m.st := by
  obtain ⟨a, h1, h2, h3, h4⟩ := (mem_stepL _ _ _ _).1 h
  have := may_arrs hm a h1
  unfold arrIn at this
  omega
theorem mem_leadsT {m : Mach} (hm : mayB m = true) {seen faults : List Int} {x : Tw} {y : Tw × Bool} : y ∈ leadsT m seen faults x ↔ ∃ e, y ∈ leadE m seen faults x e := by
  unfold leadsT
  rw [List.mem_flatMap]
  constructor
  · rintro ⟨e, -, h⟩; exact ⟨e, h⟩
  · rintro ⟨e, h⟩
    refine ⟨e, (mem_rng9 _ _).2 ?_, h⟩
    have : 0 ≤ e ∧ e < m.ev := by
      rcases mem_leadE.1 h with ⟨-, -, q, -⟩ | ⟨-, q, -⟩ | ⟨-, -, -, q, -⟩ <;> exact (step_ev hm q).1
    omega
def faulT (x : Tw) : Bool := decide (x.2.2 = 1)
theorem leads_mark {m : Mach} (hm : mayB m = true) {seen faults : List Int} : ∀ x, ∀ y ∈ leadsT m seen faults x, (y.2 = true → faulT x = true) ∧ (faulT x = true → faulT y.1 = true) := fun x y hy => by
  obtain ⟨e, he⟩ := (mem_leadsT hm).1 hy
  unfold faulT
  rcases mem_leadE.1 he with ⟨-, -, -, -, h1, h2⟩ | ⟨-, -, -, h1, h2⟩ | ⟨-, -, -, -, h1, h2⟩
  · rw [h1, h2]; exact ⟨id, id⟩
  · rw [h1, h2]
    refine ⟨id, fun q => ?_⟩
    split
    · rfl
    · exact q
  · rw [h1, h2]
    exact ⟨fun q => absurd q (by simp), id⟩
/-! Words. -/
def fromF (faults t : List Int) : List Int := t.dropWhile fun e => !hasB faults e
/-- How many events stand behind the first fault. -/
def behF (faults t : List Int) : Nat := (fromF faults t).length - 1
theorem fromF_nil {faults t : List Int} : fromF faults t = [] ↔ ∀ e ∈ t, hasB faults e = false := by
  unfold fromF
  induction t with
  | nil => simp
  | cons x r ih =>
    rw [List.dropWhile_cons]
    by_cases q : hasB faults x = true
    · rw [if_neg (by rw [q]; simp)]
      refine ⟨fun h => absurd h (by simp), fun h => ?_⟩
      have := h x (List.mem_cons_self ..)
      rw [q] at this
      cases this
    · have q : hasB faults x = false := by simpa using q
      rw [if_pos (by rw [q]; rfl), ih]
      refine ⟨fun h e he => ?_, fun h e he => h e (List.mem_cons_of_mem _ he)⟩
      rcases List.mem_cons.1 he with k | k
      · rw [k]; exact q
      · exact h e k
theorem fromF_snoc (faults t : List Int) (e : Int) : fromF faults (t ++ [e]) = if fromF faults t = [] then (if hasB faults e = true then [e] else []) else fromF faults t ++ [e] := by
  unfold fromF
  rw [List.dropWhile_append]
  by_cases h : List.dropWhile (fun e => !hasB faults e) t = []
  · rw [h, if_pos rfl, if_pos (by rfl)]
    by_cases q : hasB faults e = true
    · rw [if_pos q]; simp [List.dropWhile, q]
    · rw [if_neg q]
      have q : hasB faults e = false := by simpa using q
      simp [List.dropWhile, q]
  · rw [if_neg h, if_neg (by rw [List.isEmpty_iff]; exact h)]
theorem behF_snoc (faults t : List Int) (e : Int) : behF faults (t ++ [e]) = behF faults t + (if fromF faults t = [] then 0 else 1) := by
  unfold behF
  rw [fromF_snoc]
  by_cases h : fromF faults t = []
  · rw [if_pos h, if_pos h, h]
    split <;> rfl
  · rw [if_neg h, if_neg h, List.length_append]
    have := List.length_pos_iff.2 h
    simp
    omega
def mrkF (faults t : List Int) : Int := if fromF faults t = [] then 0 else 1
theorem mrkF_snoc (faults t : List Int) (e : Int) : mrkF faults (t ++ [e]) = if hasB faults e = true then 1 else mrkF faults t := by
  unfold mrkF
  rw [fromF_snoc]
  by_cases h : fromF faults t = []
  · rw [if_pos h, if_pos h]
    by_cases q : hasB faults e = true
    · rw [if_pos q, if_pos q]; rfl
    · rw [if_neg q, if_neg q]; rfl
  · rw [if_neg h, if_neg h, if_neg (by simp)]
    split <;> rfl
theorem behF_mrk (faults t : List Int) (e : Int) : behF faults (t ++ [e]) = behF faults t + (decide (mrkF faults t = 1)).toNat := by
  rw [behF_snoc]
  unfold mrkF
  by_cases h : fromF faults t = []
  · rw [if_pos h, if_pos h]; rfl
  · rw [if_neg h, if_neg h]; rfl
theorem after_snoc' (ars : List Arr) (ss t : List Int) (e : Int) : afterL ars ss (t ++ [e]) = stepL ars (afterL ars ss t) e := by
  unfold afterL
  rw [List.foldl_append]; rfl
theorem seen_snoc (seen t : List Int) (e : Int) : seenL seen (t ++ [e]) = if hasB seen e = true then seenL seen t ++ [e] else seenL seen t := by
  rw [seen_app]
  by_cases h : hasB seen e = true
  · rw [if_pos h]; simp [seenL, h]
  · rw [if_neg h]
    have h : hasB seen e = false := by simpa using h
    simp [seenL, h]
section
variable {m : Mach}
/-- Two words of which the same is seen, the second one without a fault. -/
structure TwoW (seen : List Int) (faults : List Int) (a0 : Int) (b0 : Int) (t1 t2 : List Int) (x : Tw) : Prop where
  fst : x.1 ∈ afterL m.arrows [a0] t1
  snd : x.2.1 ∈ afterL m.arrows [b0] t2
  same : seenL seen t1 = seenL seen t2
  no : ∀ e ∈ t2, hasB faults e = false
  mrk : x.2.2 = mrkF faults t1
theorem pt_words (hm : mayB m = true) (seen : List Int) (faults : List Int) (a0 : Int) (b0 : Int) : ∀ (n : Nat) (p : List (Tw × Bool)) (x : Tw), p.length = n → Pt (leadsT m seen faults) (a0, b0, 0) p x → ∃ t1 t2, TwoW (m := m) seen faults a0 b0 t1 t2 x ∧ behF faults t1 = pw p
  | 0, p, x, hn, hp => by
    have : p = [] := List.eq_nil_of_length_eq_zero hn
    subst this
    have : (a0, b0, (0 : Int)) = x := hp
    subst this
    exact ⟨[], [], ⟨by show a0 ∈ [a0]; simp, by show b0 ∈ [b0]; simp, rfl, fun e he => by simp at he, rfl⟩, rfl⟩
  | n + 1, p, x, hn, hp => by
    rcases List.eq_nil_or_concat p with rfl | ⟨q, y, rfl⟩
    · simp at hn
    · rw [List.concat_eq_append] at hn hp ⊢
      obtain ⟨rfl, z, h1, h2⟩ := pt_snoc.1 hp
      obtain ⟨t1, t2, hw, hb⟩ := pt_words hm seen faults a0 b0 n q z (by simpa using hn) h1
      obtain ⟨e, he⟩ := (mem_leadsT hm).1 h2
      have hpw : pw (q ++ [y]) = pw q + y.2.toNat := by rw [pw_app]; simp [pw]
      have up : ∀ {s c t : Int} {u : List Int}, s ∈ afterL m.arrows [c] u → t ∈ stepL m.arrows [s] e → t ∈ afterL m.arrows [c] (u ++ [e]) := fun hs ht => by
        rw [after_snoc']
        exact step_mono (fun x hx => by rw [List.mem_singleton] at hx; rw [hx]; exact hs) _ ht
      rcases mem_leadE.1 he with ⟨g1, g2, g3, g4, g5, g6⟩ | ⟨g1, g2, g3, g4, g5⟩ | ⟨g1, g2, g3, g4, g5, g6⟩
      · refine ⟨t1 ++ [e], t2 ++ [e], ⟨up hw.fst g3, up hw.snd g4, ?_, fun q hq => ?_, ?_⟩, ?_⟩
        · rw [seen_snoc, seen_snoc, if_pos g1, if_pos g1, hw.same]
        · rcases List.mem_append.1 hq with k | k
          · exact hw.no q k
          · rw [List.mem_singleton] at k; rw [k]; exact g2
        · rw [g5, mrkF_snoc, g2, hw.mrk]; rfl
        · rw [behF_mrk, hpw, hb, g6, hw.mrk]
      · refine ⟨t1 ++ [e], t2, ⟨up hw.fst g2, by rw [g3]; exact hw.snd, ?_, hw.no, ?_⟩, ?_⟩
        · rw [seen_snoc, g1, hw.same]; rfl
        · rw [g4, mrkF_snoc, hw.mrk]
        · rw [behF_mrk, hpw, hb, g5, hw.mrk]
      · refine ⟨t1, t2 ++ [e], ⟨by rw [g3]; exact hw.fst, up hw.snd g4, ?_, fun q hq => ?_, by rw [g5]; exact hw.mrk⟩, ?_⟩
        · rw [seen_snoc, g1, hw.same]; rfl
        · rcases List.mem_append.1 hq with k | k
          · exact hw.no q k
          · rw [List.mem_singleton] at k; rw [k]; exact g2
        · rw [hpw, hb, g6]; rfl
theorem words_pt (hm : mayB m = true) (seen : List Int) (faults : List Int) (a0 : Int) (b0 : Int) : ∀ (n : Nat) (t1 t2 : List Int) (x : Tw), t1.length + t2.length ≤ n → TwoW (m := m) seen faults a0 b0 t1 t2 x → ∃ p, Pt (leadsT m seen faults) (a0, b0, 0) p x ∧ pw p = behF faults t1 := by
  intro n
  induction n with
  | zero =>
    intro t1 t2 x hn hw
    have e1 : t1 = [] := List.eq_nil_of_length_eq_zero (by omega)
    have e2 : t2 = [] := List.eq_nil_of_length_eq_zero (by omega)
    subst e1 e2
    refine ⟨[], ?_, rfl⟩
    have h1 : x.1 ∈ [a0] := hw.fst
    have h2 : x.2.1 ∈ [b0] := hw.snd
    rw [List.mem_singleton] at h1 h2
    have h3 : x.2.2 = 0 := hw.mrk
    show (a0, b0, (0 : Int)) = x
    rw [← h1, ← h2, ← h3]
  | succ n ih =>
    intro t1 t2 x hn hw
    have pwS : ∀ (p : List (Tw × Bool)) (y : Tw × Bool), pw (p ++ [y]) = pw p + y.2.toNat := fun p y => by rw [pw_app]; simp [pw]
    -- the first word's last event
    have first : ∀ (t : List Int) (e : Int), t1 = t ++ [e] → hasB seen e = false → ∃ p, Pt (leadsT m seen faults) (a0, b0, 0) p x ∧ pw p = behF faults t1 := by
      rintro t e rfl hs
      have h1 := hw.fst
      rw [after_snoc'] at h1
      obtain ⟨y, hy, h1⟩ := step_of1 h1
      obtain ⟨p, k1, k2⟩ := ih t t2 (y, x.2.1, mrkF faults t) (by rw [List.length_append] at hn; simp at hn; omega) ⟨hy, hw.snd, by have := hw.same; rw [seen_snoc, hs] at this; exact this, hw.no, rfl⟩
      refine ⟨p ++ [(x, decide (mrkF faults t = 1))], pt_snoc.2 ⟨rfl, _, k1, (mem_leadsT hm).2 ⟨e, mem_leadE.2 (.inr (.inl ⟨hs, h1, rfl, ?_, rfl⟩))⟩⟩, ?_⟩
      · show x.2.2 = _
        rw [hw.mrk, mrkF_snoc]
      · rw [pwS, k2, behF_mrk]
    have second : ∀ (t : List Int) (e : Int), t2 = t ++ [e] → hasB seen e = false → ∃ p, Pt (leadsT m seen faults) (a0, b0, 0) p x ∧ pw p = behF faults t1 := by
      rintro t e rfl hs
      have h1 := hw.snd
      rw [after_snoc'] at h1
      obtain ⟨y, hy, h1⟩ := step_of1 h1
      obtain ⟨p, k1, k2⟩ := ih t1 t (x.1, y, mrkF faults t1) (by rw [List.length_append] at hn; simp at hn; omega) ⟨hw.fst, hy, by have := hw.same; rw [seen_snoc seen t, hs] at this; exact this, fun q hq => hw.no q (List.mem_append.2 (.inl hq)), rfl⟩
      refine ⟨p ++ [(x, false)], pt_snoc.2 ⟨rfl, _, k1, (mem_leadsT hm).2 ⟨e, mem_leadE.2 (.inr (.inr ⟨hs, hw.no e (by simp), rfl, h1, hw.mrk, rfl⟩))⟩⟩, ?_⟩
      rw [pwS, k2]; rfl
    rcases List.eq_nil_or_concat t1 with q1 | ⟨r1, e1, q1⟩
    · rcases List.eq_nil_or_concat t2 with q2 | ⟨r2, e2, q2⟩
      · exact ih t1 t2 x (by rw [q1, q2]; simp) hw
      · rw [List.concat_eq_append] at q2
        refine second r2 e2 q2 ?_
        have := hw.same
        rw [q1, q2, seen_snoc] at this
        by_cases c : hasB seen e2 = true
        · rw [if_pos c] at this
          have := congrArg List.length this
          simp [seenL] at this
        · simpa using c
    · rw [List.concat_eq_append] at q1
      by_cases c1 : hasB seen e1 = true
      · rcases List.eq_nil_or_concat t2 with q2 | ⟨r2, e2, q2⟩
        · have := hw.same
          rw [q1, q2, seen_snoc, if_pos c1] at this
          have := congrArg List.length this
          simp [seenL] at this
        · rw [List.concat_eq_append] at q2
          by_cases c2 : hasB seen e2 = true
          · have hs := hw.same
            rw [q1, q2, seen_snoc, seen_snoc, if_pos c1, if_pos c2] at hs
            obtain ⟨hs1, hs2⟩ := List.append_inj' hs rfl
            have hs2 : e1 = e2 := by simpa using hs2
            subst hs2
            have h1 := hw.fst
            rw [q1, after_snoc'] at h1
            obtain ⟨y, hy, h1⟩ := step_of1 h1
            have h2 := hw.snd
            rw [q2, after_snoc'] at h2
            obtain ⟨z, hz, h2⟩ := step_of1 h2
            have hno := hw.no e1 (by rw [q2]; simp)
            obtain ⟨p, k1, k2⟩ := ih r1 r2 (y, z, mrkF faults r1) (by rw [q1, q2, List.length_append, List.length_append] at hn; simp at hn; omega) ⟨hy, hz, hs1, fun q hq => hw.no q (by rw [q2]; exact List.mem_append.2 (.inl hq)), rfl⟩
            have hmk : x.2.2 = mrkF faults r1 := by rw [hw.mrk, q1, mrkF_snoc, hno]; rfl
            refine ⟨p ++ [(x, decide (mrkF faults r1 = 1))], pt_snoc.2 ⟨rfl, _, k1, (mem_leadsT hm).2 ⟨e1, mem_leadE.2 (.inl ⟨c1, hno, h1, h2, hmk, rfl⟩)⟩⟩, ?_⟩
            rw [pwS, k2, q1, behF_mrk]
          · exact second r2 e2 q2 (by simpa using c2)
      · exact first r1 e1 q1 (by simpa using c1)
end
/-- A fault may stay unfound for so many events. -/
def UnfF (m : Mach) (seen faults : List Int) (n : Nat) : Prop := ∃ t1 t2, (∃ a, a ∈ afterL m.arrows m.starts t1) ∧ (∃ b, b ∈ afterL m.arrows m.starts t2) ∧ seenL seen t1 = seenL seen t2 ∧ (∀ e ∈ t2, hasB faults e = false) ∧ (∃ e ∈ t1, hasB faults e = true) ∧ behF faults t1 = n
def twS (m : Mach) : List Tw := m.starts.flatMap fun a => m.starts.map fun b => (a, b, 0)
theorem mem_twS {m : Mach} {x : Tw} : x ∈ twS m ↔ x.1 ∈ m.starts ∧ x.2.1 ∈ m.starts ∧ x.2.2 = 0 := by
  unfold twS
  rw [List.mem_flatMap]
  constructor
  · rintro ⟨a, h1, h2⟩
    obtain ⟨b, h3, rfl⟩ := List.mem_map.1 h2
    exact ⟨h1, h3, rfl⟩
  · rintro ⟨h1, h2, h3⟩
    exact ⟨x.1, h1, List.mem_map.2 ⟨x.2.1, h2, by rw [← h3]⟩⟩
theorem mrkF_one {faults t : List Int} : mrkF faults t = 1 ↔ ∃ e ∈ t, hasB faults e = true := by
  unfold mrkF
  by_cases h : fromF faults t = []
  · rw [if_pos h]
    refine ⟨fun q => by omega, ?_⟩
    rintro ⟨e, he, q⟩
    rw [fromF_nil.1 h e he] at q
    cases q
  · rw [if_neg h]
    refine ⟨fun _ => ?_, fun _ => rfl⟩
    apply Classical.byContradiction
    intro q
    refine h (fromF_nil.2 fun e he => ?_)
    by_cases c : hasB faults e = true
    · exact absurd ⟨e, he, c⟩ q
    · simpa using c
theorem way_unf {m : Mach} (hm : mayB m = true) (seen faults : List Int) (n : Nat) : WayN (leadsT m seen faults) (twS m) faulT n ↔ UnfF m seen faults n := by
  constructor
  · rintro ⟨⟨a0, b0, f0⟩, ha, p, b, h1, h2, h3⟩
    obtain ⟨k1, k2, k3⟩ := mem_twS.1 ha
    dsimp only at k1 k2 k3
    subst k3
    obtain ⟨t1, t2, hw, hb⟩ := pt_words hm seen faults a0 b0 p.length p b rfl h1
    have sub : ∀ {c : Int}, c ∈ m.starts → ∀ x ∈ [c], x ∈ m.starts := fun hc x hx => by rw [List.mem_singleton] at hx; rw [hx]; exact hc
    refine ⟨t1, t2, ⟨_, after_mono t1 (sub k1) _ hw.fst⟩, ⟨_, after_mono t2 (sub k2) _ hw.snd⟩, hw.same, hw.no, mrkF_one.1 ?_, by rw [hb, h3]⟩
    rw [← hw.mrk]
    unfold faulT at h2
    exact of_decide_eq_true h2
  · rintro ⟨t1, t2, ⟨a, ha⟩, ⟨b, hb⟩, hs, hno, hf, hn⟩
    obtain ⟨a0, k1, k2⟩ := after_one t1 ha
    obtain ⟨b0, k3, k4⟩ := after_one t2 hb
    obtain ⟨p, h1, h2⟩ := words_pt hm seen faults a0 b0 _ t1 t2 (a, b, mrkF faults t1) (Nat.le_refl _) ⟨k2, k4, hs, hno, rfl⟩
    refine ⟨(a0, b0, 0), mem_twS.2 ⟨k1, k3, rfl⟩, p, _, h1, ?_, by rw [h2, hn]⟩
    show decide (mrkF faults t1 = 1) = true
    rw [mrkF_one.2 hf]; rfl
/-- All twins. -/
def allT2 (m : Mach) : List Tw := (rngI m.st.toNat).flatMap fun a => (rngI m.st.toNat).flatMap fun b => [(a, b, 0), (a, b, 1)]
theorem allT2_len {m : Mach} (z : m.st ≤ 6) : (allT2 m).length ≤ 72 := by
  unfold allT2
  have h1 : ∀ a : Int, ((rngI m.st.toNat).flatMap fun b => [(a, b, (0 : Int)), (a, b, 1)]).length = m.st.toNat * 2 := fun a => by
    rw [List.length_flatMap]
    simp only [List.length_cons, List.length_nil]
    rw [List.map_const', List.sum_replicate_nat, rngI_len]
  rw [List.length_flatMap]
  simp only [h1]
  rw [List.map_const', List.sum_replicate_nat, rngI_len]
  have : m.st.toNat ≤ 6 := by omega
  exact Nat.le_trans (Nat.mul_le_mul this (Nat.mul_le_mul_right 2 this)) (by omega)
theorem mem_allT2 {m : Mach} {x : Tw} (h1 : 0 ≤ x.1 ∧ x.1 < m.st) (h2 : 0 ≤ x.2.1 ∧ x.2.1 < m.st) (h3 : x.2.2 = 0 ∨ x.2.2 = 1) : x ∈ allT2 m := by
  unfold allT2
  rw [List.mem_flatMap]
  refine ⟨x.1, (mem_rng9 _ _).2 (by omega), ?_⟩
  rw [List.mem_flatMap]
  refine ⟨x.2.1, (mem_rng9 _ _).2 (by omega), ?_⟩
  obtain ⟨a, b, c⟩ := x
  dsimp only at h3 ⊢
  rcases h3 with rfl | rfl <;> simp
theorem allT2_mem {m : Mach} {x : Tw} (h : x ∈ allT2 m) : (0 ≤ x.1 ∧ x.1 < m.st) ∧ (0 ≤ x.2.1 ∧ x.2.1 < m.st) ∧ (x.2.2 = 0 ∨ x.2.2 = 1) := by
  unfold allT2 at h
  obtain ⟨a, h1, h⟩ := List.mem_flatMap.1 h
  obtain ⟨b, h2, h⟩ := List.mem_flatMap.1 h
  have h1 := (mem_rng9 _ _).1 h1
  have h2 := (mem_rng9 _ _).1 h2
  simp at h
  rcases h with rfl | rfl
  · exact ⟨by dsimp only; omega, by dsimp only; omega, .inl rfl⟩
  · exact ⟨by dsimp only; omega, by dsimp only; omega, .inr rfl⟩
theorem leads_in {m : Mach} (hm : mayB m = true) (seen faults : List Int) : ∀ x ∈ allT2 m, ∀ y ∈ leadsT m seen faults x, y.1 ∈ allT2 m := fun x hx y hy => by
  obtain ⟨x1, x2, x3⟩ := allT2_mem hx
  obtain ⟨e, he⟩ := (mem_leadsT hm).1 hy
  rcases mem_leadE.1 he with ⟨-, -, h1, h2, h3, -⟩ | ⟨-, h1, h2, h3, -⟩ | ⟨-, -, h1, h2, h3, -⟩
  · exact mem_allT2 (step_ev hm h1).2 (step_ev hm h2).2 (by rw [h3]; exact x3)
  · refine mem_allT2 (step_ev hm h1).2 (by rw [h2]; exact x2) ?_
    rw [h3]
    split
    · exact .inr rfl
    · exact x3
  · exact mem_allT2 (by rw [h1]; exact x1) (step_ev hm h2).2 (by rw [h3]; exact x3)
theorem twS_nodup {m : Mach} (hm : mayB m = true) : (twS m).Nodup := by
  have hn := inc_nodup (may_starts hm).1
  unfold twS List.Nodup
  rw [List.pairwise_flatMap]
  refine ⟨fun a ha => ?_, ?_⟩
  · rw [List.pairwise_map]
    exact List.Pairwise.imp (fun h e => h (by cases e; rfl)) hn
  · refine List.Pairwise.imp (fun h x hx y hy e => ?_) hn
    obtain ⟨b, -, rfl⟩ := List.mem_map.1 hx
    obtain ⟨c, -, rfl⟩ := List.mem_map.1 hy
    cases e
    exact h rfl
/-- All twins and how they lead to one another. -/
def twins (m : Mach) (seen faults : List Int) : List Tw × List Edg := nGo (leadsT m seen faults) (0, 0, 0) 100 0 (twS m, [])
theorem twins_all {m : Mach} (hm : mayB m = true) (z : m.st ≤ 6) (seen faults : List Int) : NI (leadsT m seen faults) (allT2 m) (twS m) (twins m seen faults).1.length (twins m seen faults) := by
  have hz := allT2_len z
  refine nGo_all (leads_in hm seen faults) _ _ _ _ (ni_start (twS_nodup hm) fun x hx => ?_) (by omega)
  obtain ⟨h1, h2, h3⟩ := mem_twS.1 hx
  exact mem_allT2 ((may_starts hm).2 _ h1) ((may_starts hm).2 _ h2) (.inl h3)
def delD (m : Mach) (seen faults : List Int) : Int := dlyG faulT (0, 0, 0) (twins m seen faults)
theorem dlIs_iff {W V : Nat → Prop} (h : ∀ n, W n ↔ V n) {d : Int} (hd : DlIs W d) : DlIs V d := by
  have : W = V := funext fun n => propext (h n)
  rw [← this]; exact hd
/-- M2: how long a fault may stay unfound. -/
theorem del_is {m : Mach} (hm : mayB m = true) (z : m.st ≤ 6) (seen faults : List Int) : DlIs (UnfF m seen faults) (delD m seen faults) :=
  dlIs_iff (way_unf hm seen faults) (dly_is (leads_mark hm) _ (twins_all hm z seen faults))
end Go.Proofs.YtgebfkmfhpcdhaaDoor
namespace Go.Proofs.YtgebfkmfhpcdhaaDoor
open Go.RowKit
set_option linter.unusedVariables false
set_option linter.unusedSectionVars false

/-- What a machine does without faults. -/
abbrev rightM (m : Mach) (faults : List Int) : Mach := ⟨m.st, m.ev, m.starts, lowA m faults, m.ends⟩
theorem may_right {m : Mach} (hm : mayB m = true) (faults : List Int) : mayB (rightM m faults) = true := by
  have hz := mayB_size hm
  have hl : (lowA m faults).length ≤ m.arrows.length := List.length_filter_le _ _
  unfold sizeOk at hz
  rw [mayB_go (m := rightM m faults) (by unfold sizeOk; dsimp only; omega) (show rowB m.st m.starts = true from mayB_starts hm) (show rowB m.st m.ends = true from mayB_ends hm)]
  rw [arrsFrom_iff]
  have hs : List.Sublist (lowA m faults) m.arrows := List.filter_sublist
  exact ⟨fun a ha => may_arrs hm a (hs.subset ha), List.Pairwise.sublist hs (may_inc hm), fun _ _ => rfl⟩
theorem right_after {m : Mach} {faults : List Int} : ∀ (t : List Int) {ss : List Int} {x : Int}, x ∈ afterL (lowA m faults) ss t → x ∈ afterL m.arrows ss t ∧ ∀ e ∈ t, hasB faults e = false
  | [], ss, x, h => ⟨h, fun e he => absurd he (by simp)⟩
  | e :: t, ss, x, h => by
    obtain ⟨h1, h2⟩ := right_after t (ss := stepL (lowA m faults) ss e) h
    have hsub : ∀ y ∈ stepL (lowA m faults) ss e, y ∈ stepL m.arrows ss e := fun y hy => by
      obtain ⟨a, k1, k2⟩ := (mem_stepL _ _ _ _).1 hy
      exact (mem_stepL _ _ _ _).2 ⟨a, (List.mem_filter.1 k1).1, k2⟩
    refine ⟨after_mono t hsub x h1, fun q hq => ?_⟩
    rcases List.mem_cons.1 hq with k | k
    · obtain ⟨y, hy, -⟩ := after_one t h1
      obtain ⟨y, hy, -⟩ := after_one t (ss := stepL (lowA m faults) ss e) h
      obtain ⟨a, k1, k2, -⟩ := (mem_stepL _ _ _ _).1 hy
      have := (List.mem_filter.1 k1).2
      rw [k, ← k2]
      simpa using this
    · exact h2 q k
/-- M2: a fault that is to be found is found. -/
theorem del_holds {m : Mach} (hm : mayB m = true) {seen faults word secret : List Int} {d : Int} (hd : DlIs (UnfF m seen faults) d) (h0 : 0 ≤ d) (hf : fromF faults word ≠ []) (ha : afterL m.arrows m.starts word ≠ []) (hl : d ≤ ((behF faults word : Nat) : Int)) : estL ⟨rightM m faults, seen, secret⟩ (seenL seen word) = [] := by
  rw [List.eq_nil_iff_forall_not_mem]
  intro x hx
  obtain ⟨t, h1, h2⟩ := (mem_from (p := ⟨rightM m faults, seen, secret⟩) (may_right hm faults) (seen_mem seen word) x).1 hx
  obtain ⟨h3, h4⟩ := right_after t h2
  have hw : UnfF m seen faults (behF faults word) := by
    refine ⟨word, t, ?_, ⟨x, h3⟩, h1.symm, h4, ?_, rfl⟩
    · exact List.exists_mem_of_ne_nil _ ha
    · apply Classical.byContradiction
      intro q
      refine hf (fromF_nil.2 fun e he => ?_)
      by_cases c : hasB faults e = true
      · exact absurd ⟨e, he, c⟩ q
      · simpa using c
  rcases hd with ⟨q, -⟩ | ⟨-, q, -⟩
  · omega
  · have := q _ hw
    omega
/-- More that is seen: found no later. -/
theorem del_more {m : Mach} {seen wide faults : List Int} (hs : ∀ e ∈ seen, e ∈ wide) {a b : Int} (ha : DlIs (UnfF m seen faults) a) (hb : DlIs (UnfF m wide faults) b) : a < 0 ∨ (0 ≤ b ∧ b ≤ a) := by
  have sub : ∀ n, UnfF m wide faults n → UnfF m seen faults n := by
    rintro n ⟨t1, t2, h1, h2, h3, h4⟩
    refine ⟨t1, t2, h1, h2, ?_, h4⟩
    rw [← seen_seen hs t1, h3, seen_seen hs t2]
  rcases ha with ⟨h1, h2⟩ | ⟨h1, h2, h3⟩
  · exact .inl (by omega)
  · right
    rcases hb with ⟨g1, g2⟩ | ⟨g1, g2, g3⟩
    · obtain ⟨k, k1, k2⟩ := g2 a.toNat
      have := h2 k (sub k k2)
      omega
    · refine ⟨g1, ?_⟩
      rcases g3 with q | ⟨n, q1, q2⟩
      · omega
      · have := h2 n (sub n q2)
        omega
/-- One fault that is done again and again, unseen. -/
abbrev loopM : Mach := ⟨1, 1, [0], [⟨0, 0, 0⟩], []⟩
theorem loop_after : ∀ n : Nat, (0 : Int) ∈ afterL loopM.arrows loopM.starts (List.replicate n 0)
  | 0 => by show (0 : Int) ∈ [0]; simp
  | n + 1 => by
    have h := loop_after n
    rw [List.replicate_succ', after_snoc']
    exact (mem_stepL _ _ _ _).2 ⟨⟨0, 0, 0⟩, by show _ ∈ [_]; simp, rfl, h, rfl⟩
theorem beh_many : ∀ n : Nat, behF [0] (List.replicate (n + 1) 0) = n := fun n => by
  unfold behF fromF
  rw [List.replicate_succ, List.dropWhile_cons, if_neg (by simp [hasB])]
  simp
theorem del_loop {d : Int} (hd : DlIs (UnfF loopM [] [0]) d) : d = -1 := by
  refine dl_one hd (.inl ⟨rfl, fun n => ⟨n, Nat.le_refl _, List.replicate (n + 1) 0, [], ⟨0, loop_after _⟩, ⟨0, by show (0 : Int) ∈ [0]; simp⟩, ?_, fun e he => by simp at he, ⟨0, by simp, by simp [hasB]⟩, beh_many n⟩⟩)
  unfold seenL
  simp [hasB]
/-- The first fault. -/
theorem from_drop {faults : List Int} : ∀ {word : List Int} {j : Nat}, (∀ e ∈ word.take j, hasB faults e = false) → (∀ x, word[j]? = some x → hasB faults x = true) → fromF faults word = word.drop j
  | [], j, h1, h2 => by simp [fromF]
  | x :: r, 0, h1, h2 => by
    have := h2 x rfl
    unfold fromF
    rw [List.dropWhile_cons, if_neg (by rw [this]; simp)]; rfl
  | x :: r, j + 1, h1, h2 => by
    have hx := h1 x (by rw [List.take_succ_cons]; exact List.mem_cons_self ..)
    have ih := from_drop (word := r) (j := j) (fun e he => h1 e (by rw [List.take_succ_cons]; exact List.mem_cons_of_mem _ he)) (fun y hy => h2 y (by simpa using hy))
    unfold fromF at ih ⊢
    rw [List.dropWhile_cons, if_pos (by rw [hx]; rfl), ih, List.drop_succ_cons]
theorem beh_drop {faults word : List Int} {j : Nat} (h : fromF faults word = word.drop j) : behF faults word = word.length - j - 1 := by
  unfold behF
  rw [h, List.length_drop]
end Go.Proofs.YtgebfkmfhpcdhaaDoor
