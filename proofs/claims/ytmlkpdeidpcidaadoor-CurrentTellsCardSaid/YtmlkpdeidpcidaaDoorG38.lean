/-
  Plain: a search by lengths in which words grow at their front: the lesser words come first. No program, no model.
  Rows of places, to be read; what slices.IndexFunc answers of them.
  Plain: the program's way to the least list that tells the beginning: sets gone back to, by a table of the hidden machine's arrows. No program, no model.
  Plain: all estimates, and all rows gone back to, as the program makes them; what is first of two lists that tell where a plant was. No program, no model.
-/
import Derived.Test.YtmlkpdeidpcidaaDoorG34
import Derived.Test.YtmlkpdeidpcidaaDoorG37
namespace Go.Proofs.YtmlkpdeidpcidaaDoor
open Go.RowKit
set_option linter.unusedVariables false
set_option linter.unusedSectionVars false

theorem lessB_cons (e : Int) {a b : List Int} (h : lessB a b = true) : lessB (e :: a) (e :: b) = true := by
  rcases leW_cons e (.inr h) with h1 | h1
  · have h2 : a = b := by simpa using h1
    rw [h2, lessB_irrefl] at h; cases h
  · exact h1
theorem lessB_head {e f : Int} {a b : List Int} (h : e < f) (hl : a.length = b.length) : lessB (e :: a) (f :: b) = true := by
  unfold lessB
  rw [if_pos (by simp [hl])]
  unfold lexB
  rw [if_neg (by omega)]
  exact decide_eq_true h
theorem lessB_short {a b : List Int} (h : a.length < b.length) : lessB a b = true := by
  unfold lessB; rw [if_neg (by omega)]; exact decide_eq_true h
theorem leW_len {a b : List Int} (h : leW a b) : a.length ≤ b.length := by
  rcases h with rfl | h
  · exact Nat.le_refl _
  · exact lessB_len h

section
variable {σ : Type} [DecidableEq σ] (op : Nat → σ → σ)
/-- One event ahead of one place. -/
def igStep (x : σ × List Int) (e : Nat) (l : List (σ × List Int)) : List (σ × List Int) := if knownB l (op e x.1) = true then l else l ++ [(op e x.1, (e : Int) :: x.2)]
variable {op}
/-- What is found when the places from frm on, ahead of to, are gone on from: all with the events below e, and those ahead of r with e. -/
structure IG (op : Nat → σ → σ) (s0 : σ) (ev n frm to e r : Nat) (l : List (σ × List Int)) : Prop where
  inc : l.Pairwise fun p q => lessB p.2 q.2 = true
  nd : (l.map (·.1)).Nodup
  run : ∀ x ∈ l, x.1 = valB op s0 x.2 ∧ ∀ c ∈ x.2, 0 ≤ c ∧ c < (ev : Int)
  ft : frm ≤ to
  tl : to ≤ l.length
  low : ∀ (j : Nat) (x : σ × List Int), l[j]? = some x → j < frm → x.2.length < n
  lay : ∀ (j : Nat) (x : σ × List Int), l[j]? = some x → frm ≤ j → j < to → x.2.length = n
  new : ∀ (j : Nat) (x : σ × List Int), l[j]? = some x → to ≤ j → ∃ (e' j' : Nat) (y : σ × List Int), l[j']? = some y ∧ frm ≤ j' ∧ j' < to ∧ x.2 = (e' : Int) :: y.2 ∧ (e' < e ∨ (e' = e ∧ j' < r))
  cov : ∀ u : List Int, (∀ c ∈ u, 0 ≤ c ∧ c < (ev : Int)) → u.length ≤ n → ∃ x ∈ l, x.1 = valB op s0 u ∧ leW x.2 u
  dn : ∀ (e' j' : Nat) (y : σ × List Int), (e' < e ∨ (e' = e ∧ j' < r)) → frm ≤ j' → j' < to → l[j']? = some y → ∃ z ∈ l, z.1 = op e' y.1 ∧ leW z.2 ((e' : Int) :: y.2)
theorem ig_start (s0 : σ) (ev : Nat) : IG op s0 ev 0 0 1 0 0 [(s0, [])] := by
  refine ⟨by simp, by simp, fun x hx => ?_, by omega, by simp, fun j x _ h => absurd h (Nat.not_lt_zero _), fun j x hx _ hj => ?_, fun j x hx hj => ?_, fun u _ hu => ?_, fun e' j' y h _ _ _ => ?_⟩
  · have : x = (s0, []) := by simpa using hx
    subst this; exact ⟨rfl, by simp⟩
  · have h0 : j = 0 := by omega
    subst h0
    have : (s0, []) = x := by simpa using hx
    subst this; rfl
  · have := (List.getElem?_eq_some_iff.1 hx).1
    simp at this; omega
  · have : u = [] := List.eq_nil_of_length_eq_zero (by omega)
    subst this
    exact ⟨(s0, []), by simp, rfl, leW_refl _⟩
  · omega
theorem ig_lenof {s0 : σ} {ev n frm to e r : Nat} {l : List (σ × List Int)} (h : IG op s0 ev n frm to e r l) {j : Nat} {x : σ × List Int} (hx : l[j]? = some x) : x.2.length ≤ n + 1 ∧ (j < to → x.2.length ≤ n) := by
  rcases Nat.lt_or_ge j frm with h1 | h1
  · have := h.low j x hx h1
    exact ⟨by omega, fun _ => by omega⟩
  · rcases Nat.lt_or_ge j to with h2 | h2
    · have := h.lay j x hx h1 h2
      exact ⟨by omega, fun _ => by omega⟩
    · obtain ⟨e', j', y, h3, h4, h5, h6, -⟩ := h.new j x hx h2
      have := h.lay j' y h3 h4 h5
      refine ⟨by rw [h6, List.length_cons]; omega, fun _ => by omega⟩
theorem ig_step {s0 : σ} {ev n frm to e r : Nat} {l : List (σ × List Int)} {x : σ × List Int} (h : IG op s0 ev n frm to e r l) (hf : frm ≤ r) (hr : r < to) (hx : l[r]? = some x) (he : e < ev) : IG op s0 ev n frm to e (r + 1) (igStep op x e l) := by
  have hxl := h.lay r x hx hf hr
  have hxr := h.run x (List.mem_of_getElem? hx)
  -- all that is there is less than the new word
  have hless : ∀ (j : Nat) (q : σ × List Int), l[j]? = some q → lessB q.2 ((e : Int) :: x.2) = true := by
    intro j q hq
    rcases Nat.lt_or_ge j to with h1 | h1
    · have := (ig_lenof h hq).2 h1
      exact lessB_short (by rw [List.length_cons]; omega)
    · obtain ⟨e', j', y, h3, h4, h5, h6, h7⟩ := h.new j q hq h1
      rw [h6]
      rcases h7 with h7 | ⟨h7, h8⟩
      · exact lessB_head (by omega) (by rw [h.lay j' y h3 h4 h5, hxl])
      · subst h7
        refine lessB_cons _ ?_
        have l1 := (List.getElem?_eq_some_iff.1 h3)
        have l2 := (List.getElem?_eq_some_iff.1 hx)
        have := List.pairwise_iff_getElem.1 h.inc j' r l1.1 l2.1 h8
        rw [l1.2, l2.2] at this; exact this
  have hold : ∀ (e' j' : Nat), (e' < e ∨ (e' = e ∧ j' < r + 1)) → (e' < e ∨ (e' = e ∧ j' < r)) ∨ (e' = e ∧ j' = r) := by omega
  unfold igStep
  by_cases hk : knownB l (op e x.1) = true
  · rw [if_pos hk]
    refine ⟨h.inc, h.nd, h.run, h.ft, h.tl, h.low, h.lay, fun j q hq hj => ?_, h.cov, fun e' j' y hd h1 h2 hy => ?_⟩
    · obtain ⟨e', j', y, h3, h4, h5, h6, h7⟩ := h.new j q hq hj
      exact ⟨e', j', y, h3, h4, h5, h6, by omega⟩
    · rcases hold e' j' hd with h3 | ⟨rfl, rfl⟩
      · exact h.dn e' j' y h3 h1 h2 hy
      · rw [hx] at hy
        have := Option.some.inj hy
        subst this
        obtain ⟨z, hz, e1⟩ := (knownB_iff _ _).1 hk
        obtain ⟨i, hi⟩ := List.mem_iff_getElem?.1 hz
        exact ⟨z, hz, e1, .inr (hless i z hi)⟩
  · rw [if_neg hk]
    have up : ∀ {j : Nat} {q : σ × List Int}, l[j]? = some q → (l ++ [(op e x.1, (e : Int) :: x.2)])[j]? = some q := fun {j q} hq => by
      rw [List.getElem?_append_left (List.getElem?_eq_some_iff.1 hq).1]; exact hq
    have dw : ∀ {j : Nat} {q : σ × List Int}, (l ++ [(op e x.1, (e : Int) :: x.2)])[j]? = some q → l[j]? = some q ∨ (j = l.length ∧ q = (op e x.1, (e : Int) :: x.2)) := fun {j q} hq => by
      have hj := (List.getElem?_eq_some_iff.1 hq).1
      simp at hj
      rcases Nat.lt_or_ge j l.length with h1 | h1
      · rw [List.getElem?_append_left h1] at hq; exact .inl hq
      · have : j = l.length := by omega
        subst this
        rw [List.getElem?_append_right (Nat.le_refl _)] at hq
        have : (op e x.1, (e : Int) :: x.2) = q := by simpa using hq
        exact .inr ⟨rfl, this.symm⟩
    have htl := h.tl
    refine ⟨?_, ?_, fun q hq => ?_, h.ft, by simp; omega, fun j q hq hj => ?_, fun j q hq h1 h2 => ?_, fun j q hq hj => ?_, fun u hu hl => ?_, fun e' j' y hd h1 h2 hy => ?_⟩
    · rw [List.pairwise_append]
      refine ⟨h.inc, by simp, fun a ha b hb => ?_⟩
      have : b = (op e x.1, (e : Int) :: x.2) := by simpa using hb
      subst this
      obtain ⟨j, hj⟩ := List.mem_iff_getElem?.1 ha
      exact hless j a hj
    · rw [List.map_append, List.nodup_append]
      refine ⟨h.nd, by simp, fun a ha b hb e1 => ?_⟩
      have hb : b = op e x.1 := by simpa using hb
      obtain ⟨q, hq, e2⟩ := List.mem_map.1 ha
      exact hk ((knownB_iff _ _).2 ⟨q, hq, by rw [e2, e1, hb]⟩)
    · rcases List.mem_append.1 hq with hq | hq
      · exact h.run q hq
      · have : q = (op e x.1, (e : Int) :: x.2) := by simpa using hq
        subst this
        refine ⟨by rw [val_cons, ← hxr.1], fun c hc => ?_⟩
        rcases List.mem_cons.1 hc with rfl | hc
        · omega
        · exact hxr.2 c hc
    · have hft := h.ft
      rcases dw hq with h1 | ⟨h1, -⟩
      · exact h.low j q h1 hj
      · omega
    · rcases dw hq with h3 | ⟨h3, -⟩
      · exact h.lay j q h3 h1 h2
      · omega
    · rcases dw hq with h3 | ⟨h3, rfl⟩
      · obtain ⟨e', j', y, k3, k4, k5, k6, k7⟩ := h.new j q h3 hj
        exact ⟨e', j', y, up k3, k4, k5, k6, by omega⟩
      · exact ⟨e, r, x, up hx, hf, hr, rfl, .inr ⟨rfl, by omega⟩⟩
    · obtain ⟨q, h1, h2⟩ := h.cov u hu hl
      exact ⟨q, List.mem_append_left _ h1, h2⟩
    · rcases dw hy with hy2 | ⟨hy2, -⟩
      · rcases hold e' j' hd with h3 | ⟨rfl, rfl⟩
        · obtain ⟨z, k1, k2⟩ := h.dn e' j' y h3 h1 h2 hy2
          exact ⟨z, List.mem_append_left _ k1, k2⟩
        · rw [hx] at hy2
          have := Option.some.inj hy2
          subst this
          exact ⟨(op e' x.1, (e' : Int) :: x.2), List.mem_append_right _ (by simp), rfl, leW_refl _⟩
      · omega
theorem ig_event {s0 : σ} {ev n frm to e r : Nat} {l : List (σ × List Int)} (h : IG op s0 ev n frm to e r l) (hr : to ≤ r) : IG op s0 ev n frm to (e + 1) frm l := by
  refine ⟨h.inc, h.nd, h.run, h.ft, h.tl, h.low, h.lay, fun j q hq hj => ?_, h.cov, fun e' j' y hd h1 h2 hy => ?_⟩
  · obtain ⟨e', j', y, h3, h4, h5, h6, h7⟩ := h.new j q hq hj
    exact ⟨e', j', y, h3, h4, h5, h6, by omega⟩
  · exact h.dn e' j' y (by omega) h1 h2 hy
theorem ig_next {s0 : σ} {ev n frm to r : Nat} {l : List (σ × List Int)} (h : IG op s0 ev n frm to ev r l) : IG op s0 ev (n + 1) to l.length 0 to l := by
  refine ⟨h.inc, h.nd, h.run, h.tl, Nat.le_refl _, fun j x hx hj => ?_, fun j x hx h1 h2 => ?_, fun j x hx hj => ?_, fun u hu hl => ?_, fun e' j' y hd h1 h2 hy => by omega⟩
  · have := (ig_lenof h hx).2 hj; omega
  · obtain ⟨e', j', y, h3, h4, h5, h6, -⟩ := h.new j x hx h1
    rw [h6, List.length_cons, h.lay j' y h3 h4 h5]
  · have := (List.getElem?_eq_some_iff.1 hx).1; omega
  · rcases Nat.lt_or_ge n u.length with hgt | hle
    · cases u with
      | nil => simp at hgt
      | cons e' v =>
        have hev := hu e' (by simp)
        have hv : v.length = n := by simp at hgt hl; omega
        obtain ⟨x, hx, e1, e2⟩ := h.cov v (fun c hc => hu c (by simp [hc])) (by omega)
        have hr := h.run x hx
        have hlx := leW_len e2
        obtain ⟨j, hj⟩ := List.mem_iff_getElem?.1 hx
        have hjt : j < to := by
          rcases Nat.lt_or_ge j to with h1 | h1
          · exact h1
          · obtain ⟨e'', j', y, h3, h4, h5, h6, -⟩ := h.new j x hj h1
            have := h.lay j' y h3 h4 h5
            rw [h6, List.length_cons] at hlx; omega
        rcases Nat.lt_or_ge j frm with h1 | h1
        · have hlow := h.low j x hj h1
          obtain ⟨z, hz, k1, k2⟩ := h.cov (e' :: x.2) (fun c hc => by
            rcases List.mem_cons.1 hc with rfl | hc
            · exact hev
            · exact hr.2 c hc) (by simp; omega)
          refine ⟨z, hz, ?_, leW_trans k2 (leW_cons e' e2)⟩
          rw [k1]
          show op e'.toNat (valB op s0 x.2) = op e'.toNat (valB op s0 v)
          rw [← e1, hr.1]
        · obtain ⟨z, hz, k1, k2⟩ := h.dn e'.toNat j x (by omega) h1 hjt hj
          have hc : ((e'.toNat : Nat) : Int) = e' := by omega
          rw [hc] at k2
          refine ⟨z, hz, ?_, leW_trans k2 (leW_cons e' e2)⟩
          rw [k1, e1]; rfl
    · exact h.cov u hu hle
/-- Where nothing is left to go on from, each word's set is there, with a word that is no greater. -/
theorem ig_all {s0 : σ} {ev n frm to e r : Nat} {l : List (σ × List Int)} (h : IG op s0 ev n frm to e r l) (hf : l.length ≤ frm) : ∀ (u : List Int), (∀ c ∈ u, 0 ≤ c ∧ c < (ev : Int)) → ∃ x ∈ l, x.1 = valB op s0 u ∧ leW x.2 u
  | [], hu => h.cov [] hu (Nat.zero_le _)
  | e' :: v, hu => by
    obtain ⟨x, hx, e1, e2⟩ := ig_all h hf v (fun c hc => hu c (by simp [hc]))
    have hr := h.run x hx
    obtain ⟨j, hj⟩ := List.mem_iff_getElem?.1 hx
    have hlow := h.low j x hj (by have := (List.getElem?_eq_some_iff.1 hj).1; omega)
    obtain ⟨z, hz, k1, k2⟩ := h.cov (e' :: x.2) (fun c hc => by
      rcases List.mem_cons.1 hc with rfl | hc
      · exact hu c (by simp)
      · exact hr.2 c hc) (by simp; omega)
    refine ⟨z, hz, ?_, leW_trans k2 (leW_cons e' e2)⟩
    rw [k1]
    show op e'.toNat (valB op s0 x.2) = op e'.toNat (valB op s0 v)
    rw [← e1, hr.1]
end

end Go.Proofs.YtmlkpdeidpcidaaDoor
namespace Go.Proofs.YtmlkpdeidpcidaaDoor
open Go.RowKit
set_option linter.unusedVariables false

/-- A list of places in memory. -/
def RdC (W : World) (a : Option Addr) (L : List PlC) : Prop := L = [] ∨ ∃ g o, a = some ⟨g, o, none⟩ ∧ g < W.heap.size ∧ ∀ (k : Nat) (q : PlC), L[k]? = some q → ∀ (j : Nat) (u : Value), (pccells q)[j]? = some u → W.cell? ⟨g, o + k * 5 + j, none⟩ = some u
theorem RdC.below {W W' : World} {a : Option Addr} {L : List PlC} (h : RdC W a L) (hb : Below W.heap.size W W') : RdC W' a L := by
  rcases h with h | ⟨g, o, e, hg, hc⟩
  · exact .inl h
  · exact .inr ⟨g, o, e, Nat.lt_of_lt_of_le hg hb.size, fun k q hq j u hu => (hb.cell (p := ⟨g, o + k * 5 + j, none⟩) hg).trans (hc k q hq j u hu)⟩
theorem RdC.take {W : World} {a : Option Addr} {L : List PlC} (h : RdC W a L) (n : Nat) : RdC W a (L.take n) := by
  rcases h with h | ⟨g, o, e, hg, hc⟩
  · exact .inl (by rw [h]; simp)
  · refine .inr ⟨g, o, e, hg, fun k q hq => hc k q ?_⟩
    have hk := (List.getElem?_eq_some_iff.1 hq).1
    rw [List.length_take] at hk
    rwa [List.getElem?_take_of_lt (by omega)] at hq
theorem OwnC.rd {W : World} {B : Nat} {v : Value} {L : List PlC} (h : OwnC W B v L) : ∃ a c, v = .slice a L.length c ∧ RdC W a L ∧ L.length ≤ maxLen ∧ (L.length ≤ c) := by
  rcases h.2 with ⟨rfl, hn⟩ | ⟨g, cap, cur, rfl, hg, hh, hnc, hcm, hcs, ht⟩
  · have : L = [] := List.eq_nil_of_length_eq_zero hn
    subst this
    exact ⟨none, 0, rfl, .inl rfl, Nat.zero_le _, Nat.le_refl _⟩
  · refine ⟨_, cap, rfl, .inr ⟨g, 0, rfl, (Array.getElem?_eq_some_iff.1 hh).1, fun k q hq j u hu => ?_⟩, Nat.le_trans hnc hcm, hnc⟩
    obtain ⟨g', cap', e, -, -, hc⟩ := h.cell hq
    cases e
    rw [Nat.zero_add]
    exact hc j u hu
/-- None of the first k is meant. -/
def noneP (f : PlC → Bool) (L : List PlC) (k : Nat) : Prop := ∀ (i : Nat) (z : PlC), i < k → L[i]? = some z → f z = false
theorem noneP_zero (f : PlC → Bool) (L : List PlC) : noneP f L 0 := fun i z h => absurd h (Nat.not_lt_zero _)
theorem noneP_succ {f : PlC → Bool} {L : List PlC} {k : Nat} {q : PlC} (h : noneP f L k) (hq : L[k]? = some q) (hf : f q = false) : noneP f L (k + 1) := fun i z hi hz => by
  by_cases e : i = k
  · subst e
    rw [hq] at hz
    have := Option.some.inj hz
    subst this; exact hf
  · exact h i z (by omega) hz
theorem noneP_all {f : PlC → Bool} {L : List PlC} {k : Nat} (h : noneP f L k) (hk : L.length ≤ k) : ∀ q ∈ L, f q = false := fun q hq => by
  obtain ⟨i, hi⟩ := List.mem_iff_getElem?.1 hq
  exact h i q (by have := (List.getElem?_eq_some_iff.1 hi).1; omega) hi
/-- What IndexFunc answers. -/
def IdxR (f : PlC → Bool) (L : List PlC) (r : Int) : Prop := (r = -1 ∧ ∀ q ∈ L, f q = false) ∨ ∃ (j : Nat) (q : PlC), r = (j : Int) ∧ L[j]? = some q ∧ f q = true ∧ noneP f L j
theorem rdc_cells {W : World} {g o : Nat} {q : PlC} {k : Nat} (h : ∀ (j : Nat) (u : Value), (pccells q)[j]? = some u → W.cell? ⟨g, o + k * 5 + j, none⟩ = some u) : W.cell? ⟨g, o + k * 5, none⟩ = some (.int .u64 (q.s 0)) ∧ W.cell? ⟨g, o + k * 5 + 1, none⟩ = some (.int .u64 (q.s 1)) ∧ W.cell? ⟨g, o + k * 5 + 2, none⟩ = some (.int .u64 (q.s 2)) ∧ W.cell? ⟨g, o + k * 5 + 3, none⟩ = some (.int .u64 (q.s 3)) ∧ W.cell? ⟨g, o + k * 5 + 4, none⟩ = some q.v :=
  ⟨h 0 _ rfl, h 1 _ rfl, h 2 _ rfl, h 3 _ rfl, h 4 _ rfl⟩

end Go.Proofs.YtmlkpdeidpcidaaDoor
namespace Go.Proofs.YtmlkpdeidpcidaaDoor
open Go.RowKit
set_option linter.unusedVariables false

/-- Does a row tell the beginning? -/
def tellB (p : Plant) (row : List Int) : Bool := leakB p.secret (row.filter fun n => hasB p.m.starts n == true)
theorem tell_on {p : Plant} (hm : mayB p.m = true) {u row : List Int} (h : row = valB (opB p) (rngI p.m.st.toNat) u) : tellB p row = leakB p.secret (beganL p (wordS p.seen u)) := by
  unfold tellB; rw [h, on_val hm, began_row hm]
/-- Nothing found ahead of k tells. -/
structure LIn (p : Plant) (n frm to e r k : Nat) (l : List (List Int × List Int)) : Prop where
  ig : IG (opB p) (rngI p.m.st.toNat) p.seen.length n frm to e r l
  no : ∀ (j : Nat) (x : List Int × List Int), j < k → l[j]? = some x → tellB p x.1 = false
theorem LIn.bound {p : Plant} (hp : mayP p = true) {n frm to e r k : Nat} {l : List (List Int × List Int)} (h : LIn p n frm to e r k l) : l.length ≤ 64 := by
  obtain ⟨hm, z, -, -⟩ := (mayP_iff p).1 hp
  have h1 := nodup_sub (m := subs 6) h.ig.nd (fun s hs => by
    obtain ⟨x, hx, rfl⟩ := List.mem_map.1 hs
    obtain ⟨e1, -⟩ := h.ig.run x hx
    rw [e1, on_val hm]
    exact mem_subs 6 _ (inc_flt (inc_rng9 _) _) (fun y hy => by have := ((mem_on _ _ _).1 hy).1; omega))
  rw [List.length_map, subs_len] at h1
  exact h1
/-! Sets gone back to. -/
/-- Where an arrow stands in the table: by its event (as the plant numbers it) and where it leads to. -/
def frI (seen : List Int) (a : Arr) : Int := (seen[a.e.toNat]?.getD 0) * 6 + a.t
def baT (p : Plant) : Nat → Nat → Nat := tabK (frI p.seen) Arr.f (hideM p.m p.seen).arrows
/-- What goes back from a set, at an event. -/
def backS (p : Plant) (S : Nat → Nat) (e : Nat) : Nat → Nat := toF (fun n => baT p (e * 6 + n)) (allS S)
theorem ok_back (p : Plant) (S : Nat → Nat) (e : Nat) : okS (backS p S e) := ok_toF (fun n => okS_tabK _ _ _ _) _
theorem rep_back {p : Plant} (hp : mayP p = true) {S : Nat → Nat} {s : List Int} (hr : Rep S s) (hb : ∀ x ∈ s, 0 ≤ x ∧ x < p.m.st) {k : Nat} (hk : k < p.seen.length) : RepI (backS p S (p.seen[k]?.getD 0).toNat) (opB p k s) := by
  obtain ⟨hm, z6, hs, -⟩ := (mayP_iff p).1 hp
  have hz := mayB_size hm
  unfold sizeOk at hz
  have hrow := (rowB_iff _ (by omega) _).1 hs
  refine ⟨⟨ok_back _ _ _, fun x hx => ?_, fun n hn => ?_⟩, inc_flt (inc_rng9 _) _⟩
  · have := ((mem_into _ _ _ _).1 hx).1; omega
  · unfold backS
    rw [has_toF]
    show _ ↔ (n : Int) ∈ intoL p s (p.seen[k]?.getD 0)
    rw [mem_into]
    have hsk : ∀ j : Nat, j < p.seen.length → 0 ≤ p.seen[j]?.getD 0 := fun j hj => by
      rw [List.getElem?_eq_getElem hj, Option.getD_some]
      exact (hrow.2 _ (List.getElem_mem hj)).1
    constructor
    · rintro ⟨m, hm1, hm2⟩
      obtain ⟨a, ha, e1, e2⟩ := (has_tabK _ _ _ _ _).1 hm2
      obtain ⟨f, j, hf, hj, hrw⟩ := (mem_hAll _ _ _ _).1 (show a ∈ hAll p.m p.seen p.m.st.toNat from ha)
      obtain ⟨t, ht, rfl⟩ := (mem_hRow _ _ _ _ _).1 hrw
      have htb := (see_in hm (wideL p.m.arrows p.seen [(f : Int)]) (p.seen[j]?.getD 0)).2 t ht
      have hms := (mem_allS _ _).1 hm1
      have hmb := hb (m : Int) ((hr.mem m hms.1).1 hms.2)
      simp only [frI, Int.toNat_natCast] at e1 e2
      have hj0 := hsk j hj
      have hk0 := hsk k hk
      have e3 : p.seen[k]?.getD 0 = p.seen[j]?.getD 0 ∧ t = (m : Int) := by omega
      subst e2
      refine ⟨⟨by omega, by omega⟩, t, ?_, ?_⟩
      · rw [e3.1]; exact ht
      · rw [e3.2]; exact (hr.mem m hms.1).1 hms.2
    · rintro ⟨h1, t, ht, hts⟩
      have htb := hb t hts
      have hk0 := hsk k hk
      refine ⟨t.toNat, (mem_allS _ _).2 ⟨by omega, (hr.mem _ (by omega)).2 (by rwa [Int.toNat_of_nonneg htb.1])⟩, (has_tabK _ _ _ _ _).2 ⟨⟨(n : Int), (k : Int), t⟩, ?_, ?_, by simp⟩⟩
      · exact (mem_hAll _ _ _ _).2 ⟨n, k, by omega, hk, (mem_hRow _ _ _ _ _).2 ⟨t, ht, rfl⟩⟩
      · simp only [frI, Int.toNat_natCast]; omega
theorem bd_op {p : Plant} (hm : mayB p.m = true) (k : Nat) (s : List Int) : ∀ x ∈ opB p k s, 0 ≤ x ∧ x < p.m.st := fun x hx => by
  have hz := mayB_size hm
  unfold sizeOk at hz
  have := ((mem_into _ _ _ _).1 hx).1; omega
theorem bd_rng {p : Plant} (hm : mayB p.m = true) : ∀ x ∈ rngI p.m.st.toNat, 0 ≤ x ∧ x < p.m.st := fun x hx => by
  have hz := mayB_size hm
  unfold sizeOk at hz
  have := (mem_rng9 _ _).1 hx; omega
theorem bd_val {p : Plant} (hm : mayB p.m = true) : ∀ u : List Int, ∀ x ∈ valB (opB p) (rngI p.m.st.toNat) u, 0 ≤ x ∧ x < p.m.st
  | [] => bd_rng hm
  | k :: u => bd_op hm _ _
/-- All states, as a set. -/
def allF (n : Nat) : Nat → Nat := ofS (rngI n)
theorem allF_succ (n : Nat) : allF (n + 1) = withS (allF n) n := by unfold allF; rw [rngI_succ, ofS_snoc, Int.toNat_natCast]
theorem rep_all {n : Nat} (h : n ≤ 256) : RepI (allF n) (rngI n) := by
  have := rep_of (l := rngI n) (fun x hx => by have := (mem_rng9 _ _).1 hx; omega) n
  rw [List.take_of_length_le (by simp [rngI])] at this
  exact ⟨this, inc_rng9 _⟩
theorem ok_allF (n : Nat) : okS (allF n) := by
  induction n with
  | zero => exact okS_zero
  | succ n ih => rw [allF_succ]; exact okS_with ih _
/-- Does a set tell the beginning, as the program tells it? -/
def tellS (S T R : Nat → Nat) : Bool := !emptyB (meetS S T) && emptyB (lessS (meetS S T) R)
theorem rep_meet {S T : Nat → Nat} {l k : List Int} (h : Rep S l) (h' : Rep T k) : Rep (meetS S T) (l.filter fun n => hasB k n == true) := by
  refine ⟨okS_meet h.ok, fun x hx => h.bd x (List.mem_filter.1 hx).1, fun n hn => ?_⟩
  rw [hasS_meet, Bool.and_eq_true, h.mem n hn, h'.mem n hn, List.mem_filter]
  refine and_congr_right fun _ => ?_
  unfold hasB; simp
theorem tell_set {S T R : Nat → Nat} {p : Plant} {s : List Int} (h : Rep S s) (hT : Rep T p.m.starts) (hR : Rep R p.secret) : tellS S T R = tellB p s := by
  unfold tellS tellB
  have hm := rep_meet h hT
  generalize (s.filter fun n => hasB p.m.starts n == true) = row at hm
  generalize meetS S T = M at hm
  unfold leakB
  cases he : emptyB M with
  | true =>
    have : row = [] := by
      rw [List.eq_nil_iff_forall_not_mem]
      intro x hx
      obtain ⟨b0, b1⟩ := hm.bd x hx
      have h1 := empty_has he x.toNat (by omega)
      rw [(hm.mem x.toNat (by omega)).2 (by rwa [Int.toNat_of_nonneg b0])] at h1
      cases h1
    subst this; rfl
  | false =>
    obtain ⟨n, hn, h1⟩ := empty_not hm.ok he
    have hpos : 0 < row.length := List.length_pos_of_mem ((hm.mem n hn).1 h1)
    rw [decide_eq_true hpos]
    simp only [Bool.not_false, Bool.true_and]
    cases hl : emptyB (lessS M R) with
    | true =>
      symm
      rw [decide_eq_true_eq, List.length_eq_zero_iff, List.filter_eq_nil_iff]
      intro x hx
      obtain ⟨b0, b1⟩ := hm.bd x hx
      have h2 := empty_has hl x.toNat (by omega)
      rw [hasS_less hR.ok, (hm.mem x.toNat (by omega)).2 (by rwa [Int.toNat_of_nonneg b0])] at h2
      have h3 : hasS R x.toNat = true := by simpa using h2
      have := (hR.mem x.toNat (by omega)).1 h3
      rw [Int.toNat_of_nonneg b0] at this
      unfold hasB; simpa using this
    | false =>
      obtain ⟨m, hm1, h2⟩ := empty_not (okS_less hm.ok) hl
      rw [hasS_less hR.ok] at h2
      simp only [Bool.and_eq_true, Bool.not_eq_true'] at h2
      have m1 := (hm.mem m hm1).1 h2.1
      have m2 : ¬ (m : Int) ∈ p.secret := fun hk => by
        have := (hR.mem m hm1).2 hk
        rw [h2.2] at this; cases this
      symm
      rw [decide_eq_false_iff_not]
      have : 0 < (row.filter fun n => hasB p.secret n == false).length := List.length_pos_of_mem (List.mem_filter.2 ⟨m1, by unfold hasB; simpa using m2⟩)
      omega

end Go.Proofs.YtmlkpdeidpcidaaDoor
namespace Go.Proofs.YtmlkpdeidpcidaaDoor
open Go.RowKit
set_option linter.unusedVariables false

/-! All estimates. -/
structure LE (p : Plant) (k : Nat) (l : List (List Int × List Int)) : Prop where
  bi : BI (seeD p) (wideL p.m.arrows p.seen p.m.starts) p.seen.length k 0 l
  go : fwdL p = bfGo (seeD p) p.seen.length (65 - k) k l
theorem LE.start (p : Plant) : LE p 0 [(wideL p.m.arrows p.seen p.m.starts, [])] := ⟨bi_start _ _ _, rfl⟩
theorem LE.next {p : Plant} {k : Nat} {l : List (List Int × List Int)} (h : LE p k l) {x : List Int × List Int} (hx : l[k]? = some x) (hk : k < 65) : LE p (k + 1) (bfRow (seeD p) x l p.seen.length) :=
  ⟨bi_next _ h.bi hx, by rw [h.go, show 65 - k = (65 - (k + 1)) + 1 by omega, bfGo, hx]⟩
theorem LE.all {p : Plant} {k : Nat} {l : List (List Int × List Int)} (h : LE p k l) (hk : k = l.length) : fwdL p = l := by
  rw [h.go]
  have hx : l[k]? = none := List.getElem?_eq_none (by omega)
  cases 65 - k with
  | zero => rfl
  | succ f => unfold bfGo; rw [hx]
theorem fwd_found {p : Plant} {k : Nat} {x : List Int × List Int} (hno : ∀ (j : Nat) (y : List Int × List Int), j < k → (fwdL p)[j]? = some y → leakB p.secret y.1 = false) (hx : (fwdL p)[k]? = some x) (ho : leakB p.secret x.1 = true) : outC p = some (wordS p.seen x.2) := by
  unfold outC
  have : (fwdL p).find? (fun x => leakB p.secret x.1) = some x := by
    rw [List.find?_eq_some_iff_getElem]
    have hk := (List.getElem?_eq_some_iff.1 hx).1
    refine ⟨ho, k, hk, (List.getElem?_eq_some_iff.1 hx).2, fun j hj => ?_⟩
    have := hno j _ hj (List.getElem?_eq_getElem (Nat.lt_trans hj hk))
    rw [this]; rfl
  rw [this]; rfl
theorem fwd_not {p : Plant} {k : Nat} (hno : ∀ (j : Nat) (y : List Int × List Int), j < k → (fwdL p)[j]? = some y → leakB p.secret y.1 = false) (hk : (fwdL p).length ≤ k) : outC p = none := by
  unfold outC
  rw [Option.map_eq_none_iff, List.find?_eq_none]
  intro x hx
  obtain ⟨j, hj⟩ := List.mem_iff_getElem?.1 hx
  have := hno j x (by have := (List.getElem?_eq_some_iff.1 hj).1; omega) hj
  rw [this]; simp
theorem no_more {f : List Int → Bool} {l : List (List Int × List Int)} {k : Nat} {x : List Int × List Int} (h : ∀ (j : Nat) (y : List Int × List Int), j < k → l[j]? = some y → f y.1 = false) (hx : l[k]? = some x) (ho : f x.1 = false) : ∀ (j : Nat) (y : List Int × List Int), j < k + 1 → l[j]? = some y → f y.1 = false := fun j y hj hy => by
  by_cases e : j = k
  · subst e
    rw [hx] at hy
    have := Option.some.inj hy
    subst this; exact ho
  · exact h j y (by omega) hy

/-! All rows gone back to. -/
structure Orig (p : Plant) (l : List (List Int × List Int)) : Prop where
  inc : l.Pairwise fun a b => lessB a.2 b.2 = true
  run : ∀ x ∈ l, x.1 = valB (opB p) (rngI p.m.st.toNat) x.2 ∧ ∀ c ∈ x.2, 0 ≤ c ∧ c < (p.seen.length : Int)
  cov : ∀ u : List Int, (∀ c ∈ u, 0 ≤ c ∧ c < (p.seen.length : Int)) → ∃ x ∈ l, x.1 = valB (opB p) (rngI p.m.st.toNat) u ∧ leW x.2 u
  len : l.length ≤ 64
  wl : ∀ x ∈ l, x.2.length ≤ 64
theorem ig_bound {p : Plant} (hp : mayP p = true) {n frm to e r : Nat} {l : List (List Int × List Int)} (h : IG (opB p) (rngI p.m.st.toNat) p.seen.length n frm to e r l) : l.length ≤ 64 :=
  LIn.bound (k := 0) hp ⟨h, fun j x hj => absurd hj (Nat.not_lt_zero _)⟩
theorem orig_of {p : Plant} (hp : mayP p = true) {n frm to e r : Nat} {l : List (List Int × List Int)} (h : IG (opB p) (rngI p.m.st.toNat) p.seen.length n frm to e r l) (hf : l.length ≤ frm) (hn : n ≤ frm) : Orig p l := by
  have hb := ig_bound hp h
  refine ⟨h.inc, h.run, ig_all h hf, hb, fun x hx => ?_⟩
  obtain ⟨j, hj⟩ := List.mem_iff_getElem?.1 hx
  have h1 := (List.getElem?_eq_some_iff.1 hj).1
  have h2 := h.low j x hj (by omega)
  have h3 := h.ft
  have h4 := h.tl
  omega
theorem orig_found {p : Plant} (hp : mayP p = true) {l : List (List Int × List Int)} (h : Orig p l) {k : Nat} {x : List Int × List Int} (hno : ∀ (j : Nat) (y : List Int × List Int), j < k → l[j]? = some y → tellB p y.1 = false) (hx : l[k]? = some x) (ho : tellB p x.1 = true) : outI p = some (wordS p.seen x.2) := by
  obtain ⟨hm, z, hs, -⟩ := (mayP_iff p).1 hp
  have hi := seen_inc hp
  have hr := h.run x (List.mem_of_getElem? hx)
  rw [tell_on hm hr.1] at ho
  cases hO : outI p with
  | none =>
    have := outI_none hp hO _ (word_in hr.2)
    rw [ho] at this; cases this
  | some v =>
    obtain ⟨v1, v2, -, v3⟩ := outI_some hp hO
    have hvx := v3 _ (word_in hr.2) ho
    have hw := word_idx v2
    obtain ⟨q, hq, e1, e2⟩ := h.cov _ (idx_in v2)
    have hqt : tellB p q.1 = true := by rw [tell_on hm e1, hw]; exact v1
    obtain ⟨j, hj⟩ := List.mem_iff_getElem?.1 hq
    have hkj : k ≤ j := by
      rcases Nat.lt_or_ge j k with h1 | h1
      · rw [hno j q h1 hj] at hqt; cases hqt
      · exact h1
    have hle : leW x.2 q.2 := by
      rcases Nat.lt_or_ge k j with h1 | h1
      · have l1 := List.getElem?_eq_some_iff.1 hx
        have l2 := List.getElem?_eq_some_iff.1 hj
        have := List.pairwise_iff_getElem.1 h.inc k j l1.1 l2.1 h1
        rw [l1.2, l2.2] at this
        exact .inr this
      · have : j = k := by omega
        subst this
        rw [hx] at hj
        have := Option.some.inj hj
        subst this; exact leW_refl _
    have hle2 := leW_trans hle e2
    rcases hle2 with h3 | h3
    · rw [h3, hw]
    · rw [← lessB_word hi hr.2 (idx_in v2), hw] at h3
      rw [hvx] at h3; cases h3
theorem orig_not {p : Plant} (hp : mayP p = true) {l : List (List Int × List Int)} (h : Orig p l) {k : Nat} (hno : ∀ (j : Nat) (y : List Int × List Int), j < k → l[j]? = some y → tellB p y.1 = false) (hk : l.length ≤ k) : outI p = none := by
  obtain ⟨hm, z, hs, -⟩ := (mayP_iff p).1 hp
  cases hO : outI p with
  | none => rfl
  | some v =>
    obtain ⟨v1, v2, -, -⟩ := outI_some hp hO
    obtain ⟨q, hq, e1, -⟩ := h.cov _ (idx_in v2)
    obtain ⟨j, hj⟩ := List.mem_iff_getElem?.1 hq
    have := hno j q (by have := (List.getElem?_eq_some_iff.1 hj).1; omega) hj
    rw [tell_on hm e1, word_idx v2, v1] at this; cases this

/-- What both sets have, asked so, is what two lists tell. -/
theorem only_meet {S T R : Nat → Nat} {a b k : List Int} (hS : Rep S a) (hT : Rep T b) (hR : Rep R k) (hb : b.Nodup) : onlyS (meetS S T) R = leakB k (meetR a b) := by
  rw [only_set (rep_meet hS hT) hR, meetR_eq hb]
  congr 1
  refine List.filter_congr (fun x _ => ?_)
  cases hasB b x <;> rfl

/-! Which of two lists come first. -/
/-- What is known when the befores from k on were gone through. -/
def SF (secret : List Int) (A B : List Kno) (k : Nat) (o : Option (List Int × List Int)) : Prop := PIn secret (-1) ((A.drop k).flatMap fun x => B.map fun y => (x, y)) o
theorem SF.start (secret : List Int) (A B : List Kno) : SF secret A B A.length none := by
  unfold SF
  rw [List.drop_length]
  exact ⟨fun _ c hc => by simp at hc, fun q hq => by cases hq⟩
theorem drop_mem {A B : List Kno} {k : Nat} {x : Kno} (hx : A[k]? = some x) (c : Kno × Kno) : (c ∈ (A.drop k).flatMap fun x => B.map fun y => (x, y)) ↔ (c.1 = x ∧ c.2 ∈ B) ∨ c ∈ (A.drop (k + 1)).flatMap fun x => B.map fun y => (x, y) := by
  obtain ⟨hk, e⟩ := List.getElem?_eq_some_iff.1 hx
  rw [mem_twos, mem_twos, List.drop_eq_getElem_cons hk, e, List.mem_cons]
  constructor
  · rintro ⟨h1 | h1, h2⟩
    · exact .inl ⟨h1, h2⟩
    · exact .inr ⟨h1, h2⟩
  · rintro (⟨h1, h2⟩ | ⟨h1, h2⟩)
    · exact ⟨.inl h1, h2⟩
    · exact ⟨.inr h1, h2⟩
section
variable {secret : List Int} {A B : List Kno} {k : Nat} {x : Kno} {o : Option (List Int × List Int)}
/-- None tells with it. -/
theorem SF.none (h : SF secret A B (k + 1) o) (hx : A[k]? = some x) (hn : ∀ y ∈ B, okP secret (-1) x y = false) : SF secret A B k o := by
  have key : ∀ c : Kno × Kno, (c ∈ (A.drop k).flatMap fun x => B.map fun y => (x, y)) → okP secret (-1) c.1 c.2 = true → c ∈ (A.drop (k + 1)).flatMap fun x => B.map fun y => (x, y) := fun c hc ho => by
    rcases (drop_mem hx c).1 hc with ⟨h1, h2⟩ | h1
    · rw [h1, hn _ h2] at ho; cases ho
    · exact h1
  refine ⟨fun ho c hc => ?_, fun q hq => ?_⟩
  · cases hk : okP secret (-1) c.1 c.2 with
    | false => rfl
    | true => rw [← hk]; exact h.1 ho c (key c hc hk)
  · obtain ⟨⟨c, c1, c2, c3⟩, h2⟩ := h.2 q hq
    exact ⟨⟨c, (drop_mem hx c).2 (.inr c1), c2, c3⟩, fun d hd hdk => h2 d (key d hd hdk) hdk⟩
theorem first_least (hB : B.Pairwise fun a b => lessB a.2 b.2 = true) {j : Nat} {y : Kno} (hy : B[j]? = some y) (hl : ∀ (i : Nat) (z : Kno), i < j → B[i]? = some z → okP secret (-1) x z = false) : ∀ z ∈ B, okP secret (-1) x z = true → pairB x.2 z.2 x.2 y.2 = false := fun z hz ho => by
  obtain ⟨i, hi⟩ := List.mem_iff_getElem?.1 hz
  rcases Nat.lt_trichotomy i j with h1 | h1 | h1
  · rw [hl i z h1 hi] at ho; cases ho
  · subst h1
    rw [hi] at hy
    have := Option.some.inj hy
    subst this; exact pairB_irrefl _ _
  · have l1 := List.getElem?_eq_some_iff.1 hi
    have l2 := List.getElem?_eq_some_iff.1 hy
    have hlt := List.pairwise_iff_getElem.1 hB j i l2.1 l1.1 h1
    rw [l1.2, l2.2] at hlt
    rcases pair_mono (leW_refl x.2) (.inr hlt : leW y.2 z.2) with ⟨-, e⟩ | h2
    · rw [e]; exact pairB_irrefl _ _
    · cases hh : pairB x.2 z.2 x.2 y.2 with
      | false => rfl
      | true =>
        have := pairB_trans h2 hh
        rw [pairB_irrefl] at this; cases this
/-- The first one that tells with it takes the place. -/
theorem SF.put (h : SF secret A B (k + 1) o) (hx : A[k]? = some x) (hB : B.Pairwise fun a b => lessB a.2 b.2 = true) (hA : A.Pairwise fun a b => lessB a.2 b.2 = true) {j : Nat} {y : Kno} (hy : B[j]? = some y) (ho : okP secret (-1) x y = true) (hl : ∀ (i : Nat) (z : Kno), i < j → B[i]? = some z → okP secret (-1) x z = false) (hc : ∀ q, o = some q → x.2.length + y.2.length < q.1.length + q.2.length ∨ (x.2.length + y.2.length = q.1.length + q.2.length ∧ y.2.length ≤ q.2.length)) : SF secret A B k (some (x.2, y.2)) := by
  have hf := first_least (x := x) hB hy hl
  refine ⟨fun h => (by cases h), fun q hq => ?_⟩
  have hq := Option.some.inj hq
  subst hq
  refine ⟨⟨(x, y), (drop_mem hx _).2 (.inl ⟨rfl, List.mem_of_getElem? hy⟩), ho, rfl⟩, fun d hd hdk => ?_⟩
  rcases (drop_mem hx d).1 hd with ⟨h1, h2⟩ | h1
  · rw [h1] at hdk ⊢
    exact hf _ h2 hdk
  · cases o with
    | none =>
      have := h.1 rfl d h1
      rw [this] at hdk; cases hdk
    | some q =>
      obtain ⟨⟨c, c1, c2, c3⟩, h2⟩ := h.2 q rfl
      have h3 := h2 d h1 hdk
      have hcc := (mem_twos.1 c1).1
      obtain ⟨i, hi⟩ := List.mem_iff_getElem?.1 hcc
      rw [List.getElem?_drop] at hi
      have l1 := List.getElem?_eq_some_iff.1 hx
      have l2 := List.getElem?_eq_some_iff.1 hi
      have hlt := List.pairwise_iff_getElem.1 hA k (k + 1 + i) l1.1 l2.1 (by omega)
      rw [l1.2, l2.2] at hlt
      have hp : pairB x.2 y.2 q.1 q.2 = true := by
        rw [pairB_iff]
        rcases hc q rfl with h4 | ⟨h4, h5⟩
        · exact .inl h4
        · rcases Nat.lt_or_ge y.2.length q.2.length with h6 | h6
          · exact .inr ⟨h4, .inl h6⟩
          · refine .inr ⟨h4, .inr ⟨by omega, .inl ?_⟩⟩
            rw [c3]; exact hlt
      cases hh : pairB d.1.2 d.2.2 x.2 y.2 with
      | false => rfl
      | true => rw [pairB_trans hh hp] at h3; cases h3
/-- Or it does not, where what is there comes first. -/
theorem SF.keep {q : List Int × List Int} (h : SF secret A B (k + 1) (some q)) (hx : A[k]? = some x) (hB : B.Pairwise fun a b => lessB a.2 b.2 = true) {j : Nat} {y : Kno} (hy : B[j]? = some y) (hl : ∀ (i : Nat) (z : Kno), i < j → B[i]? = some z → okP secret (-1) x z = false) (hc : ¬ (x.2.length + y.2.length < q.1.length + q.2.length ∨ (x.2.length + y.2.length = q.1.length + q.2.length ∧ y.2.length ≤ q.2.length))) : SF secret A B k (some q) := by
  have hf := first_least (x := x) hB hy hl
  refine ⟨fun h => (by cases h), fun q' hq => ?_⟩
  have hq := Option.some.inj hq
  subst hq
  obtain ⟨⟨c, c1, c2, c3⟩, h2⟩ := h.2 q rfl
  refine ⟨⟨c, (drop_mem hx c).2 (.inr c1), c2, c3⟩, fun d hd hdk => ?_⟩
  rcases (drop_mem hx d).1 hd with ⟨h1, h3⟩ | h1
  · rw [h1] at hdk ⊢
    have h4 := hf _ h3 hdk
    have hp : pairB q.1 q.2 x.2 y.2 = true := by
      rw [pairB_iff]
      rcases Nat.lt_trichotomy (q.1.length + q.2.length) (x.2.length + y.2.length) with h5 | h5 | h5
      · exact .inl h5
      · exact .inr ⟨h5, .inl (by omega)⟩
      · omega
    cases hh : pairB x.2 d.2.2 q.1 q.2 with
    | false => rfl
    | true => rw [pairB_trans hh hp] at h4; cases h4
  · exact h2 d h1 hdk
end
/-- Those whose lists are short enough. -/
structure UpTo (most : Int) (l l' : List (List Int × List Int)) : Prop where
  sub : l' <+: l
  short : 0 ≤ most → ∀ x ∈ l', (x.2.length : Int) ≤ most
  all : ∀ x ∈ l, (0 ≤ most → (x.2.length : Int) ≤ most) → x ∈ l'
theorem upTo_any {most : Int} (h : most < 0) (l : List (List Int × List Int)) : UpTo most l l := ⟨List.prefix_refl _, fun h0 => by omega, fun x hx _ => hx⟩
theorem upTo_none {most : Int} {l : List (List Int × List Int)} (h : ∀ x ∈ l, ¬ most < (x.2.length : Int)) : UpTo most l l := ⟨List.prefix_refl _, fun _ x hx => by have := h x hx; omega, fun x hx _ => hx⟩
theorem upTo_at {most : Int} (h0 : 0 ≤ most) {l : List (List Int × List Int)} (hi : l.Pairwise fun a b => lessB a.2 b.2 = true) {k : Nat} {x : List Int × List Int} (hx : l[k]? = some x) (hl : most < (x.2.length : Int)) (hn : ∀ (j : Nat) (y : List Int × List Int), j < k → l[j]? = some y → ¬ most < (y.2.length : Int)) : UpTo most l (l.take k) := by
  refine ⟨List.take_prefix _ _, fun _ y hy => ?_, fun y hy hs => ?_⟩
  · obtain ⟨j, hj⟩ := List.mem_iff_getElem?.1 hy
    have hjl := (List.getElem?_eq_some_iff.1 hj).1
    have hjk : j < k := by rw [List.length_take] at hjl; omega
    rw [List.getElem?_take_of_lt hjk] at hj
    have := hn j y hjk hj
    omega
  · obtain ⟨j, hj⟩ := List.mem_iff_getElem?.1 hy
    have hjk : j < k := by
      rcases Nat.lt_trichotomy j k with h1 | h1 | h1
      · exact h1
      · subst h1
        rw [hx] at hj
        have := Option.some.inj hj
        subst this
        have := hs h0; omega
      · have l1 := List.getElem?_eq_some_iff.1 hj
        have l2 := List.getElem?_eq_some_iff.1 hx
        have hlt := List.pairwise_iff_getElem.1 hi k j l2.1 l1.1 h1
        rw [l1.2, l2.2] at hlt
        have := lessB_len hlt
        have := hs h0; omega
    exact List.mem_of_getElem? (i := j) (by rw [List.getElem?_take_of_lt hjk]; exact hj)
theorem kn_inc {seen : List Int} (hi : Inc seen) {l : List (List Int × List Int)} (h : l.Pairwise fun a b => lessB a.2 b.2 = true) (hr : ∀ x ∈ l, ∀ c ∈ x.2, 0 ≤ c ∧ c < (seen.length : Int)) : (knL seen l).Pairwise fun a b => lessB a.2 b.2 = true := by
  unfold knL
  rw [List.pairwise_map]
  refine List.Pairwise.imp_of_mem ?_ h
  intro a b ha hb hab
  show lessB (wordS seen a.2) (wordS seen b.2) = true
  rw [lessB_word hi (hr a ha) (hr b hb)]; exact hab
theorem fwd_inc {p : Plant} (hp : mayP p = true) : (knL p.seen (fwdL p)).Pairwise fun a b => lessB a.2 b.2 = true := by
  obtain ⟨hm, z, -, -⟩ := (mayP_iff p).1 hp
  have hI := fwd_all hm z
  exact kn_inc (seen_inc hp) hI.inc (fun x hx => (hI.run x hx).2)
theorem orig_inc {p : Plant} (hp : mayP p = true) {most : Int} {l l' : List (List Int × List Int)} (h : Orig p l) (hu : UpTo most l l') : (knL p.seen l').Pairwise fun a b => lessB a.2 b.2 = true :=
  kn_inc (seen_inc hp) (h.inc.sublist hu.sub.sublist) (fun x hx => (h.run x (hu.sub.subset hx)).2)
/-- What first answers is what is asked for (K2). -/
theorem sf_out {p : Plant} (hp : mayP p = true) {most : Int} {l l' : List (List Int × List Int)} (h : Orig p l) (hu : UpTo most l l') {o : Option (List Int × List Int)} (hs : SF p.secret (knL p.seen (fwdL p)) (knL p.seen l') 0 o) : outS p most = o := by
  obtain ⟨hm, z, -, -⟩ := (mayP_iff p).1 hp
  have hi := seen_inc hp
  unfold SF at hs
  rw [List.drop_zero] at hs
  have bmem : ∀ y ∈ knL p.seen l', y.1 = onL p y.2 ∧ (∀ e ∈ y.2, e ∈ p.seen) ∧ (0 ≤ most → (y.2.length : Int) ≤ most) := fun y hy => by
    obtain ⟨q, hq, rfl⟩ := List.mem_map.1 hy
    have hr := h.run q (hu.sub.subset hq)
    exact ⟨by show q.1 = _; rw [hr.1, on_val hm], word_in hr.2, fun h0 => by show ((wordS p.seen q.2).length : Int) ≤ most; rw [wordS_len]; exact hu.short h0 q hq⟩
  have bcov : ∀ v : List Int, (∀ e ∈ v, e ∈ p.seen) → (0 ≤ most → (v.length : Int) ≤ most) → ∃ y ∈ knL p.seen l', y.1 = onL p v ∧ leW y.2 v := fun v hv hsh => by
    obtain ⟨q, hq, e1, e2⟩ := h.cov (idxS p.seen v) (idx_in hv)
    have hr := h.run q hq
    have e3 := leW_word hi hr.2 (idx_in hv) e2
    rw [word_idx hv] at e3
    have hql : q ∈ l' := hu.all q hq (fun h0 => by
      have := leW_len e3
      rw [wordS_len] at this
      have := hsh h0; omega)
    exact ⟨(q.1, wordS p.seen q.2), List.mem_map.2 ⟨q, hql, rfl⟩, by show q.1 = _; rw [e1, on_val hm, word_idx hv], e3⟩
  have any1 : (0 : Int) ≤ -1 → False := by omega
  cases o with
  | none =>
    refine outS_no hp (fun w v hw hv hsh => ?_)
    obtain ⟨x, hx, x1, x2⟩ := fwd_cov hp hw
    obtain ⟨y, hy, y1, y2⟩ := bcov v hv hsh
    have h1 := hs.1 rfl (x, y) (mem_twos.2 ⟨hx, hy⟩)
    cases hl : leakB p.secret (wasL p w v) with
    | false => rfl
    | true =>
      rw [(okP_iff hp (most := -1) x1 y1).2 ⟨fun h0 => absurd h0 (fun h => any1 h), hl⟩] at h1
      cases h1
  | some q =>
    obtain ⟨⟨⟨x, y⟩, c1, c2, c3⟩, h2⟩ := hs.2 q rfl
    obtain ⟨hx, hy⟩ := mem_twos.1 c1
    dsimp only at hx hy c2 c3
    obtain ⟨x1, x2, -⟩ := fwd_mem hp hx
    obtain ⟨y1, y2, y3⟩ := bmem y hy
    subst c3
    refine outS_is hp x2 y2 y3 ((okP_iff hp (most := -1) x1 y1).1 c2).2 (fun w' v' hw hv hsh hl => ?_)
    obtain ⟨x', hx', x1', x2'⟩ := fwd_cov hp hw
    obtain ⟨y', hy', y1', y2'⟩ := bcov v' hv hsh
    exact pair_le x2' y2' (h2 (x', y') (mem_twos.2 ⟨hx', hy'⟩) ((okP_iff hp (most := -1) x1' y1').2 ⟨fun h0 => absurd h0 (fun h => any1 h), hl⟩))

/-! Where it was, by where it began. -/
/-- The plant that begins where a list leads. -/
def atP (p : Plant) (before : List Int) : Plant := { p with m := { p.m with starts := estL p before } }
theorem may_at {p : Plant} (hp : mayP p = true) (before : List Int) : mayP (atP p before) = true := by
  obtain ⟨hm, z, h1, h2⟩ := (mayP_iff p).1 hp
  have hz := mayB_size hm
  unfold sizeOk at hz
  have he := est_in hm before
  have hr : rowB p.m.st (estL p before) = true := (rowB_iff _ (by omega) _).2 ⟨he.1, he.2⟩
  refine (mayP_iff _).2 ⟨?_, z, h1, h2⟩
  unfold mayB at hm ⊢
  simp only [Bool.and_eq_true] at hm ⊢
  exact ⟨hm.1, hr, hm.2.2⟩
theorem was_at {p : Plant} (hp : mayP p = true) (before behind : List Int) : beganL (atP p before) behind = wasL p before behind := rfl

end Go.Proofs.YtmlkpdeidpcidaaDoor
