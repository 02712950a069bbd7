/-
  Plain: a search by lengths of what words lead back to, the least words. No program, no model.
  Plain: a search by lengths in which words grow at their front: the lesser words come first. No program, no model.
  Plain mathematics of what can be come to along arrows: rounds over all arrows, till nothing comes more. No program, no model.
  Plain: which of two lists is the lesser one, number by number. No program, no model.
  Plain mathematics: sets of bits for rows of states; a table of where each state leads at each event; where a set leads. No program, no model.
  What is said of a slice of integers that a call has made: 'Own'; what an append of one number does to it.
  append(v, y...) of integers: v a row of the call's own, y any slice; and the empty literal slice.
-/
import Derived.Test.YtmimjpkllgjdkaaDoorG03
namespace Go.Proofs.YtmimjpkllgjdkaaDoor
open Go.RowKit
set_option linter.unusedVariables false
set_option linter.unusedSectionVars false

theorem leW_cons (e : Int) {a b : List Int} (h : leW a b) : leW (e :: a) (e :: b) := by
  rcases h with rfl | h
  · exact .inl rfl
  · refine .inr ?_
    have hl := lessB_len h
    unfold lessB at h ⊢
    simp only [List.length_cons]
    by_cases hh : a.length = b.length
    · rw [if_pos hh] at h
      rw [if_pos (by omega)]
      unfold lexB
      rw [if_pos rfl]; exact h
    · rw [if_neg (by omega)]
      exact decide_eq_true (by omega)
theorem leW_short {a b : List Int} (h : a.length < b.length) : leW a b := .inr (by unfold lessB; rw [if_neg (by omega)]; exact decide_eq_true h)
theorem leW_of_not {a b : List Int} (h : lessB a b = false) : leW b a := by
  by_cases e : b = a
  · exact .inl e
  · rcases lessB_total e with h1 | h1
    · exact .inr h1
    · rw [h] at h1; cases h1

section
variable {σ : Type} [DecidableEq σ] (op : Nat → σ → σ)
/-- What a word leads back to. -/
def valB (s0 : σ) : List Int → σ
  | [] => s0
  | e :: u => op e.toNat (valB s0 u)
/-- The first place of a row, or how many there are. -/
def posK : List (σ × List Int) → σ → Nat
  | [], _ => 0
  | p :: r, s => if p.1 = s then 0 else posK r s + 1
theorem posK_le : ∀ (l : List (σ × List Int)) (s : σ), posK l s ≤ l.length
  | [], _ => Nat.le_refl _
  | p :: r, s => by
    unfold posK; split
    · simp
    · have := posK_le r s; simp; omega
theorem posK_at : ∀ {l : List (σ × List Int)} {s : σ}, posK l s < l.length → ∃ p, l[posK l s]? = some p ∧ p.1 = s
  | [], _, h => by simp [posK] at h
  | p :: r, s, h => by
    unfold posK at h ⊢
    by_cases e : p.1 = s
    · rw [if_pos e]; exact ⟨p, rfl, e⟩
    · rw [if_neg e] at h ⊢
      obtain ⟨q, h1, h2⟩ := posK_at (l := r) (s := s) (by simpa using h)
      exact ⟨q, by simpa using h1, h2⟩
theorem posK_new : ∀ {l : List (σ × List Int)} {s : σ}, posK l s = l.length → ∀ p ∈ l, p.1 ≠ s
  | [], _, _ => by simp
  | p :: r, s, h => by
    unfold posK at h
    by_cases e : p.1 = s
    · rw [if_pos e] at h; simp at h
    · rw [if_neg e] at h
      intro q hq
      rcases List.mem_cons.1 hq with rfl | hq
      · exact e
      · exact posK_new (l := r) (s := s) (by simpa using h) q hq
/-- One event more ahead of x. -/
def bwAdd (l : List (σ × List Int)) (x : σ × List Int) (next : List (σ × List Int)) (e : Nat) : List (σ × List Int) :=
  if knownB l (op e x.1) = true then next
  else if posK next (op e x.1) = next.length then next ++ [(op e x.1, (e : Int) :: x.2)]
  else if lessB ((e : Int) :: x.2) ((next[posK next (op e x.1)]?.map (·.2)).getD []) = true then next.set (posK next (op e x.1)) (op e x.1, (e : Int) :: x.2)
  else next
def bwRow (l : List (σ × List Int)) (x : σ × List Int) (next : List (σ × List Int)) (n : Nat) : List (σ × List Int) := (List.range n).foldl (bwAdd op l x) next
theorem bwRow_succ (l : List (σ × List Int)) (x : σ × List Int) (next : List (σ × List Int)) (n : Nat) : bwRow op l x next (n + 1) = bwAdd op l x (bwRow op l x next n) n := by
  unfold bwRow; rw [List.range_succ, List.foldl_append]; rfl
def bwLay (l : List (σ × List Int)) (ev : Nat) (layer : List (σ × List Int)) : List (σ × List Int) := layer.foldl (fun nx x => bwRow op l x nx ev) []
def bwGo (ev : Nat) : Nat → List (σ × List Int) → List (σ × List Int) → List (σ × List Int)
  | 0, l, _ => l
  | f + 1, l, layer => if layer.length = 0 then l else bwGo ev f (l ++ bwLay op l ev layer) (bwLay op l ev layer)

variable {op}
/-- What next holds when some have been gone on from. -/
structure NX (op : Nat → σ → σ) (l : List (σ × List Int)) (dn : List ((σ × List Int) × Nat)) (next : List (σ × List Int)) : Prop where
  nd : (next.map (·.1)).Nodup
  no : ∀ y ∈ next, knownB l y.1 = false
  run : ∀ y ∈ next, ∃ x e, (x, e) ∈ dn ∧ y.1 = op e x.1 ∧ y.2 = (e : Int) :: x.2
  all : ∀ x e, (x, e) ∈ dn → knownB l (op e x.1) = false → ∃ y ∈ next, y.1 = op e x.1 ∧ leW y.2 ((e : Int) :: x.2)
theorem nx_nil (l : List (σ × List Int)) : NX op l [] [] := ⟨by simp, by simp, by simp, by simp⟩
theorem nx_add {l next : List (σ × List Int)} {dn : List ((σ × List Int) × Nat)} (h : NX op l dn next) (x : σ × List Int) (e : Nat) : NX op l (dn ++ [(x, e)]) (bwAdd op l x next e) := by
  have up : ∀ {y : (σ × List Int) × Nat}, y ∈ dn → y ∈ dn ++ [(x, e)] := fun hy => List.mem_append_left _ hy
  have hlast : (x, e) ∈ dn ++ [(x, e)] := List.mem_append_right _ (by simp)
  unfold bwAdd
  by_cases hk : knownB l (op e x.1) = true
  · rw [if_pos hk]
    refine ⟨h.nd, h.no, fun y hy => ?_, fun x' e' hm hn => ?_⟩
    · obtain ⟨a, b, h1, h2⟩ := h.run y hy
      exact ⟨a, b, up h1, h2⟩
    · rcases List.mem_append.1 hm with hm | hm
      · exact h.all x' e' hm hn
      · have : (x', e') = (x, e) := by simpa using hm
        cases this
        rw [hk] at hn; cases hn
  · rw [if_neg hk]
    have hkf : knownB l (op e x.1) = false := by simpa using hk
    by_cases hp : posK next (op e x.1) = next.length
    · rw [if_pos hp]
      have hnew := posK_new hp
      refine ⟨?_, fun y hy => ?_, fun y hy => ?_, fun x' e' hm hn => ?_⟩
      · rw [List.map_append, List.nodup_append]
        refine ⟨h.nd, by simp, fun a ha b hb e1 => ?_⟩
        have hb : b = op e x.1 := by simpa using hb
        obtain ⟨q, hq, e2⟩ := List.mem_map.1 ha
        exact hnew q hq (by rw [e2, e1, hb])
      · rcases List.mem_append.1 hy with hy | hy
        · exact h.no y hy
        · have : y = (op e x.1, (e : Int) :: x.2) := by simpa using hy
          subst this; exact hkf
      · rcases List.mem_append.1 hy with hy | hy
        · obtain ⟨a, b, h1, h2⟩ := h.run y hy
          exact ⟨a, b, up h1, h2⟩
        · have : y = (op e x.1, (e : Int) :: x.2) := by simpa using hy
          subst this; exact ⟨x, e, hlast, rfl, rfl⟩
      · rcases List.mem_append.1 hm with hm | hm
        · obtain ⟨y, h1, h2⟩ := h.all x' e' hm hn
          exact ⟨y, List.mem_append_left _ h1, h2⟩
        · have : (x', e') = (x, e) := by simpa using hm
          cases this
          exact ⟨(op e x.1, (e : Int) :: x.2), List.mem_append_right _ (by simp), rfl, leW_refl _⟩
    · rw [if_neg hp]
      have hlt : posK next (op e x.1) < next.length := by have := posK_le next (op e x.1); omega
      obtain ⟨q, hq, hq1⟩ := posK_at hlt
      rw [hq, Option.map_some, Option.getD_some]
      by_cases hl : lessB ((e : Int) :: x.2) q.2 = true
      · rw [if_pos hl]
        have hmap : (next.set (posK next (op e x.1)) (op e x.1, (e : Int) :: x.2)).map (·.1) = next.map (·.1) := by
          rw [List.map_set]
          apply List.ext_getElem?
          intro i
          by_cases hi : i = posK next (op e x.1)
          · subst hi
            rw [List.getElem?_set_self (by rw [List.length_map]; exact hlt), List.getElem?_map, hq, Option.map_some, hq1]
          · rw [List.getElem?_set_ne (Ne.symm hi)]
        have hin : ∀ y ∈ next.set (posK next (op e x.1)) (op e x.1, (e : Int) :: x.2), y = (op e x.1, (e : Int) :: x.2) ∨ y ∈ next := fun y hy => by
          rcases List.mem_or_eq_of_mem_set hy with h1 | h1
          · exact .inr h1
          · exact .inl h1
        refine ⟨by rw [hmap]; exact h.nd, fun y hy => ?_, fun y hy => ?_, fun x' e' hm hn => ?_⟩
        · rcases hin y hy with rfl | hy
          · exact hkf
          · exact h.no y hy
        · rcases hin y hy with rfl | hy
          · exact ⟨x, e, hlast, rfl, rfl⟩
          · obtain ⟨a, b, h1, h2⟩ := h.run y hy
            exact ⟨a, b, up h1, h2⟩
        · have hset : (op e x.1, (e : Int) :: x.2) ∈ next.set (posK next (op e x.1)) (op e x.1, (e : Int) :: x.2) := List.mem_of_getElem? (i := posK next (op e x.1)) (by rw [List.getElem?_set_self hlt])
          rcases List.mem_append.1 hm with hm | hm
          · obtain ⟨y, h1, h2, h3⟩ := h.all x' e' hm hn
            by_cases e1 : y = q
            · subst e1
              exact ⟨_, hset, by rw [← h2, hq1], leW_trans (.inr hl) h3⟩
            · obtain ⟨i, hi⟩ := List.mem_iff_getElem?.1 h1
              have hne : i ≠ posK next (op e x.1) := fun e2 => by
                subst e2; rw [hq] at hi; exact e1 (Option.some.inj hi).symm
              exact ⟨y, List.mem_of_getElem? (i := i) (by rw [List.getElem?_set_ne (Ne.symm hne)]; exact hi), h2, h3⟩
          · have : (x', e') = (x, e) := by simpa using hm
            cases this
            exact ⟨_, hset, rfl, leW_refl _⟩
      · rw [if_neg hl]
        refine ⟨h.nd, h.no, fun y hy => ?_, fun x' e' hm hn => ?_⟩
        · obtain ⟨a, b, h1, h2⟩ := h.run y hy
          exact ⟨a, b, up h1, h2⟩
        · rcases List.mem_append.1 hm with hm | hm
          · exact h.all x' e' hm hn
          · have : (x', e') = (x, e) := by simpa using hm
            cases this
            exact ⟨q, List.mem_of_getElem? hq, hq1, leW_of_not (by simpa using hl)⟩
/-- All events of x. -/
def evsOf (x : σ × List Int) (n : Nat) : List ((σ × List Int) × Nat) := (List.range n).map fun e => (x, e)
theorem nx_row {l next : List (σ × List Int)} {dn : List ((σ × List Int) × Nat)} (h : NX op l dn next) (x : σ × List Int) : ∀ n, NX op l (dn ++ evsOf x n) (bwRow op l x next n)
  | 0 => by simpa [evsOf, bwRow] using h
  | n + 1 => by
    have := nx_add (nx_row h x n) x n
    rw [bwRow_succ]
    have e : dn ++ evsOf x (n + 1) = dn ++ evsOf x n ++ [(x, n)] := by simp [evsOf, List.range_succ]
    rw [e]; exact this
def pairsOf (layer : List (σ × List Int)) (ev : Nat) : List ((σ × List Int) × Nat) := layer.flatMap fun x => evsOf x ev
theorem nx_lay (l : List (σ × List Int)) (ev : Nat) : ∀ (layer : List (σ × List Int)) (dn : List ((σ × List Int) × Nat)) (next : List (σ × List Int)), NX op l dn next → NX op l (dn ++ pairsOf layer ev) (layer.foldl (fun nx x => bwRow op l x nx ev) next)
  | [], dn, next, h => by simpa [pairsOf] using h
  | x :: r, dn, next, h => by
    have := nx_lay l ev r (dn ++ evsOf x ev) _ (nx_row h x ev)
    rw [List.foldl_cons]
    have e : dn ++ pairsOf (x :: r) ev = dn ++ evsOf x ev ++ pairsOf r ev := by simp [pairsOf]
    rw [e]; exact this
theorem nx_all (l : List (σ × List Int)) (ev : Nat) (layer : List (σ × List Int)) : NX op l (pairsOf layer ev) (bwLay op l ev layer) := by
  have := nx_lay (op := op) l ev layer [] [] (nx_nil l)
  simpa [bwLay] using this
theorem mem_pairs {layer : List (σ × List Int)} {ev : Nat} {x : σ × List Int} {e : Nat} : (x, e) ∈ pairsOf layer ev ↔ x ∈ layer ∧ e < ev := by
  unfold pairsOf evsOf
  rw [List.mem_flatMap]
  constructor
  · rintro ⟨y, hy, h⟩
    obtain ⟨k, hk, e1⟩ := List.mem_map.1 h
    cases e1
    exact ⟨hy, List.mem_range.1 hk⟩
  · rintro ⟨h1, h2⟩
    exact ⟨x, h1, List.mem_map.2 ⟨e, List.mem_range.2 h2, rfl⟩⟩

/-- What holds when all words of up to n events have been gone through. -/
structure LBk (op : Nat → σ → σ) (s0 : σ) (ev n : Nat) (l layer : List (σ × List Int)) : Prop where
  nd : (l.map (·.1)).Nodup
  run : ∀ x ∈ l, x.1 = valB op s0 x.2 ∧ (∀ e ∈ x.2, 0 ≤ e ∧ e < (ev : Int)) ∧ x.2.length ≤ n
  lst : ∀ x ∈ l, ∀ u : List Int, (∀ e ∈ u, 0 ≤ e ∧ e < (ev : Int)) → valB op s0 u = x.1 → leW x.2 u
  cov : ∀ u : List Int, (∀ e ∈ u, 0 ≤ e ∧ e < (ev : Int)) → u.length ≤ n → ∃ x ∈ l, x.1 = valB op s0 u
  lay : ∀ x, x ∈ layer ↔ x ∈ l ∧ x.2.length = n
theorem lbk_start (s0 : σ) (ev : Nat) : LBk op s0 ev 0 [(s0, [])] [(s0, [])] := by
  refine ⟨by simp, fun x hx => ?_, fun x hx u hu _ => ?_, fun u hu hl => ?_, fun x => ?_⟩
  · have : x = (s0, []) := by simpa using hx
    subst this; exact ⟨rfl, by simp, Nat.le_refl _⟩
  · have : x = (s0, []) := by simpa using hx
    subst this; exact nil_le u
  · have : u = [] := List.eq_nil_of_length_eq_zero (by omega)
    subst this; exact ⟨(s0, []), by simp, rfl⟩
  · constructor
    · intro hx
      have : x = (s0, []) := by simpa using hx
      subst this; exact ⟨by simp, rfl⟩
    · exact fun h => h.1
theorem val_cons (s0 : σ) (e : Nat) (u : List Int) : valB op s0 ((e : Int) :: u) = op e (valB op s0 u) := by simp [valB]
theorem lbk_next {s0 : σ} {ev n : Nat} {l layer : List (σ × List Int)} (h : LBk op s0 ev n l layer) : LBk op s0 ev (n + 1) (l ++ bwLay op l ev layer) (bwLay op l ev layer) := by
  have hx := nx_all (op := op) l ev layer
  -- a word of n + 1 events that is not known comes from the layer
  have from_lay : ∀ (e : Int) (v : List Int), (∀ c ∈ e :: v, 0 ≤ c ∧ c < (ev : Int)) → v.length = n → knownB l (valB op s0 (e :: v)) = false → ∃ x ∈ layer, x.1 = valB op s0 v ∧ leW x.2 v := by
    intro e v hb hv hk
    obtain ⟨x, hxl, e1⟩ := h.cov v (fun c hc => hb c (by simp [hc])) (by omega)
    have hle := h.lst x hxl v (fun c hc => hb c (by simp [hc])) e1.symm
    refine ⟨x, (h.lay x).2 ⟨hxl, ?_⟩, e1, hle⟩
    have hr := h.run x hxl
    rcases Nat.lt_or_ge x.2.length n with hlt | hge
    · obtain ⟨y, hy, e2⟩ := h.cov (e :: x.2) (fun c hc => by
        rcases List.mem_cons.1 hc with rfl | hc
        · exact hb c (by simp)
        · exact hr.2.1 c hc) (by simp; omega)
      have : knownB l (valB op s0 (e :: v)) = true := (knownB_iff _ _).2 ⟨y, hy, by rw [e2]; show op e.toNat (valB op s0 x.2) = op e.toNat (valB op s0 v); rw [← e1, hr.1]⟩
      rw [hk] at this; cases this
    · have := hr.2.2; omega
  have hrunN : ∀ y ∈ bwLay op l ev layer, y.1 = valB op s0 y.2 ∧ (∀ c ∈ y.2, 0 ≤ c ∧ c < (ev : Int)) ∧ y.2.length = n + 1 := fun y hy => by
    obtain ⟨x, e, hm, e1, e2⟩ := hx.run y hy
    obtain ⟨hxl, he⟩ := mem_pairs.1 hm
    obtain ⟨h1, h2⟩ := (h.lay x).1 hxl
    have hr := h.run x h1
    refine ⟨by rw [e2, e1, val_cons, ← hr.1], fun c hc => ?_, by rw [e2, List.length_cons, h2]⟩
    rw [e2] at hc
    rcases List.mem_cons.1 hc with rfl | hc
    · omega
    · exact hr.2.1 c hc
  refine ⟨?_, fun y hy => ?_, fun y hy u hu hv => ?_, fun u hu hl => ?_, fun y => ?_⟩
  · rw [List.map_append, List.nodup_append]
    refine ⟨h.nd, hx.nd, fun a ha b hb e1 => ?_⟩
    obtain ⟨p, hp, rfl⟩ := List.mem_map.1 ha
    obtain ⟨q, hq, rfl⟩ := List.mem_map.1 hb
    have := hx.no q hq
    rw [(knownB_iff _ _).2 ⟨p, hp, e1⟩] at this; cases this
  · rcases List.mem_append.1 hy with hy | hy
    · have := h.run y hy
      exact ⟨this.1, this.2.1, by omega⟩
    · have := hrunN y hy
      exact ⟨this.1, this.2.1, by omega⟩
  · rcases List.mem_append.1 hy with hy | hy
    · exact h.lst y hy u hu hv
    · have hr := hrunN y hy
      have hno := hx.no y hy
      rcases Nat.lt_trichotomy u.length (n + 1) with hlt | heq | hgt
      · obtain ⟨z, hz, e1⟩ := h.cov u hu (by omega)
        rw [(knownB_iff _ _).2 ⟨z, hz, by rw [e1, hv]⟩] at hno; cases hno
      · cases u with
        | nil => simp at heq
        | cons e v =>
          have hev := hu e (by simp)
          obtain ⟨x, hxl, e1, e2⟩ := from_lay e v hu (by simpa using heq) (by rw [hv]; exact hno)
          have hval : op e.toNat x.1 = y.1 := by rw [e1]; exact hv
          obtain ⟨y', hy', e3, e4⟩ := hx.all x e.toNat (mem_pairs.2 ⟨hxl, by omega⟩) (by rw [hval]; exact hno)
          have hyy : y' = y := by
            have hnd := hx.nd
            obtain ⟨i, hi⟩ := List.mem_iff_getElem?.1 hy'
            obtain ⟨j, hj⟩ := List.mem_iff_getElem?.1 hy
            have li := (List.getElem?_eq_some_iff.1 hi).1
            have lj := (List.getElem?_eq_some_iff.1 hj).1
            have hij : i = j := by
              have a1 : ((bwLay op l ev layer).map (·.1))[i]? = some y.1 := by rw [List.getElem?_map, hi, Option.map_some, e3, hval]
              have a2 : ((bwLay op l ev layer).map (·.1))[j]? = some y.1 := by rw [List.getElem?_map, hj]; rfl
              exact (List.getElem?_inj (by rw [List.length_map]; exact li) hnd).1 (by rw [a1, a2])
            subst hij
            rw [hi] at hj
            exact Option.some.inj hj
          subst hyy
          have hc : ((e.toNat : Nat) : Int) = e := by omega
          rw [hc] at e4
          exact leW_trans e4 (leW_cons e e2)
      · exact leW_short (by omega)
  · rcases Nat.lt_or_ge u.length (n + 1) with hlt | hge
    · obtain ⟨x, h1, h2⟩ := h.cov u hu (by omega)
      exact ⟨x, List.mem_append_left _ h1, h2⟩
    · cases hk : knownB l (valB op s0 u) with
      | true =>
        obtain ⟨x, h1, h2⟩ := (knownB_iff _ _).1 hk
        exact ⟨x, List.mem_append_left _ h1, h2⟩
      | false =>
        cases u with
        | nil => simp at hge
        | cons e v =>
          have hev := hu e (by simp)
          obtain ⟨x, hxl, e1, e2⟩ := from_lay e v hu (by simp at hl hge; omega) hk
          have hval : op e.toNat x.1 = valB op s0 (e :: v) := by rw [e1]; rfl
          obtain ⟨y', hy', e3, e4⟩ := hx.all x e.toNat (mem_pairs.2 ⟨hxl, by omega⟩) (by rw [hval]; exact hk)
          exact ⟨y', List.mem_append_right _ hy', by rw [e3, hval]⟩
  · constructor
    · intro hy
      exact ⟨List.mem_append_right _ hy, (hrunN y hy).2.2⟩
    · rintro ⟨hy, hl⟩
      rcases List.mem_append.1 hy with hy | hy
      · have := (h.run y hy).2.2; omega
      · exact hy
theorem lbk_end {s0 : σ} {ev N : Nat} (hN : ∀ (n : Nat) (l layer : List (σ × List Int)), LBk op s0 ev n l layer → l.length ≤ N) : ∀ (f n : Nat) (l layer : List (σ × List Int)), LBk op s0 ev n l layer → N - l.length + (if layer.length = 0 then 0 else 1) ≤ f → ∃ n', LBk op s0 ev n' (bwGo op ev f l layer) []
  | 0, n, l, layer, h, hf => by
    by_cases h0 : layer.length = 0
    · have : layer = [] := List.eq_nil_of_length_eq_zero h0
      subst this; exact ⟨n, h⟩
    · rw [if_neg h0] at hf; omega
  | f + 1, n, l, layer, h, hf => by
    unfold bwGo
    by_cases h0 : layer.length = 0
    · rw [if_pos h0]
      have : layer = [] := List.eq_nil_of_length_eq_zero h0
      subst this; exact ⟨n, h⟩
    · rw [if_neg h0]
      rw [if_neg h0] at hf
      have h' := lbk_next h
      have hb := hN _ _ _ h'
      rw [List.length_append] at hb
      refine lbk_end hN f (n + 1) _ _ h' ?_
      rw [List.length_append]
      split <;> omega
/-- Where nothing is left, each word's row is there, with a word that is no greater. -/
theorem lbk_all {s0 : σ} {ev n : Nat} {l : List (σ × List Int)} (h : LBk op s0 ev n l []) : ∀ (u : List Int), (∀ e ∈ u, 0 ≤ e ∧ e < (ev : Int)) → ∃ x ∈ l, x.1 = valB op s0 u ∧ leW x.2 u
  | [], hu => by
    obtain ⟨x, h1, h2⟩ := h.cov [] hu (Nat.zero_le _)
    exact ⟨x, h1, h2, h.lst x h1 [] hu h2.symm⟩
  | e :: v, hu => by
    obtain ⟨x, h1, h2, -⟩ := lbk_all h v (fun c hc => hu c (by simp [hc]))
    have hr := h.run x h1
    have hlt : x.2.length < n := by
      rcases Nat.lt_or_ge x.2.length n with hlt | hge
      · exact hlt
      · have := (h.lay x).2 ⟨h1, by have := hr.2.2; omega⟩
        simp at this
    obtain ⟨y, h3, h4⟩ := h.cov (e :: x.2) (fun c hc => by
      rcases List.mem_cons.1 hc with rfl | hc
      · exact hu c (by simp)
      · exact hr.2.1 c hc) (by simp; omega)
    have e5 : y.1 = valB op s0 (e :: v) := by rw [h4]; show op e.toNat (valB op s0 x.2) = op e.toNat (valB op s0 v); rw [← h2, hr.1]
    exact ⟨y, h3, e5, h.lst y h3 _ hu e5.symm⟩
end

end Go.Proofs.YtmimjpkllgjdkaaDoor
namespace Go.Proofs.YtmimjpkllgjdkaaDoor
open Go.RowKit
set_option linter.unusedVariables false
set_option linter.unusedSectionVars false

theorem lessB_cons (e : Int) {a b : List Int} (h : lessB a b = true) : lessB (e :: a) (e :: b) = true := by
  rcases leW_cons e (.inr h) with h1 | h1
  · have h2 : a = b := by simpa using h1
    rw [h2, lessB_irrefl] at h; cases h
  · exact h1
theorem lessB_head {e f : Int} {a b : List Int} (h : e < f) (hl : a.length = b.length) : lessB (e :: a) (f :: b) = true := by
  unfold lessB
  rw [if_pos (by simp [hl])]
  unfold lexB
  rw [if_neg (by omega)]
  exact decide_eq_true h
theorem lessB_short {a b : List Int} (h : a.length < b.length) : lessB a b = true := by
  unfold lessB; rw [if_neg (by omega)]; exact decide_eq_true h
theorem leW_len {a b : List Int} (h : leW a b) : a.length ≤ b.length := by
  rcases h with rfl | h
  · exact Nat.le_refl _
  · exact lessB_len h

section
variable {σ : Type} [DecidableEq σ] (op : Nat → σ → σ)
/-- One event ahead of one place. -/
def igStep (x : σ × List Int) (e : Nat) (l : List (σ × List Int)) : List (σ × List Int) := if knownB l (op e x.1) = true then l else l ++ [(op e x.1, (e : Int) :: x.2)]
variable {op}
/-- What is found when the places from frm on, ahead of to, are gone on from: all with the events below e, and those ahead of r with e. -/
structure IG (op : Nat → σ → σ) (s0 : σ) (ev n frm to e r : Nat) (l : List (σ × List Int)) : Prop where
  inc : l.Pairwise fun p q => lessB p.2 q.2 = true
  nd : (l.map (·.1)).Nodup
  run : ∀ x ∈ l, x.1 = valB op s0 x.2 ∧ ∀ c ∈ x.2, 0 ≤ c ∧ c < (ev : Int)
  ft : frm ≤ to
  tl : to ≤ l.length
  low : ∀ (j : Nat) (x : σ × List Int), l[j]? = some x → j < frm → x.2.length < n
  lay : ∀ (j : Nat) (x : σ × List Int), l[j]? = some x → frm ≤ j → j < to → x.2.length = n
  new : ∀ (j : Nat) (x : σ × List Int), l[j]? = some x → to ≤ j → ∃ (e' j' : Nat) (y : σ × List Int), l[j']? = some y ∧ frm ≤ j' ∧ j' < to ∧ x.2 = (e' : Int) :: y.2 ∧ (e' < e ∨ (e' = e ∧ j' < r))
  cov : ∀ u : List Int, (∀ c ∈ u, 0 ≤ c ∧ c < (ev : Int)) → u.length ≤ n → ∃ x ∈ l, x.1 = valB op s0 u ∧ leW x.2 u
  dn : ∀ (e' j' : Nat) (y : σ × List Int), (e' < e ∨ (e' = e ∧ j' < r)) → frm ≤ j' → j' < to → l[j']? = some y → ∃ z ∈ l, z.1 = op e' y.1 ∧ leW z.2 ((e' : Int) :: y.2)
theorem ig_start (s0 : σ) (ev : Nat) : IG op s0 ev 0 0 1 0 0 [(s0, [])] := by
  refine ⟨by simp, by simp, fun x hx => ?_, by omega, by simp, fun j x _ h => absurd h (Nat.not_lt_zero _), fun j x hx _ hj => ?_, fun j x hx hj => ?_, fun u _ hu => ?_, fun e' j' y h _ _ _ => ?_⟩
  · have : x = (s0, []) := by simpa using hx
    subst this; exact ⟨rfl, by simp⟩
  · have h0 : j = 0 := by omega
    subst h0
    have : (s0, []) = x := by simpa using hx
    subst this; rfl
  · have := (List.getElem?_eq_some_iff.1 hx).1
    simp at this; omega
  · have : u = [] := List.eq_nil_of_length_eq_zero (by omega)
    subst this
    exact ⟨(s0, []), by simp, rfl, leW_refl _⟩
  · omega
theorem ig_lenof {s0 : σ} {ev n frm to e r : Nat} {l : List (σ × List Int)} (h : IG op s0 ev n frm to e r l) {j : Nat} {x : σ × List Int} (hx : l[j]? = some x) : x.2.length ≤ n + 1 ∧ (j < to → x.2.length ≤ n) := by
  rcases Nat.lt_or_ge j frm with h1 | h1
  · have := h.low j x hx h1
    exact ⟨by omega, fun _ => by omega⟩
  · rcases Nat.lt_or_ge j to with h2 | h2
    · have := h.lay j x hx h1 h2
      exact ⟨by omega, fun _ => by omega⟩
    · obtain ⟨e', j', y, h3, h4, h5, h6, -⟩ := h.new j x hx h2
      have := h.lay j' y h3 h4 h5
      refine ⟨by rw [h6, List.length_cons]; omega, fun _ => by omega⟩
theorem ig_step {s0 : σ} {ev n frm to e r : Nat} {l : List (σ × List Int)} {x : σ × List Int} (h : IG op s0 ev n frm to e r l) (hf : frm ≤ r) (hr : r < to) (hx : l[r]? = some x) (he : e < ev) : IG op s0 ev n frm to e (r + 1) (igStep op x e l) := by
  have hxl := h.lay r x hx hf hr
  have hxr := h.run x (List.mem_of_getElem? hx)
  -- all that is there is less than the new word
  have hless : ∀ (j : Nat) (q : σ × List Int), l[j]? = some q → lessB q.2 ((e : Int) :: x.2) = true := by
    intro j q hq
    rcases Nat.lt_or_ge j to with h1 | h1
    · have := (ig_lenof h hq).2 h1
      exact lessB_short (by rw [List.length_cons]; omega)
    · obtain ⟨e', j', y, h3, h4, h5, h6, h7⟩ := h.new j q hq h1
      rw [h6]
      rcases h7 with h7 | ⟨h7, h8⟩
      · exact lessB_head (by omega) (by rw [h.lay j' y h3 h4 h5, hxl])
      · subst h7
        refine lessB_cons _ ?_
        have l1 := (List.getElem?_eq_some_iff.1 h3)
        have l2 := (List.getElem?_eq_some_iff.1 hx)
        have := List.pairwise_iff_getElem.1 h.inc j' r l1.1 l2.1 h8
        rw [l1.2, l2.2] at this; exact this
  have hold : ∀ (e' j' : Nat), (e' < e ∨ (e' = e ∧ j' < r + 1)) → (e' < e ∨ (e' = e ∧ j' < r)) ∨ (e' = e ∧ j' = r) := by omega
  unfold igStep
  by_cases hk : knownB l (op e x.1) = true
  · rw [if_pos hk]
    refine ⟨h.inc, h.nd, h.run, h.ft, h.tl, h.low, h.lay, fun j q hq hj => ?_, h.cov, fun e' j' y hd h1 h2 hy => ?_⟩
    · obtain ⟨e', j', y, h3, h4, h5, h6, h7⟩ := h.new j q hq hj
      exact ⟨e', j', y, h3, h4, h5, h6, by omega⟩
    · rcases hold e' j' hd with h3 | ⟨rfl, rfl⟩
      · exact h.dn e' j' y h3 h1 h2 hy
      · rw [hx] at hy
        have := Option.some.inj hy
        subst this
        obtain ⟨z, hz, e1⟩ := (knownB_iff _ _).1 hk
        obtain ⟨i, hi⟩ := List.mem_iff_getElem?.1 hz
        exact ⟨z, hz, e1, .inr (hless i z hi)⟩
  · rw [if_neg hk]
    have up : ∀ {j : Nat} {q : σ × List Int}, l[j]? = some q → (l ++ [(op e x.1, (e : Int) :: x.2)])[j]? = some q := fun {j q} hq => by
      rw [List.getElem?_append_left (List.getElem?_eq_some_iff.1 hq).1]; exact hq
    have dw : ∀ {j : Nat} {q : σ × List Int}, (l ++ [(op e x.1, (e : Int) :: x.2)])[j]? = some q → l[j]? = some q ∨ (j = l.length ∧ q = (op e x.1, (e : Int) :: x.2)) := fun {j q} hq => by
      have hj := (List.getElem?_eq_some_iff.1 hq).1
      simp at hj
      rcases Nat.lt_or_ge j l.length with h1 | h1
      · rw [List.getElem?_append_left h1] at hq; exact .inl hq
      · have : j = l.length := by omega
        subst this
        rw [List.getElem?_append_right (Nat.le_refl _)] at hq
        have : (op e x.1, (e : Int) :: x.2) = q := by simpa using hq
        exact .inr ⟨rfl, this.symm⟩
    have htl := h.tl
    refine ⟨?_, ?_, fun q hq => ?_, h.ft, by simp; omega, fun j q hq hj => ?_, fun j q hq h1 h2 => ?_, fun j q hq hj => ?_, fun u hu hl => ?_, fun e' j' y hd h1 h2 hy => ?_⟩
    · rw [List.pairwise_append]
      refine ⟨h.inc, by simp, fun a ha b hb => ?_⟩
      have : b = (op e x.1, (e : Int) :: x.2) := by simpa using hb
      subst this
      obtain ⟨j, hj⟩ := List.mem_iff_getElem?.1 ha
      exact hless j a hj
    · rw [List.map_append, List.nodup_append]
      refine ⟨h.nd, by simp, fun a ha b hb e1 => ?_⟩
      have hb : b = op e x.1 := by simpa using hb
      obtain ⟨q, hq, e2⟩ := List.mem_map.1 ha
      exact hk ((knownB_iff _ _).2 ⟨q, hq, by rw [e2, e1, hb]⟩)
    · rcases List.mem_append.1 hq with hq | hq
      · exact h.run q hq
      · have : q = (op e x.1, (e : Int) :: x.2) := by simpa using hq
        subst this
        refine ⟨by rw [val_cons, ← hxr.1], fun c hc => ?_⟩
        rcases List.mem_cons.1 hc with rfl | hc
        · omega
        · exact hxr.2 c hc
    · have hft := h.ft
      rcases dw hq with h1 | ⟨h1, -⟩
      · exact h.low j q h1 hj
      · omega
    · rcases dw hq with h3 | ⟨h3, -⟩
      · exact h.lay j q h3 h1 h2
      · omega
    · rcases dw hq with h3 | ⟨h3, rfl⟩
      · obtain ⟨e', j', y, k3, k4, k5, k6, k7⟩ := h.new j q h3 hj
        exact ⟨e', j', y, up k3, k4, k5, k6, by omega⟩
      · exact ⟨e, r, x, up hx, hf, hr, rfl, .inr ⟨rfl, by omega⟩⟩
    · obtain ⟨q, h1, h2⟩ := h.cov u hu hl
      exact ⟨q, List.mem_append_left _ h1, h2⟩
    · rcases dw hy with hy2 | ⟨hy2, -⟩
      · rcases hold e' j' hd with h3 | ⟨rfl, rfl⟩
        · obtain ⟨z, k1, k2⟩ := h.dn e' j' y h3 h1 h2 hy2
          exact ⟨z, List.mem_append_left _ k1, k2⟩
        · rw [hx] at hy2
          have := Option.some.inj hy2
          subst this
          exact ⟨(op e' x.1, (e' : Int) :: x.2), List.mem_append_right _ (by simp), rfl, leW_refl _⟩
      · omega
theorem ig_event {s0 : σ} {ev n frm to e r : Nat} {l : List (σ × List Int)} (h : IG op s0 ev n frm to e r l) (hr : to ≤ r) : IG op s0 ev n frm to (e + 1) frm l := by
  refine ⟨h.inc, h.nd, h.run, h.ft, h.tl, h.low, h.lay, fun j q hq hj => ?_, h.cov, fun e' j' y hd h1 h2 hy => ?_⟩
  · obtain ⟨e', j', y, h3, h4, h5, h6, h7⟩ := h.new j q hq hj
    exact ⟨e', j', y, h3, h4, h5, h6, by omega⟩
  · exact h.dn e' j' y (by omega) h1 h2 hy
theorem ig_next {s0 : σ} {ev n frm to r : Nat} {l : List (σ × List Int)} (h : IG op s0 ev n frm to ev r l) : IG op s0 ev (n + 1) to l.length 0 to l := by
  refine ⟨h.inc, h.nd, h.run, h.tl, Nat.le_refl _, fun j x hx hj => ?_, fun j x hx h1 h2 => ?_, fun j x hx hj => ?_, fun u hu hl => ?_, fun e' j' y hd h1 h2 hy => by omega⟩
  · have := (ig_lenof h hx).2 hj; omega
  · obtain ⟨e', j', y, h3, h4, h5, h6, -⟩ := h.new j x hx h1
    rw [h6, List.length_cons, h.lay j' y h3 h4 h5]
  · have := (List.getElem?_eq_some_iff.1 hx).1; omega
  · rcases Nat.lt_or_ge n u.length with hgt | hle
    · cases u with
      | nil => simp at hgt
      | cons e' v =>
        have hev := hu e' (by simp)
        have hv : v.length = n := by simp at hgt hl; omega
        obtain ⟨x, hx, e1, e2⟩ := h.cov v (fun c hc => hu c (by simp [hc])) (by omega)
        have hr := h.run x hx
        have hlx := leW_len e2
        obtain ⟨j, hj⟩ := List.mem_iff_getElem?.1 hx
        have hjt : j < to := by
          rcases Nat.lt_or_ge j to with h1 | h1
          · exact h1
          · obtain ⟨e'', j', y, h3, h4, h5, h6, -⟩ := h.new j x hj h1
            have := h.lay j' y h3 h4 h5
            rw [h6, List.length_cons] at hlx; omega
        rcases Nat.lt_or_ge j frm with h1 | h1
        · have hlow := h.low j x hj h1
          obtain ⟨z, hz, k1, k2⟩ := h.cov (e' :: x.2) (fun c hc => by
            rcases List.mem_cons.1 hc with rfl | hc
            · exact hev
            · exact hr.2 c hc) (by simp; omega)
          refine ⟨z, hz, ?_, leW_trans k2 (leW_cons e' e2)⟩
          rw [k1]
          show op e'.toNat (valB op s0 x.2) = op e'.toNat (valB op s0 v)
          rw [← e1, hr.1]
        · obtain ⟨z, hz, k1, k2⟩ := h.dn e'.toNat j x (by omega) h1 hjt hj
          have hc : ((e'.toNat : Nat) : Int) = e' := by omega
          rw [hc] at k2
          refine ⟨z, hz, ?_, leW_trans k2 (leW_cons e' e2)⟩
          rw [k1, e1]; rfl
    · exact h.cov u hu hle
/-- Where nothing is left to go on from, each word's set is there, with a word that is no greater. -/
theorem ig_all {s0 : σ} {ev n frm to e r : Nat} {l : List (σ × List Int)} (h : IG op s0 ev n frm to e r l) (hf : l.length ≤ frm) : ∀ (u : List Int), (∀ c ∈ u, 0 ≤ c ∧ c < (ev : Int)) → ∃ x ∈ l, x.1 = valB op s0 u ∧ leW x.2 u
  | [], hu => h.cov [] hu (Nat.zero_le _)
  | e' :: v, hu => by
    obtain ⟨x, hx, e1, e2⟩ := ig_all h hf v (fun c hc => hu c (by simp [hc]))
    have hr := h.run x hx
    obtain ⟨j, hj⟩ := List.mem_iff_getElem?.1 hx
    have hlow := h.low j x hj (by have := (List.getElem?_eq_some_iff.1 hj).1; omega)
    obtain ⟨z, hz, k1, k2⟩ := h.cov (e' :: x.2) (fun c hc => by
      rcases List.mem_cons.1 hc with rfl | hc
      · exact hu c (by simp)
      · exact hr.2 c hc) (by simp; omega)
    refine ⟨z, hz, ?_, leW_trans k2 (leW_cons e' e2)⟩
    rw [k1]
    show op e'.toNat (valB op s0 x.2) = op e'.toNat (valB op s0 v)
    rw [← e1, hr.1]
end

end Go.Proofs.YtmimjpkllgjdkaaDoor
namespace Go.Proofs.YtmimjpkllgjdkaaDoor
open Go.RowKit
set_option linter.unusedVariables false

/-- What can be come to. -/
structure Come (fr to : Arr → Int) (ars : List Arr) (l0 : List Int) (P : Int → Prop) : Prop where
  start : ∀ x ∈ l0, P x
  step : ∀ a ∈ ars, P (fr a) → P (to a)
/-- .. from l0: in whatever holds l0 and is closed. -/
def Rch (fr to : Arr → Int) (ars : List Arr) (l0 : List Int) (x : Int) : Prop := ∀ P : Int → Prop, Come fr to ars l0 P → P x

theorem rch_start {fr to : Arr → Int} {ars : List Arr} {l0 : List Int} {x : Int} (h : x ∈ l0) : Rch fr to ars l0 x := fun _ hP => hP.start x h
theorem rch_step {fr to : Arr → Int} {ars : List Arr} {l0 : List Int} {a : Arr} (ha : a ∈ ars) (h : Rch fr to ars l0 (fr a)) : Rch fr to ars l0 (to a) := fun P hP => hP.step a ha (h P hP)

theorem hasB_iff (l : List Int) (x : Int) : hasB l x = true ↔ x ∈ l := by simp [hasB]
theorem nodup_len : ∀ (n : Nat) (l : List Int), l.Nodup → (∀ x ∈ l, 0 ≤ x ∧ x < n) → l.length ≤ n := by
  intro n l hn hb
  have hs : srt l = (srt l) := rfl
  have hi := inc_srt l
  have hm : ∀ x ∈ srt l, 0 ≤ x ∧ x < n := fun x hx => hb x ((mem_srt x l).1 hx)
  have hlen : (srt l).length ≤ n := by
    have := goIs_len (n : Int) (srt l) (-1) (by omega) ((goIs_iff _ _ _).2 ⟨hi, fun x hx => by have := hm x hx; omega⟩)
    omega
  have hp : l.Perm (srt l) := (List.perm_ext_iff_of_nodup hn (hi.imp (fun h => by omega))).2 (fun x => (mem_srt x l).symm)
  rw [hp.length_eq]; exact hlen
theorem inc_nodup {l : List Int} (h : Inc l) : l.Nodup := h.imp (fun h => by omega)

end Go.Proofs.YtmimjpkllgjdkaaDoor
namespace Go.Proofs.YtmimjpkllgjdkaaDoor
open Go.RowKit
set_option linter.unusedVariables false

theorem lessB_len_ne {xs ys : List Int} (h : ¬ xs.length = ys.length) : lessB xs ys = decide (xs.length < ys.length) := by unfold lessB; rw [if_neg h]
theorem less_cast {xs ys : List Int} (h : ¬ xs.length = ys.length) : decide ((xs.length : Int) < (ys.length : Int)) = lessB xs ys := by
  rw [lessB_len_ne h]; exact decide_eq_decide.2 (by omega)
theorem dropG {l : List Int} {k : Nat} (h : k < l.length) : l.drop k = (l[k]?.getD 0) :: l.drop (k + 1) := by
  rw [List.drop_eq_getElem_cons h, List.getElem?_eq_getElem h, Option.getD_some]
theorem lex_no {xs ys : List Int} {k : Nat} {x y : Int} (hl : Hid (xs.length = ys.length)) (h1 : k < xs.length) (h2 : k < ys.length) (hx : Hid (x = xs[k]?.getD 0)) (hy : Hid (y = ys[k]?.getD 0)) (h : ¬ x = y) (e : Hid (lexB xs ys = lexB (xs.drop k) (ys.drop k))) : decide (x < y) = lessB xs ys := by
  unfold lessB; rw [if_pos hl.out, e.out, dropG h1, dropG h2, ← hx.out, ← hy.out, lexB, if_neg h]
theorem lex_yes {xs ys : List Int} {k : Nat} {x y : Int} (h1 : k < xs.length) (h2 : k < ys.length) (hx : Hid (x = xs[k]?.getD 0)) (hy : Hid (y = ys[k]?.getD 0)) (h : x = y) (e : Hid (lexB xs ys = lexB (xs.drop k) (ys.drop k))) : Hid (lexB xs ys = lexB (xs.drop (k + 1)) (ys.drop (k + 1))) := by
  show _ = _
  rw [e.out, dropG h1, dropG h2, ← hx.out, ← hy.out, lexB, if_pos h]
theorem lex_end {xs ys : List Int} {k : Nat} (hl : Hid (xs.length = ys.length)) (h : ¬ k < xs.length) (e : Hid (lexB xs ys = lexB (xs.drop k) (ys.drop k))) : false = lessB xs ys := by
  unfold lessB; rw [if_pos hl.out, e.out, List.drop_eq_nil_of_le (by omega)]; simp [lexB]

end Go.Proofs.YtmimjpkllgjdkaaDoor
namespace Go.Proofs.YtmimjpkllgjdkaaDoor
open Go.RowKit
set_option linter.unusedVariables false

/-- The set stands for the list. -/
structure Rep (S : Nat → Nat) (l : List Int) : Prop where
  ok : okS S
  bd : ∀ x ∈ l, 0 ≤ x ∧ x < 256
  mem : ∀ n, n < 256 → (hasS S n = true ↔ (n : Int) ∈ l)

theorem rep_row {S : Nat → Nat} {l : List Int} (h : Rep S l) (hl : Inc l) : rowS S = l := by
  refine inc_ext (inc_rowS S) hl fun x => ?_
  rw [mem_rowS]
  constructor
  · rintro ⟨h1, h2, h3⟩
    have := (h.mem x.toNat (by omega)).1 h3
    rwa [Int.toNat_of_nonneg h1] at this
  · intro hx
    obtain ⟨h1, h2⟩ := h.bd x hx
    exact ⟨h1, h2, (h.mem x.toNat (by omega)).2 (by rwa [Int.toNat_of_nonneg h1])⟩

def ofS (l : List Int) : Nat → Nat := l.foldl (fun s x => withS s x.toNat) zeroS
theorem ofS_snoc (l : List Int) (x : Int) : ofS (l ++ [x]) = withS (ofS l) x.toNat := by simp [ofS, List.foldl_append]
theorem rep_snoc {S : Nat → Nat} {l : List Int} {x : Int} (h : Rep S l) (h0 : 0 ≤ x) (h1 : x < 256) : Rep (withS S x.toNat) (l ++ [x]) := by
  refine ⟨okS_with h.ok _, ?_, fun n hn => ?_⟩
  · intro y hy
    rcases List.mem_append.1 hy with hy | hy
    · exact h.bd y hy
    · rw [List.mem_singleton.1 hy]; exact ⟨h0, h1⟩
  · rw [hasS_with, Bool.or_eq_true, h.mem n hn, List.mem_append, List.mem_singleton, decide_eq_true_eq]
    constructor
    · rintro (a | b)
      · exact .inl a
      · exact .inr (by omega)
    · rintro (a | b)
      · exact .inl a
      · exact .inr (by omega)
theorem rep_nil : Rep zeroS [] := ⟨okS_zero, by simp, fun n _ => by simp [hasS_zero]⟩
theorem rep_of : ∀ {l : List Int}, (∀ x ∈ l, 0 ≤ x ∧ x < 256) → ∀ k, Rep (ofS (l.take k)) (l.take k) := by
  intro l hl k
  induction k with
  | zero => simpa [ofS] using rep_nil
  | succ k ih =>
    by_cases h : k < l.length
    · have e : l.take (k + 1) = l.take k ++ [l[k]] := by rw [List.take_add_one, List.getElem?_eq_getElem h]; rfl
      have := hl l[k] (List.getElem_mem h)
      rw [e, ofS_snoc]
      exact rep_snoc ih this.1 this.2
    · rw [List.take_of_length_le (by omega)] at ih ⊢; exact ih

/-- The table: at place f * ev + e, where state f leads at event e. -/
def tabStep (ev : Nat) (T : Nat → Nat → Nat) (a : Arr) : Nat → Nat → Nat := fun p => if p = a.f.toNat * ev + a.e.toNat then withS (T p) a.t.toNat else T p
def tabS (ev : Nat) (ars : List Arr) : Nat → Nat → Nat := ars.foldl (tabStep ev) (fun _ => zeroS)
theorem tabS_snoc (ev : Nat) (ars : List Arr) (a : Arr) : tabS ev (ars ++ [a]) = tabStep ev (tabS ev ars) a := by simp [tabS, List.foldl_append]
theorem tabS_take {ev : Nat} {ars : List Arr} {k : Nat} {a : Arr} (h : k < ars.length) (ha : Hid (a = ars[k]?.getD arr0)) : tabS ev (ars.take (k + 1)) = tabStep ev (tabS ev (ars.take k)) a := by
  have ha := ha.out
  rw [List.getElem?_eq_getElem h, Option.getD_some] at ha
  rw [List.take_add_one, List.getElem?_eq_getElem h, ← ha]
  exact tabS_snoc _ _ _
theorem okS_tabStep {ev : Nat} {T : Nat → Nat → Nat} (h : ∀ p, okS (T p)) (a : Arr) : ∀ p, okS (tabStep ev T a p) := fun p => by
  unfold tabStep; split
  · exact okS_with (h p) _
  · exact h p
theorem okS_foldTab {ev : Nat} : ∀ (ars : List Arr) (T : Nat → Nat → Nat), (∀ p, okS (T p)) → ∀ p, okS (ars.foldl (tabStep ev) T p)
  | [], _, h => h
  | a :: r, T, h => okS_foldTab r _ (okS_tabStep h a)
theorem okS_tab (ev : Nat) (ars : List Arr) (p : Nat) : okS (tabS ev ars p) := okS_foldTab ars _ (fun _ => okS_zero) p
theorem has_foldTab {ev p n : Nat} : ∀ (ars : List Arr) (T : Nat → Nat → Nat), hasS (ars.foldl (tabStep ev) T p) n = true ↔ hasS (T p) n = true ∨ ∃ a ∈ ars, p = a.f.toNat * ev + a.e.toNat ∧ n = a.t.toNat
  | [], T => by simp
  | a :: r, T => by
    rw [List.foldl_cons, has_foldTab r]
    have e : hasS (tabStep ev T a p) n = true ↔ hasS (T p) n = true ∨ (p = a.f.toNat * ev + a.e.toNat ∧ n = a.t.toNat) := by
      unfold tabStep
      by_cases h : p = a.f.toNat * ev + a.e.toNat
      · rw [if_pos h, hasS_with, Bool.or_eq_true, decide_eq_true_eq]; simp [h]
      · rw [if_neg h]; simp [h]
    rw [e]
    simp only [List.mem_cons, exists_eq_or_imp]
    rw [or_assoc]
theorem has_tab (ev p n : Nat) (ars : List Arr) : hasS (tabS ev ars p) n = true ↔ ∃ a ∈ ars, p = a.f.toNat * ev + a.e.toNat ∧ n = a.t.toNat := by
  unfold tabS; rw [has_foldTab]; simp [hasS_zero]

/-- Where states lead to, by the table. -/
def leadF (T : Nat → Nat → Nat) (ev e : Nat) (ns : List Nat) : Nat → Nat := ns.foldl (fun o n => joinS o (T (n * ev + e))) zeroS
theorem leadF_snoc (T : Nat → Nat → Nat) (ev e : Nat) (ns : List Nat) (n : Nat) : leadF T ev e (ns ++ [n]) = joinS (leadF T ev e ns) (T (n * ev + e)) := by simp [leadF, List.foldl_append]
theorem ok_leadG {T : Nat → Nat → Nat} {ev e : Nat} (h : ∀ p, okS (T p)) : ∀ (ns : List Nat) (o : Nat → Nat), okS o → okS (ns.foldl (fun o n => joinS o (T (n * ev + e))) o)
  | [], _, ho => ho
  | n :: r, o, ho => ok_leadG h r _ (okS_join ho (h _))
theorem ok_leadF {T : Nat → Nat → Nat} {ev e : Nat} (h : ∀ p, okS (T p)) (ns : List Nat) : okS (leadF T ev e ns) := ok_leadG h ns _ okS_zero
theorem has_leadG {T : Nat → Nat → Nat} {ev e k : Nat} : ∀ (ns : List Nat) (o : Nat → Nat), hasS (ns.foldl (fun o n => joinS o (T (n * ev + e))) o) k = true ↔ hasS o k = true ∨ ∃ n ∈ ns, hasS (T (n * ev + e)) k = true
  | [], o => by simp
  | n :: r, o => by
    rw [List.foldl_cons, has_leadG r, hasS_join, Bool.or_eq_true]
    simp only [List.mem_cons, exists_eq_or_imp]
    rw [or_assoc]
theorem has_leadF (T : Nat → Nat → Nat) (ev e k : Nat) (ns : List Nat) : hasS (leadF T ev e ns) k = true ↔ ∃ n ∈ ns, hasS (T (n * ev + e)) k = true := by
  unfold leadF; rw [has_leadG]; simp [hasS_zero]

/-- Where a set leads, at an event. -/
def leadS (ev : Nat) (ars : List Arr) (S : Nat → Nat) (e : Nat) : Nat → Nat := leadF (tabS ev ars) ev e (allS S)

theorem mem_stepL (ars : List Arr) (l : List Int) (e : Int) (x : Int) : x ∈ stepL ars l e ↔ ∃ a ∈ ars, a.e = e ∧ a.f ∈ l ∧ a.t = x := by
  unfold stepL stepTo
  rw [mem_srt]
  simp only [List.mem_map, List.mem_filter, Bool.and_eq_true, beq_iff_eq, hasB, List.contains_iff_mem]
  constructor
  · rintro ⟨a, ⟨h1, h2, h3⟩, h4⟩; exact ⟨a, h1, h2, h3, h4⟩
  · rintro ⟨a, h1, h2, h3, h4⟩; exact ⟨a, ⟨h1, h2, h3⟩, h4⟩

theorem arrsFrom_in {st ev : Int} : ∀ {ars : List Arr} {p : Option Arr}, arrsFrom st ev p ars = true → ∀ a ∈ ars, arrIn st ev a
  | [], _, _ => by simp
  | b :: r, p, h => by
    unfold arrsFrom at h
    by_cases hc : arrIn st ev b ∧ behindB p b = true
    · rw [if_pos hc] at h
      intro a ha
      rcases List.mem_cons.1 ha with rfl | ha
      · exact hc.1
      · exact arrsFrom_in h a ha
    · rw [if_neg hc] at h; cases h

theorem rep_lead {S : Nat → Nat} {l : List Int} {st ev e : Int} {ars : List Arr} (h : Rep S l) (hin : ∀ a ∈ ars, arrIn st ev a) (hst : st ≤ 256) (h0 : 0 ≤ e) (h1 : e < ev) :
    Rep (leadS ev.toNat ars S e.toNat) (stepL ars l e) := by
  refine ⟨ok_leadF (okS_tab _ _) _, ?_, fun n hn => ?_⟩
  · intro x hx
    obtain ⟨a, ha, -, -, rfl⟩ := (mem_stepL _ _ _ _).1 hx
    have := hin a ha
    exact ⟨this.2.2.1, by omega⟩
  · unfold leadS
    rw [has_leadF, mem_stepL]
    constructor
    · rintro ⟨k, hk, ht⟩
      obtain ⟨a, ha, hp, hn⟩ := (has_tab _ _ _ _).1 ht
      obtain ⟨hk1, hk2⟩ := (mem_allS _ _).1 hk
      have hi := hin a ha
      have he : a.e.toNat < ev.toNat := by omega
      have he' : e.toNat < ev.toNat := by omega
      have hee : a.e.toNat = e.toNat := by
        have := congrArg (· % ev.toNat) hp
        simp only [Nat.mul_comm _ ev.toNat, Nat.mul_add_mod, Nat.mod_eq_of_lt he, Nat.mod_eq_of_lt he'] at this
        exact this.symm
      have hff : a.f.toNat = k := by
        rw [hee] at hp
        have := Nat.add_right_cancel hp
        exact (Nat.eq_of_mul_eq_mul_right (by omega) this).symm
      refine ⟨a, ha, by omega, ?_, by omega⟩
      have := (h.mem k hk1).1 hk2
      rw [← hff, Int.toNat_of_nonneg hi.1] at this
      exact this
    · rintro ⟨a, ha, hae, haf, hat⟩
      have hi := hin a ha
      have hb := h.bd _ haf
      refine ⟨a.f.toNat, (mem_allS _ _).2 ⟨by omega, (h.mem _ (by omega)).2 (by rwa [Int.toNat_of_nonneg hi.1])⟩, (has_tab _ _ _ _).2 ⟨a, ha, ?_, by omega⟩⟩
      rw [hae]

/-- Nothing is in a set. -/
def emptyB (S : Nat → Nat) : Bool := decide (S 0 = 0 ∧ S 1 = 0 ∧ S 2 = 0 ∧ S 3 = 0)
theorem word_zero {w : Nat} (h : w < 18446744073709551616) (hz : ∀ j, j < 64 → w.testBit j = false) : w = 0 := by
  apply Nat.eq_of_testBit_eq
  intro i
  rw [Nat.zero_testBit]
  by_cases hi : i < 64
  · exact hz i hi
  · exact Nat.testBit_lt_two_pow (Nat.lt_of_lt_of_le h (Nat.pow_le_pow_right (n := 2) (i := 64) (by omega) (by omega)))
theorem empty_yes {S : Nat → Nat} {l : List Int} (h : Rep S l) (he : emptyB S = true) : l = [] := by
  obtain ⟨e0, e1, e2, e3⟩ := of_decide_eq_true he
  cases l with
  | nil => rfl
  | cons x r =>
    obtain ⟨b0, b1⟩ := h.bd x (by simp)
    have := (h.mem x.toNat (by omega)).2 (by rw [Int.toNat_of_nonneg b0]; simp)
    exfalso
    unfold hasS at this
    have hk : x.toNat / 64 = 0 ∨ x.toNat / 64 = 1 ∨ x.toNat / 64 = 2 ∨ x.toNat / 64 = 3 := by omega
    rcases hk with hk | hk | hk | hk <;> rw [hk] at this <;> simp_all
/-- Is there a number that both have? -/
def meetB (S T : Nat → Nat) : Bool := decide (¬ (S 0 &&& T 0 = 0 ∧ S 1 &&& T 1 = 0 ∧ S 2 &&& T 2 = 0 ∧ S 3 &&& T 3 = 0))
theorem meet_word {a b : Nat} (ha : a < 18446744073709551616) : a &&& b = 0 ↔ ∀ j, j < 64 → ¬ (a.testBit j = true ∧ b.testBit j = true) := by
  constructor
  · intro h j _ ⟨h1, h2⟩
    have : (a &&& b).testBit j = true := by rw [Nat.testBit_and, h1, h2]; rfl
    rw [h] at this; simp at this
  · intro h
    apply word_zero (Nat.lt_of_le_of_lt Nat.and_le_left ha)
    intro j hj
    rw [Nat.testBit_and]
    have := h j hj
    cases h1 : a.testBit j <;> cases h2 : b.testBit j <;> simp_all
end Go.Proofs.YtmimjpkllgjdkaaDoor
namespace Go.Proofs.YtmimjpkllgjdkaaDoor
open Go.RowKit

theorem Tryd.infoInt : (Tryd.prog.info? 3).map (fun i => (i.zero, i.size, i.bytes)) = some (some (.int .i64 0), 1, 8) := by kernel_rfl

/-- The slice v is in memory made from block B on, and holds xs. -/
def Own (w : World) (B : Nat) (v : Value) (xs : List Int) : Prop := w.ownsRow B 3 1 v xs.length (xs.map (Value.int .i64))

theorem own_nil (w : World) (B : Nat) : Own w B (.slice none 0 0) [] := World.ownsRow_nil _ _ _ _

theorem Own.at {w : World} {B : Nat} {v : Value} {xs : List Int} (h : Own w B v xs) : ∃ a cap, v = .slice a xs.length cap ∧ At w a xs ∧ xs.length ≤ maxLen := by
  rcases h.2 with ⟨rfl, hn⟩ | ⟨g, cap, cur, rfl, hg, hh, hnc, hcm, hcs, ht⟩
  · have : xs = [] := List.eq_nil_of_length_eq_zero hn
    subst this
    exact ⟨none, 0, rfl, .inl rfl, Nat.zero_le _⟩
  · refine ⟨some ⟨g, 0, none⟩, cap, rfl, .inr ⟨g, 0, rfl, (Array.getElem?_eq_some_iff.1 hh).1, fun j hj => ?_⟩, Nat.le_trans hnc hcm⟩
    have := h.cells (g := g) rfl j (.int .i64 (xs.getD j 0)) (by rw [List.getElem?_map, List.getElem?_eq_getElem hj]; simp [List.getElem?_eq_getElem hj])
    rw [show (⟨g, 0, none⟩ : Addr).add j = ⟨g, 0 + j, none⟩ from by unfold Addr.add; split <;> simp_all] at this
    exact this

theorem own_snoc {w wr w1 : World} {B : Nat} {v v' : Value} {L : List Int} {x : Int} {o : Obj} (hown : Own wr B v L) (hb : Below B w wr) (hB : B ≤ wr.heap.size)
    (hown' : w1.ownsRow B 3 1 v' (L.length + 1) (L.map (Value.int .i64) ++ [.int .i64 x])) (hgrow : (wr.alloc o).grownBy w1 v.ownBlock) :
    Own w1 B v' (L ++ [x]) ∧ Below B w w1 ∧ B ≤ w1.heap.size := by
  refine ⟨by unfold Own; rw [List.length_append, List.map_append]; exact hown', (hb.alloc hB o).grown hgrow (by simp; omega) (fun j hj => (hown.lt j hj).1), ?_⟩
  have := hgrow.size
  simp at this
  omega

theorem Own.drewN {w : World} {B : Nat} {v : Value} {xs : List Int} (h : Own w B v xs) (m : Nat) : Own (w.drewN m) B v xs := h

/-- An owned slice, as its value and its cells. -/
theorem Own.cells_of {w : World} {B : Nat} {v : Value} {xs : List Int} (h : Own w B v xs) : (v = .slice none 0 0 ∧ xs = []) ∨ ∃ g cap, v = .slice (some ⟨g, 0, none⟩) xs.length cap ∧ B ≤ g ∧ g < w.heap.size ∧ Cells w g 0 xs ∧ (∀ j, w.frozen? ⟨g, j, none⟩ = false) := by
  rcases h.2 with ⟨rfl, hn⟩ | ⟨g, cap, cur, rfl, hg, hh, hnc, hcm, hcs, ht⟩
  · exact .inl ⟨rfl, List.eq_nil_of_length_eq_zero hn⟩
  · refine .inr ⟨g, cap, rfl, hg, (Array.getElem?_eq_some_iff.1 hh).1, fun j hj => ?_, fun j => ?_⟩
    · have := h.cells (g := g) rfl j (.int .i64 (xs.getD j 0)) (by rw [List.getElem?_map, List.getElem?_eq_getElem hj]; simp [List.getElem?_eq_getElem hj])
      rw [show (⟨g, 0, none⟩ : Addr).add j = ⟨g, 0 + j, none⟩ from by unfold Addr.add; split <;> simp_all] at this
      exact this
    · simp [World.frozen?, hh]

end Go.Proofs.YtmimjpkllgjdkaaDoor
namespace Go.Proofs.YtmimjpkllgjdkaaDoor
open Go.RowKit
set_option linter.unusedVariables false

section
variable {P : Program} (w : World)
theorem wp_append_nil {o : Oper} {a : Act} {K : Act → World → Prop} {Q : Exit → Act → World → Prop} (s x : Operand) (t : TypeId)
    (ho : o.op = .call { callee := .builtin .append, args := #[s, x], argTypes := #[t, t] })
    (base : Nat) (e : TypeId) (i : TypeInfo) (size : Nat) (ht : P.underlying t = some (.slice e)) (hi : P.info? e = some i)
    (v : Value) (n : Nat) (xs : List Value) (hs : a.eval s = v) (hown : w.ownsRow base e size v n xs) (hx : a.eval x = .slice none 0 0)
    (h : K (a.put o.dst v) w) : o.wp P a w K Q := by
  have hr := run_append_owned_none (P := P) w base t o.type e i size ht hi v n xs hown
  unfold Oper.wp execOp
  simp only [ho, resolve, invoke, builtin, Sem.run_bind, Sem.run_pure, Result.andThen_ok, List.map_toArray, List.map_cons, List.map_nil, hs, hx, hr]
  exact h

/-- append(v, y...): v is a row of integers of the call's own, y any slice of integers (nil among them). -/
theorem wpList_append_ints {ops : Array Oper} {rest : List Oper} {o : Oper} {a : Act} {Q : Exit → Act → World → Prop} (hgd : o.guard = none) (s x : Operand) (t : TypeId)
    (ho : o.op = .call { callee := .builtin .append, args := #[s, x], argTypes := #[t, t] })
    (B : Nat) (i : TypeInfo) (ht : P.underlying t = some (.slice 3)) (hi : P.info? 3 = some i) (hz : i.zero = some (.int .i64 0)) (hsize : i.size = 1) (hby : i.bytes = 8)
    (v : Value) (L : List Int) (hs : a.eval s = v) (hown : Own w B v L)
    (ad : Option Addr) (c : Nat) (ys : List Int) (hx : a.eval x = .slice ad ys.length c) (hat : At w ad ys) (hnil : ad = none → c = 0)
    (hroom : (L.length + ys.length) * 8 ≤ 140737488355328) (hbase : B ≤ w.heap.size)
    (h : ∀ v' w', Own w' B v' (L ++ ys) → Below B w w' → B ≤ w'.heap.size → wpList P ops Q rest (a.put o.dst v') w') : wpList P ops Q (o :: rest) a w := by
  cases ad with
  | none =>
    have hy : ys = [] := by
      rcases hat with h | ⟨b, off, h, _⟩
      · exact h
      · cases h
    subst hy
    rw [hnil rfl] at hx
    refine wpList_plain hgd fun _ hK => wp_append_nil w s x t ho B 3 i 1 ht hi v _ _ hs hown hx (hK _ _ (h v w ?_ (Below.refl _ _) hbase))
    rw [List.append_nil]; exact hown
  | some ad =>
    refine wpList_append_own w hgd s x t ho B 3 i (.int .i64 0) 1 8 ht hi hz hsize hby rfl (by decide) v _ _ hs hown ad ys.length c (ys.map (Value.int .i64)) hx (by simp) ?_ ?_ (by unfold maxLen; omega) hroom hbase ?_
    · intro j u hu
      rw [List.getElem?_map] at hu
      rcases hat with h0 | ⟨b, off, h0, _, hc⟩
      · subst h0; simp at hu
      · cases h0
        cases hj : ys[j]? with
        | none => rw [hj] at hu; simp at hu
        | some y =>
          rw [hj] at hu
          simp only [Option.map_some, Option.some.injEq] at hu
          subst hu
          have := hc j (List.getElem?_eq_some_iff.1 hj).1
          rw [List.getD_eq_getElem?_getD, hj, Option.getD_some] at this
          rw [show (⟨b, off, none⟩ : Addr).add j = ⟨b, off + j, none⟩ from by simp [Addr.add]]
          exact this
    · intro u hu
      obtain ⟨y, _, rfl⟩ := List.mem_map.1 hu
      rfl
    · intro v' w' ho' hg _
      refine h v' w' ?_ ((Below.refl _ _).grown hg hbase (fun j hj => (hown.lt j hj).1)) (Nat.le_trans hbase hg.size)
      unfold Own
      rw [List.length_append, List.map_append]
      exact ho'
end

theorem own_empty (w : World) : Own (w.alloc (.cells #[] 3)) w.heap.size (.slice (some ⟨w.heap.size, 0, none⟩) 0 0) [] :=
  World.ownsRow_lit w #[] 0 (Nat.le_refl _) (Nat.zero_le _) rfl

end Go.Proofs.YtmimjpkllgjdkaaDoor
