/-
  Plain: a search by lengths of what words lead back to, the least words. No program, no model.
  Plain: where a plant may have begun. No program, no model.
  What initial.Began and Leak leave.
  Plain: where a plant was, and the least two lists that tell it. No program, no model.
-/
import Derived.Test.YtmlkpdeidpcidaaDoorG23
import Derived.Test.YtmlkpdeidpcidaaDoorCCPost
import Derived.Test.YtmlkpdeidpcidaaDoorG24
namespace Go.Proofs.YtmlkpdeidpcidaaDoor
open Go.RowKit
set_option linter.unusedVariables false
set_option linter.unusedSectionVars false

theorem leW_cons (e : Int) {a b : List Int} (h : leW a b) : leW (e :: a) (e :: b) := by
  rcases h with rfl | h
  · exact .inl rfl
  · refine .inr ?_
    have hl := lessB_len h
    unfold lessB at h ⊢
    simp only [List.length_cons]
    by_cases hh : a.length = b.length
    · rw [if_pos hh] at h
      rw [if_pos (by omega)]
      unfold lexB
      rw [if_pos rfl]; exact h
    · rw [if_neg (by omega)]
      exact decide_eq_true (by omega)
theorem leW_short {a b : List Int} (h : a.length < b.length) : leW a b := .inr (by unfold lessB; rw [if_neg (by omega)]; exact decide_eq_true h)
theorem leW_of_not {a b : List Int} (h : lessB a b = false) : leW b a := by
  by_cases e : b = a
  · exact .inl e
  · rcases lessB_total e with h1 | h1
    · exact .inr h1
    · rw [h] at h1; cases h1

section
variable {σ : Type} [DecidableEq σ] (op : Nat → σ → σ)
/-- What a word leads back to. -/
def valB (s0 : σ) : List Int → σ
  | [] => s0
  | e :: u => op e.toNat (valB s0 u)
/-- The first place of a row, or how many there are. -/
def posK : List (σ × List Int) → σ → Nat
  | [], _ => 0
  | p :: r, s => if p.1 = s then 0 else posK r s + 1
theorem posK_le : ∀ (l : List (σ × List Int)) (s : σ), posK l s ≤ l.length
  | [], _ => Nat.le_refl _
  | p :: r, s => by
    unfold posK; split
    · simp
    · have := posK_le r s; simp; omega
theorem posK_at : ∀ {l : List (σ × List Int)} {s : σ}, posK l s < l.length → ∃ p, l[posK l s]? = some p ∧ p.1 = s
  | [], _, h => by simp [posK] at h
  | p :: r, s, h => by
    unfold posK at h ⊢
    by_cases e : p.1 = s
    · rw [if_pos e]; exact ⟨p, rfl, e⟩
    · rw [if_neg e] at h ⊢
      obtain ⟨q, h1, h2⟩ := posK_at (l := r) (s := s) (by simpa using h)
      exact ⟨q, by simpa using h1, h2⟩
theorem posK_new : ∀ {l : List (σ × List Int)} {s : σ}, posK l s = l.length → ∀ p ∈ l, p.1 ≠ s
  | [], _, _ => by simp
  | p :: r, s, h => by
    unfold posK at h
    by_cases e : p.1 = s
    · rw [if_pos e] at h; simp at h
    · rw [if_neg e] at h
      intro q hq
      rcases List.mem_cons.1 hq with rfl | hq
      · exact e
      · exact posK_new (l := r) (s := s) (by simpa using h) q hq
/-- One event more ahead of x. -/
def bwAdd (l : List (σ × List Int)) (x : σ × List Int) (next : List (σ × List Int)) (e : Nat) : List (σ × List Int) :=
  if knownB l (op e x.1) = true then next
  else if posK next (op e x.1) = next.length then next ++ [(op e x.1, (e : Int) :: x.2)]
  else if lessB ((e : Int) :: x.2) ((next[posK next (op e x.1)]?.map (·.2)).getD []) = true then next.set (posK next (op e x.1)) (op e x.1, (e : Int) :: x.2)
  else next
def bwRow (l : List (σ × List Int)) (x : σ × List Int) (next : List (σ × List Int)) (n : Nat) : List (σ × List Int) := (List.range n).foldl (bwAdd op l x) next
theorem bwRow_succ (l : List (σ × List Int)) (x : σ × List Int) (next : List (σ × List Int)) (n : Nat) : bwRow op l x next (n + 1) = bwAdd op l x (bwRow op l x next n) n := by
  unfold bwRow; rw [List.range_succ, List.foldl_append]; rfl
def bwLay (l : List (σ × List Int)) (ev : Nat) (layer : List (σ × List Int)) : List (σ × List Int) := layer.foldl (fun nx x => bwRow op l x nx ev) []
theorem bwLay_take (l : List (σ × List Int)) (ev : Nat) {layer : List (σ × List Int)} {k : Nat} {x : σ × List Int} (h : layer[k]? = some x) : bwLay op l ev (layer.take (k + 1)) = bwRow op l x (bwLay op l ev (layer.take k)) ev := by
  unfold bwLay
  rw [List.take_add_one, h, Option.toList_some, List.foldl_append]; rfl
def bwGo (ev : Nat) : Nat → List (σ × List Int) → List (σ × List Int) → List (σ × List Int)
  | 0, l, _ => l
  | f + 1, l, layer => if layer.length = 0 then l else bwGo ev f (l ++ bwLay op l ev layer) (bwLay op l ev layer)

variable {op}
/-- What next holds when some have been gone on from. -/
structure NX (op : Nat → σ → σ) (l : List (σ × List Int)) (dn : List ((σ × List Int) × Nat)) (next : List (σ × List Int)) : Prop where
  nd : (next.map (·.1)).Nodup
  no : ∀ y ∈ next, knownB l y.1 = false
  run : ∀ y ∈ next, ∃ x e, (x, e) ∈ dn ∧ y.1 = op e x.1 ∧ y.2 = (e : Int) :: x.2
  all : ∀ x e, (x, e) ∈ dn → knownB l (op e x.1) = false → ∃ y ∈ next, y.1 = op e x.1 ∧ leW y.2 ((e : Int) :: x.2)
theorem nx_nil (l : List (σ × List Int)) : NX op l [] [] := ⟨by simp, by simp, by simp, by simp⟩
theorem nx_add {l next : List (σ × List Int)} {dn : List ((σ × List Int) × Nat)} (h : NX op l dn next) (x : σ × List Int) (e : Nat) : NX op l (dn ++ [(x, e)]) (bwAdd op l x next e) := by
  have up : ∀ {y : (σ × List Int) × Nat}, y ∈ dn → y ∈ dn ++ [(x, e)] := fun hy => List.mem_append_left _ hy
  have hlast : (x, e) ∈ dn ++ [(x, e)] := List.mem_append_right _ (by simp)
  unfold bwAdd
  by_cases hk : knownB l (op e x.1) = true
  · rw [if_pos hk]
    refine ⟨h.nd, h.no, fun y hy => ?_, fun x' e' hm hn => ?_⟩
    · obtain ⟨a, b, h1, h2⟩ := h.run y hy
      exact ⟨a, b, up h1, h2⟩
    · rcases List.mem_append.1 hm with hm | hm
      · exact h.all x' e' hm hn
      · have : (x', e') = (x, e) := by simpa using hm
        cases this
        rw [hk] at hn; cases hn
  · rw [if_neg hk]
    have hkf : knownB l (op e x.1) = false := by simpa using hk
    by_cases hp : posK next (op e x.1) = next.length
    · rw [if_pos hp]
      have hnew := posK_new hp
      refine ⟨?_, fun y hy => ?_, fun y hy => ?_, fun x' e' hm hn => ?_⟩
      · rw [List.map_append, List.nodup_append]
        refine ⟨h.nd, by simp, fun a ha b hb e1 => ?_⟩
        have hb : b = op e x.1 := by simpa using hb
        obtain ⟨q, hq, e2⟩ := List.mem_map.1 ha
        exact hnew q hq (by rw [e2, e1, hb])
      · rcases List.mem_append.1 hy with hy | hy
        · exact h.no y hy
        · have : y = (op e x.1, (e : Int) :: x.2) := by simpa using hy
          subst this; exact hkf
      · rcases List.mem_append.1 hy with hy | hy
        · obtain ⟨a, b, h1, h2⟩ := h.run y hy
          exact ⟨a, b, up h1, h2⟩
        · have : y = (op e x.1, (e : Int) :: x.2) := by simpa using hy
          subst this; exact ⟨x, e, hlast, rfl, rfl⟩
      · rcases List.mem_append.1 hm with hm | hm
        · obtain ⟨y, h1, h2⟩ := h.all x' e' hm hn
          exact ⟨y, List.mem_append_left _ h1, h2⟩
        · have : (x', e') = (x, e) := by simpa using hm
          cases this
          exact ⟨(op e x.1, (e : Int) :: x.2), List.mem_append_right _ (by simp), rfl, leW_refl _⟩
    · rw [if_neg hp]
      have hlt : posK next (op e x.1) < next.length := by have := posK_le next (op e x.1); omega
      obtain ⟨q, hq, hq1⟩ := posK_at hlt
      rw [hq, Option.map_some, Option.getD_some]
      by_cases hl : lessB ((e : Int) :: x.2) q.2 = true
      · rw [if_pos hl]
        have hmap : (next.set (posK next (op e x.1)) (op e x.1, (e : Int) :: x.2)).map (·.1) = next.map (·.1) := by
          rw [List.map_set]
          apply List.ext_getElem?
          intro i
          by_cases hi : i = posK next (op e x.1)
          · subst hi
            rw [List.getElem?_set_self (by rw [List.length_map]; exact hlt), List.getElem?_map, hq, Option.map_some, hq1]
          · rw [List.getElem?_set_ne (Ne.symm hi)]
        have hin : ∀ y ∈ next.set (posK next (op e x.1)) (op e x.1, (e : Int) :: x.2), y = (op e x.1, (e : Int) :: x.2) ∨ y ∈ next := fun y hy => by
          rcases List.mem_or_eq_of_mem_set hy with h1 | h1
          · exact .inr h1
          · exact .inl h1
        refine ⟨by rw [hmap]; exact h.nd, fun y hy => ?_, fun y hy => ?_, fun x' e' hm hn => ?_⟩
        · rcases hin y hy with rfl | hy
          · exact hkf
          · exact h.no y hy
        · rcases hin y hy with rfl | hy
          · exact ⟨x, e, hlast, rfl, rfl⟩
          · obtain ⟨a, b, h1, h2⟩ := h.run y hy
            exact ⟨a, b, up h1, h2⟩
        · have hset : (op e x.1, (e : Int) :: x.2) ∈ next.set (posK next (op e x.1)) (op e x.1, (e : Int) :: x.2) := List.mem_of_getElem? (i := posK next (op e x.1)) (by rw [List.getElem?_set_self hlt])
          rcases List.mem_append.1 hm with hm | hm
          · obtain ⟨y, h1, h2, h3⟩ := h.all x' e' hm hn
            by_cases e1 : y = q
            · subst e1
              exact ⟨_, hset, by rw [← h2, hq1], leW_trans (.inr hl) h3⟩
            · obtain ⟨i, hi⟩ := List.mem_iff_getElem?.1 h1
              have hne : i ≠ posK next (op e x.1) := fun e2 => by
                subst e2; rw [hq] at hi; exact e1 (Option.some.inj hi).symm
              exact ⟨y, List.mem_of_getElem? (i := i) (by rw [List.getElem?_set_ne (Ne.symm hne)]; exact hi), h2, h3⟩
          · have : (x', e') = (x, e) := by simpa using hm
            cases this
            exact ⟨_, hset, rfl, leW_refl _⟩
      · rw [if_neg hl]
        refine ⟨h.nd, h.no, fun y hy => ?_, fun x' e' hm hn => ?_⟩
        · obtain ⟨a, b, h1, h2⟩ := h.run y hy
          exact ⟨a, b, up h1, h2⟩
        · rcases List.mem_append.1 hm with hm | hm
          · exact h.all x' e' hm hn
          · have : (x', e') = (x, e) := by simpa using hm
            cases this
            exact ⟨q, List.mem_of_getElem? hq, hq1, leW_of_not (by simpa using hl)⟩
/-- All events of x. -/
def evsOf (x : σ × List Int) (n : Nat) : List ((σ × List Int) × Nat) := (List.range n).map fun e => (x, e)
theorem nx_row {l next : List (σ × List Int)} {dn : List ((σ × List Int) × Nat)} (h : NX op l dn next) (x : σ × List Int) : ∀ n, NX op l (dn ++ evsOf x n) (bwRow op l x next n)
  | 0 => by simpa [evsOf, bwRow] using h
  | n + 1 => by
    have := nx_add (nx_row h x n) x n
    rw [bwRow_succ]
    have e : dn ++ evsOf x (n + 1) = dn ++ evsOf x n ++ [(x, n)] := by simp [evsOf, List.range_succ]
    rw [e]; exact this
def pairsOf (layer : List (σ × List Int)) (ev : Nat) : List ((σ × List Int) × Nat) := layer.flatMap fun x => evsOf x ev
theorem nx_lay (l : List (σ × List Int)) (ev : Nat) : ∀ (layer : List (σ × List Int)) (dn : List ((σ × List Int) × Nat)) (next : List (σ × List Int)), NX op l dn next → NX op l (dn ++ pairsOf layer ev) (layer.foldl (fun nx x => bwRow op l x nx ev) next)
  | [], dn, next, h => by simpa [pairsOf] using h
  | x :: r, dn, next, h => by
    have := nx_lay l ev r (dn ++ evsOf x ev) _ (nx_row h x ev)
    rw [List.foldl_cons]
    have e : dn ++ pairsOf (x :: r) ev = dn ++ evsOf x ev ++ pairsOf r ev := by simp [pairsOf]
    rw [e]; exact this
theorem nx_all (l : List (σ × List Int)) (ev : Nat) (layer : List (σ × List Int)) : NX op l (pairsOf layer ev) (bwLay op l ev layer) := by
  have := nx_lay (op := op) l ev layer [] [] (nx_nil l)
  simpa [bwLay] using this
theorem mem_pairs {layer : List (σ × List Int)} {ev : Nat} {x : σ × List Int} {e : Nat} : (x, e) ∈ pairsOf layer ev ↔ x ∈ layer ∧ e < ev := by
  unfold pairsOf evsOf
  rw [List.mem_flatMap]
  constructor
  · rintro ⟨y, hy, h⟩
    obtain ⟨k, hk, e1⟩ := List.mem_map.1 h
    cases e1
    exact ⟨hy, List.mem_range.1 hk⟩
  · rintro ⟨h1, h2⟩
    exact ⟨x, h1, List.mem_map.2 ⟨e, List.mem_range.2 h2, rfl⟩⟩

/-- What holds when all words of up to n events have been gone through. -/
structure LBk (op : Nat → σ → σ) (s0 : σ) (ev n : Nat) (l layer : List (σ × List Int)) : Prop where
  nd : (l.map (·.1)).Nodup
  run : ∀ x ∈ l, x.1 = valB op s0 x.2 ∧ (∀ e ∈ x.2, 0 ≤ e ∧ e < (ev : Int)) ∧ x.2.length ≤ n
  lst : ∀ x ∈ l, ∀ u : List Int, (∀ e ∈ u, 0 ≤ e ∧ e < (ev : Int)) → valB op s0 u = x.1 → leW x.2 u
  cov : ∀ u : List Int, (∀ e ∈ u, 0 ≤ e ∧ e < (ev : Int)) → u.length ≤ n → ∃ x ∈ l, x.1 = valB op s0 u
  lay : ∀ x, x ∈ layer ↔ x ∈ l ∧ x.2.length = n
theorem lbk_start (s0 : σ) (ev : Nat) : LBk op s0 ev 0 [(s0, [])] [(s0, [])] := by
  refine ⟨by simp, fun x hx => ?_, fun x hx u hu _ => ?_, fun u hu hl => ?_, fun x => ?_⟩
  · have : x = (s0, []) := by simpa using hx
    subst this; exact ⟨rfl, by simp, Nat.le_refl _⟩
  · have : x = (s0, []) := by simpa using hx
    subst this; exact nil_le u
  · have : u = [] := List.eq_nil_of_length_eq_zero (by omega)
    subst this; exact ⟨(s0, []), by simp, rfl⟩
  · constructor
    · intro hx
      have : x = (s0, []) := by simpa using hx
      subst this; exact ⟨by simp, rfl⟩
    · exact fun h => h.1
theorem val_cons (s0 : σ) (e : Nat) (u : List Int) : valB op s0 ((e : Int) :: u) = op e (valB op s0 u) := by simp [valB]
theorem lbk_next {s0 : σ} {ev n : Nat} {l layer : List (σ × List Int)} (h : LBk op s0 ev n l layer) : LBk op s0 ev (n + 1) (l ++ bwLay op l ev layer) (bwLay op l ev layer) := by
  have hx := nx_all (op := op) l ev layer
  -- a word of n + 1 events that is not known comes from the layer
  have from_lay : ∀ (e : Int) (v : List Int), (∀ c ∈ e :: v, 0 ≤ c ∧ c < (ev : Int)) → v.length = n → knownB l (valB op s0 (e :: v)) = false → ∃ x ∈ layer, x.1 = valB op s0 v ∧ leW x.2 v := by
    intro e v hb hv hk
    obtain ⟨x, hxl, e1⟩ := h.cov v (fun c hc => hb c (by simp [hc])) (by omega)
    have hle := h.lst x hxl v (fun c hc => hb c (by simp [hc])) e1.symm
    refine ⟨x, (h.lay x).2 ⟨hxl, ?_⟩, e1, hle⟩
    have hr := h.run x hxl
    rcases Nat.lt_or_ge x.2.length n with hlt | hge
    · obtain ⟨y, hy, e2⟩ := h.cov (e :: x.2) (fun c hc => by
        rcases List.mem_cons.1 hc with rfl | hc
        · exact hb c (by simp)
        · exact hr.2.1 c hc) (by simp; omega)
      have : knownB l (valB op s0 (e :: v)) = true := (knownB_iff _ _).2 ⟨y, hy, by rw [e2]; show op e.toNat (valB op s0 x.2) = op e.toNat (valB op s0 v); rw [← e1, hr.1]⟩
      rw [hk] at this; cases this
    · have := hr.2.2; omega
  have hrunN : ∀ y ∈ bwLay op l ev layer, y.1 = valB op s0 y.2 ∧ (∀ c ∈ y.2, 0 ≤ c ∧ c < (ev : Int)) ∧ y.2.length = n + 1 := fun y hy => by
    obtain ⟨x, e, hm, e1, e2⟩ := hx.run y hy
    obtain ⟨hxl, he⟩ := mem_pairs.1 hm
    obtain ⟨h1, h2⟩ := (h.lay x).1 hxl
    have hr := h.run x h1
    refine ⟨by rw [e2, e1, val_cons, ← hr.1], fun c hc => ?_, by rw [e2, List.length_cons, h2]⟩
    rw [e2] at hc
    rcases List.mem_cons.1 hc with rfl | hc
    · omega
    · exact hr.2.1 c hc
  refine ⟨?_, fun y hy => ?_, fun y hy u hu hv => ?_, fun u hu hl => ?_, fun y => ?_⟩
  · rw [List.map_append, List.nodup_append]
    refine ⟨h.nd, hx.nd, fun a ha b hb e1 => ?_⟩
    obtain ⟨p, hp, rfl⟩ := List.mem_map.1 ha
    obtain ⟨q, hq, rfl⟩ := List.mem_map.1 hb
    have := hx.no q hq
    rw [(knownB_iff _ _).2 ⟨p, hp, e1⟩] at this; cases this
  · rcases List.mem_append.1 hy with hy | hy
    · have := h.run y hy
      exact ⟨this.1, this.2.1, by omega⟩
    · have := hrunN y hy
      exact ⟨this.1, this.2.1, by omega⟩
  · rcases List.mem_append.1 hy with hy | hy
    · exact h.lst y hy u hu hv
    · have hr := hrunN y hy
      have hno := hx.no y hy
      rcases Nat.lt_trichotomy u.length (n + 1) with hlt | heq | hgt
      · obtain ⟨z, hz, e1⟩ := h.cov u hu (by omega)
        rw [(knownB_iff _ _).2 ⟨z, hz, by rw [e1, hv]⟩] at hno; cases hno
      · cases u with
        | nil => simp at heq
        | cons e v =>
          have hev := hu e (by simp)
          obtain ⟨x, hxl, e1, e2⟩ := from_lay e v hu (by simpa using heq) (by rw [hv]; exact hno)
          have hval : op e.toNat x.1 = y.1 := by rw [e1]; exact hv
          obtain ⟨y', hy', e3, e4⟩ := hx.all x e.toNat (mem_pairs.2 ⟨hxl, by omega⟩) (by rw [hval]; exact hno)
          have hyy : y' = y := by
            have hnd := hx.nd
            obtain ⟨i, hi⟩ := List.mem_iff_getElem?.1 hy'
            obtain ⟨j, hj⟩ := List.mem_iff_getElem?.1 hy
            have li := (List.getElem?_eq_some_iff.1 hi).1
            have lj := (List.getElem?_eq_some_iff.1 hj).1
            have hij : i = j := by
              have a1 : ((bwLay op l ev layer).map (·.1))[i]? = some y.1 := by rw [List.getElem?_map, hi, Option.map_some, e3, hval]
              have a2 : ((bwLay op l ev layer).map (·.1))[j]? = some y.1 := by rw [List.getElem?_map, hj]; rfl
              exact (List.getElem?_inj (by rw [List.length_map]; exact li) hnd).1 (by rw [a1, a2])
            subst hij
            rw [hi] at hj
            exact Option.some.inj hj
          subst hyy
          have hc : ((e.toNat : Nat) : Int) = e := by omega
          rw [hc] at e4
          exact leW_trans e4 (leW_cons e e2)
      · exact leW_short (by omega)
  · rcases Nat.lt_or_ge u.length (n + 1) with hlt | hge
    · obtain ⟨x, h1, h2⟩ := h.cov u hu (by omega)
      exact ⟨x, List.mem_append_left _ h1, h2⟩
    · cases hk : knownB l (valB op s0 u) with
      | true =>
        obtain ⟨x, h1, h2⟩ := (knownB_iff _ _).1 hk
        exact ⟨x, List.mem_append_left _ h1, h2⟩
      | false =>
        cases u with
        | nil => simp at hge
        | cons e v =>
          have hev := hu e (by simp)
          obtain ⟨x, hxl, e1, e2⟩ := from_lay e v hu (by simp at hl hge; omega) hk
          have hval : op e.toNat x.1 = valB op s0 (e :: v) := by rw [e1]; rfl
          obtain ⟨y', hy', e3, e4⟩ := hx.all x e.toNat (mem_pairs.2 ⟨hxl, by omega⟩) (by rw [hval]; exact hk)
          exact ⟨y', List.mem_append_right _ hy', by rw [e3, hval]⟩
  · constructor
    · intro hy
      exact ⟨List.mem_append_right _ hy, (hrunN y hy).2.2⟩
    · rintro ⟨hy, hl⟩
      rcases List.mem_append.1 hy with hy | hy
      · have := (h.run y hy).2.2; omega
      · exact hy
theorem lbk_end {s0 : σ} {ev N : Nat} (hN : ∀ (n : Nat) (l layer : List (σ × List Int)), LBk op s0 ev n l layer → l.length ≤ N) : ∀ (f n : Nat) (l layer : List (σ × List Int)), LBk op s0 ev n l layer → N - l.length + (if layer.length = 0 then 0 else 1) ≤ f → ∃ n', LBk op s0 ev n' (bwGo op ev f l layer) []
  | 0, n, l, layer, h, hf => by
    by_cases h0 : layer.length = 0
    · have : layer = [] := List.eq_nil_of_length_eq_zero h0
      subst this; exact ⟨n, h⟩
    · rw [if_neg h0] at hf; omega
  | f + 1, n, l, layer, h, hf => by
    unfold bwGo
    by_cases h0 : layer.length = 0
    · rw [if_pos h0]
      have : layer = [] := List.eq_nil_of_length_eq_zero h0
      subst this; exact ⟨n, h⟩
    · rw [if_neg h0]
      rw [if_neg h0] at hf
      have h' := lbk_next h
      have hb := hN _ _ _ h'
      rw [List.length_append] at hb
      refine lbk_end hN f (n + 1) _ _ h' ?_
      rw [List.length_append]
      split <;> omega
/-- Where nothing is left, each word's row is there, with a word that is no greater. -/
theorem lbk_all {s0 : σ} {ev n : Nat} {l : List (σ × List Int)} (h : LBk op s0 ev n l []) : ∀ (u : List Int), (∀ e ∈ u, 0 ≤ e ∧ e < (ev : Int)) → ∃ x ∈ l, x.1 = valB op s0 u ∧ leW x.2 u
  | [], hu => by
    obtain ⟨x, h1, h2⟩ := h.cov [] hu (Nat.zero_le _)
    exact ⟨x, h1, h2, h.lst x h1 [] hu h2.symm⟩
  | e :: v, hu => by
    obtain ⟨x, h1, h2, -⟩ := lbk_all h v (fun c hc => hu c (by simp [hc]))
    have hr := h.run x h1
    have hlt : x.2.length < n := by
      rcases Nat.lt_or_ge x.2.length n with hlt | hge
      · exact hlt
      · have := (h.lay x).2 ⟨h1, by have := hr.2.2; omega⟩
        simp at this
    obtain ⟨y, h3, h4⟩ := h.cov (e :: x.2) (fun c hc => by
      rcases List.mem_cons.1 hc with rfl | hc
      · exact hu c (by simp)
      · exact hr.2.1 c hc) (by simp; omega)
    have e5 : y.1 = valB op s0 (e :: v) := by rw [h4]; show op e.toNat (valB op s0 x.2) = op e.toNat (valB op s0 v); rw [← h2, hr.1]
    exact ⟨y, h3, e5, h.lst y h3 _ hu e5.symm⟩
end

end Go.Proofs.YtmlkpdeidpcidaaDoor
namespace Go.Proofs.YtmlkpdeidpcidaaDoor
open Go.RowKit
set_option linter.unusedVariables false
set_option linter.unusedSectionVars false

/-! What is seen from some states on is what is seen from one of them on. -/
/-- Unseen events lead nowhere else. -/
def ClS (p : Plant) (S : List Int) : Prop := ∀ a ∈ p.m.arrows, hasB p.seen a.e = false → a.f ∈ S → a.t ∈ S
theorem cl_wide {p : Plant} (hm : mayB p.m = true) (ss : List Int) : ClS p (wideL p.m.arrows p.seen ss) := fun a ha hu hf => wide_cl (may_to hm) ha hu hf
theorem wide_min {p : Plant} (hm : mayB p.m = true) {ss S : List Int} (hS : ClS p S) (h : ∀ x ∈ ss, x ∈ S) : ∀ x ∈ wideL p.m.arrows p.seen ss, x ∈ S := fun x hx => by
  refine (mem_wide (may_to hm) x).1 hx (fun y => y ∈ S) ⟨h, fun a ha hf => ?_⟩
  obtain ⟨h1, h2⟩ := (mem_unseen _ _ _).1 ha
  exact hS a h1 h2 hf
theorem see_mono {p : Plant} (hm : mayB p.m = true) {S S' : List Int} (h : ∀ x ∈ S, x ∈ S') (e : Int) : ∀ x ∈ seeL p S e, x ∈ seeL p S' e := by
  refine wide_min hm (cl_wide hm _) (fun x hx => ?_)
  obtain ⟨a, h1, h2, h3, h4⟩ := (mem_stepL _ _ _ _).1 hx
  exact wide_sub (may_to hm) _ ((mem_stepL _ _ _ _).2 ⟨a, h1, h2, h _ h3, h4⟩)
theorem fold_mono {p : Plant} (hm : mayB p.m = true) : ∀ (word : List Int) {S S' : List Int}, (∀ x ∈ S, x ∈ S') → ∀ x ∈ word.foldl (seeL p) S, x ∈ word.foldl (seeL p) S'
  | [], _, _, h => h
  | e :: r, S, S', h => fold_mono hm r (see_mono hm h e)
theorem see_one {p : Plant} (hm : mayB p.m = true) {S : List Int} {e x : Int} (h : x ∈ seeL p S e) : ∃ t ∈ S, x ∈ seeL p [t] e := by
  refine (mem_wide (may_to hm) x).1 h (fun y => ∃ t ∈ S, y ∈ seeL p [t] e) ⟨fun y hy => ?_, fun a ha hf => ?_⟩
  · obtain ⟨a, h1, h2, h3, h4⟩ := (mem_stepL _ _ _ _).1 hy
    exact ⟨a.f, h3, wide_sub (may_to hm) _ ((mem_stepL _ _ _ _).2 ⟨a, h1, h2, by simp, h4⟩)⟩
  · obtain ⟨t, ht, hft⟩ := hf
    obtain ⟨h1, h2⟩ := (mem_unseen _ _ _).1 ha
    exact ⟨t, ht, cl_wide hm _ a h1 h2 hft⟩
theorem fold_one {p : Plant} (hm : mayB p.m = true) : ∀ (word : List Int) {S : List Int} {x : Int}, x ∈ word.foldl (seeL p) S → ∃ t ∈ S, x ∈ fromL p [t] word
  | [], S, x, h => ⟨x, h, wide_sub (may_to hm) _ (by simp)⟩
  | e :: r, S, x, h => by
    obtain ⟨u, hu, hx⟩ := fold_one hm r (S := seeL p S e) h
    obtain ⟨t, ht, hut⟩ := see_one hm hu
    refine ⟨t, ht, ?_⟩
    show x ∈ r.foldl (seeL p) (seeL p (wideL p.m.arrows p.seen [t]) e)
    refine fold_mono hm r (S := wideL p.m.arrows p.seen [u]) ?_ x hx
    refine wide_min hm (cl_wide hm _) (fun y hy => ?_)
    have : y = u := by simpa using hy
    subst this
    exact see_mono hm (fun z hz => wide_sub (may_to hm) _ hz) e y hut

/-! Where a list can go on from. -/
/-- The states from which an event goes on into a row. -/
def intoL (p : Plant) (row : List Int) (e : Int) : List Int := (rngI p.m.st.toNat).filter fun s => decide (0 < ((seeL p (wideL p.m.arrows p.seen [s]) e).filter fun t => hasB row t == true).length)
/-- The states from which a list goes on. -/
def onL (p : Plant) (word : List Int) : List Int := (rngI p.m.st.toNat).filter fun s => decide (0 < (fromL p [s] word).length)
theorem mem_rng9 (n : Nat) (x : Int) : x ∈ rngI n ↔ 0 ≤ x ∧ x < (n : Int) := by
  unfold rngI
  rw [List.mem_map]
  constructor
  · rintro ⟨k, hk, rfl⟩
    have := List.mem_range.1 hk
    omega
  · rintro ⟨h0, h1⟩
    exact ⟨x.toNat, List.mem_range.2 (by omega), by omega⟩
theorem inc_rng9 (n : Nat) : Inc (rngI n) := by
  unfold rngI Inc
  rw [List.pairwise_map]
  exact List.Pairwise.imp (fun h => by omega) List.pairwise_lt_range
theorem inc_flt {l : List Int} (h : Inc l) (f : Int → Bool) : Inc (l.filter f) := List.Pairwise.filter f h
theorem pos_mem {l : List Int} : 0 < l.length ↔ ∃ x, x ∈ l := by
  constructor
  · intro h; exact ⟨l[0], List.getElem_mem h⟩
  · rintro ⟨x, hx⟩; exact List.length_pos_of_mem hx
theorem mem_on (p : Plant) (word : List Int) (s : Int) : s ∈ onL p word ↔ (0 ≤ s ∧ s < (p.m.st.toNat : Int)) ∧ ∃ x, x ∈ fromL p [s] word := by
  unfold onL
  rw [List.mem_filter, mem_rng9, decide_eq_true_eq, pos_mem]
theorem mem_into (p : Plant) (row : List Int) (e s : Int) : s ∈ intoL p row e ↔ (0 ≤ s ∧ s < (p.m.st.toNat : Int)) ∧ ∃ t, t ∈ seeL p (wideL p.m.arrows p.seen [s]) e ∧ t ∈ row := by
  unfold intoL
  rw [List.mem_filter, mem_rng9, decide_eq_true_eq, pos_mem]
  refine and_congr_right fun _ => ?_
  constructor
  · rintro ⟨t, ht⟩
    rw [List.mem_filter] at ht
    refine ⟨t, ht.1, ?_⟩
    have := ht.2
    unfold hasB at this
    simpa using this
  · rintro ⟨t, h1, h2⟩
    refine ⟨t, ?_⟩
    rw [List.mem_filter]
    refine ⟨h1, ?_⟩
    unfold hasB
    simpa using h2
theorem on_nil {p : Plant} (hm : mayB p.m = true) : onL p [] = rngI p.m.st.toNat := by
  unfold onL
  rw [List.filter_eq_self]
  intro s hs
  rw [decide_eq_true_eq, pos_mem]
  exact ⟨s, wide_sub (may_to hm) _ (by simp)⟩
theorem on_cons {p : Plant} (hm : mayB p.m = true) (e : Int) (word : List Int) : onL p (e :: word) = intoL p (onL p word) e := by
  refine inc_ext (inc_flt (inc_rng9 _) _) (inc_flt (inc_rng9 _) _) (fun s => ?_)
  show s ∈ onL p (e :: word) ↔ s ∈ intoL p (onL p word) e
  have hz := mayB_size hm
  unfold sizeOk at hz
  rw [mem_on, mem_into]
  refine and_congr_right fun hs => ?_
  constructor
  · rintro ⟨x, hx⟩
    obtain ⟨t, ht, hx'⟩ := fold_one hm word (S := seeL p (wideL p.m.arrows p.seen [s]) e) hx
    have hb := (see_in hm (wideL p.m.arrows p.seen [s]) e).2 t ht
    exact ⟨t, ht, (mem_on _ _ _).2 ⟨⟨hb.1, by omega⟩, x, hx'⟩⟩
  · rintro ⟨t, ht, hr⟩
    obtain ⟨-, x, hx⟩ := (mem_on _ _ _).1 hr
    refine ⟨x, ?_⟩
    show x ∈ word.foldl (seeL p) (seeL p (wideL p.m.arrows p.seen [s]) e)
    refine fold_mono hm word (S := wideL p.m.arrows p.seen [t]) ?_ x hx
    refine wide_min hm (cl_wide hm _) (fun y hy => ?_)
    have : y = t := by simpa using hy
    subst this; exact ht
def opB (p : Plant) (k : Nat) (row : List Int) : List Int := intoL p row (p.seen[k]?.getD 0)
theorem on_val {p : Plant} (hm : mayB p.m = true) : ∀ u : List Int, valB (opB p) (rngI p.m.st.toNat) u = onL p (wordS p.seen u)
  | [] => (on_nil hm).symm
  | k :: u => by
    show opB p k.toNat (valB (opB p) (rngI p.m.st.toNat) u) = onL p (p.seen[k.toNat]?.getD 0 :: wordS p.seen u)
    rw [on_val hm u, on_cons hm]; rfl
/-- All such rows, each with the least list (of numbers), by lengths. -/
def bwdL (p : Plant) : List (List Int × List Int) := bwGo (opB p) p.seen.length 65 [(rngI p.m.st.toNat, [])] [(rngI p.m.st.toNat, [])]
theorem bwd_bound {p : Plant} (hm : mayB p.m = true) (z : p.m.st ≤ 6) {n : Nat} {l layer : List (List Int × List Int)} (h : LBk (opB p) (rngI p.m.st.toNat) p.seen.length n l layer) : l.length ≤ 64 := by
  have h1 := nodup_sub (m := subs 6) h.nd (fun s hs => by
    obtain ⟨x, hx, rfl⟩ := List.mem_map.1 hs
    obtain ⟨e1, -, -⟩ := h.run x hx
    rw [e1, on_val hm]
    exact mem_subs 6 _ (inc_flt (inc_rng9 _) _) (fun y hy => by have := ((mem_on _ _ _).1 hy).1; omega))
  rw [List.length_map, subs_len] at h1
  exact h1
theorem bwd_all {p : Plant} (hm : mayB p.m = true) (z : p.m.st ≤ 6) : ∃ n, LBk (opB p) (rngI p.m.st.toNat) p.seen.length n (bwdL p) [] :=
  lbk_end (N := 64) (fun n l layer h => bwd_bound hm z h) 65 0 _ _ (lbk_start _ _) (by simp)

/-! What is best. -/
def BInvK (secret only : List Int) (P : List Kno) (o : Option (List Int)) : Prop :=
  match o with
  | none => ∀ x ∈ P, leakK secret only x = false
  | some v => (∃ x ∈ P, leakK secret only x = true ∧ x.2 = v) ∧ ∀ x ∈ P, leakK secret only x = true → lessB x.2 v = false
theorem binv_step (secret only : List Int) {P : List Kno} {o : Option (List Int)} (h : BInvK secret only P o) (x : Kno) : BInvK secret only (P ++ [x]) (bestStep secret only o x) := by
  have hs : bestStep secret only o x = if (leakK secret only x && (o.isNone || lessB x.2 (o.getD []))) = true then some x.2 else o := rfl
  rw [hs]
  cases hl : leakK secret only x with
  | false =>
    rw [if_neg (by simp)]
    cases o with
    | none =>
      intro y hy
      rcases List.mem_append.1 hy with hy | hy
      · exact h y hy
      · have : y = x := by simpa using hy
        subst this; exact hl
    | some v =>
      obtain ⟨⟨y, hy, h1⟩, h2⟩ := h
      refine ⟨⟨y, List.mem_append_left _ hy, h1⟩, fun y hy hk => ?_⟩
      rcases List.mem_append.1 hy with hy | hy
      · exact h2 y hy hk
      · have : y = x := by simpa using hy
        subst this; rw [hl] at hk; cases hk
  | true =>
    cases o with
    | none =>
      rw [if_pos (by simp)]
      refine ⟨⟨x, by simp, hl, rfl⟩, fun y hy hk => ?_⟩
      rcases List.mem_append.1 hy with hy | hy
      · rw [h y hy] at hk; cases hk
      · have : y = x := by simpa using hy
        subst this; exact lessB_irrefl _
    | some v =>
      obtain ⟨⟨z, hz, h1⟩, h2⟩ := h
      cases hls : lessB x.2 v with
      | true =>
        rw [if_pos (by simp [hls])]
        refine ⟨⟨x, by simp, hl, rfl⟩, fun y hy hk => ?_⟩
        rcases List.mem_append.1 hy with hy | hy
        · have k1 := leW_of_not (h2 y hy hk)
          exact leW_not (leW_trans (.inr hls) k1)
        · have : y = x := by simpa using hy
          subst this; exact lessB_irrefl _
      | false =>
        rw [if_neg (by simp [hls])]
        refine ⟨⟨z, List.mem_append_left _ hz, h1⟩, fun y hy hk => ?_⟩
        rcases List.mem_append.1 hy with hy | hy
        · exact h2 y hy hk
        · have : y = x := by simpa using hy
          subst this; exact hls
theorem binv_all (secret only : List Int) : ∀ (L P : List Kno) (o : Option (List Int)), BInvK secret only P o → BInvK secret only (P ++ L) (L.foldl (bestStep secret only) o)
  | [], P, o, h => by simpa using h
  | x :: r, P, o, h => by
    have := binv_all secret only r (P ++ [x]) _ (binv_step secret only h x)
    rw [List.append_assoc] at this
    exact this
theorem best_inv (secret only : List Int) (L : List Kno) : BInvK secret only L (bestL secret only L) := by
  have := binv_all secret only L [] none (fun x hx => by simp at hx)
  simpa [bestL] using this

/-! Where it may have begun (J1), and what tells it (J2). -/
def beganL (p : Plant) (word : List Int) : List Int := p.m.starts.filter fun s => decide (0 < (fromL p [s] word).length)
theorem began_row {p : Plant} (hm : mayB p.m = true) (word : List Int) : ((onL p word).filter fun n => hasB p.m.starts n == true) = beganL p word := by
  have h1 := may_starts hm
  have hz := mayB_size hm
  unfold sizeOk at hz
  refine inc_ext (inc_flt (inc_flt (inc_rng9 _) _) _) (inc_flt h1.1 _) (fun s => ?_)
  unfold beganL
  rw [List.mem_filter, List.mem_filter, decide_eq_true_eq, pos_mem]
  have hb : ((hasB p.m.starts s == true) = true) ↔ s ∈ p.m.starts := by unfold hasB; simp
  rw [hb]
  constructor
  · rintro ⟨h2, h3⟩
    exact ⟨h3, ((mem_on _ _ _).1 h2).2⟩
  · rintro ⟨h2, h3⟩
    have := h1.2 s h2
    exact ⟨(mem_on _ _ _).2 ⟨⟨this.1, by omega⟩, h3⟩, h2⟩
def outI (p : Plant) : Option (List Int) := bestL p.secret p.m.starts (knL p.seen (bwdL p))
theorem bwd_leak {p : Plant} (hm : mayB p.m = true) {n : Nat} {l layer : List (List Int × List Int)} (h : LBk (opB p) (rngI p.m.st.toNat) p.seen.length n l layer) {x : List Int × List Int} (hx : x ∈ l) : leakK p.secret p.m.starts (x.1, wordS p.seen x.2) = leakB p.secret (beganL p (wordS p.seen x.2)) := by
  show leakB p.secret (x.1.filter fun n => hasB p.m.starts n == true) = _
  rw [(h.run x hx).1, on_val hm, began_row hm]
theorem outI_none {p : Plant} (hp : mayP p = true) (h : outI p = none) (word : List Int) (hw : ∀ e ∈ word, e ∈ p.seen) : leakB p.secret (beganL p word) = false := by
  obtain ⟨hm, z, hs, -⟩ := (mayP_iff p).1 hp
  obtain ⟨n, hI⟩ := bwd_all hm z
  have hb := best_inv p.secret p.m.starts (knL p.seen (bwdL p))
  rw [show bestL p.secret p.m.starts (knL p.seen (bwdL p)) = none from h] at hb
  obtain ⟨x, hx, e1, -⟩ := lbk_all hI (idxS p.seen word) (idx_in hw)
  have h1 := hb (x.1, wordS p.seen x.2) (List.mem_map.2 ⟨x, hx, rfl⟩)
  have h2 : leakK p.secret p.m.starts (x.1, wordS p.seen x.2) = leakB p.secret (beganL p word) := by
    show leakB p.secret (x.1.filter fun n => hasB p.m.starts n == true) = _
    rw [e1, on_val hm, word_idx hw, began_row hm]
  rw [← h2]; exact h1
/-- A least word is no longer than there are rows. -/
theorem bwd_wlen {p : Plant} (hm : mayB p.m = true) (z : p.m.st ≤ 6) {n : Nat} (hI : LBk (opB p) (rngI p.m.st.toNat) p.seen.length n (bwdL p) []) {x : List Int × List Int} (hx : x ∈ bwdL p) : x.2.length ≤ 64 := by
  have hr := hI.run x hx
  have hlen : ∀ m, m ≤ x.2.length → ∃ q ∈ bwdL p, q.2.length = m := by
    intro m hmle
    have hsuf : ∀ e ∈ x.2.drop (x.2.length - m), 0 ≤ e ∧ e < (p.seen.length : Int) := fun e he => hr.2.1 e (List.mem_of_mem_drop he)
    obtain ⟨q, hq, e1, e2⟩ := lbk_all hI _ hsuf
    refine ⟨q, hq, ?_⟩
    have hql := hI.run q hq
    have hle : q.2.length ≤ m := by
      have : q.2.length ≤ (x.2.drop (x.2.length - m)).length := by
        rcases e2 with e2 | e2
        · rw [e2]; exact Nat.le_refl _
        · exact lessB_len e2
      rw [List.length_drop] at this; omega
    rcases Nat.lt_or_ge q.2.length m with hlt | hge
    · -- else the whole word could be made shorter
      exfalso
      have hval : valB (opB p) (rngI p.m.st.toNat) (x.2.take (x.2.length - m) ++ q.2) = x.1 := by
        have hap : ∀ (a b c : List Int), valB (opB p) (rngI p.m.st.toNat) b = valB (opB p) (rngI p.m.st.toNat) c → valB (opB p) (rngI p.m.st.toNat) (a ++ b) = valB (opB p) (rngI p.m.st.toNat) (a ++ c) := by
          intro a
          induction a with
          | nil => intro b c h; exact h
          | cons e a ih => intro b c h; show opB p e.toNat (valB (opB p) (rngI p.m.st.toNat) (a ++ b)) = opB p e.toNat (valB (opB p) (rngI p.m.st.toNat) (a ++ c)); rw [ih b c h]
        rw [hap _ q.2 (x.2.drop (x.2.length - m)) (by rw [← e1, hql.1]), List.take_append_drop, hr.1]
      have hin : ∀ e ∈ x.2.take (x.2.length - m) ++ q.2, 0 ≤ e ∧ e < (p.seen.length : Int) := fun e he => by
        rcases List.mem_append.1 he with he | he
        · exact hr.2.1 e (List.mem_of_mem_take he)
        · exact hql.2.1 e he
      have hle2 := hI.lst x hx _ hin hval
      have hl2 : x.2.length ≤ (x.2.take (x.2.length - m) ++ q.2).length := by
        rcases hle2 with e2 | e2
        · rw [← e2]; exact Nat.le_refl _
        · exact lessB_len e2
      rw [List.length_append, List.length_take] at hl2
      omega
    · omega
  have hsub := nodup_sub (l := List.range (x.2.length + 1)) (m := (bwdL p).map fun q => q.2.length) List.nodup_range (fun m hm' => by
    obtain ⟨q, hq, e1⟩ := hlen m (by have := List.mem_range.1 hm'; omega)
    exact List.mem_map.2 ⟨q, hq, e1⟩)
  rw [List.length_range, List.length_map] at hsub
  have := bwd_bound hm z hI
  omega
theorem outI_some {p : Plant} (hp : mayP p = true) {v : List Int} (h : outI p = some v) : leakB p.secret (beganL p v) = true ∧ (∀ e ∈ v, e ∈ p.seen) ∧ v.length ≤ 64 ∧ ∀ word : List Int, (∀ e ∈ word, e ∈ p.seen) → leakB p.secret (beganL p word) = true → lessB word v = false := by
  obtain ⟨hm, z, hs, -⟩ := (mayP_iff p).1 hp
  have hz := mayB_size hm
  unfold sizeOk at hz
  have hi : Inc p.seen := ((rowB_iff _ (by omega) _).1 hs).1
  obtain ⟨n, hI⟩ := bwd_all hm z
  have hb := best_inv p.secret p.m.starts (knL p.seen (bwdL p))
  rw [show bestL p.secret p.m.starts (knL p.seen (bwdL p)) = some v from h] at hb
  obtain ⟨⟨y, hy, h1, h2⟩, h3⟩ := hb
  obtain ⟨x, hx, rfl⟩ := List.mem_map.1 hy
  dsimp only at h1 h2
  subst h2
  have hr := hI.run x hx
  rw [bwd_leak hm hI hx] at h1
  refine ⟨h1, word_in hr.2.1, ?_, fun word hw hl => ?_⟩
  · rw [wordS_len]; exact bwd_wlen hm z hI hx
  · obtain ⟨q, hq, e1, e2⟩ := lbk_all hI (idxS p.seen word) (idx_in hw)
    have hq1 : leakK p.secret p.m.starts (q.1, wordS p.seen q.2) = true := by
      show leakB p.secret (q.1.filter fun n => hasB p.m.starts n == true) = true
      rw [e1, on_val hm, word_idx hw, began_row hm]; exact hl
    have h4 := h3 (q.1, wordS p.seen q.2) (List.mem_map.2 ⟨q, hq, rfl⟩) hq1
    dsimp only at h4
    have hqr := hI.run q hq
    rw [lessB_word hi hqr.2.1 hr.2.1] at h4
    have h5 := leW_not (leW_trans (leW_of_not h4) e2)
    rw [← lessB_word hi (idx_in hw) hr.2.1, word_idx hw] at h5
    exact h5

end Go.Proofs.YtmlkpdeidpcidaaDoor
namespace Go.Proofs.YtmlkpdeidpcidaaDoor
open Go.RowKit
set_option linter.unusedVariables false

/-- What Began answers (J1). -/
def begOut (p : Plant) (word : List Int) : List Int × Int := if mayP p = true then (if inSeen p.seen word = true then (beganL p word, 0) else ([], 6)) else ([], 2)
theorem begOut_bad {p : Plant} (h : mayP p = false) (word : List Int) : begOut p word = ([], 2) := by unfold begOut; rw [if_neg (by rw [h]; simp)]
theorem begOut_ok {p : Plant} {word : List Int} (h : mayP p = true) (hs : inSeen p.seen word = true) : begOut p word = (beganL p word, 0) := by unfold begOut; rw [if_pos h, if_pos hs]
theorem begOut_out {p : Plant} {word : List Int} (h : mayP p = true) (hs : inSeen p.seen word = false) : begOut p word = ([], 6) := by unfold begOut; rw [if_pos h, if_neg (by rw [hs]; simp)]

end Go.Proofs.YtmlkpdeidpcidaaDoor
namespace Go.Proofs.YtmlkpdeidpcidaaDoor
open Go.RowKit
set_option linter.unusedVariables false

/-! Two lists, by how many numbers they have together, how many the second one has, the first one, the second one. -/
def pairB (w v w' v' : List Int) : Bool := decide (w.length + v.length < w'.length + v'.length) || (decide (w.length + v.length = w'.length + v'.length) && (decide (v.length < v'.length) || (decide (v.length = v'.length) && (lessB w w' || (!lessB w' w && lessB v v')))))
theorem pairB_iff (w v w' v' : List Int) : pairB w v w' v' = true ↔ w.length + v.length < w'.length + v'.length ∨ (w.length + v.length = w'.length + v'.length ∧ (v.length < v'.length ∨ (v.length = v'.length ∧ (lessB w w' = true ∨ (w = w' ∧ lessB v v' = true))))) := by
  unfold pairB
  simp only [Bool.or_eq_true, Bool.and_eq_true, decide_eq_true_eq, Bool.not_eq_true']
  refine or_congr Iff.rfl (and_congr Iff.rfl (or_congr Iff.rfl (and_congr Iff.rfl ?_)))
  constructor
  · rintro (h | ⟨h1, h2⟩)
    · exact .inl h
    · by_cases e : w = w'
      · exact .inr ⟨e, h2⟩
      · rcases lessB_total e with h | h
        · exact .inl h
        · rw [h1] at h; cases h
  · rintro (h | ⟨h1, h2⟩)
    · exact .inl h
    · subst h1
      exact .inr ⟨lessB_irrefl w, h2⟩
theorem pairB_irrefl (w v : List Int) : pairB w v w v = false := by
  rw [Bool.eq_false_iff]
  intro h
  rw [pairB_iff] at h
  rcases h with h | ⟨-, h | ⟨-, h | ⟨-, h⟩⟩⟩
  · omega
  · omega
  · rw [lessB_irrefl] at h; cases h
  · rw [lessB_irrefl] at h; cases h
theorem pairB_trans {a b c d e f : List Int} (h : pairB a b c d = true) (k : pairB c d e f = true) : pairB a b e f = true := by
  rw [pairB_iff] at h k ⊢
  rcases h with h | ⟨h0, h⟩
  · rcases k with k | ⟨k0, -⟩
    · exact .inl (by omega)
    · exact .inl (by omega)
  · rcases k with k | ⟨k0, k⟩
    · exact .inl (by omega)
    · refine .inr ⟨by omega, ?_⟩
      rcases h with h | ⟨h1, h⟩
      · rcases k with k | ⟨k1, -⟩
        · exact .inl (by omega)
        · exact .inl (by omega)
      · rcases k with k | ⟨k1, k⟩
        · exact .inl (by omega)
        · refine .inr ⟨by omega, ?_⟩
          rcases h with h | ⟨rfl, h⟩
          · rcases k with k | ⟨rfl, -⟩
            · exact .inl (lessB_trans h k)
            · exact .inl h
          · rcases k with k | ⟨rfl, k⟩
            · exact .inl k
            · exact .inr ⟨rfl, lessB_trans h k⟩
theorem pairB_total {a b c d : List Int} (h : ¬ (a = c ∧ b = d)) : pairB a b c d = true ∨ pairB c d a b = true := by
  rw [pairB_iff, pairB_iff]
  rcases Nat.lt_trichotomy (a.length + b.length) (c.length + d.length) with q | q | q
  · exact .inl (.inl q)
  · rcases Nat.lt_trichotomy b.length d.length with r | r | r
    · exact .inl (.inr ⟨q, .inl r⟩)
    · by_cases e : a = c
      · have hb : b ≠ d := fun hb => h ⟨e, hb⟩
        rcases lessB_total hb with s | s
        · exact .inl (.inr ⟨q, .inr ⟨r, .inr ⟨e, s⟩⟩⟩)
        · exact .inr (.inr ⟨q.symm, .inr ⟨r.symm, .inr ⟨e.symm, s⟩⟩⟩)
      · rcases lessB_total e with s | s
        · exact .inl (.inr ⟨q, .inr ⟨r, .inl s⟩⟩)
        · exact .inr (.inr ⟨q.symm, .inr ⟨r.symm, .inl s⟩⟩)
    · exact .inr (.inr ⟨q.symm, .inl r⟩)
  · exact .inr (.inl q)
theorem pair_mono {a b a' b' : List Int} (h : leW a a') (k : leW b b') : (a = a' ∧ b = b') ∨ pairB a b a' b' = true := by
  rw [pairB_iff]
  have h1 : a.length ≤ a'.length := by rcases h with h | h; (rw [h]; exact Nat.le_refl _); (exact lessB_len h)
  have k1 : b.length ≤ b'.length := by rcases k with k | k; (rw [k]; exact Nat.le_refl _); (exact lessB_len k)
  by_cases q : a.length + b.length < a'.length + b'.length
  · exact .inr (.inl q)
  · rcases h with rfl | h
    · rcases k with rfl | k
      · exact .inl ⟨rfl, rfl⟩
      · exact .inr (.inr ⟨by omega, .inr ⟨by omega, .inr ⟨rfl, k⟩⟩⟩)
    · exact .inr (.inr ⟨by omega, .inr ⟨by omega, .inl h⟩⟩)
theorem pair_le {a b a' b' w v : List Int} (h : leW a a') (k : leW b b') (hn : pairB a b w v = false) : pairB a' b' w v = false := by
  cases hh : pairB a' b' w v with
  | false => rfl
  | true =>
    rcases pair_mono h k with ⟨rfl, rfl⟩ | q
    · rw [hn] at hh; cases hh
    · rw [pairB_trans q hh] at hn; cases hn

/-! What both rows have. -/
def meetR (a b : List Int) : List Int := a.flatMap fun x => b.filter fun y => y == x
theorem filt_one (x : Int) : ∀ {b : List Int}, b.Nodup → (b.filter fun y => y == x) = if hasB b x = true then [x] else []
  | [], _ => by simp [hasB]
  | c :: r, h => by
    rw [List.nodup_cons] at h
    have ih := filt_one x h.2
    by_cases e : c = x
    · subst e
      have hn : hasB r c = false := by
        cases hh : hasB r c with
        | false => rfl
        | true => exact absurd ((hasB_iff r c).1 hh) h.1
      rw [hn] at ih
      have hc : hasB (c :: r) c = true := (hasB_iff _ _).2 (by simp)
      rw [List.filter_cons_of_pos (by simp), ih, hc]; simp
    · have hc : hasB (c :: r) x = hasB r x := by
        rw [Bool.eq_iff_iff, hasB_iff, hasB_iff, List.mem_cons]
        exact ⟨fun h => h.resolve_left (fun q => e q.symm), .inr⟩
      rw [List.filter_cons_of_neg (by simpa using e), ih, hc]
theorem meetR_eq {b : List Int} (hb : b.Nodup) : ∀ a : List Int, meetR a b = a.filter fun x => hasB b x
  | [] => rfl
  | x :: r => by
    have ih := meetR_eq hb r
    unfold meetR at ih ⊢
    rw [List.flatMap_cons, ih, filt_one x hb]
    cases hx : hasB b x with
    | true => rw [if_pos rfl, List.filter_cons_of_pos (by simpa using hx)]; rfl
    | false => rw [if_neg (by simp), List.filter_cons_of_neg (by rw [hx]; simp)]; rfl
/-- Where it was (K1). -/
def wasL (p : Plant) (before behind : List Int) : List Int := (estL p before).filter fun s => decide (0 < (fromL p [s] behind).length)
theorem was_meet {p : Plant} (hm : mayB p.m = true) (before behind : List Int) : meetR (estL p before) (onL p behind) = wasL p before behind := by
  have hz := mayB_size hm
  unfold sizeOk at hz
  have hn : (onL p behind).Nodup := inc_nodup (inc_flt (inc_rng9 _) _)
  rw [meetR_eq hn]
  unfold wasL
  refine List.filter_congr (fun s hs => ?_)
  have hb := (est_in hm before).2 s hs
  rw [Bool.eq_iff_iff, hasB_iff, mem_on, decide_eq_true_eq, pos_mem]
  exact ⟨fun h => h.2, fun h => ⟨⟨hb.1, by omega⟩, h⟩⟩
/-! What is best of all twos. -/
def okP (secret : List Int) (most : Int) (x y : Kno) : Bool := !(decide (0 ≤ most) && decide (most < (y.2.length : Int))) && leakB secret (meetR x.1 y.1)
def putP (secret : List Int) (most : Int) (o : Option (List Int × List Int)) (x y : Kno) : Option (List Int × List Int) := if (okP secret most x y && (o.isNone || pairB x.2 y.2 (o.getD ([], [])).1 (o.getD ([], [])).2)) = true then some (x.2, y.2) else o
def rowP (secret : List Int) (most : Int) (o : Option (List Int × List Int)) (x : Kno) (B : List Kno) : Option (List Int × List Int) := B.foldl (fun o y => putP secret most o x y) o
def allP (secret : List Int) (most : Int) (A B : List Kno) : Option (List Int × List Int) := A.foldl (fun o x => rowP secret most o x B) none
theorem rowP_take (secret : List Int) (most : Int) (o : Option (List Int × List Int)) (x : Kno) {B : List Kno} {k : Nat} {y : Kno} (h : B[k]? = some y) : rowP secret most o x (B.take (k + 1)) = putP secret most (rowP secret most o x (B.take k)) x y := by
  unfold rowP
  rw [List.take_add_one, h, List.foldl_append]; rfl
theorem allP_take (secret : List Int) (most : Int) {A : List Kno} (B : List Kno) {i : Nat} {x : Kno} (h : A[i]? = some x) : allP secret most (A.take (i + 1)) B = rowP secret most (allP secret most (A.take i) B) x B := by
  unfold allP
  rw [List.take_add_one, h, List.foldl_append]; rfl
def PIn (secret : List Int) (most : Int) (C : List (Kno × Kno)) (o : Option (List Int × List Int)) : Prop :=
  (o = none → ∀ c ∈ C, okP secret most c.1 c.2 = false) ∧ (∀ q, o = some q → (∃ c ∈ C, okP secret most c.1 c.2 = true ∧ q = (c.1.2, c.2.2)) ∧ ∀ c ∈ C, okP secret most c.1 c.2 = true → pairB c.1.2 c.2.2 q.1 q.2 = false)
theorem pin_step {secret : List Int} {most : Int} {C : List (Kno × Kno)} {o : Option (List Int × List Int)} (h : PIn secret most C o) (x y : Kno) : PIn secret most (C ++ [(x, y)]) (putP secret most o x y) := by
  unfold putP
  cases hk : okP secret most x y with
  | false =>
    rw [Bool.false_and, if_neg (by simp)]
    refine ⟨fun ho c hc => ?_, fun q hq => ?_⟩
    · rcases List.mem_append.1 hc with hc | hc
      · exact h.1 ho c hc
      · have : c = (x, y) := by simpa using hc
        rw [this]; exact hk
    · obtain ⟨⟨c, c1, c2, c3⟩, h2⟩ := h.2 q hq
      refine ⟨⟨c, List.mem_append_left _ c1, c2, c3⟩, fun d hd hdk => ?_⟩
      rcases List.mem_append.1 hd with hd | hd
      · exact h2 d hd hdk
      · have : d = (x, y) := by simpa using hd
        rw [this] at hdk
        rw [hk] at hdk; cases hdk
  | true =>
    rw [Bool.true_and]
    cases o with
    | none =>
      rw [if_pos (by simp)]
      refine ⟨fun ho => (by cases ho), fun q hq => ?_⟩
      have hq := Option.some.inj hq
      subst hq
      refine ⟨⟨(x, y), by simp, hk, rfl⟩, fun d hd hdk => ?_⟩
      rcases List.mem_append.1 hd with hd | hd
      · have := h.1 rfl d hd
        rw [this] at hdk; cases hdk
      · have : d = (x, y) := by simpa using hd
        rw [this]; exact pairB_irrefl _ _
    | some q0 =>
      obtain ⟨⟨c, c1, c2, c3⟩, h2⟩ := h.2 q0 rfl
      rw [Option.isNone_some, Bool.false_or, Option.getD_some]
      cases hp : pairB x.2 y.2 q0.1 q0.2 with
      | true =>
        rw [if_pos rfl]
        refine ⟨fun ho => (by cases ho), fun q hq => ?_⟩
        have hq := Option.some.inj hq
        subst hq
        refine ⟨⟨(x, y), by simp, hk, rfl⟩, fun d hd hdk => ?_⟩
        rcases List.mem_append.1 hd with hd | hd
        · have h3 := h2 d hd hdk
          cases hh : pairB d.1.2 d.2.2 x.2 y.2 with
          | false => rfl
          | true => rw [pairB_trans hh hp] at h3; cases h3
        · have : d = (x, y) := by simpa using hd
          rw [this]; exact pairB_irrefl _ _
      | false =>
        rw [if_neg (by simp)]
        refine ⟨fun ho => (by cases ho), fun q hq => ?_⟩
        have hq := Option.some.inj hq
        subst hq
        refine ⟨⟨c, List.mem_append_left _ c1, c2, c3⟩, fun d hd hdk => ?_⟩
        rcases List.mem_append.1 hd with hd | hd
        · exact h2 d hd hdk
        · have : d = (x, y) := by simpa using hd
          rw [this]; exact hp
theorem pin_row {secret : List Int} {most : Int} (x : Kno) : ∀ (B : List Kno) {C : List (Kno × Kno)} {o : Option (List Int × List Int)}, PIn secret most C o → PIn secret most (C ++ B.map fun y => (x, y)) (rowP secret most o x B)
  | [], C, o, h => by simpa [rowP] using h
  | y :: r, C, o, h => by
    have := pin_row x r (pin_step h x y)
    rw [List.append_assoc] at this
    exact this
theorem pin_all {secret : List Int} {most : Int} (B : List Kno) : ∀ (A : List Kno) {C : List (Kno × Kno)} {o : Option (List Int × List Int)}, PIn secret most C o → PIn secret most (C ++ A.flatMap fun x => B.map fun y => (x, y)) (A.foldl (fun o x => rowP secret most o x B) o)
  | [], C, o, h => by simpa using h
  | x :: r, C, o, h => by
    have := pin_all B r (pin_row x B h)
    rw [List.append_assoc] at this
    exact this
theorem allP_inv (secret : List Int) (most : Int) (A B : List Kno) : PIn secret most (A.flatMap fun x => B.map fun y => (x, y)) (allP secret most A B) := by
  have := pin_all (secret := secret) (most := most) B A (C := []) (o := none) ⟨fun _ c hc => by simp at hc, fun q hq => by cases hq⟩
  exact this
theorem mem_twos {A B : List Kno} {c : Kno × Kno} : (c ∈ A.flatMap fun x => B.map fun y => (x, y)) ↔ c.1 ∈ A ∧ c.2 ∈ B := by
  rw [List.mem_flatMap]
  constructor
  · rintro ⟨x, hx, hc⟩
    obtain ⟨y, hy, rfl⟩ := List.mem_map.1 hc
    exact ⟨hx, hy⟩
  · rintro ⟨h1, h2⟩
    exact ⟨c.1, h1, List.mem_map.2 ⟨c.2, h2, rfl⟩⟩

/-! The least two lists that tell where it was (K2). -/
def outS (p : Plant) (most : Int) : Option (List Int × List Int) := allP p.secret most (knL p.seen (fwdL p)) (knL p.seen (bwdL p))
theorem leW_word {seen : List Int} (hi : Inc seen) {u v : List Int} (h : ∀ k ∈ u, 0 ≤ k ∧ k < (seen.length : Int)) (h' : ∀ k ∈ v, 0 ≤ k ∧ k < (seen.length : Int)) (hl : leW u v) : leW (wordS seen u) (wordS seen v) := by
  rcases hl with rfl | hl
  · exact .inl rfl
  · exact .inr (by rw [lessB_word hi h h']; exact hl)
section
variable {p : Plant}
theorem seen_inc (hp : mayP p = true) : Inc p.seen := by
  obtain ⟨hm, z, hs, -⟩ := (mayP_iff p).1 hp
  have hz := mayB_size hm
  unfold sizeOk at hz
  exact ((rowB_iff _ (by omega) _).1 hs).1
theorem fwd_cov (hp : mayP p = true) {w : List Int} (hw : ∀ e ∈ w, e ∈ p.seen) : ∃ x ∈ knL p.seen (fwdL p), x.1 = estL p w ∧ leW x.2 w := by
  obtain ⟨hm, z, hs, -⟩ := (mayP_iff p).1 hp
  have hI := fwd_all hm z
  obtain ⟨x, hx, e1, e2⟩ := bi_all _ hI (idxS p.seen w) (idx_in hw)
  refine ⟨(x.1, wordS p.seen x.2), List.mem_map.2 ⟨x, hx, rfl⟩, ?_, ?_⟩
  · show x.1 = _
    rw [e1, see_run, word_idx hw]; rfl
  · have := leW_word (seen_inc hp) (hI.run x hx).2 (idx_in hw) e2
    rwa [word_idx hw] at this
theorem bwd_cov (hp : mayP p = true) {v : List Int} (hv : ∀ e ∈ v, e ∈ p.seen) : ∃ y ∈ knL p.seen (bwdL p), y.1 = onL p v ∧ leW y.2 v := by
  obtain ⟨hm, z, hs, -⟩ := (mayP_iff p).1 hp
  obtain ⟨n, hI⟩ := bwd_all hm z
  obtain ⟨y, hy, e1, e2⟩ := lbk_all hI (idxS p.seen v) (idx_in hv)
  refine ⟨(y.1, wordS p.seen y.2), List.mem_map.2 ⟨y, hy, rfl⟩, ?_, ?_⟩
  · show y.1 = _
    rw [e1, on_val hm, word_idx hv]
  · have := leW_word (seen_inc hp) (hI.run y hy).2.1 (idx_in hv) e2
    rwa [word_idx hv] at this
theorem fwd_mem (hp : mayP p = true) {x : Kno} (hx : x ∈ knL p.seen (fwdL p)) : x.1 = estL p x.2 ∧ (∀ e ∈ x.2, e ∈ p.seen) ∧ x.2.length ≤ 64 := by
  obtain ⟨hm, z, hs, -⟩ := (mayP_iff p).1 hp
  have hI := fwd_all hm z
  obtain ⟨q, hq, rfl⟩ := List.mem_map.1 hx
  refine ⟨fwd_est hI hq, word_in (hI.run q hq).2, ?_⟩
  obtain ⟨i, hi⟩ := List.mem_iff_getElem?.1 hq
  have h1 := bi_wlen hI i q hi
  have h2 := (List.getElem?_eq_some_iff.1 hi).1
  have h3 := fwd_bound hm z hI
  show (wordS p.seen q.2).length ≤ 64
  rw [wordS_len]; omega
theorem bwd_mem (hp : mayP p = true) {y : Kno} (hy : y ∈ knL p.seen (bwdL p)) : y.1 = onL p y.2 ∧ (∀ e ∈ y.2, e ∈ p.seen) ∧ y.2.length ≤ 64 := by
  obtain ⟨hm, z, hs, -⟩ := (mayP_iff p).1 hp
  obtain ⟨n, hI⟩ := bwd_all hm z
  obtain ⟨q, hq, rfl⟩ := List.mem_map.1 hy
  have h := hI.run q hq
  exact ⟨by show q.1 = _; rw [h.1, on_val hm], word_in h.2.1, by show (wordS p.seen q.2).length ≤ 64; rw [wordS_len]; exact bwd_wlen hm z hI hq⟩
theorem okP_iff (hp : mayP p = true) {most : Int} {x y : Kno} {w v : List Int} (hx : x.1 = estL p w) (hy : y.1 = onL p v) : okP p.secret most x y = true ↔ (0 ≤ most → (y.2.length : Int) ≤ most) ∧ leakB p.secret (wasL p w v) = true := by
  obtain ⟨hm, -⟩ := (mayP_iff p).1 hp
  unfold okP
  rw [hx, hy, was_meet hm, Bool.and_eq_true]
  refine and_congr ?_ Iff.rfl
  by_cases h0 : 0 ≤ most
  · by_cases h1 : most < (y.2.length : Int)
    · simp [h0, h1]
    · simp [h0, h1]; omega
  · simp [h0]
theorem outS_none (hp : mayP p = true) {most : Int} (h : outS p most = none) {w v : List Int} (hw : ∀ e ∈ w, e ∈ p.seen) (hv : ∀ e ∈ v, e ∈ p.seen) (hs : 0 ≤ most → (v.length : Int) ≤ most) : leakB p.secret (wasL p w v) = false := by
  obtain ⟨x, hx, x1, x2⟩ := fwd_cov hp hw
  obtain ⟨y, hy, y1, y2⟩ := bwd_cov hp hv
  have hI := (allP_inv p.secret most (knL p.seen (fwdL p)) (knL p.seen (bwdL p))).1 h (x, y) (mem_twos.2 ⟨hx, hy⟩)
  cases hl : leakB p.secret (wasL p w v) with
  | false => rfl
  | true =>
    have hlen : y.2.length ≤ v.length := by rcases y2 with q | q; (rw [q]; exact Nat.le_refl _); (exact lessB_len q)
    have := (okP_iff hp (most := most) x1 y1).2 ⟨fun h0 => by have := hs h0; omega, hl⟩
    rw [this] at hI; cases hI
theorem outS_some (hp : mayP p = true) {most : Int} {w v : List Int} (h : outS p most = some (w, v)) : leakB p.secret (wasL p w v) = true ∧ (∀ e ∈ w, e ∈ p.seen) ∧ (∀ e ∈ v, e ∈ p.seen) ∧ (0 ≤ most → (v.length : Int) ≤ most) ∧ ∀ w' v' : List Int, (∀ e ∈ w', e ∈ p.seen) → (∀ e ∈ v', e ∈ p.seen) → (0 ≤ most → (v'.length : Int) ≤ most) → leakB p.secret (wasL p w' v') = true → pairB w' v' w v = false := by
  obtain ⟨⟨⟨x, y⟩, c1, c2, c3⟩, h2⟩ := (allP_inv p.secret most (knL p.seen (fwdL p)) (knL p.seen (bwdL p))).2 _ h
  obtain ⟨hx, hy⟩ := mem_twos.1 c1
  injection c3 with e1 e2
  dsimp only at c2 hx hy e1 e2
  obtain ⟨x1, x2, -⟩ := fwd_mem hp hx
  obtain ⟨y1, y2, -⟩ := bwd_mem hp hy
  rw [← e1] at x1 x2
  rw [← e2] at y1 y2
  obtain ⟨q1, q2⟩ := (okP_iff hp x1 y1).1 c2
  rw [← e2] at q1
  refine ⟨q2, x2, y2, q1, fun w' v' hw hv hs hl => ?_⟩
  obtain ⟨x', hx', x1', x2'⟩ := fwd_cov hp hw
  obtain ⟨y', hy', y1', y2'⟩ := bwd_cov hp hv
  have hlen : y'.2.length ≤ v'.length := by rcases y2' with q | q; (rw [q]; exact Nat.le_refl _); (exact lessB_len q)
  exact pair_le x2' y2' (h2 (x', y') (mem_twos.2 ⟨hx', hy'⟩) ((okP_iff hp x1' y1').2 ⟨fun h0 => by have := hs h0; omega, hl⟩))
theorem outS_is (hp : mayP p = true) {most : Int} {w v : List Int} (hw : ∀ e ∈ w, e ∈ p.seen) (hv : ∀ e ∈ v, e ∈ p.seen) (hs : 0 ≤ most → (v.length : Int) ≤ most) (hl : leakB p.secret (wasL p w v) = true) (hmin : ∀ w' v' : List Int, (∀ e ∈ w', e ∈ p.seen) → (∀ e ∈ v', e ∈ p.seen) → (0 ≤ most → (v'.length : Int) ≤ most) → leakB p.secret (wasL p w' v') = true → pairB w' v' w v = false) : outS p most = some (w, v) := by
  cases h : outS p most with
  | none => rw [outS_none hp h hw hv hs] at hl; cases hl
  | some q =>
    obtain ⟨w', v'⟩ := q
    obtain ⟨k1, k2, k3, k4, k5⟩ := outS_some hp h
    have r1 := hmin w' v' k2 k3 k4 k1
    have r2 := k5 w v hw hv hs hl
    by_cases e : w' = w ∧ v' = v
    · rw [e.1, e.2]
    · rcases pairB_total e with r | r
      · rw [r1] at r; cases r
      · rw [r2] at r; cases r
theorem outS_no (hp : mayP p = true) {most : Int} (hn : ∀ w v : List Int, (∀ e ∈ w, e ∈ p.seen) → (∀ e ∈ v, e ∈ p.seen) → (0 ≤ most → (v.length : Int) ≤ most) → leakB p.secret (wasL p w v) = false) : outS p most = none := by
  cases h : outS p most with
  | none => rfl
  | some q =>
    obtain ⟨w', v'⟩ := q
    obtain ⟨k1, k2, k3, k4, -⟩ := outS_some hp h
    rw [hn w' v' k2 k3 k4] at k1; cases k1
end

end Go.Proofs.YtmlkpdeidpcidaaDoor
