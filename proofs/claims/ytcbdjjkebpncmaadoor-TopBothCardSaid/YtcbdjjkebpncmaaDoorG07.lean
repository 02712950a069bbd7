/-
  Plain: the machine of sets: how its sets are found, in the reference's order; what is determined. No program, no model.
  Plain: the places where two machines may be at once, and the least word that one accepts and the other one doesn't. No program, no model.
  Plain: beside one another at all events, two machines accept what both accept; how many arrows there can be. No program, no model.
  What is said of a slice of integers that a call has made: 'Own'; what an append of one number does to it.
  The walk of jalousieref1.Has: whether a list has a number.
-/
import Derived.Test.YtcbdjjkebpncmaaDoorG05
import Derived.Test.YtcbdjjkebpncmaaDoorG06
import Derived.Test.YtcbdjjkebpncmaaDoorG03
namespace Go.Proofs.YtcbdjjkebpncmaaDoor
open Go.RowKit
set_option linter.unusedVariables false

/-- A set's place; as many as there are: it is new. -/
def findL : List (List Int) → List Int → Nat
  | [], _ => 0
  | a :: r, s => if a = s then 0 else findL r s + 1
theorem findL_le : ∀ (L : List (List Int)) (s : List Int), findL L s ≤ L.length
  | [], _ => Nat.le_refl _
  | a :: r, s => by
    have := findL_le r s
    unfold findL; split <;> simp <;> omega
theorem findL_get : ∀ {L : List (List Int)} {s : List Int}, findL L s < L.length → L[findL L s]? = some s
  | [], _, h => by simp [findL] at h
  | a :: r, s, h => by
    unfold findL at h ⊢
    by_cases e : a = s
    · rw [if_pos e]; simp [e]
    · rw [if_neg e] at h ⊢
      have : findL r s < r.length := by simp at h; omega
      simpa using findL_get this
theorem findL_new : ∀ {L : List (List Int)} {s : List Int}, findL L s = L.length ↔ s ∉ L
  | [], s => by simp [findL]
  | a :: r, s => by
    unfold findL
    by_cases e : a = s
    · rw [if_pos e]; simp [e]
    · rw [if_neg e]
      have := findL_new (L := r) (s := s)
      simp only [List.length_cons, Nat.add_right_cancel_iff, List.mem_cons, not_or]
      rw [this]
      exact ⟨fun h => ⟨fun h' => e h'.symm, h⟩, fun h => h.2⟩
theorem findL_at : ∀ {L : List (List Int)} {k : Nat} {s : List Int}, L.Nodup → L[k]? = some s → findL L s = k
  | [], k, s, _, h => by simp at h
  | a :: r, 0, s, _, h => by
    have : a = s := by simpa using h
    simp [findL, this]
  | a :: r, k + 1, s, hn, h => by
    have h : r[k]? = some s := by simpa using h
    have h1 : a ≠ s := fun e => (List.nodup_cons.1 hn).1 (by rw [e]; exact List.mem_of_getElem? h)
    unfold findL
    rw [if_neg h1, findL_at (List.nodup_cons.1 hn).2 h]

/-- What has been found: the sets, the arrows. -/
structure DS where
  sets : List (List Int)
  ar : List Arr
/-- One event more, at the set k. -/
def dStep (ars : List Arr) (k : Nat) (s : DS) (e : Nat) : DS :=
  ⟨if findL s.sets (stepL ars (s.sets[k]?.getD []) (e : Int)) = s.sets.length then s.sets ++ [stepL ars (s.sets[k]?.getD []) (e : Int)] else s.sets, s.ar ++ [⟨(k : Int), (e : Int), (findL s.sets (stepL ars (s.sets[k]?.getD []) (e : Int)) : Nat)⟩]⟩
def dRow (ars : List Arr) (k : Nat) (s : DS) (n : Nat) : DS := (List.range n).foldl (dStep ars k) s
theorem dRow_zero (ars : List Arr) (k : Nat) (s : DS) : dRow ars k s 0 = s := rfl
theorem dRow_succ (ars : List Arr) (k : Nat) (s : DS) (n : Nat) : dRow ars k s (n + 1) = dStep ars k (dRow ars k s n) n := by
  unfold dRow; rw [List.range_succ, List.foldl_append]; rfl
def dGo (ars : List Arr) (ev : Nat) : Nat → Nat → DS → Option DS
  | 0, _, s => some s
  | f + 1, k, s => if k < s.sets.length then (if 256 < (dRow ars k s ev).sets.length then none else dGo ars ev f (k + 1) (dRow ars k s ev)) else some s
def detS (m : Mach) : Option DS := dGo m.arrows m.ev.toNat 257 0 ⟨[m.starts], []⟩
/-- The numbers of the sets that have an end. -/
def endsFrom (ends : List Int) : Nat → List (List Int) → List Int
  | _, [] => []
  | k, a :: r => if 0 < (a.filter fun n => hasB ends n == true).length then (k : Int) :: endsFrom ends (k + 1) r else endsFrom ends (k + 1) r
theorem endsFrom_cons (ends : List Int) (k : Nat) (a : List Int) (r : List (List Int)) : endsFrom ends k (a :: r) = if 0 < (a.filter fun n => hasB ends n == true).length then (k : Int) :: endsFrom ends (k + 1) r else endsFrom ends (k + 1) r := rfl
def endsD (ends : List Int) (sets : List (List Int)) : List Int := endsFrom ends 0 sets
def detM (m : Mach) (s : DS) : Mach := ⟨s.sets.length, m.ev, [0], s.ar, endsD m.ends s.sets⟩

theorem endsFrom_snoc (ends : List Int) : ∀ (L : List (List Int)) (k : Nat) (a : List Int), endsFrom ends k (L ++ [a]) = endsFrom ends k L ++ (if 0 < (a.filter fun n => hasB ends n == true).length then [((k + L.length : Nat) : Int)] else [])
  | [], k, a => by simp only [List.nil_append, endsFrom, List.length_nil, Nat.add_zero]
  | b :: r, k, a => by
    rw [List.cons_append]
    unfold endsFrom
    rw [endsFrom_snoc ends r (k + 1) a, List.length_cons, show k + 1 + r.length = k + (r.length + 1) by omega]
    by_cases h : 0 < (b.filter fun n => hasB ends n == true).length
    · rw [if_pos h, if_pos h, List.cons_append]
    · rw [if_neg h, if_neg h]
theorem endsD_take {ends : List Int} {L : List (List Int)} {k : Nat} {a : List Int} (h : L[k]? = some a) : endsD ends (L.take (k + 1)) = if 0 < (a.filter fun n => hasB ends n == true).length then endsD ends (L.take k) ++ [(k : Int)] else endsD ends (L.take k) := by
  have hk := (List.getElem?_eq_some_iff.1 h).1
  have e : L.take (k + 1) = L.take k ++ [a] := by rw [List.take_add_one, h]; rfl
  unfold endsD
  rw [e, endsFrom_snoc, List.length_take, Nat.min_eq_left (by omega), Nat.zero_add]
  split
  · rfl
  · rw [List.append_nil]
theorem endsFrom_len (ends : List Int) : ∀ (k : Nat) (L : List (List Int)), (endsFrom ends k L).length ≤ L.length
  | _, [] => Nat.le_refl _
  | k, a :: r => by
    have := endsFrom_len ends (k + 1) r
    unfold endsFrom; split <;> simp <;> omega
theorem mem_endsFrom (ends : List Int) : ∀ (L : List (List Int)) (k : Nat) (x : Int), x ∈ endsFrom ends k L ↔ ∃ j a, L[j]? = some a ∧ x = ((k + j : Nat) : Int) ∧ ∃ y ∈ a, y ∈ ends
  | [], k, x => by simp [endsFrom]
  | b :: r, k, x => by
    have hpos : 0 < (b.filter fun n => hasB ends n == true).length ↔ ∃ y ∈ b, y ∈ ends := by
      rw [List.length_pos_iff_exists_mem]
      constructor
      · rintro ⟨y, hy⟩
        obtain ⟨h1, h2⟩ := List.mem_filter.1 hy
        exact ⟨y, h1, (hasB_iff _ _).1 (by simpa using h2)⟩
      · rintro ⟨y, h1, h2⟩
        exact ⟨y, List.mem_filter.2 ⟨h1, by simpa using (hasB_iff _ _).2 h2⟩⟩
    have ih := mem_endsFrom ends r (k + 1) x
    have hr : (∃ j a, (b :: r)[j]? = some a ∧ x = ((k + j : Nat) : Int) ∧ ∃ y ∈ a, y ∈ ends) ↔ (x = (k : Int) ∧ ∃ y ∈ b, y ∈ ends) ∨ (∃ j a, r[j]? = some a ∧ x = ((k + 1 + j : Nat) : Int) ∧ ∃ y ∈ a, y ∈ ends) := by
      constructor
      · rintro ⟨j, a, h1, h2, h3⟩
        rcases j with _ | j
        · have e : b = a := by simpa using h1
          subst e
          exact .inl ⟨by simpa using h2, h3⟩
        · exact .inr ⟨j, a, by simpa using h1, by rw [h2]; congr 1; omega, h3⟩
      · rintro (⟨h1, h2⟩ | ⟨j, a, h1, h2, h3⟩)
        · exact ⟨0, b, rfl, by simpa using h1, h2⟩
        · exact ⟨j + 1, a, by simpa using h1, by rw [h2]; congr 1; omega, h3⟩
    rw [hr, ← ih, endsFrom_cons]
    by_cases h : 0 < (b.filter fun n => hasB ends n == true).length
    · rw [if_pos h, List.mem_cons]
      have := hpos.1 h
      constructor
      · rintro (h1 | h1)
        · exact .inl ⟨h1, this⟩
        · exact .inr h1
      · rintro (h1 | h1)
        · exact .inl h1.1
        · exact .inr h1
    · rw [if_neg h]
      constructor
      · exact .inr
      · rintro (h1 | h1)
        · exact absurd (hpos.2 h1.2) h
        · exact h1
theorem inc_endsFrom (ends : List Int) : ∀ (L : List (List Int)) (k : Nat), Inc (endsFrom ends k L)
  | [], k => by simp [endsFrom, Inc]
  | b :: r, k => by
    unfold endsFrom
    split
    · rw [Inc, List.pairwise_cons]
      refine ⟨fun x hx => ?_, inc_endsFrom ends r (k + 1)⟩
      obtain ⟨j, a, -, h2, -⟩ := (mem_endsFrom ends r (k + 1) x).1 hx
      omega
    · exact inc_endsFrom ends r (k + 1)

/-! What is found only grows. -/
theorem dStep_pre (ars : List Arr) (k : Nat) (s : DS) (e : Nat) : ∃ t, (dStep ars k s e).sets = s.sets ++ t ∧ t.length ≤ 1 := by
  unfold dStep
  dsimp only
  split
  · exact ⟨_, rfl, by simp⟩
  · exact ⟨[], by simp, by simp⟩
theorem dRow_pre (ars : List Arr) (k : Nat) (s : DS) : ∀ n, ∃ t, (dRow ars k s n).sets = s.sets ++ t ∧ t.length ≤ n
  | 0 => ⟨[], by simp [dRow_zero], by simp⟩
  | n + 1 => by
    obtain ⟨t, h1, h2⟩ := dRow_pre ars k s n
    obtain ⟨u, h3, h4⟩ := dStep_pre ars k (dRow ars k s n) n
    exact ⟨t ++ u, by rw [dRow_succ, h3, h1, List.append_assoc], by rw [List.length_append]; omega⟩
theorem dRow_mono (ars : List Arr) (k : Nat) (s : DS) (n : Nat) : ∀ j, (dRow ars k s n).sets.length ≤ (dRow ars k s (n + j)).sets.length
  | 0 => Nat.le_refl _
  | j + 1 => by
    have := dRow_mono ars k s n j
    obtain ⟨u, h3, h4⟩ := dStep_pre ars k (dRow ars k s (n + j)) (n + j)
    rw [← Nat.add_assoc, dRow_succ, h3, List.length_append]; omega
theorem dRow_ar (ars : List Arr) (k : Nat) (s : DS) : ∀ n, (dRow ars k s n).ar.length = s.ar.length + n
  | 0 => rfl
  | n + 1 => by rw [dRow_succ]; unfold dStep; simp only [List.length_append, List.length_cons, List.length_nil]; rw [dRow_ar ars k s n]; omega
theorem dGo_none {ars : List Arr} {ev f k : Nat} {s : DS} (hk : k < s.sets.length) (hB : 256 < (dRow ars k s ev).sets.length) (hf : 0 < f) : dGo ars ev f k s = none := by
  obtain ⟨g, rfl⟩ : ∃ g, f = g + 1 := ⟨f - 1, by omega⟩
  rw [dGo, if_pos hk, if_pos hB]
theorem dGo_next {ars : List Arr} {ev f k : Nat} {s : DS} (hk : k < s.sets.length) (hB : ¬ 256 < (dRow ars k s ev).sets.length) (hf : 0 < f) : dGo ars ev f k s = dGo ars ev (f - 1) (k + 1) (dRow ars k s ev) := by
  obtain ⟨g, rfl⟩ : ∃ g, f = g + 1 := ⟨f - 1, by omega⟩
  rw [dGo, if_pos hk, if_neg hB]; rfl
theorem dGo_end {ars : List Arr} {ev f k : Nat} {s : DS} (hk : ¬ k < s.sets.length) : dGo ars ev f k s = some s := by
  cases f with
  | zero => rfl
  | succ g => rw [dGo, if_neg hk]

/-! What holds of what is found. -/
structure DI (m : Mach) (ev : Nat) (n : Nat) (s : DS) : Prop where
  nd : s.sets.Nodup
  hd : s.sets[0]? = some m.starts
  inc : ∀ l ∈ s.sets, Inc l ∧ ∀ x ∈ l, 0 ≤ x ∧ x < m.st
  len : s.ar.length = n
  ar : ∀ i, i < n → ∃ f e t : Nat, ∃ l, s.ar[i]? = some ⟨(f : Int), (e : Int), (t : Int)⟩ ∧ f * ev + e = i ∧ e < ev ∧ s.sets[f]? = some l ∧ s.sets[t]? = some (stepL m.arrows l (e : Int))
theorem DI.pos {m : Mach} {ev n : Nat} {s : DS} (h : DI m ev n s) : 0 < s.sets.length := (List.getElem?_eq_some_iff.1 h.hd).1
theorem stepIn {m : Mach} (hm : mayB m = true) (ss : List Int) (e : Int) : Inc (stepL m.arrows ss e) ∧ ∀ x ∈ stepL m.arrows ss e, 0 ≤ x ∧ x < m.st := by
  refine ⟨inc_srt _, fun x hx => ?_⟩
  obtain ⟨a, ha, -, -, rfl⟩ := (mem_stepL _ _ _ _).1 hx
  have := may_arrs hm a ha
  exact ⟨this.2.2.1, this.2.2.2.1⟩
theorem di_step {m : Mach} (hm : mayB m = true) {ev k e : Nat} {s : DS} (h : DI m ev (k * ev + e) s) (hk : k < s.sets.length) (he : e < ev) : DI m ev (k * ev + (e + 1)) (dStep m.arrows k s e) := by
  obtain ⟨l, hl⟩ : ∃ l, s.sets[k]? = some l := ⟨_, List.getElem?_eq_getElem hk⟩
  obtain ⟨to, hto⟩ : ∃ to, to = stepL m.arrows l (e : Int) := ⟨_, rfl⟩
  have e1 : dStep m.arrows k s e = ⟨if findL s.sets to = s.sets.length then s.sets ++ [to] else s.sets, s.ar ++ [⟨(k : Int), (e : Int), (findL s.sets to : Nat)⟩]⟩ := by
    unfold dStep; rw [hl, Option.getD_some, ← hto]
  have hin := stepIn hm l (e : Int)
  rw [← hto] at hin
  have hlk : ∀ (j : Nat) (x : List Int), s.sets[j]? = some x → (if findL s.sets to = s.sets.length then s.sets ++ [to] else s.sets)[j]? = some x := by
    intro j x hj
    split
    · rw [List.getElem?_append_left (List.getElem?_eq_some_iff.1 hj).1]; exact hj
    · exact hj
  have hnew : (if findL s.sets to = s.sets.length then s.sets ++ [to] else s.sets)[findL s.sets to]? = some to := by
    have := findL_le s.sets to
    split
    · rename_i h1
      rw [h1, List.getElem?_append_right (Nat.le_refl _)]; simp
    · exact findL_get (by omega)
  rw [e1]
  refine ⟨?_, hlk 0 _ h.hd, ?_, ?_, ?_⟩
  · dsimp only
    split
    · rename_i h1
      rw [List.nodup_append]
      exact ⟨h.nd, by simp, fun x hx y hy e => by simp at hy; subst hy; subst e; exact findL_new.1 h1 hx⟩
    · exact h.nd
  · dsimp only
    intro x hx
    split at hx
    · rcases List.mem_append.1 hx with hx | hx
      · exact h.inc x hx
      · have : x = to := by simpa using hx
        rw [this]; exact hin
    · exact h.inc x hx
  · simp only [List.length_append, List.length_cons, List.length_nil, h.len]; omega
  · intro i hi
    by_cases hlt : i < k * ev + e
    · obtain ⟨f, e', t, l', h1, h2, h3, h4, h5⟩ := h.ar i hlt
      exact ⟨f, e', t, l', by rw [List.getElem?_append_left (by rw [h.len]; exact hlt)]; exact h1, h2, h3, hlk _ _ h4, hlk _ _ h5⟩
    · have hi' : i = k * ev + e := by omega
      refine ⟨k, e, findL s.sets to, l, ?_, hi'.symm, he, hlk _ _ hl, by rw [← hto]; exact hnew⟩
      rw [List.getElem?_append_right (by rw [h.len]; omega), h.len, hi']; simp
theorem di_row {m : Mach} (hm : mayB m = true) {ev k : Nat} {s : DS} (h : DI m ev (k * ev) s) (hk : k < s.sets.length) : ∀ n, n ≤ ev → DI m ev (k * ev + n) (dRow m.arrows k s n)
  | 0, _ => h
  | n + 1, hn => by
    rw [dRow_succ]
    obtain ⟨t, ht, -⟩ := dRow_pre m.arrows k s n
    exact di_step hm (di_row hm h hk n (by omega)) (by rw [ht, List.length_append]; omega) (by omega)
theorem di_go {m : Mach} (hm : mayB m = true) {ev : Nat} : ∀ (f k : Nat) (s s' : DS), DI m ev (k * ev) s → k ≤ s.sets.length → s.sets.length ≤ 256 → 257 ≤ f + k → dGo m.arrows ev f k s = some s' → DI m ev (s'.sets.length * ev) s' ∧ s'.sets.length ≤ 256
  | 0, k, s, s', h, hk, h256, hf, e => by omega
  | f + 1, k, s, s', h, hk, h256, hf, e => by
    rw [dGo] at e
    by_cases hlt : k < s.sets.length
    · rw [if_pos hlt] at e
      by_cases hB : 256 < (dRow m.arrows k s ev).sets.length
      · rw [if_pos hB] at e; cases e
      · rw [if_neg hB] at e
        obtain ⟨t, ht, -⟩ := dRow_pre m.arrows k s ev
        refine di_go hm f (k + 1) _ s' ?_ (by rw [ht, List.length_append]; omega) (by omega) (by omega) e
        have := di_row hm h hlt ev (Nat.le_refl _)
        rw [Nat.succ_mul]; exact this
    · rw [if_neg hlt] at e
      have e := Option.some.inj e
      subst e
      have : k = s.sets.length := by omega
      rw [← this]
      exact ⟨h, by omega⟩
theorem di_start {m : Mach} (hm : mayB m = true) (ev : Nat) : DI m ev (0 * ev) ⟨[m.starts], []⟩ := by
  refine ⟨by simp, rfl, fun l hl => ?_, by simp, fun i hi => by omega⟩
  have : l = m.starts := by simpa using hl
  rw [this]; exact may_starts hm
theorem detS_di {m : Mach} (hm : mayB m = true) {s : DS} (h : detS m = some s) : DI m m.ev.toNat (s.sets.length * m.ev.toNat) s ∧ s.sets.length ≤ 256 :=
  di_go hm 257 0 _ s (di_start hm _) (by simp) (by simp) (by omega) h

end Go.Proofs.YtcbdjjkebpncmaaDoor
namespace Go.Proofs.YtcbdjjkebpncmaaDoor
open Go.RowKit
set_option linter.unusedVariables false
set_option linter.unusedSectionVars false

/-! How many increasing lists there are. -/
theorem nodup_sub {α : Type} [DecidableEq α] : ∀ {l m : List α}, l.Nodup → (∀ x ∈ l, x ∈ m) → l.length ≤ m.length
  | [], m, _, _ => Nat.zero_le _
  | x :: r, m, hn, hs => by
    rw [List.nodup_cons] at hn
    have hx := hs x (by simp)
    have ih := nodup_sub (l := r) (m := m.erase x) hn.2 (fun y hy => by
      have hne : y ≠ x := fun e => hn.1 (e ▸ hy)
      exact (List.mem_erase_of_ne hne).2 (hs y (by simp [hy])))
    rw [List.length_erase_of_mem hx] at ih
    have := List.length_pos_of_mem hx
    rw [List.length_cons]; omega
def subs : Nat → List (List Int)
  | 0 => [[]]
  | n + 1 => subs n ++ (subs n).map (· ++ [(n : Int)])
theorem subs_len : ∀ n, (subs n).length = 2 ^ n
  | 0 => rfl
  | n + 1 => by rw [subs, List.length_append, List.length_map, subs_len n, Nat.pow_succ]; omega
theorem mem_subs : ∀ (n : Nat) (l : List Int), Inc l → (∀ x ∈ l, 0 ≤ x ∧ x < (n : Int)) → l ∈ subs n
  | 0, l, _, h => by
    have : l = [] := by
      cases l with
      | nil => rfl
      | cons x r => have := h x (by simp); omega
    subst this; simp [subs]
  | n + 1, l, hi, h => by
    rw [subs, List.mem_append, List.mem_map]
    by_cases hn : (n : Int) ∈ l
    · right
      have hne : l ≠ [] := fun e => by rw [e] at hn; simp at hn
      obtain ⟨v, z, e⟩ : ∃ v z, l = v ++ [z] := ⟨_, _, (List.dropLast_concat_getLast hne).symm⟩
      subst e
      unfold Inc at hi
      rw [List.pairwise_append] at hi
      have hz := h z (by simp)
      have hzn : z = (n : Int) := by
        rcases List.mem_append.1 hn with h1 | h1
        · have := hi.2.2 _ h1 z (by simp); omega
        · have : (n : Int) = z := by simpa using h1
          exact this.symm
      subst hzn
      refine ⟨v, mem_subs n v hi.1 (fun x hx => ?_), rfl⟩
      have h1 := hi.2.2 x hx _ (by simp : (n : Int) ∈ [(n : Int)])
      have h2 := h x (by simp [hx])
      omega
    · left
      refine mem_subs n l hi (fun x hx => ?_)
      have h1 := h x hx
      have : x ≠ (n : Int) := fun e => hn (e ▸ hx)
      omega
def prodL {α β : Type} : List α → List β → List (α × β)
  | [], _ => []
  | x :: r, m => m.map (fun y => (x, y)) ++ prodL r m
theorem prodL_len {α β : Type} (m : List β) : ∀ l : List α, (prodL l m).length = l.length * m.length
  | [] => by simp [prodL]
  | x :: r => by rw [prodL, List.length_append, List.length_map, prodL_len m r, List.length_cons, Nat.add_mul]; omega
theorem mem_prodL {α β : Type} {x : α} {y : β} {m : List β} (hy : y ∈ m) : ∀ {l : List α}, x ∈ l → (x, y) ∈ prodL l m
  | [], h => by simp at h
  | z :: r, h => by
    rw [prodL, List.mem_append]
    rcases List.mem_cons.1 h with rfl | h
    · exact .inl (List.mem_map.2 ⟨y, hy, rfl⟩)
    · exact .inr (mem_prodL hy h)

/-! The search ends. -/
section
variable {σ : Type} [DecidableEq σ] {δ : σ → Nat → σ}
theorem bi_wlen {s0 : σ} {ev k n : Nat} {l : List (σ × List Int)} (h : BI δ s0 ev k n l) : ∀ (j : Nat) (p : σ × List Int), l[j]? = some p → p.2.length ≤ j := by
  intro j
  induction j using Nat.strongRecOn with
  | _ j ih =>
    intro p hp
    rcases h.top p (List.mem_of_getElem? hp) with h0 | ⟨i, x, e, hx, h1, -⟩
    · rw [h0]; simp
    · have hl : p.2.length = x.2.length + 1 := by rw [h1]; simp
      have hlt := (List.getElem?_eq_some_iff.1 hp).1
      have hlx := (List.getElem?_eq_some_iff.1 hx).1
      have hij : i < j := by
        rcases Nat.lt_trichotomy i j with h2 | h2 | h2
        · exact h2
        · subst h2; rw [hx] at hp; have := Option.some.inj hp; subst this; omega
        · have := List.pairwise_iff_getElem.1 h.inc j i hlt hlx h2
          rw [(List.getElem?_eq_some_iff.1 hx).2, (List.getElem?_eq_some_iff.1 hp).2] at this
          have := lessB_len this; omega
      have := ih i hij x hx
      omega
theorem bi_end {s0 : σ} {ev N : Nat} (hN : ∀ (k n : Nat) (l : List (σ × List Int)), BI δ s0 ev k n l → l.length ≤ N) : ∀ (f k : Nat) (l : List (σ × List Int)), BI δ s0 ev k 0 l → k ≤ l.length → N < f + k → BI δ s0 ev (bfGo δ ev f k l).length 0 (bfGo δ ev f k l)
  | 0, k, l, h, hk, hf => by have := hN _ _ _ h; omega
  | f + 1, k, l, h, hk, hf => by
    cases hx : l[k]? with
    | none =>
      have e : bfGo δ ev (f + 1) k l = l := by unfold bfGo; rw [hx]
      have : k = l.length := by have := List.getElem?_eq_none_iff.1 hx; omega
      rw [e]; rw [this] at h; exact h
    | some x =>
      have e : bfGo δ ev (f + 1) k l = bfGo δ ev f (k + 1) (bfRow δ x l ev) := by rw [bfGo, hx]
      rw [e]
      have hlt := (List.getElem?_eq_some_iff.1 hx).1
      obtain ⟨t, ht⟩ := bfRow_pre δ x l ev
      exact bi_end hN f (k + 1) _ (bi_next δ h hx) (by rw [ht, List.length_append]; omega) (by omega)
end

/-! Two machines at once. -/
/-- Where both lead. -/
def bothD (A B : List Arr) (s : List Int × List Int) (e : Nat) : List Int × List Int := (stepL A s.1 (e : Int), stepL B s.2 (e : Int))
theorem bothD_run (A B : List Arr) : ∀ (u : List Int) (x y : List Int), (∀ e ∈ u, 0 ≤ e) → runF (bothD A B) (x, y) u = (afterL A x u, afterL B y u)
  | [], x, y, _ => rfl
  | e :: u, x, y, h => by
    have he : ((e.toNat : Nat) : Int) = e := by have := h e (by simp); omega
    show runF (bothD A B) (bothD A B (x, y) e.toNat) u = _
    unfold bothD
    rw [he]
    exact bothD_run A B u _ _ (fun z hz => h z (by simp [hz]))
theorem afterIn {m : Mach} (hm : mayB m = true) : ∀ (u l : List Int), (Inc l ∧ ∀ x ∈ l, 0 ≤ x ∧ x < m.st) → Inc (afterL m.arrows l u) ∧ ∀ x ∈ afterL m.arrows l u, 0 ≤ x ∧ x < m.st
  | [], l, h => h
  | e :: u, l, _ => afterIn hm u _ (stepIn hm l e)
/-- The places, the lesser words ahead. -/
def plcAll (a b : Mach) : List ((List Int × List Int) × List Int) := bfGo (bothD a.arrows b.arrows) a.ev.toNat 4097 0 [((a.starts, b.starts), [])]
theorem plc_bound {a b : Mach} (ha : mayB a = true) (hb : mayB b = true) (za : a.st ≤ 6) (zb : b.st ≤ 6) {ev k n : Nat} {l : List ((List Int × List Int) × List Int)} (h : BI (bothD a.arrows b.arrows) (a.starts, b.starts) ev k n l) : l.length ≤ 4096 := by
  have h1 := nodup_sub (m := prodL (subs 6) (subs 6)) h.nd (fun s hs => by
    obtain ⟨p, hp, rfl⟩ := List.mem_map.1 hs
    obtain ⟨e1, e2⟩ := h.run p hp
    rw [bothD_run _ _ _ _ _ (fun e he => (e2 e he).1)] at e1
    have i1 := afterIn ha p.2 _ (may_starts ha)
    have i2 := afterIn hb p.2 _ (may_starts hb)
    rw [e1]
    exact mem_prodL (mem_subs 6 _ i2.1 (fun x hx => by have := i2.2 x hx; omega)) (mem_subs 6 _ i1.1 (fun x hx => by have := i1.2 x hx; omega)))
  rw [List.length_map, prodL_len, subs_len] at h1
  exact h1
theorem plc_all {a b : Mach} (ha : mayB a = true) (hb : mayB b = true) (za : a.st ≤ 6) (zb : b.st ≤ 6) : BI (bothD a.arrows b.arrows) (a.starts, b.starts) a.ev.toNat (plcAll a b).length 0 (plcAll a b) :=
  bi_end (N := 4096) (fun k n l h => plc_bound ha hb za zb h) 4097 0 _ (bi_start _ _ _) (Nat.zero_le _) (by omega)

/-- Is a place where the one may end, and the other one not? -/
def outP (a b : Mach) (p : (List Int × List Int) × List Int) : Bool := decide (0 < (p.1.1.filter fun n => hasB a.ends n == true).length) && decide ((p.1.2.filter fun n => hasB b.ends n == true).length = 0)
/-- The least word that a accepts and b does not. -/
def outW (a b : Mach) : Option (List Int) := ((plcAll a b).find? (outP a b)).map (·.2)
/-- Is a word of the one, and not of the other one? -/
def betw (a b : Mach) (u : List Int) : Bool := acceptsB a u && !acceptsB b u
theorem outP_run {a b : Mach} {p : (List Int × List Int) × List Int} (h : p.1 = runF (bothD a.arrows b.arrows) (a.starts, b.starts) p.2) (hu : ∀ e ∈ p.2, 0 ≤ e) (u : List Int) (hu' : ∀ e ∈ u, 0 ≤ e) (he : p.1 = runF (bothD a.arrows b.arrows) (a.starts, b.starts) u) : outP a b p = betw a b u := by
  rw [bothD_run _ _ _ _ _ hu'] at he
  unfold outP betw acceptsB acceptsL
  rw [he]
  dsimp only
  congr 1
  rw [← decide_not]
  exact decide_eq_decide.2 (by omega)
theorem outW_none {a b : Mach} (ha : mayB a = true) (hb : mayB b = true) (za : a.st ≤ 6) (zb : b.st ≤ 6) (h : outW a b = none) (u : List Int) (hu : ∀ e ∈ u, 0 ≤ e ∧ e < a.ev) : betw a b u = false := by
  have hI := plc_all ha hb za zb
  have hev : ((a.ev.toNat : Nat) : Int) = a.ev := by have := mayB_size ha; unfold sizeOk at this; omega
  obtain ⟨p, hp, e1, -⟩ := bi_all _ hI u (by rw [hev]; exact hu)
  unfold outW at h
  rw [Option.map_eq_none_iff, List.find?_eq_none] at h
  have h1 := h p hp
  have hr := hI.run p hp
  rw [outP_run hr.1 (fun e he => (hr.2 e he).1) u (fun e he => (hu e he).1) e1] at h1
  simpa using h1
theorem outW_some {a b : Mach} (ha : mayB a = true) (hb : mayB b = true) (za : a.st ≤ 6) (zb : b.st ≤ 6) {v : List Int} (h : outW a b = some v) : betw a b v = true ∧ (∀ e ∈ v, 0 ≤ e ∧ e < a.ev) ∧ v.length ≤ 4096 ∧ ∀ u : List Int, (∀ e ∈ u, 0 ≤ e ∧ e < a.ev) → betw a b u = true → lessB u v = false := by
  have hI := plc_all ha hb za zb
  have hev : ((a.ev.toNat : Nat) : Int) = a.ev := by have := mayB_size ha; unfold sizeOk at this; omega
  unfold outW at h
  rw [Option.map_eq_some_iff] at h
  obtain ⟨p, hp, rfl⟩ := h
  have hpo := List.find?_some hp
  rw [List.find?_eq_some_iff_getElem] at hp
  obtain ⟨-, i, hi, e0, hlow⟩ := hp
  have hpi : (plcAll a b)[i]? = some p := by rw [List.getElem?_eq_getElem hi, e0]
  have hpm := List.mem_of_getElem? hpi
  have hr := hI.run p hpm
  rw [hev] at hr
  have hbd := plc_bound ha hb za zb hI
  refine ⟨?_, hr.2, ?_, fun u hu hb' => ?_⟩
  · rw [← outP_run hr.1 (fun e he => (hr.2 e he).1) p.2 (fun e he => (hr.2 e he).1) hr.1]; exact hpo
  · have := bi_wlen hI i p hpi; omega
  · obtain ⟨q, hq, e1, e2⟩ := bi_all _ hI u (by rw [hev]; exact hu)
    have hrq := hI.run q hq
    have hqo : outP a b q = true := by rw [outP_run hrq.1 (fun e he => (hrq.2 e he).1) u (fun e he => (hu e he).1) e1]; exact hb'
    obtain ⟨j, hj⟩ := List.mem_iff_getElem?.1 hq
    have hjl := (List.getElem?_eq_some_iff.1 hj).1
    have hqe := (List.getElem?_eq_some_iff.1 hj).2
    have hij : i ≤ j := by
      rcases Nat.lt_or_ge j i with h1 | h1
      · have := hlow j h1
        rw [hqe, hqo] at this; simp at this
      · exact h1
    have hle : leW p.2 q.2 := by
      rcases Nat.lt_or_ge i j with h1 | h1
      · have := List.pairwise_iff_getElem.1 hI.inc i j hi hjl h1
        rw [hqe, e0] at this
        exact .inr this
      · have : i = j := by omega
        subst this
        rw [hpi] at hj
        have := Option.some.inj hj
        subst this
        exact leW_refl _
    exact leW_not (leW_trans hle e2)

end Go.Proofs.YtcbdjjkebpncmaaDoor
namespace Go.Proofs.YtcbdjjkebpncmaaDoor
open Go.RowKit
set_option linter.unusedVariables false

/-- The arrows are all different, and none is of pair k at event n or behind. -/
structure AN (k n : Nat) (s : BS) : Prop where
  nd : s.ar.Nodup
  lo : ∀ x ∈ s.ar, x.f < (k : Int) ∨ (x.f = (k : Int) ∧ x.e < (n : Int))
theorem leads_nd (A B : List Arr) (p : Int × Int) (e : Int) (x y : Bool) : (leadsP A B p e x y).Nodup := by
  unfold leadsP
  split
  · refine nodup_crossP ?_ ?_
    · split
      · exact inc_nodup (inc_srt _)
      · simp
    · split
      · exact inc_nodup (inc_srt _)
      · simp
  · simp
theorem an_ev {a b : Mach} {ofA ofB : List Int} {s : BS} {k n : Nat} {p : Int × Int} (h : AN k n s) : AN k (n + 1) (bEv a b ofA ofB k p s (n : Int)) := by
  have e : (bEv a b ofA ofB k p s (n : Int)).ar = s.ar ++ newA k (n : Int) s (leadsP a.arrows b.arrows p (n : Int) (hasB ofA (n : Int)) (hasB ofB (n : Int))) := fold_ar _ _ _ _
  have hn := newA_nd k (n : Int) _ s (leads_nd a.arrows b.arrows p (n : Int) (hasB ofA (n : Int)) (hasB ofB (n : Int)))
  have hi := newA_in k (n : Int) (leadsP a.arrows b.arrows p (n : Int) (hasB ofA (n : Int)) (hasB ofB (n : Int))) s
  refine ⟨?_, fun x hx => ?_⟩
  · rw [e, List.nodup_append]
    refine ⟨h.nd, hn.imp (fun h e => h (by rw [e])), fun x hx y hy e => ?_⟩
    have h1 := h.lo x hx
    have h2 := hi y hy
    rw [e] at h1
    omega
  · rw [e, List.mem_append] at hx
    rcases hx with hx | hx
    · have := h.lo x hx; omega
    · have := hi x hx; omega
theorem an_evs {a b : Mach} {ofA ofB : List Int} {s : BS} {k : Nat} {p : Int × Int} (h : AN k 0 s) : ∀ n, AN k n (bEvs a b ofA ofB k p s n)
  | 0 => h
  | n + 1 => by rw [bEvs_succ]; exact an_ev (an_evs h n)
theorem an_pair {a b : Mach} {ofA ofB : List Int} {s : BS} {k : Nat} (h : AN k 0 s) : AN (k + 1) 0 (bPair a b ofA ofB s k) := by
  have h1 := an_evs (a := a) (b := b) (ofA := ofA) (ofB := ofB) (p := s.ps[k]?.getD (0, 0)) h a.ev.toNat
  exact ⟨h1.nd, fun x hx => by have := h1.lo x hx; omega⟩

theorem arr_count {a b : Mach} {ofA ofB : List Int} {s : BS} {D : Nat → Int → (Int × Int) → Prop} {k n : Nat} (h : BInv a b ofA ofB s D) (hn : AN k n s) (hA : ∀ e, 0 ≤ e → e < a.ev → hasB ofA e = true) (hB : ∀ e, 0 ≤ e → e < a.ev → hasB ofB e = true) : s.ar.length ≤ a.arrows.length * b.arrows.length := by
  have h1 := @nodup_sub Arr (fun x y => Classical.propDecidable (x = y)) s.ar ((prodL a.arrows b.arrows).map fun r => (⟨(findP s.ps r.1.f r.2.f : Nat), r.1.e, (findP s.ps r.1.t r.2.t : Nat)⟩ : Arr)) hn.nd (fun x hx => by
    obtain ⟨i, p, q, e, -, hp, h0, h1, hq, -, rfl⟩ := h.fwd x hx
    rw [hA e h0 h1, hB e h0 h1, mem_leadsP] at hq
    obtain ⟨-, q1, q2⟩ := hq
    rw [if_pos rfl] at q1 q2
    obtain ⟨α, ma, e1, f1, t1⟩ := (mem_stepL _ _ _ _).1 q1
    obtain ⟨β, mb, e2, f2, t2⟩ := (mem_stepL _ _ _ _).1 q2
    have f1 : α.f = p.1 := by simpa using f1
    have f2 : β.f = p.2 := by simpa using f2
    refine List.mem_map.2 ⟨(α, β), mem_prodL mb ma, ?_⟩
    dsimp only
    rw [f1, f2, e1, t1, t2, findP_at h.nd hp])
  rw [List.length_map, prodL_len] at h1
  exact h1
theorem pair_count {a b : Mach} {ofA ofB : List Int} {s : BS} {D : Nat → Int → (Int × Int) → Prop} (h : BInv a b ofA ofB s D) (za : a.st ≤ 6) (zb : b.st ≤ 6) : s.ps.length ≤ 36 := by
  have h1 := nodup_sub (m := prodL [(0 : Int), 1, 2, 3, 4, 5] [(0 : Int), 1, 2, 3, 4, 5]) h.nd (fun p hp => by
    have := h.cr p hp
    obtain ⟨x, y⟩ := p
    dsimp only at this
    refine mem_prodL ?_ ?_
    · simp only [List.mem_cons, List.not_mem_nil, or_false]; omega
    · simp only [List.mem_cons, List.not_mem_nil, or_false]; omega)
  rw [prodL_len] at h1
  exact h1
theorem bGo_none {a b : Mach} (ha : mayB a = true) (hb : mayB b = true) {ofA ofB : List Int} (za : a.st ≤ 6) (zb : b.st ≤ 6) (hA : ∀ e, 0 ≤ e → e < a.ev → hasB ofA e = true) (hB : ∀ e, 0 ≤ e → e < a.ev → hasB ofB e = true) : ∀ (f k : Nat) (s : BS), BInv a b ofA ofB s (fun i _ _ => i < k) → AN k 0 s → bGo a b ofA ofB f k s = none → 4096 < a.arrows.length * b.arrows.length
  | 0, k, s, _, _, e => by simp [bGo] at e
  | f + 1, k, s, h, hn, e => by
    rw [bGo] at e
    by_cases hlt : k < s.ps.length
    · rw [if_pos hlt] at e
      have h' := binv_pair ha hb h hlt
      have hn' := an_pair (a := a) (b := b) (ofA := ofA) (ofB := ofB) hn
      by_cases hbig : bBig (bPair a b ofA ofB s k) = true
      · have c1 := arr_count h' hn' hA hB
        have c2 := pair_count h' za zb
        unfold bBig at hbig
        simp only [Bool.or_eq_true, decide_eq_true_eq] at hbig
        omega
      · rw [if_neg hbig] at e
        exact bGo_none ha hb za zb hA hB f (k + 1) _ h' hn' e
    · rw [if_neg hlt] at e; cases e
theorem beside_none {a b : Mach} (ha : mayB a = true) (hb : mayB b = true) {ofA ofB : List Int} (za : a.st ≤ 6) (zb : b.st ≤ 6) (hA : ∀ e, 0 ≤ e → e < a.ev → hasB ofA e = true) (hB : ∀ e, 0 ≤ e → e < a.ev → hasB ofB e = true) (h : besideS a b ofA ofB = none) : 4096 < a.arrows.length * b.arrows.length := by
  have sa := may_starts ha
  have sb := may_starts hb
  refine bGo_none ha hb za zb hA hB 300 0 _ ⟨nodup_crossP (inc_nodup sa.1) (inc_nodup sb.1), ⟨[], by simp⟩, fun x hx => by simp at hx, fun i p q e hd => by omega, fun p hp => ?_⟩ ⟨by simp, fun x hx => by simp at hx⟩ h
  obtain ⟨h1, h2⟩ := (mem_crossP _ _ _).1 hp
  exact ⟨sa.2 _ h1, sb.2 _ h2⟩

/-! All events. -/
theorem has_rng (n : Nat) (e : Int) (h0 : 0 ≤ e) (h1 : e < (n : Int)) : hasB (rngI n) e = true := by
  rw [hasB_iff, mem_rngI]; omega
theorem own_rng (n : Nat) (word : List Int) (h : ∀ e ∈ word, 0 ≤ e ∧ e < (n : Int)) : ownW (rngI n) word = word := by
  unfold ownW
  rw [List.filter_eq_self]
  intro e he
  exact has_rng n e (h e he).1 (h e he).2
theorem both_acc {a b : Mach} (ha : mayB a = true) (hb : mayB b = true) {s : BS} (h : besideS a b (rngI a.ev.toNat) (rngI a.ev.toNat) = some s) (word : List Int) (hw : ∀ e ∈ word, 0 ≤ e ∧ e < a.ev) : acceptsB (besideM a b s) word = (acceptsB a word && acceptsB b word) := by
  have hev : ((a.ev.toNat : Nat) : Int) = a.ev := by have := mayB_size ha; unfold sizeOk at this; omega
  have hw' : ∀ e ∈ word, 0 ≤ e ∧ e < ((a.ev.toNat : Nat) : Int) := by rw [hev]; exact hw
  rw [beside_accepts ha hb h word hw, own_rng _ _ hw']
  have : (word.all fun e => hasB (rngI a.ev.toNat) e || hasB (rngI a.ev.toNat) e) = true := by
    rw [List.all_eq_true]
    intro e he
    rw [has_rng _ e (hw' e he).1 (hw' e he).2]; rfl
  rw [this, Bool.true_and]
/-- One language is in another one. -/
theorem outW_iff {a b : Mach} (ha : mayB a = true) (hb : mayB b = true) (za : a.st ≤ 6) (zb : b.st ≤ 6) : (outW a b).isNone = true ↔ ∀ u : List Int, (∀ e ∈ u, 0 ≤ e ∧ e < a.ev) → acceptsB a u = true → acceptsB b u = true := by
  cases h : outW a b with
  | none =>
    refine ⟨fun _ u hu h1 => ?_, fun _ => rfl⟩
    have := outW_none ha hb za zb h u hu
    unfold betw at this
    rw [h1] at this
    simpa using this
  | some v =>
    refine ⟨fun h => by simp at h, fun hall => ?_⟩
    obtain ⟨h1, h2, -, -⟩ := outW_some ha hb za zb h
    unfold betw at h1
    simp only [Bool.and_eq_true, Bool.not_eq_true'] at h1
    rw [hall v h2 h1.1] at h1
    simp at h1
theorem top_in {a b : Mach} (ha : mayB a = true) (hb : mayB b = true) (he : a.ev = b.ev) (za : a.st ≤ 6) (zb : b.st ≤ 6) {s : BS} (h : besideS a b (rngI a.ev.toNat) (rngI a.ev.toNat) = some s) (zm : (besideM a b s).st ≤ 6) :
    (outW (besideM a b s) a).isNone = true ∧ (outW (besideM a b s) b).isNone = true ∧ ∀ c : Mach, mayB c = true → c.ev = a.ev → c.st ≤ 6 → (outW c (besideM a b s)).isNone = ((outW c a).isNone && (outW c b).isNone) := by
  have hm := may_beside ha hb h
  refine ⟨(outW_iff hm ha zm za).2 (fun u hu h1 => ?_), (outW_iff hm hb zm zb).2 (fun u hu h1 => ?_), fun c hc ec zc => ?_⟩
  · rw [both_acc ha hb h u hu, Bool.and_eq_true] at h1; exact h1.1
  · rw [both_acc ha hb h u hu, Bool.and_eq_true] at h1; exact h1.2
  · rw [Bool.eq_iff_iff, Bool.and_eq_true, outW_iff hc hm zc zm, outW_iff hc ha zc za, outW_iff hc hb zc zb]
    rw [ec]
    constructor
    · intro hall
      refine ⟨fun u hu h1 => ?_, fun u hu h1 => ?_⟩
      · have := hall u hu h1
        rw [both_acc ha hb h u hu, Bool.and_eq_true] at this; exact this.1
      · have := hall u hu h1
        rw [both_acc ha hb h u hu, Bool.and_eq_true] at this; exact this.2
    · rintro ⟨k1, k2⟩ u hu h1
      rw [both_acc ha hb h u hu, k1 u hu h1, k2 u hu h1]; rfl

end Go.Proofs.YtcbdjjkebpncmaaDoor
namespace Go.Proofs.YtcbdjjkebpncmaaDoor
open Go.RowKit

theorem Tryd.infoInt : (Tryd.prog.info? 3).map (fun i => (i.zero, i.size, i.bytes)) = some (some (.int .i64 0), 1, 8) := by kernel_rfl

/-- The slice v is in memory made from block B on, and holds xs. -/
def Own (w : World) (B : Nat) (v : Value) (xs : List Int) : Prop := w.ownsRow B 3 1 v xs.length (xs.map (Value.int .i64))

theorem own_nil (w : World) (B : Nat) : Own w B (.slice none 0 0) [] := World.ownsRow_nil _ _ _ _

theorem Own.at {w : World} {B : Nat} {v : Value} {xs : List Int} (h : Own w B v xs) : ∃ a cap, v = .slice a xs.length cap ∧ At w a xs ∧ xs.length ≤ maxLen := by
  rcases h.2 with ⟨rfl, hn⟩ | ⟨g, cap, cur, rfl, hg, hh, hnc, hcm, hcs, ht⟩
  · have : xs = [] := List.eq_nil_of_length_eq_zero hn
    subst this
    exact ⟨none, 0, rfl, .inl rfl, Nat.zero_le _⟩
  · refine ⟨some ⟨g, 0, none⟩, cap, rfl, .inr ⟨g, 0, rfl, (Array.getElem?_eq_some_iff.1 hh).1, fun j hj => ?_⟩, Nat.le_trans hnc hcm⟩
    have := h.cells (g := g) rfl j (.int .i64 (xs.getD j 0)) (by rw [List.getElem?_map, List.getElem?_eq_getElem hj]; simp [List.getElem?_eq_getElem hj])
    rw [show (⟨g, 0, none⟩ : Addr).add j = ⟨g, 0 + j, none⟩ from by unfold Addr.add; split <;> simp_all] at this
    exact this

/-- What a call that hands back a slice leaves: the slice reads as xs, and nothing old has turned. -/
def Gives (w : World) (xs : List Int) (e : Ending) (w' : World) : Prop := ∃ a cap, e = .returned (.slice a xs.length cap) ∧ At w' a xs ∧ xs.length ≤ maxLen ∧ Below w.heap.size w w'

theorem gives_of_own {w w' : World} {B : Nat} {v : Value} {xs : List Int} (h : Own w' B v xs) (hb : Below w.heap.size w w') : Gives w xs (.returned v) w' := by
  obtain ⟨a, cap, rfl, h1, h2⟩ := h.at
  exact ⟨a, cap, rfl, h1, h2, hb⟩

theorem own_snoc {w wr w1 : World} {B : Nat} {v v' : Value} {L : List Int} {x : Int} {o : Obj} (hown : Own wr B v L) (hb : Below B w wr) (hB : B ≤ wr.heap.size)
    (hown' : w1.ownsRow B 3 1 v' (L.length + 1) (L.map (Value.int .i64) ++ [.int .i64 x])) (hgrow : (wr.alloc o).grownBy w1 v.ownBlock) :
    Own w1 B v' (L ++ [x]) ∧ Below B w w1 ∧ B ≤ w1.heap.size := by
  refine ⟨by unfold Own; rw [List.length_append, List.map_append]; exact hown', (hb.alloc hB o).grown hgrow (by simp; omega) (fun j hj => (hown.lt j hj).1), ?_⟩
  have := hgrow.size
  simp at this
  omega

theorem Own.drewN {w : World} {B : Nat} {v : Value} {xs : List Int} (h : Own w B v xs) (m : Nat) : Own (w.drewN m) B v xs := h

/-- An owned slice, as its value and its cells. -/
theorem Own.cells_of {w : World} {B : Nat} {v : Value} {xs : List Int} (h : Own w B v xs) : (v = .slice none 0 0 ∧ xs = []) ∨ ∃ g cap, v = .slice (some ⟨g, 0, none⟩) xs.length cap ∧ B ≤ g ∧ g < w.heap.size ∧ Cells w g 0 xs ∧ (∀ j, w.frozen? ⟨g, j, none⟩ = false) := by
  rcases h.2 with ⟨rfl, hn⟩ | ⟨g, cap, cur, rfl, hg, hh, hnc, hcm, hcs, ht⟩
  · exact .inl ⟨rfl, List.eq_nil_of_length_eq_zero hn⟩
  · refine .inr ⟨g, cap, rfl, hg, (Array.getElem?_eq_some_iff.1 hh).1, fun j hj => ?_, fun j => ?_⟩
    · have := h.cells (g := g) rfl j (.int .i64 (xs.getD j 0)) (by rw [List.getElem?_map, List.getElem?_eq_getElem hj]; simp [List.getElem?_eq_getElem hj])
      rw [show (⟨g, 0, none⟩ : Addr).add j = ⟨g, 0 + j, none⟩ from by unfold Addr.add; split <;> simp_all] at this
      exact this
    · simp [World.frozen?, hh]

end Go.Proofs.YtcbdjjkebpncmaaDoor
namespace Go.Proofs.YtcbdjjkebpncmaaDoor
open Go.RowKit

set_option maxHeartbeats 400000 in
theorem refHas_some (b off cap : Nat) (xs : List Int) (n : Int) (w : World) (hl : xs.length ≤ 9223372036854775807) (hc : Cells w b off xs) :
    Calls Tryd.prog 67 #[.slice (some ⟨b, off, none⟩) xs.length cap, .int .i64 n] w fun e w' => e = .returned (.bool (hasB xs n)) ∧ w' = w := by
  go_enter Tryd.func67, Tryd.ntmps67
  go_wp2
  go_loop [5] (fun i => ∃ k : Nat, k ≤ xs.length ∧ i = .int .i64 k ∧ Hid (hasB xs n = hasB (xs.drop k) n)) (fun i => xs.length - (intOf i).toNat)
  case atStart => exact ⟨0, Nat.zero_le _, rfl, rfl⟩
  case round =>
    obtain ⟨k, hk, rfl, he⟩ := hrel
    by_cases hlt : k < xs.length
    · obtain ⟨x, HX, hcell⟩ := hc.at hlt
      go_wp2
      · go_ret
        exact ⟨ret_bool (has_hit hlt he HX (by assumption)), rfl⟩
      · go_round
        case rel => exact ⟨k + 1, by omega, by go_num, has_miss hlt he HX (by assumption)⟩
        case measure => simp [intOf]; omega
    · go_wp2
      go_ret
      exact ⟨ret_bool (has_end hlt he), rfl⟩

set_option maxHeartbeats 400000 in
theorem refHas_nil (a : Option Addr) (cap : Nat) (n : Int) (w : World) :
    Calls Tryd.prog 67 #[.slice a 0 cap, .int .i64 n] w fun e w' => e = .returned (.bool false) ∧ w' = w := by
  go_enter Tryd.func67, Tryd.ntmps67
  go_wp2
  refine wp_loop_rounds 1 ?_
  rw [rounds_succ]
  go_wp2
  go_ret
  exact ⟨rfl, rfl⟩

theorem refHas_any (a : Option Addr) (cap : Nat) (xs : List Int) (n : Int) (w : World) (hs : At w a xs) (hl : xs.length ≤ maxLen) :
    Calls Tryd.prog 67 #[.slice a xs.length cap, .int .i64 n] w fun e w' => e = .returned (.bool (hasB xs n)) ∧ w' = w := by
  rcases hs with rfl | ⟨b, off, rfl, -, hc⟩
  · exact refHas_nil a cap n w
  · exact refHas_some b off cap xs n w hl hc

end Go.Proofs.YtcbdjjkebpncmaaDoor
