/-
  Plain: the machine of sets: how its sets are found, in the reference's order; what is determined. No program, no model.
  Plain: the places where two machines may be at once, and the least word that one accepts and the other one doesn't. No program, no model.
  What the walk of jalousieref7.Places knows of the memory.
  The walk of jalousieref1.Sorted: insertion, one number after the other: it answers 'srt xs'.
  jalousieref1.Sorted hands back a slice of its own.
-/
import Derived.Test.YtcbdjjkebpncmaaDoorG07
import Derived.Test.YtcbdjjkebpncmaaDoorG06
import Derived.Test.YtcbdjjkebpncmaaDoorG04
import Derived.Deep.QuietTactic
import Derived.BigQuiet
import Derived.Test.YtcbdjjkebpncmaaDoorG05
namespace Go.Proofs.YtcbdjjkebpncmaaDoor
open Go.RowKit
set_option linter.unusedVariables false

/-- A set's place; as many as there are: it is new. -/
def findL : List (List Int) → List Int → Nat
  | [], _ => 0
  | a :: r, s => if a = s then 0 else findL r s + 1
theorem findL_le : ∀ (L : List (List Int)) (s : List Int), findL L s ≤ L.length
  | [], _ => Nat.le_refl _
  | a :: r, s => by
    have := findL_le r s
    unfold findL; split <;> simp <;> omega
theorem findL_get : ∀ {L : List (List Int)} {s : List Int}, findL L s < L.length → L[findL L s]? = some s
  | [], _, h => by simp [findL] at h
  | a :: r, s, h => by
    unfold findL at h ⊢
    by_cases e : a = s
    · rw [if_pos e]; simp [e]
    · rw [if_neg e] at h ⊢
      have : findL r s < r.length := by simp at h; omega
      simpa using findL_get this
theorem findL_new : ∀ {L : List (List Int)} {s : List Int}, findL L s = L.length ↔ s ∉ L
  | [], s => by simp [findL]
  | a :: r, s => by
    unfold findL
    by_cases e : a = s
    · rw [if_pos e]; simp [e]
    · rw [if_neg e]
      have := findL_new (L := r) (s := s)
      simp only [List.length_cons, Nat.add_right_cancel_iff, List.mem_cons, not_or]
      rw [this]
      exact ⟨fun h => ⟨fun h' => e h'.symm, h⟩, fun h => h.2⟩
theorem findL_at : ∀ {L : List (List Int)} {k : Nat} {s : List Int}, L.Nodup → L[k]? = some s → findL L s = k
  | [], k, s, _, h => by simp at h
  | a :: r, 0, s, _, h => by
    have : a = s := by simpa using h
    simp [findL, this]
  | a :: r, k + 1, s, hn, h => by
    have h : r[k]? = some s := by simpa using h
    have h1 : a ≠ s := fun e => (List.nodup_cons.1 hn).1 (by rw [e]; exact List.mem_of_getElem? h)
    unfold findL
    rw [if_neg h1, findL_at (List.nodup_cons.1 hn).2 h]

/-- What has been found: the sets, the arrows. -/
structure DS where
  sets : List (List Int)
  ar : List Arr
/-- One event more, at the set k. -/
def dStep (ars : List Arr) (k : Nat) (s : DS) (e : Nat) : DS :=
  ⟨if findL s.sets (stepL ars (s.sets[k]?.getD []) (e : Int)) = s.sets.length then s.sets ++ [stepL ars (s.sets[k]?.getD []) (e : Int)] else s.sets, s.ar ++ [⟨(k : Int), (e : Int), (findL s.sets (stepL ars (s.sets[k]?.getD []) (e : Int)) : Nat)⟩]⟩
def dRow (ars : List Arr) (k : Nat) (s : DS) (n : Nat) : DS := (List.range n).foldl (dStep ars k) s
theorem dRow_zero (ars : List Arr) (k : Nat) (s : DS) : dRow ars k s 0 = s := rfl
theorem dRow_succ (ars : List Arr) (k : Nat) (s : DS) (n : Nat) : dRow ars k s (n + 1) = dStep ars k (dRow ars k s n) n := by
  unfold dRow; rw [List.range_succ, List.foldl_append]; rfl
def dGo (ars : List Arr) (ev : Nat) : Nat → Nat → DS → Option DS
  | 0, _, s => some s
  | f + 1, k, s => if k < s.sets.length then (if 256 < (dRow ars k s ev).sets.length then none else dGo ars ev f (k + 1) (dRow ars k s ev)) else some s
def detS (m : Mach) : Option DS := dGo m.arrows m.ev.toNat 257 0 ⟨[m.starts], []⟩
/-- The numbers of the sets that have an end. -/
def endsFrom (ends : List Int) : Nat → List (List Int) → List Int
  | _, [] => []
  | k, a :: r => if 0 < (a.filter fun n => hasB ends n == true).length then (k : Int) :: endsFrom ends (k + 1) r else endsFrom ends (k + 1) r
theorem endsFrom_cons (ends : List Int) (k : Nat) (a : List Int) (r : List (List Int)) : endsFrom ends k (a :: r) = if 0 < (a.filter fun n => hasB ends n == true).length then (k : Int) :: endsFrom ends (k + 1) r else endsFrom ends (k + 1) r := rfl
def endsD (ends : List Int) (sets : List (List Int)) : List Int := endsFrom ends 0 sets
def detM (m : Mach) (s : DS) : Mach := ⟨s.sets.length, m.ev, [0], s.ar, endsD m.ends s.sets⟩

theorem endsFrom_snoc (ends : List Int) : ∀ (L : List (List Int)) (k : Nat) (a : List Int), endsFrom ends k (L ++ [a]) = endsFrom ends k L ++ (if 0 < (a.filter fun n => hasB ends n == true).length then [((k + L.length : Nat) : Int)] else [])
  | [], k, a => by simp only [List.nil_append, endsFrom, List.length_nil, Nat.add_zero]
  | b :: r, k, a => by
    rw [List.cons_append]
    unfold endsFrom
    rw [endsFrom_snoc ends r (k + 1) a, List.length_cons, show k + 1 + r.length = k + (r.length + 1) by omega]
    by_cases h : 0 < (b.filter fun n => hasB ends n == true).length
    · rw [if_pos h, if_pos h, List.cons_append]
    · rw [if_neg h, if_neg h]
theorem endsD_take {ends : List Int} {L : List (List Int)} {k : Nat} {a : List Int} (h : L[k]? = some a) : endsD ends (L.take (k + 1)) = if 0 < (a.filter fun n => hasB ends n == true).length then endsD ends (L.take k) ++ [(k : Int)] else endsD ends (L.take k) := by
  have hk := (List.getElem?_eq_some_iff.1 h).1
  have e : L.take (k + 1) = L.take k ++ [a] := by rw [List.take_add_one, h]; rfl
  unfold endsD
  rw [e, endsFrom_snoc, List.length_take, Nat.min_eq_left (by omega), Nat.zero_add]
  split
  · rfl
  · rw [List.append_nil]
theorem endsFrom_len (ends : List Int) : ∀ (k : Nat) (L : List (List Int)), (endsFrom ends k L).length ≤ L.length
  | _, [] => Nat.le_refl _
  | k, a :: r => by
    have := endsFrom_len ends (k + 1) r
    unfold endsFrom; split <;> simp <;> omega
theorem mem_endsFrom (ends : List Int) : ∀ (L : List (List Int)) (k : Nat) (x : Int), x ∈ endsFrom ends k L ↔ ∃ j a, L[j]? = some a ∧ x = ((k + j : Nat) : Int) ∧ ∃ y ∈ a, y ∈ ends
  | [], k, x => by simp [endsFrom]
  | b :: r, k, x => by
    have hpos : 0 < (b.filter fun n => hasB ends n == true).length ↔ ∃ y ∈ b, y ∈ ends := by
      rw [List.length_pos_iff_exists_mem]
      constructor
      · rintro ⟨y, hy⟩
        obtain ⟨h1, h2⟩ := List.mem_filter.1 hy
        exact ⟨y, h1, (hasB_iff _ _).1 (by simpa using h2)⟩
      · rintro ⟨y, h1, h2⟩
        exact ⟨y, List.mem_filter.2 ⟨h1, by simpa using (hasB_iff _ _).2 h2⟩⟩
    have ih := mem_endsFrom ends r (k + 1) x
    have hr : (∃ j a, (b :: r)[j]? = some a ∧ x = ((k + j : Nat) : Int) ∧ ∃ y ∈ a, y ∈ ends) ↔ (x = (k : Int) ∧ ∃ y ∈ b, y ∈ ends) ∨ (∃ j a, r[j]? = some a ∧ x = ((k + 1 + j : Nat) : Int) ∧ ∃ y ∈ a, y ∈ ends) := by
      constructor
      · rintro ⟨j, a, h1, h2, h3⟩
        rcases j with _ | j
        · have e : b = a := by simpa using h1
          subst e
          exact .inl ⟨by simpa using h2, h3⟩
        · exact .inr ⟨j, a, by simpa using h1, by rw [h2]; congr 1; omega, h3⟩
      · rintro (⟨h1, h2⟩ | ⟨j, a, h1, h2, h3⟩)
        · exact ⟨0, b, rfl, by simpa using h1, h2⟩
        · exact ⟨j + 1, a, by simpa using h1, by rw [h2]; congr 1; omega, h3⟩
    rw [hr, ← ih, endsFrom_cons]
    by_cases h : 0 < (b.filter fun n => hasB ends n == true).length
    · rw [if_pos h, List.mem_cons]
      have := hpos.1 h
      constructor
      · rintro (h1 | h1)
        · exact .inl ⟨h1, this⟩
        · exact .inr h1
      · rintro (h1 | h1)
        · exact .inl h1.1
        · exact .inr h1
    · rw [if_neg h]
      constructor
      · exact .inr
      · rintro (h1 | h1)
        · exact absurd (hpos.2 h1.2) h
        · exact h1
theorem inc_endsFrom (ends : List Int) : ∀ (L : List (List Int)) (k : Nat), Inc (endsFrom ends k L)
  | [], k => by simp [endsFrom, Inc]
  | b :: r, k => by
    unfold endsFrom
    split
    · rw [Inc, List.pairwise_cons]
      refine ⟨fun x hx => ?_, inc_endsFrom ends r (k + 1)⟩
      obtain ⟨j, a, -, h2, -⟩ := (mem_endsFrom ends r (k + 1) x).1 hx
      omega
    · exact inc_endsFrom ends r (k + 1)

/-! What is found only grows. -/
theorem dStep_pre (ars : List Arr) (k : Nat) (s : DS) (e : Nat) : ∃ t, (dStep ars k s e).sets = s.sets ++ t ∧ t.length ≤ 1 := by
  unfold dStep
  dsimp only
  split
  · exact ⟨_, rfl, by simp⟩
  · exact ⟨[], by simp, by simp⟩
theorem dRow_pre (ars : List Arr) (k : Nat) (s : DS) : ∀ n, ∃ t, (dRow ars k s n).sets = s.sets ++ t ∧ t.length ≤ n
  | 0 => ⟨[], by simp [dRow_zero], by simp⟩
  | n + 1 => by
    obtain ⟨t, h1, h2⟩ := dRow_pre ars k s n
    obtain ⟨u, h3, h4⟩ := dStep_pre ars k (dRow ars k s n) n
    exact ⟨t ++ u, by rw [dRow_succ, h3, h1, List.append_assoc], by rw [List.length_append]; omega⟩
theorem dRow_mono (ars : List Arr) (k : Nat) (s : DS) (n : Nat) : ∀ j, (dRow ars k s n).sets.length ≤ (dRow ars k s (n + j)).sets.length
  | 0 => Nat.le_refl _
  | j + 1 => by
    have := dRow_mono ars k s n j
    obtain ⟨u, h3, h4⟩ := dStep_pre ars k (dRow ars k s (n + j)) (n + j)
    rw [← Nat.add_assoc, dRow_succ, h3, List.length_append]; omega
theorem dRow_ar (ars : List Arr) (k : Nat) (s : DS) : ∀ n, (dRow ars k s n).ar.length = s.ar.length + n
  | 0 => rfl
  | n + 1 => by rw [dRow_succ]; unfold dStep; simp only [List.length_append, List.length_cons, List.length_nil]; rw [dRow_ar ars k s n]; omega
theorem dGo_none {ars : List Arr} {ev f k : Nat} {s : DS} (hk : k < s.sets.length) (hB : 256 < (dRow ars k s ev).sets.length) (hf : 0 < f) : dGo ars ev f k s = none := by
  obtain ⟨g, rfl⟩ : ∃ g, f = g + 1 := ⟨f - 1, by omega⟩
  rw [dGo, if_pos hk, if_pos hB]
theorem dGo_next {ars : List Arr} {ev f k : Nat} {s : DS} (hk : k < s.sets.length) (hB : ¬ 256 < (dRow ars k s ev).sets.length) (hf : 0 < f) : dGo ars ev f k s = dGo ars ev (f - 1) (k + 1) (dRow ars k s ev) := by
  obtain ⟨g, rfl⟩ : ∃ g, f = g + 1 := ⟨f - 1, by omega⟩
  rw [dGo, if_pos hk, if_neg hB]; rfl
theorem dGo_end {ars : List Arr} {ev f k : Nat} {s : DS} (hk : ¬ k < s.sets.length) : dGo ars ev f k s = some s := by
  cases f with
  | zero => rfl
  | succ g => rw [dGo, if_neg hk]

/-! What holds of what is found. -/
structure DI (m : Mach) (ev : Nat) (n : Nat) (s : DS) : Prop where
  nd : s.sets.Nodup
  hd : s.sets[0]? = some m.starts
  inc : ∀ l ∈ s.sets, Inc l ∧ ∀ x ∈ l, 0 ≤ x ∧ x < m.st
  len : s.ar.length = n
  ar : ∀ i, i < n → ∃ f e t : Nat, ∃ l, s.ar[i]? = some ⟨(f : Int), (e : Int), (t : Int)⟩ ∧ f * ev + e = i ∧ e < ev ∧ s.sets[f]? = some l ∧ s.sets[t]? = some (stepL m.arrows l (e : Int))
theorem DI.pos {m : Mach} {ev n : Nat} {s : DS} (h : DI m ev n s) : 0 < s.sets.length := (List.getElem?_eq_some_iff.1 h.hd).1
theorem stepIn {m : Mach} (hm : mayB m = true) (ss : List Int) (e : Int) : Inc (stepL m.arrows ss e) ∧ ∀ x ∈ stepL m.arrows ss e, 0 ≤ x ∧ x < m.st := by
  refine ⟨inc_srt _, fun x hx => ?_⟩
  obtain ⟨a, ha, -, -, rfl⟩ := (mem_stepL _ _ _ _).1 hx
  have := may_arrs hm a ha
  exact ⟨this.2.2.1, this.2.2.2.1⟩
theorem di_step {m : Mach} (hm : mayB m = true) {ev k e : Nat} {s : DS} (h : DI m ev (k * ev + e) s) (hk : k < s.sets.length) (he : e < ev) : DI m ev (k * ev + (e + 1)) (dStep m.arrows k s e) := by
  obtain ⟨l, hl⟩ : ∃ l, s.sets[k]? = some l := ⟨_, List.getElem?_eq_getElem hk⟩
  obtain ⟨to, hto⟩ : ∃ to, to = stepL m.arrows l (e : Int) := ⟨_, rfl⟩
  have e1 : dStep m.arrows k s e = ⟨if findL s.sets to = s.sets.length then s.sets ++ [to] else s.sets, s.ar ++ [⟨(k : Int), (e : Int), (findL s.sets to : Nat)⟩]⟩ := by
    unfold dStep; rw [hl, Option.getD_some, ← hto]
  have hin := stepIn hm l (e : Int)
  rw [← hto] at hin
  have hlk : ∀ (j : Nat) (x : List Int), s.sets[j]? = some x → (if findL s.sets to = s.sets.length then s.sets ++ [to] else s.sets)[j]? = some x := by
    intro j x hj
    split
    · rw [List.getElem?_append_left (List.getElem?_eq_some_iff.1 hj).1]; exact hj
    · exact hj
  have hnew : (if findL s.sets to = s.sets.length then s.sets ++ [to] else s.sets)[findL s.sets to]? = some to := by
    have := findL_le s.sets to
    split
    · rename_i h1
      rw [h1, List.getElem?_append_right (Nat.le_refl _)]; simp
    · exact findL_get (by omega)
  rw [e1]
  refine ⟨?_, hlk 0 _ h.hd, ?_, ?_, ?_⟩
  · dsimp only
    split
    · rename_i h1
      rw [List.nodup_append]
      exact ⟨h.nd, by simp, fun x hx y hy e => by simp at hy; subst hy; subst e; exact findL_new.1 h1 hx⟩
    · exact h.nd
  · dsimp only
    intro x hx
    split at hx
    · rcases List.mem_append.1 hx with hx | hx
      · exact h.inc x hx
      · have : x = to := by simpa using hx
        rw [this]; exact hin
    · exact h.inc x hx
  · simp only [List.length_append, List.length_cons, List.length_nil, h.len]; omega
  · intro i hi
    by_cases hlt : i < k * ev + e
    · obtain ⟨f, e', t, l', h1, h2, h3, h4, h5⟩ := h.ar i hlt
      exact ⟨f, e', t, l', by rw [List.getElem?_append_left (by rw [h.len]; exact hlt)]; exact h1, h2, h3, hlk _ _ h4, hlk _ _ h5⟩
    · have hi' : i = k * ev + e := by omega
      refine ⟨k, e, findL s.sets to, l, ?_, hi'.symm, he, hlk _ _ hl, by rw [← hto]; exact hnew⟩
      rw [List.getElem?_append_right (by rw [h.len]; omega), h.len, hi']; simp
theorem di_row {m : Mach} (hm : mayB m = true) {ev k : Nat} {s : DS} (h : DI m ev (k * ev) s) (hk : k < s.sets.length) : ∀ n, n ≤ ev → DI m ev (k * ev + n) (dRow m.arrows k s n)
  | 0, _ => h
  | n + 1, hn => by
    rw [dRow_succ]
    obtain ⟨t, ht, -⟩ := dRow_pre m.arrows k s n
    exact di_step hm (di_row hm h hk n (by omega)) (by rw [ht, List.length_append]; omega) (by omega)
theorem di_go {m : Mach} (hm : mayB m = true) {ev : Nat} : ∀ (f k : Nat) (s s' : DS), DI m ev (k * ev) s → k ≤ s.sets.length → s.sets.length ≤ 256 → 257 ≤ f + k → dGo m.arrows ev f k s = some s' → DI m ev (s'.sets.length * ev) s' ∧ s'.sets.length ≤ 256
  | 0, k, s, s', h, hk, h256, hf, e => by omega
  | f + 1, k, s, s', h, hk, h256, hf, e => by
    rw [dGo] at e
    by_cases hlt : k < s.sets.length
    · rw [if_pos hlt] at e
      by_cases hB : 256 < (dRow m.arrows k s ev).sets.length
      · rw [if_pos hB] at e; cases e
      · rw [if_neg hB] at e
        obtain ⟨t, ht, -⟩ := dRow_pre m.arrows k s ev
        refine di_go hm f (k + 1) _ s' ?_ (by rw [ht, List.length_append]; omega) (by omega) (by omega) e
        have := di_row hm h hlt ev (Nat.le_refl _)
        rw [Nat.succ_mul]; exact this
    · rw [if_neg hlt] at e
      have e := Option.some.inj e
      subst e
      have : k = s.sets.length := by omega
      rw [← this]
      exact ⟨h, by omega⟩
theorem di_start {m : Mach} (hm : mayB m = true) (ev : Nat) : DI m ev (0 * ev) ⟨[m.starts], []⟩ := by
  refine ⟨by simp, rfl, fun l hl => ?_, by simp, fun i hi => by omega⟩
  have : l = m.starts := by simpa using hl
  rw [this]; exact may_starts hm
theorem detS_di {m : Mach} (hm : mayB m = true) {s : DS} (h : detS m = some s) : DI m m.ev.toNat (s.sets.length * m.ev.toNat) s ∧ s.sets.length ≤ 256 :=
  di_go hm 257 0 _ s (di_start hm _) (by simp) (by simp) (by omega) h

end Go.Proofs.YtcbdjjkebpncmaaDoor
namespace Go.Proofs.YtcbdjjkebpncmaaDoor
open Go.RowKit
set_option linter.unusedVariables false
set_option linter.unusedSectionVars false

/-! How many increasing lists there are. -/
theorem nodup_sub {α : Type} [DecidableEq α] : ∀ {l m : List α}, l.Nodup → (∀ x ∈ l, x ∈ m) → l.length ≤ m.length
  | [], m, _, _ => Nat.zero_le _
  | x :: r, m, hn, hs => by
    rw [List.nodup_cons] at hn
    have hx := hs x (by simp)
    have ih := nodup_sub (l := r) (m := m.erase x) hn.2 (fun y hy => by
      have hne : y ≠ x := fun e => hn.1 (e ▸ hy)
      exact (List.mem_erase_of_ne hne).2 (hs y (by simp [hy])))
    rw [List.length_erase_of_mem hx] at ih
    have := List.length_pos_of_mem hx
    rw [List.length_cons]; omega
def subs : Nat → List (List Int)
  | 0 => [[]]
  | n + 1 => subs n ++ (subs n).map (· ++ [(n : Int)])
theorem subs_len : ∀ n, (subs n).length = 2 ^ n
  | 0 => rfl
  | n + 1 => by rw [subs, List.length_append, List.length_map, subs_len n, Nat.pow_succ]; omega
theorem mem_subs : ∀ (n : Nat) (l : List Int), Inc l → (∀ x ∈ l, 0 ≤ x ∧ x < (n : Int)) → l ∈ subs n
  | 0, l, _, h => by
    have : l = [] := by
      cases l with
      | nil => rfl
      | cons x r => have := h x (by simp); omega
    subst this; simp [subs]
  | n + 1, l, hi, h => by
    rw [subs, List.mem_append, List.mem_map]
    by_cases hn : (n : Int) ∈ l
    · right
      have hne : l ≠ [] := fun e => by rw [e] at hn; simp at hn
      obtain ⟨v, z, e⟩ : ∃ v z, l = v ++ [z] := ⟨_, _, (List.dropLast_concat_getLast hne).symm⟩
      subst e
      unfold Inc at hi
      rw [List.pairwise_append] at hi
      have hz := h z (by simp)
      have hzn : z = (n : Int) := by
        rcases List.mem_append.1 hn with h1 | h1
        · have := hi.2.2 _ h1 z (by simp); omega
        · have : (n : Int) = z := by simpa using h1
          exact this.symm
      subst hzn
      refine ⟨v, mem_subs n v hi.1 (fun x hx => ?_), rfl⟩
      have h1 := hi.2.2 x hx _ (by simp : (n : Int) ∈ [(n : Int)])
      have h2 := h x (by simp [hx])
      omega
    · left
      refine mem_subs n l hi (fun x hx => ?_)
      have h1 := h x hx
      have : x ≠ (n : Int) := fun e => hn (e ▸ hx)
      omega
def prodL {α β : Type} : List α → List β → List (α × β)
  | [], _ => []
  | x :: r, m => m.map (fun y => (x, y)) ++ prodL r m
theorem prodL_len {α β : Type} (m : List β) : ∀ l : List α, (prodL l m).length = l.length * m.length
  | [] => by simp [prodL]
  | x :: r => by rw [prodL, List.length_append, List.length_map, prodL_len m r, List.length_cons, Nat.add_mul]; omega
theorem mem_prodL {α β : Type} {x : α} {y : β} {m : List β} (hy : y ∈ m) : ∀ {l : List α}, x ∈ l → (x, y) ∈ prodL l m
  | [], h => by simp at h
  | z :: r, h => by
    rw [prodL, List.mem_append]
    rcases List.mem_cons.1 h with rfl | h
    · exact .inl (List.mem_map.2 ⟨y, hy, rfl⟩)
    · exact .inr (mem_prodL hy h)

/-! The search ends. -/
section
variable {σ : Type} [DecidableEq σ] {δ : σ → Nat → σ}
theorem bi_wlen {s0 : σ} {ev k n : Nat} {l : List (σ × List Int)} (h : BI δ s0 ev k n l) : ∀ (j : Nat) (p : σ × List Int), l[j]? = some p → p.2.length ≤ j := by
  intro j
  induction j using Nat.strongRecOn with
  | _ j ih =>
    intro p hp
    rcases h.top p (List.mem_of_getElem? hp) with h0 | ⟨i, x, e, hx, h1, -⟩
    · rw [h0]; simp
    · have hl : p.2.length = x.2.length + 1 := by rw [h1]; simp
      have hlt := (List.getElem?_eq_some_iff.1 hp).1
      have hlx := (List.getElem?_eq_some_iff.1 hx).1
      have hij : i < j := by
        rcases Nat.lt_trichotomy i j with h2 | h2 | h2
        · exact h2
        · subst h2; rw [hx] at hp; have := Option.some.inj hp; subst this; omega
        · have := List.pairwise_iff_getElem.1 h.inc j i hlt hlx h2
          rw [(List.getElem?_eq_some_iff.1 hx).2, (List.getElem?_eq_some_iff.1 hp).2] at this
          have := lessB_len this; omega
      have := ih i hij x hx
      omega
theorem bi_end {s0 : σ} {ev N : Nat} (hN : ∀ (k n : Nat) (l : List (σ × List Int)), BI δ s0 ev k n l → l.length ≤ N) : ∀ (f k : Nat) (l : List (σ × List Int)), BI δ s0 ev k 0 l → k ≤ l.length → N < f + k → BI δ s0 ev (bfGo δ ev f k l).length 0 (bfGo δ ev f k l)
  | 0, k, l, h, hk, hf => by have := hN _ _ _ h; omega
  | f + 1, k, l, h, hk, hf => by
    cases hx : l[k]? with
    | none =>
      have e : bfGo δ ev (f + 1) k l = l := by unfold bfGo; rw [hx]
      have : k = l.length := by have := List.getElem?_eq_none_iff.1 hx; omega
      rw [e]; rw [this] at h; exact h
    | some x =>
      have e : bfGo δ ev (f + 1) k l = bfGo δ ev f (k + 1) (bfRow δ x l ev) := by rw [bfGo, hx]
      rw [e]
      have hlt := (List.getElem?_eq_some_iff.1 hx).1
      obtain ⟨t, ht⟩ := bfRow_pre δ x l ev
      exact bi_end hN f (k + 1) _ (bi_next δ h hx) (by rw [ht, List.length_append]; omega) (by omega)
end

/-! Two machines at once. -/
/-- Where both lead. -/
def bothD (A B : List Arr) (s : List Int × List Int) (e : Nat) : List Int × List Int := (stepL A s.1 (e : Int), stepL B s.2 (e : Int))
theorem bothD_run (A B : List Arr) : ∀ (u : List Int) (x y : List Int), (∀ e ∈ u, 0 ≤ e) → runF (bothD A B) (x, y) u = (afterL A x u, afterL B y u)
  | [], x, y, _ => rfl
  | e :: u, x, y, h => by
    have he : ((e.toNat : Nat) : Int) = e := by have := h e (by simp); omega
    show runF (bothD A B) (bothD A B (x, y) e.toNat) u = _
    unfold bothD
    rw [he]
    exact bothD_run A B u _ _ (fun z hz => h z (by simp [hz]))
theorem afterIn {m : Mach} (hm : mayB m = true) : ∀ (u l : List Int), (Inc l ∧ ∀ x ∈ l, 0 ≤ x ∧ x < m.st) → Inc (afterL m.arrows l u) ∧ ∀ x ∈ afterL m.arrows l u, 0 ≤ x ∧ x < m.st
  | [], l, h => h
  | e :: u, l, _ => afterIn hm u _ (stepIn hm l e)
/-- The places, the lesser words ahead. -/
def plcAll (a b : Mach) : List ((List Int × List Int) × List Int) := bfGo (bothD a.arrows b.arrows) a.ev.toNat 4097 0 [((a.starts, b.starts), [])]
theorem plc_bound {a b : Mach} (ha : mayB a = true) (hb : mayB b = true) (za : a.st ≤ 6) (zb : b.st ≤ 6) {ev k n : Nat} {l : List ((List Int × List Int) × List Int)} (h : BI (bothD a.arrows b.arrows) (a.starts, b.starts) ev k n l) : l.length ≤ 4096 := by
  have h1 := nodup_sub (m := prodL (subs 6) (subs 6)) h.nd (fun s hs => by
    obtain ⟨p, hp, rfl⟩ := List.mem_map.1 hs
    obtain ⟨e1, e2⟩ := h.run p hp
    rw [bothD_run _ _ _ _ _ (fun e he => (e2 e he).1)] at e1
    have i1 := afterIn ha p.2 _ (may_starts ha)
    have i2 := afterIn hb p.2 _ (may_starts hb)
    rw [e1]
    exact mem_prodL (mem_subs 6 _ i2.1 (fun x hx => by have := i2.2 x hx; omega)) (mem_subs 6 _ i1.1 (fun x hx => by have := i1.2 x hx; omega)))
  rw [List.length_map, prodL_len, subs_len] at h1
  exact h1
theorem plc_all {a b : Mach} (ha : mayB a = true) (hb : mayB b = true) (za : a.st ≤ 6) (zb : b.st ≤ 6) : BI (bothD a.arrows b.arrows) (a.starts, b.starts) a.ev.toNat (plcAll a b).length 0 (plcAll a b) :=
  bi_end (N := 4096) (fun k n l h => plc_bound ha hb za zb h) 4097 0 _ (bi_start _ _ _) (Nat.zero_le _) (by omega)

/-- Is a place where the one may end, and the other one not? -/
def outP (a b : Mach) (p : (List Int × List Int) × List Int) : Bool := decide (0 < (p.1.1.filter fun n => hasB a.ends n == true).length) && decide ((p.1.2.filter fun n => hasB b.ends n == true).length = 0)
/-- The least word that a accepts and b does not. -/
def outW (a b : Mach) : Option (List Int) := ((plcAll a b).find? (outP a b)).map (·.2)
/-- Is a word of the one, and not of the other one? -/
def betw (a b : Mach) (u : List Int) : Bool := acceptsB a u && !acceptsB b u
theorem outP_run {a b : Mach} {p : (List Int × List Int) × List Int} (h : p.1 = runF (bothD a.arrows b.arrows) (a.starts, b.starts) p.2) (hu : ∀ e ∈ p.2, 0 ≤ e) (u : List Int) (hu' : ∀ e ∈ u, 0 ≤ e) (he : p.1 = runF (bothD a.arrows b.arrows) (a.starts, b.starts) u) : outP a b p = betw a b u := by
  rw [bothD_run _ _ _ _ _ hu'] at he
  unfold outP betw acceptsB acceptsL
  rw [he]
  dsimp only
  congr 1
  rw [← decide_not]
  exact decide_eq_decide.2 (by omega)
theorem outW_none {a b : Mach} (ha : mayB a = true) (hb : mayB b = true) (za : a.st ≤ 6) (zb : b.st ≤ 6) (h : outW a b = none) (u : List Int) (hu : ∀ e ∈ u, 0 ≤ e ∧ e < a.ev) : betw a b u = false := by
  have hI := plc_all ha hb za zb
  have hev : ((a.ev.toNat : Nat) : Int) = a.ev := by have := mayB_size ha; unfold sizeOk at this; omega
  obtain ⟨p, hp, e1, -⟩ := bi_all _ hI u (by rw [hev]; exact hu)
  unfold outW at h
  rw [Option.map_eq_none_iff, List.find?_eq_none] at h
  have h1 := h p hp
  have hr := hI.run p hp
  rw [outP_run hr.1 (fun e he => (hr.2 e he).1) u (fun e he => (hu e he).1) e1] at h1
  simpa using h1
theorem outW_some {a b : Mach} (ha : mayB a = true) (hb : mayB b = true) (za : a.st ≤ 6) (zb : b.st ≤ 6) {v : List Int} (h : outW a b = some v) : betw a b v = true ∧ (∀ e ∈ v, 0 ≤ e ∧ e < a.ev) ∧ v.length ≤ 4096 ∧ ∀ u : List Int, (∀ e ∈ u, 0 ≤ e ∧ e < a.ev) → betw a b u = true → lessB u v = false := by
  have hI := plc_all ha hb za zb
  have hev : ((a.ev.toNat : Nat) : Int) = a.ev := by have := mayB_size ha; unfold sizeOk at this; omega
  unfold outW at h
  rw [Option.map_eq_some_iff] at h
  obtain ⟨p, hp, rfl⟩ := h
  have hpo := List.find?_some hp
  rw [List.find?_eq_some_iff_getElem] at hp
  obtain ⟨-, i, hi, e0, hlow⟩ := hp
  have hpi : (plcAll a b)[i]? = some p := by rw [List.getElem?_eq_getElem hi, e0]
  have hpm := List.mem_of_getElem? hpi
  have hr := hI.run p hpm
  rw [hev] at hr
  have hbd := plc_bound ha hb za zb hI
  refine ⟨?_, hr.2, ?_, fun u hu hb' => ?_⟩
  · rw [← outP_run hr.1 (fun e he => (hr.2 e he).1) p.2 (fun e he => (hr.2 e he).1) hr.1]; exact hpo
  · have := bi_wlen hI i p hpi; omega
  · obtain ⟨q, hq, e1, e2⟩ := bi_all _ hI u (by rw [hev]; exact hu)
    have hrq := hI.run q hq
    have hqo : outP a b q = true := by rw [outP_run hrq.1 (fun e he => (hrq.2 e he).1) u (fun e he => (hu e he).1) e1]; exact hb'
    obtain ⟨j, hj⟩ := List.mem_iff_getElem?.1 hq
    have hjl := (List.getElem?_eq_some_iff.1 hj).1
    have hqe := (List.getElem?_eq_some_iff.1 hj).2
    have hij : i ≤ j := by
      rcases Nat.lt_or_ge j i with h1 | h1
      · have := hlow j h1
        rw [hqe, hqo] at this; simp at this
      · exact h1
    have hle : leW p.2 q.2 := by
      rcases Nat.lt_or_ge i j with h1 | h1
      · have := List.pairwise_iff_getElem.1 hI.inc i j hi hjl h1
        rw [hqe, e0] at this
        exact .inr this
      · have : i = j := by omega
        subst this
        rw [hpi] at hj
        have := Option.some.inj hj
        subst this
        exact leW_refl _
    exact leW_not (leW_trans hle e2)

end Go.Proofs.YtcbdjjkebpncmaaDoor
namespace Go.Proofs.YtcbdjjkebpncmaaDoor
open Go.RowKit
set_option linter.unusedVariables false

/-- An inner slice, and nil has no room. -/
def InnW (n : Nat) (W : World) (x : Value) (xs : List Int) : Prop := InnN n W x xs ∧ ∀ (m c : Nat), x = .slice none m c → c = 0
theorem InnW.kept {n : Nat} {W W' : World} {x : Value} {xs : List Int} (h : InnW n W x xs) (hz : W.heap.size ≤ W'.heap.size) (h1 : ∀ j, j < n → W'.heap[j]? = W.heap[j]?) (h2 : ∀ (g : Nat) (cs : Array Value), W.heap[g]? = some (.cells cs 3 (0, 0)) → W'.heap[g]? = W.heap[g]?) : InnW n W' x xs := ⟨h.1.kept hz h1 h2, h.2⟩
theorem InnW.below {n : Nat} {W W' : World} {x : Value} {xs : List Int} (h : InnW n W x xs) (hb : Below W.heap.size W W') (hn : n ≤ W.heap.size) : InnW n W' x xs :=
  h.kept hb.size (fun j hj => hb.block j (by omega)) (fun g cs hg => hb.block g (Array.getElem?_eq_some_iff.1 hg).1)
theorem InnW.of_own {n : Nat} {W : World} {B : Nat} {v : Value} {xs : List Int} (h : Own W B v xs) : InnW n W v xs := by
  refine ⟨InnN.of_own h, fun m c e => ?_⟩
  obtain ⟨a, cap, e1, -, -, -, e2⟩ := h.at2
  rw [e1] at e
  cases e
  exact e2 rfl
theorem InnW.at {n : Nat} {W : World} {x : Value} {xs : List Int} (h : InnW n W x xs) : ∃ a c, x = .slice a xs.length c ∧ At W a xs ∧ xs.length ≤ maxLen ∧ (a = none → c = 0) := by
  obtain ⟨a, c, e, h1, h2⟩ := h.1.at
  exact ⟨a, c, e, h1, h2, fun hn => h.2 _ c (by rw [e, hn])⟩
theorem InnW.one {n : Nat} {W : World} {x : Value} {xs : List Int} (h : InnW n W x xs) : x.oneCell' = true := by
  obtain ⟨a, c, rfl, -⟩ := h.at; rfl

/-- A slice of places of the call's own. -/
def OwnPl (n : Nat) (W : World) (B : Nat) (v : Value) (L : List Plc) : Prop := ∃ vs : List Value, W.ownsRow B 132 3 v L.length vs ∧ ∀ (j : Nat) (x : Value) (xs : List Int), vs[j]? = some x → (plcs L)[j]? = some xs → InnW n W x xs
theorem OwnPl.cells {n : Nat} {W : World} {B : Nat} {v : Value} {L : List Plc} (h : OwnPl n W B v L) (hL : 0 < L.length) : ∃ g cap, v = .slice (some ⟨g, 0, none⟩) L.length cap ∧ B ≤ g ∧ g < W.heap.size ∧ L.length ≤ maxLen ∧
    ∀ (k : Nat) (p : Plc), L[k]? = some p → ∃ x y z, W.cell? ⟨g, 0 + k * 3, none⟩ = some x ∧ W.cell? ⟨g, 0 + k * 3 + 1, none⟩ = some y ∧ W.cell? ⟨g, 0 + k * 3 + 2, none⟩ = some z ∧ InnW n W x p.1.1 ∧ InnW n W y p.1.2 ∧ InnW n W z p.2 := by
  obtain ⟨vs, ho, hi⟩ := h
  rcases ho.2 with ⟨rfl, hn⟩ | ⟨g, cap, cur, rfl, hg, hh, hnc, hcm, hcs, ht⟩
  · omega
  · refine ⟨g, cap, rfl, hg, (Array.getElem?_eq_some_iff.1 hh).1, Nat.le_trans hnc hcm, fun k p hp => ?_⟩
    have hk := (List.getElem?_eq_some_iff.1 hp).1
    have hl := ho.1
    obtain ⟨p1, p2, p3⟩ := plcs_at hp
    have hx := List.getElem?_eq_getElem (l := vs) (i := k * 3) (by omega)
    have hy := List.getElem?_eq_getElem (l := vs) (i := k * 3 + 1) (by omega)
    have hz := List.getElem?_eq_getElem (l := vs) (i := k * 3 + 2) (by omega)
    have c1 := ho.cells (g := g) rfl _ _ hx
    have c2 := ho.cells (g := g) rfl _ _ hy
    have c3 := ho.cells (g := g) rfl _ _ hz
    rw [addr0_add] at c1 c2 c3
    exact ⟨_, _, _, c1, c2, c3, hi _ _ _ hx p1, hi _ _ _ hy p2, hi _ _ _ hz p3⟩
theorem OwnPl.cellsP {n : Nat} {W : World} {B : Nat} {v : Value} {L : List Plc} (h : OwnPl n W B v L) (hL : 0 < L.length) : ∃ g cap, v = .slice (some ⟨g, 0, none⟩) L.length cap ∧ B ≤ g ∧ g < W.heap.size ∧ L.length ≤ maxLen ∧ CellsP W g 0 L := by
  obtain ⟨g, cap, e, h1, h2, h3, hc⟩ := h.cells hL
  refine ⟨g, cap, e, h1, h2, h3, fun k p hp => ?_⟩
  obtain ⟨x, y, z, c1, c2, c3, i1, i2, i3⟩ := hc k p hp
  obtain ⟨xa, xc, rfl, x1, x2, -⟩ := i1.at
  obtain ⟨ya, yc, rfl, y1, y2, -⟩ := i2.at
  obtain ⟨za, zc, rfl, z1, z2, -⟩ := i3.at
  exact ⟨xa, xc, ya, yc, za, zc, c1, c2, c3, x1, x2, y1, y2, z1, z2⟩
theorem OwnPl.below {n : Nat} {W W' : World} {B : Nat} {v : Value} {L : List Plc} (h : OwnPl n W B v L) (hb : Below W.heap.size W W') (hn : n ≤ W.heap.size) : OwnPl n W' B v L := by
  obtain ⟨vs, ho, hi⟩ := h
  exact ⟨vs, own_same ho (fun k hk => hb.block k (World.ownsRow.lt ho k hk).2), fun j x xs a b => (hi j x xs a b).below hb hn⟩

/-- What Places knows of the memory. -/
structure PL (w W : World) (a b : Mach) (la lb : ML) (v : Value) (L : List Plc) : Prop where
  bel : Below w.heap.size w W
  ka : Blk W w.heap.size 25 (mcells a la)
  kb : Blk W (w.heap.size + 1) 25 (mcells b lb)
  ow : OwnPl w.heap.size W (w.heap.size + 2) v L
  hB : w.heap.size + 2 ≤ W.heap.size
section
variable {w W : World} {a b : Mach} {la lb : ML} {v : Value} {L : List Plc}
theorem PL.below {W' : World} (h : PL w W a b la lb v L) (hb : Below W.heap.size W W') : PL w W' a b la lb v L :=
  ⟨h.bel.trans (hb.mono h.bel.size), h.ka.below hb h.ka.lt, h.kb.below hb h.kb.lt, h.ow.below hb h.bel.size, Nat.le_trans h.hB hb.size⟩
/-- One place more. -/
theorem PL.push {W2 W3 : World} {v' x y z : Value} {p : Plc} {vs : List Value} (h : PL w W a b la lb v L) (hW3 : Below W.heap.size W W3) (ho : W3.ownsRow (w.heap.size + 2) 132 3 v L.length vs) (hi : ∀ (j : Nat) (x : Value) (xs : List Int), vs[j]? = some x → (plcs L)[j]? = some xs → InnW w.heap.size W3 x xs) (hx : InnW w.heap.size W3 x p.1.1) (hy : InnW w.heap.size W3 y p.1.2) (hz : InnW w.heap.size W3 z p.2) (o1 : W2.ownsRow (w.heap.size + 2) 132 3 v' (L.length + 1) (vs ++ [x, y, z])) (g : W3.grownBy W2 v.ownBlock) :
    PL w W2 a b la lb v' (L ++ [p]) := by
  have h3 := h.below hW3
  have low : ∀ j, j < w.heap.size + 2 → W2.heap[j]? = W3.heap[j]? := fun j hj => g.block j (Nat.lt_of_lt_of_le hj h3.hB) (fun e => by have := (World.ownsRow.lt ho j e.symm).1; omega)
  have hty : ∀ (q : Nat) (cs : Array Value) (t : TypeId), t ≠ 132 → W3.heap[q]? = some (.cells cs t (0, 0)) → W2.heap[q]? = W3.heap[q]? := fun q cs t ht hq => g.block q (Array.getElem?_eq_some_iff.1 hq).1 (fun e => by
    obtain ⟨c2, h2⟩ := own_type ho e.symm
    rw [hq] at h2; cases h2; exact ht rfl)
  have kp : ∀ {y : Value} {ys : List Int}, InnW w.heap.size W3 y ys → InnW w.heap.size W2 y ys := fun hy => hy.kept g.size (fun j hj => low j (by omega)) (fun q cs hq => hty q cs _ (by decide) hq)
  refine ⟨h3.bel.grown g h3.bel.size (fun j hj => Nat.le_trans (by omega) (World.ownsRow.lt ho j hj).1), (low _ (by omega)).trans h3.ka, (low _ (by omega)).trans h3.kb, ?_, Nat.le_trans h3.hB g.size⟩
  have hl : vs.length = L.length * 3 := ho.1
  refine ⟨vs ++ [x, y, z], by rw [List.length_append]; exact o1, fun j u us e1 e2 => ?_⟩
  rw [plcs_append] at e2
  have hl2 := plcs_len L
  by_cases hj : j < L.length * 3
  · rw [List.getElem?_append_left (by omega)] at e1
    rw [List.getElem?_append_left (by omega)] at e2
    exact kp (hi j u us e1 e2)
  · rw [List.getElem?_append_right (by omega)] at e1 e2
    rw [hl] at e1
    rw [hl2] at e2
    generalize j - L.length * 3 = i at e1 e2
    have e2' : [p.1.1, p.1.2, p.2][i]? = some us := e2
    match i, e1, e2' with
    | 0, e1, e2 =>
      have q1 : x = u := by simpa using e1
      have q2 : p.1.1 = us := by simpa using e2
      rw [← q1, ← q2]; exact kp hx
    | 1, e1, e2 =>
      have q1 : y = u := by simpa using e1
      have q2 : p.1.2 = us := by simpa using e2
      rw [← q1, ← q2]; exact kp hy
    | 2, e1, e2 =>
      have q1 : z = u := by simpa using e1
      have q2 : p.2 = us := by simpa using e2
      rw [← q1, ← q2]; exact kp hz
    | i + 3, e1, e2 => simp at e1
end

/-- What Places hands back. -/
def PlcPost (w : World) (L : List Plc) (e : Ending) (w' : World) : Prop := ∃ v, e = .returned v ∧ OwnPl w.heap.size w' (w.heap.size + 2) v L ∧ Below w.heap.size w w'

end Go.Proofs.YtcbdjjkebpncmaaDoor
namespace Go.Proofs.YtcbdjjkebpncmaaDoor
open Go.RowKit
set_option linter.unusedVariables false

theorem getD_cons_succ' (y : Int) (r : List Int) (j : Nat) : (y :: r)[j + 1]?.getD 0 = r[j]?.getD 0 := by simp

theorem ins_put {x : Int} : ∀ {L : List Int} {p : Nat}, p ≤ L.length → (∀ j, j < p → L[j]?.getD 0 < x) → (p = L.length ∨ x < L[p]?.getD 0) → ins x L = L.take p ++ x :: L.drop p
  | [], p, hp, _, _ => by have : p = 0 := by simpa using hp
                          subst this; simp [ins]
  | y :: r, 0, _, _, h => by
    rcases h with h | h
    · simp at h
    · have h : x < y := by simpa using h
      simp only [ins, List.take_zero, List.drop_zero, List.nil_append]
      rw [if_neg (by omega), if_neg (by omega)]
  | y :: r, p + 1, hp, hl, h => by
    have h0 : y < x := by simpa using hl 0 (by omega)
    have := ins_put (x := x) (L := r) (p := p) (by simpa using hp) (fun j hj => by have := hl (j + 1) (by omega); rwa [getD_cons_succ'] at this) (by rcases h with h | h; left; simpa using h; right; rwa [getD_cons_succ'] at h)
    simp only [ins]
    rw [if_pos h0, this]
    simp
theorem ins_same {x : Int} : ∀ {L : List Int} {p : Nat}, p < L.length → (∀ j, j < p → L[j]?.getD 0 < x) → L[p]?.getD 0 = x → ins x L = L
  | [], p, hp, _, _ => by simp at hp
  | y :: r, 0, _, _, h => by
    have h : y = x := by simpa using h
    simp only [ins]
    rw [if_neg (by omega), if_pos h]
  | y :: r, p + 1, hp, hl, h => by
    have h0 : y < x := by simpa using hl 0 (by omega)
    have := ins_same (x := x) (L := r) (p := p) (by simpa using hp) (fun j hj => by have := hl (j + 1) (by omega); rwa [getD_cons_succ'] at this) (by rwa [getD_cons_succ'] at h)
    simp only [ins]
    rw [if_pos h0, this]

/-- The list with one place more, at c. -/
def gap (L : List Int) (c : Nat) (y : Int) : List Int := L.take c ++ y :: L.drop c

theorem gap_len {L : List Int} {c : Nat} {y : Int} (h : c ≤ L.length) : (gap L c y).length = L.length + 1 := by simp [gap]; omega
theorem gap_end (L : List Int) : L ++ [0] = gap L L.length 0 := by simp [gap]
theorem gap_at {L : List Int} {c : Nat} {y : Int} (h : c < L.length) : (gap L (c + 1) y)[c]?.getD 0 = L[c]?.getD 0 := by
  rw [gap, List.getElem?_append_left (by simp; omega), List.getElem?_take_of_lt (by omega)]
theorem gap_set {L : List Int} {c : Nat} {y x : Int} (h : c ≤ L.length) : (gap L c y).set c x = gap L c x := by
  rw [gap, gap, List.set_append_right _ _ (by simp; omega)]
  simp only [List.length_take]
  rw [show c - min c L.length = 0 by omega]; rfl
theorem gap_move {L : List Int} {c : Nat} {y : Int} (h : c < L.length) : (gap L (c + 1) y).set (c + 1) (L[c]?.getD 0) = gap L c (L[c]?.getD 0) := by
  rw [gap_set (by omega), gap, gap, List.take_add_one, List.getElem?_eq_getElem h]
  conv => rhs; rw [List.drop_eq_getElem_cons h]
  simp only [Option.toList_some, Option.getD_some, List.append_assoc, List.singleton_append]

theorem Own.cellAt {w : World} {B g n cap : Nat} {M : List Int} (h : Own w B (.slice (some ⟨g, 0, none⟩) n cap) M) {j : Nat} (hj : j < M.length) : w.cell? ⟨g, j, none⟩ = some (.int .i64 (M[j]?.getD 0)) ∧ w.frozen? ⟨g, j, none⟩ = false ∧ B ≤ g := by
  rcases h.cells_of with ⟨h0, _⟩ | ⟨g', cap', h0, hb, hg, hc, hf⟩
  · simp at h0
  · simp only [Value.slice.injEq, Option.some.injEq, Addr.mk.injEq, and_true] at h0
    obtain ⟨rfl, rfl, rfl⟩ := h0
    have := hc j hj
    rw [Nat.zero_add, List.getD_eq_getElem?_getD] at this
    exact ⟨this, hf j, hb⟩
theorem Own.stored {w : World} {B g n cap : Nat} {M : List Int} (h : Own w B (.slice (some ⟨g, 0, none⟩) n cap) M) (j : Nat) (x : Int) : Own (w.setCell ⟨g, j, none⟩ (.int .i64 x)) B (.slice (some ⟨g, 0, none⟩) n cap) (M.set j x) := by
  have hn : n = M.length := by
    rcases h.2 with ⟨h0, _⟩ | ⟨g', cap', cur, h0, _⟩
    · simp at h0
    · simp only [Value.slice.injEq] at h0; exact h0.2.1
  subst hn
  have := (World.ownsRow.stored h j (.int .i64 x)).1
  unfold Own
  rw [List.length_set, List.map_set]
  exact this
theorem Own.shape {w : World} {B : Nat} {v : Value} {M : List Int} (h : Own w B v M) (hp : 0 < M.length) : ∃ g cap, v = .slice (some ⟨g, 0, none⟩) M.length cap := by
  rcases h.cells_of with ⟨_, h0⟩ | ⟨g', cap', h0, _⟩
  · subst h0; simp at hp
  · exact ⟨g', cap', h0⟩

theorem srt_take {xs : List Int} {k : Nat} {x : Int} (h : k < xs.length) (hx : Hid (x = xs[k]?.getD 0)) : srt (xs.take (k + 1)) = ins x (srt (xs.take k)) := by
  have hx := hx.out
  rw [List.getElem?_eq_getElem h, Option.getD_some] at hx
  rw [List.take_add_one, List.getElem?_eq_getElem h, Option.toList_some, srt_snoc, hx]

set_option maxHeartbeats 2000000 in
set_option maxRecDepth 100000 in
theorem sorted_some (bx ox cx : Nat) (xs : List Int) (w : World) (hl : xs.length ≤ 17592186044416) (hbx : bx < w.heap.size) (hc : Cells w bx ox xs) :
    Calls Tryd.prog 68 #[.slice (some ⟨bx, ox, none⟩) xs.length cx] w fun e w' => ∃ v, e = .returned v ∧ Own w' w.heap.size v (srt xs) ∧ Below w.heap.size w w' := by
  obtain ⟨i0, hi, hz0, hz1, hz2⟩ := info_parts Tryd.infoInt
  go_enter Tryd.func68, Tryd.ntmps68
  go_wp2
  go_loopw [3, 4] (fun v i wr => ∃ k : Nat, k ≤ xs.length ∧ i = .int .i64 k ∧ Own wr w.heap.size v (srt (xs.take k)) ∧ Below w.heap.size w wr) (fun _ i _ => xs.length - (intOf i).toNat)
  case atStart => exact ⟨0, Nat.zero_le _, rfl, own_nil _ _, Below.refl _ _⟩
  case round =>
    obtain ⟨k, hk, rfl, hown, hbel⟩ := hrel
    by_cases hlt : k < xs.length
    · obtain ⟨x, HX, hcx0⟩ := hc.at hlt
      obtain ⟨wo, hwo⟩ : ∃ wo : World, wo = wr := ⟨_, rfl⟩
      subst hwo
      have hcx : wo.cell? ⟨bx, ox + k, none⟩ = some (.int .i64 x) := (hbel.cell (p := ⟨bx, ox + k, none⟩) hbx).trans hcx0
      have hcx00 := hcx0
      clear hcx0
      have hnext : Hid (srt (xs.take (k + 1)) = ins x (srt (xs.take k))) := srt_take hlt HX
      have hll : (srt (xs.take k)).length ≤ k := Nat.le_trans (srt_len _) (List.length_take_le _ _)
      generalize srt (xs.take k) = L at *
      obtain ⟨a, cap, rfl, hat, hlm⟩ := hown.at
      unfold maxLen at hlm
      go_wp2
      go_loopw [5] (fun i wr' => ∃ p q : Nat, p ≤ L.length ∧ i = .int .i64 p ∧ wr' = wo.drewN q ∧ Hid (∀ j, j < p → L[j]?.getD 0 < x)) (fun i _ => L.length - (intOf i).toNat)
      case atStart => exact ⟨0, 0, Nat.zero_le _, rfl, rfl, fun j hj => by omega⟩
      case round =>
        obtain ⟨p, q, hp, rfl, rfl, hlow⟩ := hrel
        by_cases hpl : p < L.length
        · rcases hat with h0 | ⟨b, off, rfl, hb, hca⟩
          · subst h0; simp at hpl
          · obtain ⟨y, HY, hcy⟩ := hca.at hpl
            by_cases c1 : y < x
            · have d : decide (y < x) = true := by simpa using c1
              go_wp2
              go_quiet (fail)
              go_wp2
              go_roundw
              case rel => exact ⟨p + 1, _, by omega, by go_num, rfl, fun j hj => by
                by_cases e : j = p
                · subst e; have := HY.out; omega
                · exact hlow.out j (by omega)⟩
              case measure => simp [intOf]; omega
            · have d : decide (y < x) = false := by simpa using c1
              go_wp2
              go_quiet (fail)
              go_wp2
              obtain ⟨Q, hQ⟩ : ∃ Q, (wo.drewN q).drewN nq = wo.drewN Q := ⟨_, World.drewN_drewN _ _ _⟩
              rw [hQ]
              clear hQ
              by_cases c2 : y = x
              · have HC : Hid (y = x) := c2
                have d2 : (y == x) = true := by simp [c2]
                clear c2
                have E2 : Hid (srt (xs.take (k + 1)) = L) := by show _ = _; rw [hnext.out]; exact ins_same hpl hlow.out (by rw [← HY.out]; exact HC.out)
                go_quiet (fail)
                go_wp2
                go_roundw
                case rel => exact ⟨k + 1, by omega, by go_num, by rw [E2.out]; exact hown.drewN _, below_drewN hbel _⟩
                case measure => simp [intOf]; omega
              · have d2 : (y == x) = false := by simp [c2]
                go_quiet (fail)
                obtain ⟨Q', hQ'⟩ : ∃ Q', (wo.drewN Q).drewN nq = wo.drewN Q' := ⟨_, World.drewN_drewN _ _ _⟩
                rw [hQ']
                clear hQ'
                have HE : Hid (p = L.length ∨ x < L[p]?.getD 0) := .inr (by have := HY.out; omega)
                obtain ⟨wq, hwq⟩ : ∃ wq : World, wq = wo.drewN Q' := ⟨_, rfl⟩
                have hown0 : Own wq w.heap.size (.slice (some ⟨b, off, none⟩) L.length cap) L := by rw [hwq]; exact hown.drewN Q'
                have hbelo : Below w.heap.size w wq := by rw [hwq]; exact below_drewN hbel _
                have hcxq : wq.cell? ⟨bx, ox + k, none⟩ = some (.int .i64 x) := by rw [hwq]; exact hcx
                rw [← hwq]
                clear hwq hown hbel hcx
                have hszo : w.heap.size ≤ wq.heap.size := hbelo.size
                have hbxq : bx < wq.heap.size := by omega
                go_wp2_with (at_builtin; refine wpList_append_own _ rfl _ _ 22 rfl w.heap.size 3 i0 (.int .i64 0) 1 8 Tryd.underlying22 hi hz0 hz1 hz2 rfl (by decide) _ _ _ rfl (World.ownsRow.alloc hown0 _) ⟨wq.heap.size, 0, none⟩ 1 1 [.int .i64 0] rfl rfl (cell_one_new _ _ _) (by intro u hu; simp at hu; subst hu; rfl) (by unfold maxLen; omega) (by omega) (by simp; omega) ?_)
                intro v' w1 hown' hgrow _
                obtain ⟨o1, o2, -⟩ := own_snoc hown0 hbelo hszo hown' hgrow
                clear hown' hgrow hown0 hcxq
                obtain ⟨g, cap', rfl⟩ := o1.shape (by simp)
                rw [List.length_append, List.length_singleton] at o1 ⊢
                rw [gap_end] at o1
                go_wp2
                go_loopw [6] (fun i wr' => ∃ (c : Nat) (z : Int), p ≤ c ∧ c ≤ L.length ∧ i = .int .i64 c ∧ Own wr' w.heap.size (.slice (some ⟨g, 0, none⟩) (L.length + 1) cap') (gap L c z) ∧ Below w.heap.size w wr') (fun i _ => (intOf i).toNat)
                case atStart => exact ⟨L.length, 0, hp, Nat.le_refl _, by go_num, o1, o2⟩
                case round =>
                  obtain ⟨c, z, hc1, hc2, rfl, ow, bw⟩ := hrel
                  clear o1 o2
                  by_cases hcp : p < c
                  · obtain ⟨e, rfl⟩ : ∃ e, c = e + 1 := ⟨c - 1, by omega⟩
                    have hgl := gap_len (y := z) hc2
                    obtain ⟨f1, f2, f3⟩ := ow.cellAt (j := e) (by omega)
                    obtain ⟨f4, f5, -⟩ := ow.cellAt (j := e + 1) (by omega)
                    rw [gap_at (by omega)] at f1
                    have ow' := ow.stored (e + 1) (L[e]?.getD 0)
                    rw [gap_move (by omega)] at ow'
                    have bw' := bw.setCell (p := ⟨g, e + 1, none⟩) f3 (.int .i64 (L[e]?.getD 0))
                    generalize L[e]?.getD 0 = u at *
                    generalize (gap L (e + 1) z)[e + 1]?.getD 0 = u' at *
                    clear ow
                    go_wp2
                    go_roundw
                    case rel => exact ⟨e, u, by omega, by omega, by go_num, ow', bw'⟩
                    case measure => simp [intOf]
                  · have hcp' : c = p := by omega
                    subst hcp'
                    have hgl := gap_len (y := z) hc2
                    obtain ⟨f1, f2, f3⟩ := ow.cellAt (j := c) (by omega)
                    have hcx2 : wr.cell? ⟨bx, ox + k, none⟩ = some (.int .i64 x) := (bw.cell (p := ⟨bx, ox + k, none⟩) hbx).trans hcx00
                    have ow' := ow.stored c x
                    rw [gap_set hc2, gap, ← ins_put hc2 hlow.out HE.out, ← hnext.out] at ow'
                    have bw' := bw.setCell (p := ⟨g, c, none⟩) f3 (.int .i64 x)
                    generalize (gap L c z)[c]?.getD 0 = u' at *
                    clear ow
                    go_wp2
                    go_roundw
                    case rel => exact ⟨k + 1, by omega, by go_num, ow', bw'⟩
                    case measure => simp [intOf]; omega
        · go_wp2
          go_quiet (fail)
          go_wp2
          obtain ⟨Q, hQ⟩ : ∃ Q, (wo.drewN q).drewN nq = wo.drewN Q := ⟨_, World.drewN_drewN _ _ _⟩
          rw [hQ]
          clear hQ
          go_quiet (fail)
          obtain ⟨Q', hQ'⟩ : ∃ Q', (wo.drewN Q).drewN nq = wo.drewN Q' := ⟨_, World.drewN_drewN _ _ _⟩
          rw [hQ']
          clear hQ'
          have HE : Hid (p = L.length ∨ x < L[p]?.getD 0) := .inl (by omega)
          obtain ⟨wq, hwq⟩ : ∃ wq : World, wq = wo.drewN Q' := ⟨_, rfl⟩
          have hown0 : Own wq w.heap.size (.slice a L.length cap) L := by rw [hwq]; exact hown.drewN Q'
          have hbelo : Below w.heap.size w wq := by rw [hwq]; exact below_drewN hbel _
          have hcxq : wq.cell? ⟨bx, ox + k, none⟩ = some (.int .i64 x) := by rw [hwq]; exact hcx
          rw [← hwq]
          clear hwq hown hbel hcx hat
          have hszo : w.heap.size ≤ wq.heap.size := hbelo.size
          have hbxq : bx < wq.heap.size := by omega
          go_wp2_with (at_builtin; refine wpList_append_own _ rfl _ _ 22 rfl w.heap.size 3 i0 (.int .i64 0) 1 8 Tryd.underlying22 hi hz0 hz1 hz2 rfl (by decide) _ _ _ rfl (World.ownsRow.alloc hown0 _) ⟨wq.heap.size, 0, none⟩ 1 1 [.int .i64 0] rfl rfl (cell_one_new _ _ _) (by intro u hu; simp at hu; subst hu; rfl) (by unfold maxLen; omega) (by omega) (by simp; omega) ?_)
          intro v' w1 hown' hgrow _
          obtain ⟨o1, o2, -⟩ := own_snoc hown0 hbelo hszo hown' hgrow
          clear hown' hgrow hown0 hcxq
          obtain ⟨g, cap', rfl⟩ := o1.shape (by simp)
          rw [List.length_append, List.length_singleton] at o1 ⊢
          rw [gap_end] at o1
          go_wp2
          go_loopw [6] (fun i wr' => ∃ (c : Nat) (z : Int), p ≤ c ∧ c ≤ L.length ∧ i = .int .i64 c ∧ Own wr' w.heap.size (.slice (some ⟨g, 0, none⟩) (L.length + 1) cap') (gap L c z) ∧ Below w.heap.size w wr') (fun i _ => (intOf i).toNat)
          case atStart => exact ⟨L.length, 0, hp, Nat.le_refl _, by go_num, o1, o2⟩
          case round =>
            obtain ⟨c, z, hc1, hc2, rfl, ow, bw⟩ := hrel
            clear o1 o2
            by_cases hcp : p < c
            · omega
            · have hcp' : c = p := by omega
              subst hcp'
              have hgl := gap_len (y := z) hc2
              obtain ⟨f1, f2, f3⟩ := ow.cellAt (j := c) (by omega)
              have hcx2 : wr.cell? ⟨bx, ox + k, none⟩ = some (.int .i64 x) := (bw.cell (p := ⟨bx, ox + k, none⟩) hbx).trans hcx00
              have ow' := ow.stored c x
              rw [gap_set hc2, gap, ← ins_put hc2 hlow.out HE.out, ← hnext.out] at ow'
              have bw' := bw.setCell (p := ⟨g, c, none⟩) f3 (.int .i64 x)
              generalize (gap L c z)[c]?.getD 0 = u' at *
              clear ow
              go_wp2
              go_roundw
              case rel => exact ⟨k + 1, by omega, by go_num, ow', bw'⟩
              case measure => simp [intOf]; omega
    · rw [List.take_of_length_le (by omega)] at hown
      go_wp2
      go_ret
      exact ⟨_, rfl, hown, hbel⟩

set_option maxHeartbeats 400000 in
theorem sorted_nil (a : Option Addr) (cx : Nat) (w : World) :
    Calls Tryd.prog 68 #[.slice a 0 cx] w fun e w' => e = .returned (.slice none 0 0) ∧ w' = w := by
  go_enter Tryd.func68, Tryd.ntmps68
  go_wp2
  refine wp_loop_rounds 1 ?_
  rw [rounds_succ]
  go_wp2
  go_ret
  exact ⟨rfl, rfl⟩

theorem sorted_any (a : Option Addr) (cx : Nat) (xs : List Int) (w : World) (hs : At w a xs) (hl : xs.length ≤ 17592186044416) :
    Calls Tryd.prog 68 #[.slice a xs.length cx] w fun e w' => Gives w (srt xs) e w' := by
  rcases hs with rfl | ⟨b, off, rfl, hb, hc⟩
  · refine (sorted_nil a cx w).mono ?_
    rintro e w' ⟨rfl, rfl⟩
    exact gives_of_own (B := w'.heap.size) (own_nil _ _) (Below.refl _ _)
  · refine (sorted_some b off cx xs w hl hb hc).mono ?_
    rintro e w' ⟨v, rfl, h1, h2⟩
    exact gives_of_own h1 h2

end Go.Proofs.YtcbdjjkebpncmaaDoor
namespace Go.Proofs.YtcbdjjkebpncmaaDoor
open Go.RowKit

theorem Own.low {w : World} {B B' : Nat} {v : Value} {xs : List Int} (h : Own w B v xs) (hB : B' ≤ B) : Own w B' v xs := by
  refine ⟨h.1, ?_⟩
  rcases h.2 with hn | ⟨g, cap, cur, e, hg, rest⟩
  · exact .inl hn
  · exact .inr ⟨g, cap, cur, e, Nat.le_trans hB hg, rest⟩
theorem GivesO.gives {w : World} {xs : List Int} {e : Ending} {w' : World} (h : GivesO w xs e w') : Gives w xs e w' := by
  obtain ⟨v, rfl, h1, h2⟩ := h
  exact gives_of_own h1 h2
theorem sorted_own (a : Option Addr) (cx : Nat) (xs : List Int) (w : World) (hs : At w a xs) (hl : xs.length ≤ 17592186044416) :
    Calls Tryd.prog 68 #[.slice a xs.length cx] w fun e w' => GivesO w (srt xs) e w' := by
  rcases hs with rfl | ⟨b, off, rfl, hb, hc⟩
  · refine (sorted_nil a cx w).mono ?_
    rintro e w' ⟨rfl, rfl⟩
    exact ⟨_, rfl, own_nil _ _, Below.refl _ _⟩
  · refine (sorted_some b off cx xs w hl hb hc).mono ?_
    rintro e w' ⟨v, rfl, h1, h2⟩
    exact ⟨v, rfl, h1, h2⟩

end Go.Proofs.YtcbdjjkebpncmaaDoor
