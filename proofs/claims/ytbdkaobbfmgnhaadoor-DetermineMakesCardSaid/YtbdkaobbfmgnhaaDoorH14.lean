/-
  Plain: the machine of sets: how its sets are found, in the reference's order; what is determined. No program, no model.
  Plain: the machine of sets may be, is determined, and accepts what the machine accepts; two ways to tell what is determined. No program, no model.
  Plain: sets of bits beside the lists that they stand for. No program, no model.
  Sets of states as keys of a map.
  A map from sets of states to numbers, as the model runs it: the numbers in the order in which the sets came.
  The walks of determine.meeting and determine.rows.
-/
import Derived.Test.YtbdkaobbfmgnhaaDoorH13
import Derived.Test.YtbdkaobbfmgnhaaDoorH04
import Derived.DeepKeys4
import Derived.Maps.Keyed
import Derived.Carry
import Derived.Test.YtbdkaobbfmgnhaaDoorH09
import Derived.Test.YtbdkaobbfmgnhaaDoorH05
import Derived.Test.YtbdkaobbfmgnhaaDoorDSetOps
namespace Go.Proofs.YtbdkaobbfmgnhaaDoor
open Go.RowKit
set_option linter.unusedVariables false

/-- A set's place; as many as there are: it is new. -/
def findL : List (List Int) → List Int → Nat
  | [], _ => 0
  | a :: r, s => if a = s then 0 else findL r s + 1
theorem findL_le : ∀ (L : List (List Int)) (s : List Int), findL L s ≤ L.length
  | [], _ => Nat.le_refl _
  | a :: r, s => by
    have := findL_le r s
    unfold findL; split <;> simp <;> omega
theorem findL_get : ∀ {L : List (List Int)} {s : List Int}, findL L s < L.length → L[findL L s]? = some s
  | [], _, h => by simp [findL] at h
  | a :: r, s, h => by
    unfold findL at h ⊢
    by_cases e : a = s
    · rw [if_pos e]; simp [e]
    · rw [if_neg e] at h ⊢
      have : findL r s < r.length := by simp at h; omega
      simpa using findL_get this
theorem findL_new : ∀ {L : List (List Int)} {s : List Int}, findL L s = L.length ↔ s ∉ L
  | [], s => by simp [findL]
  | a :: r, s => by
    unfold findL
    by_cases e : a = s
    · rw [if_pos e]; simp [e]
    · rw [if_neg e]
      have := findL_new (L := r) (s := s)
      simp only [List.length_cons, Nat.add_right_cancel_iff, List.mem_cons, not_or]
      rw [this]
      exact ⟨fun h => ⟨fun h' => e h'.symm, h⟩, fun h => h.2⟩
theorem findL_at : ∀ {L : List (List Int)} {k : Nat} {s : List Int}, L.Nodup → L[k]? = some s → findL L s = k
  | [], k, s, _, h => by simp at h
  | a :: r, 0, s, _, h => by
    have : a = s := by simpa using h
    simp [findL, this]
  | a :: r, k + 1, s, hn, h => by
    have h : r[k]? = some s := by simpa using h
    have h1 : a ≠ s := fun e => (List.nodup_cons.1 hn).1 (by rw [e]; exact List.mem_of_getElem? h)
    unfold findL
    rw [if_neg h1, findL_at (List.nodup_cons.1 hn).2 h]

/-- What has been found: the sets, the arrows. -/
structure DS where
  sets : List (List Int)
  ar : List Arr
/-- One event more, at the set k. -/
def dStep (ars : List Arr) (k : Nat) (s : DS) (e : Nat) : DS :=
  ⟨if findL s.sets (stepL ars (s.sets[k]?.getD []) (e : Int)) = s.sets.length then s.sets ++ [stepL ars (s.sets[k]?.getD []) (e : Int)] else s.sets, s.ar ++ [⟨(k : Int), (e : Int), (findL s.sets (stepL ars (s.sets[k]?.getD []) (e : Int)) : Nat)⟩]⟩
def dRow (ars : List Arr) (k : Nat) (s : DS) (n : Nat) : DS := (List.range n).foldl (dStep ars k) s
theorem dRow_zero (ars : List Arr) (k : Nat) (s : DS) : dRow ars k s 0 = s := rfl
theorem dRow_succ (ars : List Arr) (k : Nat) (s : DS) (n : Nat) : dRow ars k s (n + 1) = dStep ars k (dRow ars k s n) n := by
  unfold dRow; rw [List.range_succ, List.foldl_append]; rfl
def dGo (ars : List Arr) (ev : Nat) : Nat → Nat → DS → Option DS
  | 0, _, s => some s
  | f + 1, k, s => if k < s.sets.length then (if 256 < (dRow ars k s ev).sets.length then none else dGo ars ev f (k + 1) (dRow ars k s ev)) else some s
def detS (m : Mach) : Option DS := dGo m.arrows m.ev.toNat 257 0 ⟨[m.starts], []⟩
/-- The numbers of the sets that have an end. -/
def endsFrom (ends : List Int) : Nat → List (List Int) → List Int
  | _, [] => []
  | k, a :: r => if 0 < (a.filter fun n => hasB ends n == true).length then (k : Int) :: endsFrom ends (k + 1) r else endsFrom ends (k + 1) r
theorem endsFrom_cons (ends : List Int) (k : Nat) (a : List Int) (r : List (List Int)) : endsFrom ends k (a :: r) = if 0 < (a.filter fun n => hasB ends n == true).length then (k : Int) :: endsFrom ends (k + 1) r else endsFrom ends (k + 1) r := rfl
def endsD (ends : List Int) (sets : List (List Int)) : List Int := endsFrom ends 0 sets
def detM (m : Mach) (s : DS) : Mach := ⟨s.sets.length, m.ev, [0], s.ar, endsD m.ends s.sets⟩

theorem endsFrom_snoc (ends : List Int) : ∀ (L : List (List Int)) (k : Nat) (a : List Int), endsFrom ends k (L ++ [a]) = endsFrom ends k L ++ (if 0 < (a.filter fun n => hasB ends n == true).length then [((k + L.length : Nat) : Int)] else [])
  | [], k, a => by simp only [List.nil_append, endsFrom, List.length_nil, Nat.add_zero]
  | b :: r, k, a => by
    rw [List.cons_append]
    unfold endsFrom
    rw [endsFrom_snoc ends r (k + 1) a, List.length_cons, show k + 1 + r.length = k + (r.length + 1) by omega]
    by_cases h : 0 < (b.filter fun n => hasB ends n == true).length
    · rw [if_pos h, if_pos h, List.cons_append]
    · rw [if_neg h, if_neg h]
theorem endsD_take {ends : List Int} {L : List (List Int)} {k : Nat} {a : List Int} (h : L[k]? = some a) : endsD ends (L.take (k + 1)) = if 0 < (a.filter fun n => hasB ends n == true).length then endsD ends (L.take k) ++ [(k : Int)] else endsD ends (L.take k) := by
  have hk := (List.getElem?_eq_some_iff.1 h).1
  have e : L.take (k + 1) = L.take k ++ [a] := by rw [List.take_add_one, h]; rfl
  unfold endsD
  rw [e, endsFrom_snoc, List.length_take, Nat.min_eq_left (by omega), Nat.zero_add]
  split
  · rfl
  · rw [List.append_nil]
theorem endsFrom_len (ends : List Int) : ∀ (k : Nat) (L : List (List Int)), (endsFrom ends k L).length ≤ L.length
  | _, [] => Nat.le_refl _
  | k, a :: r => by
    have := endsFrom_len ends (k + 1) r
    unfold endsFrom; split <;> simp <;> omega
theorem mem_endsFrom (ends : List Int) : ∀ (L : List (List Int)) (k : Nat) (x : Int), x ∈ endsFrom ends k L ↔ ∃ j a, L[j]? = some a ∧ x = ((k + j : Nat) : Int) ∧ ∃ y ∈ a, y ∈ ends
  | [], k, x => by simp [endsFrom]
  | b :: r, k, x => by
    have hpos : 0 < (b.filter fun n => hasB ends n == true).length ↔ ∃ y ∈ b, y ∈ ends := by
      rw [List.length_pos_iff_exists_mem]
      constructor
      · rintro ⟨y, hy⟩
        obtain ⟨h1, h2⟩ := List.mem_filter.1 hy
        exact ⟨y, h1, (hasB_iff _ _).1 (by simpa using h2)⟩
      · rintro ⟨y, h1, h2⟩
        exact ⟨y, List.mem_filter.2 ⟨h1, by simpa using (hasB_iff _ _).2 h2⟩⟩
    have ih := mem_endsFrom ends r (k + 1) x
    have hr : (∃ j a, (b :: r)[j]? = some a ∧ x = ((k + j : Nat) : Int) ∧ ∃ y ∈ a, y ∈ ends) ↔ (x = (k : Int) ∧ ∃ y ∈ b, y ∈ ends) ∨ (∃ j a, r[j]? = some a ∧ x = ((k + 1 + j : Nat) : Int) ∧ ∃ y ∈ a, y ∈ ends) := by
      constructor
      · rintro ⟨j, a, h1, h2, h3⟩
        rcases j with _ | j
        · have e : b = a := by simpa using h1
          subst e
          exact .inl ⟨by simpa using h2, h3⟩
        · exact .inr ⟨j, a, by simpa using h1, by rw [h2]; congr 1; omega, h3⟩
      · rintro (⟨h1, h2⟩ | ⟨j, a, h1, h2, h3⟩)
        · exact ⟨0, b, rfl, by simpa using h1, h2⟩
        · exact ⟨j + 1, a, by simpa using h1, by rw [h2]; congr 1; omega, h3⟩
    rw [hr, ← ih, endsFrom_cons]
    by_cases h : 0 < (b.filter fun n => hasB ends n == true).length
    · rw [if_pos h, List.mem_cons]
      have := hpos.1 h
      constructor
      · rintro (h1 | h1)
        · exact .inl ⟨h1, this⟩
        · exact .inr h1
      · rintro (h1 | h1)
        · exact .inl h1.1
        · exact .inr h1
    · rw [if_neg h]
      constructor
      · exact .inr
      · rintro (h1 | h1)
        · exact absurd (hpos.2 h1.2) h
        · exact h1
theorem inc_endsFrom (ends : List Int) : ∀ (L : List (List Int)) (k : Nat), Inc (endsFrom ends k L)
  | [], k => by simp [endsFrom, Inc]
  | b :: r, k => by
    unfold endsFrom
    split
    · rw [Inc, List.pairwise_cons]
      refine ⟨fun x hx => ?_, inc_endsFrom ends r (k + 1)⟩
      obtain ⟨j, a, -, h2, -⟩ := (mem_endsFrom ends r (k + 1) x).1 hx
      omega
    · exact inc_endsFrom ends r (k + 1)

/-! What is found only grows. -/
theorem dStep_pre (ars : List Arr) (k : Nat) (s : DS) (e : Nat) : ∃ t, (dStep ars k s e).sets = s.sets ++ t ∧ t.length ≤ 1 := by
  unfold dStep
  dsimp only
  split
  · exact ⟨_, rfl, by simp⟩
  · exact ⟨[], by simp, by simp⟩
theorem dRow_pre (ars : List Arr) (k : Nat) (s : DS) : ∀ n, ∃ t, (dRow ars k s n).sets = s.sets ++ t ∧ t.length ≤ n
  | 0 => ⟨[], by simp [dRow_zero], by simp⟩
  | n + 1 => by
    obtain ⟨t, h1, h2⟩ := dRow_pre ars k s n
    obtain ⟨u, h3, h4⟩ := dStep_pre ars k (dRow ars k s n) n
    exact ⟨t ++ u, by rw [dRow_succ, h3, h1, List.append_assoc], by rw [List.length_append]; omega⟩
theorem dRow_mono (ars : List Arr) (k : Nat) (s : DS) (n : Nat) : ∀ j, (dRow ars k s n).sets.length ≤ (dRow ars k s (n + j)).sets.length
  | 0 => Nat.le_refl _
  | j + 1 => by
    have := dRow_mono ars k s n j
    obtain ⟨u, h3, h4⟩ := dStep_pre ars k (dRow ars k s (n + j)) (n + j)
    rw [← Nat.add_assoc, dRow_succ, h3, List.length_append]; omega
theorem dGo_none {ars : List Arr} {ev f k : Nat} {s : DS} (hk : k < s.sets.length) (hB : 256 < (dRow ars k s ev).sets.length) (hf : 0 < f) : dGo ars ev f k s = none := by
  obtain ⟨g, rfl⟩ : ∃ g, f = g + 1 := ⟨f - 1, by omega⟩
  rw [dGo, if_pos hk, if_pos hB]
theorem dGo_next {ars : List Arr} {ev f k : Nat} {s : DS} (hk : k < s.sets.length) (hB : ¬ 256 < (dRow ars k s ev).sets.length) (hf : 0 < f) : dGo ars ev f k s = dGo ars ev (f - 1) (k + 1) (dRow ars k s ev) := by
  obtain ⟨g, rfl⟩ : ∃ g, f = g + 1 := ⟨f - 1, by omega⟩
  rw [dGo, if_pos hk, if_neg hB]; rfl
theorem dGo_end {ars : List Arr} {ev f k : Nat} {s : DS} (hk : ¬ k < s.sets.length) : dGo ars ev f k s = some s := by
  cases f with
  | zero => rfl
  | succ g => rw [dGo, if_neg hk]

/-! What holds of what is found. -/
structure DI (m : Mach) (ev : Nat) (n : Nat) (s : DS) : Prop where
  nd : s.sets.Nodup
  hd : s.sets[0]? = some m.starts
  inc : ∀ l ∈ s.sets, Inc l ∧ ∀ x ∈ l, 0 ≤ x ∧ x < m.st
  len : s.ar.length = n
  ar : ∀ i, i < n → ∃ f e t : Nat, ∃ l, s.ar[i]? = some ⟨(f : Int), (e : Int), (t : Int)⟩ ∧ f * ev + e = i ∧ e < ev ∧ s.sets[f]? = some l ∧ s.sets[t]? = some (stepL m.arrows l (e : Int))
theorem DI.pos {m : Mach} {ev n : Nat} {s : DS} (h : DI m ev n s) : 0 < s.sets.length := (List.getElem?_eq_some_iff.1 h.hd).1
theorem stepIn {m : Mach} (hm : mayB m = true) (ss : List Int) (e : Int) : Inc (stepL m.arrows ss e) ∧ ∀ x ∈ stepL m.arrows ss e, 0 ≤ x ∧ x < m.st := by
  refine ⟨inc_srt _, fun x hx => ?_⟩
  obtain ⟨a, ha, -, -, rfl⟩ := (mem_stepL _ _ _ _).1 hx
  have := may_arrs hm a ha
  exact ⟨this.2.2.1, this.2.2.2.1⟩
theorem di_step {m : Mach} (hm : mayB m = true) {ev k e : Nat} {s : DS} (h : DI m ev (k * ev + e) s) (hk : k < s.sets.length) (he : e < ev) : DI m ev (k * ev + (e + 1)) (dStep m.arrows k s e) := by
  obtain ⟨l, hl⟩ : ∃ l, s.sets[k]? = some l := ⟨_, List.getElem?_eq_getElem hk⟩
  obtain ⟨to, hto⟩ : ∃ to, to = stepL m.arrows l (e : Int) := ⟨_, rfl⟩
  have e1 : dStep m.arrows k s e = ⟨if findL s.sets to = s.sets.length then s.sets ++ [to] else s.sets, s.ar ++ [⟨(k : Int), (e : Int), (findL s.sets to : Nat)⟩]⟩ := by
    unfold dStep; rw [hl, Option.getD_some, ← hto]
  have hin := stepIn hm l (e : Int)
  rw [← hto] at hin
  have hlk : ∀ (j : Nat) (x : List Int), s.sets[j]? = some x → (if findL s.sets to = s.sets.length then s.sets ++ [to] else s.sets)[j]? = some x := by
    intro j x hj
    split
    · rw [List.getElem?_append_left (List.getElem?_eq_some_iff.1 hj).1]; exact hj
    · exact hj
  have hnew : (if findL s.sets to = s.sets.length then s.sets ++ [to] else s.sets)[findL s.sets to]? = some to := by
    have := findL_le s.sets to
    split
    · rename_i h1
      rw [h1, List.getElem?_append_right (Nat.le_refl _)]; simp
    · exact findL_get (by omega)
  rw [e1]
  refine ⟨?_, hlk 0 _ h.hd, ?_, ?_, ?_⟩
  · dsimp only
    split
    · rename_i h1
      rw [List.nodup_append]
      exact ⟨h.nd, by simp, fun x hx y hy e => by simp at hy; subst hy; subst e; exact findL_new.1 h1 hx⟩
    · exact h.nd
  · dsimp only
    intro x hx
    split at hx
    · rcases List.mem_append.1 hx with hx | hx
      · exact h.inc x hx
      · have : x = to := by simpa using hx
        rw [this]; exact hin
    · exact h.inc x hx
  · simp only [List.length_append, List.length_cons, List.length_nil, h.len]; omega
  · intro i hi
    by_cases hlt : i < k * ev + e
    · obtain ⟨f, e', t, l', h1, h2, h3, h4, h5⟩ := h.ar i hlt
      exact ⟨f, e', t, l', by rw [List.getElem?_append_left (by rw [h.len]; exact hlt)]; exact h1, h2, h3, hlk _ _ h4, hlk _ _ h5⟩
    · have hi' : i = k * ev + e := by omega
      refine ⟨k, e, findL s.sets to, l, ?_, hi'.symm, he, hlk _ _ hl, by rw [← hto]; exact hnew⟩
      rw [List.getElem?_append_right (by rw [h.len]; omega), h.len, hi']; simp
theorem di_row {m : Mach} (hm : mayB m = true) {ev k : Nat} {s : DS} (h : DI m ev (k * ev) s) (hk : k < s.sets.length) : ∀ n, n ≤ ev → DI m ev (k * ev + n) (dRow m.arrows k s n)
  | 0, _ => h
  | n + 1, hn => by
    rw [dRow_succ]
    obtain ⟨t, ht, -⟩ := dRow_pre m.arrows k s n
    exact di_step hm (di_row hm h hk n (by omega)) (by rw [ht, List.length_append]; omega) (by omega)
theorem di_go {m : Mach} (hm : mayB m = true) {ev : Nat} : ∀ (f k : Nat) (s s' : DS), DI m ev (k * ev) s → k ≤ s.sets.length → s.sets.length ≤ 256 → 257 ≤ f + k → dGo m.arrows ev f k s = some s' → DI m ev (s'.sets.length * ev) s' ∧ s'.sets.length ≤ 256
  | 0, k, s, s', h, hk, h256, hf, e => by omega
  | f + 1, k, s, s', h, hk, h256, hf, e => by
    rw [dGo] at e
    by_cases hlt : k < s.sets.length
    · rw [if_pos hlt] at e
      by_cases hB : 256 < (dRow m.arrows k s ev).sets.length
      · rw [if_pos hB] at e; cases e
      · rw [if_neg hB] at e
        obtain ⟨t, ht, -⟩ := dRow_pre m.arrows k s ev
        refine di_go hm f (k + 1) _ s' ?_ (by rw [ht, List.length_append]; omega) (by omega) (by omega) e
        have := di_row hm h hlt ev (Nat.le_refl _)
        rw [Nat.succ_mul]; exact this
    · rw [if_neg hlt] at e
      have e := Option.some.inj e
      subst e
      have : k = s.sets.length := by omega
      rw [← this]
      exact ⟨h, by omega⟩
theorem di_start {m : Mach} (hm : mayB m = true) (ev : Nat) : DI m ev (0 * ev) ⟨[m.starts], []⟩ := by
  refine ⟨by simp, rfl, fun l hl => ?_, by simp, fun i hi => by omega⟩
  have : l = m.starts := by simpa using hl
  rw [this]; exact may_starts hm
theorem detS_di {m : Mach} (hm : mayB m = true) {s : DS} (h : detS m = some s) : DI m m.ev.toNat (s.sets.length * m.ev.toNat) s ∧ s.sets.length ≤ 256 :=
  di_go hm 257 0 _ s (di_start hm _) (by simp) (by simp) (by omega) h

end Go.Proofs.YtbdkaobbfmgnhaaDoor
namespace Go.Proofs.YtbdkaobbfmgnhaaDoor
open Go.RowKit
set_option linter.unusedVariables false

/-! Two ways to tell what is determined. -/
/-- Has each arrow its place? -/
def goD (ev : Int) : Nat → List Arr → Bool
  | _, [] => true
  | i, a :: r => if a.f * ev + a.e = (i : Int) then goD ev (i + 1) r else false
/-- How many arrows there are, from a state at an event. -/
def cntL (ars : List Arr) (s e : Int) : Nat := (ars.filter fun a => decide (a.f = s) && decide (a.e = e)).length
def oneRow (ars : List Arr) (s : Nat) (n : Nat) : Bool := (List.range n).all fun e => decide (cntL ars (s : Int) (e : Int) = 1)
def allOne (ars : List Arr) (ev n : Nat) : Bool := (List.range n).all fun s => oneRow ars s ev
/-- Is a machine determined? (F1.) -/
def detB (m : Mach) : Bool := mayB m && (decide (m.starts.length = 1) && (decide ((m.arrows.length : Int) = m.st * m.ev) && goD m.ev 0 m.arrows))

def codeN (ev : Nat) (a : Arr) : Nat := a.f.toNat * ev + a.e.toNat
theorem code_eq {ev : Nat} {a : Arr} (h0 : 0 ≤ a.f) (h1 : 0 ≤ a.e) : a.f * (ev : Int) + a.e = (codeN ev a : Nat) := by
  unfold codeN
  rw [Int.natCast_add, Int.natCast_mul, Int.toNat_of_nonneg h0, Int.toNat_of_nonneg h1]
theorem goD_iff (ev : Nat) : ∀ (ars : List Arr) (i : Nat), (∀ a ∈ ars, 0 ≤ a.f ∧ 0 ≤ a.e) → (goD (ev : Int) i ars = true ↔ ars.map (codeN ev) = List.range' i ars.length)
  | [], i, _ => by simp [goD]
  | a :: r, i, h => by
    have ha := h a (by simp)
    have ih := goD_iff ev r (i + 1) (fun b hb => h b (by simp [hb]))
    unfold goD
    rw [code_eq ha.1 ha.2, List.map_cons, List.length_cons, List.range'_succ, List.cons.injEq]
    by_cases e : codeN ev a = i
    · rw [if_pos (by rw [e]), ih]
      exact ⟨fun h => ⟨e, h⟩, fun h => h.2⟩
    · rw [if_neg (by omega)]
      exact ⟨fun h => absurd h (by simp), fun h => absurd h.1 e⟩
theorem code_lt {ev : Nat} {f e f' e' : Nat} (h : e < ev) (h' : e' < ev) : f * ev + e < f' * ev + e' ↔ f < f' ∨ (f = f' ∧ e < e') := by
  constructor
  · intro hl
    rcases Nat.lt_trichotomy f f' with h1 | h1 | h1
    · exact .inl h1
    · subst h1; exact .inr ⟨rfl, by omega⟩
    · have : (f' + 1) * ev ≤ f * ev := Nat.mul_le_mul_right _ h1
      rw [Nat.add_mul] at this; omega
  · rintro (h1 | ⟨rfl, h1⟩)
    · have : (f + 1) * ev ≤ f' * ev := Nat.mul_le_mul_right _ h1
      rw [Nat.add_mul] at this; omega
    · omega
theorem code_inj {ev : Nat} {f e f' e' : Nat} (h : e < ev) (h' : e' < ev) (he : f * ev + e = f' * ev + e') : f = f' ∧ e = e' := by
  have h1 := (code_lt (f := f) (f' := f') h h')
  have h2 := (code_lt (f := f') (f' := f) h' h)
  constructor
  · rcases Nat.lt_trichotomy f f' with h3 | h3 | h3
    · have := h1.2 (.inl h3); omega
    · exact h3
    · have := h2.2 (.inl h3); omega
  · rcases Nat.lt_trichotomy f f' with h3 | h3 | h3
    · have := h1.2 (.inl h3); omega
    · subst h3; omega
    · have := h2.2 (.inl h3); omega
theorem code_bd {st ev : Nat} {f e : Nat} (hf : f < st) (he : e < ev) : f * ev + e < st * ev := by
  have : (f + 1) * ev ≤ st * ev := Nat.mul_le_mul_right _ hf
  rw [Nat.add_mul] at this; omega
theorem code_of {st ev i : Nat} (h : i < st * ev) : i / ev < st ∧ i % ev < ev ∧ i / ev * ev + i % ev = i := by
  have hev : 0 < ev := Nat.pos_of_ne_zero fun e => by subst e; simp at h
  refine ⟨Nat.div_lt_of_lt_mul (by rw [Nat.mul_comm]; exact h), Nat.mod_lt _ hev, ?_⟩
  rw [Nat.mul_comm]; exact Nat.div_add_mod i ev
theorem cnt_code {ev s e : Nat} (he : e < ev) : ∀ {ars : List Arr}, (∀ a ∈ ars, 0 ≤ a.f ∧ 0 ≤ a.e ∧ a.e < (ev : Int)) → cntL ars (s : Int) (e : Int) = (ars.map (codeN ev)).count (s * ev + e)
  | [], _ => rfl
  | a :: r, h => by
    have ha := h a (by simp)
    have ih := cnt_code (ev := ev) (s := s) he (ars := r) (fun b hb => h b (by simp [hb]))
    have hk : (decide (a.f = (s : Int)) && decide (a.e = (e : Int))) = (codeN ev a == s * ev + e) := by
      rw [Bool.eq_iff_iff, Bool.and_eq_true, decide_eq_true_eq, decide_eq_true_eq, beq_iff_eq]
      unfold codeN
      constructor
      · rintro ⟨h1, h2⟩; rw [h1, h2]; simp
      · intro h1
        have := code_inj (f := a.f.toNat) (e := a.e.toNat) (by omega) he h1
        omega
    unfold cntL at ih ⊢
    rw [List.filter_cons, List.map_cons, List.count_cons, hk, ← ih]
    split <;> simp
theorem count_range' (n : Nat) : ∀ (N i : Nat), i ≤ n → n < i + N → (List.range' i N).count n = 1
  | 0, i, h, h' => by omega
  | N + 1, i, h, h' => by
    rw [List.range'_succ, List.count_cons]
    by_cases e : i = n
    · subst e
      have : List.count i (List.range' (i + 1) N) = 0 := List.count_eq_zero.2 (by rw [List.mem_range'_1]; omega)
      rw [this]; simp
    · rw [count_range' n N (i + 1) (by omega) (by omega)]; simp [e]
theorem pairwise_codes {ev : Nat} : ∀ {ars : List Arr}, (∀ a ∈ ars, 0 ≤ a.f ∧ 0 ≤ a.e ∧ a.e < (ev : Int)) → IncA ars → (∀ n, (ars.map (codeN ev)).count n ≤ 1) → (ars.map (codeN ev)).Pairwise (· < ·)
  | [], _, _, _ => by simp
  | a :: r, h, hi, hc => by
    have ha := h a (by simp)
    rw [IncA, List.pairwise_cons] at hi
    rw [List.map_cons, List.pairwise_cons]
    refine ⟨fun n hn => ?_, pairwise_codes (fun b hb => h b (by simp [hb])) hi.2 (fun n => ?_)⟩
    · obtain ⟨b, hb, rfl⟩ := List.mem_map.1 hn
      have hb' := h b (by simp [hb])
      have hl := (aheadB_iff a b).1 (hi.1 b hb)
      have hne : codeN ev a ≠ codeN ev b := by
        intro e
        have h1 := hc (codeN ev a)
        rw [List.map_cons, List.count_cons_self] at h1
        have h2 : 0 < (r.map (codeN ev)).count (codeN ev a) := List.count_pos_iff.2 (by rw [e]; exact List.mem_map_of_mem hb)
        omega
      have hle : codeN ev a ≤ codeN ev b := by
        unfold codeN
        rcases hl with h1 | ⟨h1, h2⟩
        · have := (code_lt (f := a.f.toNat) (e := a.e.toNat) (f' := b.f.toNat) (e' := b.e.toNat) (ev := ev) (by omega) (by omega)).2 (.inl (by omega))
          omega
        · rw [h1]; omega
      omega
    · have := hc n
      rw [List.map_cons, List.count_cons] at this
      omega
theorem det_same {st ev : Nat} {ars : List Arr} (hin : ∀ a ∈ ars, arrIn (st : Int) (ev : Int) a) (hi : IncA ars) : (decide ((ars.length : Int) = (st : Int) * (ev : Int)) && goD (ev : Int) 0 ars) = allOne ars ev st := by
  have h1 : ∀ a ∈ ars, 0 ≤ a.f ∧ 0 ≤ a.e ∧ a.e < (ev : Int) := fun a ha => by have := hin a ha; unfold arrIn at this; omega
  have hmem : allOne ars ev st = true ↔ ∀ s, s < st → ∀ e, e < ev → cntL ars (s : Int) (e : Int) = 1 := by
    unfold allOne oneRow
    simp only [List.all_eq_true, List.mem_range, decide_eq_true_eq]
  rw [Bool.eq_iff_iff, Bool.and_eq_true, decide_eq_true_eq, goD_iff ev ars 0 (fun a ha => ⟨(h1 a ha).1, (h1 a ha).2.1⟩), hmem]
  constructor
  · rintro ⟨hl, hc⟩ s hs e he
    have hl : ars.length = st * ev := by rw [← Int.natCast_mul] at hl; omega
    rw [cnt_code he h1, hc]
    exact count_range' _ _ _ (by omega) (by rw [hl]; have := code_bd hs he; omega)
  · intro hall
    have hcl : ∀ n ∈ ars.map (codeN ev), n < st * ev := by
      intro n hn
      obtain ⟨a, ha, rfl⟩ := List.mem_map.1 hn
      have := hin a ha
      unfold arrIn at this
      exact code_bd (by omega) (by omega)
    have hc1 : ∀ n, n < st * ev → (ars.map (codeN ev)).count n = 1 := by
      intro n hn
      obtain ⟨k1, k2, k3⟩ := code_of hn
      have := hall _ k1 _ k2
      rw [cnt_code k2 h1, k3] at this
      exact this
    have hpw := pairwise_codes h1 hi (fun n => by
      by_cases hn : n < st * ev
      · rw [hc1 n hn]; exact Nat.le_refl _
      · rw [List.count_eq_zero.2 (fun hm => hn (hcl n hm))]; omega)
    have hr : ars.map (codeN ev) = List.range (st * ev) := natInc_ext hpw List.pairwise_lt_range (fun x => by
      rw [List.mem_range]
      exact ⟨hcl x, fun hx => List.count_pos_iff.1 (by rw [hc1 x hx]; omega)⟩)
    have hl : ars.length = st * ev := by have := congrArg List.length hr; simpa using this
    exact ⟨by rw [hl, Int.natCast_mul], by rw [hr, hl, List.range_eq_range']⟩

/-! The machine of sets. -/
section
variable {m : Mach} {s : DS}
theorem det_arr (hm : mayB m = true) (h : detS m = some s) {a : Arr} (ha : a ∈ s.ar) : ∃ (i f e t : Nat) (l : List Int), s.ar[i]? = some a ∧ a = ⟨(f : Int), (e : Int), (t : Int)⟩ ∧ f * m.ev.toNat + e = i ∧ e < m.ev.toNat ∧ s.sets[f]? = some l ∧ s.sets[t]? = some (stepL m.arrows l (e : Int)) := by
  obtain ⟨hd, -⟩ := detS_di hm h
  obtain ⟨i, hi⟩ := List.mem_iff_getElem?.1 ha
  have hlt := (List.getElem?_eq_some_iff.1 hi).1
  rw [hd.len] at hlt
  obtain ⟨f, e, t, l, h1, h2, h3, h4, h5⟩ := hd.ar i hlt
  rw [hi] at h1
  exact ⟨i, f, e, t, l, hi, Option.some.inj h1, h2, h3, h4, h5⟩
theorem det_inc (hm : mayB m = true) (h : detS m = some s) : IncA s.ar := by
  obtain ⟨hd, -⟩ := detS_di hm h
  rw [IncA, List.pairwise_iff_getElem]
  intro i j hi hj hij
  obtain ⟨f, e, t, l, h1, h2, h3, -, -⟩ := hd.ar i (by rw [← hd.len]; exact hi)
  obtain ⟨f', e', t', l', k1, k2, k3, -, -⟩ := hd.ar j (by rw [← hd.len]; exact hj)
  rw [List.getElem?_eq_getElem hi] at h1
  rw [List.getElem?_eq_getElem hj] at k1
  rw [Option.some.inj h1, Option.some.inj k1]
  refine (aheadB_iff _ _).2 ?_
  dsimp only
  rcases (code_lt h3 k3 (f := f) (f' := f')).1 (by omega) with h4 | ⟨h4, h5⟩
  · exact .inl (by omega)
  · exact .inr ⟨by omega, .inl (by omega)⟩
theorem may_det (hm : mayB m = true) (h : detS m = some s) : mayB (detM m s) = true := by
  have hm' := mayB_size hm
  unfold sizeOk at hm'
  obtain ⟨hd, h256⟩ := detS_di hm h
  have hp := hd.pos
  have he8 : m.ev.toNat ≤ 8 := by omega
  have hlen : s.ar.length ≤ 256 * 8 := by rw [hd.len]; exact Nat.mul_le_mul h256 he8
  rw [mayB_go (m := detM m s) ⟨by show (1 : Int) ≤ s.sets.length; omega, by show (s.sets.length : Int) ≤ 256; omega, hm'.2.2.1, hm'.2.2.2.1, by show s.ar.length ≤ 4096; omega⟩ ((rowB_iff _ (by show (s.sets.length : Int) ≤ _; omega) _).2 ⟨by show Inc [0]; simp [Inc], fun x hx => by have hx : x ∈ [(0 : Int)] := hx; have : x = 0 := List.mem_singleton.1 hx; show 0 ≤ x ∧ x < (s.sets.length : Int); omega⟩) ((rowB_iff _ (by show (s.sets.length : Int) ≤ _; omega) _).2 ⟨inc_endsFrom _ _ _, fun x hx => by
    obtain ⟨j, a, h1, h2, -⟩ := (mem_endsFrom _ _ _ _).1 hx
    have := (List.getElem?_eq_some_iff.1 h1).1
    show 0 ≤ x ∧ x < (s.sets.length : Int); omega⟩)]
  rw [arrsFrom_iff]
  refine ⟨fun a ha => ?_, det_inc hm h, fun _ _ => rfl⟩
  obtain ⟨i, f, e, t, l, -, rfl, -, h3, h4, h5⟩ := det_arr hm h ha
  have h4 := (List.getElem?_eq_some_iff.1 h4).1
  have h5 := (List.getElem?_eq_some_iff.1 h5).1
  exact ⟨by dsimp only; omega, by show (f : Int) < s.sets.length; omega, by dsimp only; omega, by show (t : Int) < s.sets.length; omega, by dsimp only; omega, by show (e : Int) < m.ev; omega⟩
theorem det_det (hm : mayB m = true) (h : detS m = some s) : detB (detM m s) = true := by
  have hm' := mayB_size hm
  unfold sizeOk at hm'
  obtain ⟨hd, h256⟩ := detS_di hm h
  obtain ⟨ev, hev⟩ : ∃ ev : Nat, m.ev = (ev : Int) := ⟨m.ev.toNat, by omega⟩
  have e1 : m.ev.toNat = ev := by omega
  rw [e1] at hd
  unfold detB
  rw [may_det hm h, Bool.true_and, Bool.and_eq_true, Bool.and_eq_true]
  refine ⟨rfl, ?_, ?_⟩
  · rw [decide_eq_true_eq]
    show (s.ar.length : Int) = (s.sets.length : Int) * m.ev
    rw [hd.len, hev, Int.natCast_mul]
  · show goD m.ev 0 s.ar = true
    rw [hev, goD_iff ev s.ar 0 (fun a ha => by obtain ⟨i, f, e, t, l, -, rfl, -, h3, -, -⟩ := det_arr hm h ha; exact ⟨by dsimp only; omega, by dsimp only; omega⟩)]
    refine List.ext_getElem? fun i => ?_
    rw [List.getElem?_map]
    by_cases hi : i < s.ar.length
    · obtain ⟨f, e, t, l, h1, h2, h3, -, -⟩ := hd.ar i (by rw [← hd.len]; exact hi)
      rw [h1, List.getElem?_range' (by exact hi)]
      simp [codeN, h2]
    · rw [List.getElem?_eq_none (by omega), List.getElem?_eq_none (by simp; omega)]; rfl
theorem det_step (hm : mayB m = true) (h : detS m = some s) {k e : Nat} {l : List Int} (hk : s.sets[k]? = some l) (he : e < m.ev.toNat) : ∃ t : Nat, stepL s.ar [(k : Int)] (e : Int) = [(t : Int)] ∧ s.sets[t]? = some (stepL m.arrows l (e : Int)) := by
  obtain ⟨hd, h256⟩ := detS_di hm h
  have hlt := (List.getElem?_eq_some_iff.1 hk).1
  obtain ⟨f, e', t, l', h1, h2, h3, h4, h5⟩ := hd.ar (k * m.ev.toNat + e) (code_bd hlt he)
  obtain ⟨q1, q2⟩ := code_inj h3 he h2
  rw [q1, q2] at h1 h2
  rw [q1, hk] at h4
  rw [q2] at h5
  have h4 := Option.some.inj h4
  subst h4
  refine ⟨t, inc_ext (inc_srt _) (by simp [Inc]) (fun x => ?_), h5⟩
  rw [mem_stepL]
  constructor
  · rintro ⟨a, ha, ha1, ha2, ha3⟩
    obtain ⟨i, f1, e1, t1, l1, k0, rfl, k2, k3, -, -⟩ := det_arr hm h ha
    dsimp only at ha1 ha2 ha3
    have q3 : e1 = e := by omega
    have q4 : f1 = k := by have : (f1 : Int) = (k : Int) := List.mem_singleton.1 ha2
                           omega
    rw [q3, q4] at k2
    rw [← k2, h1] at k0
    have q5 := Option.some.inj k0
    injection q5 with _ _ q6
    rw [← ha3, ← q6]; simp
  · intro hx
    have : x = (t : Int) := List.mem_singleton.1 hx
    rw [this]
    exact ⟨_, List.mem_of_getElem? h1, rfl, by simp, rfl⟩
theorem wordB_cons {ev x : Int} {r : List Int} (h : wordB ev (x :: r) = true) : (0 ≤ x ∧ x < ev) ∧ wordB ev r = true := by
  unfold wordB at h
  split at h
  · cases h
  · exact ⟨by omega, h⟩
theorem det_after (hm : mayB m = true) (h : detS m = some s) : ∀ (word : List Int) {k : Nat} {l : List Int}, wordB m.ev word = true → s.sets[k]? = some l → ∃ t : Nat, afterL s.ar [(k : Int)] word = [(t : Int)] ∧ s.sets[t]? = some (afterL m.arrows l word)
  | [], k, l, _, hk => ⟨k, rfl, hk⟩
  | x :: r, k, l, hw, hk => by
    obtain ⟨hx, hr⟩ := wordB_cons hw
    obtain ⟨e, rfl⟩ : ∃ e : Nat, x = (e : Int) := ⟨x.toNat, by omega⟩
    obtain ⟨t, h1, h2⟩ := det_step hm h hk (e := e) (by omega)
    obtain ⟨t', h3, h4⟩ := det_after hm h r hr h2
    exact ⟨t', by show afterL s.ar (stepL s.ar [(k : Int)] (e : Int)) r = _; rw [h1, h3], h4⟩
theorem det_accepts (hm : mayB m = true) (h : detS m = some s) {word : List Int} (hw : wordB m.ev word = true) : acceptsB (detM m s) word = acceptsB m word := by
  obtain ⟨hd, h256⟩ := detS_di hm h
  obtain ⟨t, h1, h2⟩ := det_after hm h word hw hd.hd
  rw [Bool.eq_iff_iff, accepts_iff, accepts_iff]
  have e1 : afterL (detM m s).arrows (detM m s).starts word = [(t : Int)] := h1
  rw [e1]
  constructor
  · rintro ⟨x, hx, he⟩
    have : x = (t : Int) := by simpa using hx
    subst this
    obtain ⟨j, a, k1, k2, y, k3, k4⟩ := (mem_endsFrom _ _ _ _).1 he
    have : t = j := by omega
    subst this
    rw [h2] at k1
    rw [← Option.some.inj k1] at k3
    exact ⟨y, k3, k4⟩
  · rintro ⟨y, k3, k4⟩
    exact ⟨(t : Int), by simp, (mem_endsFrom _ _ _ _).2 ⟨t, _, h2, by simp, y, k3, k4⟩⟩
end

end Go.Proofs.YtbdkaobbfmgnhaaDoor
namespace Go.Proofs.YtbdkaobbfmgnhaaDoor
open Go.RowKit
set_option linter.unusedVariables false

/-- The same four words. -/
def eqS (S T : Nat → Nat) : Prop := S 0 = T 0 ∧ S 1 = T 1 ∧ S 2 = T 2 ∧ S 3 = T 3
theorem eqS_at {S T : Nat → Nat} (h : eqS S T) {k : Nat} (hk : k < 4) : S k = T k := by
  obtain ⟨h0, h1, h2, h3⟩ := h
  have : k = 0 ∨ k = 1 ∨ k = 2 ∨ k = 3 := by omega
  rcases this with rfl | rfl | rfl | rfl <;> assumption
theorem word_eq {a b : Nat} (ha : a < 18446744073709551616) (hb : b < 18446744073709551616) (h : ∀ j, j < 64 → a.testBit j = b.testBit j) : a = b := by
  apply Nat.eq_of_testBit_eq
  intro j
  by_cases hj : j < 64
  · exact h j hj
  · have hp : (2 : Nat) ^ 64 ≤ 2 ^ j := Nat.pow_le_pow_right (by omega) (by omega)
    rw [Nat.testBit_lt_two_pow (Nat.lt_of_lt_of_le ha hp), Nat.testBit_lt_two_pow (Nat.lt_of_lt_of_le hb hp)]
theorem eqS_iff {S T : Nat → Nat} {l k : List Int} (h : Rep S l) (h' : Rep T k) (hl : Inc l) (hk : Inc k) : eqS S T ↔ l = k := by
  constructor
  · intro he
    have hh : ∀ n, n < 256 → hasS S n = hasS T n := fun n hn => by unfold hasS; rw [eqS_at he (by omega)]
    refine inc_ext hl hk fun x => ⟨fun hx => ?_, fun hx => ?_⟩
    · obtain ⟨b0, b1⟩ := h.bd x hx
      have := (h.mem x.toNat (by omega)).2 (by rwa [Int.toNat_of_nonneg b0])
      rw [hh _ (by omega)] at this
      have := (h'.mem x.toNat (by omega)).1 this
      rwa [Int.toNat_of_nonneg b0] at this
    · obtain ⟨b0, b1⟩ := h'.bd x hx
      have := (h'.mem x.toNat (by omega)).2 (by rwa [Int.toNat_of_nonneg b0])
      rw [← hh _ (by omega)] at this
      have := (h.mem x.toNat (by omega)).1 this
      rwa [Int.toNat_of_nonneg b0] at this
  · rintro rfl
    have hh : ∀ n, n < 256 → hasS S n = hasS T n := fun n hn => by rw [Bool.eq_iff_iff, h.mem n hn, h'.mem n hn]
    have key : ∀ k, k < 4 → S k = T k := fun k hk => word_eq (h.ok k) (h'.ok k) fun j hj => by
      have := hh (64 * k + j) (by omega)
      unfold hasS at this
      rw [show (64 * k + j) / 64 = k by omega, show (64 * k + j) % 64 = j by omega] at this
      exact this
    exact ⟨key 0 (by omega), key 1 (by omega), key 2 (by omega), key 3 (by omega)⟩

/-- The sets stand for the lists, one by one, which rise. -/
structure RepL (SL : List (Nat → Nat)) (L : List (List Int)) : Prop where
  len : SL.length = L.length
  rep : ∀ (k : Nat) (S : Nat → Nat), SL[k]? = some S → ∃ l, L[k]? = some l ∧ Rep S l ∧ Inc l
theorem RepL.at {SL : List (Nat → Nat)} {L : List (List Int)} (h : RepL SL L) {k : Nat} {l : List Int} (hk : L[k]? = some l) : ∃ S, SL[k]? = some S ∧ Rep S l ∧ Inc l := by
  have hlt := (List.getElem?_eq_some_iff.1 hk).1
  have hlt' : k < SL.length := by rw [h.len]; exact hlt
  obtain ⟨l', h1, h2, h3⟩ := h.rep k _ (List.getElem?_eq_getElem hlt')
  rw [hk] at h1
  have h1 := Option.some.inj h1
  subst h1
  exact ⟨_, List.getElem?_eq_getElem hlt', h2, h3⟩
theorem RepL.snoc {SL : List (Nat → Nat)} {L : List (List Int)} (h : RepL SL L) {S : Nat → Nat} {l : List Int} (hr : Rep S l) (hi : Inc l) : RepL (SL ++ [S]) (L ++ [l]) := by
  refine ⟨by simp [h.len], fun k T hk => ?_⟩
  by_cases hlt : k < SL.length
  · rw [List.getElem?_append_left hlt] at hk
    obtain ⟨l', h1, h2⟩ := h.rep k T hk
    exact ⟨l', by rw [List.getElem?_append_left (by rw [← h.len]; exact hlt)]; exact h1, h2⟩
  · have hk' := (List.getElem?_eq_some_iff.1 hk).1
    simp at hk'
    have e : k = SL.length := by omega
    subst e
    rw [List.getElem?_append_right (Nat.le_refl _)] at hk
    have : S = T := by simpa using hk
    subst this
    exact ⟨l, by rw [h.len, List.getElem?_append_right (Nat.le_refl _)]; simp, hr, hi⟩
theorem RepL.one {S : Nat → Nat} {l : List Int} (hr : Rep S l) (hi : Inc l) : RepL [S] [l] := RepL.snoc (SL := []) (L := []) ⟨rfl, fun k S h => by simp at h⟩ hr hi
theorem RepL.map {SL : List (Nat → Nat)} {L : List (List Int)} (h : RepL SL L) : SL.map rowS = L := by
  refine List.ext_getElem? fun k => ?_
  rw [List.getElem?_map]
  cases hk : SL[k]? with
  | none =>
    have := List.getElem?_eq_none_iff.1 hk
    rw [List.getElem?_eq_none (by rw [← h.len]; exact this)]; rfl
  | some S =>
    obtain ⟨l, h1, h2, h3⟩ := h.rep k S hk
    rw [h1, Option.map_some, rep_row h2 h3]
/-- Is one of the sets the same as S at place j, j is the list's place. -/
theorem RepL.find {SL : List (Nat → Nat)} {L : List (List Int)} (h : RepL SL L) (hn : L.Nodup) {S : Nat → Nat} {l : List Int} (hr : Rep S l) (hi : Inc l) {j : Nat} {T : Nat → Nat} (hj : SL[j]? = some T) (he : eqS T S) : findL L l = j := by
  obtain ⟨l', h1, h2, h3⟩ := h.rep j T hj
  have := (eqS_iff h2 hr h3 hi).1 he
  subst this
  exact findL_at hn h1
theorem RepL.new {SL : List (Nat → Nat)} {L : List (List Int)} (h : RepL SL L) {S : Nat → Nat} {l : List Int} (hr : Rep S l) (hi : Inc l) (hno : ∀ T ∈ SL, ¬ eqS T S) : findL L l = L.length := findL_new.2 fun hm => by
  obtain ⟨j, hj⟩ := List.mem_iff_getElem?.1 hm
  obtain ⟨T, h1, h2, h3⟩ := h.at hj
  exact hno T (List.mem_of_getElem? h1) ((eqS_iff h2 hr h3 hi).2 rfl)

end Go.Proofs.YtbdkaobbfmgnhaaDoor
namespace Go.Proofs.YtbdkaobbfmgnhaaDoor
open Go.RowKit
set_option linter.unusedVariables false

theorem laidOutS : laidOutB Tryd.prog = true := by kernel_rfl
theorem rowSet : (62 : TypeId) < Tryd.prog.types.size := of_decide_eq_true (by kernel_rfl)
theorem wideSet : (match Tryd.prog.underlying 62 with | some (.array _ _) | some (.struct _) => true | _ => false) = true := by kernel_rfl
set_option maxRecDepth 100000 in
theorem lawSet : WideMaps.KeyLaw Tryd.prog 62 := deep_law_laid laidOutS (m := 3) (by omega) rowSet (by kernel_rfl) wideSet
theorem wf_u64 {n : Nat} (h : n < 18446744073709551616) : (Lit.int .u64 (n : Int)).wf = true := by
  have h1 : IntKind.u64.min = 0 := rfl
  have h2 : IntKind.u64.max = 18446744073709551615 := rfl
  simp [Lit.wf, h1, h2]; omega
set_option maxRecDepth 100000 in
theorem keySet {S : Nat → Nat} (h : okS S) : ∃ l, keyOf Tryd.prog 62 (sval S) = some l := by
  have h0 := wf_u64 (h 0)
  have h1 := wf_u64 (h 1)
  have h2 := wf_u64 (h 2)
  have h3 := wf_u64 (h 3)
  have hk : Tryd.prog.keyType 62 = true := by kernel_rfl
  have hc : Tryd.prog.cellsOf 62 = 4 := by kernel_rfl
  have hci : Tryd.prog.cellsOf 60 = 1 := by kernel_rfl
  have hs : ∃ m, Tryd.prog.types.size = m + 1 := ⟨_, (Nat.succ_pred_eq_of_pos (Nat.lt_of_le_of_lt (Nat.zero_le _) rowSet)).symm⟩
  obtain ⟨m, hm⟩ := hs
  unfold keyOf
  simp only [Tryd.underlying62]
  rw [if_pos (by simp [hk, Value.formed, Tryd.underlying62, hc]), hm]
  unfold Program.keyLits
  simp only [Tryd.underlying62, Value.cells]
  have hr : List.range 4 = [0, 1, 2, 3] := rfl
  simp [hc, hci, Program.keyLits, Tryd.underlying60, hr, h0, h1, h2, h3]

theorem sval_eq {S T : Nat → Nat} (h : sval S = sval T) : eqS S T := by
  simp at h
  obtain ⟨h0, h1, h2, h3⟩ := h
  exact ⟨by omega, by omega, by omega, by omega⟩
theorem eqS_sval {S T : Nat → Nat} (h : eqS S T) : sval S = sval T := by
  obtain ⟨h0, h1, h2, h3⟩ := h
  show Value.agg #[_, _, _, _] = Value.agg #[_, _, _, _]
  rw [h0, h1, h2, h3]

end Go.Proofs.YtbdkaobbfmgnhaaDoor
namespace Go.Proofs.YtbdkaobbfmgnhaaDoor
open Go.RowKit
set_option linter.unusedVariables false

def entS (k : Nat) (S : Nat → Nat) : MapEntry := { key := sval S, val := .int .i64 k, born := k }
def entsS (SL : List (Nat → Nat)) : Array MapEntry := (SL.mapIdx entS).toArray
theorem entsS_snoc (SL : List (Nat → Nat)) (S : Nat → Nat) : entsS (SL ++ [S]) = (entsS SL).push (entS SL.length S) := by
  unfold entsS; rw [List.mapIdx_concat]; simp
theorem find_set {SL : List (Nat → Nat)} {L : List (List Int)} (hR : RepL SL L) (hnd : L.Nodup) {S : Nat → Nat} {l : List Int} (hr : Rep S l) (hi : Inc l) (w : World) :
    (Instr.findKey 62 (sval S) (entsS SL).toList).run Tryd.prog w = .ok (if findL L l = L.length then none else some (findL L l, .int .i64 (findL L l : Nat))) w := by
  obtain ⟨kl, hl⟩ := keySet hr.ok
  have hget : ∀ (j : Nat) e, (entsS SL).toList[j]? = some e → ∃ T, SL[j]? = some T ∧ e = entS j T := by
    intro j e h
    simp only [entsS] at h
    rw [List.getElem?_mapIdx] at h
    cases hq : SL[j]? with
    | none => rw [hq] at h; cases h
    | some q => rw [hq] at h; exact ⟨q, rfl, (Option.some.inj h).symm⟩
  have hes : ∀ e ∈ (entsS SL).toList, ∃ l, keyOf Tryd.prog 62 e.key = some l := by
    intro e he
    obtain ⟨j, hj⟩ := List.mem_iff_getElem?.1 he
    obtain ⟨T, hT, rfl⟩ := hget j e hj
    obtain ⟨l', -, h2, -⟩ := hR.rep j T hT
    exact keySet h2.ok
  rcases lawSet.find w hl (entsS SL).toList hes with ⟨h1, h2⟩ | ⟨j, e, h1, h2, h3⟩
  · have hn : findL L l = L.length := hR.new hr hi fun T hT he => by
      obtain ⟨j, hj⟩ := List.mem_iff_getElem?.1 hT
      refine h2 (entS j T) (List.mem_of_getElem? (i := j) ?_) (eqS_sval he)
      simp only [entsS]
      rw [List.getElem?_mapIdx, hj]; rfl
    rw [h1, if_pos hn]
  · obtain ⟨T, hT, rfl⟩ := hget j e h2
    have hj := hR.find hnd hr hi hT (sval_eq h3)
    have hlt := (List.getElem?_eq_some_iff.1 hT).1
    rw [h1, hj, if_neg (by rw [← hR.len]; omega)]; rfl
theorem mapSet : Tryd.prog.underlying 142 = some (.map 62 3) := by kernel_rfl
theorem lookS_known {SL : List (Nat → Nat)} {L : List (List Int)} (hR : RepL SL L) (hnd : L.Nodup) {S : Nat → Nat} {l : List Int} (hr : Rep S l) (hi : Inc l) {w : World} {r c : Nat} (hm : w.heap[r]? = some (.map (entsS SL) c)) (h : ¬ findL L l = L.length) :
    (Instr.lookup 142 (.map (some r)) (sval S) true).run Tryd.prog w = .ok (.tuple #[.int .i64 (findL L l : Nat), .bool true]) w := by
  obtain ⟨kl, hl⟩ := keySet hr.ok
  have h1 := find_set hR hnd hr hi w
  rw [if_neg h] at h1
  simp [Instr.lookup, run_underlying mapSet, MapKept.run_getObj_map hm, lawSet.check w _ hl, h1, Result.andThen]
theorem lookS_new {SL : List (Nat → Nat)} {L : List (List Int)} (hR : RepL SL L) (hnd : L.Nodup) {S : Nat → Nat} {l : List Int} (hr : Rep S l) (hi : Inc l) {w : World} {r c : Nat} (hm : w.heap[r]? = some (.map (entsS SL) c)) (h : findL L l = L.length) :
    (Instr.lookup 142 (.map (some r)) (sval S) true).run Tryd.prog w = .ok (.tuple #[.int .i64 0, .bool false]) w := by
  obtain ⟨kl, hl⟩ := keySet hr.ok
  have h1 := find_set hR hnd hr hi w
  rw [if_pos h] at h1
  simp [Instr.lookup, run_underlying mapSet, MapKept.run_getObj_map hm, lawSet.check w _ hl, h1, Result.andThen]
theorem updS_new {SL : List (Nat → Nat)} {L : List (List Int)} (hR : RepL SL L) (hnd : L.Nodup) {S : Nat → Nat} {l : List Int} (hr : Rep S l) (hi : Inc l) {w : World} {r : Nat} (hm : w.heap[r]? = some (.map (entsS SL) SL.length)) (h : findL L l = L.length) :
    (Instr.mapUpdate 142 (.map (some r)) (sval S) (.int .i64 (SL.length : Nat))).run Tryd.prog w = .ok () (setMap w r (.map (entsS (SL ++ [S])) (SL.length + 1))) := by
  obtain ⟨kl, hl⟩ := keySet hr.ok
  have h1 := find_set hR hnd hr hi w
  rw [if_pos h] at h1
  simp [Instr.mapUpdate, run_underlying mapSet, MapKept.run_getObj_map hm, lawSet.check w _ hl, h1, MapKept.run_setObj_map _ hm, Result.andThen, setMap, entsS_snoc, entS]

/-! Rows of sets. -/
def sflat : List (Nat → Nat) → List Value
  | [] => []
  | S :: r => .int .u64 (S 0) :: .int .u64 (S 1) :: .int .u64 (S 2) :: .int .u64 (S 3) :: sflat r
theorem sflat_append : ∀ L M : List (Nat → Nat), sflat (L ++ M) = sflat L ++ sflat M
  | [], M => rfl
  | a :: r, M => by simp only [List.cons_append, sflat, sflat_append r M]
theorem sflat_at : ∀ {L : List (Nat → Nat)} {k : Nat} {S : Nat → Nat}, L[k]? = some S → (sflat L)[k * 4]? = some (.int .u64 (S 0)) ∧ (sflat L)[k * 4 + 1]? = some (.int .u64 (S 1)) ∧ (sflat L)[k * 4 + 2]? = some (.int .u64 (S 2)) ∧ (sflat L)[k * 4 + 3]? = some (.int .u64 (S 3))
  | [], k, S, h => by simp at h
  | a :: r, 0, S, h => by
    have e : a = S := by simpa using h
    subst e; simp [sflat]
  | a :: r, k + 1, S, h => by
    have := sflat_at (L := r) (k := k) (S := S) (by simpa using h)
    rw [show (k + 1) * 4 = k * 4 + 1 + 1 + 1 + 1 by omega]
    simpa [sflat] using this
abbrev OwnS (W : World) (B : Nat) (v : Value) (L : List (Nat → Nat)) : Prop := W.ownsRow B 62 4 v L.length (sflat L)
theorem OwnS.cell {W : World} {B : Nat} {v : Value} {L : List (Nat → Nat)} (h : OwnS W B v L) {k : Nat} {S : Nat → Nat} (hk : L[k]? = some S) : ∃ g cap, v = .slice (some ⟨g, 0, none⟩) L.length cap ∧ B ≤ g ∧ g < W.heap.size ∧ W.cell? ⟨g, k * 4, none⟩ = some (.int .u64 (S 0)) ∧ W.cell? ⟨g, k * 4 + 1, none⟩ = some (.int .u64 (S 1)) ∧ W.cell? ⟨g, k * 4 + 2, none⟩ = some (.int .u64 (S 2)) ∧ W.cell? ⟨g, k * 4 + 3, none⟩ = some (.int .u64 (S 3)) := by
  rcases h.2 with ⟨rfl, hn⟩ | ⟨g, cap, cur, rfl, hg, hh, hnc, hcm, hcs, ht⟩
  · have := (List.getElem?_eq_some_iff.1 hk).1; omega
  · obtain ⟨h1, h2, h3, h4⟩ := sflat_at hk
    have c1 := h.cells (g := g) rfl _ _ h1
    have c2 := h.cells (g := g) rfl _ _ h2
    have c3 := h.cells (g := g) rfl _ _ h3
    have c4 := h.cells (g := g) rfl _ _ h4
    rw [addr0_add, Nat.zero_add] at c1 c2 c3 c4
    exact ⟨g, cap, rfl, hg, (Array.getElem?_eq_some_iff.1 hh).1, c1, c2, c3, c4⟩
theorem cells_four (W W' : World) (hW : W'.heap = W.heap) (t : TypeId) (x y z u : Value) : ∀ j v, ([x, y, z, u] : List Value)[j]? = some v → (W'.alloc (.cells #[x, y, z, u] t)).cell? ((⟨W.heap.size, 0, none⟩ : Addr).add j) = some v := by
  intro j v hv
  rw [addr0_add, Nat.zero_add, ← hW]
  exact (Blk.new W' t #[x, y, z, u]).cell j (by rw [← Array.getElem?_toList]; exact hv)
theorem own_set {W : World} {B : Nat} {v : Value} {L : List (Nat → Nat)} {S : Nat → Nat} (h : W.ownsRow B 62 4 v (L.length + 1) (sflat L ++ [.int .u64 (S 0), .int .u64 (S 1), .int .u64 (S 2), .int .u64 (S 3)])) : OwnS W B v (L ++ [S]) := by
  show W.ownsRow B 62 4 v (L ++ [S]).length (sflat (L ++ [S]))
  rw [List.length_append, sflat_append]
  exact h
theorem ownS_one (W : World) (S : Nat → Nat) (B : Nat) (hB : B ≤ W.heap.size) : OwnS (W.alloc (.cells (scells S) 62)) B (.slice (some ⟨W.heap.size, 0, none⟩) 1 1) [S] := World.ownsRow_lit W (scells S) 1 hB (by decide) rfl

/-- What find knows: its rows of sets and of arrows, made from block B on, and its map. -/
structure FDI (B : Nat) (W : World) (br : Nat) (vs va : Value) (SL : List (Nat → Nat)) (A : List Arr) : Prop where
  ss : OwnS W B vs SL
  ar : OwnA W B va A
  mp : W.heap[br]? = some (.map (entsS SL) SL.length)
  lr : B ≤ br
section
variable {B : Nat} {W : World} {br : Nat} {vs va : Value} {SL : List (Nat → Nat)} {A : List Arr}
theorem FDI.below {W' : World} (h : FDI B W br vs va SL A) (hb : Below W.heap.size W W') : FDI B W' br vs va SL A :=
  ⟨own_same h.ss (fun k hk => hb.block k (World.ownsRow.lt h.ss k hk).2), h.ar.kept hb (Nat.le_refl _), (hb.block br (Array.getElem?_eq_some_iff.1 h.mp).1).trans h.mp, h.lr⟩
theorem FDI.apart (h : FDI B W br vs va SL A) : vs.ownBlock ≠ some br ∧ va.ownBlock ≠ some br := by
  have hm := h.mp
  exact ⟨fun e => (by obtain ⟨cs, hc⟩ := own_type h.ss e; rw [hm] at hc; cases hc), fun e => (by obtain ⟨cs, hc⟩ := own_type h.ar e; rw [hm] at hc; cases hc)⟩
/-- One set more: the map, the row. -/
theorem FDI.push {w0 : World} {W2 W3 : World} {vs' : Value} {S : Nat → Nat} (h : FDI B W br vs va SL A) (h0 : Below B w0 W) (hW3 : Below (setMap W br (.map (entsS (SL ++ [S])) (SL.length + 1))).heap.size (setMap W br (.map (entsS (SL ++ [S])) (SL.length + 1))) W3) (o1 : OwnS W2 B vs' (SL ++ [S])) (g : W3.grownBy W2 vs.ownBlock) (hBW : B ≤ W.heap.size) :
    FDI B W2 br vs' va (SL ++ [S]) A ∧ Below B w0 W2 := by
  obtain ⟨a1, a2⟩ := h.apart
  have hbr := (Array.getElem?_eq_some_iff.1 h.mp).1
  have hz : W.heap.size ≤ W3.heap.size := by have := hW3.size; rwa [size_setMap] at this
  have k3 : ∀ j, j < W.heap.size → W3.heap[j]? = (setMap W br (.map (entsS (SL ++ [S])) (SL.length + 1))).heap[j]? := fun j hj => hW3.block j (by rw [size_setMap]; exact hj)
  have k2 : ∀ j, j < W.heap.size → vs.ownBlock ≠ some j → W2.heap[j]? = (setMap W br (.map (entsS (SL ++ [S])) (SL.length + 1))).heap[j]? := fun j hj hne => (g.block j (Nat.lt_of_lt_of_le hj hz) (fun e => hne e.symm)).trans (k3 j hj)
  refine ⟨⟨o1, ?_, ?_, h.lr⟩, ?_⟩
  · refine own_same h.ar (fun k hk => ?_)
    have hlt := (World.ownsRow.lt h.ar k hk).2
    rw [k2 k hlt (fun e => ?_), heap_setMap_ne _ _ _ (fun e => a2 (by rw [hk, e]))]
    rcases own_apart h.ss h.ar (by decide) with r | r
    · rw [r] at e; cases e
    · exact r (e.trans hk.symm)
  · rw [k2 br hbr a1, heap_setMap _ _ hbr, List.length_append]; rfl
  · have b1 : Below B w0 (setMap W br (.map (entsS (SL ++ [S])) (SL.length + 1))) :=
      h0.trans ⟨rfl, rfl, rfl, by rw [size_setMap]; exact Nat.le_refl _, fun j hj => heap_setMap_ne _ _ _ (by have := h.lr; omega)⟩
    exact (b1.trans (hW3.mono (by rw [size_setMap]; exact hBW))).grown g (Nat.le_trans hBW hz) (fun j hj => (World.ownsRow.lt h.ss j hj).1)
/-- One arrow more. -/
theorem FDI.arrow {w0 : World} {W2 W3 : World} {va' : Value} {x : Arr} (h : FDI B W br vs va SL A) (h0 : Below B w0 W) (hW3 : Below W.heap.size W W3) (o1 : OwnA W2 B va' (A ++ [x])) (g : W3.grownBy W2 va.ownBlock) (hBW : B ≤ W.heap.size) :
    FDI B W2 br vs va' SL (A ++ [x]) ∧ Below B w0 W2 := by
  have h3 := h.below hW3
  obtain ⟨a1, a2⟩ := h3.apart
  refine ⟨⟨own_same h3.ss (fun k hk => g.block k (World.ownsRow.lt h3.ss k hk).2 (fun e => ?_)), o1, ?_, h.lr⟩, ?_⟩
  · rcases own_apart h3.ss h3.ar (by decide) with r | r
    · rw [r] at hk; cases hk
    · exact r (hk.trans e)
  · rw [g.block br (Array.getElem?_eq_some_iff.1 h3.mp).1 (fun e => a2 e.symm)]; exact h3.mp
  · exact (h0.trans (hW3.mono hBW)).grown g (Nat.le_trans hBW hW3.size) (fun j hj => (World.ownsRow.lt h3.ar j hj).1)
end

end Go.Proofs.YtbdkaobbfmgnhaaDoor
namespace Go.Proofs.YtbdkaobbfmgnhaaDoor
open Go.RowKit
set_option linter.unusedVariables false

/-- A set's row as an inner slice. -/
theorem innB_own {w : World} {B : Nat} {v : Value} {xs : List Int} (h : Own w B v xs) : InnB w v xs := by
  rcases h.2 with ⟨rfl, hn⟩ | ⟨g, cap, cur, rfl, hg, hh, hnc, hcm, hcs, ht⟩
  · have : xs = [] := List.eq_nil_of_length_eq_zero hn
    subst this
    exact ⟨none, 0, rfl, Nat.le_refl _, Nat.zero_le _, .inl rfl⟩
  · refine ⟨_, cap, rfl, hnc, hcm, .inr ⟨g, 0, cur, rfl, hh, fun j hj => ?_⟩⟩
    have := h.cells (g := g) rfl j (.int .i64 (xs.getD j 0)) (by rw [List.getElem?_map, List.getElem?_eq_getElem hj]; simp [List.getElem?_eq_getElem hj])
    rw [addr0_add] at this
    simpa [World.cell?, hh] using this

/-- The numbers of those sets that meet another one. -/
def meetFrom (T : Nat → Nat) : Nat → List (Nat → Nat) → List Int
  | _, [] => []
  | k, S :: r => if meetB S T = true then (k : Int) :: meetFrom T (k + 1) r else meetFrom T (k + 1) r
theorem meetFrom_snoc (T : Nat → Nat) : ∀ (L : List (Nat → Nat)) (k : Nat) (S : Nat → Nat), meetFrom T k (L ++ [S]) = meetFrom T k L ++ (if meetB S T = true then [((k + L.length : Nat) : Int)] else [])
  | [], k, S => by simp only [List.nil_append, meetFrom, List.length_nil, Nat.add_zero]
  | R :: r, k, S => by
    rw [List.cons_append]
    unfold meetFrom
    rw [meetFrom_snoc T r (k + 1) S, List.length_cons, show k + 1 + r.length = k + (r.length + 1) by omega]
    by_cases h : meetB R T = true
    · rw [if_pos h, if_pos h, List.cons_append]
    · rw [if_neg h, if_neg h]
theorem meetFrom_len (T : Nat → Nat) : ∀ (k : Nat) (L : List (Nat → Nat)), (meetFrom T k L).length ≤ L.length
  | _, [] => Nat.le_refl _
  | k, a :: r => by
    have := meetFrom_len T (k + 1) r
    unfold meetFrom; split <;> simp <;> omega
theorem meet_take {T : Nat → Nat} {L : List (Nat → Nat)} {k : Nat} {S : Nat → Nat} (h : L[k]? = some S) : meetFrom T 0 (L.take (k + 1)) = if meetB S T = true then meetFrom T 0 (L.take k) ++ [(k : Int)] else meetFrom T 0 (L.take k) := by
  have hk := (List.getElem?_eq_some_iff.1 h).1
  have e : L.take (k + 1) = L.take k ++ [S] := by rw [List.take_add_one, h]; rfl
  rw [e, meetFrom_snoc, List.length_take, Nat.min_eq_left (by omega), Nat.zero_add]
  split
  · rfl
  · rw [List.append_nil]
theorem meet_ends {T : Nat → Nat} {ends : List Int} (hT : Rep T ends) : ∀ {SL : List (Nat → Nat)} {L : List (List Int)} (k : Nat), RepL SL L → meetFrom T k SL = endsFrom ends k L
  | [], L, k, h => by
    have : L = [] := List.eq_nil_of_length_eq_zero h.len.symm
    subst this; rfl
  | S :: r, [], k, h => by have := h.len; simp at this
  | S :: r, l :: q, k, h => by
    obtain ⟨l', h1, h2, h3⟩ := h.rep 0 S rfl
    have e : l = l' := by simpa using h1
    subst e
    have hr : RepL r q := ⟨by have := h.len; simpa using this, fun j T' hj => by
      have := h.rep (j + 1) T' (by simpa using hj)
      simpa using this⟩
    unfold meetFrom endsFrom
    rw [meet_ends hT (k + 1) hr, meet_iff h2 hT]
    simp only [decide_eq_true_eq]

set_option maxRecDepth 100000 in
set_option maxHeartbeats 4000000 in
theorem meeting_any (B : Nat) (v : Value) (SL : List (Nat → Nat)) (T : Nat → Nat) (w : World) (hS : Hid (OwnS w B v SL)) (hl : SL.length ≤ 256) (hok : Hid (∀ S ∈ SL, okS S)) (hT : Hid (okS T)) :
    Calls Tryd.prog 77 #[v, sval T] w fun e w' => GivesO w (meetFrom T 0 SL) e w' := by
  obtain ⟨j0, ji, jz0, jz1, jz2⟩ := info_parts Tryd.infoInt
  obtain ⟨va, vc, hv, -, -, -⟩ := own_form2 hS.out
  subst hv
  have b0 : Hid (SB (w.alloc (.cells (scells T) 62)) w.heap.size T) := Blk.new w _ _
  have bel0 : Hid (Below w.heap.size w (w.alloc (.cells (scells T) 62))) := (Below.refl _ _).alloc (Nat.le_refl _) _
  have sz0 : Hid ((w.alloc (.cells (scells T) 62)).heap.size = w.heap.size + 1) := World.size_alloc _ _
  go_enter Tryd.func77, Tryd.ntmps77
  go_wp2
  revert b0 bel0 sz0
  generalize w.alloc (.cells (scells T) 62) = V
  intro b0 bel0 sz0
  go_loopw [5, 10] (fun v5 i wr => ∃ k : Nat, k ≤ SL.length ∧ i = .int .i64 k ∧ Hid (Own wr (w.heap.size + 1) v5 (meetFrom T 0 (SL.take k))) ∧ Hid (Below (w.heap.size + 1) V wr)) (fun _ i _ => SL.length - (intOf i).toNat)
  case atStart => exact ⟨0, Nat.zero_le _, rfl, own_nil _ _, Below.refl _ _⟩
  case round =>
    obtain ⟨k, hk, rfl, HO, HB⟩ := hrel
    have hbw : Hid (Below w.heap.size w wr) := bel0.out.trans (HB.out.mono (Nat.le_succ _))
    have hB1 : w.heap.size + 1 ≤ wr.heap.size := by have := HB.out.size; rw [sz0.out] at this; exact this
    by_cases hlt : k < SL.length
    · obtain ⟨S, HSk⟩ : ∃ S, Hid (SL[k]? = some S) := ⟨_, List.getElem?_eq_getElem hlt⟩
      obtain ⟨g, cap, hvg, hg1, hg2, c0, c1, c2, c3⟩ := hS.out.cell HSk.out
      cases hvg
      have d0 := (hbw.out.cell (p := ⟨g, k * 4, none⟩) hg2).trans c0
      have d1 := (hbw.out.cell (p := ⟨g, k * 4 + 1, none⟩) hg2).trans c1
      have d2 := (hbw.out.cell (p := ⟨g, k * 4 + 2, none⟩) hg2).trans c2
      have d3 := (hbw.out.cell (p := ⟨g, k * 4 + 3, none⟩) hg2).trans c3
      clear c0 c1 c2 c3
      have BT : Hid (SB wr w.heap.size T) := b0.out.below HB.out (Nat.lt_succ_self _)
      have NB1 : Hid (SB (wr.alloc (.cells (scells S) 62)) wr.heap.size S) := Blk.new wr _ _
      obtain ⟨n0, n1, n2, n3⟩ := SB.cells NB1.out
      obtain ⟨t0, t1, t2, t3⟩ := SB.cells (Blk.alloc BT.out (.cells (scells S) 62))
      have okS' := hok.out S (List.mem_of_getElem? HSk.out)
      have HTK := Hid.of (meet_take (T := T) HSk.out)
      have hml : (meetFrom T 0 (SL.take k)).length ≤ 256 := Nat.le_trans (meetFrom_len _ _ _) (by rw [List.length_take]; omega)
      go_wp2_with fail
      refine (meets_any S T _ okS' hT.out).mono ?_
      rintro e w1 ⟨rfl, hb1⟩
      have HO1 : Hid (Own w1 (w.heap.size + 1) u5 (meetFrom T 0 (SL.take k))) := own_same (own_same HO.out (fun j hj => Below.heap_alloc wr _ j (World.ownsRow.lt HO.out j hj).2)) (fun j hj => hb1.block j (by rw [World.size_alloc]; exact Nat.lt_succ_of_lt (World.ownsRow.lt HO.out j hj).2))
      have HB1 : Hid (Below (w.heap.size + 1) V w1) := (HB.out.alloc (by omega) _).trans (hb1.mono (by rw [World.size_alloc]; omega))
      have hz1 : w.heap.size + 1 ≤ w1.heap.size := by have := hb1.size; rw [World.size_alloc] at this; omega
      clear hb1 n0 n1 n2 n3 t0 t1 t2 t3 NB1 BT HO HB d0 d1 d2 d3 hbw
      cases hmt : meetB S T with
      | true =>
        rw [hmt, if_pos rfl] at HTK
        obtain ⟨fa, fc, hfa, -, -, -⟩ := own_form2 HO1.out
        subst hfa
        generalize meetFrom T 0 (SL.take k) = R at *
        go_wp2_with (at_builtin; refine wpList_append_block _ rfl (.tmp 18) (.tmp 20) 22 rfl (w.heap.size + 1) 3 j0 (.int .i64 0) 1 8 Tryd.underlying22 ji jz0 jz1 jz2 rfl (by decide) _ _ _ rfl (World.ownsRow.alloc HO1.out _) ⟨w1.heap.size, 0, none⟩ 1 1 [.int .i64 (k : Int)] rfl rfl (cell_one_new _ _ _) (by intro u hu; simp at hu; subst hu; rfl) (by decide) (by unfold maxLen; omega) (by omega) (by simp; omega) ?_)
        intro v9 w9 o9 g9 n9
        obtain ⟨q1, q2, q3⟩ := own_snoc HO1.out HB1.out hz1 o9 g9
        have Q1 := Hid.of q1
        have Q2 := Hid.of q2
        clear q1 q2 q3 o9 g9 n9 hmt
        go_wp2_with fail
        go_roundw
        case rel => exact ⟨k + 1, by omega, by go_num, (by show Own _ _ _ _; rw [HTK.out]; exact Q1.out), Q2⟩
        case measure => simp [intOf]; omega
      | false =>
        rw [hmt, if_neg (by simp)] at HTK
        clear hmt
        go_wp2_with fail
        go_roundw
        case rel => exact ⟨k + 1, by omega, by go_num, (by show Own _ _ _ _; rw [HTK.out]; exact HO1.out), HB1⟩
        case measure => simp [intOf]; omega
    · rw [List.take_of_length_le (by omega)] at HO
      go_wp2
      go_ret
      exact ⟨_, rfl, HO.out.low (Nat.le_succ _), hbw.out⟩

set_option maxRecDepth 100000 in
set_option maxHeartbeats 4000000 in
theorem rowsS_any (B : Nat) (v : Value) (SL : List (Nat → Nat)) (w : World) (hS : Hid (OwnS w B v SL)) (hl : SL.length ≤ 256) (hok : Hid (∀ S ∈ SL, okS S)) (hT : Hid (Tab w)) :
    Calls Tryd.prog 78 #[v] w fun e w' => ∃ v', e = .returned v' ∧ Own2 w' w.heap.size v' (SL.map rowS) ∧ Below w.heap.size w w' := by
  obtain ⟨i1, hi, hz0, hz1, hz2⟩ := info_parts Tryd.infoInts
  obtain ⟨va, vc, hv, -, -, -⟩ := own_form2 hS.out
  subst hv
  go_enter Tryd.func78, Tryd.ntmps78
  go_wp2
  go_loopw [3, 8] (fun v3 i wr => ∃ k : Nat, k ≤ SL.length ∧ i = .int .i64 k ∧ Hid (Own2 wr w.heap.size v3 ((SL.take k).map rowS)) ∧ Hid (Below w.heap.size w wr)) (fun _ i _ => SL.length - (intOf i).toNat)
  case atStart => exact ⟨0, Nat.zero_le _, rfl, own2_nil _ _, Below.refl _ _⟩
  case round =>
    obtain ⟨k, hk, rfl, HO, HB⟩ := hrel
    by_cases hlt : k < SL.length
    · obtain ⟨S, HSk⟩ : ∃ S, Hid (SL[k]? = some S) := ⟨_, List.getElem?_eq_getElem hlt⟩
      obtain ⟨g, cap, hvg, hg1, hg2, c0, c1, c2, c3⟩ := hS.out.cell HSk.out
      cases hvg
      have d0 := (HB.out.cell (p := ⟨g, k * 4, none⟩) hg2).trans c0
      have d1 := (HB.out.cell (p := ⟨g, k * 4 + 1, none⟩) hg2).trans c1
      have d2 := (HB.out.cell (p := ⟨g, k * 4 + 2, none⟩) hg2).trans c2
      have d3 := (HB.out.cell (p := ⟨g, k * 4 + 3, none⟩) hg2).trans c3
      clear c0 c1 c2 c3
      have NB1 : Hid (SB (wr.alloc (.cells (scells S) 62)) wr.heap.size S) := Blk.new wr _ _
      obtain ⟨n0, n1, n2, n3⟩ := SB.cells NB1.out
      have okS' := hok.out S (List.mem_of_getElem? HSk.out)
      have HTK : Hid ((SL.take (k + 1)).map rowS = (SL.take k).map rowS ++ [rowS S]) := by
        show _ = _
        rw [List.take_add_one, HSk.out, List.map_append]; rfl
      have hml : ((SL.take k).map rowS).length ≤ 256 := by rw [List.length_map, List.length_take]; omega
      have hTr : Tab (wr.alloc (.cells (scells S) 62)) := hT.out.below (HB.out.alloc HB.out.size _) hT.out.lt
      have hbz := HB.out.size
      go_wp2_with fail
      refine (rowO_any S _ okS' hTr).mono ?_
      rintro e w1 ⟨v1, rfl, o1, hb1⟩
      obtain ⟨s1, q1, rfl, -, -, -, -⟩ := o1.at2
      have HI1 := Hid.of (innB_own o1)
      have HO1 : Hid (Own2 w1 w.heap.size u3 ((SL.take k).map rowS)) := (HO.out.alloc _).below hb1
      have HB1 : Hid (Below w.heap.size w w1) := (HB.out.alloc HB.out.size _).trans (hb1.mono (by rw [World.size_alloc]; omega))
      have hz1' := HB1.out.size
      clear hb1 n0 n1 n2 n3 NB1 HO HB d0 d1 d2 d3 o1 hTr
      generalize (SL.take k).map rowS = R at *
      obtain ⟨vs, ho, hin⟩ := HO1.out
      have HO2 := Hid.of ho
      have HIN := Hid.of hin
      clear ho hin
      obtain ⟨fa, fc, hfa, -, -, -⟩ := own_form2 HO2.out
      subst hfa
      go_wp2_with (at_builtin; refine wpList_append_block _ rfl (.tmp 12) (.tmp 15) 39 rfl w.heap.size 22 i1 (.slice none 0 0) 1 24 Tryd.underlying39 hi hz0 hz1 hz2 rfl (by decide) _ _ _ rfl (World.ownsRow.alloc HO2.out _) ⟨w1.heap.size, 0, none⟩ 1 1 [.slice s1 (rowS S).length q1] rfl rfl (cell_one_new _ _ _) (by intro u hu; simp at hu; subst hu; rfl) (by decide) (by unfold maxLen; omega) (by omega) (by simp; omega) ?_)
      intro v9 w9 o9 g9 n9
      have Q1 : Hid (Own2 w9 w.heap.size v9 (R ++ [rowS S])) := Own2.snoc (World.ownsRow.alloc HO2.out _) (fun j x xs h1 h2 => (HIN.out j x xs h1 h2).below ((Below.refl _ _).alloc (Nat.le_refl _) _)) (HI1.out.below ((Below.refl _ _).alloc (Nat.le_refl _) _)) o9 g9
      have Q2 : Hid (Below w.heap.size w w9) := (HB1.out.alloc HB1.out.size _).grown g9 (by simp; omega) (fun j hj => (World.ownsRow.lt HO2.out j hj).1)
      clear o9 g9 n9 HO2 HIN HI1 HO1
      go_wp2_with fail
      go_roundw
      case rel => exact ⟨k + 1, by omega, by go_num, (by show Own2 _ _ _ _; rw [HTK.out]; exact Q1.out), Q2⟩
      case measure => simp [intOf]; omega
    · rw [List.take_of_length_le (by omega)] at HO
      go_wp2
      go_ret
      exact ⟨_, rfl, HO.out, HB.out⟩

end Go.Proofs.YtbdkaobbfmgnhaaDoor
