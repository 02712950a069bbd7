/-
  Plain: a machine laid by the first state of each class, in the order of a determined machine's own numbers: it is the one that is found, where those numbers are in the order found. No program, no model.
  append(v, y...) of integers: v a row of the call's own, y any slice; and the empty literal slice.
  The walk of jalousieref2.Step.
  The walk of jalousieref8.to: where a state of a determined machine leads to.
  What the walk of jalousieref8.Apart knows of the memory: a row of rows of booleans, and a row of rows of integers that are appended to.
-/
import Derived.Test.YtkkkacmccndinaaDoorG19
import Derived.Test.YtkkkacmccndinaaDoorG04
import Derived.Test.YtkkkacmccndinaaDoorG03
import Derived.Test.YtkkkacmccndinaaDoorG07
import Derived.Test.YtkkkacmccndinaaDoorG16
import Derived.Deep.RegionWith
import Derived.BigQuiet
import Derived.Test.YtkkkacmccndinaaDoorG05
namespace Go.Proofs.YtkkkacmccndinaaDoor
open Go.RowKit
set_option linter.unusedVariables false
set_option linter.unusedSectionVars false

/-! First states of classes. -/
def reps (c : Nat → Nat) : Nat → List Nat
  | 0 => []
  | n + 1 => if c n = (reps c n).length then reps c n ++ [n] else reps c n
/-- Classes are numbered as they come. -/
def RGr (c : Nat → Nat) (N : Nat) : Prop := ∀ n, n < N → c n ≤ (reps c n).length
theorem reps_pre (c : Nat → Nat) (n : Nat) : ∀ k, ∃ t, reps c (n + k) = reps c n ++ t
  | 0 => ⟨[], by simp⟩
  | k + 1 => by
    obtain ⟨t, ht⟩ := reps_pre c n k
    rw [← Nat.add_assoc, reps]
    split
    · exact ⟨t ++ [n + k], by rw [ht, List.append_assoc]⟩
    · exact ⟨t, ht⟩
theorem reps_le (c : Nat → Nat) {n k : Nat} (h : n ≤ k) : (reps c n).length ≤ (reps c k).length := by
  obtain ⟨t, ht⟩ := reps_pre c n (k - n)
  rw [show n + (k - n) = k by omega] at ht
  rw [ht, List.length_append]; omega
theorem reps_stay {c : Nat → Nat} {n k i x : Nat} (h : n ≤ k) (hx : (reps c n)[i]? = some x) : (reps c k)[i]? = some x := by
  obtain ⟨t, ht⟩ := reps_pre c n (k - n)
  rw [show n + (k - n) = k by omega] at ht
  rw [ht, List.getElem?_append_left (List.getElem?_eq_some_iff.1 hx).1]; exact hx
theorem reps_len (c : Nat → Nat) : ∀ n, (reps c n).length ≤ n
  | 0 => by simp [reps]
  | n + 1 => by
    have := reps_len c n
    unfold reps
    split
    · rw [List.length_append, List.length_singleton]; omega
    · omega
theorem reps_at (c : Nat → Nat) : ∀ (n i x : Nat), (reps c n)[i]? = some x → x < n ∧ c x = i ∧ (reps c x).length = i
  | 0, i, x, h => by simp [reps] at h
  | n + 1, i, x, h => by
    unfold reps at h
    split at h
    · rename_i e
      by_cases hi : i < (reps c n).length
      · rw [List.getElem?_append_left hi] at h
        obtain ⟨h1, h2⟩ := reps_at c n i x h
        exact ⟨by omega, h2⟩
      · have hl := (List.getElem?_eq_some_iff.1 h).1
        rw [List.length_append, List.length_singleton] at hl
        have e2 : i = (reps c n).length := by omega
        rw [List.getElem?_append_right (by omega), e2] at h
        have e3 : n = x := by simpa using h
        subst e3
        exact ⟨by omega, by omega, e2.symm⟩
    · obtain ⟨h1, h2⟩ := reps_at c n i x h
      exact ⟨by omega, h2⟩
theorem reps_of {c : Nat → Nat} {N x : Nat} (h : RGr c N) (hx : x < N) : ∃ r, (reps c N)[c x]? = some r ∧ r ≤ x := by
  by_cases e : c x = (reps c x).length
  · refine ⟨x, reps_stay (n := x + 1) (by omega) ?_, Nat.le_refl _⟩
    rw [reps, if_pos e, e, List.getElem?_append_right (Nat.le_refl _)]; simp
  · have h1 := h x hx
    have h2 : c x < (reps c x).length := by omega
    obtain ⟨r, hr⟩ : ∃ r, (reps c x)[c x]? = some r := ⟨_, List.getElem?_eq_getElem h2⟩
    exact ⟨r, reps_stay (by omega) hr, by have := (reps_at c x _ r hr).1; omega⟩
theorem reps_mono {c : Nat → Nat} {N i j x y : Nat} (hx : (reps c N)[i]? = some x) (hy : (reps c N)[j]? = some y) (h : x < y) : i < j := by
  have h1 := (reps_at c N i x hx).2.2
  have h2 := (reps_at c N j y hy)
  have h3 : (reps c (x + 1)).length ≤ j := by rw [← h2.2.2]; exact reps_le c h
  have h4 := (reps_at c N i x hx).2.1
  rw [reps, if_pos (by omega), List.length_append, List.length_singleton] at h3
  omega
theorem reps_mono' {c : Nat → Nat} {N i j x y : Nat} (hx : (reps c N)[i]? = some x) (hy : (reps c N)[j]? = some y) (h : i ≤ j) : x ≤ y := by
  by_cases e : x ≤ y
  · exact e
  · have := reps_mono hy hx (by omega); omega
/-- What is numbered as it is found. -/
theorem cls_rg {σ : Type} [DecidableEq σ] (f : Nat → σ) (N : Nat) : RGr (cls f N) N ∧ ∀ n, n ≤ N → (reps (cls f N) n).length = (fnd f n).length := by
  have key : ∀ n, n ≤ N → (reps (cls f N) n).length = (fnd f n).length := by
    intro n
    induction n with
    | zero => intro _; rfl
    | succ n ih =>
      intro hn
      have ih := ih (by omega)
      have hc : cls f N n = cls f (n + 1) n := by
        have := cls_stays f (n := n + 1) (x := n) (by omega) (N - (n + 1))
        rw [show n + 1 + (N - (n + 1)) = N by omega] at this
        exact this
      have hr : reps (cls f N) (n + 1) = if cls f N n = (reps (cls f N) n).length then reps (cls f N) n ++ [n] else reps (cls f N) n := rfl
      have hf : fnd f (n + 1) = if f n ∈ fnd f n then fnd f n else fnd f n ++ [f n] := rfl
      have hc' : cls f N n = (fnd f (n + 1)).idxOf (f n) := hc
      by_cases h : f n ∈ fnd f n
      · have := List.idxOf_lt_length_of_mem h
        rw [if_pos h] at hf
        rw [hf] at hc'
        rw [hr, hf, if_neg (by omega), ih]
      · rw [if_neg h] at hf
        rw [hf, List.idxOf_append, if_neg h] at hc'
        have e0 : List.idxOf (f n) [f n] = 0 := by simp
        rw [e0] at hc'
        rw [hr, hf, if_pos (by omega), List.length_append, List.length_append, ih]; rfl
  refine ⟨fun n hn => ?_, key⟩
  rw [key n (by omega)]
  have hc : cls f N n = cls f (n + 1) n := by
    have := cls_stays f (n := n + 1) (x := n) (by omega) (N - (n + 1))
    rw [show n + 1 + (N - (n + 1)) = N by omega] at this
    exact this
  have h1 := cls_lt f (n := n + 1) (x := n) (by omega)
  have h2 : (fnd f (n + 1)).length ≤ (fnd f n).length + 1 := by
    rw [show fnd f (n + 1) = if f n ∈ fnd f n then fnd f n else fnd f n ++ [f n] from rfl]
    split
    · omega
    · rw [List.length_append, List.length_singleton]; omega
  omega

/-! What is laid. -/
def rowF (D : List Arr) (c : Nat → Nat) (k x n : Nat) : List Arr := (List.range n).map fun (e : Nat) => ⟨(k : Int), (e : Int), ((c (toI D (x : Int) (e : Int)).toNat : Nat) : Int)⟩
theorem rowF_succ (D : List Arr) (c : Nat → Nat) (k x n : Nat) : rowF D c k x (n + 1) = rowF D c k x n ++ [⟨(k : Int), (n : Int), ((c (toI D (x : Int) (n : Int)).toNat : Nat) : Int)⟩] := by
  unfold rowF; rw [List.range_succ, List.map_append]; rfl
theorem rowF_len (D : List Arr) (c : Nat → Nat) (k x n : Nat) : (rowF D c k x n).length = n := by unfold rowF; simp
def arrF (D : List Arr) (c : Nat → Nat) (ev : Nat) : Nat → List Arr
  | 0 => []
  | n + 1 => if c n = (reps c n).length then arrF D c ev n ++ rowF D c (c n) n ev else arrF D c ev n
def endF (E : List Int) (c : Nat → Nat) : Nat → List Int
  | 0 => []
  | n + 1 => if c n = (reps c n).length ∧ hasB E (n : Int) = true then endF E c n ++ [((c n : Nat) : Int)] else endF E c n
def foldM (d : Mach) (c : Nat → Nat) : Mach := ⟨(reps c d.st.toNat).length, d.ev, [0], arrF d.arrows c d.ev.toNat d.st.toNat, endF d.ends c d.st.toNat⟩
def arrL (D : List Arr) (c : Nat → Nat) (ev : Nat) (R : List Nat) : Nat → List Arr
  | 0 => []
  | k + 1 => arrL D c ev R k ++ rowF D c k (R[k]?.getD 0) ev
theorem arrF_eq (D : List Arr) (c : Nat → Nat) (ev N : Nat) : ∀ n, n ≤ N → arrF D c ev n = arrL D c ev (reps c N) (reps c n).length
  | 0, _ => rfl
  | n + 1, h => by
    have ih := arrF_eq D c ev N n (by omega)
    rw [show arrF D c ev (n + 1) = if c n = (reps c n).length then arrF D c ev n ++ rowF D c (c n) n ev else arrF D c ev n from rfl, show reps c (n + 1) = if c n = (reps c n).length then reps c n ++ [n] else reps c n from rfl]
    by_cases e : c n = (reps c n).length
    · rw [if_pos e, if_pos e, List.length_append, List.length_singleton, arrL, ih]
      have : (reps c N)[(reps c n).length]? = some n := by
        refine reps_stay (n := n + 1) h ?_
        rw [reps, if_pos e, List.getElem?_append_right (Nat.le_refl _)]; simp
      rw [this, Option.getD_some, e]
    · rw [if_neg e, if_neg e, ih]
theorem endsG_snoc {σ : Type} (fin : σ → Bool) : ∀ (L : List σ) (k : Nat) (a : σ), endsG fin k (L ++ [a]) = endsG fin k L ++ (if fin a = true then [((k + L.length : Nat) : Int)] else [])
  | [], k, a => by simp only [List.nil_append, endsG, List.length_nil, Nat.add_zero]
  | b :: r, k, a => by
    rw [List.cons_append]
    unfold endsG
    rw [endsG_snoc fin r (k + 1) a, List.length_cons, show k + 1 + r.length = k + (r.length + 1) by omega]
    by_cases h : fin b = true
    · rw [if_pos h, if_pos h, List.cons_append]
    · rw [if_neg h, if_neg h]
theorem endF_eq (E : List Int) (c : Nat → Nat) : ∀ n, endF E c n = endsG (fun x => hasB E x) 0 ((reps c n).map fun (x : Nat) => (x : Int))
  | 0 => rfl
  | n + 1 => by
    have ih := endF_eq E c n
    rw [show endF E c (n + 1) = if c n = (reps c n).length ∧ hasB E (n : Int) = true then endF E c n ++ [((c n : Nat) : Int)] else endF E c n from rfl, show reps c (n + 1) = if c n = (reps c n).length then reps c n ++ [n] else reps c n from rfl]
    by_cases e : c n = (reps c n).length
    · rw [if_pos e, List.map_append, List.map_cons, List.map_nil, endsG_snoc, ← ih, List.length_map, Nat.zero_add]
      by_cases h : hasB E (n : Int) = true
      · rw [if_pos ⟨e, h⟩, if_pos h, e]
      · rw [if_neg (fun q => h q.2), if_neg h, List.append_nil]
    · rw [if_neg (fun q => e q.1), if_neg e, ih]

/-! What is found. -/
/-- A machine's states are numbered as they are found. -/
def BFn (d : Mach) : Prop := ∀ x : Nat, 0 < x → (x : Int) < d.st → ∃ y e : Nat, y < x ∧ (e : Int) < d.ev ∧ toI d.arrows (y : Int) (e : Int) = (x : Int) ∧ ∀ y' e' : Nat, (e' : Int) < d.ev → (y' < y ∨ y' = y ∧ e' < e) → toI d.arrows (y' : Int) (e' : Int) < (x : Int)
theorem lFind_min (c : Nat → Nat) (t : Nat) : ∀ (L : List Nat) (o : Nat), (∀ i x, L[i]? = some x → c x = o + i) → o ≤ c t → lFind (fun x y => decide (c x.toNat ≠ c y.toNat)) (L.map fun (x : Nat) => (x : Int)) (t : Int) = min (c t - o) L.length
  | [], o, _, _ => by simp [lFind]
  | a :: r, o, h, ho => by
    have ha := h 0 a rfl
    rw [List.map_cons, lFind]
    by_cases e : c a = c t
    · rw [if_neg (by simp [e])]
      have : c t - o = 0 := by omega
      rw [this, Nat.zero_min]
    · rw [if_pos (by simp [e]), lFind_min c t r (o + 1) (fun i x hx => by have := h (i + 1) x (by simpa using hx); omega) (by omega), List.length_cons]
      omega
section
variable {d : Mach} {c : Nat → Nat} {N ev : Nat}
/-- What the search knows. -/
structure SF (d : Mach) (c : Nat → Nat) (N ev k e j : Nat) (s : LS) : Prop where
  j1 : 1 ≤ j
  jr : j ≤ (reps c N).length
  fd : s.fd = ((reps c N).take j).map fun (x : Nat) => (x : Int)
  ar : s.ar = arrL d.arrows c ev (reps c N) k ++ rowF d.arrows c k ((reps c N)[k]?.getD 0) e
  cl : ∀ i e' r, (i < k ∧ e' < ev ∨ i = k ∧ e' < e) → (reps c N)[i]? = some r → c (toI d.arrows (r : Int) (e' : Int)).toNat < j
variable (hN : d.st = (N : Int)) (hE : d.ev = (ev : Int)) (hd : detB d = true) (hbf : BFn d) (hrg : RGr c N)
  (hcg : ∀ x y e : Nat, x < N → y < N → e < ev → c x = c y → c (toI d.arrows (x : Int) (e : Int)).toNat = c (toI d.arrows (y : Int) (e : Int)).toNat)
include hN hE hd hbf hrg hcg
theorem rep_found {j x : Nat} (hj : 0 < j) (hx : (reps c N)[j]? = some x) : ∃ i y e : Nat, i < j ∧ e < ev ∧ (reps c N)[i]? = some y ∧ toI d.arrows (y : Int) (e : Int) = (x : Int) ∧ ∀ y' e' : Nat, e' < ev → (y' < y ∨ y' = y ∧ e' < e) → toI d.arrows (y' : Int) (e' : Int) < (x : Int) := by
  obtain ⟨x1, x2, x3⟩ := reps_at c N j x hx
  have hx0 : 0 < x := by
    rcases Nat.eq_zero_or_pos x with e | e
    · rw [e] at x3; simp [reps] at x3; omega
    · exact e
  obtain ⟨y, e, h1, h2, h3, h4⟩ := hbf x hx0 (by omega)
  obtain ⟨r, r1, r2⟩ := reps_of hrg (x := y) (by omega)
  have hry : r = y := by
    by_cases q : r = y
    · exact q
    · exfalso
      have k1 := h4 r e h2 (.inl (by omega))
      have q1 := toI_step hd (Int.natCast_nonneg r) (by omega) (Int.natCast_nonneg e) h2
      have k2 := hcg r y e (by omega) (by omega) (by omega) (reps_at c N _ r r1).2.1
      rw [h3, Int.toNat_natCast, x2] at k2
      obtain ⟨z, z1, z2⟩ := reps_of hrg (x := (toI d.arrows (r : Int) (e : Int)).toNat) (by omega)
      rw [k2, hx] at z1
      have := Option.some.inj z1
      omega
  subst hry
  exact ⟨c r, r, e, reps_mono r1 hx (by omega), by omega, r1, h3, fun y' e' he => h4 y' e' (by omega)⟩
theorem sf_step {k e j : Nat} {s : LS} (h : SF d c N ev k e j s) (hk : k < j) (he : e < ev) : ∃ j', j ≤ j' ∧ SF d c N ev k (e + 1) j' (lStp d.arrows (fun x y => decide (c x.toNat ≠ c y.toNat)) k s e) := by
  have hjr := h.jr
  obtain ⟨r, hr⟩ : ∃ r, (reps c N)[k]? = some r := ⟨_, List.getElem?_eq_getElem (by omega)⟩
  have hrl := reps_at c N k r hr
  have q1 := toI_step hd (Int.natCast_nonneg r) (by omega) (Int.natCast_nonneg e) (by omega)
  obtain ⟨t, ht⟩ : ∃ t : Nat, toI d.arrows (r : Int) (e : Int) = (t : Int) := ⟨_, (Int.toNat_of_nonneg q1.2.1).symm⟩
  have e0 : s.fd[k]?.getD 0 = (r : Int) := by
    rw [h.fd, List.getElem?_map, List.getElem?_take_of_lt hk, hr]; rfl
  have hlen : s.fd.length = j := by rw [h.fd, List.length_map, List.length_take]; omega
  have hfind : lFind (fun x y => decide (c x.toNat ≠ c y.toNat)) s.fd (t : Int) = min (c t) j := by
    rw [h.fd, lFind_min c t _ 0 (fun i x hx => ?_) (Nat.zero_le _), List.length_take, Nat.sub_zero, Nat.min_eq_left hjr]
    have hi := (List.getElem?_eq_some_iff.1 hx).1
    rw [List.length_take] at hi
    rw [List.getElem?_take_of_lt (by omega)] at hx
    rw [(reps_at c N i x hx).2.1]; omega
  have e1 : lStp d.arrows (fun x y => decide (c x.toNat ≠ c y.toNat)) k s e = ⟨if min (c t) j = j then s.fd ++ [(t : Int)] else s.fd, s.ar ++ [⟨(k : Int), (e : Int), (min (c t) j : Nat)⟩]⟩ := by
    unfold lStp; rw [e0, ht, hfind, hlen]
  have hct : ∀ i e' r', (i < k ∧ e' < ev ∨ i = k ∧ e' < e + 1) → (reps c N)[i]? = some r' → c (toI d.arrows (r' : Int) (e' : Int)).toNat < j ∨ (i = k ∧ e' = e ∧ r' = r) := by
    intro i e' r' hie hr'
    by_cases q : i = k ∧ e' = e
    · obtain ⟨rfl, rfl⟩ := q
      rw [hr] at hr'
      exact .inr ⟨rfl, rfl, (Option.some.inj hr').symm⟩
    · exact .inl (h.cl i e' r' (by omega) hr')
  rw [e1]
  by_cases hlt : c t < j
  · have hm : min (c t) j = c t := by omega
    rw [hm, if_neg (by omega)]
    refine ⟨j, Nat.le_refl _, h.j1, hjr, h.fd, ?_, fun i e' r' hie hr' => ?_⟩
    · dsimp only
      rw [h.ar, List.append_assoc, hr, Option.getD_some, rowF_succ, ht, Int.toNat_natCast]
    · rcases hct i e' r' hie hr' with q | ⟨rfl, rfl, rfl⟩
      · exact q
      · rw [ht, Int.toNat_natCast]; exact hlt
  · have hm : min (c t) j = j := by omega
    -- the class j, and where its first state is found
    obtain ⟨z, z1, z2⟩ := reps_of hrg (x := t) (by omega)
    have hjl : j < (reps c N).length := by have := (List.getElem?_eq_some_iff.1 z1).1; omega
    obtain ⟨x, hx⟩ : ∃ x, (reps c N)[j]? = some x := ⟨_, List.getElem?_eq_getElem hjl⟩
    have hxt : x ≤ t := Nat.le_trans (reps_mono' hx z1 (by omega)) z2
    obtain ⟨i, y, e', p1, p2, p3, p4, p5⟩ := rep_found hN hE hd hbf hrg hcg (by have := h.j1; omega) hx
    have hxc := (reps_at c N j x hx).2.1
    have htx : t = x := by
      by_cases q : i < k ∨ i = k ∧ e' < e
      · exfalso
        have := h.cl i e' y (by omega) p3
        rw [p4, Int.toNat_natCast, hxc] at this
        omega
      · by_cases q2 : i = k ∧ e' = e
        · obtain ⟨rfl, rfl⟩ := q2
          rw [hr] at p3
          have := Option.some.inj p3
          subst this
          rw [ht] at p4; omega
        · exfalso
          have hky : r < y ∨ r = y ∧ e < e' := by
            by_cases q3 : i = k
            · subst q3
              rw [hr] at p3
              have := Option.some.inj p3
              subst this
              exact .inr ⟨rfl, by omega⟩
            · by_cases q4 : r < y
              · exact .inl q4
              · exfalso
                have h1 := reps_mono' hr p3 (by omega)
                have h2 := (reps_at c N i y p3).2.1
                have h3 : r = y := by omega
                rw [h3] at hrl
                omega
          have := p5 r e he hky
          rw [ht] at this
          omega
    subst htx
    rw [hm, if_pos rfl]
    refine ⟨j + 1, by omega, by omega, by omega, ?_, ?_, fun i e' r' hie hr' => ?_⟩
    · dsimp only
      rw [h.fd, List.take_add_one, hx, List.map_append]; rfl
    · dsimp only
      rw [h.ar, List.append_assoc, hr, Option.getD_some, rowF_succ, ht, Int.toNat_natCast, hxc]
    · rcases hct i e' r' hie hr' with q | ⟨rfl, rfl, rfl⟩
      · omega
      · rw [ht, Int.toNat_natCast, hxc]; omega
theorem sf_row {k j : Nat} {s : LS} (h : SF d c N ev k 0 j s) (hk : k < j) : ∀ n, n ≤ ev → ∃ j', j ≤ j' ∧ SF d c N ev k n j' (lRow d.arrows (fun x y => decide (c x.toNat ≠ c y.toNat)) k s n)
  | 0, _ => ⟨j, Nat.le_refl _, h⟩
  | n + 1, hn => by
    obtain ⟨j', h1, h2⟩ := sf_row h hk n (by omega)
    rw [lRow_succ]
    obtain ⟨j'', h3, h4⟩ := sf_step hN hE hd hbf hrg hcg h2 (by omega) (by omega)
    exact ⟨j'', by omega, h4⟩
theorem sf_go : ∀ (f k j : Nat) (s : LS), SF d c N ev k 0 j s → k ≤ j → (reps c N).length < f + k → lGo d.arrows (fun x y => decide (c x.toNat ≠ c y.toNat)) ev f k s = ⟨(reps c N).map fun (x : Nat) => (x : Int), arrL d.arrows c ev (reps c N) (reps c N).length⟩
  | 0, k, j, s, h, hk, hf => by have := h.jr; omega
  | f + 1, k, j, s, h, hk, hf => by
    have hjr := h.jr
    have hlen : s.fd.length = j := by rw [h.fd, List.length_map, List.length_take]; omega
    rw [lGo, hlen]
    by_cases hlt : k < j
    · rw [if_pos hlt]
      obtain ⟨j', h1, h2⟩ := sf_row hN hE hd hbf hrg hcg h hlt ev (Nat.le_refl _)
      refine sf_go f (k + 1) j' _ ⟨h2.j1, h2.jr, h2.fd, ?_, fun i e' r hie hr => h2.cl i e' r (by omega) hr⟩ (by omega) (by omega)
      rw [h2.ar, arrL]
      simp [rowF]
    · rw [if_neg hlt]
      have hkj : k = j := by omega
      have hjl : j = (reps c N).length := by
        by_cases q : j = (reps c N).length
        · exact q
        · exfalso
          obtain ⟨x, hx⟩ : ∃ x, (reps c N)[j]? = some x := ⟨_, List.getElem?_eq_getElem (by omega)⟩
          obtain ⟨i, y, e', p1, p2, p3, p4, -⟩ := rep_found hN hE hd hbf hrg hcg (by have := h.j1; omega) hx
          have := h.cl i e' y (by omega) p3
          rw [p4, Int.toNat_natCast, (reps_at c N j x hx).2.1] at this
          omega
      obtain ⟨fd, ar⟩ := s
      have e1 := h.fd
      have e2 := h.ar
      dsimp only at e1 e2
      rw [e1, e2, hkj, hjl, List.take_length]
      simp [rowF]
/-- The machine laid is the one found. -/
theorem fold_least (hN0 : 0 < N) (hR : (reps c N).length ≤ 64) : leastR d (fun x y => decide (c x.toNat ≠ c y.toNat)) = foldM d c := by
  have hc0 : c 0 = 0 := by have := hrg 0 hN0; simpa [reps] using this
  obtain ⟨r, r1, r2⟩ := reps_of hrg hN0
  have hr0 : r = 0 := by omega
  rw [hc0, hr0] at r1
  have hpos := (List.getElem?_eq_some_iff.1 r1).1
  have h := sf_go hN hE hd hbf hrg hcg 65 0 1 ⟨[0], []⟩ ⟨by omega, by omega, by
    show [0] = _
    rw [List.take_add_one, r1]; rfl, by simp [arrL, rowF], fun i e' r hie _ => by omega⟩ (by omega) (by omega)
  have e1 : d.ev.toNat = ev := by omega
  have e2 : d.st.toNat = N := by omega
  unfold leastR lM foldM
  rw [e1, e2, h, List.length_map, arrF_eq d.arrows c ev N N (Nat.le_refl _), endF_eq]
end

/-! The machine of sets is numbered as it is found. -/
structure DFn (s : DS) : Prop where
  lt : ∀ a ∈ s.ar, a.t < (s.sets.length : Int)
  fst : ∀ x : Nat, 0 < x → x < s.sets.length → ∃ (i : Nat) (a : Arr), s.ar[i]? = some a ∧ a.t = (x : Int) ∧ a.f < (x : Int) ∧ ∀ (i' : Nat) (b : Arr), i' < i → s.ar[i']? = some b → b.t < (x : Int)
theorem dfn_step {s : DS} (D : List Arr) {k e : Nat} (h : DFn s) (hk : k < s.sets.length) : DFn (dStep D k s e) := by
  obtain ⟨l, hl⟩ : ∃ l, l = stepL D (s.sets[k]?.getD []) (e : Int) := ⟨_, rfl⟩
  have hle := findL_le s.sets l
  unfold dStep
  rw [← hl]
  by_cases hn : findL s.sets l = s.sets.length
  · rw [if_pos hn, hn]
    refine ⟨fun a ha => ?_, fun x x0 x1 => ?_⟩
    · dsimp only at ha ⊢
      rw [List.length_append, List.length_singleton]
      rcases List.mem_append.1 ha with q | q
      · have := h.lt a q; omega
      · have : a = _ := List.mem_singleton.1 q
        rw [this]; dsimp only; omega
    · dsimp only at x1 ⊢
      rw [List.length_append, List.length_singleton] at x1
      by_cases q : x < s.sets.length
      · obtain ⟨i, a, h1, h2, h3, h4⟩ := h.fst x x0 q
        have hi := (List.getElem?_eq_some_iff.1 h1).1
        exact ⟨i, a, by rw [List.getElem?_append_left hi]; exact h1, h2, h3, fun i' b hi' hb => h4 i' b hi' (by rw [List.getElem?_append_left (by omega)] at hb; exact hb)⟩
      · have ex : x = s.sets.length := by omega
        refine ⟨s.ar.length, ⟨(k : Int), (e : Int), ((s.sets.length : Nat) : Int)⟩, by rw [List.getElem?_append_right (Nat.le_refl _)]; simp, by dsimp only; omega, by dsimp only; omega, fun i' b hi' hb => ?_⟩
        rw [List.getElem?_append_left hi'] at hb
        have := h.lt b (List.mem_of_getElem? hb)
        omega
  · rw [if_neg hn]
    refine ⟨fun a ha => ?_, fun x x0 x1 => ?_⟩
    · dsimp only at ha ⊢
      rcases List.mem_append.1 ha with q | q
      · exact h.lt a q
      · have : a = _ := List.mem_singleton.1 q
        rw [this]; dsimp only; omega
    · obtain ⟨i, a, h1, h2, h3, h4⟩ := h.fst x x0 x1
      have hi := (List.getElem?_eq_some_iff.1 h1).1
      exact ⟨i, a, by dsimp only; rw [List.getElem?_append_left hi]; exact h1, h2, h3, fun i' b hi' hb => h4 i' b hi' (by dsimp only at hb; rw [List.getElem?_append_left (by omega)] at hb; exact hb)⟩
theorem dfn_row {s : DS} (D : List Arr) {k : Nat} (h : DFn s) (hk : k < s.sets.length) : ∀ n, DFn (dRow D k s n)
  | 0 => h
  | n + 1 => by
    rw [dRow_succ]
    obtain ⟨t, ht, -⟩ := dRow_pre D k s n
    exact dfn_step D (dfn_row D h hk n) (by rw [ht, List.length_append]; omega)
theorem dfn_go (D : List Arr) {ev : Nat} : ∀ (f k : Nat) (s s' : DS), DFn s → dGo D ev f k s = some s' → DFn s'
  | 0, k, s, s', h, e => by have e := Option.some.inj e; subst e; exact h
  | f + 1, k, s, s', h, e => by
    rw [dGo] at e
    by_cases hlt : k < s.sets.length
    · rw [if_pos hlt] at e
      by_cases hB : 256 < (dRow D k s ev).sets.length
      · rw [if_pos hB] at e; cases e
      · rw [if_neg hB] at e
        exact dfn_go D f (k + 1) _ s' (dfn_row D h hlt ev) e
    · rw [if_neg hlt] at e
      have e := Option.some.inj e
      subst e
      exact h
theorem det_dfn {m : Mach} {s : DS} (h : detS m = some s) : DFn s :=
  dfn_go m.arrows 257 0 _ s ⟨fun a ha => by simp at ha, fun x x0 x1 => by simp at x1; omega⟩ h
/-- A determined machine's arrows lie in their order. -/
theorem det_arrow {m : Mach} (hm : mayB m = true) {s : DS} (h : detS m = some s) {f e : Nat} (hf : f < s.sets.length) (he : e < m.ev.toNat) : ∃ t : Nat, s.ar[f * m.ev.toNat + e]? = some ⟨(f : Int), (e : Int), (t : Int)⟩ ∧ toI s.ar (f : Int) (e : Int) = (t : Int) ∧ t < s.sets.length := by
  obtain ⟨hdi, -⟩ := detS_di hm h
  obtain ⟨f', e', t, l, h1, h2, h3, h4, h5⟩ := hdi.ar (f * m.ev.toNat + e) (code_bd hf he)
  obtain ⟨q1, q2⟩ := code_inj h3 he h2
  subst q1; subst q2
  obtain ⟨t', k1, k2⟩ := det_step hm h h4 he
  refine ⟨t, h1, ?_, (List.getElem?_eq_some_iff.1 h5).1⟩
  have : t' = t := by
    have e1 := findL_at hdi.nd k2
    have e2 := findL_at hdi.nd h5
    omega
  unfold toI
  rw [k1, this]; rfl
theorem det_bfn {m : Mach} (hm : mayB m = true) {s : DS} (h : detS m = some s) : BFn (detM m s) := by
  intro x x0 x1
  have hz := mayB_size hm
  unfold sizeOk at hz
  obtain ⟨hdi, -⟩ := detS_di hm h
  have x1 : (x : Int) < (s.sets.length : Int) := x1
  obtain ⟨i, a, h1, h2, h3, h4⟩ := (det_dfn h).fst x x0 (by omega)
  have hi := (List.getElem?_eq_some_iff.1 h1).1
  rw [hdi.len] at hi
  obtain ⟨f, e, t, l, k1, k2, k3, k4, k5⟩ := hdi.ar i hi
  rw [h1] at k1
  have ea := Option.some.inj k1
  rw [ea] at h2 h3
  dsimp only at h2 h3
  have hfl := (List.getElem?_eq_some_iff.1 k4).1
  obtain ⟨t1, g1, g2, -⟩ := det_arrow hm h hfl k3
  rw [k2, h1, ea] at g1
  have g1 := Option.some.inj g1
  injection g1 with _ _ g1
  refine ⟨f, e, by omega, by show (e : Int) < m.ev; omega, by show toI s.ar _ _ = _; omega, fun y' e' he' hlt => ?_⟩
  have he' : (e' : Int) < m.ev := he'
  show toI s.ar _ _ < _
  obtain ⟨t2, g3, g4, -⟩ := det_arrow hm h (f := y') (e := e') (by omega) (by omega)
  rw [g4]
  have := h4 (y' * m.ev.toNat + e') _ (by rw [← k2]; exact (code_lt (by omega) k3).2 (by omega)) g3
  exact this

end Go.Proofs.YtkkkacmccndinaaDoor
namespace Go.Proofs.YtkkkacmccndinaaDoor
open Go.RowKit
set_option linter.unusedVariables false

section
variable {P : Program} (w : World)
theorem wp_append_nil {o : Oper} {a : Act} {K : Act → World → Prop} {Q : Exit → Act → World → Prop} (s x : Operand) (t : TypeId)
    (ho : o.op = .call { callee := .builtin .append, args := #[s, x], argTypes := #[t, t] })
    (base : Nat) (e : TypeId) (i : TypeInfo) (size : Nat) (ht : P.underlying t = some (.slice e)) (hi : P.info? e = some i)
    (v : Value) (n : Nat) (xs : List Value) (hs : a.eval s = v) (hown : w.ownsRow base e size v n xs) (hx : a.eval x = .slice none 0 0)
    (h : K (a.put o.dst v) w) : o.wp P a w K Q := by
  have hr := run_append_owned_none (P := P) w base t o.type e i size ht hi v n xs hown
  unfold Oper.wp execOp
  simp only [ho, resolve, invoke, builtin, Sem.run_bind, Sem.run_pure, Result.andThen_ok, List.map_toArray, List.map_cons, List.map_nil, hs, hx, hr]
  exact h

/-- append(v, y...): v is a row of integers of the call's own, y any slice of integers (nil among them). -/
theorem wpList_append_ints {ops : Array Oper} {rest : List Oper} {o : Oper} {a : Act} {Q : Exit → Act → World → Prop} (hgd : o.guard = none) (s x : Operand) (t : TypeId)
    (ho : o.op = .call { callee := .builtin .append, args := #[s, x], argTypes := #[t, t] })
    (B : Nat) (i : TypeInfo) (ht : P.underlying t = some (.slice 3)) (hi : P.info? 3 = some i) (hz : i.zero = some (.int .i64 0)) (hsize : i.size = 1) (hby : i.bytes = 8)
    (v : Value) (L : List Int) (hs : a.eval s = v) (hown : Own w B v L)
    (ad : Option Addr) (c : Nat) (ys : List Int) (hx : a.eval x = .slice ad ys.length c) (hat : At w ad ys) (hnil : ad = none → c = 0)
    (hroom : (L.length + ys.length) * 8 ≤ 140737488355328) (hbase : B ≤ w.heap.size)
    (h : ∀ v' w', Own w' B v' (L ++ ys) → Below B w w' → B ≤ w'.heap.size → wpList P ops Q rest (a.put o.dst v') w') : wpList P ops Q (o :: rest) a w := by
  cases ad with
  | none =>
    have hy : ys = [] := by
      rcases hat with h | ⟨b, off, h, _⟩
      · exact h
      · cases h
    subst hy
    rw [hnil rfl] at hx
    refine wpList_plain hgd fun _ hK => wp_append_nil w s x t ho B 3 i 1 ht hi v _ _ hs hown hx (hK _ _ (h v w ?_ (Below.refl _ _) hbase))
    rw [List.append_nil]; exact hown
  | some ad =>
    refine wpList_append_own w hgd s x t ho B 3 i (.int .i64 0) 1 8 ht hi hz hsize hby rfl (by decide) v _ _ hs hown ad ys.length c (ys.map (Value.int .i64)) hx (by simp) ?_ ?_ (by unfold maxLen; omega) hroom hbase ?_
    · intro j u hu
      rw [List.getElem?_map] at hu
      rcases hat with h0 | ⟨b, off, h0, _, hc⟩
      · subst h0; simp at hu
      · cases h0
        cases hj : ys[j]? with
        | none => rw [hj] at hu; simp at hu
        | some y =>
          rw [hj] at hu
          simp only [Option.map_some, Option.some.injEq] at hu
          subst hu
          have := hc j (List.getElem?_eq_some_iff.1 hj).1
          rw [List.getD_eq_getElem?_getD, hj, Option.getD_some] at this
          rw [show (⟨b, off, none⟩ : Addr).add j = ⟨b, off + j, none⟩ from by simp [Addr.add]]
          exact this
    · intro u hu
      obtain ⟨y, _, rfl⟩ := List.mem_map.1 hu
      rfl
    · intro v' w' ho' hg _
      refine h v' w' ?_ ((Below.refl _ _).grown hg hbase (fun j hj => (hown.lt j hj).1)) (Nat.le_trans hbase hg.size)
      unfold Own
      rw [List.length_append, List.map_append]
      exact ho'
end

theorem own_empty (w : World) : Own (w.alloc (.cells #[] 3)) w.heap.size (.slice (some ⟨w.heap.size, 0, none⟩) 0 0) [] :=
  World.ownsRow_lit w #[] 0 (Nat.le_refl _) (Nat.zero_le _) rfl

end Go.Proofs.YtkkkacmccndinaaDoor
namespace Go.Proofs.YtkkkacmccndinaaDoor
open Go.RowKit
set_option linter.unusedVariables false

set_option maxHeartbeats 2000000 in
set_option maxRecDepth 100000 in
theorem refStep_some (st ev : Int) (starts : List Int) (ars : List Arr) (ends : List Int) (a1 : Option Addr) (c1 b off c2 : Nat) (a3 : Option Addr) (c3 : Nat) (sa : Option Addr) (sc : Nat) (ss : List Int) (x : Int) (w : World) (hlen : ars.length ≤ 17592186044416) (hb : b < w.heap.size) (hca : CellsA w b off ars) (hs : At w sa ss) (hl : ss.length ≤ maxLen) :
    Calls Tryd.prog 48 #[mval ⟨st, ev, starts, ars, ends⟩ ⟨a1, c1, some ⟨b, off, none⟩, c2, a3, c3⟩, .slice sa ss.length sc, .int .i64 x] w fun e w' => GivesO w (stepL ars ss x) e w' := by
  obtain ⟨i0, hi, hz0, hz1, hz2⟩ := info_parts Tryd.infoInt
  go_enter Tryd.func48, Tryd.ntmps48
  go_wp2
  go_loopw [7, 8] (fun v i wr => ∃ k : Nat, k ≤ ars.length ∧ i = .int .i64 k ∧ Own wr (w.heap.size + 1) v (stepTo (ars.take k) ss x) ∧ Below (w.heap.size + 1) (w.alloc (.cells (mcells ⟨st, ev, starts, ars, ends⟩ ⟨a1, c1, some ⟨b, off, none⟩, c2, a3, c3⟩) 25)) wr) (fun _ i _ => ars.length - (intOf i).toNat)
  case atStart => exact ⟨0, Nat.zero_le _, rfl, own_nil _ _, Below.refl _ _⟩
  case round =>
    obtain ⟨k, hk, rfl, hown, hbel⟩ := hrel
    have hold := below_box hbel
    have hsz := hbel.size
    rw [World.size_alloc] at hsz
    have hbx : w.heap.size < wr.heap.size := by omega
    have hbr : b < wr.heap.size := by omega
    have hbox := (box_cells hbel).2.2.2.1
    dsimp only at hbox
    by_cases hlt : k < ars.length
    · obtain ⟨a, HA, y0, y1, y2⟩ := hca.at hlt
      have y0' := (hold.cell (p := ⟨b, off + k * 3, none⟩) hb).trans y0
      have y1' := (hold.cell (p := ⟨b, off + k * 3 + 1, none⟩) hb).trans y1
      have y2' := (hold.cell (p := ⟨b, off + k * 3 + 2, none⟩) hb).trans y2
      clear y0 y1 y2
      have hsr := hs.below hold (Nat.le_refl _)
      have hll := stepTo_len (ars.take k) ss x
      rw [List.length_take] at hll
      have HN := stepTo_take (ss := ss) (e := x) hlt HA
      by_cases c1' : a.e = x
      · have g1 : (a.e == x) = true := by simp [c1']
        have HC : Hid (a.e = x) := c1'
        clear c1'
        go_wp2_with fail
        refine (refHas_any sa sc ss a.f _ hsr hl).mono ?_
        rintro e w1 ⟨rfl, rfl⟩
        by_cases c2' : hasB ss a.f = true
        · rw [if_pos (by rw [g1, c2']; rfl)] at HN
          have HN' : Hid (stepTo (ars.take (k + 1)) ss x = stepTo (ars.take k) ss x ++ [a.t]) := HN
          clear HN
          go_wp2_with (at_builtin; refine wpList_append_own _ rfl _ _ 22 rfl (w.heap.size + 1) 3 i0 (.int .i64 0) 1 8 Tryd.underlying22 hi hz0 hz1 hz2 rfl (by decide) _ _ _ rfl (World.ownsRow.alloc hown _) ⟨w1.heap.size, 0, none⟩ 1 1 [.int .i64 a.t] rfl rfl (cell_one_new _ _ _) (by intro u hu; simp at hu; subst hu; rfl) (by unfold maxLen; omega) (by omega) (by simp; omega) ?_)
          intro v' w2 hown' hgrow _
          obtain ⟨r1, r2, -⟩ := own_snoc hown hbel (by omega) hown' hgrow
          rw [← HN'.out] at r1
          clear hown' hgrow hown
          go_wp2
          go_roundw
          case rel => exact ⟨k + 1, by omega, by go_num, r1, r2⟩
          case measure => simp [intOf]; omega
        · have c3' : hasB ss a.f = false := by simpa using c2'
          rw [if_neg (by rw [c3']; simp)] at HN
          have r1 := hown
          rw [← HN] at r1
          clear HN c2'
          go_wp2
          go_roundw
          case rel => exact ⟨k + 1, by omega, by go_num, r1, hbel⟩
          case measure => simp [intOf]; omega
      · have g1 : (a.e == x) = false := by simp [c1']
        rw [if_neg (by rw [g1]; simp)] at HN
        have r1 := hown
        rw [← HN] at r1
        clear HN
        go_wp2
        go_roundw
        case rel => exact ⟨k + 1, by omega, by go_num, r1, hbel⟩
        case measure => simp [intOf]; omega
    · have htk : Hid (ars.take k = ars) := List.take_of_length_le (by omega)
      rw [htk.out] at hown
      have hl2 := stepTo_len ars ss x
      obtain ⟨a', c', rfl, h3, l3⟩ := hown.at
      go_wp2_with fail
      refine (sorted_own a' c' (stepTo ars ss x) _ h3 (by omega)).mono ?_
      rintro e w1 ⟨v4, rfl, o4, b4⟩
      have bb : Below w.heap.size w w1 := hold.trans (b4.mono (by omega))
      go_wp2
      go_ret
      exact ⟨v4, rfl, o4.low (by omega), bb⟩

set_option maxHeartbeats 400000 in
theorem refStep_nil (st ev : Int) (starts : List Int) (ends : List Int) (l : ML) (sa : Option Addr) (sc : Nat) (ss : List Int) (x : Int) (w : World) :
    Calls Tryd.prog 48 #[mval ⟨st, ev, starts, [], ends⟩ l, .slice sa ss.length sc, .int .i64 x] w fun e w' => GivesO w [] e w' := by
  go_enter Tryd.func48, Tryd.ntmps48
  go_wp2_with fail
  refine wp_loop_rounds 1 ?_
  rw [rounds_succ]
  go_wp2_with fail
  refine (sorted_nil none 0 _).mono ?_
  rintro e w1 ⟨rfl, rfl⟩
  go_wp2
  go_ret
  exact ⟨_, rfl, own_nil _ _, (Below.refl _ _).alloc (Nat.le_refl _) _⟩

theorem refStep_own (m : Mach) (l : ML) (sa : Option Addr) (sc : Nat) (ss : List Int) (x : Int) (w : World) (ha : AtA w l.a2 m.arrows) (hlen : m.arrows.length ≤ 17592186044416) (hs : At w sa ss) (hl : ss.length ≤ maxLen) :
    Calls Tryd.prog 48 #[mval m l, .slice sa ss.length sc, .int .i64 x] w fun e w' => GivesO w (stepL m.arrows ss x) e w' := by
  obtain ⟨st, ev, starts, ars, ends⟩ := m
  obtain ⟨a1, c1, a2, c2, a3, c3⟩ := l
  rcases ha with h0 | ⟨b, off, h0, hb, hc⟩
  · have h0 : ars = [] := h0
    subst h0
    exact refStep_nil st ev starts ends _ sa sc ss x w
  · have h0 : a2 = some ⟨b, off, none⟩ := h0
    subst h0
    exact refStep_some st ev starts ars ends a1 c1 b off c2 a3 c3 sa sc ss x w hlen hb hc hs hl

theorem refStep_any (m : Mach) (l : ML) (sa : Option Addr) (sc : Nat) (ss : List Int) (x : Int) (w : World) (ha : AtA w l.a2 m.arrows) (hlen : m.arrows.length ≤ 17592186044416) (hs : At w sa ss) (hl : ss.length ≤ maxLen) :
    Calls Tryd.prog 48 #[mval m l, .slice sa ss.length sc, .int .i64 x] w fun e w' => Gives w (stepL m.arrows ss x) e w' :=
  (refStep_own m l sa sc ss x w ha hlen hs hl).mono fun _ _ h => h.gives

end Go.Proofs.YtkkkacmccndinaaDoor
namespace Go.Proofs.YtkkkacmccndinaaDoor
open Go.RowKit
set_option linter.unusedVariables false

theorem at_oneT (W : World) (x : Int) : At (W.alloc (.cells #[.int .i64 x] 3)) (some ⟨W.heap.size, 0, none⟩) [x] := by
  refine .inr ⟨W.heap.size, 0, rfl, by simp, fun j hj => ?_⟩
  have hj : j = 0 := by simp at hj; exact hj
  subst hj
  exact (Blk.new W 3 #[.int .i64 x]).cell 0 rfl
set_option maxRecDepth 100000 in
set_option maxHeartbeats 4000000 in
theorem rTo_any (d : Mach) (l : ML) (s e : Int) (w : World) (h : Hid (MAt w d l)) (hd : Hid (detB d = true)) (hs : Hid (0 ≤ s ∧ s < d.st)) (he : Hid (0 ≤ e ∧ e < d.ev)) :
    Calls Tryd.prog 77 #[mval d l, .int .i64 s, .int .i64 e] w fun r w' => r = .returned (.int .i64 (toI d.arrows s e)) ∧ Below w.heap.size w w' := by
  have hm : mayB d = true := by have := hd.out; unfold detB at this; rw [Bool.and_eq_true] at this; exact this.1
  have hz := mayB_size hm
  have HL : Hid (d.arrows.length ≤ 17592186044416) := by unfold sizeOk at hz; show _ ≤ _; omega
  clear hz hm
  obtain ⟨q1, -, -⟩ := toI_step hd.out hs.out.1 hs.out.2 he.out.1 he.out.2
  obtain ⟨t, ht⟩ : ∃ t, Hid (t = toI d.arrows s e) := ⟨_, rfl⟩
  rw [← ht.out] at q1 ⊢
  have HQ := Hid.of q1
  clear q1
  have B0 : Hid (Below w.heap.size w ((w.alloc (.cells (mcells d l) 25)).alloc (.cells #[.int .i64 s] 3))) := ((Below.refl _ _).alloc (Nat.le_refl _) _).alloc (by simp) _
  have A0 : Hid (At ((w.alloc (.cells (mcells d l) 25)).alloc (.cells #[.int .i64 s] 3)) (some ⟨w.heap.size + 1, 0, none⟩) [s]) := by
    have := at_oneT (w.alloc (.cells (mcells d l) 25)) s
    rwa [World.size_alloc] at this
  go_enter Tryd.func77, Tryd.ntmps77
  go_wp2_with fail
  refine (refStep_own d l (some ⟨w.heap.size + 1, 0, none⟩) 1 [s] e _ (h.out.below B0.out (Nat.le_refl _)).a HL.out A0.out (by simp [maxLen])).mono ?_
  rintro r V ⟨v, rfl, ov, hb⟩
  rw [HQ.out] at ov
  have B1 := Hid.of (B0.out.trans (hb.mono B0.out.size))
  obtain ⟨va, vc, rfl, at1, -⟩ := ov.at
  clear ov hb B0 A0
  rcases at1 with h0 | ⟨g, o, rfl, hg, hc⟩
  · cases h0
  · have c0 : V.cell? ⟨g, o, none⟩ = some (.int .i64 t) := hc 0 (by simp)
    clear hc hg
    go_wp2
    go_ret
    exact ⟨rfl, B1.out⟩

end Go.Proofs.YtkkkacmccndinaaDoor
namespace Go.Proofs.YtkkkacmccndinaaDoor
open Go.RowKit
set_option linter.unusedVariables false

/-- Block b has n cells of type t, and j holds f j. -/
def RowC (W : World) (b : Nat) (t : TypeId) (n : Nat) (f : Nat → Value) : Prop := ∃ cs : Array Value, Blk W b t cs ∧ cs.size = n ∧ ∀ j, j < n → cs[j]? = some (f j)
theorem RowC.cell {W : World} {b n : Nat} {t : TypeId} {f : Nat → Value} (h : RowC W b t n f) {j : Nat} (hj : j < n) : W.cell? ⟨b, j, none⟩ = some (f j) := by
  obtain ⟨cs, hb, -, hc⟩ := h
  exact hb.cell j (hc j hj)
theorem RowC.lt {W : World} {b n : Nat} {t : TypeId} {f : Nat → Value} (h : RowC W b t n f) : b < W.heap.size := by
  obtain ⟨cs, hb, -, -⟩ := h
  exact hb.lt
theorem RowC.below {W W' : World} {b n B : Nat} {t : TypeId} {f : Nat → Value} (h : RowC W b t n f) (hb : Below B W W') (hB : b < B) : RowC W' b t n f := by
  obtain ⟨cs, h1, h2, h3⟩ := h
  exact ⟨cs, h1.below hb hB, h2, h3⟩
theorem RowC.same {W W' : World} {b n : Nat} {t : TypeId} {f : Nat → Value} (h : RowC W b t n f) (hb : W'.heap[b]? = W.heap[b]?) : RowC W' b t n f := by
  obtain ⟨cs, h1, h2, h3⟩ := h
  exact ⟨cs, hb.trans h1, h2, h3⟩
theorem RowC.congr {W : World} {b n : Nat} {t : TypeId} {f g : Nat → Value} (h : RowC W b t n f) (hfg : ∀ j, j < n → f j = g j) : RowC W b t n g := by
  obtain ⟨cs, h1, h2, h3⟩ := h
  exact ⟨cs, h1, h2, fun j hj => by rw [h3 j hj, hfg j hj]⟩
theorem RowC.made {W : World} {b n : Nat} {t : TypeId} {x : Value} (h : Blk W b t (madeCells #[x] n)) : RowC W b t n (fun _ => x) :=
  ⟨_, h, by simp [madeCells], fun j hj => by simp [madeCells, hj, Nat.mod_one]⟩
theorem RowC.set {W : World} {b n : Nat} {t : TypeId} {f : Nat → Value} (h : RowC W b t n f) {j : Nat} (hj : j < n) (v : Value) : RowC (W.setCell ⟨b, j, none⟩ v) b t n (fun i => if i = j then v else f i) := by
  obtain ⟨cs, h1, h2, h3⟩ := h
  refine ⟨_, h1.set j v, by simp [h2], fun i hi => ?_⟩
  by_cases e : i = j
  · subst e; dsimp only; rw [if_pos rfl]; simp [h2, hi]
  · dsimp only; rw [if_neg e, ← h3 i hi]; simp [Ne.symm e]
theorem RowC.other {W : World} {b b' n j : Nat} {t : TypeId} {f : Nat → Value} (h : RowC W b t n f) (hne : b' ≠ b) (v : Value) : RowC (W.setCell ⟨b', j, none⟩ v) b t n f := by
  obtain ⟨cs, h1, h2, h3⟩ := h
  exact ⟨cs, Blk.other h1 hne.symm v, h2, h3⟩

/-- The value of a row of the table of booleans. -/
abbrev rowV (n K : Nat) (q : Nat → Nat) (s : Nat) : Value := if s < K then .slice (some ⟨q s, 0, none⟩) n n else .slice none 0 0
/-- What Apart knows of the memory: K rows of the table T are there; leads has v, whose rows read as Ld. -/
structure AT (w W : World) (d : Mach) (l : ML) (n K : Nat) (q : Nat → Nat) (T : Nat → Nat → Bool) (v : Nat → Value) (Ld : Nat → List Int) : Prop where
  bel : Below w.heap.size w W
  kd : Blk W w.heap.size 25 (mcells d l)
  pa : RowC W (w.heap.size + 1) 101 n (rowV n K q)
  pl : RowC W (w.heap.size + 2) 22 n v
  rw : ∀ s, s < K → RowC W (q s) 4 n (fun t => .bool (T s t))
  qi : ∀ s s', s < K → s' < K → q s = q s' → s = s'
  ql : ∀ s, s < K → w.heap.size + 3 ≤ q s
  le : ∀ s, s < n → Own W (w.heap.size + 3) (v s) (Ld s)
  ap : ∀ s s' g, s < n → s' < n → s ≠ s' → (v s).ownBlock = some g → (v s').ownBlock ≠ some g
section
variable {w W : World} {d : Mach} {l : ML} {n K : Nat} {q : Nat → Nat} {T : Nat → Nat → Bool} {v : Nat → Value} {Ld : Nat → List Int}
theorem AT.below {W' : World} (h : AT w W d l n K q T v Ld) (hb : Below W.heap.size W W') : AT w W' d l n K q T v Ld :=
  ⟨h.bel.trans (hb.mono h.bel.size), h.kd.below hb h.kd.lt, h.pa.below hb h.pa.lt, h.pl.below hb h.pl.lt, fun s hs => (h.rw s hs).below hb (h.rw s hs).lt, h.qi, h.ql, fun s hs => own_same (h.le s hs) (fun k hk => hb.block k (World.ownsRow.lt (h.le s hs) k hk).2), h.ap⟩
/-- One cell of the table is set. -/
theorem AT.set (h : AT w W d l n K q T v Ld) {s t : Nat} (hs : s < K) (ht : t < n) (b : Bool) : AT w (W.setCell ⟨q s, t, none⟩ (.bool b)) d l n K q (fun x y => if x = s ∧ y = t then b else T x y) v Ld := by
  have hq := h.ql s hs
  have hty : ∀ x, x < n → (v x).ownBlock ≠ some (q s) := fun x hx e => by
    obtain ⟨cs, hc⟩ := own_type (h.le x hx) e
    obtain ⟨cs', hr, -, -⟩ := h.rw s hs
    have hr : W.heap[q s]? = some (.cells cs' 4 (0, 0)) := hr
    rw [hc] at hr
    have := Option.some.inj hr
    injection this with _ e2 _
    exact absurd e2 (by decide)
  refine ⟨h.bel.setCell (p := ⟨q s, t, none⟩) (show w.heap.size ≤ q s by omega) _, h.kd.other (by omega) _, h.pa.other (by omega) _, h.pl.other (by omega) _, fun x hx => ?_, h.qi, h.ql, fun x hx => own_same (h.le x hx) (fun k hk => Below.heap_setCell W ⟨q s, t, none⟩ _ k (fun e => hty x hx (by rw [hk]; exact congrArg some e))), h.ap⟩
  by_cases e : x = s
  · subst e
    refine ((h.rw x hx).set ht (.bool b)).congr (fun j hj => ?_)
    by_cases e2 : j = t
    · rw [if_pos e2, if_pos ⟨rfl, e2⟩]
    · rw [if_neg e2, if_neg (fun h => e2 h.2)]
  · refine ((h.rw x hx).other (fun e2 => e (h.qi s x hs hx e2).symm) _).congr (fun j hj => ?_)
    rw [if_neg (fun h => e h.1)]
/-- One row more. -/
theorem AT.row (h : AT w W d l n K q T v Ld) (hK : K < n) : AT w ((W.alloc (.cells (madeCells #[.bool false] n) 4)).setCell ⟨w.heap.size + 1, K, none⟩ (.slice (some ⟨W.heap.size, 0, none⟩) n n)) d l n (K + 1) (fun s => if s = K then W.heap.size else q s) (fun x y => if x = K then false else T x y) v Ld := by
  have hb : Below W.heap.size W (W.alloc (.cells (madeCells #[.bool false] n) 4)) := (Below.refl _ _).alloc (Nat.le_refl _) _
  have h' := h.below hb
  have lp := h.pl.lt
  have lq : ∀ s, s < K → q s < W.heap.size := fun s hs => (h.rw s hs).lt
  refine ⟨h'.bel.setCell (p := ⟨w.heap.size + 1, K, none⟩) (show w.heap.size ≤ w.heap.size + 1 by omega) _, h'.kd.other (by omega) _, ?_, h'.pl.other (by omega) _, fun x hx => ?_, fun x y hx hy e => ?_, fun x hx => ?_, fun x hx => own_same (h'.le x hx) (fun k hk => Below.heap_setCell _ ⟨w.heap.size + 1, K, none⟩ _ k (fun e => by have h1 := (World.ownsRow.lt (h'.le x hx) k hk).1; have e : k = w.heap.size + 1 := e; omega)), h.ap⟩
  · refine (h'.pa.set hK _).congr (fun j hj => ?_)
    by_cases e : j = K
    · subst e; rw [if_pos rfl]; unfold rowV; rw [if_pos (by omega)]; dsimp only; rw [if_pos rfl]
    · rw [if_neg e]; unfold rowV
      by_cases e2 : j < K
      · rw [if_pos e2, if_pos (by omega)]; dsimp only; rw [if_neg e]
      · rw [if_neg e2, if_neg (by omega)]
  · by_cases e : x = K
    · subst e
      rw [if_pos rfl]
      refine (RowC.other ?_ (by omega) _).congr (g := fun t => .bool (if x = x then false else T x t)) (fun j hj => by rw [if_pos rfl])
      exact RowC.made (Blk.new W _ _)
    · have := lq x (by omega)
      have := h.ql x (by omega)
      rw [if_neg e]
      refine ((h'.rw x (by omega)).other (by omega) _).congr (fun j hj => by rw [if_neg e])
  · by_cases ex : x = K
    · by_cases ey : y = K
      · omega
      · rw [if_pos ex, if_neg ey] at e
        have := lq y (by omega); omega
    · by_cases ey : y = K
      · rw [if_neg ex, if_pos ey] at e
        have := lq x (by omega); omega
      · rw [if_neg ex, if_neg ey] at e
        exact h.qi x y (by omega) (by omega) e
  · by_cases ex : x = K
    · rw [if_pos ex]; omega
    · rw [if_neg ex]; exact h.ql x (by omega)
/-- One number more in a row of leads. -/
theorem AT.lead {W2 W3 : World} {v' : Value} {t : Int} (h : AT w W d l n K q T v Ld) (hW3 : Below W.heap.size W W3) {s : Nat} (hs : s < n) (o1 : Own W2 (w.heap.size + 3) v' (Ld s ++ [t])) (g : W3.grownBy W2 (v s).ownBlock) (fr : v'.ownBlock = (v s).ownBlock ∨ v'.ownBlock = some W3.heap.size) :
    RowC W2 (w.heap.size + 2) 22 n v ∧ AT w (W2.setCell ⟨w.heap.size + 2, s, none⟩ v') d l n K q T (fun x => if x = s then v' else v x) (fun x => if x = s then Ld s ++ [t] else Ld x) := by
  have h3 := h.below hW3
  have lp := h3.pl.lt
  have low : ∀ j, j < w.heap.size + 3 → W2.heap[j]? = W3.heap[j]? := fun j hj => g.block j (by omega) (fun e => by have := (World.ownsRow.lt (h3.le s hs) j e.symm).1; omega)
  have hty : ∀ (j : Nat) (cs : Array Value) (ty : TypeId), ty ≠ 3 → W3.heap[j]? = some (.cells cs ty (0, 0)) → W2.heap[j]? = W3.heap[j]? := fun j cs ty ht hq => g.block j (Array.getElem?_eq_some_iff.1 hq).1 (fun e => by
    obtain ⟨c2, h2⟩ := own_type (h3.le s hs) e.symm
    rw [hq] at h2; cases h2; exact ht rfl)
  have pl2 : RowC W2 (w.heap.size + 2) 22 n v := h3.pl.same (low _ (by omega))
  have bl2 : Below w.heap.size w W2 := h3.bel.grown g h3.bel.size (fun j hj => Nat.le_trans (by omega) (World.ownsRow.lt (h3.le s hs) j hj).1)
  refine ⟨pl2, ⟨bl2.setCell (p := ⟨w.heap.size + 2, s, none⟩) (show w.heap.size ≤ w.heap.size + 2 by omega) _, Blk.other ((low _ (by omega)).trans h3.kd) (by omega) _, (h3.pa.same (low _ (by omega))).other (by omega) _, (pl2.set hs v').congr (fun j hj => rfl), fun x hx => ?_, h.qi, h.ql, fun x hx => ?_, fun x y b hx hy hne e1 e2 => ?_⟩⟩
  · have h1 := h3.rw x hx
    have h2 := h.ql x hx
    obtain ⟨cs, hb, -, -⟩ := id h1
    exact (h1.same (hty _ cs _ (by decide) hb)).other (by omega) _
  · have keep : ∀ {u : Value} {L : List Int}, Own W2 (w.heap.size + 3) u L → Own (W2.setCell ⟨w.heap.size + 2, s, none⟩ v') (w.heap.size + 3) u L := fun ho => own_same ho (fun k hk => Below.heap_setCell _ ⟨w.heap.size + 2, s, none⟩ _ k (fun e => by have h1 := (World.ownsRow.lt ho k hk).1; have e : k = w.heap.size + 2 := e; omega))
    by_cases e : x = s
    · rw [if_pos e, if_pos e]; exact keep o1
    · rw [if_neg e, if_neg e]
      refine keep (own_same (h3.le x hx) (fun k hk => g.block k (World.ownsRow.lt (h3.le x hx) k hk).2 (fun e2 => h.ap x s k hx hs e hk e2.symm)))
  · by_cases ex : x = s
    · by_cases ey : y = s
      · omega
      · rw [if_pos ex] at e1
        rw [if_neg ey] at e2
        rcases fr with f | f
        · rw [f] at e1; exact h.ap s y b hs hy (by omega) e1 e2
        · rw [f] at e1
          have := (World.ownsRow.lt (h3.le y hy) b e2).2
          have := Option.some.inj e1
          omega
    · by_cases ey : y = s
      · rw [if_neg ex] at e1
        rw [if_pos ey] at e2
        rcases fr with f | f
        · rw [f] at e2; exact h.ap x s b hx hs (by omega) e1 e2
        · rw [f] at e2
          have := (World.ownsRow.lt (h3.le x hx) b e1).2
          have := Option.some.inj e2
          omega
      · rw [if_neg ex] at e1
        rw [if_neg ey] at e2
        exact h.ap x y b hx hy hne e1 e2
end

end Go.Proofs.YtkkkacmccndinaaDoor
