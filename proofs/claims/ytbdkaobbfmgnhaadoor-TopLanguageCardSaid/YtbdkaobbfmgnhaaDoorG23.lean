/-
  Plain: a machine laid by the first state of each class, in the order of a determined machine's own numbers: it is the one that is found, where those numbers are in the order found. No program, no model.
  What the walk of jalousieref8.Least knows of the memory.
  Plain: what holds while the least machine is found by a determined machine's states. No program, no model.
  What least.Least leaves; which machines are the same.
  The walk of jalousieref8.to: where a state of a determined machine leads to.
  What the walk of jalousieref8.Apart knows of the memory: a row of rows of booleans, and a row of rows of integers that are appended to.
  How many pairs are not yet told apart; what a sweep of Apart knows.
-/
import Derived.Test.YtbdkaobbfmgnhaaDoorG22
import Derived.Test.YtbdkaobbfmgnhaaDoorG21
import Derived.Test.YtbdkaobbfmgnhaaDoorG20
import Derived.Test.YtbdkaobbfmgnhaaDoorG14
import Derived.Test.YtbdkaobbfmgnhaaDoorG03
import Derived.Test.YtbdkaobbfmgnhaaDoorG06
import Derived.Test.YtbdkaobbfmgnhaaDoorG08
namespace Go.Proofs.YtbdkaobbfmgnhaaDoor
open Go.RowKit
set_option linter.unusedVariables false
set_option linter.unusedSectionVars false

/-! First states of classes. -/
def reps (c : Nat → Nat) : Nat → List Nat
  | 0 => []
  | n + 1 => if c n = (reps c n).length then reps c n ++ [n] else reps c n
/-- Classes are numbered as they come. -/
def RGr (c : Nat → Nat) (N : Nat) : Prop := ∀ n, n < N → c n ≤ (reps c n).length
theorem reps_pre (c : Nat → Nat) (n : Nat) : ∀ k, ∃ t, reps c (n + k) = reps c n ++ t
  | 0 => ⟨[], by simp⟩
  | k + 1 => by
    obtain ⟨t, ht⟩ := reps_pre c n k
    rw [← Nat.add_assoc, reps]
    split
    · exact ⟨t ++ [n + k], by rw [ht, List.append_assoc]⟩
    · exact ⟨t, ht⟩
theorem reps_le (c : Nat → Nat) {n k : Nat} (h : n ≤ k) : (reps c n).length ≤ (reps c k).length := by
  obtain ⟨t, ht⟩ := reps_pre c n (k - n)
  rw [show n + (k - n) = k by omega] at ht
  rw [ht, List.length_append]; omega
theorem reps_stay {c : Nat → Nat} {n k i x : Nat} (h : n ≤ k) (hx : (reps c n)[i]? = some x) : (reps c k)[i]? = some x := by
  obtain ⟨t, ht⟩ := reps_pre c n (k - n)
  rw [show n + (k - n) = k by omega] at ht
  rw [ht, List.getElem?_append_left (List.getElem?_eq_some_iff.1 hx).1]; exact hx
theorem reps_len (c : Nat → Nat) : ∀ n, (reps c n).length ≤ n
  | 0 => by simp [reps]
  | n + 1 => by
    have := reps_len c n
    unfold reps
    split
    · rw [List.length_append, List.length_singleton]; omega
    · omega
theorem reps_at (c : Nat → Nat) : ∀ (n i x : Nat), (reps c n)[i]? = some x → x < n ∧ c x = i ∧ (reps c x).length = i
  | 0, i, x, h => by simp [reps] at h
  | n + 1, i, x, h => by
    unfold reps at h
    split at h
    · rename_i e
      by_cases hi : i < (reps c n).length
      · rw [List.getElem?_append_left hi] at h
        obtain ⟨h1, h2⟩ := reps_at c n i x h
        exact ⟨by omega, h2⟩
      · have hl := (List.getElem?_eq_some_iff.1 h).1
        rw [List.length_append, List.length_singleton] at hl
        have e2 : i = (reps c n).length := by omega
        rw [List.getElem?_append_right (by omega), e2] at h
        have e3 : n = x := by simpa using h
        subst e3
        exact ⟨by omega, by omega, e2.symm⟩
    · obtain ⟨h1, h2⟩ := reps_at c n i x h
      exact ⟨by omega, h2⟩
theorem reps_of {c : Nat → Nat} {N x : Nat} (h : RGr c N) (hx : x < N) : ∃ r, (reps c N)[c x]? = some r ∧ r ≤ x := by
  by_cases e : c x = (reps c x).length
  · refine ⟨x, reps_stay (n := x + 1) (by omega) ?_, Nat.le_refl _⟩
    rw [reps, if_pos e, e, List.getElem?_append_right (Nat.le_refl _)]; simp
  · have h1 := h x hx
    have h2 : c x < (reps c x).length := by omega
    obtain ⟨r, hr⟩ : ∃ r, (reps c x)[c x]? = some r := ⟨_, List.getElem?_eq_getElem h2⟩
    exact ⟨r, reps_stay (by omega) hr, by have := (reps_at c x _ r hr).1; omega⟩
theorem reps_mono {c : Nat → Nat} {N i j x y : Nat} (hx : (reps c N)[i]? = some x) (hy : (reps c N)[j]? = some y) (h : x < y) : i < j := by
  have h1 := (reps_at c N i x hx).2.2
  have h2 := (reps_at c N j y hy)
  have h3 : (reps c (x + 1)).length ≤ j := by rw [← h2.2.2]; exact reps_le c h
  have h4 := (reps_at c N i x hx).2.1
  rw [reps, if_pos (by omega), List.length_append, List.length_singleton] at h3
  omega
theorem reps_mono' {c : Nat → Nat} {N i j x y : Nat} (hx : (reps c N)[i]? = some x) (hy : (reps c N)[j]? = some y) (h : i ≤ j) : x ≤ y := by
  by_cases e : x ≤ y
  · exact e
  · have := reps_mono hy hx (by omega); omega
/-- What is numbered as it is found. -/
theorem cls_rg {σ : Type} [DecidableEq σ] (f : Nat → σ) (N : Nat) : RGr (cls f N) N ∧ ∀ n, n ≤ N → (reps (cls f N) n).length = (fnd f n).length := by
  have key : ∀ n, n ≤ N → (reps (cls f N) n).length = (fnd f n).length := by
    intro n
    induction n with
    | zero => intro _; rfl
    | succ n ih =>
      intro hn
      have ih := ih (by omega)
      have hc : cls f N n = cls f (n + 1) n := by
        have := cls_stays f (n := n + 1) (x := n) (by omega) (N - (n + 1))
        rw [show n + 1 + (N - (n + 1)) = N by omega] at this
        exact this
      have hr : reps (cls f N) (n + 1) = if cls f N n = (reps (cls f N) n).length then reps (cls f N) n ++ [n] else reps (cls f N) n := rfl
      have hf : fnd f (n + 1) = if f n ∈ fnd f n then fnd f n else fnd f n ++ [f n] := rfl
      have hc' : cls f N n = (fnd f (n + 1)).idxOf (f n) := hc
      by_cases h : f n ∈ fnd f n
      · have := List.idxOf_lt_length_of_mem h
        rw [if_pos h] at hf
        rw [hf] at hc'
        rw [hr, hf, if_neg (by omega), ih]
      · rw [if_neg h] at hf
        rw [hf, List.idxOf_append, if_neg h] at hc'
        have e0 : List.idxOf (f n) [f n] = 0 := by simp
        rw [e0] at hc'
        rw [hr, hf, if_pos (by omega), List.length_append, List.length_append, ih]; rfl
  refine ⟨fun n hn => ?_, key⟩
  rw [key n (by omega)]
  have hc : cls f N n = cls f (n + 1) n := by
    have := cls_stays f (n := n + 1) (x := n) (by omega) (N - (n + 1))
    rw [show n + 1 + (N - (n + 1)) = N by omega] at this
    exact this
  have h1 := cls_lt f (n := n + 1) (x := n) (by omega)
  have h2 : (fnd f (n + 1)).length ≤ (fnd f n).length + 1 := by
    rw [show fnd f (n + 1) = if f n ∈ fnd f n then fnd f n else fnd f n ++ [f n] from rfl]
    split
    · omega
    · rw [List.length_append, List.length_singleton]; omega
  omega

/-! What is laid. -/
def rowF (D : List Arr) (c : Nat → Nat) (k x n : Nat) : List Arr := (List.range n).map fun (e : Nat) => ⟨(k : Int), (e : Int), ((c (toI D (x : Int) (e : Int)).toNat : Nat) : Int)⟩
theorem rowF_succ (D : List Arr) (c : Nat → Nat) (k x n : Nat) : rowF D c k x (n + 1) = rowF D c k x n ++ [⟨(k : Int), (n : Int), ((c (toI D (x : Int) (n : Int)).toNat : Nat) : Int)⟩] := by
  unfold rowF; rw [List.range_succ, List.map_append]; rfl
theorem rowF_len (D : List Arr) (c : Nat → Nat) (k x n : Nat) : (rowF D c k x n).length = n := by unfold rowF; simp
def arrF (D : List Arr) (c : Nat → Nat) (ev : Nat) : Nat → List Arr
  | 0 => []
  | n + 1 => if c n = (reps c n).length then arrF D c ev n ++ rowF D c (c n) n ev else arrF D c ev n
def endF (E : List Int) (c : Nat → Nat) : Nat → List Int
  | 0 => []
  | n + 1 => if c n = (reps c n).length ∧ hasB E (n : Int) = true then endF E c n ++ [((c n : Nat) : Int)] else endF E c n
def foldM (d : Mach) (c : Nat → Nat) : Mach := ⟨(reps c d.st.toNat).length, d.ev, [0], arrF d.arrows c d.ev.toNat d.st.toNat, endF d.ends c d.st.toNat⟩
def arrL (D : List Arr) (c : Nat → Nat) (ev : Nat) (R : List Nat) : Nat → List Arr
  | 0 => []
  | k + 1 => arrL D c ev R k ++ rowF D c k (R[k]?.getD 0) ev
theorem arrF_eq (D : List Arr) (c : Nat → Nat) (ev N : Nat) : ∀ n, n ≤ N → arrF D c ev n = arrL D c ev (reps c N) (reps c n).length
  | 0, _ => rfl
  | n + 1, h => by
    have ih := arrF_eq D c ev N n (by omega)
    rw [show arrF D c ev (n + 1) = if c n = (reps c n).length then arrF D c ev n ++ rowF D c (c n) n ev else arrF D c ev n from rfl, show reps c (n + 1) = if c n = (reps c n).length then reps c n ++ [n] else reps c n from rfl]
    by_cases e : c n = (reps c n).length
    · rw [if_pos e, if_pos e, List.length_append, List.length_singleton, arrL, ih]
      have : (reps c N)[(reps c n).length]? = some n := by
        refine reps_stay (n := n + 1) h ?_
        rw [reps, if_pos e, List.getElem?_append_right (Nat.le_refl _)]; simp
      rw [this, Option.getD_some, e]
    · rw [if_neg e, if_neg e, ih]
theorem endsG_snoc {σ : Type} (fin : σ → Bool) : ∀ (L : List σ) (k : Nat) (a : σ), endsG fin k (L ++ [a]) = endsG fin k L ++ (if fin a = true then [((k + L.length : Nat) : Int)] else [])
  | [], k, a => by simp only [List.nil_append, endsG, List.length_nil, Nat.add_zero]
  | b :: r, k, a => by
    rw [List.cons_append]
    unfold endsG
    rw [endsG_snoc fin r (k + 1) a, List.length_cons, show k + 1 + r.length = k + (r.length + 1) by omega]
    by_cases h : fin b = true
    · rw [if_pos h, if_pos h, List.cons_append]
    · rw [if_neg h, if_neg h]
theorem endF_eq (E : List Int) (c : Nat → Nat) : ∀ n, endF E c n = endsG (fun x => hasB E x) 0 ((reps c n).map fun (x : Nat) => (x : Int))
  | 0 => rfl
  | n + 1 => by
    have ih := endF_eq E c n
    rw [show endF E c (n + 1) = if c n = (reps c n).length ∧ hasB E (n : Int) = true then endF E c n ++ [((c n : Nat) : Int)] else endF E c n from rfl, show reps c (n + 1) = if c n = (reps c n).length then reps c n ++ [n] else reps c n from rfl]
    by_cases e : c n = (reps c n).length
    · rw [if_pos e, List.map_append, List.map_cons, List.map_nil, endsG_snoc, ← ih, List.length_map, Nat.zero_add]
      by_cases h : hasB E (n : Int) = true
      · rw [if_pos ⟨e, h⟩, if_pos h, e]
      · rw [if_neg (fun q => h q.2), if_neg h, List.append_nil]
    · rw [if_neg (fun q => e q.1), if_neg e, ih]

/-! What is found. -/
/-- A machine's states are numbered as they are found. -/
def BFn (d : Mach) : Prop := ∀ x : Nat, 0 < x → (x : Int) < d.st → ∃ y e : Nat, y < x ∧ (e : Int) < d.ev ∧ toI d.arrows (y : Int) (e : Int) = (x : Int) ∧ ∀ y' e' : Nat, (e' : Int) < d.ev → (y' < y ∨ y' = y ∧ e' < e) → toI d.arrows (y' : Int) (e' : Int) < (x : Int)
theorem lFind_min (c : Nat → Nat) (t : Nat) : ∀ (L : List Nat) (o : Nat), (∀ i x, L[i]? = some x → c x = o + i) → o ≤ c t → lFind (fun x y => decide (c x.toNat ≠ c y.toNat)) (L.map fun (x : Nat) => (x : Int)) (t : Int) = min (c t - o) L.length
  | [], o, _, _ => by simp [lFind]
  | a :: r, o, h, ho => by
    have ha := h 0 a rfl
    rw [List.map_cons, lFind]
    by_cases e : c a = c t
    · rw [if_neg (by simp [e])]
      have : c t - o = 0 := by omega
      rw [this, Nat.zero_min]
    · rw [if_pos (by simp [e]), lFind_min c t r (o + 1) (fun i x hx => by have := h (i + 1) x (by simpa using hx); omega) (by omega), List.length_cons]
      omega
section
variable {d : Mach} {c : Nat → Nat} {N ev : Nat}
/-- What the search knows. -/
structure SF (d : Mach) (c : Nat → Nat) (N ev k e j : Nat) (s : LS) : Prop where
  j1 : 1 ≤ j
  jr : j ≤ (reps c N).length
  fd : s.fd = ((reps c N).take j).map fun (x : Nat) => (x : Int)
  ar : s.ar = arrL d.arrows c ev (reps c N) k ++ rowF d.arrows c k ((reps c N)[k]?.getD 0) e
  cl : ∀ i e' r, (i < k ∧ e' < ev ∨ i = k ∧ e' < e) → (reps c N)[i]? = some r → c (toI d.arrows (r : Int) (e' : Int)).toNat < j
theorem rep_found (hN : d.st = (N : Int)) (hE : d.ev = (ev : Int)) (hd : detB d = true) (hbf : BFn d) (hrg : RGr c N) (hcg : ∀ x y e : Nat, x < N → y < N → e < ev → c x = c y → c (toI d.arrows (x : Int) (e : Int)).toNat = c (toI d.arrows (y : Int) (e : Int)).toNat) {j x : Nat} (hj : 0 < j) (hx : (reps c N)[j]? = some x) : ∃ i y e : Nat, i < j ∧ e < ev ∧ (reps c N)[i]? = some y ∧ toI d.arrows (y : Int) (e : Int) = (x : Int) ∧ ∀ y' e' : Nat, e' < ev → (y' < y ∨ y' = y ∧ e' < e) → toI d.arrows (y' : Int) (e' : Int) < (x : Int) := by
  obtain ⟨x1, x2, x3⟩ := reps_at c N j x hx
  have hx0 : 0 < x := by
    rcases Nat.eq_zero_or_pos x with e | e
    · rw [e] at x3; simp [reps] at x3; omega
    · exact e
  obtain ⟨y, e, h1, h2, h3, h4⟩ := hbf x hx0 (by omega)
  obtain ⟨r, r1, r2⟩ := reps_of hrg (x := y) (by omega)
  have hry : r = y := by
    by_cases q : r = y
    · exact q
    · exfalso
      have k1 := h4 r e h2 (.inl (by omega))
      have q1 := toI_step hd (Int.natCast_nonneg r) (by omega) (Int.natCast_nonneg e) h2
      have k2 := hcg r y e (by omega) (by omega) (by omega) (reps_at c N _ r r1).2.1
      rw [h3, Int.toNat_natCast, x2] at k2
      obtain ⟨z, z1, z2⟩ := reps_of hrg (x := (toI d.arrows (r : Int) (e : Int)).toNat) (by omega)
      rw [k2, hx] at z1
      have := Option.some.inj z1
      omega
  subst hry
  exact ⟨c r, r, e, reps_mono r1 hx (by omega), by omega, r1, h3, fun y' e' he => h4 y' e' (by omega)⟩
theorem sf_step (hN : d.st = (N : Int)) (hE : d.ev = (ev : Int)) (hd : detB d = true) (hbf : BFn d) (hrg : RGr c N) (hcg : ∀ x y e : Nat, x < N → y < N → e < ev → c x = c y → c (toI d.arrows (x : Int) (e : Int)).toNat = c (toI d.arrows (y : Int) (e : Int)).toNat) {k e j : Nat} {s : LS} (h : SF d c N ev k e j s) (hk : k < j) (he : e < ev) : ∃ j', j ≤ j' ∧ SF d c N ev k (e + 1) j' (lStp d.arrows (fun x y => decide (c x.toNat ≠ c y.toNat)) k s e) := by
  have hjr := h.jr
  obtain ⟨r, hr⟩ : ∃ r, (reps c N)[k]? = some r := ⟨_, List.getElem?_eq_getElem (by omega)⟩
  have hrl := reps_at c N k r hr
  have q1 := toI_step hd (Int.natCast_nonneg r) (by omega) (Int.natCast_nonneg e) (by omega)
  obtain ⟨t, ht⟩ : ∃ t : Nat, toI d.arrows (r : Int) (e : Int) = (t : Int) := ⟨_, (Int.toNat_of_nonneg q1.2.1).symm⟩
  have e0 : s.fd[k]?.getD 0 = (r : Int) := by
    rw [h.fd, List.getElem?_map, List.getElem?_take_of_lt hk, hr]; rfl
  have hlen : s.fd.length = j := by rw [h.fd, List.length_map, List.length_take]; omega
  have hfind : lFind (fun x y => decide (c x.toNat ≠ c y.toNat)) s.fd (t : Int) = min (c t) j := by
    rw [h.fd, lFind_min c t _ 0 (fun i x hx => ?_) (Nat.zero_le _), List.length_take, Nat.sub_zero, Nat.min_eq_left hjr]
    have hi := (List.getElem?_eq_some_iff.1 hx).1
    rw [List.length_take] at hi
    rw [List.getElem?_take_of_lt (by omega)] at hx
    rw [(reps_at c N i x hx).2.1]; omega
  have e1 : lStp d.arrows (fun x y => decide (c x.toNat ≠ c y.toNat)) k s e = ⟨if min (c t) j = j then s.fd ++ [(t : Int)] else s.fd, s.ar ++ [⟨(k : Int), (e : Int), (min (c t) j : Nat)⟩]⟩ := by
    unfold lStp; rw [e0, ht, hfind, hlen]
  have hct : ∀ i e' r', (i < k ∧ e' < ev ∨ i = k ∧ e' < e + 1) → (reps c N)[i]? = some r' → c (toI d.arrows (r' : Int) (e' : Int)).toNat < j ∨ (i = k ∧ e' = e ∧ r' = r) := by
    intro i e' r' hie hr'
    by_cases q : i = k ∧ e' = e
    · obtain ⟨rfl, rfl⟩ := q
      rw [hr] at hr'
      exact .inr ⟨rfl, rfl, (Option.some.inj hr').symm⟩
    · exact .inl (h.cl i e' r' (by omega) hr')
  rw [e1]
  by_cases hlt : c t < j
  · have hm : min (c t) j = c t := by omega
    rw [hm, if_neg (by omega)]
    refine ⟨j, Nat.le_refl _, h.j1, hjr, h.fd, ?_, fun i e' r' hie hr' => ?_⟩
    · dsimp only
      rw [h.ar, List.append_assoc, hr, Option.getD_some, rowF_succ, ht, Int.toNat_natCast]
    · rcases hct i e' r' hie hr' with q | ⟨rfl, rfl, rfl⟩
      · exact q
      · rw [ht, Int.toNat_natCast]; exact hlt
  · have hm : min (c t) j = j := by omega
    -- the class j, and where its first state is found
    obtain ⟨z, z1, z2⟩ := reps_of hrg (x := t) (by omega)
    have hjl : j < (reps c N).length := by have := (List.getElem?_eq_some_iff.1 z1).1; omega
    obtain ⟨x, hx⟩ : ∃ x, (reps c N)[j]? = some x := ⟨_, List.getElem?_eq_getElem hjl⟩
    have hxt : x ≤ t := Nat.le_trans (reps_mono' hx z1 (by omega)) z2
    obtain ⟨i, y, e', p1, p2, p3, p4, p5⟩ := rep_found hN hE hd hbf hrg hcg (by have := h.j1; omega) hx
    have hxc := (reps_at c N j x hx).2.1
    have htx : t = x := by
      by_cases q : i < k ∨ i = k ∧ e' < e
      · exfalso
        have := h.cl i e' y (by omega) p3
        rw [p4, Int.toNat_natCast, hxc] at this
        omega
      · by_cases q2 : i = k ∧ e' = e
        · obtain ⟨rfl, rfl⟩ := q2
          rw [hr] at p3
          have := Option.some.inj p3
          subst this
          rw [ht] at p4; omega
        · exfalso
          have hky : r < y ∨ r = y ∧ e < e' := by
            by_cases q3 : i = k
            · subst q3
              rw [hr] at p3
              have := Option.some.inj p3
              subst this
              exact .inr ⟨rfl, by omega⟩
            · by_cases q4 : r < y
              · exact .inl q4
              · exfalso
                have h1 := reps_mono' hr p3 (by omega)
                have h2 := (reps_at c N i y p3).2.1
                have h3 : r = y := by omega
                rw [h3] at hrl
                omega
          have := p5 r e he hky
          rw [ht] at this
          omega
    subst htx
    rw [hm, if_pos rfl]
    refine ⟨j + 1, by omega, by omega, by omega, ?_, ?_, fun i e' r' hie hr' => ?_⟩
    · dsimp only
      rw [h.fd, List.take_add_one, hx, List.map_append]; rfl
    · dsimp only
      rw [h.ar, List.append_assoc, hr, Option.getD_some, rowF_succ, ht, Int.toNat_natCast, hxc]
    · rcases hct i e' r' hie hr' with q | ⟨rfl, rfl, rfl⟩
      · omega
      · rw [ht, Int.toNat_natCast, hxc]; omega
theorem sf_row (hN : d.st = (N : Int)) (hE : d.ev = (ev : Int)) (hd : detB d = true) (hbf : BFn d) (hrg : RGr c N) (hcg : ∀ x y e : Nat, x < N → y < N → e < ev → c x = c y → c (toI d.arrows (x : Int) (e : Int)).toNat = c (toI d.arrows (y : Int) (e : Int)).toNat) {k j : Nat} {s : LS} (h : SF d c N ev k 0 j s) (hk : k < j) : ∀ n, n ≤ ev → ∃ j', j ≤ j' ∧ SF d c N ev k n j' (lRow d.arrows (fun x y => decide (c x.toNat ≠ c y.toNat)) k s n)
  | 0, _ => ⟨j, Nat.le_refl _, h⟩
  | n + 1, hn => by
    obtain ⟨j', h1, h2⟩ := sf_row hN hE hd hbf hrg hcg h hk n (by omega)
    rw [lRow_succ]
    obtain ⟨j'', h3, h4⟩ := sf_step hN hE hd hbf hrg hcg h2 (by omega) (by omega)
    exact ⟨j'', by omega, h4⟩
theorem sf_go (hN : d.st = (N : Int)) (hE : d.ev = (ev : Int)) (hd : detB d = true) (hbf : BFn d) (hrg : RGr c N) (hcg : ∀ x y e : Nat, x < N → y < N → e < ev → c x = c y → c (toI d.arrows (x : Int) (e : Int)).toNat = c (toI d.arrows (y : Int) (e : Int)).toNat) : ∀ (f k j : Nat) (s : LS), SF d c N ev k 0 j s → k ≤ j → (reps c N).length < f + k → lGo d.arrows (fun x y => decide (c x.toNat ≠ c y.toNat)) ev f k s = ⟨(reps c N).map fun (x : Nat) => (x : Int), arrL d.arrows c ev (reps c N) (reps c N).length⟩
  | 0, k, j, s, h, hk, hf => by have := h.jr; omega
  | f + 1, k, j, s, h, hk, hf => by
    have hjr := h.jr
    have hlen : s.fd.length = j := by rw [h.fd, List.length_map, List.length_take]; omega
    rw [lGo, hlen]
    by_cases hlt : k < j
    · rw [if_pos hlt]
      obtain ⟨j', h1, h2⟩ := sf_row hN hE hd hbf hrg hcg h hlt ev (Nat.le_refl _)
      refine sf_go hN hE hd hbf hrg hcg f (k + 1) j' _ ⟨h2.j1, h2.jr, h2.fd, ?_, fun i e' r hie hr => h2.cl i e' r (by omega) hr⟩ (by omega) (by omega)
      rw [h2.ar, arrL]
      simp [rowF]
    · rw [if_neg hlt]
      have hkj : k = j := by omega
      have hjl : j = (reps c N).length := by
        by_cases q : j = (reps c N).length
        · exact q
        · exfalso
          obtain ⟨x, hx⟩ : ∃ x, (reps c N)[j]? = some x := ⟨_, List.getElem?_eq_getElem (by omega)⟩
          obtain ⟨i, y, e', p1, p2, p3, p4, -⟩ := rep_found hN hE hd hbf hrg hcg (by have := h.j1; omega) hx
          have := h.cl i e' y (by omega) p3
          rw [p4, Int.toNat_natCast, (reps_at c N j x hx).2.1] at this
          omega
      obtain ⟨fd, ar⟩ := s
      have e1 := h.fd
      have e2 := h.ar
      dsimp only at e1 e2
      rw [e1, e2, hkj, hjl, List.take_length]
      simp [rowF]
/-- The machine laid is the one found. -/
theorem fold_least (hN : d.st = (N : Int)) (hE : d.ev = (ev : Int)) (hd : detB d = true) (hbf : BFn d) (hrg : RGr c N) (hcg : ∀ x y e : Nat, x < N → y < N → e < ev → c x = c y → c (toI d.arrows (x : Int) (e : Int)).toNat = c (toI d.arrows (y : Int) (e : Int)).toNat) (hN0 : 0 < N) (hR : (reps c N).length ≤ 64) : leastR d (fun x y => decide (c x.toNat ≠ c y.toNat)) = foldM d c := by
  have hc0 : c 0 = 0 := by have := hrg 0 hN0; simpa [reps] using this
  obtain ⟨r, r1, r2⟩ := reps_of hrg hN0
  have hr0 : r = 0 := by omega
  rw [hc0, hr0] at r1
  have hpos := (List.getElem?_eq_some_iff.1 r1).1
  have h := sf_go hN hE hd hbf hrg hcg 65 0 1 ⟨[0], []⟩ ⟨by omega, by omega, by
    show [0] = _
    rw [List.take_add_one, r1]; rfl, by simp [arrL, rowF], fun i e' r hie _ => by omega⟩ (by omega) (by omega)
  have e1 : d.ev.toNat = ev := by omega
  have e2 : d.st.toNat = N := by omega
  unfold leastR lM foldM
  rw [e1, e2, h, List.length_map, arrF_eq d.arrows c ev N N (Nat.le_refl _), endF_eq]
end

/-! The machine of sets is numbered as it is found. -/
structure DFn (s : DS) : Prop where
  lt : ∀ a ∈ s.ar, a.t < (s.sets.length : Int)
  fst : ∀ x : Nat, 0 < x → x < s.sets.length → ∃ (i : Nat) (a : Arr), s.ar[i]? = some a ∧ a.t = (x : Int) ∧ a.f < (x : Int) ∧ ∀ (i' : Nat) (b : Arr), i' < i → s.ar[i']? = some b → b.t < (x : Int)
theorem dfn_step {s : DS} (D : List Arr) {k e : Nat} (h : DFn s) (hk : k < s.sets.length) : DFn (dStep D k s e) := by
  obtain ⟨l, hl⟩ : ∃ l, l = stepL D (s.sets[k]?.getD []) (e : Int) := ⟨_, rfl⟩
  have hle := findL_le s.sets l
  unfold dStep
  rw [← hl]
  by_cases hn : findL s.sets l = s.sets.length
  · rw [if_pos hn, hn]
    refine ⟨fun a ha => ?_, fun x x0 x1 => ?_⟩
    · dsimp only at ha ⊢
      rw [List.length_append, List.length_singleton]
      rcases List.mem_append.1 ha with q | q
      · have := h.lt a q; omega
      · have : a = _ := List.mem_singleton.1 q
        rw [this]; dsimp only; omega
    · dsimp only at x1 ⊢
      rw [List.length_append, List.length_singleton] at x1
      by_cases q : x < s.sets.length
      · obtain ⟨i, a, h1, h2, h3, h4⟩ := h.fst x x0 q
        have hi := (List.getElem?_eq_some_iff.1 h1).1
        exact ⟨i, a, by rw [List.getElem?_append_left hi]; exact h1, h2, h3, fun i' b hi' hb => h4 i' b hi' (by rw [List.getElem?_append_left (by omega)] at hb; exact hb)⟩
      · have ex : x = s.sets.length := by omega
        refine ⟨s.ar.length, ⟨(k : Int), (e : Int), ((s.sets.length : Nat) : Int)⟩, by rw [List.getElem?_append_right (Nat.le_refl _)]; simp, by dsimp only; omega, by dsimp only; omega, fun i' b hi' hb => ?_⟩
        rw [List.getElem?_append_left hi'] at hb
        have := h.lt b (List.mem_of_getElem? hb)
        omega
  · rw [if_neg hn]
    refine ⟨fun a ha => ?_, fun x x0 x1 => ?_⟩
    · dsimp only at ha ⊢
      rcases List.mem_append.1 ha with q | q
      · exact h.lt a q
      · have : a = _ := List.mem_singleton.1 q
        rw [this]; dsimp only; omega
    · obtain ⟨i, a, h1, h2, h3, h4⟩ := h.fst x x0 x1
      have hi := (List.getElem?_eq_some_iff.1 h1).1
      exact ⟨i, a, by dsimp only; rw [List.getElem?_append_left hi]; exact h1, h2, h3, fun i' b hi' hb => h4 i' b hi' (by dsimp only at hb; rw [List.getElem?_append_left (by omega)] at hb; exact hb)⟩
theorem dfn_row {s : DS} (D : List Arr) {k : Nat} (h : DFn s) (hk : k < s.sets.length) : ∀ n, DFn (dRow D k s n)
  | 0 => h
  | n + 1 => by
    rw [dRow_succ]
    obtain ⟨t, ht, -⟩ := dRow_pre D k s n
    exact dfn_step D (dfn_row D h hk n) (by rw [ht, List.length_append]; omega)
theorem dfn_go (D : List Arr) {ev : Nat} : ∀ (f k : Nat) (s s' : DS), DFn s → dGo D ev f k s = some s' → DFn s'
  | 0, k, s, s', h, e => by have e := Option.some.inj e; subst e; exact h
  | f + 1, k, s, s', h, e => by
    rw [dGo] at e
    by_cases hlt : k < s.sets.length
    · rw [if_pos hlt] at e
      by_cases hB : 256 < (dRow D k s ev).sets.length
      · rw [if_pos hB] at e; cases e
      · rw [if_neg hB] at e
        exact dfn_go D f (k + 1) _ s' (dfn_row D h hlt ev) e
    · rw [if_neg hlt] at e
      have e := Option.some.inj e
      subst e
      exact h
theorem det_dfn {m : Mach} {s : DS} (h : detS m = some s) : DFn s :=
  dfn_go m.arrows 257 0 _ s ⟨fun a ha => by simp at ha, fun x x0 x1 => by simp at x1; omega⟩ h
/-- A determined machine's arrows lie in their order. -/
theorem det_arrow {m : Mach} (hm : mayB m = true) {s : DS} (h : detS m = some s) {f e : Nat} (hf : f < s.sets.length) (he : e < m.ev.toNat) : ∃ t : Nat, s.ar[f * m.ev.toNat + e]? = some ⟨(f : Int), (e : Int), (t : Int)⟩ ∧ toI s.ar (f : Int) (e : Int) = (t : Int) ∧ t < s.sets.length := by
  obtain ⟨hdi, -⟩ := detS_di hm h
  obtain ⟨f', e', t, l, h1, h2, h3, h4, h5⟩ := hdi.ar (f * m.ev.toNat + e) (code_bd hf he)
  obtain ⟨q1, q2⟩ := code_inj h3 he h2
  subst q1; subst q2
  obtain ⟨t', k1, k2⟩ := det_step hm h h4 he
  refine ⟨t, h1, ?_, (List.getElem?_eq_some_iff.1 h5).1⟩
  have : t' = t := by
    have e1 := findL_at hdi.nd k2
    have e2 := findL_at hdi.nd h5
    omega
  unfold toI
  rw [k1, this]; rfl
theorem det_bfn {m : Mach} (hm : mayB m = true) {s : DS} (h : detS m = some s) : BFn (detM m s) := by
  intro x x0 x1
  have hz := mayB_size hm
  unfold sizeOk at hz
  obtain ⟨hdi, -⟩ := detS_di hm h
  have x1 : (x : Int) < (s.sets.length : Int) := x1
  obtain ⟨i, a, h1, h2, h3, h4⟩ := (det_dfn h).fst x x0 (by omega)
  have hi := (List.getElem?_eq_some_iff.1 h1).1
  rw [hdi.len] at hi
  obtain ⟨f, e, t, l, k1, k2, k3, k4, k5⟩ := hdi.ar i hi
  rw [h1] at k1
  have ea := Option.some.inj k1
  rw [ea] at h2 h3
  dsimp only at h2 h3
  have hfl := (List.getElem?_eq_some_iff.1 k4).1
  obtain ⟨t1, g1, g2, -⟩ := det_arrow hm h hfl k3
  rw [k2, h1, ea] at g1
  have g1 := Option.some.inj g1
  injection g1 with _ _ g1
  refine ⟨f, e, by omega, by show (e : Int) < m.ev; omega, by show toI s.ar _ _ = _; omega, fun y' e' he' hlt => ?_⟩
  have he' : (e' : Int) < m.ev := he'
  show toI s.ar _ _ < _
  obtain ⟨t2, g3, g4, -⟩ := det_arrow hm h (f := y') (e := e') (by omega) (by omega)
  rw [g4]
  have := h4 (y' * m.ev.toNat + e') _ (by rw [← k2]; exact (code_lt (by omega) k3).2 (by omega)) g3
  exact this

end Go.Proofs.YtbdkaobbfmgnhaaDoor
namespace Go.Proofs.YtbdkaobbfmgnhaaDoor
open Go.RowKit
set_option linter.unusedVariables false

/-- From X0 on, whose blocks are as they were: the states found, the arrows, the ends. -/
structure LN (X0 W : World) (b0 : Nat) (ev : Int) (v8 va ve : Value) (F : List Int) (A : List Arr) (E : List Int) : Prop where
  low : Below b0 X0 W
  s0 : Blk W b0 3 #[.int .i64 0]
  nb : Blk W (b0 + 1) 25 (rcells 0 ev b0 va ve)
  fd : Own W (b0 + 2) v8 F
  ar : OwnA W (b0 + 2) va A
  en : Own W (b0 + 2) ve E
  ap : ∀ g, v8.ownBlock = some g → ve.ownBlock ≠ some g
  hB : b0 + 2 ≤ W.heap.size
section
variable {X0 W : World} {b0 : Nat} {ev : Int} {v8 va ve : Value} {F : List Int} {A : List Arr} {E : List Int}
theorem LN.below {W' : World} (h : LN X0 W b0 ev v8 va ve F A E) (hb : Below W.heap.size W W') : LN X0 W' b0 ev v8 va ve F A E :=
  ⟨h.low.trans (hb.mono (Nat.le_trans (Nat.le_add_right _ _) h.hB)), h.s0.below hb h.s0.lt, h.nb.below hb h.nb.lt, own_same h.fd (fun k hk => hb.block k (World.ownsRow.lt h.fd k hk).2), h.ar.kept hb (Nat.le_refl _), own_same h.en (fun k hk => hb.block k (World.ownsRow.lt h.en k hk).2), h.ap, Nat.le_trans h.hB hb.size⟩
theorem LN.pushF {W2 W3 : World} {v8' : Value} {t : Int} (h : LN X0 W b0 ev v8 va ve F A E) (hW3 : Below W.heap.size W W3) (o1 : Own W2 (b0 + 2) v8' (F ++ [t])) (g : W3.grownBy W2 v8.ownBlock) (fr : v8'.ownBlock = v8.ownBlock ∨ v8'.ownBlock = some W3.heap.size) : LN X0 W2 b0 ev v8' va ve (F ++ [t]) A E := by
  have h3 := h.below hW3
  have hB := h3.hB
  have kp : ∀ j, j < W3.heap.size → v8.ownBlock ≠ some j → W2.heap[j]? = W3.heap[j]? := fun j hj hn => g.block j hj (fun e => hn e.symm)
  have hi : ∀ j, j < b0 + 2 → v8.ownBlock ≠ some j := fun j hj e => by have := (World.ownsRow.lt h3.fd j e).1; omega
  refine ⟨h3.low.grown g (by omega) (fun j hj => Nat.le_trans (by omega) (World.ownsRow.lt h3.fd j hj).1), (kp _ (by omega) (hi _ (by omega))).trans h3.s0, (kp _ (by omega) (hi _ (by omega))).trans h3.nb, o1, own_same h3.ar (fun k hk => kp k (World.ownsRow.lt h3.ar k hk).2 (fun e => ?_)), own_same h3.en (fun k hk => kp k (World.ownsRow.lt h3.en k hk).2 (fun e => h.ap k e hk)), fun q e1 e2 => ?_, Nat.le_trans hB g.size⟩
  · rcases own_apart h3.fd h3.ar (by decide) with r | r
    · rw [r] at e; cases e
    · exact r (e.trans hk.symm)
  · rcases fr with f | f
    · rw [f] at e1; exact h.ap q e1 e2
    · rw [f] at e1
      have := (World.ownsRow.lt h3.en q e2).2
      have := Option.some.inj e1
      omega
theorem LN.pushE {W2 W3 : World} {ve' : Value} {t : Int} (h : LN X0 W b0 ev v8 va ve F A E) (hW3 : Below W.heap.size W W3) (o1 : Own W2 (b0 + 2) ve' (E ++ [t])) (g : W3.grownBy W2 ve.ownBlock) (fr : ve'.ownBlock = ve.ownBlock ∨ ve'.ownBlock = some W3.heap.size) :
    Blk W2 (b0 + 1) 25 (rcells 0 ev b0 va ve) ∧ LN X0 (W2.setCell ⟨b0 + 1, 4, none⟩ ve') b0 ev v8 va ve' F A (E ++ [t]) := by
  have h3 := h.below hW3
  have hB := h3.hB
  have kp : ∀ j, j < W3.heap.size → ve.ownBlock ≠ some j → W2.heap[j]? = W3.heap[j]? := fun j hj hn => g.block j hj (fun e => hn e.symm)
  have hi : ∀ j, j < b0 + 2 → ve.ownBlock ≠ some j := fun j hj e => by have := (World.ownsRow.lt h3.en j e).1; omega
  have nb2 : Blk W2 (b0 + 1) 25 (rcells 0 ev b0 va ve) := (kp _ (by omega) (hi _ (by omega))).trans h3.nb
  refine ⟨nb2, (h3.low.grown g (by omega) (fun j hj => Nat.le_trans (by omega) (World.ownsRow.lt h3.en j hj).1)).setCell (p := ⟨b0 + 1, 4, none⟩) (show b0 ≤ b0 + 1 by omega) _, Blk.other ((kp _ (by omega) (hi _ (by omega))).trans h3.s0) (by omega) _, nb2.set 4 ve', ownsRow_set (own_same h3.fd (fun k hk => kp k (World.ownsRow.lt h3.fd k hk).2 (fun e => h.ap k hk e))) (by omega) ve', ownsRow_set (own_same h3.ar (fun k hk => kp k (World.ownsRow.lt h3.ar k hk).2 (fun e => ?_))) (by omega) ve', ownsRow_set o1 (by omega) ve', fun q e1 e2 => ?_, ?_⟩
  · rcases own_apart h3.en h3.ar (by decide) with r | r
    · rw [r] at e; cases e
    · exact r (e.trans hk.symm)
  · rcases fr with f | f
    · rw [f] at e2; exact h.ap q e1 e2
    · rw [f] at e2
      have := (World.ownsRow.lt h3.fd q e1).2
      have := Option.some.inj e2
      omega
  · have := g.size
    simp [World.setCell]; omega
theorem LN.pushA {W2 W3 : World} {va' : Value} {x : Arr} (h : LN X0 W b0 ev v8 va ve F A E) (hW3 : Below W.heap.size W W3) (o1 : OwnA W2 (b0 + 2) va' (A ++ [x])) (g : W3.grownBy W2 va.ownBlock) :
    Blk W2 (b0 + 1) 25 (rcells 0 ev b0 va ve) ∧ LN X0 (W2.setCell ⟨b0 + 1, 3, none⟩ va') b0 ev v8 va' ve F (A ++ [x]) E := by
  have h3 := h.below hW3
  have hB := h3.hB
  have kp : ∀ j, j < W3.heap.size → va.ownBlock ≠ some j → W2.heap[j]? = W3.heap[j]? := fun j hj hn => g.block j hj (fun e => hn e.symm)
  have hi : ∀ j, j < b0 + 2 → va.ownBlock ≠ some j := fun j hj e => by have := (World.ownsRow.lt h3.ar j e).1; omega
  have nb2 : Blk W2 (b0 + 1) 25 (rcells 0 ev b0 va ve) := (kp _ (by omega) (hi _ (by omega))).trans h3.nb
  have apart : ∀ {v : Value} {L : List Int}, Own W3 (b0 + 2) v L → ∀ k, v.ownBlock = some k → va.ownBlock ≠ some k := fun {v L} ho k hk e => by
    rcases own_apart h3.ar ho (by decide) with r | r
    · rw [r] at e; cases e
    · exact r (e.trans hk.symm)
  refine ⟨nb2, (h3.low.grown g (by omega) (fun j hj => Nat.le_trans (by omega) (World.ownsRow.lt h3.ar j hj).1)).setCell (p := ⟨b0 + 1, 3, none⟩) (show b0 ≤ b0 + 1 by omega) _, Blk.other ((kp _ (by omega) (hi _ (by omega))).trans h3.s0) (by omega) _, nb2.set 3 va', ownsRow_set (own_same h3.fd (fun k hk => kp k (World.ownsRow.lt h3.fd k hk).2 (apart h3.fd k hk))) (by omega) va', ownsRow_set o1 (by omega) va', ownsRow_set (own_same h3.en (fun k hk => kp k (World.ownsRow.lt h3.en k hk).2 (apart h3.en k hk))) (by omega) va', h.ap, ?_⟩
  have := g.size
  simp [World.setCell]; omega
end

/-- The least machine of m's language. -/
def IsLeast (m M : Mach) : Prop := ∀ inst : DecidableEq Lang, M = leastM (langM m) m.ev.toNat

/-! The loop over what is told apart. -/
theorem lFind_hit {ap : Int → Int → Bool} : ∀ {L : List Int} {t : Int} {n : Nat} {x : Int}, (∀ (j : Nat) (y : Int), j < n → L[j]? = some y → ap y t = true) → L[n]? = some x → ap x t = false → lFind ap L t = n
  | [], t, n, x, _, h, _ => by simp at h
  | a :: r, t, 0, x, _, h, hx => by
    have : a = x := by simpa using h
    subst this
    unfold lFind; rw [if_neg (by rw [hx]; simp)]
  | a :: r, t, n + 1, x, hl, h, hx => by
    unfold lFind
    rw [if_pos (hl 0 a (by omega) rfl), lFind_hit (L := r) (n := n) (x := x) (fun j y hj hy => hl (j + 1) y (by omega) (by simpa using hy)) (by simpa using h) hx]
theorem lFind_end {ap : Int → Int → Bool} : ∀ {L : List Int} {t : Int}, (∀ (j : Nat) (y : Int), L[j]? = some y → ap y t = true) → lFind ap L t = L.length
  | [], t, _ => rfl
  | a :: r, t, hl => by
    unfold lFind
    rw [if_pos (hl 0 a rfl), lFind_end (L := r) (fun j y hy => hl (j + 1) y (by simpa using hy)), List.length_cons]
theorem endsG_take {σ : Type} (fin : σ → Bool) : ∀ (L : List σ) (k : Nat) (j : Nat) {x : σ}, L[j]? = some x → endsG fin k (L.take (j + 1)) = endsG fin k (L.take j) ++ (if fin x = true then [((k + j : Nat) : Int)] else [])
  | [], k, j, x, h => by simp at h
  | a :: r, k, 0, x, h => by
    have : a = x := by simpa using h
    subst this
    simp only [List.take_succ_cons, List.take_zero, endsG, Nat.add_zero]
    split <;> simp
  | a :: r, k, j + 1, x, h => by
    have := endsG_take fin r (k + 1) j (x := x) (by simpa using h)
    simp only [List.take_succ_cons, endsG]
    rw [this, show k + 1 + j = k + (j + 1) by omega]
    split <;> simp
theorem endsG_len {σ : Type} (fin : σ → Bool) : ∀ (k : Nat) (L : List σ), (endsG fin k L).length ≤ L.length
  | _, [] => Nat.le_refl _
  | k, a :: r => by
    have := endsG_len fin (k + 1) r
    unfold endsG; split <;> simp <;> omega
theorem endsG_pre {σ : Type} (fin : σ → Bool) (k : Nat) {L M t : List σ} (h : M = L ++ t) (j : Nat) (hj : j ≤ L.length) : endsG fin k (M.take j) = endsG fin k (L.take j) := by
  rw [h, List.take_append_of_le_length hj]

end Go.Proofs.YtbdkaobbfmgnhaaDoor
namespace Go.Proofs.YtbdkaobbfmgnhaaDoor
open Go.RowKit
set_option linter.unusedVariables false

/-- n arrows have been laid. -/
structure LX (m D : Mach) (ev n : Nat) (s : LS) : Prop where
  g : ∀ [DecidableEq Lang], ∃ g : GS Lang, LR D s g ∧ GI langD (langM m) ev n g
section
variable {m D : Mach} {ev n : Nat} {s : LS}
theorem LX.bd (h : LX m D ev n s) : ∀ x ∈ s.fd, 0 ≤ x ∧ x < D.st := by
  letI : DecidableEq Lang := fun a b => Classical.propDecidable _
  obtain ⟨g, h1, -⟩ := h.g
  exact h1.bd
theorem LX.len (hm : mayB m = true) (zm : m.st ≤ 6) (he : m.ev = (ev : Int)) (h : LX m D ev n s) : s.fd.length ≤ 64 := by
  letI : DecidableEq Lang := fun a b => Classical.propDecidable _
  obtain ⟨g, h1, h2⟩ := h.g
  rw [← h1.len]; exact least_bound hm zm he h2
theorem LX.al (h : LX m D ev n s) : s.ar.length = n := by
  letI : DecidableEq Lang := fun a b => Classical.propDecidable _
  obtain ⟨g, h1, h2⟩ := h.g
  rw [← h1.ar]; exact h2.len
theorem LX.start (hL : langM m = langS D [0]) (h0 : 0 < D.st) : LX m D ev (0 * ev) ⟨[0], []⟩ :=
  ⟨by
    intro inst
    exact ⟨⟨[langM m], []⟩, ⟨by rw [hL]; rfl, rfl, fun x hx => (by rcases List.mem_singleton.1 hx with rfl; exact ⟨by omega, h0⟩)⟩, gi_start _ _ _⟩⟩
theorem LX.step {ap : Int → Int → Bool} (hd : detB D = true) (hap : ∀ s t : Int, 0 ≤ s → s < D.st → 0 ≤ t → t < D.st → (ap s t = true ↔ langS D [s] ≠ langS D [t])) (hD : D.ev = (ev : Int)) {k e : Nat} (h : LX m D ev (k * ev + e) s) (hk : k < s.fd.length) (he : e < ev) : LX m D ev (k * ev + (e + 1)) (lStp D.arrows ap k s e) :=
  ⟨by
    intro inst
    obtain ⟨g, h1, h2⟩ := h.g
    exact ⟨_, lr_step hd hap h1 hk (by omega), gi_step _ h2 (by rw [h1.len]; exact hk) he⟩⟩
theorem LX.row {ap : Int → Int → Bool} (hd : detB D = true) (hap : ∀ s t : Int, 0 ≤ s → s < D.st → 0 ≤ t → t < D.st → (ap s t = true ↔ langS D [s] ≠ langS D [t])) (hD : D.ev = (ev : Int)) {k : Nat} (h : LX m D ev (k * ev) s) (hk : k < s.fd.length) : ∀ e, e ≤ ev → LX m D ev (k * ev + e) (lRow D.arrows ap k s e)
  | 0, _ => h
  | e + 1, he => by
    rw [lRow_succ]
    letI : DecidableEq Lang := fun a b => Classical.propDecidable _
    obtain ⟨t, ht⟩ := lRow_pre (ap := ap) D.arrows k s e
    exact LX.step hd hap hD (LX.row hd hap hD h hk e (by omega)) (by rw [ht, List.length_append]; omega) (by omega)
end

/-- What is left of the search. -/
theorem lGo_next {D : List Arr} {ap : Int → Int → Bool} {ev f k : Nat} {s : LS} (h : k < s.fd.length) (hf : 0 < f) : lGo D ap ev f k s = lGo D ap ev (f - 1) (k + 1) (lRow D ap k s ev) := by
  obtain ⟨f, rfl⟩ : ∃ g, f = g + 1 := ⟨f - 1, by omega⟩
  rw [lGo, if_pos h]; rfl
theorem lGo_end {D : List Arr} {ap : Int → Int → Bool} {ev f k : Nat} {s : LS} (h : ¬ k < s.fd.length) : lGo D ap ev f k s = s := by
  cases f with
  | zero => rfl
  | succ f => rw [lGo, if_neg h]

end Go.Proofs.YtbdkaobbfmgnhaaDoor
namespace Go.Proofs.YtbdkaobbfmgnhaaDoor
open Go.RowKit
set_option linter.unusedVariables false

/-- What Least answers (H1). -/
def LeastOut (m M : Mach) (c : Int) : Prop := (mayB m = false ∧ M = m0 ∧ c = 2) ∨ (mayB m = true ∧ 6 < m.st ∧ M = m0 ∧ c = 1) ∨ (mayB m = true ∧ m.st ≤ 6 ∧ c = 0 ∧ IsLeast m M)
/-- What Least leaves. -/
def LeastPost (w : World) (m : Mach) (e : Ending) (w' : World) : Prop := ∃ M L c, LeastOut m M c ∧ e = .returned (.tuple #[mval M L, .int .i64 c]) ∧ MAt w' M L ∧ Below w.heap.size w w'
theorem LeastOut.bad {m M : Mach} {c : Int} (h : LeastOut m M c) (hm : mayB m = false) : M = m0 ∧ c = 2 := by
  rcases h with ⟨-, h1, h2⟩ | ⟨h1, -⟩ | ⟨h1, -⟩
  · exact ⟨h1, h2⟩
  · rw [hm] at h1; cases h1
  · rw [hm] at h1; cases h1
theorem LeastOut.big {m M : Mach} {c : Int} (h : LeastOut m M c) (hm : mayB m = true) (hs : 6 < m.st) : M = m0 ∧ c = 1 := by
  rcases h with ⟨h1, -⟩ | ⟨-, -, h1, h2⟩ | ⟨-, h1, -⟩
  · rw [hm] at h1; cases h1
  · exact ⟨h1, h2⟩
  · omega
theorem LeastOut.ok {m M : Mach} {c : Int} (h : LeastOut m M c) (hm : mayB m = true) (hs : m.st ≤ 6) : c = 0 ∧ IsLeast m M := by
  rcases h with ⟨h1, -⟩ | ⟨-, h1, -⟩ | ⟨-, -, h1, h2⟩
  · rw [hm] at h1; cases h1
  · omega
  · exact ⟨h1, h2⟩
theorem IsLeast.one {m M N : Mach} (h : IsLeast m M) (h' : IsLeast m N) : M = N := by
  letI inst : DecidableEq Lang := fun a b => Classical.propDecidable _
  rw [h inst, h' inst]
theorem sameA_eq : ∀ {p q : List Arr}, p.length = q.length → sameA p q = true → p = q
  | [], [], _, _ => rfl
  | [], _ :: _, h, _ => by simp at h
  | _ :: _, [], h, _ => by simp at h
  | a :: p, b :: q, hl, h => by
    unfold sameA at h
    by_cases h1 : arrEq a b
    case neg => rw [if_neg h1] at h; cases h
    rw [if_pos h1] at h
    have e := sameA_eq (by simpa using hl) h
    unfold arrEq at h1
    obtain ⟨x, y, z⟩ := a
    obtain ⟨x', y', z'⟩ := b
    obtain ⟨q1, q2, q3⟩ := h1
    dsimp only at q1 q2 q3
    rw [q1, q2, q3, e]
theorem sameM_iff (m n : Mach) : sameM m n = true ↔ m = n := by
  constructor
  · intro h
    unfold sameM at h
    simp only [Bool.and_eq_true, decide_eq_true_eq] at h
    obtain ⟨⟨h1, h2⟩, h3, h4, h5, h6⟩ := h
    obtain ⟨a, b, c, d, e⟩ := m
    obtain ⟨a', b', c', d', e'⟩ := n
    dsimp only at *
    have e3 : c = c' := by simpa [sameB] using h3
    have e4 : e = e' := by simpa [sameB] using h4
    rw [h1, h2, e3, e4, sameA_eq h5 h6]
  · rintro rfl; exact sameM_self m
/-- The machine of the language of words of which neither has one more. -/
theorem lang_none {a b : Mach} (ha : mayB a = true) (hb : mayB b = true) (za : a.st ≤ 6) (zb : b.st ≤ 6) (he : a.ev = b.ev) : (outW a b = none ∧ outW b a = none) ↔ ∀ u, wordB a.ev u = true → acceptsB a u = acceptsB b u := by
  constructor
  · rintro ⟨h1, h2⟩ u hu
    have hw := wordB_in hu
    have k1 := outW_none ha hb za zb h1 u hw
    have k2 := outW_none hb ha zb za h2 u (by rw [← he]; exact hw)
    unfold betw at k1 k2
    cases e1 : acceptsB a u <;> cases e2 : acceptsB b u <;> rw [e1, e2] at k1 k2 <;> simp_all
  · intro h
    refine ⟨?_, ?_⟩
    · cases ho : outW a b with
      | none => rfl
      | some v =>
        obtain ⟨k1, k2, -, -⟩ := outW_some ha hb za zb ho
        unfold betw at k1
        rw [h v (wordB_of k2)] at k1
        cases e2 : acceptsB b v <;> rw [e2] at k1 <;> simp_all
    · cases ho : outW b a with
      | none => rfl
      | some v =>
        obtain ⟨k1, k2, -, -⟩ := outW_some hb ha zb za ho
        unfold betw at k1
        rw [h v (wordB_of (by rw [he]; exact k2))] at k1
        cases e2 : acceptsB b v <;> rw [e2] at k1 <;> simp_all
/-- H2. -/
theorem least_iff {a b A B : Mach} (ha : mayB a = true) (hb : mayB b = true) (za : a.st ≤ 6) (zb : b.st ≤ 6) (he : a.ev = b.ev) (hA : IsLeast a A) (hB : IsLeast b B) : sameM A B = ((outW a b).isNone && (outW b a).isNone) := by
  letI inst : DecidableEq Lang := fun a b => Classical.propDecidable _
  have hz := mayB_size ha
  unfold sizeOk at hz
  have e1 : a.ev = ((a.ev.toNat : Nat) : Int) := by omega
  rw [Bool.eq_iff_iff, sameM_iff, hA inst, hB inst, Bool.and_eq_true, Option.isNone_iff_eq_none, Option.isNone_iff_eq_none, lang_none ha hb za zb he, ← he, least_same ha hb za zb e1 (by rw [← he]; exact e1), ← e1]
/-- H1: no determined machine with its language has fewer states. -/
theorem least_few {m d M : Mach} (hm : mayB m = true) (zm : m.st ≤ 6) (hd : detB d = true) (zd : d.st ≤ 6) (he : d.ev = m.ev) (hM : IsLeast m M) (h : outW m d = none ∧ outW d m = none) : detB M = true ∧ M.st ≤ d.st := by
  letI inst : DecidableEq Lang := fun a b => Classical.propDecidable _
  have hz := mayB_size hm
  unfold sizeOk at hz
  have e1 : m.ev = ((m.ev.toNat : Nat) : Int) := by omega
  have hmd : mayB d = true := by unfold detB at hd; rw [Bool.and_eq_true] at hd; exact hd.1
  rw [hM inst]
  refine ⟨(least_may hm zm e1).2.1, least_fewest hm zm e1 hd (by rw [he]; exact e1) ?_⟩
  rw [← e1]
  exact (lang_none hm hmd zm zd he.symm).1 h
theorem least_det {m M : Mach} (hm : mayB m = true) (zm : m.st ≤ 6) (hM : IsLeast m M) : detB M = true ∧ mayB M = true := by
  letI inst : DecidableEq Lang := fun a b => Classical.propDecidable _
  have hz := mayB_size hm
  unfold sizeOk at hz
  have e1 : m.ev = ((m.ev.toNat : Nat) : Int) := by omega
  rw [hM inst]
  exact ⟨(least_may hm zm e1).2.1, (least_may hm zm e1).1⟩

end Go.Proofs.YtbdkaobbfmgnhaaDoor
namespace Go.Proofs.YtbdkaobbfmgnhaaDoor
open Go.RowKit
set_option linter.unusedVariables false

theorem at_oneT (W : World) (x : Int) : At (W.alloc (.cells #[.int .i64 x] 3)) (some ⟨W.heap.size, 0, none⟩) [x] := by
  refine .inr ⟨W.heap.size, 0, rfl, by simp, fun j hj => ?_⟩
  have hj : j = 0 := by simp at hj; exact hj
  subst hj
  exact (Blk.new W 3 #[.int .i64 x]).cell 0 rfl
set_option maxRecDepth 100000 in
set_option maxHeartbeats 4000000 in
theorem rTo_any (d : Mach) (l : ML) (s e : Int) (w : World) (h : Hid (MAt w d l)) (hd : Hid (detB d = true)) (hs : Hid (0 ≤ s ∧ s < d.st)) (he : Hid (0 ≤ e ∧ e < d.ev)) :
    Calls Tryd.prog 89 #[mval d l, .int .i64 s, .int .i64 e] w fun r w' => r = .returned (.int .i64 (toI d.arrows s e)) ∧ Below w.heap.size w w' := by
  have hm : mayB d = true := by have := hd.out; unfold detB at this; rw [Bool.and_eq_true] at this; exact this.1
  have hz := mayB_size hm
  have HL : Hid (d.arrows.length ≤ 17592186044416) := by unfold sizeOk at hz; show _ ≤ _; omega
  clear hz hm
  obtain ⟨q1, -, -⟩ := toI_step hd.out hs.out.1 hs.out.2 he.out.1 he.out.2
  obtain ⟨t, ht⟩ : ∃ t, Hid (t = toI d.arrows s e) := ⟨_, rfl⟩
  rw [← ht.out] at q1 ⊢
  have HQ := Hid.of q1
  clear q1
  have B0 : Hid (Below w.heap.size w ((w.alloc (.cells (mcells d l) 25)).alloc (.cells #[.int .i64 s] 3))) := ((Below.refl _ _).alloc (Nat.le_refl _) _).alloc (by simp) _
  have A0 : Hid (At ((w.alloc (.cells (mcells d l) 25)).alloc (.cells #[.int .i64 s] 3)) (some ⟨w.heap.size + 1, 0, none⟩) [s]) := by
    have := at_oneT (w.alloc (.cells (mcells d l) 25)) s
    rwa [World.size_alloc] at this
  go_enter Tryd.func89, Tryd.ntmps89
  go_wp2_with fail
  refine (refStep_own d l (some ⟨w.heap.size + 1, 0, none⟩) 1 [s] e _ (h.out.below B0.out (Nat.le_refl _)).a HL.out A0.out (by simp [maxLen])).mono ?_
  rintro r V ⟨v, rfl, ov, hb⟩
  rw [HQ.out] at ov
  have B1 := Hid.of (B0.out.trans (hb.mono B0.out.size))
  obtain ⟨va, vc, rfl, at1, -⟩ := ov.at
  clear ov hb B0 A0
  rcases at1 with h0 | ⟨g, o, rfl, hg, hc⟩
  · cases h0
  · have c0 : V.cell? ⟨g, o, none⟩ = some (.int .i64 t) := hc 0 (by simp)
    clear hc hg
    go_wp2
    go_ret
    exact ⟨rfl, B1.out⟩

end Go.Proofs.YtbdkaobbfmgnhaaDoor
namespace Go.Proofs.YtbdkaobbfmgnhaaDoor
open Go.RowKit
set_option linter.unusedVariables false

/-- The value of a row of the table of booleans. -/
abbrev rowV (n K : Nat) (q : Nat → Nat) (s : Nat) : Value := if s < K then .slice (some ⟨q s, 0, none⟩) n n else .slice none 0 0
/-- What Apart knows of the memory: K rows of the table T are there; leads has v, whose rows read as Ld. -/
structure AT (w W : World) (d : Mach) (l : ML) (n K : Nat) (q : Nat → Nat) (T : Nat → Nat → Bool) (v : Nat → Value) (Ld : Nat → List Int) : Prop where
  bel : Below w.heap.size w W
  kd : Blk W w.heap.size 25 (mcells d l)
  pa : RowC W (w.heap.size + 1) 115 n (rowV n K q)
  pl : RowC W (w.heap.size + 2) 22 n v
  rw : ∀ s, s < K → RowC W (q s) 4 n (fun t => .bool (T s t))
  qi : ∀ s s', s < K → s' < K → q s = q s' → s = s'
  ql : ∀ s, s < K → w.heap.size + 3 ≤ q s
  le : ∀ s, s < n → Own W (w.heap.size + 3) (v s) (Ld s)
  ap : ∀ s s' g, s < n → s' < n → s ≠ s' → (v s).ownBlock = some g → (v s').ownBlock ≠ some g
section
variable {w W : World} {d : Mach} {l : ML} {n K : Nat} {q : Nat → Nat} {T : Nat → Nat → Bool} {v : Nat → Value} {Ld : Nat → List Int}
theorem AT.below {W' : World} (h : AT w W d l n K q T v Ld) (hb : Below W.heap.size W W') : AT w W' d l n K q T v Ld :=
  ⟨h.bel.trans (hb.mono h.bel.size), h.kd.below hb h.kd.lt, h.pa.below hb h.pa.lt, h.pl.below hb h.pl.lt, fun s hs => (h.rw s hs).below hb (h.rw s hs).lt, h.qi, h.ql, fun s hs => own_same (h.le s hs) (fun k hk => hb.block k (World.ownsRow.lt (h.le s hs) k hk).2), h.ap⟩
/-- One cell of the table is set. -/
theorem AT.set (h : AT w W d l n K q T v Ld) {s t : Nat} (hs : s < K) (ht : t < n) (b : Bool) : AT w (W.setCell ⟨q s, t, none⟩ (.bool b)) d l n K q (fun x y => if x = s ∧ y = t then b else T x y) v Ld := by
  have hq := h.ql s hs
  have hty : ∀ x, x < n → (v x).ownBlock ≠ some (q s) := fun x hx e => by
    obtain ⟨cs, hc⟩ := own_type (h.le x hx) e
    obtain ⟨cs', hr, -, -⟩ := h.rw s hs
    have hr : W.heap[q s]? = some (.cells cs' 4 (0, 0)) := hr
    rw [hc] at hr
    have := Option.some.inj hr
    injection this with _ e2 _
    exact absurd e2 (by decide)
  refine ⟨h.bel.setCell (p := ⟨q s, t, none⟩) (show w.heap.size ≤ q s by omega) _, h.kd.other (by omega) _, h.pa.other (by omega) _, h.pl.other (by omega) _, fun x hx => ?_, h.qi, h.ql, fun x hx => own_same (h.le x hx) (fun k hk => Below.heap_setCell W ⟨q s, t, none⟩ _ k (fun e => hty x hx (by rw [hk]; exact congrArg some e))), h.ap⟩
  by_cases e : x = s
  · subst e
    refine ((h.rw x hx).set ht (.bool b)).congr (fun j hj => ?_)
    by_cases e2 : j = t
    · rw [if_pos e2, if_pos ⟨rfl, e2⟩]
    · rw [if_neg e2, if_neg (fun h => e2 h.2)]
  · refine ((h.rw x hx).other (fun e2 => e (h.qi s x hs hx e2).symm) _).congr (fun j hj => ?_)
    rw [if_neg (fun h => e h.1)]
/-- One row more. -/
theorem AT.row (h : AT w W d l n K q T v Ld) (hK : K < n) : AT w ((W.alloc (.cells (madeCells #[.bool false] n) 4)).setCell ⟨w.heap.size + 1, K, none⟩ (.slice (some ⟨W.heap.size, 0, none⟩) n n)) d l n (K + 1) (fun s => if s = K then W.heap.size else q s) (fun x y => if x = K then false else T x y) v Ld := by
  have hb : Below W.heap.size W (W.alloc (.cells (madeCells #[.bool false] n) 4)) := (Below.refl _ _).alloc (Nat.le_refl _) _
  have h' := h.below hb
  have lp := h.pl.lt
  have lq : ∀ s, s < K → q s < W.heap.size := fun s hs => (h.rw s hs).lt
  refine ⟨h'.bel.setCell (p := ⟨w.heap.size + 1, K, none⟩) (show w.heap.size ≤ w.heap.size + 1 by omega) _, h'.kd.other (by omega) _, ?_, h'.pl.other (by omega) _, fun x hx => ?_, fun x y hx hy e => ?_, fun x hx => ?_, fun x hx => own_same (h'.le x hx) (fun k hk => Below.heap_setCell _ ⟨w.heap.size + 1, K, none⟩ _ k (fun e => by have h1 := (World.ownsRow.lt (h'.le x hx) k hk).1; have e : k = w.heap.size + 1 := e; omega)), h.ap⟩
  · refine (h'.pa.set hK _).congr (fun j hj => ?_)
    by_cases e : j = K
    · subst e; rw [if_pos rfl]; unfold rowV; rw [if_pos (by omega)]; dsimp only; rw [if_pos rfl]
    · rw [if_neg e]; unfold rowV
      by_cases e2 : j < K
      · rw [if_pos e2, if_pos (by omega)]; dsimp only; rw [if_neg e]
      · rw [if_neg e2, if_neg (by omega)]
  · by_cases e : x = K
    · subst e
      rw [if_pos rfl]
      refine (RowC.other ?_ (by omega) _).congr (g := fun t => .bool (if x = x then false else T x t)) (fun j hj => by rw [if_pos rfl])
      exact RowC.made (Blk.new W _ _)
    · have := lq x (by omega)
      have := h.ql x (by omega)
      rw [if_neg e]
      refine ((h'.rw x (by omega)).other (by omega) _).congr (fun j hj => by rw [if_neg e])
  · by_cases ex : x = K
    · by_cases ey : y = K
      · omega
      · rw [if_pos ex, if_neg ey] at e
        have := lq y (by omega); omega
    · by_cases ey : y = K
      · rw [if_neg ex, if_pos ey] at e
        have := lq x (by omega); omega
      · rw [if_neg ex, if_neg ey] at e
        exact h.qi x y (by omega) (by omega) e
  · by_cases ex : x = K
    · rw [if_pos ex]; omega
    · rw [if_neg ex]; exact h.ql x (by omega)
/-- One number more in a row of leads. -/
theorem AT.lead {W2 W3 : World} {v' : Value} {t : Int} (h : AT w W d l n K q T v Ld) (hW3 : Below W.heap.size W W3) {s : Nat} (hs : s < n) (o1 : Own W2 (w.heap.size + 3) v' (Ld s ++ [t])) (g : W3.grownBy W2 (v s).ownBlock) (fr : v'.ownBlock = (v s).ownBlock ∨ v'.ownBlock = some W3.heap.size) :
    RowC W2 (w.heap.size + 2) 22 n v ∧ AT w (W2.setCell ⟨w.heap.size + 2, s, none⟩ v') d l n K q T (fun x => if x = s then v' else v x) (fun x => if x = s then Ld s ++ [t] else Ld x) := by
  have h3 := h.below hW3
  have lp := h3.pl.lt
  have low : ∀ j, j < w.heap.size + 3 → W2.heap[j]? = W3.heap[j]? := fun j hj => g.block j (by omega) (fun e => by have := (World.ownsRow.lt (h3.le s hs) j e.symm).1; omega)
  have hty : ∀ (j : Nat) (cs : Array Value) (ty : TypeId), ty ≠ 3 → W3.heap[j]? = some (.cells cs ty (0, 0)) → W2.heap[j]? = W3.heap[j]? := fun j cs ty ht hq => g.block j (Array.getElem?_eq_some_iff.1 hq).1 (fun e => by
    obtain ⟨c2, h2⟩ := own_type (h3.le s hs) e.symm
    rw [hq] at h2; cases h2; exact ht rfl)
  have pl2 : RowC W2 (w.heap.size + 2) 22 n v := h3.pl.same (low _ (by omega))
  have bl2 : Below w.heap.size w W2 := h3.bel.grown g h3.bel.size (fun j hj => Nat.le_trans (by omega) (World.ownsRow.lt (h3.le s hs) j hj).1)
  refine ⟨pl2, ⟨bl2.setCell (p := ⟨w.heap.size + 2, s, none⟩) (show w.heap.size ≤ w.heap.size + 2 by omega) _, Blk.other ((low _ (by omega)).trans h3.kd) (by omega) _, (h3.pa.same (low _ (by omega))).other (by omega) _, (pl2.set hs v').congr (fun j hj => rfl), fun x hx => ?_, h.qi, h.ql, fun x hx => ?_, fun x y b hx hy hne e1 e2 => ?_⟩⟩
  · have h1 := h3.rw x hx
    have h2 := h.ql x hx
    obtain ⟨cs, hb, -, -⟩ := id h1
    exact (h1.same (hty _ cs _ (by decide) hb)).other (by omega) _
  · have keep : ∀ {u : Value} {L : List Int}, Own W2 (w.heap.size + 3) u L → Own (W2.setCell ⟨w.heap.size + 2, s, none⟩ v') (w.heap.size + 3) u L := fun ho => own_same ho (fun k hk => Below.heap_setCell _ ⟨w.heap.size + 2, s, none⟩ _ k (fun e => by have h1 := (World.ownsRow.lt ho k hk).1; have e : k = w.heap.size + 2 := e; omega))
    by_cases e : x = s
    · rw [if_pos e, if_pos e]; exact keep o1
    · rw [if_neg e, if_neg e]
      refine keep (own_same (h3.le x hx) (fun k hk => g.block k (World.ownsRow.lt (h3.le x hx) k hk).2 (fun e2 => h.ap x s k hx hs e hk e2.symm)))
  · by_cases ex : x = s
    · by_cases ey : y = s
      · omega
      · rw [if_pos ex] at e1
        rw [if_neg ey] at e2
        rcases fr with f | f
        · rw [f] at e1; exact h.ap s y b hs hy (by omega) e1 e2
        · rw [f] at e1
          have := (World.ownsRow.lt (h3.le y hy) b e2).2
          have := Option.some.inj e1
          omega
    · by_cases ey : y = s
      · rw [if_neg ex] at e1
        rw [if_pos ey] at e2
        rcases fr with f | f
        · rw [f] at e2; exact h.ap x s b hx hs (by omega) e1 e2
        · rw [f] at e2
          have := (World.ownsRow.lt (h3.le x hx) b e1).2
          have := Option.some.inj e2
          omega
      · rw [if_neg ex] at e1
        rw [if_neg ey] at e2
        exact h.ap x y b hx hy hne e1 e2
end

end Go.Proofs.YtbdkaobbfmgnhaaDoor
namespace Go.Proofs.YtbdkaobbfmgnhaaDoor
open Go.RowKit
set_option linter.unusedVariables false

theorem of_prodL {α β : Type} {x : α} {y : β} {m : List β} : ∀ {l : List α}, (x, y) ∈ prodL l m → x ∈ l ∧ y ∈ m
  | [], h => by simp [prodL] at h
  | z :: r, h => by
    rw [prodL, List.mem_append] at h
    rcases h with h | h
    · obtain ⟨u, hu, e⟩ := List.mem_map.1 h
      cases e
      exact ⟨by simp, hu⟩
    · have := of_prodL h
      exact ⟨by simp [this.1], this.2⟩
def sqr (n : Nat) : List (Nat × Nat) := prodL (List.range n) (List.range n)
theorem mem_sqr {n x y : Nat} : (x, y) ∈ sqr n ↔ x < n ∧ y < n := by
  constructor
  · intro h; have := of_prodL h; simpa using this
  · rintro ⟨h1, h2⟩; exact mem_prodL (by simpa using h2) (by simpa using h1)
/-- How many are not told apart. -/
def cntF (n : Nat) (T : Nat → Nat → Bool) : Nat := ((sqr n).filter fun p => !T p.1 p.2).length
theorem cntF_congr {n : Nat} {T T' : Nat → Nat → Bool} (h : ∀ x y, x < n → y < n → T x y = T' x y) : cntF n T = cntF n T' := by
  unfold cntF
  congr 1
  refine List.filter_congr (fun p hp => ?_)
  obtain ⟨x, y⟩ := p
  have := mem_sqr.1 hp
  dsimp only
  rw [h x y this.1 this.2]
theorem cntF_set {n s t : Nat} {T : Nat → Nat → Bool} (hs : s < n) (ht : t < n) (h : T s t = false) : cntF n (fun x y => if x = s ∧ y = t then true else T x y) < cntF n T := by
  unfold cntF
  have e : (sqr n).filter (fun p => !(if p.1 = s ∧ p.2 = t then true else T p.1 p.2)) = ((sqr n).filter fun p => !T p.1 p.2).filter (fun p => !(decide (p.1 = s ∧ p.2 = t))) := by
    rw [List.filter_filter]
    refine List.filter_congr (fun p hp => ?_)
    by_cases e : p.1 = s ∧ p.2 = t
    · rw [if_pos e]; simp [e]
    · rw [if_neg e]; simp [e]
  rw [e, List.length_filter_lt_length_iff_exists]
  exact ⟨(s, t), List.mem_filter.2 ⟨mem_sqr.2 ⟨hs, ht⟩, by simp [h]⟩, by simp⟩
/-- .. as the memory has it. -/
def cntW (W : World) (q : Nat → Nat) (n : Nat) : Nat := ((sqr n).filter fun p => match W.cell? ⟨q p.1, p.2, none⟩ with
  | some (.bool b) => !b
  | _ => true).length
theorem AT.cnt {w W : World} {d : Mach} {l : ML} {n : Nat} {q : Nat → Nat} {T : Nat → Nat → Bool} {v : Nat → Value} {Ld : Nat → List Int} (h : AT w W d l n n q T v Ld) : cntW W q n = cntF n T := by
  unfold cntW cntF
  congr 1
  refine List.filter_congr (fun p hp => ?_)
  obtain ⟨x, y⟩ := p
  have := mem_sqr.1 hp
  dsimp only
  rw [(h.rw x this.1).cell this.2]
/-- Where a state leads to, as a number. -/
def toN (ars : List Arr) (s e : Nat) : Nat := (toI ars (s : Int) (e : Int)).toNat
/-- What a sweep that began with T0 knows: b: something was found; P: what has been gone through. -/
structure SW (d : Mach) (n v : Nat) (T0 T : Nat → Nat → Bool) (b : Bool) (P : Nat → Nat → Nat → Prop) : Prop where
  bs : ∀ x y, x < n → y < n → hasB d.ends (x : Int) ≠ hasB d.ends (y : Int) → T x y = true
  sd : ∀ x y, x < n → y < n → T x y = true → langS d [(x : Int)] ≠ langS d [(y : Int)]
  yes : b = true → cntF n T < cntF n T0
  no : b = false → (∀ x y, x < n → y < n → T x y = T0 x y) ∧ ∀ x y e, x < n → y < n → e < v → P x y e → T (toN d.arrows x e) (toN d.arrows y e) = true → T x y = true
theorem SW.more {d : Mach} {n v : Nat} {T0 T : Nat → Nat → Bool} {b : Bool} {P P' : Nat → Nat → Nat → Prop} (h : SW d n v T0 T b P) (hp : ∀ x y e, x < n → y < n → e < v → P' x y e → P x y e ∨ T x y = true) : SW d n v T0 T b P' :=
  ⟨h.bs, h.sd, h.yes, fun hb => ⟨(h.no hb).1, fun x y e hx hy he hP ht => by
    rcases hp x y e hx hy he hP with h1 | h1
    · exact (h.no hb).2 x y e hx hy he h1 ht
    · exact h1⟩⟩
theorem SW.miss {d : Mach} {n v : Nat} {T0 T : Nat → Nat → Bool} {b : Bool} {P P' : Nat → Nat → Nat → Prop} {s t e : Nat} (h : SW d n v T0 T b P) (hm : T (toN d.arrows s e) (toN d.arrows t e) = false) (hp : ∀ x y e', P' x y e' → P x y e' ∨ (x = s ∧ y = t ∧ e' = e)) : SW d n v T0 T b P' :=
  ⟨h.bs, h.sd, h.yes, fun hb => ⟨(h.no hb).1, fun x y e' hx hy he hP ht => by
    rcases hp x y e' hP with h1 | ⟨rfl, rfl, rfl⟩
    · exact (h.no hb).2 x y e' hx hy he h1 ht
    · rw [hm] at ht; cases ht⟩⟩
theorem SW.hit {d : Mach} (hd : detB d = true) {n v : Nat} (en : d.st = (n : Int)) (ev : d.ev = (v : Int)) {T0 T : Nat → Nat → Bool} {b : Bool} {P P' : Nat → Nat → Nat → Prop} {s t e : Nat} (h : SW d n v T0 T b P) (hs : s < n) (ht : t < n) (he : e < v) (hf : T s t = false) (hm : T (toN d.arrows s e) (toN d.arrows t e) = true) : SW d n v T0 (fun x y => if x = s ∧ y = t then true else T x y) true P' := by
  have a1 := (toI_step hd (s := (s : Int)) (e := (e : Int)) (by omega) (by omega) (by omega) (by omega)).2
  have a2 := (toI_step hd (s := (t : Int)) (e := (e : Int)) (by omega) (by omega) (by omega) (by omega)).2
  refine ⟨fun x y hx hy hxy => ?_, fun x y hx hy hxy => ?_, fun _ => ?_, fun hb => by cases hb⟩
  · by_cases c : x = s ∧ y = t
    · rw [if_pos c]
    · rw [if_neg c]; exact h.bs x y hx hy hxy
  · by_cases c : x = s ∧ y = t
    · obtain ⟨rfl, rfl⟩ := c
      refine apart_on hd (e := e) (by omega) (by omega) (by omega) (by omega) (by omega) ?_
      have := h.sd _ _ (show toN d.arrows x e < n by unfold toN; omega) (show toN d.arrows y e < n by unfold toN; omega) hm
      unfold toN at this
      rwa [Int.toNat_of_nonneg a1.1, Int.toNat_of_nonneg a2.1] at this
    · rw [if_neg c] at hxy; exact h.sd x y hx hy hxy
  · have c1 := cntF_set hs ht hf
    cases b with
    | true => have := h.yes rfl; omega
    | false => rw [← cntF_congr (h.no rfl).1]; exact c1

end Go.Proofs.YtbdkaobbfmgnhaaDoor
