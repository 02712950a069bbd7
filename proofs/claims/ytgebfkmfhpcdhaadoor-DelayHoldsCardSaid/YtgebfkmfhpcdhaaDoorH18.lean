/-
  What diagnose.Delay must leave.
  Plain: the search that diagnose.Delay makes: twins, each with the greatest length in fault known so far, and those that wait. No program, no model.
  The watcher of package diagnose in memory: its block, its map of twins, its row of twins that wait.
  The walk of diagnose's watcher.behind.
-/
import Derived.Test.YtgebfkmfhpcdhaaDoorH17
import Derived.Test.YtgebfkmfhpcdhaaDoorH05
import Derived.Test.YtgebfkmfhpcdhaaDoorH13
import Derived.Test.YtgebfkmfhpcdhaaDoorH07
import Derived.Test.YtgebfkmfhpcdhaaDoorH04
namespace Go.Proofs.YtgebfkmfhpcdhaaDoor
open Go.RowKit
set_option linter.unusedVariables false

/-- What Delay answers (M1, M2). -/
def delOut (m : Mach) (seen faults : List Int) : Int × Int := if mayB m = true ∧ rowB m.ev seen = true ∧ rowB m.ev faults = true then (if m.st ≤ 6 then (delD m seen faults, 0) else (0, 1)) else (0, 2)
theorem delOut_m {m : Mach} (h : mayB m = false) (seen faults : List Int) : delOut m seen faults = (0, 2) := by unfold delOut; rw [if_neg (by rw [h]; simp)]
theorem delOut_s {m : Mach} {seen : List Int} (h : rowB m.ev seen = false) (faults : List Int) : delOut m seen faults = (0, 2) := by unfold delOut; rw [if_neg (by rw [h]; simp)]
theorem delOut_f {m : Mach} {faults : List Int} (h : rowB m.ev faults = false) (seen : List Int) : delOut m seen faults = (0, 2) := by unfold delOut; rw [if_neg (by rw [h]; simp)]
theorem delOut_z {m : Mach} {seen faults : List Int} (hm : mayB m = true) (hs : rowB m.ev seen = true) (hf : rowB m.ev faults = true) (h : ¬ m.st ≤ 6) : delOut m seen faults = (0, 1) := by unfold delOut; rw [if_pos ⟨hm, hs, hf⟩, if_neg h]
theorem delOut_ok {m : Mach} {seen faults : List Int} (hm : mayB m = true) (hs : rowB m.ev seen = true) (hf : rowB m.ev faults = true) (h : m.st ≤ 6) : delOut m seen faults = (delD m seen faults, 0) := by unfold delOut; rw [if_pos ⟨hm, hs, hf⟩, if_pos h]
/-- What it leaves. -/
def DelPost (w : World) (o : Int × Int) (e : Ending) (w' : World) : Prop := e = .returned (.tuple #[.int .i64 o.1, .int .i64 o.2]) ∧ Below w.heap.size w w'

end Go.Proofs.YtgebfkmfhpcdhaaDoor
namespace Go.Proofs.YtgebfkmfhpcdhaaDoor
open Go.RowKit
set_option linter.unusedVariables false
set_option linter.unusedSectionVars false

/-! A way that counts often comes round. -/
section
variable {σ : Type} [DecidableEq σ] {nx : σ → List (σ × Bool)} {F : σ → Bool}
theorem pt_many (hF : ∀ x, ∀ y ∈ nx x, (y.2 = true → F x = true) ∧ (F x = true → F y.1 = true)) : ∀ (p : List (σ × Bool)) {a b : σ}, Pt nx a p b → F b = true →
    ∃ L : List σ, L.length = pw p + 1 ∧ (∀ x ∈ L, F x = true ∧ ∃ q, Pt nx a q x) ∧ L.Pairwise (fun x y => ∃ q, Pt nx x q y ∧ 0 < pw q)
  | [], a, b, hp, hb => by
    have e : a = b := hp
    subst e
    exact ⟨[a], rfl, fun x hx => by rw [List.mem_singleton] at hx; rw [hx]; exact ⟨hb, [], rfl⟩, List.pairwise_singleton _ _⟩
  | y :: r, a, b, hp, hb => by
    obtain ⟨L, l1, l2, l3⟩ := pt_many hF r hp.2 hb
    have up : ∀ x ∈ L, ∃ q, Pt nx a (y :: q) x := fun x hx => by
      obtain ⟨-, q, hq⟩ := l2 x hx
      exact ⟨q, hp.1, hq⟩
    by_cases e : y.2 = true
    · refine ⟨a :: L, by rw [List.length_cons, l1, pw_cons, e, Bool.toNat_true]; omega, fun x hx => ?_, List.pairwise_cons.2 ⟨fun x hx => ?_, l3⟩⟩
      · rcases List.mem_cons.1 hx with k | k
        · rw [k]; exact ⟨(hF a y hp.1).1 e, [], rfl⟩
        · obtain ⟨q, hq⟩ := up x k
          exact ⟨(l2 x k).1, _, hq⟩
      · obtain ⟨q, hq⟩ := up x hx
        exact ⟨_, hq, by rw [pw_cons, e, Bool.toNat_true]; omega⟩
    · have e : y.2 = false := by simpa using e
      refine ⟨L, by rw [l1, pw_cons, e, Bool.toNat_false]; omega, fun x hx => ?_, l3⟩
      obtain ⟨q, hq⟩ := up x hx
      exact ⟨(l2 x hx).1, _, hq⟩
theorem many_round {L U : List σ} (h : L.Pairwise (fun x y => ∃ q, Pt nx x q y ∧ 0 < pw q)) (hU : ∀ x ∈ L, x ∈ U) (hl : U.length < L.length) : ∃ x ∈ L, ∃ q, Pt nx x q x ∧ 0 < pw q := by
  apply Classical.byContradiction
  intro hc
  have hnd : L.Nodup := by
    have key : ∀ L' : List σ, (∀ x ∈ L', x ∈ L) → L'.Pairwise (fun x y => ∃ q, Pt nx x q y ∧ 0 < pw q) → L'.Nodup := by
      intro L'
      induction L' with
      | nil => intro _ _; exact List.nodup_nil
      | cons a r ih =>
        intro hs hp
        rw [List.pairwise_cons] at hp
        rw [List.nodup_cons]
        refine ⟨fun ha => hc ⟨a, hs a (List.mem_cons_self ..), hp.1 a ha⟩, ih (fun x hx => hs x (List.mem_cons_of_mem _ hx)) hp.2⟩
    exact key L (fun x hx => hx) h
  have := nodup_sub hnd hU
  omega
theorem pt_in {U : List σ} (hU : ∀ x ∈ U, ∀ y ∈ nx x, y.1 ∈ U) : ∀ (p : List (σ × Bool)) {a b : σ}, Pt nx a p b → a ∈ U → b ∈ U
  | [], a, b, hp, ha => by have e : a = b := hp; rw [← e]; exact ha
  | y :: r, a, b, hp, ha => pt_in hU r hp.2 (hU a ha y hp.1)
end

/-! What is known of twins. -/
abbrev Pr := Int × Int
abbrev DSt := List (Pr × Int) × List Pr
def getP : List (Pr × Int) → Pr → Option Int
  | [], _ => none
  | y :: r, x => if y.1 = x then some y.2 else getP r x
def setP : List (Pr × Int) → Pr → Int → List (Pr × Int)
  | [], _, _ => []
  | y :: r, x, n => if y.1 = x then (x, n) :: r else y :: setP r x n
theorem getP_mem : ∀ {M : List (Pr × Int)} {x : Pr} {n : Int}, getP M x = some n → (x, n) ∈ M
  | [], x, n, h => by cases h
  | y :: r, x, n, h => by
    rw [getP] at h
    split at h
    · rename_i e
      cases h
      rw [← e]; exact List.mem_cons_self ..
    · exact List.mem_cons_of_mem _ (getP_mem h)
theorem getP_none : ∀ {M : List (Pr × Int)} {x : Pr}, getP M x = none ↔ ∀ y ∈ M, y.1 ≠ x
  | [], x => by simp [getP]
  | y :: r, x => by
    rw [getP]
    by_cases e : y.1 = x
    · rw [if_pos e]
      exact ⟨fun h => (by cases h), fun h => absurd e (h y (List.mem_cons_self ..))⟩
    · rw [if_neg e, getP_none (M := r)]
      refine ⟨fun h z hz => ?_, fun h z hz => h z (List.mem_cons_of_mem _ hz)⟩
      rcases List.mem_cons.1 hz with k | k
      · rw [k]; exact e
      · exact h z k
theorem getP_of_mem : ∀ {M : List (Pr × Int)} {x : Pr} {n : Int}, (M.map (·.1)).Nodup → (x, n) ∈ M → getP M x = some n
  | [], x, n, _, h => by cases h
  | y :: r, x, n, hn, h => by
    rw [List.map_cons, List.nodup_cons] at hn
    rw [getP]
    rcases List.mem_cons.1 h with k | k
    · rw [if_pos (by rw [← k])]; rw [← k]
    · rw [if_neg (fun e => hn.1 (List.mem_map.2 ⟨(x, n), k, e.symm⟩))]
      exact getP_of_mem hn.2 k
theorem getP_app : ∀ {M : List (Pr × Int)} {y : Pr × Int} {x : Pr}, getP (M ++ [y]) x = match getP M x with | some n => some n | none => if y.1 = x then some y.2 else none
  | [], y, x => by simp [getP]
  | z :: r, y, x => by
    rw [List.cons_append, getP, getP]
    split
    · rfl
    · exact getP_app
theorem keys_set : ∀ (M : List (Pr × Int)) (x : Pr) (n : Int), (setP M x n).map (·.1) = M.map (·.1)
  | [], x, n => rfl
  | y :: r, x, n => by
    rw [setP]
    split
    · rename_i e
      rw [List.map_cons, List.map_cons, e]
    · rw [List.map_cons, List.map_cons, keys_set r x n]
theorem getP_set : ∀ (M : List (Pr × Int)) (x : Pr) (n : Int) (z : Pr), getP (setP M x n) z = if z = x then (getP M x).map (fun _ => n) else getP M z
  | [], x, n, z => by simp [setP, getP]
  | y :: r, x, n, z => by
    rw [setP]
    by_cases e : y.1 = x
    · rw [if_pos e, getP, getP, getP, if_pos e]
      by_cases q : z = x
      · rw [if_pos q.symm, if_pos q]; rfl
      · rw [if_neg (fun k => q k.symm), if_neg q, if_neg (fun k => q (by rw [← k, e]))]
    · rw [if_neg e, getP, getP, getP, if_neg e, getP_set r x n z]
      by_cases q : z = x
      · rw [if_pos q, if_pos q, if_neg (fun k => e (by rw [k, q]))]
      · rw [if_neg q, if_neg q]
theorem mem_set : ∀ {M : List (Pr × Int)} {x : Pr} {n : Int} {z : Pr × Int}, z ∈ setP M x n → z ∈ M ∨ z = (x, n)
  | [], x, n, z, h => by cases h
  | y :: r, x, n, z, h => by
    rw [setP] at h
    split at h
    · rcases List.mem_cons.1 h with k | k
      · exact .inr k
      · exact .inl (List.mem_cons_of_mem _ k)
    · rcases List.mem_cons.1 h with k | k
      · rw [k]; exact .inl (List.mem_cons_self ..)
      · rcases mem_set k with q | q
        · exact .inl (List.mem_cons_of_mem _ q)
        · exact .inr q
theorem setP_at : ∀ {M : List (Pr × Int)} {x : Pr} {k n : Int} {j : Nat}, (M.map (·.1)).Nodup → M[j]? = some (x, k) → setP M x n = M.set j (x, n)
  | [], x, k, n, j, _, h => by simp at h
  | y :: r, x, k, n, 0, _, h => by
    have e : y = (x, k) := by simpa using h
    rw [setP, if_pos (by rw [e])]; rfl
  | y :: r, x, k, n, j + 1, hn, h => by
    rw [List.map_cons, List.nodup_cons] at hn
    have h : r[j]? = some (x, k) := by simpa using h
    rw [setP, if_neg (fun e => hn.1 (List.mem_map.2 ⟨(x, k), List.mem_of_getElem? h, e.symm⟩)), setP_at hn.2 h]; rfl
/-- One twin is met, with a length. -/
def rel1 (s : DSt) (y : Pr × Int) : DSt :=
  match getP s.1 y.1 with
  | none => (s.1 ++ [y], s.2 ++ [y.1])
  | some k => if k < y.2 then (setP s.1 y.1 y.2, s.2 ++ [y.1]) else s
def relL (s : DSt) (ys : List (Pr × Int)) : DSt := ys.foldl rel1 s
theorem relL_app (s : DSt) (ys zs : List (Pr × Int)) : relL s (ys ++ zs) = relL (relL s ys) zs := List.foldl_append ..
theorem relL_snoc (s : DSt) (ys : List (Pr × Int)) (y : Pr × Int) : relL s (ys ++ [y]) = rel1 (relL s ys) y := by rw [relL_app]; rfl
theorem rel1_new {s : DSt} {y : Pr × Int} (h : getP s.1 y.1 = none) : rel1 s y = (s.1 ++ [y], s.2 ++ [y.1]) := by unfold rel1; rw [h]
theorem rel1_more {s : DSt} {y : Pr × Int} {k : Int} (h : getP s.1 y.1 = some k) (hk : k < y.2) : rel1 s y = (setP s.1 y.1 y.2, s.2 ++ [y.1]) := by unfold rel1; rw [h]; exact if_pos hk
theorem rel1_less {s : DSt} {y : Pr × Int} {k : Int} (h : getP s.1 y.1 = some k) (hk : ¬ k < y.2) : rel1 s y = s := by unfold rel1; rw [h]; exact if_neg hk
/-- What is left to be found. -/
def wtP (cut : Int) (M : List (Pr × Int)) (x : Pr) : Nat := match getP M x with | none => (cut + 2).toNat | some n => (cut - n).toNat
def potP (cut : Int) (U : List Pr) (M : List (Pr × Int)) : Nat := (U.map (wtP cut M)).sum
theorem sum_le {f g : Pr → Nat} : ∀ {U : List Pr}, (∀ x ∈ U, f x ≤ g x) → (U.map f).sum ≤ (U.map g).sum
  | [], _ => Nat.le_refl _
  | x :: r, h => by
    have := sum_le (U := r) (fun y hy => h y (List.mem_cons_of_mem _ hy))
    have := h x (List.mem_cons_self ..)
    simp only [List.map_cons, List.sum_cons]; omega
theorem sum_lt {f g : Pr → Nat} : ∀ {U : List Pr} {z : Pr}, (∀ x ∈ U, f x ≤ g x) → z ∈ U → f z < g z → (U.map f).sum < (U.map g).sum
  | [], z, _, h, _ => by cases h
  | x :: r, z, h, hz, hl => by
    have h1 := h x (List.mem_cons_self ..)
    simp only [List.map_cons, List.sum_cons]
    rcases List.mem_cons.1 hz with k | k
    · rw [k] at hl
      have := sum_le (U := r) (fun y hy => h y (List.mem_cons_of_mem _ hy))
      omega
    · have := sum_lt (U := r) (fun y hy => h y (List.mem_cons_of_mem _ hy)) k hl
      omega
/-- What meeting some twins leaves. -/
structure RelI (cut : Int) (U : List Pr) (s s' : DSt) (ys : List (Pr × Int)) : Prop where
  nd : (s.1.map (·.1)).Nodup → (s'.1.map (·.1)).Nodup
  mono : ∀ x n, getP s.1 x = some n → ∃ n', n ≤ n' ∧ getP s'.1 x = some n'
  all : ∀ y ∈ ys, ∃ k, getP s'.1 y.1 = some k ∧ y.2 ≤ k
  same : ∀ x, x ∉ s'.2 → getP s'.1 x = getP s.1 x ∧ x ∉ s.2
  que : ∀ x ∈ s'.2, x ∈ s.2 ∨ ∃ n, (x, n) ∈ ys
  val : ∀ y ∈ s'.1, y ∈ s.1 ∨ y ∈ ys
  pot : (∀ y ∈ ys, y.1 ∈ U ∧ -1 ≤ y.2 ∧ y.2 ≤ cut) → 2 * potP cut U s'.1 + s'.2.length ≤ 2 * potP cut U s.1 + s.2.length
theorem reli_nil (cut : Int) (U : List Pr) (s : DSt) : RelI cut U s s [] :=
  ⟨fun h => h, fun x n h => ⟨n, Int.le_refl _, h⟩, fun y h => (by cases h), fun x h => ⟨rfl, h⟩, fun x h => .inl h, fun y h => .inl h, fun _ => Nat.le_refl _⟩
theorem pot_lt {cut : Int} {U : List Pr} {s : DSt} {y : Pr × Int} (hU : y.1 ∈ U) (h2 : -1 ≤ y.2) (h3 : y.2 ≤ cut) {M' : List (Pr × Int)} (ho : ∀ x, x ≠ y.1 → getP M' x = getP s.1 x) (hn : getP M' y.1 = some y.2) (hk : ∀ k, getP s.1 y.1 = some k → k < y.2) : potP cut U M' < potP cut U s.1 := by
  have at1 : wtP cut M' y.1 < wtP cut s.1 y.1 := by
    unfold wtP
    rw [hn]
    cases hg : getP s.1 y.1 with
    | none => dsimp only; omega
    | some k => have := hk k hg; dsimp only; omega
  refine sum_lt (z := y.1) (fun x hx => ?_) hU at1
  by_cases e : x = y.1
  · rw [e]; exact Nat.le_of_lt at1
  · unfold wtP
    rw [ho x e]; exact Nat.le_refl _
theorem reli_step {cut : Int} {U : List Pr} {s s' : DSt} {ys : List (Pr × Int)} (h : RelI cut U s s' ys) (y : Pr × Int) : RelI cut U s (rel1 s' y) (ys ++ [y]) := by
  have push : ∀ M' : List (Pr × Int), (∀ x, x ≠ y.1 → getP M' x = getP s'.1 x) → getP M' y.1 = some y.2 → (∀ k, getP s'.1 y.1 = some k → k < y.2) → ((s'.1.map (·.1)).Nodup → (M'.map (·.1)).Nodup) → (∀ z ∈ M', z ∈ s'.1 ∨ z = y) → RelI cut U s (M', s'.2 ++ [y.1]) (ys ++ [y]) := fun M' ho hn hk hnd hv => by
    have mn : ∀ x n, getP s'.1 x = some n → ∃ n', n ≤ n' ∧ getP M' x = some n' := fun x n hx => by
      by_cases e : x = y.1
      · subst e
        exact ⟨_, Int.le_of_lt (hk n hx), hn⟩
      · exact ⟨n, Int.le_refl _, by rw [ho x e]; exact hx⟩
    refine ⟨fun q => hnd (h.nd q), fun x n hx => ?_, fun z hz => ?_, fun x hx => ?_, fun x hx => ?_, fun z hz => ?_, fun hy => ?_⟩
    · obtain ⟨n1, h1, h2⟩ := h.mono x n hx
      obtain ⟨n2, h3, h4⟩ := mn x n1 h2
      exact ⟨n2, Int.le_trans h1 h3, h4⟩
    · rcases List.mem_append.1 hz with k | k
      · obtain ⟨n1, h1, h2⟩ := h.all z k
        obtain ⟨n2, h3, h4⟩ := mn _ n1 h1
        exact ⟨n2, h4, Int.le_trans h2 h3⟩
      · rw [List.mem_singleton] at k
        rw [k]; exact ⟨_, hn, Int.le_refl _⟩
    · dsimp only at hx ⊢
      rw [List.mem_append, List.mem_singleton] at hx
      obtain ⟨h1, h2⟩ := h.same x (fun q => hx (.inl q))
      exact ⟨by rw [ho x (fun q => hx (.inr q))]; exact h1, h2⟩
    · dsimp only at hx
      rcases List.mem_append.1 hx with k | k
      · rcases h.que x k with q | ⟨n, q⟩
        · exact .inl q
        · exact .inr ⟨n, List.mem_append.2 (.inl q)⟩
      · rw [List.mem_singleton] at k
        exact .inr ⟨y.2, List.mem_append.2 (.inr (by rw [k]; exact List.mem_singleton.2 rfl))⟩
    · rcases hv z hz with k | k
      · rcases h.val z k with q | q
        · exact .inl q
        · exact .inr (List.mem_append.2 (.inl q))
      · exact .inr (List.mem_append.2 (.inr (by rw [k]; exact List.mem_singleton.2 rfl)))
    · have h1 := h.pot (fun z hz => hy z (List.mem_append.2 (.inl hz)))
      obtain ⟨h2, h3, h4⟩ := hy y (List.mem_append.2 (.inr (List.mem_singleton.2 rfl)))
      have := pot_lt (s := s') h2 h3 h4 ho hn hk
      dsimp only
      rw [List.length_append, List.length_singleton]
      omega
  cases hg : getP s'.1 y.1 with
  | none =>
    rw [rel1_new hg]
    have hne := getP_none.1 hg
    refine push _ (fun x hx => ?_) ?_ (fun k hk => by rw [hg] at hk; cases hk) (fun q => ?_) (fun z hz => ?_)
    · rw [getP_app]
      cases getP s'.1 x with
      | none => dsimp only; rw [if_neg (fun e => hx e.symm)]
      | some n => rfl
    · rw [getP_app, hg]; dsimp only; rw [if_pos rfl]
    · rw [List.map_append, List.nodup_append]
      refine ⟨q, by simp, fun a ha b hb e => ?_⟩
      obtain ⟨z, hz, rfl⟩ := List.mem_map.1 ha
      have hb : b = y.1 := by simpa using hb
      exact hne z hz (by rw [e, hb])
    · rcases List.mem_append.1 hz with k | k
      · exact .inl k
      · exact .inr (List.mem_singleton.1 k)
  | some k =>
    by_cases hk : k < y.2
    · rw [rel1_more hg hk]
      refine push _ (fun x hx => ?_) ?_ (fun k' hk' => by rw [hg] at hk'; cases hk'; exact hk) (fun q => by rw [keys_set]; exact q) (fun z hz => mem_set hz)
      · rw [getP_set, if_neg hx]
      · rw [getP_set, if_pos rfl, hg]; rfl
    · rw [rel1_less hg hk]
      refine ⟨h.nd, h.mono, fun z hz => ?_, h.same, fun x hx => ?_, fun z hz => ?_, fun hy => h.pot (fun z hz => hy z (List.mem_append.2 (.inl hz)))⟩
      · rcases List.mem_append.1 hz with q | q
        · exact h.all z q
        · rw [List.mem_singleton] at q
          rw [q]; exact ⟨k, hg, by omega⟩
      · rcases h.que x hx with q | ⟨n, q⟩
        · exact .inl q
        · exact .inr ⟨n, List.mem_append.2 (.inl q)⟩
      · rcases h.val z hz with q | q
        · exact .inl q
        · exact .inr (List.mem_append.2 (.inl q))
theorem reli_all (cut : Int) (U : List Pr) (s : DSt) : ∀ ys : List (Pr × Int), RelI cut U s (relL s ys) ys := by
  have key : ∀ (zs ys : List (Pr × Int)) (s' : DSt), RelI cut U s s' ys → RelI cut U s (relL s' zs) (ys ++ zs) := by
    intro zs
    induction zs with
    | nil => intro ys s' h; rw [List.append_nil]; exact h
    | cons z r ih =>
      intro ys s' h
      have := ih (ys ++ [z]) (rel1 s' z) (reli_step h z)
      rw [List.append_assoc] at this
      exact this
  intro ys
  exact key ys [] s (reli_nil cut U s)
theorem rel_len : ∀ (ys : List (Pr × Int)) (s : DSt), (relL s ys).2.length ≤ s.2.length + ys.length
  | [], s => by show s.2.length ≤ _; simp
  | y :: r, s => by
    have := rel_len r (rel1 s y)
    have h1 : (rel1 s y).2.length ≤ s.2.length + 1 := by
      unfold rel1
      split
      · simp
      · split
        · simp
        · omega
    show (relL (rel1 s y) r).2.length ≤ _
    rw [List.length_cons]; omega

/-! Where twins lead to. -/
def behI (faults : List Int) (n e : Int) : Int := if n = -1 ∧ hasB faults e = false then -1 else n + 1
def StD (m : Mach) (seen faults : List Int) (x : Pr) (n : Int) (y : Pr × Int) : Prop := ∃ e,
  (hasB seen e = true ∧ hasB faults e = false ∧ y.1.1 ∈ stepL m.arrows [x.1] e ∧ y.1.2 ∈ stepL m.arrows [x.2] e ∧ y.2 = behI faults n e) ∨
  (hasB seen e = false ∧ y.1.1 ∈ stepL m.arrows [x.1] e ∧ y.1.2 = x.2 ∧ y.2 = behI faults n e) ∨
  (hasB seen e = false ∧ hasB faults e = false ∧ y.1.1 = x.1 ∧ y.1.2 ∈ stepL m.arrows [x.2] e ∧ y.2 = n)
theorem behI_mono (faults : List Int) {n n' : Int} (e : Int) (h : n ≤ n') (h1 : -1 ≤ n) : behI faults n e ≤ behI faults n' e := by
  unfold behI
  by_cases c : hasB faults e = false
  · by_cases a : n = -1
    · rw [if_pos ⟨a, c⟩]
      split <;> omega
    · rw [if_neg (fun q => a q.1), if_neg (fun q => a (by omega))]
      omega
  · rw [if_neg (fun q => c q.2), if_neg (fun q => c q.2)]
    omega
theorem std_mono {m : Mach} {seen faults : List Int} {x : Pr} {n n' : Int} {y : Pr × Int} (h : StD m seen faults x n y) (hn : n ≤ n') (h1 : -1 ≤ n) : ∃ k, StD m seen faults x n' (y.1, k) ∧ y.2 ≤ k := by
  obtain ⟨e, ⟨g1, g2, g3, g4, g5⟩ | ⟨g1, g2, g3, g4⟩ | ⟨g1, g2, g3, g4, g5⟩⟩ := h
  · exact ⟨behI faults n' e, ⟨e, .inl ⟨g1, g2, g3, g4, rfl⟩⟩, by rw [g5]; exact behI_mono faults e hn h1⟩
  · exact ⟨behI faults n' e, ⟨e, .inr (.inl ⟨g1, g2, g3, rfl⟩)⟩, by rw [g4]; exact behI_mono faults e hn h1⟩
  · exact ⟨n', ⟨e, .inr (.inr ⟨g1, g2, g3, g4, rfl⟩)⟩, by rw [g5]; exact hn⟩
/-- A twin is come to by words of which the first one is in fault for so long. -/
def lenT (b : Tw) (p : List (Tw × Bool)) : Int := if faulT b = true then (pw p : Int) else -1
def RchD (m : Mach) (seen faults : List Int) (x : Pr) (n : Int) : Prop := ∃ a ∈ twS m, ∃ p b, Pt (leadsT m seen faults) a p b ∧ b.1 = x.1 ∧ b.2.1 = x.2 ∧ n = lenT b p
theorem flag01 {m : Mach} (hm : mayB m = true) {seen faults : List Int} {a b : Tw} {p : List (Tw × Bool)} (ha : a ∈ twS m) (hp : Pt (leadsT m seen faults) a p b) : b ∈ allT2 m := by
  obtain ⟨h1, h2, h3⟩ := mem_twS.1 ha
  exact pt_in (leads_in hm seen faults) p hp (mem_allT2 ((may_starts hm).2 _ h1) ((may_starts hm).2 _ h2) (.inl h3))
theorem unflag {m : Mach} (hm : mayB m = true) {seen faults : List Int} {a b : Tw} {p : List (Tw × Bool)} (hp : Pt (leadsT m seen faults) a p b) (hf : faulT b = false) : pw p = 0 := by
  apply Classical.byContradiction
  intro h
  have := pt_pos (leads_mark hm) p hp (by omega)
  rw [hf] at this; cases this
theorem lenT_snoc {m : Mach} (hm : mayB m = true) {seen faults : List Int} {a b : Tw} {p : List (Tw × Bool)} (ha : a ∈ twS m) (hp : Pt (leadsT m seen faults) a p b) {z : Tw × Bool} (hz : z ∈ leadsT m seen faults b) : StD m seen faults (b.1, b.2.1) (lenT b p) ((z.1.1, z.1.2.1), lenT z.1 (p ++ [z])) := by
  have hpw : pw (p ++ [z]) = pw p + z.2.toNat := by rw [pw_app]; simp [pw]
  obtain ⟨-, -, h01⟩ := allT2_mem (flag01 hm ha hp)
  obtain ⟨e, he⟩ := (mem_leadsT hm).1 hz
  refine ⟨e, ?_⟩
  have val : ∀ {f : Int}, z.1.2.2 = f → lenT z.1 (p ++ [z]) = if f = 1 then (pw p : Int) + z.2.toNat else -1 := fun hf => by
    subst hf
    unfold lenT faulT
    rw [hpw]
    by_cases q : z.1.2.2 = 1
    · rw [if_pos q, if_pos (by rw [q]; rfl)]; omega
    · rw [if_neg q, if_neg (by simpa using q)]
  rcases mem_leadE.1 he with ⟨g1, g2, g3, g4, g5, g6⟩ | ⟨g1, g2, g3, g4, g5⟩ | ⟨g1, g2, g3, g4, g5, g6⟩
  · refine .inl ⟨g1, g2, g3, g4, ?_⟩
    dsimp only
    rw [val g5, g6]
    unfold behI lenT faulT
    rcases h01 with q | q
    · rw [q]; simp [g2]
    · rw [q]; simp [g2]
  · refine .inr (.inl ⟨g1, g2, g3, ?_⟩)
    dsimp only
    rw [val g4, g5]
    rcases h01 with q | q
    · have h0 := unflag hm hp (by unfold faulT; rw [q]; rfl)
      unfold behI lenT faulT
      rw [q, h0]
      cases hasB faults e <;> simp
    · unfold behI lenT faulT
      rw [q]
      cases hasB faults e <;> simp <;> omega
  · refine .inr (.inr ⟨g1, g2, g3, g4, ?_⟩)
    dsimp only
    rw [val g5, g6]
    unfold lenT faulT
    rcases h01 with q | q
    · rw [q]; simp
    · rw [q]; simp
theorem rchd_step {m : Mach} (hm : mayB m = true) {seen faults : List Int} {x : Pr} {n : Int} (h : RchD m seen faults x n) {y : Pr × Int} (hy : StD m seen faults x n y) : RchD m seen faults y.1 y.2 := by
  obtain ⟨a, ha, p, b, hp, h1, h2, h3⟩ := h
  obtain ⟨-, -, h01⟩ := allT2_mem (flag01 hm ha hp)
  have hpw : ∀ z : Tw × Bool, pw (p ++ [z]) = pw p + z.2.toNat := fun z => by rw [pw_app]; simp [pw]
  have mk : ∀ (f : Int) (c : Bool), ((y.1.1, y.1.2, f), c) ∈ leadsT m seen faults b → y.2 = (if f = 1 then (pw p : Int) + c.toNat else -1) → RchD m seen faults y.1 y.2 := fun f c hl hv => by
    refine ⟨a, ha, p ++ [((y.1.1, y.1.2, f), c)], _, pt_snoc.2 ⟨rfl, b, hp, hl⟩, rfl, rfl, ?_⟩
    rw [hv]
    unfold lenT faulT
    rw [hpw]
    by_cases q : f = 1
    · rw [if_pos q, if_pos (by simp [q])]; dsimp only; omega
    · rw [if_neg q, if_neg (by simpa using q)]
  have hn : n = if b.2.2 = 1 then (pw p : Int) else -1 := by
    rw [h3]
    unfold lenT faulT
    rcases h01 with q | q <;> rw [q] <;> rfl
  obtain ⟨e, ⟨g1, g2, g3, g4, g5⟩ | ⟨g1, g2, g3, g4⟩ | ⟨g1, g2, g3, g4, g5⟩⟩ := hy
  · rw [← h1] at g3
    rw [← h2] at g4
    refine mk b.2.2 (decide (b.2.2 = 1)) ((mem_leadsT hm).2 ⟨e, mem_leadE.2 (.inl ⟨g1, g2, g3, g4, rfl, rfl⟩)⟩) ?_
    rw [g5, hn]
    unfold behI
    rcases h01 with q | q
    · rw [q]; simp [g2]
    · rw [q]; simp [g2]
  · rw [← h1] at g2
    rw [← h2] at g3
    refine mk (if hasB faults e = true then 1 else b.2.2) (decide (b.2.2 = 1)) ((mem_leadsT hm).2 ⟨e, mem_leadE.2 (.inr (.inl ⟨g1, g2, g3, rfl, rfl⟩))⟩) ?_
    rw [g4, hn]
    unfold behI
    rcases h01 with q | q
    · have h0 := unflag hm hp (by unfold faulT; rw [q]; rfl)
      rw [q, h0]
      cases hasB faults e <;> simp
    · rw [q]
      cases hasB faults e <;> simp <;> omega
  · rw [← h1] at g3
    rw [← h2] at g4
    refine mk b.2.2 false ((mem_leadsT hm).2 ⟨e, mem_leadE.2 (.inr (.inr ⟨g1, g2, g3, g4, rfl, rfl⟩))⟩) ?_
    rw [g5, hn]
    rcases h01 with q | q
    · rw [q]; simp
    · rw [q]; simp
/-- All twins, by their states alone. -/
def allPD (m : Mach) : List Pr := (rngI m.st.toNat).flatMap fun a => (rngI m.st.toNat).map fun b => (a, b)
theorem mem_allPD {m : Mach} {x : Pr} : x ∈ allPD m ↔ (0 ≤ x.1 ∧ x.1 < m.st) ∧ (0 ≤ x.2 ∧ x.2 < m.st) := by
  unfold allPD
  rw [List.mem_flatMap]
  constructor
  · rintro ⟨a, h1, h2⟩
    obtain ⟨b, h3, rfl⟩ := List.mem_map.1 h2
    have := (mem_rng9 _ _).1 h1
    have := (mem_rng9 _ _).1 h3
    dsimp only; omega
  · rintro ⟨h1, h2⟩
    exact ⟨x.1, (mem_rng9 _ _).2 (by omega), List.mem_map.2 ⟨x.2, (mem_rng9 _ _).2 (by omega), rfl⟩⟩
theorem allPD_len (m : Mach) : (allPD m).length = m.st.toNat * m.st.toNat := by
  unfold allPD
  rw [List.length_flatMap]
  simp only [List.length_map, rngI_len]
  rw [List.map_const', List.sum_replicate_nat, rngI_len]
/-- What the search knows. -/
structure DIs (m : Mach) (seen faults : List Int) (cut g : Int) (s : DSt) : Prop where
  nd : (s.1.map (·.1)).Nodup
  rg : ∀ y ∈ s.1, y.1 ∈ allPD m ∧ -1 ≤ y.2 ∧ y.2 ≤ cut
  rch : ∀ y ∈ s.1, RchD m seen faults y.1 y.2
  wt : ∀ x ∈ s.2, ∃ n, getP s.1 x = some n
  st : ∀ x : Pr, x.1 ∈ m.starts → x.2 ∈ m.starts → ∃ n, getP s.1 x = some n
  cl : ∀ x n, getP s.1 x = some n → x ∉ s.2 → n ≤ g ∧ ∀ y, StD m seen faults x n y → ∃ k, getP s.1 y.1 = some k ∧ y.2 ≤ k
  gl : -1 ≤ g ∧ (g = -1 ∨ ∃ x, RchD m seen faults x g)
section
variable {m : Mach} {seen faults : List Int} {cut g : Int} {s : DSt}
theorem dis_start (hm : mayB m = true) (hc : -1 ≤ cut) {ys : List (Pr × Int)} (hy : ∀ y, y ∈ ys ↔ y.1.1 ∈ m.starts ∧ y.1.2 ∈ m.starts ∧ y.2 = -1) : DIs m seen faults cut (-1) (relL ([], []) ys) := by
  have h := reli_all cut (allPD m) ([], []) ys
  have hv : ∀ y ∈ (relL ([], []) ys).1, y.1.1 ∈ m.starts ∧ y.1.2 ∈ m.starts ∧ y.2 = -1 := fun y q => by
    rcases h.val y q with k | k
    · cases k
    · exact (hy y).1 k
  have hs := (may_starts hm).2
  refine ⟨h.nd List.nodup_nil, fun y q => ?_, fun y q => ?_, fun x q => ?_, fun x h1 h2 => ?_, fun x n h1 h2 => ?_, by omega, .inl rfl⟩
  · obtain ⟨k1, k2, k3⟩ := hv y q
    exact ⟨mem_allPD.2 ⟨hs _ k1, hs _ k2⟩, by omega, by omega⟩
  · obtain ⟨k1, k2, k3⟩ := hv y q
    refine ⟨(y.1.1, y.1.2, 0), mem_twS.2 ⟨k1, k2, rfl⟩, [], _, rfl, rfl, rfl, ?_⟩
    rw [k3]; rfl
  · rcases h.que x q with k | ⟨n, k⟩
    · cases k
    · obtain ⟨k', h1, -⟩ := h.all _ k
      exact ⟨k', h1⟩
  · obtain ⟨k, h3, -⟩ := h.all (x, -1) ((hy _).2 ⟨h1, h2, rfl⟩)
    exact ⟨k, h3⟩
  · obtain ⟨h3, -⟩ := h.same x h2
    rw [h3] at h1; cases h1
theorem dis_pop (hm : mayB m = true) {M : List (Pr × Int)} {x : Pr} {r : List Pr} (h : DIs m seen faults cut g (M, x :: r)) {n : Int} (hx : getP M x = some n) (hlt : max g n < cut) {ys : List (Pr × Int)} (hy : ∀ y, y ∈ ys ↔ StD m seen faults x n y) :
    DIs m seen faults cut (max g n) (relL (M, r) ys) ∧ 2 * potP cut (allPD m) (relL (M, r) ys).1 + (relL (M, r) ys).2.length < 2 * potP cut (allPD m) M + (x :: r).length := by
  have hr := reli_all cut (allPD m) (M, r) ys
  have hxm := getP_mem hx
  obtain ⟨x1, x2, x3⟩ := h.rg _ hxm
  have hxr := h.rch _ hxm
  have hys : ∀ y ∈ ys, y.1 ∈ allPD m ∧ -1 ≤ y.2 ∧ y.2 ≤ cut := fun y q => by
    have x1 := mem_allPD.1 x1
    have hb : ∀ e, -1 ≤ behI faults n e ∧ behI faults n e ≤ cut := fun e => by
      unfold behI
      dsimp only at x2
      split <;> omega
    obtain ⟨e, ⟨g1, g2, g3, g4, g5⟩ | ⟨g1, g2, g3, g4⟩ | ⟨g1, g2, g3, g4, g5⟩⟩ := (hy y).1 q
    · exact ⟨mem_allPD.2 ⟨(step_ev hm g3).2, (step_ev hm g4).2⟩, by rw [g5]; exact hb e⟩
    · exact ⟨mem_allPD.2 ⟨(step_ev hm g2).2, by rw [g3]; exact x1.2⟩, by rw [g4]; exact hb e⟩
    · refine ⟨mem_allPD.2 ⟨by rw [g3]; exact x1.1, (step_ev hm g4).2⟩, ?_⟩
      rw [g5]
      dsimp only at x2 x3
      exact ⟨x2, x3⟩
  refine ⟨⟨hr.nd h.nd, fun y q => ?_, fun y q => ?_, fun z q => ?_, fun z h1 h2 => ?_, fun z k h1 h2 => ?_, by have := h.gl.1; omega, ?_⟩, ?_⟩
  · rcases hr.val y q with k | k
    · exact h.rg y k
    · exact hys y k
  · rcases hr.val y q with k | k
    · exact h.rch y k
    · exact rchd_step hm hxr ((hy y).1 k)
  · rcases hr.que z q with k | ⟨k', k⟩
    · obtain ⟨n1, h1⟩ := h.wt z (List.mem_cons_of_mem _ k)
      obtain ⟨n2, -, h2⟩ := hr.mono z n1 h1
      exact ⟨n2, h2⟩
    · obtain ⟨n2, h2, -⟩ := hr.all _ k
      exact ⟨n2, h2⟩
  · obtain ⟨n1, h3⟩ := h.st z h1 h2
    obtain ⟨n2, -, h4⟩ := hr.mono z n1 h3
    exact ⟨n2, h4⟩
  · obtain ⟨h3, h4⟩ := hr.same z h2
    rw [h3] at h1
    by_cases e : z = x
    · subst e
      have e1 : n = k := Option.some.inj (hx.symm.trans h1)
      subst e1
      refine ⟨by omega, fun y q => ?_⟩
      exact hr.all y ((hy y).2 q)
    · obtain ⟨h5, h6⟩ := h.cl z k h1 (fun q => by
        rcases List.mem_cons.1 q with c | c
        · exact e c
        · exact h4 c)
      refine ⟨by omega, fun y q => ?_⟩
      obtain ⟨k1, h7, h8⟩ := h6 y q
      obtain ⟨k2, h9, h10⟩ := hr.mono _ k1 h7
      exact ⟨k2, h10, by omega⟩
  · rcases Int.le_total g n with q | q
    · rw [Int.max_eq_right q]; exact .inr ⟨x, hxr⟩
    · rw [Int.max_eq_left q]; exact h.gl.2
  · have := hr.pot hys
    dsimp only at this
    rw [List.length_cons]; omega
theorem dis_end (hm : mayB m = true) {M : List (Pr × Int)} (h : DIs m seen faults cut g (M, [])) : DlIs (UnfF m seen faults) (g + 1) := by
  have key : ∀ (k : Nat) (p : List (Tw × Bool)) (a b : Tw), p.length = k → a ∈ twS m → Pt (leadsT m seen faults) a p b → ∃ n, getP M (b.1, b.2.1) = some n ∧ lenT b p ≤ n := by
    intro k
    induction k with
    | zero =>
      intro p a b hk ha hp
      have e : p = [] := List.eq_nil_of_length_eq_zero hk
      subst e
      have e : a = b := hp
      subst e
      obtain ⟨h1, h2, h3⟩ := mem_twS.1 ha
      obtain ⟨n, h4⟩ := h.st (a.1, a.2.1) h1 h2
      refine ⟨n, h4, ?_⟩
      have h5 := (h.rg _ (getP_mem h4)).2.1
      unfold lenT faulT
      rw [h3]; exact h5
    | succ k ih =>
      intro p a b hk ha hp
      rcases List.eq_nil_or_concat p with rfl | ⟨q, y, rfl⟩
      · simp at hk
      · rw [List.concat_eq_append] at hk hp ⊢
        obtain ⟨rfl, z, h1, h2⟩ := pt_snoc.1 hp
        obtain ⟨n, h3, h4⟩ := ih q a z (by simpa using hk) ha h1
        have hlo : -1 ≤ lenT z q := by unfold lenT; split <;> omega
        obtain ⟨k', h5, h6⟩ := std_mono (lenT_snoc hm ha h1 h2) h4 hlo
        obtain ⟨-, h7⟩ := h.cl _ n h3 (by simp)
        obtain ⟨k2, h8, h9⟩ := h7 _ h5
        exact ⟨k2, h8, by dsimp only at h6 h9; omega⟩
  have up : ∀ n : Nat, UnfF m seen faults n → (n : Int) ≤ g := fun n hn => by
    obtain ⟨a, ha, p, b, h1, h2, h3⟩ := (way_unf hm seen faults n).2 hn
    obtain ⟨k, h4, h5⟩ := key p.length p a b rfl ha h1
    have := (h.cl _ k h4 (by simp)).1
    unfold lenT at h5
    rw [if_pos h2, h3] at h5
    omega
  have hg := h.gl.1
  refine .inr ⟨by omega, fun n hn => by have := up n hn; omega, ?_⟩
  rcases h.gl.2 with q | ⟨x, a, ha, p, b, h1, h2, h3, h4⟩
  · exact .inl (by omega)
  · unfold lenT at h4
    by_cases hf : faulT b = true
    · rw [if_pos hf] at h4
      exact .inr ⟨pw p, by omega, (way_unf hm seen faults _).1 ⟨a, ha, p, b, h1, hf, rfl⟩⟩
    · rw [if_neg hf] at h4
      exact .inl (by omega)
/-- The twins in fault. -/
def fltT (m : Mach) : List Tw := (allPD m).map fun x => (x.1, x.2, 1)
theorem rchd_cut (hm : mayB m = true) {x : Pr} {n : Int} (h : RchD m seen faults x n) (hn : ((m.st.toNat * m.st.toNat : Nat) : Int) ≤ n) : DlIs (UnfF m seen faults) (-1) := by
  obtain ⟨a, ha, p, b, hp, h1, h2, h3⟩ := h
  have hf : faulT b = true := by
    apply Classical.byContradiction
    intro hc
    unfold lenT at h3
    rw [if_neg hc] at h3
    omega
  unfold lenT at h3
  rw [if_pos hf] at h3
  obtain ⟨L, l1, l2, l3⟩ := pt_many (leads_mark hm) p hp hf
  obtain ⟨z, hz, q, hq, hq0⟩ := many_round (U := fltT m) l3 (fun z hz => by
    obtain ⟨g1, q, g2⟩ := l2 z hz
    obtain ⟨k1, k2, -⟩ := allT2_mem (flag01 hm ha g2)
    refine List.mem_map.2 ⟨(z.1, z.2.1), mem_allPD.2 ⟨k1, k2⟩, ?_⟩
    have : z.2.2 = 1 := of_decide_eq_true g1
    dsimp only
    rw [← this]) (by unfold fltT; rw [List.length_map, allPD_len, l1]; omega)
  obtain ⟨g1, p0, g2⟩ := l2 z hz
  refine .inl ⟨rfl, fun n => ⟨pw (p0 ++ manyP q n), ?_, (way_unf hm seen faults _).1 ⟨a, ha, p0 ++ manyP q n, z, (pt_app p0).2 ⟨_, g2, many_pt hq n⟩, g1, rfl⟩⟩⟩
  have := many_pw hq0 n
  rw [pw_app]; omega
theorem dis_cut (hm : mayB m = true) {M : List (Pr × Int)} {x : Pr} {r : List Pr} (h : DIs m seen faults cut g (M, x :: r)) {n : Int} (hx : getP M x = some n) (hc : ((m.st.toNat * m.st.toNat : Nat) : Int) ≤ max g n) : DlIs (UnfF m seen faults) (-1) := by
  rcases Int.le_total g n with q | q
  · rw [Int.max_eq_right q] at hc
    exact rchd_cut hm (h.rch _ (getP_mem hx)) hc
  · rw [Int.max_eq_left q] at hc
    rcases h.gl.2 with e | ⟨z, e⟩
    · omega
    · exact rchd_cut hm e hc
end
theorem pot_start {m : Mach} (z : m.st ≤ 6) (hz : 0 ≤ m.st) (M : List (Pr × Int)) (hM : ∀ y ∈ M, -1 ≤ y.2) : potP (m.st * m.st) (allPD m) M ≤ 1400 := by
  have hl := allPD_len m
  have h1 : m.st.toNat ≤ 6 := by omega
  have h2 : m.st.toNat * m.st.toNat ≤ 36 := Nat.mul_le_mul h1 h1
  have h3 : m.st * m.st ≤ 36 := by
    have e : m.st * m.st = ((m.st.toNat * m.st.toNat : Nat) : Int) := by rw [Int.natCast_mul, Int.toNat_of_nonneg hz]
    rw [e]; omega
  have key : ∀ U : List Pr, (U.map (wtP (m.st * m.st) M)).sum ≤ U.length * 38 := by
    intro U
    induction U with
    | nil => exact Nat.le_refl _
    | cons x r ih =>
      have : wtP (m.st * m.st) M x ≤ 38 := by
        unfold wtP
        cases hg : getP M x with
        | none => dsimp only; omega
        | some n =>
          have := hM _ (getP_mem hg)
          dsimp only at this ⊢; omega
      rw [List.map_cons, List.sum_cons, List.length_cons]
      omega
  have := key (allPD m)
  unfold potP
  rw [hl] at this
  omega
end Go.Proofs.YtgebfkmfhpcdhaaDoor
namespace Go.Proofs.YtgebfkmfhpcdhaaDoor
open Go.RowKit
set_option linter.unusedVariables false

/-! Twins as keys. -/
abbrev pcellsD (x : Pr) : Array Value := #[.int .i64 x.1, .int .i64 x.2]
abbrev pvalD (x : Pr) : Value := .agg (pcellsD x)
def okPD (x : Pr) : Prop := (0 ≤ x.1 ∧ x.1 < 256) ∧ 0 ≤ x.2 ∧ x.2 < 256
theorem wf_i64D {n : Int} (h : 0 ≤ n ∧ n < 256) : (Lit.int .i64 n).wf = true := by
  have h1 : IntKind.i64.min = -9223372036854775808 := rfl
  have h2 : IntKind.i64.max = 9223372036854775807 := rfl
  simp [Lit.wf, h1, h2]; omega
theorem rowPD : (198 : TypeId) < Tryd.prog.types.size := of_decide_eq_true (by kernel_rfl)
theorem widePD : (match Tryd.prog.underlying 198 with | some (.array _ _) | some (.struct _) => true | _ => false) = true := by kernel_rfl
set_option maxRecDepth 100000 in
theorem lawPD : WideMaps.KeyLaw Tryd.prog 198 := deep_law_laid laidOutS (m := 5) (by omega) rowPD (by kernel_rfl) widePD
set_option maxRecDepth 100000 in
theorem keyPD {x : Pr} (h : okPD x) : ∃ k, keyOf Tryd.prog 198 (pvalD x) = some k := by
  have h0 := wf_i64D h.1
  have h1 := wf_i64D h.2
  have hk : Tryd.prog.keyType 198 = true := by kernel_rfl
  have hp : Tryd.prog.cellsOf 198 = 2 := by kernel_rfl
  have hci : Tryd.prog.cellsOf 3 = 1 := by kernel_rfl
  have hs : ∃ m, Tryd.prog.types.size = m + 1 + 1 := ⟨Tryd.prog.types.size - 2, by have : 2 ≤ Tryd.prog.types.size := of_decide_eq_true (by kernel_rfl); omega⟩
  obtain ⟨m, hm⟩ := hs
  unfold keyOf
  simp only [Tryd.underlying198]
  rw [if_pos (by simp [hk, Value.formed, Tryd.underlying198, hp]), hm]
  unfold Program.keyLits
  simp only [Tryd.underlying198, Value.cells]
  simp [hp, hci, Program.keyLits, Tryd.underlying3, h0, h1]
theorem pvalD_inj {x y : Pr} (h : pvalD x = pvalD y) : x = y := by
  simp at h
  exact Prod.ext h.1 h.2
def entD (k : Nat) (y : Pr × Int) : MapEntry := { key := pvalD y.1, val := .int .i64 y.2, born := k }
def entsD (M : List (Pr × Int)) : Array MapEntry := (M.mapIdx entD).toArray
theorem entsD_snoc (M : List (Pr × Int)) (y : Pr × Int) : entsD (M ++ [y]) = (entsD M).push (entD M.length y) := by
  unfold entsD; rw [List.mapIdx_concat]; simp
theorem entsD_at {M : List (Pr × Int)} {j : Nat} {e : MapEntry} (h : (entsD M).toList[j]? = some e) : ∃ y, M[j]? = some y ∧ e = entD j y := by
  simp only [entsD] at h
  rw [List.getElem?_mapIdx] at h
  cases hq : M[j]? with
  | none => rw [hq] at h; cases h
  | some q => rw [hq] at h; exact ⟨q, rfl, (Option.some.inj h).symm⟩
theorem find_PD {M : List (Pr × Int)} (hM : ∀ y ∈ M, okPD y.1) (hnd : (M.map (·.1)).Nodup) {x : Pr} (hx : okPD x) (w : World) :
    (∃ j n, M[j]? = some (x, n) ∧ getP M x = some n ∧ (Instr.findKey 198 (pvalD x) (entsD M).toList).run Tryd.prog w = .ok (some (j, .int .i64 n)) w) ∨ (getP M x = none ∧ (Instr.findKey 198 (pvalD x) (entsD M).toList).run Tryd.prog w = .ok none w) := by
  obtain ⟨kl, hl⟩ := keyPD hx
  have hes : ∀ e ∈ (entsD M).toList, ∃ l, keyOf Tryd.prog 198 e.key = some l := by
    intro e he
    obtain ⟨j, hj⟩ := List.mem_iff_getElem?.1 he
    obtain ⟨T, hT, rfl⟩ := entsD_at hj
    exact keyPD (hM T (List.mem_of_getElem? hT))
  rcases lawPD.find w hl (entsD M).toList hes with ⟨h1, h2⟩ | ⟨j, e, h1, h2, h3⟩
  · refine .inr ⟨getP_none.2 fun y hy e => ?_, h1⟩
    obtain ⟨j, hj⟩ := List.mem_iff_getElem?.1 hy
    refine h2 (entD j y) (List.mem_of_getElem? (i := j) ?_) (by show pvalD y.1 = pvalD x; rw [e])
    simp only [entsD]
    rw [List.getElem?_mapIdx, hj]; rfl
  · obtain ⟨y, hy, rfl⟩ := entsD_at h2
    have e1 : y.1 = x := pvalD_inj h3
    obtain ⟨y1, y2⟩ := y
    dsimp only at e1
    subst e1
    exact .inl ⟨j, y2, hy, getP_of_mem hnd (List.mem_of_getElem? hy), h1⟩
theorem mapPD : Tryd.prog.underlying 188 = some (.map 198 3) := by kernel_rfl
section
variable {M : List (Pr × Int)} (hM : ∀ y ∈ M, okPD y.1) (hnd : (M.map (·.1)).Nodup) {x : Pr} (hx : okPD x) {w : World} {r c : Nat}
theorem lookD_known {M : List (Pr × Int)} (hM : ∀ y ∈ M, okPD y.1) (hnd : (M.map (·.1)).Nodup) {x : Pr} (hx : okPD x) {w : World} {r c : Nat} (hm : w.heap[r]? = some (.map (entsD M) c)) {n : Int} (h : getP M x = some n) :
    (Instr.lookup 188 (.map (some r)) (pvalD x) true).run Tryd.prog w = .ok (.tuple #[.int .i64 n, .bool true]) w ∧ (Instr.lookup 188 (.map (some r)) (pvalD x) false).run Tryd.prog w = .ok (.int .i64 n) w := by
  obtain ⟨kl, hl⟩ := keyPD hx
  rcases find_PD hM hnd hx w with ⟨j, k, h1, h2, h3⟩ | ⟨h1, -⟩
  · rw [h] at h2
    cases h2
    constructor <;> simp [Instr.lookup, run_underlying mapPD, MapKept.run_getObj_map hm, lawPD.check w _ hl, h3, Result.andThen]
  · rw [h] at h1; cases h1
theorem lookD_new {M : List (Pr × Int)} (hM : ∀ y ∈ M, okPD y.1) (hnd : (M.map (·.1)).Nodup) {x : Pr} (hx : okPD x) {w : World} {r c : Nat} (hm : w.heap[r]? = some (.map (entsD M) c)) (h : getP M x = none) :
    (Instr.lookup 188 (.map (some r)) (pvalD x) true).run Tryd.prog w = .ok (.tuple #[.int .i64 0, .bool false]) w := by
  obtain ⟨kl, hl⟩ := keyPD hx
  rcases find_PD hM hnd hx w with ⟨j, k, h1, h2, h3⟩ | ⟨-, h1⟩
  · rw [h] at h2; cases h2
  · simp [Instr.lookup, run_underlying mapPD, MapKept.run_getObj_map hm, lawPD.check w _ hl, h1, Result.andThen]
theorem entsD_set {M : List (Pr × Int)} {x : Pr} {k n : Int} {j : Nat} (hj : M[j]? = some (x, k)) : (entsD M).modify j (fun e => { e with key := pvalD x, val := .int .i64 n }) = entsD (M.set j (x, n)) := by
  have hlt := (List.getElem?_eq_some_iff.1 hj).1
  apply Array.ext_getElem?
  intro i
  rw [Array.getElem?_modify]
  simp only [entsD, List.getElem?_toArray, List.getElem?_mapIdx]
  by_cases e : j = i
  · subst e
    rw [if_pos rfl, hj, List.getElem?_set_self hlt]
    rfl
  · rw [if_neg e, List.getElem?_set_ne e]
theorem sameP (x : Pr) : Instr.sameBits 10000 (pvalD x) (pvalD x) = true := by
  show Instr.sameBits (9999 + 1) (.agg _) (.agg _) = true
  rw [Instr.sameBits]
  simp [Instr.sameBits]
theorem updD {M : List (Pr × Int)} (hM : ∀ y ∈ M, okPD y.1) (hnd : (M.map (·.1)).Nodup) {x : Pr} (hx : okPD x) {w : World} {r : Nat} (hm : w.heap[r]? = some (.map (entsD M) M.length)) (n : Int) :
    ∃ M' : List (Pr × Int), M' = (match getP M x with | none => M ++ [(x, n)] | some _ => setP M x n) ∧ (Instr.mapUpdate 188 (.map (some r)) (pvalD x) (.int .i64 n)).run Tryd.prog w = .ok () (setMap w r (.map (entsD M') M'.length)) := by
  obtain ⟨kl, hl⟩ := keyPD hx
  rcases find_PD hM hnd hx w with ⟨j, k, h1, h2, h3⟩ | ⟨h1, h2⟩
  · refine ⟨setP M x n, by rw [h2], ?_⟩
    have hlt := (List.getElem?_eq_some_iff.1 h1).1
    have e1 : (entsD M)[j]? = some (entD j (x, k)) := by
      simp only [entsD, List.getElem?_toArray, List.getElem?_mapIdx]
      rw [h1]; rfl
    have e2 : (((entsD M)[j]?).map (·.key)).getD (pvalD x) = pvalD x := by rw [e1]; rfl
    have e3 := entsD_set (n := n) h1
    rw [setP_at hnd h1]
    simp [Instr.mapUpdate, run_underlying mapPD, MapKept.run_getObj_map hm, lawPD.check w _ hl, h3, MapKept.run_setObj_map _ hm, Result.andThen, Instr.keyThatStays, e2, sameP, setMap, e3]
  · refine ⟨M ++ [(x, n)], by rw [h1], ?_⟩
    simp [Instr.mapUpdate, run_underlying mapPD, MapKept.run_getObj_map hm, lawPD.check w _ hl, h2, MapKept.run_setObj_map _ hm, Result.andThen, setMap, entsD_snoc, entD]
end

/-! The row of twins that wait: a slice that moves on in its block. -/
def pflatD : List Pr → List Value
  | [] => []
  | x :: r => .int .i64 x.1 :: .int .i64 x.2 :: pflatD r
theorem pflatD_len : ∀ L : List Pr, (pflatD L).length = L.length * 2
  | [] => rfl
  | x :: r => by simp only [pflatD, List.length_cons, pflatD_len r]; omega
theorem pflatD_append : ∀ L M : List Pr, pflatD (L ++ M) = pflatD L ++ pflatD M
  | [], M => rfl
  | a :: r, M => by simp only [List.cons_append, pflatD, pflatD_append r M]
theorem Tryd.infoTwinD : (Tryd.prog.info? 198).map (fun i => (i.zero, i.size, i.bytes)) = some (some (pvalD (0, 0)), 2, 16) := by kernel_rfl
def OwnQD (W : World) (B : Nat) (v : Value) (L : List Pr) : Prop :=
  (v = .slice none 0 0 ∧ L = []) ∨
  ∃ g off cap cur, v = .slice (some ⟨g, off, none⟩) L.length cap ∧ B ≤ g ∧ W.heap[g]? = some (.cells cur 198 (0, 0)) ∧ L.length ≤ cap ∧ cap ≤ maxLen ∧ off + cap * 2 ≤ cur.size ∧ (cur.toList.drop off).take (L.length * 2) = pflatD L
theorem OwnQD.lt {W : World} {B : Nat} {v : Value} {L : List Pr} (h : OwnQD W B v L) : ∀ k, v.ownBlock = some k → B ≤ k ∧ k < W.heap.size := by
  intro k hk
  rcases h with ⟨rfl, -⟩ | ⟨g, off, cap, cur, rfl, hb, hg, -⟩
  · cases hk
  · cases hk
    exact ⟨hb, (Array.getElem?_eq_some_iff.1 hg).1⟩
theorem OwnQD.type {W : World} {B : Nat} {v : Value} {L : List Pr} (h : OwnQD W B v L) : ∀ k, v.ownBlock = some k → ∃ cs, W.heap[k]? = some (.cells cs 198 (0, 0)) := by
  intro k hk
  rcases h with ⟨rfl, -⟩ | ⟨g, off, cap, cur, rfl, hb, hg, -⟩
  · cases hk
  · cases hk
    exact ⟨cur, hg⟩
theorem OwnQD.same {W W' : World} {B : Nat} {v : Value} {L : List Pr} (h : OwnQD W B v L) (hb : ∀ k, v.ownBlock = some k → W'.heap[k]? = W.heap[k]?) : OwnQD W' B v L := by
  rcases h with h | ⟨g, off, cap, cur, rfl, h1, h2, rest⟩
  · exact .inl h
  · exact .inr ⟨g, off, cap, cur, rfl, h1, (hb g rfl).trans h2, rest⟩
theorem OwnQD.form {W : World} {B : Nat} {v : Value} {L : List Pr} (h : OwnQD W B v L) : ∃ a c, v = .slice a L.length c := by
  rcases h with ⟨rfl, rfl⟩ | ⟨g, off, cap, cur, rfl, -⟩
  · exact ⟨none, 0, rfl⟩
  · exact ⟨_, _, rfl⟩
/-- The first of those that wait, and the others. -/
theorem OwnQD.pop {W : World} {B : Nat} {v : Value} {x : Pr} {r : List Pr} (h : OwnQD W B v (x :: r)) : ∃ g off cap, v = .slice (some ⟨g, off, none⟩) (r.length + 1) cap ∧ 1 ≤ cap ∧ W.cell? ⟨g, off, none⟩ = some (.int .i64 x.1) ∧ W.cell? ⟨g, off + 1, none⟩ = some (.int .i64 x.2) ∧
    OwnQD W B (.slice (if cap = 1 then some ⟨g, off, none⟩ else some ⟨g, off + 2, none⟩) r.length (cap - 1)) r := by
  rcases h with ⟨-, h⟩ | ⟨g, off, cap, cur, rfl, h1, h2, h3, h4, h5, h6⟩
  · cases h
  · rw [List.length_cons] at h3 h6
    have h7 : ∀ j u, (pflatD (x :: r))[j]? = some u → cur[off + j]? = some u := fun j u hu => by
      rw [← h6, List.getElem?_take] at hu
      split at hu
      · rw [List.getElem?_drop] at hu
        simpa using hu
      · cases hu
    have c : ∀ j u, (pflatD (x :: r))[j]? = some u → W.cell? ⟨g, off + j, none⟩ = some u := fun j u hu => by
      rw [cell_of_row W g (off + j) cur _ (0, 0) h2]
      exact h7 j u hu
    refine ⟨g, off, cap, rfl, by omega, c 0 _ rfl, c 1 _ rfl, ?_⟩
    by_cases e : cap = 1
    · rw [if_pos e]
      have : r = [] := List.eq_nil_of_length_eq_zero (by omega)
      subst this
      exact .inr ⟨g, off, cap - 1, cur, rfl, h1, h2, by simp, by omega, by omega, by simp [pflatD]⟩
    · rw [if_neg e]
      refine .inr ⟨g, off + 2, cap - 1, cur, rfl, h1, h2, by omega, by omega, by omega, ?_⟩
      have h8 : (cur.toList.drop off).take ((r.length + 1) * 2) = .int .i64 x.1 :: .int .i64 x.2 :: pflatD r := h6
      have h9 := congrArg (List.drop 2) h8
      rw [List.drop_take, List.drop_drop] at h9
      have e1 : (r.length + 1) * 2 - 2 = r.length * 2 := by omega
      rw [e1] at h9
      exact h9
section
variable {W : World} {B : Nat}
theorem run_room_off {P : Program} (w : World) (t ty e : TypeId) (i : TypeInfo) (ht : P.underlying t = some (.slice e)) (hi : P.info? e = some i)
    (g off sLen sCap : Nat) (cur : Array Value) (hg : w.heap[g]? = some (.cells cur e (0, 0)))
    (a : Addr) (m c : Nat) (news : List Value) (hl : news.length = m * i.size) (hnews : ∀ j u, news[j]? = some u → w.cell? (a.add j) = some u) (h1 : ∀ u ∈ news, u.oneCell' = true)
    (hroom : sLen + m ≤ sCap) (hfit : off + sLen * i.size + news.length ≤ cur.size) :
    (Builtin.append_ #[t, t] ty #[.slice (some ⟨g, off, none⟩) sLen sCap, .slice (some a) m c]).run P w =
      .ok (.slice (some ⟨g, off, none⟩) (sLen + m) sCap) (w.setRow g (cur.toList.take (off + sLen * i.size) ++ news ++ cur.toList.drop (off + sLen * i.size + news.length)).toArray) := by
  have hf := run_firstCells_some (P := P) w i.size m a m c news hl hnews
  have hst := run_storeCells_at P g (off + sLen * i.size) e news 0 cur w hg (by simpa using hfit) h1
  simp only [Nat.add_zero] at hst
  simp [Builtin.append_, run_underlying ht, sizeOf, typeInfo, hi, Builtin.lenOf, hroom, hf, Addr.add_lit, hst]
theorem run_append_PD (w : World) (ty : TypeId) {v : Value} {L : List Pr} (hown : OwnQD w B v L) (a : Addr) (c : Nat) (x : Pr) (hnews : ∀ j u, ([.int .i64 x.1, .int .i64 x.2] : List Value)[j]? = some u → w.cell? (a.add j) = some u) (hL : L.length ≤ 1000000000) (hbase : B ≤ w.heap.size) :
    ∃ v' w', (Builtin.append_ #[193, 193] ty #[v, .slice (some a) 1 c]).run Tryd.prog w = .ok v' w' ∧ OwnQD w' B v' (L ++ [x]) ∧ w.grownBy w' v.ownBlock ∧ (v'.ownBlock = v.ownBlock ∨ v'.ownBlock = some w.heap.size) := by
  obtain ⟨i, hi, hz, hs, hby⟩ : ∃ i, Tryd.prog.info? 198 = some i ∧ i.zero = some (pvalD (0, 0)) ∧ i.size = 2 ∧ i.bytes = 16 := by
    have h := Tryd.infoTwinD
    cases hi : Tryd.prog.info? 198 with
    | none => rw [hi] at h; cases h
    | some i =>
      rw [hi] at h
      simp only [Option.map_some, Option.some.injEq, Prod.mk.injEq] at h
      exact ⟨i, rfl, h.1, h.2.1, h.2.2⟩
  have ht : Tryd.prog.underlying 193 = some (.slice 198) := by kernel_rfl
  have hml : (1000000001 : Nat) ≤ maxLen := by decide
  have hfl : pflatD (L ++ [x]) = pflatD L ++ [.int .i64 x.1, .int .i64 x.2] := by rw [pflatD_append]; rfl
  have h1c : ∀ u ∈ ([.int .i64 x.1, .int .i64 x.2] : List Value), u.oneCell' = true := fun u hu => by
    simp only [List.mem_cons, List.not_mem_nil, or_false] at hu
    rcases hu with rfl | rfl <;> rfl
  have hgc : ∀ old : Nat, old < L.length + 1 → L.length + 1 ≤ grownCap w (L.length + 1) old 198 ∧ grownCap w (L.length + 1) old 198 ≤ maxLen := fun old ho => ⟨grownCap_ge _ _ _ _, grownCap_le_maxLen _ _ _ _ (by omega)⟩
  have grown : ∀ old : Nat, old < L.length + 1 → OwnQD (w.drew.alloc (.cells ((pflatD L).toArray ++ ([.int .i64 x.1, .int .i64 x.2] : List Value).toArray ++ Builtin.zeroCells (pvalD (0, 0)).cells (grownCap w (L.length + 1) old 198 - (L.length + 1))) 198)) B (.slice (some ⟨w.heap.size, 0, none⟩) (L.length + 1) (grownCap w (L.length + 1) old 198)) (L ++ [x]) := fun old ho => by
    obtain ⟨g1, g2⟩ := hgc old ho
    refine .inr ⟨w.heap.size, 0, _, _, by rw [List.length_append]; rfl, hbase, heap_alloc_new w.drew _, by rw [List.length_append]; exact g1, g2, ?_, ?_⟩
    · simp only [Array.size_append, List.size_toArray, size_zeroCells, pflatD_len, List.length_cons, List.length_nil]
      have : (pvalD (0, 0)).cells.size = 2 := rfl
      rw [this]; omega
    · rw [List.drop_zero, ← pflatD_len, hfl]
      simp only [Array.toList_append, List.append_assoc]
      rw [← List.append_assoc]
      exact List.take_left
  have gb : ∀ (o : Obj) (row : Option Nat), w.grownBy (w.drew.alloc o) row := fun o row => ⟨rfl, rfl, rfl, by simp, fun k hk _ => heap_alloc_old w.drew _ hk⟩
  rcases hown with ⟨rfl, rfl⟩ | ⟨g, off, cap, cur, rfl, hbg, hg, hnc, hcm, hcs, htake⟩
  · have hr := run_append_nil (P := Tryd.prog) w _ ty _ i _ ht hi hz a 1 c [.int .i64 x.1, .int .i64 x.2] (by rw [hs]; rfl) hnews (by omega) (by omega) (by rw [hby]; omega)
    have hgr := grown 0 (by simp)
    simp only [pflatD, List.length_nil, Nat.zero_add, Array.empty_append] at hgr
    exact ⟨_, _, hr, hgr, gb _ _, .inr rfl⟩
  · by_cases hroom : L.length + 1 ≤ cap
    · have hr := run_room_off (P := Tryd.prog) w _ ty _ i ht hi g off L.length cap cur hg a 1 c [.int .i64 x.1, .int .i64 x.2] (by rw [hs]; rfl) hnews h1c hroom (by rw [hs]; simp; omega)
      rw [hs] at hr
      refine ⟨_, _, hr, .inr ⟨g, off, cap, _, by rw [List.length_append]; rfl, hbg, setRow_heap w g cur _ _ _ hg, by rw [List.length_append]; exact hroom, hcm, ?_, ?_⟩, ⟨rfl, rfl, rfl, by simp, fun k _ hk => setRow_other w g k _ (fun e => hk (by simp [Value.ownBlock, e]))⟩, .inl rfl⟩
      · simp only [List.size_toArray, List.length_append, List.length_take, List.length_drop, Array.length_toList, List.length_cons, List.length_nil]
        omega
      · have hlen : (cur.toList.take (off + L.length * 2)).length = off + L.length * 2 := by
          have h9 : off + L.length * 2 ≤ cur.size := by omega
          rw [List.length_take, Array.length_toList]; exact Nat.min_eq_left h9
        have e1 : (cur.toList.take (off + L.length * 2)).drop off = pflatD L := by
          rw [List.drop_take, Nat.add_sub_cancel_left]; exact htake
        rw [List.append_assoc, List.drop_append_of_le_length (by omega), e1, ← List.append_assoc, ← hfl, ← pflatD_len]
        exact List.take_left
    · have holds : ∀ j u, (pflatD L)[j]? = some u → w.cell? ((⟨g, off, none⟩ : Addr).add j) = some u := fun j u hu => by
        rw [Addr.add_lit, cell_of_row w g (off + j) cur _ (0, 0) hg]
        rw [← htake, List.getElem?_take] at hu
        split at hu
        · rw [List.getElem?_drop] at hu
          simpa using hu
        · cases hu
      have hr := run_append_grow (P := Tryd.prog) w _ ty _ i _ ht hi hz ⟨g, off, none⟩ L.length cap (pflatD L) (by rw [hs]; exact pflatD_len L) holds a 1 c [.int .i64 x.1, .int .i64 x.2] (by rw [hs]; rfl) hnews (by omega) (by omega) (growslice_fits (by omega) (by rw [hby]; omega))
      exact ⟨_, _, hr, grown cap (by omega), gb _ _, .inr rfl⟩
end

/-! The watcher. -/
def wclD (m : Mach) (l : ML) (SF FF : Nat → Bool) (TA TB : Nat → Nat → Nat) (mv qv : Value) (j : Nat) : Value :=
  if j < 5 then (mcells m l)[j]?.getD undef
  else if j < 13 then .bool (SF (j - 5))
  else if j < 21 then .bool (FF (j - 13))
  else if j < 213 then .int .u64 (TA ((j - 21) / 4) ((j - 21) % 4))
  else if j < 405 then .int .u64 (TB ((j - 213) / 4) ((j - 213) % 4))
  else if j = 405 then mv else qv
abbrev WtB (W : World) (p : Nat) (m : Mach) (l : ML) (SF FF : Nat → Bool) (TA TB : Nat → Nat → Nat) (mv qv : Value) : Prop := RowC W p 195 407 (wclD m l SF FF TA TB mv qv)
section
variable {W : World} {p : Nat} {m : Mach} {l : ML} {SF FF : Nat → Bool} {TA TB : Nat → Nat → Nat} {mv qv : Value}
theorem WtB.mach (h : WtB W p m l SF FF TA TB mv qv) : W.cell? ⟨p, 0, none⟩ = some (.int .i64 m.st) ∧ W.cell? ⟨p, 1, none⟩ = some (.int .i64 m.ev) ∧ W.cell? ⟨p, 2, none⟩ = some (.slice l.a1 m.starts.length l.c1) ∧ W.cell? ⟨p, 3, none⟩ = some (.slice l.a2 m.arrows.length l.c2) ∧ W.cell? ⟨p, 4, none⟩ = some (.slice l.a3 m.ends.length l.c3) :=
  ⟨RowC.cell h (by omega), RowC.cell h (by omega), RowC.cell h (by omega), RowC.cell h (by omega), RowC.cell h (by omega)⟩
theorem WtB.seen (h : WtB W p m l SF FF TA TB mv qv) {e : Nat} (he : e < 8) : W.cell? ⟨p, 5 + e, none⟩ = some (.bool (SF e)) := by
  have := RowC.cell h (j := 5 + e) (by omega)
  rw [this]
  unfold wclD
  rw [if_neg (by omega), if_pos (by omega), Nat.add_sub_cancel_left]
theorem WtB.flt (h : WtB W p m l SF FF TA TB mv qv) {e : Nat} (he : e < 8) : W.cell? ⟨p, 13 + e, none⟩ = some (.bool (FF e)) := by
  have := RowC.cell h (j := 13 + e) (by omega)
  rw [this]
  unfold wclD
  rw [if_neg (by omega), if_neg (by omega), if_pos (by omega), Nat.add_sub_cancel_left]
theorem WtB.ta1 (h : WtB W p m l SF FF TA TB mv qv) {a e k : Nat} (ha : a < 6) (he : e < 8) (hk : k < 4) : W.cell? ⟨p, 21 + a * 32 + e * 4 + k, none⟩ = some (.int .u64 (TA (a * 8 + e) k)) := by
  have := RowC.cell h (j := 21 + a * 32 + e * 4 + k) (by omega)
  rw [this]
  unfold wclD
  rw [if_neg (by omega), if_neg (by omega), if_neg (by omega), if_pos (by omega)]
  have e1 : (21 + a * 32 + e * 4 + k - 21) / 4 = a * 8 + e := by omega
  have e2 : (21 + a * 32 + e * 4 + k - 21) % 4 = k := by omega
  rw [e1, e2]
theorem WtB.tb1 (h : WtB W p m l SF FF TA TB mv qv) {a e k : Nat} (ha : a < 6) (he : e < 8) (hk : k < 4) : W.cell? ⟨p, 213 + a * 32 + e * 4 + k, none⟩ = some (.int .u64 (TB (a * 8 + e) k)) := by
  have := RowC.cell h (j := 213 + a * 32 + e * 4 + k) (by omega)
  rw [this]
  unfold wclD
  rw [if_neg (by omega), if_neg (by omega), if_neg (by omega), if_neg (by omega), if_pos (by omega)]
  have e1 : (213 + a * 32 + e * 4 + k - 213) / 4 = a * 8 + e := by omega
  have e2 : (213 + a * 32 + e * 4 + k - 213) % 4 = k := by omega
  rw [e1, e2]
theorem WtB.ta (h : WtB W p m l SF FF TA TB mv qv) {a e : Nat} (ha : a < 6) (he : e < 8) : W.cell? ⟨p, 21 + a * 32 + e * 4, none⟩ = some (.int .u64 (TA (a * 8 + e) 0)) ∧ W.cell? ⟨p, 21 + a * 32 + e * 4 + 1, none⟩ = some (.int .u64 (TA (a * 8 + e) 1)) ∧ W.cell? ⟨p, 21 + a * 32 + e * 4 + 2, none⟩ = some (.int .u64 (TA (a * 8 + e) 2)) ∧ W.cell? ⟨p, 21 + a * 32 + e * 4 + 3, none⟩ = some (.int .u64 (TA (a * 8 + e) 3)) :=
  ⟨h.ta1 (k := 0) ha he (by omega), h.ta1 ha he (by omega), h.ta1 ha he (by omega), h.ta1 ha he (by omega)⟩
theorem WtB.tb (h : WtB W p m l SF FF TA TB mv qv) {a e : Nat} (ha : a < 6) (he : e < 8) : W.cell? ⟨p, 213 + a * 32 + e * 4, none⟩ = some (.int .u64 (TB (a * 8 + e) 0)) ∧ W.cell? ⟨p, 213 + a * 32 + e * 4 + 1, none⟩ = some (.int .u64 (TB (a * 8 + e) 1)) ∧ W.cell? ⟨p, 213 + a * 32 + e * 4 + 2, none⟩ = some (.int .u64 (TB (a * 8 + e) 2)) ∧ W.cell? ⟨p, 213 + a * 32 + e * 4 + 3, none⟩ = some (.int .u64 (TB (a * 8 + e) 3)) :=
  ⟨h.tb1 (k := 0) ha he (by omega), h.tb1 ha he (by omega), h.tb1 ha he (by omega), h.tb1 ha he (by omega)⟩
theorem WtB.mp (h : WtB W p m l SF FF TA TB mv qv) : W.cell? ⟨p, 405, none⟩ = some mv := RowC.cell h (j := 405) (by omega)
theorem WtB.qu (h : WtB W p m l SF FF TA TB mv qv) : W.cell? ⟨p, 406, none⟩ = some qv := RowC.cell h (j := 406) (by omega)
theorem WtB.frozen (h : WtB W p m l SF FF TA TB mv qv) (j : Nat) : W.frozen? ⟨p, j, none⟩ = false := by
  obtain ⟨cs, h1, -⟩ := h
  exact h1.frozen j
theorem WtB.setQ (h : WtB W p m l SF FF TA TB mv qv) (v : Value) : WtB (W.setCell ⟨p, 406, none⟩ v) p m l SF FF TA TB mv v := by
  refine (RowC.set h (j := 406) (by omega) v).congr fun j hj => ?_
  unfold wclD
  by_cases e : j = 406
  · subst e; rfl
  · rw [if_neg e]
    split
    · rfl
    split
    · rfl
    split
    · rfl
    split
    · rfl
    split
    · rfl
    rw [if_pos (by omega), if_pos (by omega)]
theorem WtB.setS (h : WtB W p m l SF FF TA TB mv qv) {e : Nat} (he : e < 8) (b : Bool) : WtB (W.setCell ⟨p, 5 + e, none⟩ (.bool b)) p m l (fun i => if i = e then b else SF i) FF TA TB mv qv := by
  refine (RowC.set h (j := 5 + e) (by omega) _).congr fun j hj => ?_
  unfold wclD
  by_cases q : j = 5 + e
  · subst q
    rw [if_pos rfl, if_neg (by omega), if_pos (by omega), Nat.add_sub_cancel_left]
    dsimp only
    rw [if_pos rfl]
  · rw [if_neg q]
    split
    · rfl
    split
    · dsimp only; rw [if_neg (by omega)]
    rfl
theorem WtB.setF (h : WtB W p m l SF FF TA TB mv qv) {e : Nat} (he : e < 8) (b : Bool) : WtB (W.setCell ⟨p, 13 + e, none⟩ (.bool b)) p m l SF (fun i => if i = e then b else FF i) TA TB mv qv := by
  refine (RowC.set h (j := 13 + e) (by omega) _).congr fun j hj => ?_
  unfold wclD
  by_cases q : j = 13 + e
  · subst q
    rw [if_pos rfl, if_neg (by omega), if_neg (by omega), if_pos (by omega), Nat.add_sub_cancel_left]
    dsimp only
    rw [if_pos rfl]
  · rw [if_neg q]
    split
    · rfl
    split
    · rfl
    split
    · dsimp only; rw [if_neg (by omega)]
    rfl
theorem WtB.setTA (h : WtB W p m l SF FF TA TB mv qv) {a e : Nat} (ha : a < 6) (he : e < 8) (U : Nat → Nat) :
    WtB ((((W.setCell ⟨p, 21 + a * 32 + e * 4, none⟩ (.int .u64 (U 0))).setCell ⟨p, 21 + a * 32 + e * 4 + 1, none⟩ (.int .u64 (U 1))).setCell ⟨p, 21 + a * 32 + e * 4 + 2, none⟩ (.int .u64 (U 2))).setCell ⟨p, 21 + a * 32 + e * 4 + 3, none⟩ (.int .u64 (U 3))) p m l SF FF (fun q => if q = a * 8 + e then U else TA q) TB mv qv := by
  refine (RowC.set (RowC.set (RowC.set (RowC.set h (j := 21 + a * 32 + e * 4) (by omega) _) (j := 21 + a * 32 + e * 4 + 1) (by omega) _) (j := 21 + a * 32 + e * 4 + 2) (by omega) _) (j := 21 + a * 32 + e * 4 + 3) (by omega) _).congr fun j hj => ?_
  have key : ∀ k, k < 4 → wclD m l SF FF (fun q => if q = a * 8 + e then U else TA q) TB mv qv (21 + a * 32 + e * 4 + k) = .int .u64 (U k) := fun k hk => by
    unfold wclD
    rw [if_neg (by omega), if_neg (by omega), if_neg (by omega), if_pos (by omega)]
    have e1 : (21 + a * 32 + e * 4 + k - 21) / 4 = a * 8 + e := by omega
    have e2 : (21 + a * 32 + e * 4 + k - 21) % 4 = k := by omega
    rw [e1, e2]
    dsimp only
    rw [if_pos rfl]
  by_cases q3 : j = 21 + a * 32 + e * 4 + 3
  · rw [if_pos q3, q3, key 3 (by omega)]
  rw [if_neg q3]
  by_cases q2 : j = 21 + a * 32 + e * 4 + 2
  · rw [if_pos q2, q2, key 2 (by omega)]
  rw [if_neg q2]
  by_cases q1 : j = 21 + a * 32 + e * 4 + 1
  · rw [if_pos q1, q1, key 1 (by omega)]
  rw [if_neg q1]
  by_cases q0 : j = 21 + a * 32 + e * 4
  · rw [if_pos q0, q0]; exact (key 0 (by omega)).symm
  rw [if_neg q0]
  unfold wclD
  split
  · rfl
  split
  · rfl
  split
  · rfl
  split
  · dsimp only; rw [if_neg (by omega)]
  rfl
theorem WtB.setTB (h : WtB W p m l SF FF TA TB mv qv) {a e : Nat} (ha : a < 6) (he : e < 8) (U : Nat → Nat) :
    WtB ((((W.setCell ⟨p, 213 + a * 32 + e * 4, none⟩ (.int .u64 (U 0))).setCell ⟨p, 213 + a * 32 + e * 4 + 1, none⟩ (.int .u64 (U 1))).setCell ⟨p, 213 + a * 32 + e * 4 + 2, none⟩ (.int .u64 (U 2))).setCell ⟨p, 213 + a * 32 + e * 4 + 3, none⟩ (.int .u64 (U 3))) p m l SF FF TA (fun q => if q = a * 8 + e then U else TB q) mv qv := by
  refine (RowC.set (RowC.set (RowC.set (RowC.set h (j := 213 + a * 32 + e * 4) (by omega) _) (j := 213 + a * 32 + e * 4 + 1) (by omega) _) (j := 213 + a * 32 + e * 4 + 2) (by omega) _) (j := 213 + a * 32 + e * 4 + 3) (by omega) _).congr fun j hj => ?_
  have key : ∀ k, k < 4 → wclD m l SF FF TA (fun q => if q = a * 8 + e then U else TB q) mv qv (213 + a * 32 + e * 4 + k) = .int .u64 (U k) := fun k hk => by
    unfold wclD
    rw [if_neg (by omega), if_neg (by omega), if_neg (by omega), if_neg (by omega), if_pos (by omega)]
    have e1 : (213 + a * 32 + e * 4 + k - 213) / 4 = a * 8 + e := by omega
    have e2 : (213 + a * 32 + e * 4 + k - 213) % 4 = k := by omega
    rw [e1, e2]
    dsimp only
    rw [if_pos rfl]
  by_cases q3 : j = 213 + a * 32 + e * 4 + 3
  · rw [if_pos q3, q3, key 3 (by omega)]
  rw [if_neg q3]
  by_cases q2 : j = 213 + a * 32 + e * 4 + 2
  · rw [if_pos q2, q2, key 2 (by omega)]
  rw [if_neg q2]
  by_cases q1 : j = 213 + a * 32 + e * 4 + 1
  · rw [if_pos q1, q1, key 1 (by omega)]
  rw [if_neg q1]
  by_cases q0 : j = 213 + a * 32 + e * 4
  · rw [if_pos q0, q0]; exact (key 0 (by omega)).symm
  rw [if_neg q0]
  unfold wclD
  split
  · rfl
  split
  · rfl
  split
  · rfl
  split
  · rfl
  split
  · dsimp only; rw [if_neg (by omega)]
  rfl
end
/-- What is turned while twins are met: the watcher's block, its map, the row of those that wait. -/
structure KDd (B p r : Nat) (v v' : Value) (W W' : World) : Prop where
  bel : Below B W W'
  blk : ∀ k, k < W.heap.size → k ≠ p → k ≠ r → v.ownBlock ≠ some k → W'.heap[k]? = W.heap[k]?
  own : ∀ k, v'.ownBlock = some k → v.ownBlock = some k ∨ W.heap.size ≤ k
theorem KDd.refl (B p r : Nat) (v : Value) (W : World) : KDd B p r v v W W := ⟨Below.refl _ _, fun _ _ _ _ _ => rfl, fun k h => .inl h⟩
theorem KDd.trans {B p r : Nat} {v v' v'' : Value} {W W' W'' : World} (h : KDd B p r v v' W W') (h' : KDd B p r v' v'' W' W'') : KDd B p r v v'' W W'' := by
  refine ⟨h.bel.trans h'.bel, fun k hk h1 h2 h3 => ?_, fun k hk => ?_⟩
  · refine (h'.blk k (Nat.lt_of_lt_of_le hk h.bel.size) h1 h2 (fun e => ?_)).trans (h.blk k hk h1 h2 h3)
    rcases h.own k e with q | q
    · exact h3 q
    · omega
  · rcases h'.own k hk with q | q
    · exact h.own k q
    · exact .inr (Nat.le_trans h.bel.size q)
theorem KDd.of_below {B p r : Nat} {v : Value} {W W' : World} (h : Below W.heap.size W W') (hB : B ≤ W.heap.size) : KDd B p r v v W W' :=
  ⟨h.mono hB, fun k hk _ _ _ => h.block k hk, fun k h => .inl h⟩
/-- The watcher in memory. -/
structure DW (W : World) (B p r : Nat) (m : Mach) (l : ML) (SF FF : Nat → Bool) (TA TB : Nat → Nat → Nat) (qv : Value) (s : DSt) : Prop where
  wb : WtB W p m l SF FF TA TB (.map (some r)) qv
  mp : W.heap[r]? = some (.map (entsD s.1) s.1.length)
  qu : OwnQD W B qv s.2
  lp : B ≤ p
  lr : B ≤ r
  ok : ∀ y ∈ s.1, okPD y.1
  nd : (s.1.map (·.1)).Nodup
section
variable {W : World} {B p r : Nat} {m : Mach} {l : ML} {SF FF : Nat → Bool} {TA TB : Nat → Nat → Nat} {qv : Value} {s : DSt}
theorem DW.lt (h : DW W B p r m l SF FF TA TB qv s) : p < W.heap.size ∧ r < W.heap.size := ⟨h.wb.lt, (Array.getElem?_eq_some_iff.1 h.mp).1⟩
theorem DW.pr (h : DW W B p r m l SF FF TA TB qv s) : p ≠ r ∧ qv.ownBlock ≠ some p ∧ qv.ownBlock ≠ some r := by
  obtain ⟨cs, h1, -, -⟩ := h.wb
  have h1 : W.heap[p]? = _ := h1
  refine ⟨fun e => ?_, fun e => ?_, fun e => ?_⟩
  · rw [e, h.mp] at h1; cases h1
  · obtain ⟨c2, h2⟩ := h.qu.type p e
    rw [h1] at h2
    injection h2 with h2
    injection h2 with _ h3 _
    exact absurd h3 (by decide)
  · obtain ⟨c2, h2⟩ := h.qu.type r e
    rw [h.mp] at h2; cases h2
theorem DW.same (h : DW W B p r m l SF FF TA TB qv s) {W' : World} (h1 : W'.heap[p]? = W.heap[p]?) (h2 : W'.heap[r]? = W.heap[r]?) (h3 : ∀ k, qv.ownBlock = some k → W'.heap[k]? = W.heap[k]?) : DW W' B p r m l SF FF TA TB qv s :=
  ⟨RowC.same h.wb h1, h2.trans h.mp, h.qu.same h3, h.lp, h.lr, h.ok, h.nd⟩
theorem DW.below (h : DW W B p r m l SF FF TA TB qv s) {W' : World} (hb : Below W.heap.size W W') : DW W' B p r m l SF FF TA TB qv s :=
  h.same (hb.block p h.lt.1) (hb.block r h.lt.2) (fun k hk => hb.block k (h.qu.lt k hk).2)
/-- One twin pushed: the map turned, the row grown, the watcher's cell stored. -/
theorem DW.push (h : DW W B p r m l SF FF TA TB qv s) {M' : List (Pr × Int)} {x : Pr} {qv' : Value} {W2 W3 : World} (hok : ∀ y ∈ M', okPD y.1) (hnd : (M'.map (·.1)).Nodup) (hb : Below (setMap W r (.map (entsD M') M'.length)).heap.size (setMap W r (.map (entsD M') M'.length)) W2) (hq : OwnQD W3 B qv' (s.2 ++ [x])) (hg : W2.grownBy W3 qv.ownBlock) (ho : qv'.ownBlock = qv.ownBlock ∨ qv'.ownBlock = some W2.heap.size) (hB : B ≤ W.heap.size) :
    DW (W3.setCell ⟨p, 406, none⟩ qv') B p r m l SF FF TA TB qv' (M', s.2 ++ [x]) ∧ KDd B p r qv qv' W (W3.setCell ⟨p, 406, none⟩ qv') := by
  obtain ⟨n1, n2, n3⟩ := h.pr
  obtain ⟨l1, l2⟩ := h.lt
  have hsz : W.heap.size ≤ W2.heap.size := by have := hb.size; rwa [size_setMap] at this
  have k2 : ∀ k, k < W.heap.size → W2.heap[k]? = (setMap W r (.map (entsD M') M'.length)).heap[k]? := fun k hk => hb.block k (by rw [size_setMap]; exact hk)
  have k3 : ∀ k, k < W.heap.size → qv.ownBlock ≠ some k → W3.heap[k]? = (setMap W r (.map (entsD M') M'.length)).heap[k]? := fun k hk hne => (hg.block k (Nat.lt_of_lt_of_le hk hsz) (fun e => hne e.symm)).trans (k2 k hk)
  have hp3 : W3.heap[p]? = W.heap[p]? := (k3 p l1 n2).trans (heap_setMap_ne _ _ _ n1)
  have hr3 : W3.heap[r]? = some (.map (entsD M') M'.length) := (k3 r l2 n3).trans (heap_setMap _ _ l2)
  have hset : ∀ k, k ≠ p → (W3.setCell ⟨p, 406, none⟩ qv').heap[k]? = W3.heap[k]? := fun k hk => Below.heap_setCell _ _ _ k hk
  have hqp : qv'.ownBlock ≠ some p := fun e => by
    rcases ho with q | q
    · exact n2 (by rw [← q]; exact e)
    · rw [q] at e
      cases e
      omega
  refine ⟨⟨WtB.setQ (qv := qv) (RowC.same h.wb hp3) qv', (hset r (fun e => n1 e.symm)).trans hr3, hq.same (fun k hk => hset k (fun e => hqp (by rw [← e]; exact hk))), h.lp, h.lr, hok, hnd⟩, ?_, fun k hk h1 h2 h3 => ?_, fun k hk => ?_⟩
  · have b1 : Below B W (setMap W r (.map (entsD M') M'.length)) := ⟨rfl, rfl, rfl, by rw [size_setMap]; exact Nat.le_refl _, fun j hj => heap_setMap_ne _ _ _ (by have := h.lr; omega)⟩
    have b2 := b1.trans (hb.mono (by rw [size_setMap]; exact hB))
    exact (b2.grown hg (Nat.le_trans hB hsz) (fun j hj => (h.qu.lt j hj).1)).setCell (p := ⟨p, 406, none⟩) h.lp _
  · exact (hset k h1).trans ((k3 k hk h3).trans (heap_setMap_ne _ _ _ h2))
  · rcases ho with q | q
    · exact .inl (by rw [← q]; exact hk)
    · rw [q] at hk
      cases hk
      exact .inr hsz
end
end Go.Proofs.YtgebfkmfhpcdhaaDoor
namespace Go.Proofs.YtgebfkmfhpcdhaaDoor
open Go.RowKit
set_option linter.unusedVariables false

/-- How long a word is in fault with an event more. -/
def behD (FF : Nat → Bool) (n : Int) (e : Nat) : Int := if n = -1 ∧ FF e = false then -1 else n + 1
set_option maxRecDepth 100000 in
set_option maxHeartbeats 4000000 in
theorem behind_any (p : Nat) (m : Mach) (l : ML) (SF FF : Nat → Bool) (TA TB : Nat → Nat → Nat) (mv qv : Value) (n : Int) (hn : -1 ≤ n) (hn2 : n ≤ 1000) (e : Nat) (he : e < 8) (w : World) (h : WtB w p m l SF FF TA TB mv qv) :
    Calls Tryd.prog 165 #[.pointer (some ⟨p, 0, none⟩), .int .i64 n, .int .i64 e] w fun e' w' => e' = .returned (.int .i64 (behD FF n e)) ∧ w' = w := by
  have c1 := h.flt he
  have H := Hid.of h
  clear h
  have he0 : (0 : Int) ≤ (e : Int) := by omega
  have he8 : (e : Int) < 8 := by omega
  obtain ⟨R, HR⟩ : ∃ R, Hid (R = behD FF n e) := ⟨_, rfl⟩
  rw [← HR.out]
  have hr := HR.out
  unfold behD at hr
  by_cases hs : n = -1
  · subst hs
    cases hf : FF e with
    | false =>
      rw [if_pos ⟨rfl, hf⟩] at hr
      subst hr
      rw [hf] at c1
      clear hf HR
      go_enter Tryd.func165, Tryd.ntmps165
      go_wp2_with fail
      go_ret
      exact ⟨rfl, rfl⟩
    | true =>
      rw [if_neg (fun q => by rw [hf] at q; cases q.2)] at hr
      have hr : R = 0 := hr
      subst hr
      rw [hf] at c1
      clear hf HR
      go_enter Tryd.func165, Tryd.ntmps165
      go_wp2_with fail
      go_ret
      exact ⟨rfl, rfl⟩
  · rw [if_neg (fun q => hs q.1)] at hr
    have d1 : (n == -1) = false := by simpa using hs
    have hw : IntKind.i64.wrap (n + 1) = R := by rw [IntKind.wrap_i64, hr]; omega
    clear hr HR c1
    go_enter Tryd.func165, Tryd.ntmps165
    go_wp2_with fail
    go_ret
    exact ⟨rfl, rfl⟩

end Go.Proofs.YtgebfkmfhpcdhaaDoor
