/-
  What is hidden of a small machine fits; hide.Hide, where nothing is wrong.
  Plain: the places where two machines may be at once, and the least word that one accepts and the other one doesn't. No program, no model.
  Plain: all that is come to from some things, each once, in the order found. No program, no model.
  Plain: a plant, and what may be known of where it is. No program, no model.
  Plain: the estimates of a plant, by the machine of what is seen of it and its sets; the search for the least list that leaks. No program, no model.
  Plain: what is seen of a machine hangs on its language alone. No program, no model.
-/
import Derived.Test.YtgebfkmfhpcdhaaDoorEHHide
import Derived.Test.YtgebfkmfhpcdhaaDoorI20
import Derived.Test.YtgebfkmfhpcdhaaDoorI03
import Derived.Test.YtgebfkmfhpcdhaaDoorI15
import Derived.Test.YtgebfkmfhpcdhaaDoorI19
import Derived.Test.YtgebfkmfhpcdhaaDoorI06
namespace Go.Proofs.YtgebfkmfhpcdhaaDoor
open Go.RowKit
set_option linter.unusedVariables false

theorem wide_small {m : Mach} (hm : mayB m = true) (z : m.st ≤ 6) {seen ss : List Int} (hs : ∀ x ∈ ss, 0 ≤ x ∧ x < m.st) : (wideL m.arrows seen ss).length ≤ 6 := by
  refine nodup_len 6 _ (inc_nodup (inc_wide _ _ _)) (fun x hx => ?_)
  have := wide_bd hm hs x hx
  omega
theorem hFrom_small {m : Mach} (hm : mayB m = true) (z : m.st ≤ 6) (seen : List Int) (f : Nat) : ∀ k, (hFrom m seen f k).length ≤ k * 6
  | 0 => by simp [hFrom]
  | k + 1 => by
    have h1 := hFrom_small hm z seen f k
    have h2 : (hRow m seen f k).length ≤ 6 := by unfold hRow; rw [List.length_map]; exact wide_small hm z (step_bd hm)
    rw [hFrom_succ, List.length_append]; omega
theorem hAll_small {m : Mach} (hm : mayB m = true) (z : m.st ≤ 6) (seen : List Int) (h8 : seen.length ≤ 8) : ∀ f, (hAll m seen f).length ≤ f * 48
  | 0 => by simp [hAll]
  | f + 1 => by
    have h1 := hAll_small hm z seen h8 f
    have h2 := hFrom_small hm z seen f seen.length
    rw [hAll_succ, List.length_append]; omega
theorem hide_small {m : Mach} (hm : mayB m = true) (z : m.st ≤ 6) {seen : List Int} (hr : rowB m.ev seen = true) : (hAll m seen m.st.toNat).length ≤ 4096 := by
  have hz := mayB_size hm
  unfold sizeOk at hz
  have h8 := row_short (by omega) (by omega) hr
  have := hAll_small hm z seen (by omega) m.st.toNat
  omega
end Go.Proofs.YtgebfkmfhpcdhaaDoor
namespace Go.Proofs.YtgebfkmfhpcdhaaDoor
open Go.RowKit
set_option linter.unusedVariables false
set_option linter.unusedSectionVars false

/-! How many increasing lists there are. -/
theorem nodup_sub {α : Type} [DecidableEq α] : ∀ {l m : List α}, l.Nodup → (∀ x ∈ l, x ∈ m) → l.length ≤ m.length
  | [], m, _, _ => Nat.zero_le _
  | x :: r, m, hn, hs => by
    rw [List.nodup_cons] at hn
    have hx := hs x (by simp)
    have ih := nodup_sub (l := r) (m := m.erase x) hn.2 (fun y hy => by
      have hne : y ≠ x := fun e => hn.1 (e ▸ hy)
      exact (List.mem_erase_of_ne hne).2 (hs y (by simp [hy])))
    rw [List.length_erase_of_mem hx] at ih
    have := List.length_pos_of_mem hx
    rw [List.length_cons]; omega
def subs : Nat → List (List Int)
  | 0 => [[]]
  | n + 1 => subs n ++ (subs n).map (· ++ [(n : Int)])
theorem subs_len : ∀ n, (subs n).length = 2 ^ n
  | 0 => rfl
  | n + 1 => by rw [subs, List.length_append, List.length_map, subs_len n, Nat.pow_succ]; omega
theorem mem_subs : ∀ (n : Nat) (l : List Int), Inc l → (∀ x ∈ l, 0 ≤ x ∧ x < (n : Int)) → l ∈ subs n
  | 0, l, _, h => by
    have : l = [] := by
      cases l with
      | nil => rfl
      | cons x r => have := h x (by simp); omega
    subst this; simp [subs]
  | n + 1, l, hi, h => by
    rw [subs, List.mem_append, List.mem_map]
    by_cases hn : (n : Int) ∈ l
    · right
      have hne : l ≠ [] := fun e => by rw [e] at hn; simp at hn
      obtain ⟨v, z, e⟩ : ∃ v z, l = v ++ [z] := ⟨_, _, (List.dropLast_concat_getLast hne).symm⟩
      subst e
      unfold Inc at hi
      rw [List.pairwise_append] at hi
      have hz := h z (by simp)
      have hzn : z = (n : Int) := by
        rcases List.mem_append.1 hn with h1 | h1
        · have := hi.2.2 _ h1 z (by simp); omega
        · have : (n : Int) = z := by simpa using h1
          exact this.symm
      subst hzn
      refine ⟨v, mem_subs n v hi.1 (fun x hx => ?_), rfl⟩
      have h1 := hi.2.2 x hx _ (by simp : (n : Int) ∈ [(n : Int)])
      have h2 := h x (by simp [hx])
      omega
    · left
      refine mem_subs n l hi (fun x hx => ?_)
      have h1 := h x hx
      have : x ≠ (n : Int) := fun e => hn (e ▸ hx)
      omega
def prodL {α β : Type} : List α → List β → List (α × β)
  | [], _ => []
  | x :: r, m => m.map (fun y => (x, y)) ++ prodL r m
theorem prodL_len {α β : Type} (m : List β) : ∀ l : List α, (prodL l m).length = l.length * m.length
  | [] => by simp [prodL]
  | x :: r => by rw [prodL, List.length_append, List.length_map, prodL_len m r, List.length_cons, Nat.add_mul]; omega
theorem mem_prodL {α β : Type} {x : α} {y : β} {m : List β} (hy : y ∈ m) : ∀ {l : List α}, x ∈ l → (x, y) ∈ prodL l m
  | [], h => by simp at h
  | z :: r, h => by
    rw [prodL, List.mem_append]
    rcases List.mem_cons.1 h with rfl | h
    · exact .inl (List.mem_map.2 ⟨y, hy, rfl⟩)
    · exact .inr (mem_prodL hy h)

/-! The search ends. -/
section
variable {σ : Type} [DecidableEq σ] {δ : σ → Nat → σ}
theorem bi_wlen {s0 : σ} {ev k n : Nat} {l : List (σ × List Int)} (h : BI δ s0 ev k n l) : ∀ (j : Nat) (p : σ × List Int), l[j]? = some p → p.2.length ≤ j := by
  intro j
  induction j using Nat.strongRecOn with
  | _ j ih =>
    intro p hp
    rcases h.top p (List.mem_of_getElem? hp) with h0 | ⟨i, x, e, hx, h1, -⟩
    · rw [h0]; simp
    · have hl : p.2.length = x.2.length + 1 := by rw [h1]; simp
      have hlt := (List.getElem?_eq_some_iff.1 hp).1
      have hlx := (List.getElem?_eq_some_iff.1 hx).1
      have hij : i < j := by
        rcases Nat.lt_trichotomy i j with h2 | h2 | h2
        · exact h2
        · subst h2; rw [hx] at hp; have := Option.some.inj hp; subst this; omega
        · have := List.pairwise_iff_getElem.1 h.inc j i hlt hlx h2
          rw [(List.getElem?_eq_some_iff.1 hx).2, (List.getElem?_eq_some_iff.1 hp).2] at this
          have := lessB_len this; omega
      have := ih i hij x hx
      omega
theorem bi_end {s0 : σ} {ev N : Nat} (hN : ∀ (k n : Nat) (l : List (σ × List Int)), BI δ s0 ev k n l → l.length ≤ N) : ∀ (f k : Nat) (l : List (σ × List Int)), BI δ s0 ev k 0 l → k ≤ l.length → N < f + k → BI δ s0 ev (bfGo δ ev f k l).length 0 (bfGo δ ev f k l)
  | 0, k, l, h, hk, hf => by have := hN _ _ _ h; omega
  | f + 1, k, l, h, hk, hf => by
    cases hx : l[k]? with
    | none =>
      have e : bfGo δ ev (f + 1) k l = l := by unfold bfGo; rw [hx]
      have : k = l.length := by have := List.getElem?_eq_none_iff.1 hx; omega
      rw [e]; rw [this] at h; exact h
    | some x =>
      have e : bfGo δ ev (f + 1) k l = bfGo δ ev f (k + 1) (bfRow δ x l ev) := by rw [bfGo, hx]
      rw [e]
      have hlt := (List.getElem?_eq_some_iff.1 hx).1
      obtain ⟨t, ht⟩ := bfRow_pre δ x l ev
      exact bi_end hN f (k + 1) _ (bi_next δ h hx) (by rw [ht, List.length_append]; omega) (by omega)
end

/-! Two machines at once. -/
/-- Where both lead. -/
def bothD (A B : List Arr) (s : List Int × List Int) (e : Nat) : List Int × List Int := (stepL A s.1 (e : Int), stepL B s.2 (e : Int))
theorem bothD_run (A B : List Arr) : ∀ (u : List Int) (x y : List Int), (∀ e ∈ u, 0 ≤ e) → runF (bothD A B) (x, y) u = (afterL A x u, afterL B y u)
  | [], x, y, _ => rfl
  | e :: u, x, y, h => by
    have he : ((e.toNat : Nat) : Int) = e := by have := h e (by simp); omega
    show runF (bothD A B) (bothD A B (x, y) e.toNat) u = _
    unfold bothD
    rw [he]
    exact bothD_run A B u _ _ (fun z hz => h z (by simp [hz]))
theorem afterIn {m : Mach} (hm : mayB m = true) : ∀ (u l : List Int), (Inc l ∧ ∀ x ∈ l, 0 ≤ x ∧ x < m.st) → Inc (afterL m.arrows l u) ∧ ∀ x ∈ afterL m.arrows l u, 0 ≤ x ∧ x < m.st
  | [], l, h => h
  | e :: u, l, _ => afterIn hm u _ (stepIn hm l e)
/-- The places, the lesser words ahead. -/
def plcAll (a b : Mach) : List ((List Int × List Int) × List Int) := bfGo (bothD a.arrows b.arrows) a.ev.toNat 4097 0 [((a.starts, b.starts), [])]
theorem plc_bound {a b : Mach} (ha : mayB a = true) (hb : mayB b = true) (za : a.st ≤ 6) (zb : b.st ≤ 6) {ev k n : Nat} {l : List ((List Int × List Int) × List Int)} (h : BI (bothD a.arrows b.arrows) (a.starts, b.starts) ev k n l) : l.length ≤ 4096 := by
  have h1 := nodup_sub (m := prodL (subs 6) (subs 6)) h.nd (fun s hs => by
    obtain ⟨p, hp, rfl⟩ := List.mem_map.1 hs
    obtain ⟨e1, e2⟩ := h.run p hp
    rw [bothD_run _ _ _ _ _ (fun e he => (e2 e he).1)] at e1
    have i1 := afterIn ha p.2 _ (may_starts ha)
    have i2 := afterIn hb p.2 _ (may_starts hb)
    rw [e1]
    exact mem_prodL (mem_subs 6 _ i2.1 (fun x hx => by have := i2.2 x hx; omega)) (mem_subs 6 _ i1.1 (fun x hx => by have := i1.2 x hx; omega)))
  rw [List.length_map, prodL_len, subs_len] at h1
  exact h1
theorem plc_all {a b : Mach} (ha : mayB a = true) (hb : mayB b = true) (za : a.st ≤ 6) (zb : b.st ≤ 6) : BI (bothD a.arrows b.arrows) (a.starts, b.starts) a.ev.toNat (plcAll a b).length 0 (plcAll a b) :=
  bi_end (N := 4096) (fun k n l h => plc_bound ha hb za zb h) 4097 0 _ (bi_start _ _ _) (Nat.zero_le _) (by omega)

/-- Is a place where the one may end, and the other one not? -/
def outP (a b : Mach) (p : (List Int × List Int) × List Int) : Bool := decide (0 < (p.1.1.filter fun n => hasB a.ends n == true).length) && decide ((p.1.2.filter fun n => hasB b.ends n == true).length = 0)
/-- The least word that a accepts and b does not. -/
def outW (a b : Mach) : Option (List Int) := ((plcAll a b).find? (outP a b)).map (·.2)
/-- Is a word of the one, and not of the other one? -/
def betw (a b : Mach) (u : List Int) : Bool := acceptsB a u && !acceptsB b u
theorem outP_run {a b : Mach} {p : (List Int × List Int) × List Int} (h : p.1 = runF (bothD a.arrows b.arrows) (a.starts, b.starts) p.2) (hu : ∀ e ∈ p.2, 0 ≤ e) (u : List Int) (hu' : ∀ e ∈ u, 0 ≤ e) (he : p.1 = runF (bothD a.arrows b.arrows) (a.starts, b.starts) u) : outP a b p = betw a b u := by
  rw [bothD_run _ _ _ _ _ hu'] at he
  unfold outP betw acceptsB acceptsL
  rw [he]
  dsimp only
  congr 1
  rw [← decide_not]
  exact decide_eq_decide.2 (by omega)
theorem outW_none {a b : Mach} (ha : mayB a = true) (hb : mayB b = true) (za : a.st ≤ 6) (zb : b.st ≤ 6) (h : outW a b = none) (u : List Int) (hu : ∀ e ∈ u, 0 ≤ e ∧ e < a.ev) : betw a b u = false := by
  have hI := plc_all ha hb za zb
  have hev : ((a.ev.toNat : Nat) : Int) = a.ev := by have := mayB_size ha; unfold sizeOk at this; omega
  obtain ⟨p, hp, e1, -⟩ := bi_all _ hI u (by rw [hev]; exact hu)
  unfold outW at h
  rw [Option.map_eq_none_iff, List.find?_eq_none] at h
  have h1 := h p hp
  have hr := hI.run p hp
  rw [outP_run hr.1 (fun e he => (hr.2 e he).1) u (fun e he => (hu e he).1) e1] at h1
  simpa using h1
theorem outW_some {a b : Mach} (ha : mayB a = true) (hb : mayB b = true) (za : a.st ≤ 6) (zb : b.st ≤ 6) {v : List Int} (h : outW a b = some v) : betw a b v = true ∧ (∀ e ∈ v, 0 ≤ e ∧ e < a.ev) ∧ v.length ≤ 4096 ∧ ∀ u : List Int, (∀ e ∈ u, 0 ≤ e ∧ e < a.ev) → betw a b u = true → lessB u v = false := by
  have hI := plc_all ha hb za zb
  have hev : ((a.ev.toNat : Nat) : Int) = a.ev := by have := mayB_size ha; unfold sizeOk at this; omega
  unfold outW at h
  rw [Option.map_eq_some_iff] at h
  obtain ⟨p, hp, rfl⟩ := h
  have hpo := List.find?_some hp
  rw [List.find?_eq_some_iff_getElem] at hp
  obtain ⟨-, i, hi, e0, hlow⟩ := hp
  have hpi : (plcAll a b)[i]? = some p := by rw [List.getElem?_eq_getElem hi, e0]
  have hpm := List.mem_of_getElem? hpi
  have hr := hI.run p hpm
  rw [hev] at hr
  have hbd := plc_bound ha hb za zb hI
  refine ⟨?_, hr.2, ?_, fun u hu hb' => ?_⟩
  · rw [← outP_run hr.1 (fun e he => (hr.2 e he).1) p.2 (fun e he => (hr.2 e he).1) hr.1]; exact hpo
  · have := bi_wlen hI i p hpi; omega
  · obtain ⟨q, hq, e1, e2⟩ := bi_all _ hI u (by rw [hev]; exact hu)
    have hrq := hI.run q hq
    have hqo : outP a b q = true := by rw [outP_run hrq.1 (fun e he => (hrq.2 e he).1) u (fun e he => (hu e he).1) e1]; exact hb'
    obtain ⟨j, hj⟩ := List.mem_iff_getElem?.1 hq
    have hjl := (List.getElem?_eq_some_iff.1 hj).1
    have hqe := (List.getElem?_eq_some_iff.1 hj).2
    have hij : i ≤ j := by
      rcases Nat.lt_or_ge j i with h1 | h1
      · have := hlow j h1
        rw [hqe, hqo] at this; simp at this
      · exact h1
    have hle : leW p.2 q.2 := by
      rcases Nat.lt_or_ge i j with h1 | h1
      · have := List.pairwise_iff_getElem.1 hI.inc i j hi hjl h1
        rw [hqe, e0] at this
        exact .inr this
      · have : i = j := by omega
        subst this
        rw [hpi] at hj
        have := Option.some.inj hj
        subst this
        exact leW_refl _
    exact leW_not (leW_trans hle e2)

end Go.Proofs.YtgebfkmfhpcdhaaDoor
namespace Go.Proofs.YtgebfkmfhpcdhaaDoor
open Go.RowKit
set_option linter.unusedVariables false
set_option linter.unusedSectionVars false

section
variable {σ : Type} [DecidableEq σ] (nx : σ → List σ)
def cAdd (l : List σ) (x : σ) : List σ := if x ∈ l then l else l ++ [x]
def cRow (l xs : List σ) : List σ := xs.foldl cAdd l
def cGo (d : σ) : Nat → Nat → List σ → List σ
  | 0, _, l => l
  | f + 1, k, l => if k < l.length then cGo d f (k + 1) (cRow l (nx (l[k]?.getD d))) else l
theorem mem_cAdd (l : List σ) (x y : σ) : y ∈ cAdd l x ↔ y ∈ l ∨ y = x := by
  unfold cAdd
  split
  · rename_i h
    exact ⟨.inl, fun q => q.elim id (fun e => by rw [e]; exact h)⟩
  · rw [List.mem_append, List.mem_singleton]
theorem nodup_cAdd {l : List σ} (h : l.Nodup) (x : σ) : (cAdd l x).Nodup := by
  unfold cAdd
  split
  · exact h
  · rename_i hx
    rw [List.nodup_append]
    refine ⟨h, by simp, fun a ha b hb e => ?_⟩
    rw [List.mem_singleton] at hb
    subst hb; subst e; exact hx ha
theorem cAdd_pre (l : List σ) (x : σ) : ∃ t, cAdd l x = l ++ t := by
  unfold cAdd
  split
  · exact ⟨[], by simp⟩
  · exact ⟨[x], rfl⟩
theorem mem_cRow : ∀ (xs l : List σ) (y : σ), y ∈ cRow l xs ↔ y ∈ l ∨ y ∈ xs
  | [], l, y => by simp [cRow]
  | x :: r, l, y => by
    have := mem_cRow r (cAdd l x) y
    unfold cRow at this ⊢
    rw [List.foldl_cons, this, mem_cAdd, List.mem_cons, or_assoc]
theorem nodup_cRow : ∀ (xs : List σ) {l : List σ}, l.Nodup → (cRow l xs).Nodup
  | [], l, h => h
  | x :: r, l, h => nodup_cRow r (nodup_cAdd h x)
theorem cRow_pre : ∀ (xs l : List σ), ∃ t, cRow l xs = l ++ t
  | [], l => ⟨[], by simp [cRow]⟩
  | x :: r, l => by
    obtain ⟨t, ht⟩ := cAdd_pre l x
    obtain ⟨u, hu⟩ := cRow_pre r (cAdd l x)
    refine ⟨t ++ u, ?_⟩
    unfold cRow at hu ⊢
    rw [List.foldl_cons, hu, ht, List.append_assoc]
/-- What the search leaves: closed, and nothing else. -/
theorem cGo_inv {d : σ} {U : List σ} (hU : ∀ y ∈ U, ∀ x ∈ nx y, x ∈ U) (S : σ → Prop) (hS : ∀ y, S y → ∀ x ∈ nx y, S x) : ∀ (f k : Nat) (l : List σ), l.Nodup → (∀ x ∈ l, x ∈ U) → (∀ x ∈ l, S x) → (∀ (j : Nat) (y : σ), j < k → l[j]? = some y → ∀ x ∈ nx y, x ∈ l) → k ≤ l.length → U.length < f + k →
    (cGo nx d f k l).Nodup ∧ (∀ x ∈ cGo nx d f k l, x ∈ U ∧ S x) ∧ (∀ y ∈ cGo nx d f k l, ∀ x ∈ nx y, x ∈ cGo nx d f k l) ∧ (∀ x ∈ l, x ∈ cGo nx d f k l)
  | 0, k, l, hn, hu, hs, hc, hk, hf => by
    have := nodup_sub hn hu
    omega
  | f + 1, k, l, hn, hu, hs, hc, hk, hf => by
    rw [cGo]
    by_cases hlt : k < l.length
    · rw [if_pos hlt]
      obtain ⟨y, hy⟩ : ∃ y, l[k]? = some y := ⟨_, List.getElem?_eq_getElem hlt⟩
      rw [hy, Option.getD_some]
      have hym := List.mem_of_getElem? hy
      obtain ⟨t, ht⟩ := cRow_pre (nx y) l
      have ih := cGo_inv (d := d) hU S hS f (k + 1) (cRow l (nx y)) (nodup_cRow _ hn) (fun x hx => by
        rcases (mem_cRow _ _ _).1 hx with q | q
        · exact hu x q
        · exact hU y (hu y hym) x q) (fun x hx => by
        rcases (mem_cRow _ _ _).1 hx with q | q
        · exact hs x q
        · exact hS y (hs y hym) x q) (fun j z hj hz x hx => by
        have hjl : j < l.length := by omega
        rw [ht, List.getElem?_append_left hjl] at hz
        by_cases e : j = k
        · subst e
          rw [hy] at hz
          have := Option.some.inj hz
          subst this
          exact (mem_cRow _ _ _).2 (.inr hx)
        · exact (mem_cRow _ _ _).2 (.inl (hc j z (by omega) hz x hx))) (by rw [ht, List.length_append]; omega) (by omega)
      exact ⟨ih.1, ih.2.1, ih.2.2.1, fun x hx => ih.2.2.2 x ((mem_cRow _ _ _).2 (.inl hx))⟩
    · rw [if_neg hlt]
      refine ⟨hn, fun x hx => ⟨hu x hx, hs x hx⟩, fun y hy x hx => ?_, fun x hx => hx⟩
      obtain ⟨j, hj⟩ := List.mem_iff_getElem?.1 hy
      have hjl := (List.getElem?_eq_some_iff.1 hj).1
      exact hc j y (by omega) hj x hx
theorem cGo_start {d : σ} {U l : List σ} (hU : ∀ y ∈ U, ∀ x ∈ nx y, x ∈ U) (hn : l.Nodup) (hu : ∀ x ∈ l, x ∈ U) {f : Nat} (hf : U.length < f) (S : σ → Prop) (hS : ∀ y, S y → ∀ x ∈ nx y, S x) (hs : ∀ x ∈ l, S x) :
    (cGo nx d f 0 l).Nodup ∧ (∀ x ∈ cGo nx d f 0 l, x ∈ U ∧ S x) ∧ (∀ y ∈ cGo nx d f 0 l, ∀ x ∈ nx y, x ∈ cGo nx d f 0 l) ∧ (∀ x ∈ l, x ∈ cGo nx d f 0 l) :=
  cGo_inv nx hU S hS f 0 l hn hu hs (fun j y hj => by omega) (Nat.zero_le _) (by omega)

/-! Lists as sets. -/
def canG (U l : List σ) : List σ := U.filter fun x => decide (x ∈ l)
theorem canG_iff {U l l' : List σ} (h : ∀ x ∈ l, x ∈ U) (h' : ∀ x ∈ l', x ∈ U) : canG U l = canG U l' ↔ ∀ x, x ∈ l ↔ x ∈ l' := by
  constructor
  · intro e x
    have hm : ∀ k : List σ, (∀ y ∈ k, y ∈ U) → (x ∈ canG U k ↔ x ∈ k) := fun k hk => by
      unfold canG
      rw [List.mem_filter, decide_eq_true_eq]
      exact ⟨fun q => q.2, fun q => ⟨hk x q, q⟩⟩
    rw [← hm l h, e, hm l' h']
  · intro e
    unfold canG
    exact List.filter_congr fun x _ => by rw [decide_eq_decide]; exact e x
theorem mem_canG {U l : List σ} (h : ∀ x ∈ l, x ∈ U) (x : σ) : x ∈ canG U l ↔ x ∈ l := by
  unfold canG
  rw [List.mem_filter, decide_eq_true_eq]
  exact ⟨fun q => q.2, fun q => ⟨h x q, q⟩⟩
/-- As many, and all of the one in the other: the same. -/
theorem same_sets {a b : List σ} (ha : a.Nodup) (hb : b.Nodup) : (a.length = b.length ∧ ∀ x ∈ a, x ∈ b) ↔ ∀ x, x ∈ a ↔ x ∈ b := by
  constructor
  · rintro ⟨h1, h2⟩ x
    refine ⟨h2 x, fun hx => ?_⟩
    by_cases hn : x ∈ a
    · exact hn
    · exfalso
      have := nodup_sub (l := x :: a) (m := b) (List.nodup_cons.2 ⟨hn, ha⟩) (fun y hy => by
        rcases List.mem_cons.1 hy with rfl | hy
        · exact hx
        · exact h2 y hy)
      rw [List.length_cons] at this
      omega
  · intro h
    have h1 := nodup_sub (l := a) (m := b) ha (fun y hy => (h y).1 hy)
    have h2 := nodup_sub (l := b) (m := a) hb (fun y hy => (h y).2 hy)
    exact ⟨by omega, fun x hx => (h x).1 hx⟩
end

end Go.Proofs.YtgebfkmfhpcdhaaDoor
namespace Go.Proofs.YtgebfkmfhpcdhaaDoor
open Go.RowKit
set_option linter.unusedVariables false
set_option linter.unusedSectionVars false

/-! Words by the numbers of some events. -/
/-- The events of a word of numbers. -/
def wordS (seen u : List Int) : List Int := u.map fun k => seen[k.toNat]?.getD 0
/-- The numbers of the events of a word. -/
def idxS (seen word : List Int) : List Int := word.map fun e => placeI seen e
theorem wordS_snoc (seen u : List Int) (e : Nat) : wordS seen (u ++ [(e : Int)]) = wordS seen u ++ [seen[e]?.getD 0] := by simp [wordS]
theorem wordS_len (seen u : List Int) : (wordS seen u).length = u.length := by simp [wordS]
theorem idx_in {seen word : List Int} (h : ∀ e ∈ word, e ∈ seen) : ∀ k ∈ idxS seen word, 0 ≤ k ∧ k < (seen.length : Int) := by
  intro k hk
  obtain ⟨e, he, rfl⟩ := List.mem_map.1 hk
  obtain ⟨j, hj⟩ := placeN_mem (h e he)
  have h1 := placeI_of hj
  have h2 := (List.getElem?_eq_some_iff.1 (placeN_some hj)).1
  omega
theorem word_idx {seen : List Int} : ∀ {word : List Int}, (∀ e ∈ word, e ∈ seen) → wordS seen (idxS seen word) = word
  | [], _ => rfl
  | e :: r, h => by
    have ih := word_idx (word := r) (fun x hx => h x (by simp [hx]))
    obtain ⟨j, hj⟩ := placeN_mem (h e (by simp))
    have h1 := placeI_of hj
    have h2 := placeN_some hj
    simp only [idxS, wordS, List.map_cons] at ih ⊢
    rw [ih, h1, Int.toNat_natCast, h2, Option.getD_some]
theorem word_in {seen u : List Int} (h : ∀ k ∈ u, 0 ≤ k ∧ k < (seen.length : Int)) : ∀ e ∈ wordS seen u, e ∈ seen := by
  intro e he
  obtain ⟨k, hk, rfl⟩ := List.mem_map.1 he
  have := h k hk
  have hl : k.toNat < seen.length := by omega
  rw [List.getElem?_eq_getElem hl]
  exact List.getElem_mem hl
theorem seen_lt {seen : List Int} (hi : Inc seen) {j k : Int} (hj : 0 ≤ j ∧ j < (seen.length : Int)) (hk : 0 ≤ k ∧ k < (seen.length : Int)) : (seen[j.toNat]?.getD 0 < seen[k.toNat]?.getD 0 ↔ j < k) ∧ (seen[j.toNat]?.getD 0 = seen[k.toNat]?.getD 0 ↔ j = k) := by
  have l1 : j.toNat < seen.length := by omega
  have l2 : k.toNat < seen.length := by omega
  rw [List.getElem?_eq_getElem l1, List.getElem?_eq_getElem l2, Option.getD_some, Option.getD_some]
  rcases Int.lt_trichotomy j k with h | h | h
  · have := List.pairwise_iff_getElem.1 hi j.toNat k.toNat l1 l2 (by omega)
    constructor <;> constructor <;> omega
  · subst h
    constructor <;> constructor <;> omega
  · have := List.pairwise_iff_getElem.1 hi k.toNat j.toNat l2 l1 (by omega)
    constructor <;> constructor <;> omega
theorem lexB_word {seen : List Int} (hi : Inc seen) : ∀ {u v : List Int}, (∀ k ∈ u, 0 ≤ k ∧ k < (seen.length : Int)) → (∀ k ∈ v, 0 ≤ k ∧ k < (seen.length : Int)) → lexB (wordS seen u) (wordS seen v) = lexB u v
  | [], v, _, _ => by simp [wordS, lexB]
  | _ :: _, [], _, _ => by simp [wordS, lexB]
  | j :: u, k :: v, h, h' => by
    have ih := lexB_word hi (u := u) (v := v) (fun x hx => h x (by simp [hx])) (fun x hx => h' x (by simp [hx]))
    obtain ⟨q1, q2⟩ := seen_lt hi (h j (by simp)) (h' k (by simp))
    show lexB (seen[j.toNat]?.getD 0 :: wordS seen u) (seen[k.toNat]?.getD 0 :: wordS seen v) = _
    unfold lexB
    by_cases e : j = k
    · rw [if_pos (q2.2 e), if_pos e, ih]
    · rw [if_neg (fun h => e (q2.1 h)), if_neg e]
      exact decide_eq_decide.2 q1
theorem lessB_word {seen : List Int} (hi : Inc seen) {u v : List Int} (h : ∀ k ∈ u, 0 ≤ k ∧ k < (seen.length : Int)) (h' : ∀ k ∈ v, 0 ≤ k ∧ k < (seen.length : Int)) : lessB (wordS seen u) (wordS seen v) = lessB u v := by
  unfold lessB
  rw [wordS_len, wordS_len, lexB_word hi h h']

/-! The plant. -/
structure Plant where
  m : Mach
  seen : List Int
  secret : List Int
/-- What is known when an event was seen. -/
def seeL (p : Plant) (s : List Int) (e : Int) : List Int := wideL p.m.arrows p.seen (stepL p.m.arrows s e)
/-- What is known behind a list of seen events, from some states on. -/
def fromL (p : Plant) (ss word : List Int) : List Int := word.foldl (seeL p) (wideL p.m.arrows p.seen ss)
/-- The estimate (I2). -/
def estL (p : Plant) (word : List Int) : List Int := fromL p p.m.starts word
def seeD (p : Plant) (s : List Int) (k : Nat) : List Int := seeL p s (p.seen[k]?.getD 0)
theorem see_in {p : Plant} (hm : mayB p.m = true) (s : List Int) (e : Int) : Inc (seeL p s e) ∧ ∀ x ∈ seeL p s e, 0 ≤ x ∧ x < p.m.st := ⟨inc_wide _ _ _, wide_bd hm (step_bd hm)⟩
theorem from_in {p : Plant} (hm : mayB p.m = true) : ∀ (word s : List Int), (Inc s ∧ ∀ x ∈ s, 0 ≤ x ∧ x < p.m.st) → Inc (word.foldl (seeL p) s) ∧ ∀ x ∈ word.foldl (seeL p) s, 0 ≤ x ∧ x < p.m.st
  | [], s, h => h
  | e :: r, s, _ => from_in hm r (seeL p s e) (see_in hm s e)
theorem wide_in {p : Plant} (hm : mayB p.m = true) {ss : List Int} (hs : ∀ x ∈ ss, 0 ≤ x ∧ x < p.m.st) : Inc (wideL p.m.arrows p.seen ss) ∧ ∀ x ∈ wideL p.m.arrows p.seen ss, 0 ≤ x ∧ x < p.m.st := ⟨inc_wide _ _ _, wide_bd hm hs⟩
theorem est_in {p : Plant} (hm : mayB p.m = true) (word : List Int) : Inc (estL p word) ∧ ∀ x ∈ estL p word, 0 ≤ x ∧ x < p.m.st := from_in hm word _ (wide_in hm (may_starts hm).2)
end Go.Proofs.YtgebfkmfhpcdhaaDoor
namespace Go.Proofs.YtgebfkmfhpcdhaaDoor
open Go.RowKit
set_option linter.unusedVariables false

/-- A list of states that what is not seen does not leave. -/
def ClU (p : Plant) (s : List Int) : Prop := (∀ x ∈ s, 0 ≤ x ∧ x < p.m.st) ∧ ∀ a ∈ p.m.arrows, hasB p.seen a.e = false → a.f ∈ s → a.t ∈ s
theorem clU_wide {p : Plant} (hm : mayB p.m = true) {ss : List Int} (hs : ∀ x ∈ ss, 0 ≤ x ∧ x < p.m.st) : ClU p (wideL p.m.arrows p.seen ss) := ⟨wide_bd hm hs, fun a ha hu h => wide_cl (may_to hm) ha hu h⟩
theorem clU_see {p : Plant} (hm : mayB p.m = true) (s : List Int) (e : Int) : ClU p (seeL p s e) := clU_wide hm (step_bd hm)
theorem clU_start {p : Plant} (hm : mayB p.m = true) : ClU p (wideL p.m.arrows p.seen p.m.starts) := clU_wide hm (may_starts hm).2
/-- In the machine of what is seen an estimate leads to the next one. -/
theorem hide_see {p : Plant} (hm : mayB p.m = true) {s : List Int} (hs : ClU p s) {k : Nat} (hk : k < p.seen.length) : stepL (hideM p.m p.seen).arrows s (k : Int) = seeD p s k := by
  refine inc_ext (inc_srt _) (inc_wide _ _ _) fun x => ?_
  rw [mem_stepL]
  unfold seeD seeL
  rw [mem_wide (may_to hm)]
  constructor
  · rintro ⟨a, ha, h1, h2, rfl⟩
    obtain ⟨f, j, hf, hj, hr⟩ := (mem_hAll _ _ _ _).1 (show a ∈ hAll p.m p.seen p.m.st.toNat from ha)
    obtain ⟨t, ht, rfl⟩ := (mem_hRow _ _ _ _ _).1 hr
    dsimp only at h1 h2 ⊢
    have : j = k := by omega
    subst this
    have h3 := (mem_wide (may_to hm) t).1 ht
    refine rch_trans (fun y hy => rch_start ?_) h3
    obtain ⟨b, hb, e1, e2, e3⟩ := (mem_stepL _ _ _ _).1 hy
    refine (mem_stepL _ _ _ _).2 ⟨b, hb, e1, ?_, e3⟩
    exact (mem_wide (may_to hm) b.f).1 e2 (· ∈ s) ⟨fun y hy => by
      have : y = (f : Int) := by simpa using hy
      rw [this]; exact h2, fun c hc hcs => hs.2 c ((mem_unseen _ _ _).1 hc).1 ((mem_unseen _ _ _).1 hc).2 hcs⟩
  · intro hx
    obtain ⟨y, hy, hyx⟩ := rch_one.1 hx
    obtain ⟨a, ha, e1, e2, rfl⟩ := (mem_stepL _ _ _ _).1 hy
    have bd := hs.1 _ e2
    refine ⟨⟨a.f, (k : Int), x⟩, ?_, rfl, e2, rfl⟩
    refine (mem_hAll _ _ _ _).2 ⟨a.f.toNat, k, by omega, hk, (mem_hRow _ _ _ _ _).2 ⟨x, ?_, by rw [Int.toNat_of_nonneg bd.1]⟩⟩
    rw [mem_wide (may_to hm)]
    refine rch_trans (fun z hz => rch_start ?_) hyx
    have : z = a.t := by simpa using hz
    subst this
    exact (mem_stepL _ _ _ _).2 ⟨a, ha, e1, wide_sub (may_to hm) _ (by simp [Int.toNat_of_nonneg bd.1]), rfl⟩
/-! The search. -/
end Go.Proofs.YtgebfkmfhpcdhaaDoor
namespace Go.Proofs.YtgebfkmfhpcdhaaDoor
open Go.RowKit
set_option linter.unusedVariables false
set_option linter.unusedSectionVars false

theorem afterL_app (ars : List Arr) (ss a b : List Int) : afterL ars ss (a ++ b) = afterL ars (afterL ars ss a) b := by
  unfold afterL; rw [List.foldl_append]
theorem step_mono {ars : List Arr} {ss ss' : List Int} {e : Int} (h : ∀ x ∈ ss, x ∈ ss') : ∀ x ∈ stepL ars ss e, x ∈ stepL ars ss' e := fun x hx => by
  obtain ⟨a, h1, h2, h3, h4⟩ := (mem_stepL _ _ _ _).1 hx
  exact (mem_stepL _ _ _ _).2 ⟨a, h1, h2, h _ h3, h4⟩
theorem after_mono {ars : List Arr} : ∀ (u : List Int) {ss ss' : List Int}, (∀ x ∈ ss, x ∈ ss') → ∀ x ∈ afterL ars ss u, x ∈ afterL ars ss' u
  | [], _, _, h => h
  | e :: u, ss, ss', h => after_mono u (ss := stepL ars ss e) (ss' := stepL ars ss' e) (step_mono h)
/-- A word of events of the machine's arrows, none of them seen. -/
def unW (ars : List Arr) (seen u : List Int) : Prop := ∀ e ∈ u, hasB seen e = false ∧ ∃ a ∈ ars, a.e = e
theorem wide_word {ars : List Arr} {seen ss : List Int} (hin : ∀ a ∈ ars, 0 ≤ a.t ∧ a.t < (256 : Nat)) {x : Int} (h : x ∈ wideL ars seen ss) : ∃ u, unW ars seen u ∧ x ∈ afterL ars ss u := by
  refine (mem_wide hin x).1 h (fun y => ∃ u, unW ars seen u ∧ y ∈ afterL ars ss u) ⟨fun y hy => ⟨[], by simp [unW], hy⟩, fun a ha hp => ?_⟩
  obtain ⟨u, h1, h2⟩ := hp
  obtain ⟨ha1, ha2⟩ := (mem_unseen _ _ _).1 ha
  refine ⟨u ++ [a.e], fun e he => ?_, ?_⟩
  · rcases List.mem_append.1 he with he | he
    · exact h1 e he
    · have : e = a.e := by simpa using he
      subst this; exact ⟨ha2, a, ha1, rfl⟩
  · rw [afterL_app]
    exact (mem_stepL _ _ _ _).2 ⟨a, ha1, rfl, h2, rfl⟩
end Go.Proofs.YtgebfkmfhpcdhaaDoor
