/-
  Plain: the places where two machines may be at once, and the least word that one accepts and the other one doesn't. No program, no model.
  Plain: all that is come to from some things, each once, in the order found. No program, no model.
  Plain: a plant, and what may be known of where it is. No program, no model.
  A map keyed by sets of states, and rows of places of package current, as the model runs them.
  Rows of places, to be read; what slices.IndexFunc answers of them.
  Plain: what is seen of a machine hangs on its language alone. No program, no model.
  Rows of places of package secret, as the model runs them.
-/
import Derived.Test.YtmlkpdeidpcidaaDoorI03
import Derived.Test.YtmlkpdeidpcidaaDoorI15
import Derived.Test.YtmlkpdeidpcidaaDoorI06
import Derived.Test.YtmlkpdeidpcidaaDoorI14
namespace Go.Proofs.YtmlkpdeidpcidaaDoor
open Go.RowKit
set_option linter.unusedVariables false
set_option linter.unusedSectionVars false

/-! How many increasing lists there are. -/
theorem nodup_sub {α : Type} [DecidableEq α] : ∀ {l m : List α}, l.Nodup → (∀ x ∈ l, x ∈ m) → l.length ≤ m.length
  | [], m, _, _ => Nat.zero_le _
  | x :: r, m, hn, hs => by
    rw [List.nodup_cons] at hn
    have hx := hs x (by simp)
    have ih := nodup_sub (l := r) (m := m.erase x) hn.2 (fun y hy => by
      have hne : y ≠ x := fun e => hn.1 (e ▸ hy)
      exact (List.mem_erase_of_ne hne).2 (hs y (by simp [hy])))
    rw [List.length_erase_of_mem hx] at ih
    have := List.length_pos_of_mem hx
    rw [List.length_cons]; omega
def subs : Nat → List (List Int)
  | 0 => [[]]
  | n + 1 => subs n ++ (subs n).map (· ++ [(n : Int)])
theorem subs_len : ∀ n, (subs n).length = 2 ^ n
  | 0 => rfl
  | n + 1 => by rw [subs, List.length_append, List.length_map, subs_len n, Nat.pow_succ]; omega
theorem mem_subs : ∀ (n : Nat) (l : List Int), Inc l → (∀ x ∈ l, 0 ≤ x ∧ x < (n : Int)) → l ∈ subs n
  | 0, l, _, h => by
    have : l = [] := by
      cases l with
      | nil => rfl
      | cons x r => have := h x (by simp); omega
    subst this; simp [subs]
  | n + 1, l, hi, h => by
    rw [subs, List.mem_append, List.mem_map]
    by_cases hn : (n : Int) ∈ l
    · right
      have hne : l ≠ [] := fun e => by rw [e] at hn; simp at hn
      obtain ⟨v, z, e⟩ : ∃ v z, l = v ++ [z] := ⟨_, _, (List.dropLast_concat_getLast hne).symm⟩
      subst e
      unfold Inc at hi
      rw [List.pairwise_append] at hi
      have hz := h z (by simp)
      have hzn : z = (n : Int) := by
        rcases List.mem_append.1 hn with h1 | h1
        · have := hi.2.2 _ h1 z (by simp); omega
        · have : (n : Int) = z := by simpa using h1
          exact this.symm
      subst hzn
      refine ⟨v, mem_subs n v hi.1 (fun x hx => ?_), rfl⟩
      have h1 := hi.2.2 x hx _ (by simp : (n : Int) ∈ [(n : Int)])
      have h2 := h x (by simp [hx])
      omega
    · left
      refine mem_subs n l hi (fun x hx => ?_)
      have h1 := h x hx
      have : x ≠ (n : Int) := fun e => hn (e ▸ hx)
      omega
/-! The search ends. -/
section
variable {σ : Type} [DecidableEq σ] {δ : σ → Nat → σ}
theorem bi_wlen {s0 : σ} {ev k n : Nat} {l : List (σ × List Int)} (h : BI δ s0 ev k n l) : ∀ (j : Nat) (p : σ × List Int), l[j]? = some p → p.2.length ≤ j := by
  intro j
  induction j using Nat.strongRecOn with
  | _ j ih =>
    intro p hp
    rcases h.top p (List.mem_of_getElem? hp) with h0 | ⟨i, x, e, hx, h1, -⟩
    · rw [h0]; simp
    · have hl : p.2.length = x.2.length + 1 := by rw [h1]; simp
      have hlt := (List.getElem?_eq_some_iff.1 hp).1
      have hlx := (List.getElem?_eq_some_iff.1 hx).1
      have hij : i < j := by
        rcases Nat.lt_trichotomy i j with h2 | h2 | h2
        · exact h2
        · subst h2; rw [hx] at hp; have := Option.some.inj hp; subst this; omega
        · have := List.pairwise_iff_getElem.1 h.inc j i hlt hlx h2
          rw [(List.getElem?_eq_some_iff.1 hx).2, (List.getElem?_eq_some_iff.1 hp).2] at this
          have := lessB_len this; omega
      have := ih i hij x hx
      omega
end

/-! Two machines at once. -/
end Go.Proofs.YtmlkpdeidpcidaaDoor
namespace Go.Proofs.YtmlkpdeidpcidaaDoor
open Go.RowKit
set_option linter.unusedVariables false
set_option linter.unusedSectionVars false

section
variable {σ : Type} [DecidableEq σ] (nx : σ → List σ)
def cAdd (l : List σ) (x : σ) : List σ := if x ∈ l then l else l ++ [x]
def cRow (l xs : List σ) : List σ := xs.foldl cAdd l
def cGo (d : σ) : Nat → Nat → List σ → List σ
  | 0, _, l => l
  | f + 1, k, l => if k < l.length then cGo d f (k + 1) (cRow l (nx (l[k]?.getD d))) else l
theorem mem_cAdd (l : List σ) (x y : σ) : y ∈ cAdd l x ↔ y ∈ l ∨ y = x := by
  unfold cAdd
  split
  · rename_i h
    exact ⟨.inl, fun q => q.elim id (fun e => by rw [e]; exact h)⟩
  · rw [List.mem_append, List.mem_singleton]
theorem nodup_cAdd {l : List σ} (h : l.Nodup) (x : σ) : (cAdd l x).Nodup := by
  unfold cAdd
  split
  · exact h
  · rename_i hx
    rw [List.nodup_append]
    refine ⟨h, by simp, fun a ha b hb e => ?_⟩
    rw [List.mem_singleton] at hb
    subst hb; subst e; exact hx ha
theorem cAdd_pre (l : List σ) (x : σ) : ∃ t, cAdd l x = l ++ t := by
  unfold cAdd
  split
  · exact ⟨[], by simp⟩
  · exact ⟨[x], rfl⟩
theorem mem_cRow : ∀ (xs l : List σ) (y : σ), y ∈ cRow l xs ↔ y ∈ l ∨ y ∈ xs
  | [], l, y => by simp [cRow]
  | x :: r, l, y => by
    have := mem_cRow r (cAdd l x) y
    unfold cRow at this ⊢
    rw [List.foldl_cons, this, mem_cAdd, List.mem_cons, or_assoc]
theorem nodup_cRow : ∀ (xs : List σ) {l : List σ}, l.Nodup → (cRow l xs).Nodup
  | [], l, h => h
  | x :: r, l, h => nodup_cRow r (nodup_cAdd h x)
theorem cRow_pre : ∀ (xs l : List σ), ∃ t, cRow l xs = l ++ t
  | [], l => ⟨[], by simp [cRow]⟩
  | x :: r, l => by
    obtain ⟨t, ht⟩ := cAdd_pre l x
    obtain ⟨u, hu⟩ := cRow_pre r (cAdd l x)
    refine ⟨t ++ u, ?_⟩
    unfold cRow at hu ⊢
    rw [List.foldl_cons, hu, ht, List.append_assoc]
/-- What the search leaves: closed, and nothing else. -/
theorem cGo_inv {d : σ} {U : List σ} (hU : ∀ y ∈ U, ∀ x ∈ nx y, x ∈ U) (S : σ → Prop) (hS : ∀ y, S y → ∀ x ∈ nx y, S x) : ∀ (f k : Nat) (l : List σ), l.Nodup → (∀ x ∈ l, x ∈ U) → (∀ x ∈ l, S x) → (∀ (j : Nat) (y : σ), j < k → l[j]? = some y → ∀ x ∈ nx y, x ∈ l) → k ≤ l.length → U.length < f + k →
    (cGo nx d f k l).Nodup ∧ (∀ x ∈ cGo nx d f k l, x ∈ U ∧ S x) ∧ (∀ y ∈ cGo nx d f k l, ∀ x ∈ nx y, x ∈ cGo nx d f k l) ∧ (∀ x ∈ l, x ∈ cGo nx d f k l)
  | 0, k, l, hn, hu, hs, hc, hk, hf => by
    have := nodup_sub hn hu
    omega
  | f + 1, k, l, hn, hu, hs, hc, hk, hf => by
    rw [cGo]
    by_cases hlt : k < l.length
    · rw [if_pos hlt]
      obtain ⟨y, hy⟩ : ∃ y, l[k]? = some y := ⟨_, List.getElem?_eq_getElem hlt⟩
      rw [hy, Option.getD_some]
      have hym := List.mem_of_getElem? hy
      obtain ⟨t, ht⟩ := cRow_pre (nx y) l
      have ih := cGo_inv (d := d) hU S hS f (k + 1) (cRow l (nx y)) (nodup_cRow _ hn) (fun x hx => by
        rcases (mem_cRow _ _ _).1 hx with q | q
        · exact hu x q
        · exact hU y (hu y hym) x q) (fun x hx => by
        rcases (mem_cRow _ _ _).1 hx with q | q
        · exact hs x q
        · exact hS y (hs y hym) x q) (fun j z hj hz x hx => by
        have hjl : j < l.length := by omega
        rw [ht, List.getElem?_append_left hjl] at hz
        by_cases e : j = k
        · subst e
          rw [hy] at hz
          have := Option.some.inj hz
          subst this
          exact (mem_cRow _ _ _).2 (.inr hx)
        · exact (mem_cRow _ _ _).2 (.inl (hc j z (by omega) hz x hx))) (by rw [ht, List.length_append]; omega) (by omega)
      exact ⟨ih.1, ih.2.1, ih.2.2.1, fun x hx => ih.2.2.2 x ((mem_cRow _ _ _).2 (.inl hx))⟩
    · rw [if_neg hlt]
      refine ⟨hn, fun x hx => ⟨hu x hx, hs x hx⟩, fun y hy x hx => ?_, fun x hx => hx⟩
      obtain ⟨j, hj⟩ := List.mem_iff_getElem?.1 hy
      have hjl := (List.getElem?_eq_some_iff.1 hj).1
      exact hc j y (by omega) hj x hx
theorem cGo_start {d : σ} {U l : List σ} (hU : ∀ y ∈ U, ∀ x ∈ nx y, x ∈ U) (hn : l.Nodup) (hu : ∀ x ∈ l, x ∈ U) {f : Nat} (hf : U.length < f) (S : σ → Prop) (hS : ∀ y, S y → ∀ x ∈ nx y, S x) (hs : ∀ x ∈ l, S x) :
    (cGo nx d f 0 l).Nodup ∧ (∀ x ∈ cGo nx d f 0 l, x ∈ U ∧ S x) ∧ (∀ y ∈ cGo nx d f 0 l, ∀ x ∈ nx y, x ∈ cGo nx d f 0 l) ∧ (∀ x ∈ l, x ∈ cGo nx d f 0 l) :=
  cGo_inv nx hU S hS f 0 l hn hu hs (fun j y hj => by omega) (Nat.zero_le _) (by omega)

/-! Lists as sets. -/
def canG (U l : List σ) : List σ := U.filter fun x => decide (x ∈ l)
theorem canG_iff {U l l' : List σ} (h : ∀ x ∈ l, x ∈ U) (h' : ∀ x ∈ l', x ∈ U) : canG U l = canG U l' ↔ ∀ x, x ∈ l ↔ x ∈ l' := by
  constructor
  · intro e x
    have hm : ∀ k : List σ, (∀ y ∈ k, y ∈ U) → (x ∈ canG U k ↔ x ∈ k) := fun k hk => by
      unfold canG
      rw [List.mem_filter, decide_eq_true_eq]
      exact ⟨fun q => q.2, fun q => ⟨hk x q, q⟩⟩
    rw [← hm l h, e, hm l' h']
  · intro e
    unfold canG
    exact List.filter_congr fun x _ => by rw [decide_eq_decide]; exact e x
theorem mem_canG {U l : List σ} (h : ∀ x ∈ l, x ∈ U) (x : σ) : x ∈ canG U l ↔ x ∈ l := by
  unfold canG
  rw [List.mem_filter, decide_eq_true_eq]
  exact ⟨fun q => q.2, fun q => ⟨h x q, q⟩⟩
/-- As many, and all of the one in the other: the same. -/
theorem same_sets {a b : List σ} (ha : a.Nodup) (hb : b.Nodup) : (a.length = b.length ∧ ∀ x ∈ a, x ∈ b) ↔ ∀ x, x ∈ a ↔ x ∈ b := by
  constructor
  · rintro ⟨h1, h2⟩ x
    refine ⟨h2 x, fun hx => ?_⟩
    by_cases hn : x ∈ a
    · exact hn
    · exfalso
      have := nodup_sub (l := x :: a) (m := b) (List.nodup_cons.2 ⟨hn, ha⟩) (fun y hy => by
        rcases List.mem_cons.1 hy with rfl | hy
        · exact hx
        · exact h2 y hy)
      rw [List.length_cons] at this
      omega
  · intro h
    have h1 := nodup_sub (l := a) (m := b) ha (fun y hy => (h y).1 hy)
    have h2 := nodup_sub (l := b) (m := a) hb (fun y hy => (h y).2 hy)
    exact ⟨by omega, fun x hx => (h x).1 hx⟩
end

end Go.Proofs.YtmlkpdeidpcidaaDoor
namespace Go.Proofs.YtmlkpdeidpcidaaDoor
open Go.RowKit
set_option linter.unusedVariables false
set_option linter.unusedSectionVars false

/-! Words by the numbers of some events. -/
/-- The events of a word of numbers. -/
def wordS (seen u : List Int) : List Int := u.map fun k => seen[k.toNat]?.getD 0
theorem wordS_snoc (seen u : List Int) (e : Nat) : wordS seen (u ++ [(e : Int)]) = wordS seen u ++ [seen[e]?.getD 0] := by simp [wordS]
theorem wordS_len (seen u : List Int) : (wordS seen u).length = u.length := by simp [wordS]
/-! The plant. -/
end Go.Proofs.YtmlkpdeidpcidaaDoor
namespace Go.Proofs.YtmlkpdeidpcidaaDoor
open Go.RowKit
set_option linter.unusedVariables false

/-- A place: its set, its list as a value, and what that reads as. -/
structure PlC where
  s : Nat → Nat
  v : Value
  word : List Int
/-- The set stands for a list, which rises. -/
def RepI (S : Nat → Nat) (s : List Int) : Prop := Rep S s ∧ Inc s
def entC (k : Nat) (p : PlC) : MapEntry := { key := sval p.s, val := .agg #[], born := k }
def entsC (L : List PlC) : Array MapEntry := (L.mapIdx entC).toArray
theorem entsC_snoc (L : List PlC) (p : PlC) : entsC (L ++ [p]) = (entsC L).push (entC L.length p) := by
  unfold entsC; rw [List.mapIdx_concat]; simp
/-- The places stand for what has been found, one by one. -/
structure RepCL (L : List PlC) (l : List (List Int × List Int)) : Prop where
  len : L.length = l.length
  rep : ∀ (k : Nat) (p : PlC), L[k]? = some p → ∃ x, l[k]? = some x ∧ RepI p.s x.1
theorem RepCL.at {L : List PlC} {l : List (List Int × List Int)} (h : RepCL L l) {k : Nat} {x : List Int × List Int} (hk : l[k]? = some x) : ∃ p, L[k]? = some p ∧ RepI p.s x.1 := by
  have hlt := (List.getElem?_eq_some_iff.1 hk).1
  have hlt' : k < L.length := by rw [h.len]; exact hlt
  obtain ⟨y, h1, h2⟩ := h.rep k _ (List.getElem?_eq_getElem hlt')
  rw [hk] at h1
  have h1 := Option.some.inj h1
  subst h1
  exact ⟨_, List.getElem?_eq_getElem hlt', h2⟩
theorem RepCL.snoc {L : List PlC} {l : List (List Int × List Int)} (h : RepCL L l) {p : PlC} {x : List Int × List Int} (hr : RepI p.s x.1) : RepCL (L ++ [p]) (l ++ [x]) := by
  refine ⟨by simp [h.len], fun k q hk => ?_⟩
  by_cases hlt : k < L.length
  · rw [List.getElem?_append_left hlt] at hk
    obtain ⟨y, h1, h2⟩ := h.rep k q hk
    exact ⟨y, by rw [List.getElem?_append_left (by rw [← h.len]; exact hlt)]; exact h1, h2⟩
  · have hk' := (List.getElem?_eq_some_iff.1 hk).1
    simp at hk'
    have e : k = L.length := by omega
    subst e
    rw [List.getElem?_append_right (Nat.le_refl _)] at hk
    have : p = q := by simpa using hk
    subst this
    exact ⟨x, by rw [h.len, List.getElem?_append_right (Nat.le_refl _)]; simp, hr⟩
theorem RepCL.one {p : PlC} {x : List Int × List Int} (hr : RepI p.s x.1) : RepCL [p] [x] := RepCL.snoc (L := []) (l := []) ⟨rfl, fun k S h => by simp at h⟩ hr
theorem find_sc {L : List PlC} {l : List (List Int × List Int)} (hR : RepCL L l) {S : Nat → Nat} {s : List Int} (hr : RepI S s) (w : World) :
    (knownB l s = true ∧ ∃ j, (Instr.findKey 85 (sval S) (entsC L).toList).run Tryd.prog w = .ok (some (j, .agg #[])) w) ∨ (knownB l s = false ∧ (Instr.findKey 85 (sval S) (entsC L).toList).run Tryd.prog w = .ok none w) := by
  obtain ⟨kl, hl⟩ := keySet hr.1.ok
  have hget : ∀ (j : Nat) e, (entsC L).toList[j]? = some e → ∃ p, L[j]? = some p ∧ e = entC j p := by
    intro j e h
    simp only [entsC] at h
    rw [List.getElem?_mapIdx] at h
    cases hq : L[j]? with
    | none => rw [hq] at h; cases h
    | some q => rw [hq] at h; exact ⟨q, rfl, (Option.some.inj h).symm⟩
  have hes : ∀ e ∈ (entsC L).toList, ∃ l, keyOf Tryd.prog 85 e.key = some l := by
    intro e he
    obtain ⟨j, hj⟩ := List.mem_iff_getElem?.1 he
    obtain ⟨p, hp, rfl⟩ := hget j e hj
    obtain ⟨x, -, h2⟩ := hR.rep j p hp
    exact keySet h2.1.ok
  rcases lawSet.find w hl (entsC L).toList hes with ⟨h1, h2⟩ | ⟨j, e, h1, h2, h3⟩
  · refine .inr ⟨?_, h1⟩
    cases hk : knownB l s with
    | false => rfl
    | true =>
      obtain ⟨x, hx, e1⟩ := (knownB_iff _ _).1 hk
      obtain ⟨j, hj⟩ := List.mem_iff_getElem?.1 hx
      obtain ⟨p, hp, hrp⟩ := hR.at hj
      refine absurd (eqS_sval ((eqS_iff hrp.1 hr.1 hrp.2 hr.2).2 e1)) (h2 (entC j p) (List.mem_of_getElem? (i := j) ?_))
      simp only [entsC]
      rw [List.getElem?_mapIdx, hp]; rfl
  · obtain ⟨p, hp, rfl⟩ := hget j e h2
    obtain ⟨x, hx, hrx⟩ := hR.rep j p hp
    exact .inl ⟨(knownB_iff _ _).2 ⟨x, List.mem_of_getElem? hx, (eqS_iff hrx.1 hr.1 hrx.2 hr.2).1 (sval_eq h3)⟩, j, h1⟩
theorem mapSC : Tryd.prog.underlying 165 = some (.map 85 191) := by kernel_rfl
theorem lookC_known {L : List PlC} {l : List (List Int × List Int)} (hR : RepCL L l) {S : Nat → Nat} {s : List Int} (hr : RepI S s) {w : World} {r c : Nat} (hm : w.heap[r]? = some (.map (entsC L) c)) (h : knownB l s = true) :
    (Instr.lookup 165 (.map (some r)) (sval S) true).run Tryd.prog w = .ok (.tuple #[.agg #[], .bool true]) w := by
  obtain ⟨kl, hl⟩ := keySet hr.1.ok
  rcases find_sc hR hr w with ⟨-, j, h1⟩ | ⟨h1, -⟩
  · simp [Instr.lookup, run_underlying mapSC, MapKept.run_getObj_map hm, lawSet.check w _ hl, h1, Result.andThen]
  · rw [h] at h1; cases h1
theorem lookC_new {L : List PlC} {l : List (List Int × List Int)} (hR : RepCL L l) {S : Nat → Nat} {s : List Int} (hr : RepI S s) {w : World} {r c : Nat} (hm : w.heap[r]? = some (.map (entsC L) c)) (h : knownB l s = false) :
    (Instr.lookup 165 (.map (some r)) (sval S) true).run Tryd.prog w = .ok (.tuple #[.agg #[], .bool false]) w := by
  obtain ⟨kl, hl⟩ := keySet hr.1.ok
  rcases find_sc hR hr w with ⟨h1, -⟩ | ⟨-, h1⟩
  · rw [h] at h1; cases h1
  · simp [Instr.lookup, run_underlying mapSC, MapKept.run_getObj_map hm, lawSet.check w _ hl, h1, Result.andThen]
theorem updC_new {L : List PlC} {l : List (List Int × List Int)} (hR : RepCL L l) {p : PlC} {s : List Int} (hr : RepI p.s s) {w : World} {r : Nat} (hm : w.heap[r]? = some (.map (entsC L) L.length)) (h : knownB l s = false) :
    (Instr.mapUpdate 165 (.map (some r)) (sval p.s) (.agg #[])).run Tryd.prog w = .ok () (setMap w r (.map (entsC (L ++ [p])) (L.length + 1))) := by
  obtain ⟨kl, hl⟩ := keySet hr.1.ok
  rcases find_sc hR hr w with ⟨h1, -⟩ | ⟨-, h1⟩
  · rw [h] at h1; cases h1
  · simp [Instr.mapUpdate, run_underlying mapSC, MapKept.run_getObj_map hm, lawSet.check w _ hl, h1, MapKept.run_setObj_map _ hm, Result.andThen, setMap, entsC_snoc, entC]
theorem updC_first {p : PlC} {s : List Int} (hr : RepI p.s s) {w : World} {r : Nat} (hm : w.heap[r]? = some (.map #[] 0)) :
    (Instr.mapUpdate 165 (.map (some r)) (sval p.s) (.agg #[])).run Tryd.prog w = .ok () (setMap w r (.map (entsC [p]) 1)) := by
  have := updC_new (L := []) (l := []) ⟨rfl, fun k S h => by simp at h⟩ hr (w := w) (r := r) hm rfl
  simpa using this

/-! Rows of places. -/
def pccells (p : PlC) : List Value := [.int .u64 (p.s 0), .int .u64 (p.s 1), .int .u64 (p.s 2), .int .u64 (p.s 3), p.v]
def pcflat : List PlC → List Value
  | [] => []
  | p :: r => pccells p ++ pcflat r
theorem pcflat_append : ∀ L M : List PlC, pcflat (L ++ M) = pcflat L ++ pcflat M
  | [], M => rfl
  | a :: r, M => by simp only [List.cons_append, pcflat, pcflat_append r M, List.append_assoc]
theorem pcflat_at : ∀ {L : List PlC} {k : Nat} {p : PlC}, L[k]? = some p → ∀ j, j < 5 → (pcflat L)[k * 5 + j]? = (pccells p)[j]?
  | [], k, p, h => by simp at h
  | a :: r, 0, p, h => by
    have e : a = p := by simpa using h
    subst e
    intro j hj
    rw [pcflat, Nat.zero_mul, Nat.zero_add, List.getElem?_append_left (by simp [pccells]; omega)]
  | a :: r, k + 1, p, h => by
    intro j hj
    have := pcflat_at (L := r) (k := k) (p := p) (by simpa using h) j hj
    rw [pcflat, List.getElem?_append_right (by simp [pccells]; omega)]
    have e : (k + 1) * 5 + j - (pccells a).length = k * 5 + j := by simp [pccells]; omega
    rw [e]; exact this
/-- Words that lie in memory stay where they are. -/
theorem innW_map {W : World} {br : Nat} {m : Array MapEntry} {c : Nat} (hm : W.heap[br]? = some (.map m c)) (o : Obj) {x : Value} {xs : List Int} (h : InnW 0 W x xs) : InnW 0 (setMap W br o) x xs :=
  h.kept (by rw [size_setMap]; exact Nat.le_refl _) (fun j hj => absurd hj (Nat.not_lt_zero _)) (fun g cs hg => heap_setMap_ne _ _ _ (fun e => by rw [e, hm] at hg; cases hg))
/-- A row that lies elsewhere, appended to, lies elsewhere still. -/
theorem ne_append {v v' : Value} {n hp : Nat} (h : v.ownBlock ≠ some hp) (hl : hp < n) (hn : v'.ownBlock = v.ownBlock ∨ v'.ownBlock = some n) : v'.ownBlock ≠ some hp := by
  rcases hn with e | e
  · rw [e]; exact h
  · rw [e]; intro h'; have := Option.some.inj h'; omega

/-- The places bear the lists of what has been found. -/
def WdC (seen : List Int) (L : List PlC) (l : List (List Int × List Int)) : Prop := ∀ (j : Nat) (p : PlC) (x : List Int × List Int), L[j]? = some p → l[j]? = some x → p.word = wordS seen x.2
theorem WdC.snoc {seen : List Int} {L : List PlC} {l : List (List Int × List Int)} (h : WdC seen L l) (hl : L.length = l.length) {p : PlC} {x : List Int × List Int} (hw : p.word = wordS seen x.2) : WdC seen (L ++ [p]) (l ++ [x]) := by
  intro j q y hq hy
  by_cases hlt : j < L.length
  · rw [List.getElem?_append_left hlt] at hq
    rw [List.getElem?_append_left (by omega)] at hy
    exact h j q y hq hy
  · have hk' := (List.getElem?_eq_some_iff.1 hq).1
    simp at hk'
    have e1 : j = L.length := by omega
    subst e1
    rw [List.getElem?_append_right (Nat.le_refl _)] at hq
    rw [hl, List.getElem?_append_right (Nat.le_refl _)] at hy
    have e2 : p = q := by simpa using hq
    have e3 : x = y := by simpa using hy
    subst e2
    subst e3
    exact hw
theorem WdC.one {seen : List Int} {p : PlC} {x : List Int × List Int} (hw : p.word = wordS seen x.2) : WdC seen [p] [x] := WdC.snoc (L := []) (l := []) (fun j q y h => by simp at h) rfl hw
abbrev pcarr (p : PlC) : Array Value := #[.int .u64 (p.s 0), .int .u64 (p.s 1), .int .u64 (p.s 2), .int .u64 (p.s 3), p.v]
end Go.Proofs.YtmlkpdeidpcidaaDoor
namespace Go.Proofs.YtmlkpdeidpcidaaDoor
open Go.RowKit
set_option linter.unusedVariables false

/-- A list of places in memory. -/
def RdC (W : World) (a : Option Addr) (L : List PlC) : Prop := L = [] ∨ ∃ g o, a = some ⟨g, o, none⟩ ∧ g < W.heap.size ∧ ∀ (k : Nat) (q : PlC), L[k]? = some q → ∀ (j : Nat) (u : Value), (pccells q)[j]? = some u → W.cell? ⟨g, o + k * 5 + j, none⟩ = some u
theorem RdC.below {W W' : World} {a : Option Addr} {L : List PlC} (h : RdC W a L) (hb : Below W.heap.size W W') : RdC W' a L := by
  rcases h with h | ⟨g, o, e, hg, hc⟩
  · exact .inl h
  · exact .inr ⟨g, o, e, Nat.lt_of_lt_of_le hg hb.size, fun k q hq j u hu => (hb.cell (p := ⟨g, o + k * 5 + j, none⟩) hg).trans (hc k q hq j u hu)⟩
theorem rdc_cells {W : World} {g o : Nat} {q : PlC} {k : Nat} (h : ∀ (j : Nat) (u : Value), (pccells q)[j]? = some u → W.cell? ⟨g, o + k * 5 + j, none⟩ = some u) : W.cell? ⟨g, o + k * 5, none⟩ = some (.int .u64 (q.s 0)) ∧ W.cell? ⟨g, o + k * 5 + 1, none⟩ = some (.int .u64 (q.s 1)) ∧ W.cell? ⟨g, o + k * 5 + 2, none⟩ = some (.int .u64 (q.s 2)) ∧ W.cell? ⟨g, o + k * 5 + 3, none⟩ = some (.int .u64 (q.s 3)) ∧ W.cell? ⟨g, o + k * 5 + 4, none⟩ = some q.v :=
  ⟨h 0 _ rfl, h 1 _ rfl, h 2 _ rfl, h 3 _ rfl, h 4 _ rfl⟩

end Go.Proofs.YtmlkpdeidpcidaaDoor
namespace Go.Proofs.YtmlkpdeidpcidaaDoor
open Go.RowKit
set_option linter.unusedVariables false
set_option linter.unusedSectionVars false

theorem afterL_app (ars : List Arr) (ss a b : List Int) : afterL ars ss (a ++ b) = afterL ars (afterL ars ss a) b := by
  unfold afterL; rw [List.foldl_append]
theorem step_mono {ars : List Arr} {ss ss' : List Int} {e : Int} (h : ∀ x ∈ ss, x ∈ ss') : ∀ x ∈ stepL ars ss e, x ∈ stepL ars ss' e := fun x hx => by
  obtain ⟨a, h1, h2, h3, h4⟩ := (mem_stepL _ _ _ _).1 hx
  exact (mem_stepL _ _ _ _).2 ⟨a, h1, h2, h _ h3, h4⟩
theorem after_mono {ars : List Arr} : ∀ (u : List Int) {ss ss' : List Int}, (∀ x ∈ ss, x ∈ ss') → ∀ x ∈ afterL ars ss u, x ∈ afterL ars ss' u
  | [], _, _, h => h
  | e :: u, ss, ss', h => after_mono u (ss := stepL ars ss e) (ss' := stepL ars ss' e) (step_mono h)
end Go.Proofs.YtmlkpdeidpcidaaDoor
namespace Go.Proofs.YtmlkpdeidpcidaaDoor
open Go.RowKit
set_option linter.unusedVariables false

abbrev OwnG (W : World) (B : Nat) (v : Value) (L : List PlC) : Prop := W.ownsRow B 142 5 v L.length (pcflat L)
theorem OwnG.cell {W : World} {B : Nat} {v : Value} {L : List PlC} (h : OwnG W B v L) {k : Nat} {p : PlC} (hk : L[k]? = some p) : ∃ g cap, v = .slice (some ⟨g, 0, none⟩) L.length cap ∧ B ≤ g ∧ g < W.heap.size ∧ ∀ j u, (pccells p)[j]? = some u → W.cell? ⟨g, k * 5 + j, none⟩ = some u := by
  rcases h.2 with ⟨rfl, hn⟩ | ⟨g, cap, cur, rfl, hg, hh, hnc, hcm, hcs, ht⟩
  · have := (List.getElem?_eq_some_iff.1 hk).1; omega
  · refine ⟨g, cap, rfl, hg, (Array.getElem?_eq_some_iff.1 hh).1, fun j u hu => ?_⟩
    have hj : j < 5 := by have := (List.getElem?_eq_some_iff.1 hu).1; simpa [pccells] using this
    have c1 := h.cells (g := g) rfl _ _ ((pcflat_at hk j hj).trans hu)
    rwa [addr0_add, Nat.zero_add] at c1
theorem own_plcG {W : World} {B : Nat} {v : Value} {L : List PlC} {p : PlC} (h : W.ownsRow B 142 5 v (L.length + 1) (pcflat L ++ pccells p)) : OwnG W B v (L ++ [p]) := by
  show W.ownsRow B 142 5 v (L ++ [p]).length (pcflat (L ++ [p]))
  rw [List.length_append, pcflat_append]
  have e : pcflat [p] = pccells p := by simp [pcflat]
  rw [e]; exact h
theorem ownG_one (W : World) (p : PlC) (B : Nat) (hB : B ≤ W.heap.size) : OwnG (W.alloc (.cells (pccells p).toArray 142)) B (.slice (some ⟨W.heap.size, 0, none⟩) 1 1) [p] := by
  have : World.ownsRow (W.alloc (.cells (pccells p).toArray 142)) B 142 5 (.slice (some ⟨W.heap.size, 0, none⟩) 1 1) 1 (pccells p) := World.ownsRow_lit W (pccells p).toArray 1 hB (by decide) rfl
  have e : pcflat [p] = pccells p := by simp [pcflat]
  show World.ownsRow _ B 142 5 _ 1 (pcflat [p])
  rw [e]; exact this

theorem innW_grownG {W W2 : World} {B n : Nat} {v : Value} {vs : List Value} (ho : W.ownsRow B 142 5 v n vs) (g : W.grownBy W2 v.ownBlock) {x : Value} {xs : List Int} (h : InnW 0 W x xs) : InnW 0 W2 x xs :=
  h.kept g.size (fun j hj => absurd hj (Nat.not_lt_zero _)) (fun q cs hq => g.block q (Array.getElem?_eq_some_iff.1 hq).1 (fun e => by
    obtain ⟨c2, h2⟩ := own_type ho e.symm
    rw [hq] at h2; cases h2))

/-- What a search knows: its row of places, made from block B on, and its map. -/
structure LGI (B : Nat) (W : World) (br : Nat) (vs : Value) (L : List PlC) : Prop where
  ss : OwnG W B vs L
  inn : ∀ q ∈ L, InnW 0 W q.v q.word
  mp : W.heap[br]? = some (.map (entsC L) L.length)
  lr : B ≤ br
section
variable {B : Nat} {W : World} {br : Nat} {vs : Value} {L : List PlC}
theorem LGI.below {W' : World} (h : LGI B W br vs L) (hb : Below W.heap.size W W') : LGI B W' br vs L :=
  ⟨own_same h.ss (fun k hk => hb.block k (World.ownsRow.lt h.ss k hk).2), fun q hq => (h.inn q hq).below hb (Nat.zero_le _), (hb.block br (Array.getElem?_eq_some_iff.1 h.mp).1).trans h.mp, h.lr⟩
theorem LGI.apart (h : LGI B W br vs L) : vs.ownBlock ≠ some br := by
  have hm := h.mp
  exact fun e => (by obtain ⟨cs, hc⟩ := own_type h.ss e; rw [hm] at hc; cases hc)
theorem LGI.mapped (h : LGI B W br vs L) (o : Obj) : OwnG (setMap W br o) B vs L := own_same h.ss (fun j hj => heap_setMap_ne _ _ _ (fun e => h.apart (by rw [hj, e])))
theorem LGI.push {w0 : World} {W2 W3 : World} {vs' : Value} {p : PlC} (h : LGI B W br vs L) (h0 : Below B w0 W) (hW3 : Below (setMap W br (.map (entsC (L ++ [p])) (L.length + 1))).heap.size (setMap W br (.map (entsC (L ++ [p])) (L.length + 1))) W3) (hi : InnW 0 W3 p.v p.word) (o1 : OwnG W2 B vs' (L ++ [p])) (g : W3.grownBy W2 vs.ownBlock) (hBW : B ≤ W.heap.size) :
    LGI B W2 br vs' (L ++ [p]) ∧ Below B w0 W2 := by
  have a1 := h.apart
  have hbr := (Array.getElem?_eq_some_iff.1 h.mp).1
  have hz : W.heap.size ≤ W3.heap.size := by have := hW3.size; rwa [size_setMap] at this
  have k3 : ∀ j, j < W.heap.size → W3.heap[j]? = (setMap W br (.map (entsC (L ++ [p])) (L.length + 1))).heap[j]? := fun j hj => hW3.block j (by rw [size_setMap]; exact hj)
  have k2 : ∀ j, j < W.heap.size → vs.ownBlock ≠ some j → W2.heap[j]? = (setMap W br (.map (entsC (L ++ [p])) (L.length + 1))).heap[j]? := fun j hj hne => (g.block j (Nat.lt_of_lt_of_le hj hz) (fun e => hne e.symm)).trans (k3 j hj)
  have o3 : OwnG W3 B vs L := own_same (h.mapped (.map (entsC (L ++ [p])) (L.length + 1))) (fun j hj => hW3.block j (World.ownsRow.lt (h.mapped _) j hj).2)
  refine ⟨⟨o1, fun q hq => ?_, ?_, h.lr⟩, ?_⟩
  · rcases List.mem_append.1 hq with hq | hq
    · exact innW_grownG o3 g ((innW_map h.mp _ (h.inn q hq)).below hW3 (Nat.zero_le _))
    · have : q = p := by simpa using hq
      subst this
      exact innW_grownG o3 g hi
  · rw [k2 br hbr a1, heap_setMap _ _ hbr, List.length_append]; rfl
  · have b1 : Below B w0 (setMap W br (.map (entsC (L ++ [p])) (L.length + 1))) :=
      h0.trans ⟨rfl, rfl, rfl, by rw [size_setMap]; exact Nat.le_refl _, fun j hj => heap_setMap_ne _ _ _ (by have := h.lr; omega)⟩
    exact (b1.trans (hW3.mono (by rw [size_setMap]; exact hBW))).grown g (Nat.le_trans hBW hz) (fun j hj => (World.ownsRow.lt h.ss j hj).1)
end
theorem lgi_first {B : Nat} {W : World} {br : Nat} {v : Value} {p : PlC} (ho : OwnG W B v [p]) (hi : InnW 0 W p.v p.word) (hm : W.heap[br]? = some (.map #[] 0)) (hb : B ≤ br) : LGI B (setMap W br (.map (entsC [p]) 1)) br v [p] := by
  have hbr := (Array.getElem?_eq_some_iff.1 hm).1
  refine ⟨own_same ho (fun k hk => heap_setMap_ne _ _ _ (fun e => ?_)), fun q hq => ?_, heap_setMap _ _ hbr, hb⟩
  · obtain ⟨cs, hc⟩ := own_type ho hk
    rw [e, hm] at hc; cases hc
  · have : q = p := by simpa using hq
    subst this
    exact innW_map hm _ hi
theorem lgi_first2 {B : Nat} {W : World} {br : Nat} {p : PlC} (hi : InnW 0 W p.v p.word) (hm : W.heap[br]? = some (.map (entsC [p]) 1)) (hb : B ≤ br) (hB : B ≤ W.heap.size) : LGI B (W.alloc (.cells (pccells p).toArray 142)) br (.slice (some ⟨W.heap.size, 0, none⟩) 1 1) [p] :=
  ⟨ownG_one W p B hB, fun q hq => (by
    have : q = p := by simpa using hq
    subst this
    exact hi.below ((Below.refl _ _).alloc (Nat.le_refl _) _) (Nat.zero_le _)), (Below.heap_alloc W _ br (Array.getElem?_eq_some_iff.1 hm).1).trans hm, hb⟩
/-- A row of places that a call hands back: sets and lists of what has been found. -/
structure PlsG (W : World) (B : Nat) (v : Value) (seen : List Int) (L : List PlC) (l : List (List Int × List Int)) : Prop where
  ow : OwnG W B v L
  inn : ∀ q ∈ L, InnW 0 W q.v q.word
  rep : RepCL L l
  wd : WdC seen L l
theorem PGk.cells {W : World} {b : Nat} {p : PlC} (h : Blk W b 142 (pcarr p)) : W.cell? ⟨b, 0, none⟩ = some (.int .u64 (p.s 0)) ∧ W.cell? ⟨b, 1, none⟩ = some (.int .u64 (p.s 1)) ∧ W.cell? ⟨b, 2, none⟩ = some (.int .u64 (p.s 2)) ∧ W.cell? ⟨b, 3, none⟩ = some (.int .u64 (p.s 3)) ∧ W.cell? ⟨b, 4, none⟩ = some p.v :=
  ⟨h.cell 0 rfl, h.cell 1 rfl, h.cell 2 rfl, h.cell 3 rfl, h.cell 4 rfl⟩

abbrev pg0 (Q : Nat → Nat) : Array Value := #[.int .u64 (Q 0), .int .u64 (Q 1), .int .u64 (Q 2), .int .u64 (Q 3), .slice none 0 0]
theorem entsG_s (L : List PlC) {p q : PlC} (h : p.s = q.s) : entsC (L ++ [p]) = entsC (L ++ [q]) := by
  rw [entsC_snoc, entsC_snoc]; unfold entC; rw [h]
theorem ownG_low {W : World} {B B' : Nat} {v : Value} {L : List PlC} (h : OwnG W B v L) (hb : B' ≤ B) : OwnG W B' v L := by
  refine ⟨h.1, ?_⟩
  rcases h.2 with h0 | ⟨g, cap, cur, e, hg, hr⟩
  · exact .inl h0
  · exact .inr ⟨g, cap, cur, e, Nat.le_trans hb hg, hr⟩
theorem LGI.nebr {B : Nat} {W : World} {br hp : Nat} {vs : Value} {L : List PlC} {t : TypeId} {cs : Array Value} (h : LGI B W br vs L) (hh : Blk W hp t cs) : hp ≠ br := fun e => by
  have hm := h.mp
  rw [← e, show W.heap[hp]? = _ from hh] at hm; cases hm
/-- The block that a search's row lies in, apart from another one, stays apart. -/
theorem blk_grownG {W W2 : World} {b : Nat} {row : Option Nat} {t : TypeId} {cs : Array Value} (h : Blk W b t cs) (g : W.grownBy W2 row) (hn : row ≠ some b) : Blk W2 b t cs := (g.block b h.lt (fun e => hn e.symm)).trans h
theorem sb_apartG {W : World} {B n b : Nat} {v : Value} {vs : List Value} {S : Nat → Nat} (ho : W.ownsRow B 142 5 v n vs) (h : SB W b S) : v.ownBlock ≠ some b := fun e => by
  obtain ⟨c2, h2⟩ := own_type ho e
  rw [show W.heap[b]? = _ from h] at h2; cases h2

theorem Tryd.infoPlaceG : (Tryd.prog.info? 142).map (fun i => (i.zero, i.size, i.bytes)) = some (some (.agg (pccells ⟨zeroS, .slice none 0 0, []⟩).toArray), 5, 56) := by kernel_rfl
theorem below_mapG {B : Nat} {w W : World} (h : Below B w W) {br : Nat} (hb : B ≤ br) (o : Obj) : Below B w (setMap W br o) :=
  h.trans ⟨rfl, rfl, rfl, by rw [size_setMap]; exact Nat.le_refl _, fun j hj => heap_setMap_ne _ _ _ (by omega)⟩
theorem blk_mapG {W : World} {b br : Nat} {t : TypeId} {cs : Array Value} (h : Blk W b t cs) (hn : b ≠ br) (o : Obj) : Blk (setMap W br o) b t cs := (heap_setMap_ne W br o hn).trans h

end Go.Proofs.YtmlkpdeidpcidaaDoor
