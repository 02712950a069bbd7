/-
  What current.May, Estimate and Leak leave; plain: what is best of what is known ahead.
-/
import Derived.Test.YtmlkpdeidpcidaaDoorG25
import Derived.Test.YtmlkpdeidpcidaaDoorCR9Fwd
namespace Go.Proofs.YtmlkpdeidpcidaaDoor
open Go.RowKit
set_option linter.unusedVariables false

/-- Are all of a list seen? -/
def inSeen (seen word : List Int) : Bool := decide ((seenL seen word).length = word.length)
theorem inSeen_iff (seen word : List Int) : inSeen seen word = true ↔ ∀ e ∈ word, e ∈ seen := by
  unfold inSeen seenL
  rw [decide_eq_true_eq, List.length_filter_eq_length_iff]
  constructor
  · intro h e he
    have := h e he
    unfold hasB at this
    simpa using this
  · intro h e he
    have := h e he
    unfold hasB
    simpa using this
/-- What Estimate answers (I2). -/
def estOut (p : Plant) (word : List Int) : List Int × Int := if mayP p = true then (if inSeen p.seen word = true then (estL p word, 0) else ([], 6)) else ([], 2)
/-- What is left by a call that hands back a list and an error. -/
def ListPost (w : World) (r : List Int × Int) (e : Ending) (w' : World) : Prop := ∃ va vc, e = .returned (.tuple #[.slice va r.1.length vc, .int .i64 r.2]) ∧ At w' va r.1 ∧ r.1.length ≤ maxLen ∧ Below w.heap.size w w'
/-- What a search answers. -/
def leakOut (p : Plant) (o : Option (List Int)) : Bool × List Int × Int := if mayP p = true then (o.isSome, o.getD [], 0) else (false, [], 2)
def LeakPost (w : World) (r : Bool × List Int × Int) (e : Ending) (w' : World) : Prop := ∃ va vc, e = .returned (.tuple #[.bool r.1, .slice va r.2.1.length vc, .int .i64 r.2.2]) ∧ At w' va r.2.1 ∧ r.2.1.length ≤ maxLen ∧ Below w.heap.size w w'
theorem estOut_bad {p : Plant} (h : mayP p = false) (word : List Int) : estOut p word = ([], 2) := by unfold estOut; rw [if_neg (by rw [h]; simp)]
theorem estOut_ok {p : Plant} {word : List Int} (h : mayP p = true) (hs : inSeen p.seen word = true) : estOut p word = (estL p word, 0) := by unfold estOut; rw [if_pos h, if_pos hs]
theorem estOut_out {p : Plant} {word : List Int} (h : mayP p = true) (hs : inSeen p.seen word = false) : estOut p word = ([], 6) := by unfold estOut; rw [if_pos h, if_neg (by rw [hs]; simp)]
theorem leakOut_bad {p : Plant} (h : mayP p = false) (o : Option (List Int)) : leakOut p o = (false, [], 2) := by unfold leakOut; rw [if_neg (by rw [h]; simp)]
theorem leakOut_ok {p : Plant} (h : mayP p = true) (o : Option (List Int)) : leakOut p o = (o.isSome, o.getD [], 0) := by unfold leakOut; rw [if_pos h]

/-! What is best, where the lesser lists stand ahead. -/
def leakK (secret only : List Int) (x : Kno) : Bool := leakB secret (x.1.filter fun n => hasB only n == true)
theorem best_keep (secret only : List Int) : ∀ (L : List Kno) (u : List Int), (∀ x ∈ L, lessB x.2 u = false) → L.foldl (bestStep secret only) (some u) = some u
  | [], u, _ => rfl
  | x :: r, u, h => by
    have e : bestStep secret only (some u) x = some u := by
      unfold bestStep
      rw [Option.getD_some, h x (by simp)]; simp
    rw [List.foldl_cons, e]
    exact best_keep secret only r u (fun y hy => h y (by simp [hy]))
theorem best_first (secret only : List Int) : ∀ (L : List Kno), L.Pairwise (fun p q => lessB p.2 q.2 = true) → bestL secret only L = (L.find? (leakK secret only)).map (·.2)
  | [], _ => rfl
  | x :: r, h => by
    rw [List.pairwise_cons] at h
    unfold bestL
    rw [List.foldl_cons]
    cases hl : leakK secret only x with
    | true =>
      have e : bestStep secret only none x = some x.2 := by
        unfold bestStep; unfold leakK at hl; rw [hl]; simp
      rw [e, List.find?_cons_of_pos hl, Option.map_some]
      exact best_keep secret only r x.2 (fun y hy => leW_not (.inr (h.1 y hy)))
    | false =>
      have e : bestStep secret only none x = none := by
        unfold bestStep; unfold leakK at hl; rw [hl]; simp
      rw [e, List.find?_cons_of_neg (by rw [hl]; simp)]
      exact best_first secret only r h.2
theorem filter_all {only row : List Int} (h : ∀ x ∈ row, x ∈ only) : (row.filter fun n => hasB only n == true) = row := by
  rw [List.filter_eq_self]
  intro a ha
  have := h a ha
  unfold hasB
  simpa using this
/-- All states. -/
theorem fwd_best {p : Plant} (hp : mayP p = true) {only : List Int} (ho : ∀ x : Int, 0 ≤ x → x < p.m.st → x ∈ only) : bestL p.secret only (knL p.seen (fwdL p)) = outC p := by
  obtain ⟨hm, z, hs, -⟩ := (mayP_iff p).1 hp
  have hz := mayB_size hm
  unfold sizeOk at hz
  have hi : Inc p.seen := ((rowB_iff _ (by omega) _).1 hs).1
  have hI := fwd_all hm z
  rw [best_first]
  · unfold outC knL
    rw [List.find?_map, Option.map_map]
    congr 1
    have : ∀ l : List (List Int × List Int), (∀ x ∈ l, x ∈ fwdL p) → l.find? (leakK p.secret only ∘ fun x => (x.1, wordS p.seen x.2)) = l.find? fun x => leakB p.secret x.1 := by
      intro l
      induction l with
      | nil => intro _; rfl
      | cons x r ih =>
        intro hin
        have hx := hin x (by simp)
        have e1 := fwd_est hI hx
        have h2 := est_in hm (wordS p.seen x.2)
        have e2 : (leakK p.secret only ∘ fun x => (x.1, wordS p.seen x.2)) x = leakB p.secret x.1 := by
          show leakB p.secret (x.1.filter fun n => hasB only n == true) = _
          rw [filter_all (fun y hy => by rw [e1] at hy; have := h2.2 y hy; exact ho y this.1 this.2)]
        rw [List.find?_cons, List.find?_cons, e2, ih (fun y hy => hin y (by simp [hy]))]
    exact this _ (fun x hx => hx)
  · unfold knL
    rw [List.pairwise_map]
    refine List.Pairwise.imp_of_mem ?_ hI.inc
    intro a b ha hb hab
    show lessB (wordS p.seen a.2) (wordS p.seen b.2) = true
    rw [lessB_word hi (hI.run a ha).2 (hI.run b hb).2]; exact hab

end Go.Proofs.YtmlkpdeidpcidaaDoor
