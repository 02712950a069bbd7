/-
  What current.May, Estimate and Leak leave; plain: what is best of what is known ahead.
  Plain: where a plant may have begun. No program, no model.
  The walk of jalousieref7.Within.
  Plain: what a watcher knows, by the words that a plant does; who sees more knows no less. No program, no model.
  Plain: where a machine may be, and where all runs of a secret are then, when a list was seen. No program, no model.
  What is said of a slice of whereabouts (jalousieref12.At: a state and a row each).
  The walks of jalousieref12.has and Same.
-/
import Derived.Deep.QuietTactic
import Derived.Deep.RegionWith
import Derived.Deep.RegionHeld3
import Derived.BigQuiet
import Derived.Test.YtgebfkmfhpcdhaaDoorI10
import Derived.Test.YtgebfkmfhpcdhaaDoorI06
import Derived.Test.YtgebfkmfhpcdhaaDoorI05
import Derived.Test.YtgebfkmfhpcdhaaDoorI03
import Derived.Test.YtgebfkmfhpcdhaaDoorI26
import Derived.Test.YtgebfkmfhpcdhaaDoorERefMay
import Derived.Test.YtgebfkmfhpcdhaaDoorI19
import Derived.Test.YtgebfkmfhpcdhaaDoorI14
import Derived.Test.YtgebfkmfhpcdhaaDoorI04
import Derived.Test.YtgebfkmfhpcdhaaDoorI17
import Derived.Test.YtgebfkmfhpcdhaaDoorER9Fwd
namespace Go.Proofs.YtgebfkmfhpcdhaaDoor
open Go.RowKit
set_option linter.unusedVariables false

def LeakPost (w : World) (r : Bool × List Int × Int) (e : Ending) (w' : World) : Prop := ∃ va vc, e = .returned (.tuple #[.bool r.1, .slice va r.2.1.length vc, .int .i64 r.2.2]) ∧ At w' va r.2.1 ∧ r.2.1.length ≤ maxLen ∧ Below w.heap.size w w'
/-! What is best, where the lesser lists stand ahead. -/
end Go.Proofs.YtgebfkmfhpcdhaaDoor
namespace Go.Proofs.YtgebfkmfhpcdhaaDoor
open Go.RowKit
set_option linter.unusedVariables false
set_option linter.unusedSectionVars false

/-! What is seen from some states on is what is seen from one of them on. -/
/-- Unseen events lead nowhere else. -/
def ClS (p : Plant) (S : List Int) : Prop := ∀ a ∈ p.m.arrows, hasB p.seen a.e = false → a.f ∈ S → a.t ∈ S
theorem cl_wide {p : Plant} (hm : mayB p.m = true) (ss : List Int) : ClS p (wideL p.m.arrows p.seen ss) := fun a ha hu hf => wide_cl (may_to hm) ha hu hf
/-! Where a list can go on from. -/
theorem mem_rng9 (n : Nat) (x : Int) : x ∈ rngI n ↔ 0 ≤ x ∧ x < (n : Int) := by
  unfold rngI
  rw [List.mem_map]
  constructor
  · rintro ⟨k, hk, rfl⟩
    have := List.mem_range.1 hk
    omega
  · rintro ⟨h0, h1⟩
    exact ⟨x.toNat, List.mem_range.2 (by omega), by omega⟩
theorem inc_rng9 (n : Nat) : Inc (rngI n) := by
  unfold rngI Inc
  rw [List.pairwise_map]
  exact List.Pairwise.imp (fun h => by omega) List.pairwise_lt_range
theorem inc_flt {l : List Int} (h : Inc l) (f : Int → Bool) : Inc (l.filter f) := List.Pairwise.filter f h
/-! What is best. -/
/-! Where it may have begun (J1), and what tells it (J2). -/
end Go.Proofs.YtgebfkmfhpcdhaaDoor
namespace Go.Proofs.YtgebfkmfhpcdhaaDoor
open Go.RowKit
set_option linter.unusedVariables false

/-- What Within tells (G2). -/
def withOut (a b : Mach) : Bool × List Int × Int :=
  if mayB a = true ∧ mayB b = true then
    if a.ev = b.ev then
      if a.st ≤ 6 ∧ b.st ≤ 6 then ((outW a b).isNone, (outW a b).getD [], 0) else (false, [], 1)
    else (false, [], 3)
  else (false, [], 2)
/-- What Within leaves. -/
def WithPost (w : World) (a b : Mach) (e : Ending) (w' : World) : Prop := ∃ va vc, e = .returned (.tuple #[.bool (withOut a b).1, .slice va (withOut a b).2.1.length vc, .int .i64 (withOut a b).2.2]) ∧ At w' va (withOut a b).2.1 ∧ (withOut a b).2.1.length ≤ maxLen ∧ Below w.heap.size w w'
theorem withPost_err {w w' : World} {a b : Mach} {c : Int} (h : withOut a b = (false, [], c)) (hb : Below w.heap.size w w') : WithPost w a b (.returned (.tuple #[.bool false, .slice none 0 0, .int .i64 c])) w' := by
  unfold WithPost; rw [h]; exact ⟨none, 0, rfl, .inl rfl, Nat.zero_le _, hb⟩
theorem withPost_ok {w w' : World} {a b : Mach} {o : Option (List Int)} {va : Option Addr} {vc : Nat} (h : withOut a b = (o.isNone, o.getD [], 0)) (hv : At w' va (o.getD [])) (hl : (o.getD []).length ≤ maxLen) (hb : Below w.heap.size w w') : WithPost w a b (.returned (.tuple #[.bool o.isNone, .slice va (o.getD []).length vc, .int .i64 0])) w' := by
  unfold WithPost; rw [h]
  exact ⟨va, vc, rfl, hv, hl, hb⟩

end Go.Proofs.YtgebfkmfhpcdhaaDoor
namespace Go.Proofs.YtgebfkmfhpcdhaaDoor
open Go.RowKit
set_option linter.unusedVariables false

theorem step_of1 {ars : List Arr} {ss : List Int} {e x : Int} (h : x ∈ stepL ars ss e) : ∃ y ∈ ss, x ∈ stepL ars [y] e := by
  obtain ⟨a, h1, h2, h3, h4⟩ := (mem_stepL _ _ _ _).1 h
  exact ⟨a.f, h3, (mem_stepL _ _ _ _).2 ⟨a, h1, h2, by simp, h4⟩⟩
theorem after_one {ars : List Arr} : ∀ (u : List Int) {ss : List Int} {x : Int}, x ∈ afterL ars ss u → ∃ y ∈ ss, x ∈ afterL ars [y] u
  | [], ss, x, h => ⟨x, h, by simp [afterL]⟩
  | e :: u, ss, x, h => by
    obtain ⟨y, hy, h1⟩ := after_one u (ss := stepL ars ss e) h
    obtain ⟨z, hz, h2⟩ := step_of1 hy
    exact ⟨z, hz, after_mono u (ss := [y]) (ss' := stepL ars [z] e) (fun q hq => by rw [List.mem_singleton.1 hq]; exact h2) x h1⟩
theorem seen_un {ars : List Arr} {seen u : List Int} (h : unW ars seen u) : seenL seen u = [] := by
  unfold seenL
  rw [List.filter_eq_nil_iff]
  intro e he
  rw [(h e he).1]; simp
theorem seen_app (seen a b : List Int) : seenL seen (a ++ b) = seenL seen a ++ seenL seen b := by unfold seenL; rw [List.filter_append]
section
variable {p : Plant}
theorem fold_word (hm : mayB p.m = true) : ∀ (u : List Int) {S : List Int} {x : Int}, (∀ e ∈ u, e ∈ p.seen) → x ∈ u.foldl (seeL p) S → ∃ t, seenL p.seen t = u ∧ x ∈ afterL p.m.arrows S t
  | [], S, x, _, h => ⟨[], rfl, h⟩
  | e :: u, S, x, hu, h => by
    obtain ⟨t, h1, h2⟩ := fold_word hm u (S := seeL p S e) (fun z hz => hu z (by simp [hz])) h
    obtain ⟨y, hy, h3⟩ := after_one t h2
    obtain ⟨c, hc, h4⟩ := wide_word (may_to hm) hy
    refine ⟨e :: (c ++ t), ?_, ?_⟩
    · have he : hasB p.seen e = true := (hasB_iff _ _).2 (hu e (by simp))
      rw [show e :: (c ++ t) = [e] ++ (c ++ t) from rfl, seen_app, seen_app, seen_un hc, h1]
      unfold seenL
      rw [List.filter_cons_of_pos (by rw [he]; rfl)]; rfl
    · show x ∈ afterL p.m.arrows (stepL p.m.arrows S e) (c ++ t)
      rw [afterL_app]
      exact after_mono t (ss := [y]) (fun q hq => by rw [List.mem_singleton.1 hq]; exact h4) x h3
theorem word_fold (hm : mayB p.m = true) : ∀ (t : List Int) {S S' : List Int} {x : Int}, (∀ y ∈ S, y ∈ S') → ClS p S' → x ∈ afterL p.m.arrows S t → x ∈ (seenL p.seen t).foldl (seeL p) S'
  | [], S, S', x, h, _, hx => h x hx
  | e :: t, S, S', x, h, hc, hx => by
    have hx : x ∈ afterL p.m.arrows (stepL p.m.arrows S e) t := hx
    cases he : hasB p.seen e with
    | true =>
      have e1 : seenL p.seen (e :: t) = e :: seenL p.seen t := by unfold seenL; rw [List.filter_cons_of_pos (by rw [he]; rfl)]
      rw [e1, List.foldl_cons]
      exact word_fold hm t (S' := seeL p S' e) (fun y hy => wide_sub (may_to hm) y (step_mono h y hy)) (cl_wide hm _) hx
    | false =>
      have e1 : seenL p.seen (e :: t) = seenL p.seen t := by unfold seenL; rw [List.filter_cons_of_neg (by rw [he]; simp)]
      rw [e1]
      refine word_fold hm t (fun y hy => ?_) hc hx
      obtain ⟨a, h1, h2, h3, h4⟩ := (mem_stepL _ _ _ _).1 hy
      rw [← h4]
      exact hc a h1 (by rw [h2]; exact he) (h _ h3)
/-- What is known is where a word leads of which just that is seen. -/
theorem mem_from (hm : mayB p.m = true) {ss u : List Int} (hu : ∀ e ∈ u, e ∈ p.seen) (x : Int) : x ∈ fromL p ss u ↔ ∃ t, seenL p.seen t = u ∧ x ∈ afterL p.m.arrows ss t := by
  constructor
  · intro h
    obtain ⟨t, h1, h2⟩ := fold_word hm u hu h
    obtain ⟨y, hy, h3⟩ := after_one t h2
    obtain ⟨c, hc, h4⟩ := wide_word (may_to hm) hy
    refine ⟨c ++ t, by rw [seen_app, seen_un hc, h1]; rfl, ?_⟩
    rw [afterL_app]
    exact after_mono t (ss := [y]) (fun q hq => by rw [List.mem_singleton.1 hq]; exact h4) x h3
  · rintro ⟨t, rfl, h⟩
    exact word_fold hm t (fun y hy => wide_sub (may_to hm) y hy) (cl_wide hm _) h
variable {q : Plant}
end
end Go.Proofs.YtgebfkmfhpcdhaaDoor
namespace Go.Proofs.YtgebfkmfhpcdhaaDoor
open Go.RowKit
set_option linter.unusedVariables false
set_option linter.unusedSectionVars false

/-- A state of the machine, and a row of states of the secret. -/
abbrev Pla := Int × List Int
def plTo (s : Mach) (y : Pla) (a : Arr) : Pla := (a.t, stepL s.arrows y.2 a.e)
/-- Where an event that is not seen leads to. -/
def unQ (m s : Mach) (seen : List Int) (y : Pla) : List Pla := (m.arrows.filter fun a => decide (a.f = y.1) && !hasB seen a.e).map (plTo s y)
/-- Where an event leads to. -/
def evQ (m s : Mach) (e : Int) (y : Pla) : List Pla := (m.arrows.filter fun a => decide (a.f = y.1) && decide (a.e = e)).map (plTo s y)
def wideQ (m s : Mach) (seen : List Int) (l : List Pla) : List Pla := cGo (unQ m s seen) (0, []) 1000 0 l
def stepQ (m s : Mach) (l : List Pla) (e : Int) : List Pla := l.foldl (fun o y => cRow o (evQ m s e y)) []
def seeQ (m s : Mach) (seen : List Int) (l : List Pla) (e : Int) : List Pla := wideQ m s seen (stepQ m s l e)
def firstQ (m s : Mach) (seen : List Int) : List Pla := wideQ m s seen (m.starts.map fun x => (x, s.starts))
def afterQ (m s : Mach) (seen word : List Int) : List Pla := word.foldl (seeQ m s seen) (firstQ m s seen)
/-- All places. -/
def allQ (m s : Mach) : List Pla := (rngI m.st.toNat).flatMap fun x => (subs 4).map fun S => (x, S)
theorem allQ_len {m : Mach} (z : m.st ≤ 6) (s : Mach) : (allQ m s).length ≤ 96 := by
  unfold allQ
  rw [List.length_flatMap]
  have : ((rngI m.st.toNat).map fun x => ((subs 4).map fun S => (x, S)).length) = (rngI m.st.toNat).map fun _ => 16 := by
    refine List.map_congr_left fun x _ => ?_
    rw [List.length_map, subs_len]
  rw [this, List.map_const', List.sum_replicate_nat, rngI_len]
  have : m.st.toNat ≤ 6 := by omega
  exact Nat.mul_le_mul this (Nat.le_refl 16)
theorem mem_allQ {m s : Mach} (hs : s.st ≤ 4) {x : Pla} (h : 0 ≤ x.1 ∧ x.1 < m.st) (hr : Inc x.2 ∧ ∀ y ∈ x.2, 0 ≤ y ∧ y < s.st) : x ∈ allQ m s := by
  unfold allQ
  rw [List.mem_flatMap]
  exact ⟨x.1, (mem_rng9 _ _).2 ⟨h.1, by omega⟩, List.mem_map.2 ⟨x.2, mem_subs 4 _ hr.1 (fun y hy => by have := hr.2 y hy; omega), rfl⟩⟩
theorem mem_unQ {m s : Mach} {seen : List Int} {y x : Pla} : x ∈ unQ m s seen y ↔ ∃ a ∈ m.arrows, a.f = y.1 ∧ hasB seen a.e = false ∧ x = plTo s y a := by
  unfold unQ
  rw [List.mem_map]
  constructor
  · rintro ⟨a, ha, rfl⟩
    obtain ⟨h1, h2⟩ := List.mem_filter.1 ha
    rw [Bool.and_eq_true, decide_eq_true_eq, Bool.not_eq_true'] at h2
    exact ⟨a, h1, h2.1, h2.2, rfl⟩
  · rintro ⟨a, h1, h2, h3, rfl⟩
    exact ⟨a, List.mem_filter.2 ⟨h1, by rw [Bool.and_eq_true, decide_eq_true_eq, Bool.not_eq_true']; exact ⟨h2, h3⟩⟩, rfl⟩
theorem mem_evQ {m s : Mach} {e : Int} {y x : Pla} : x ∈ evQ m s e y ↔ ∃ a ∈ m.arrows, a.f = y.1 ∧ a.e = e ∧ x = plTo s y a := by
  unfold evQ
  rw [List.mem_map]
  constructor
  · rintro ⟨a, ha, rfl⟩
    obtain ⟨h1, h2⟩ := List.mem_filter.1 ha
    rw [Bool.and_eq_true, decide_eq_true_eq, decide_eq_true_eq] at h2
    exact ⟨a, h1, h2.1, h2.2, rfl⟩
  · rintro ⟨a, h1, h2, h3, rfl⟩
    exact ⟨a, List.mem_filter.2 ⟨h1, by rw [Bool.and_eq_true, decide_eq_true_eq, decide_eq_true_eq]; exact ⟨h2, h3⟩⟩, rfl⟩
theorem stepQ_inv (m s : Mach) (e : Int) : ∀ (l o : List Pla), o.Nodup → (l.foldl (fun o y => cRow o (evQ m s e y)) o).Nodup ∧ ∀ x, x ∈ l.foldl (fun o y => cRow o (evQ m s e y)) o ↔ x ∈ o ∨ ∃ y ∈ l, x ∈ evQ m s e y
  | [], o, h => ⟨h, fun x => by simp⟩
  | y :: r, o, h => by
    have ih := stepQ_inv m s e r (cRow o (evQ m s e y)) (nodup_cRow _ h)
    refine ⟨ih.1, fun x => ?_⟩
    rw [List.foldl_cons, ih.2 x, mem_cRow]
    constructor
    · rintro ((h | h) | ⟨z, hz, h⟩)
      · exact .inl h
      · exact .inr ⟨y, by simp, h⟩
      · exact .inr ⟨z, by simp [hz], h⟩
    · rintro (h | ⟨z, hz, h⟩)
      · exact .inl (.inl h)
      · rcases List.mem_cons.1 hz with rfl | hz
        · exact .inl (.inr h)
        · exact .inr ⟨z, hz, h⟩
theorem mem_stepQ (m s : Mach) (l : List Pla) (e : Int) (x : Pla) : x ∈ stepQ m s l e ↔ ∃ y ∈ l, x ∈ evQ m s e y := by
  have := (stepQ_inv m s e l [] List.nodup_nil).2 x
  unfold stepQ
  rw [this]; simp
section
variable {m s : Mach}
theorem plTo_in (hm : mayB m = true) (hs : mayB s = true) (zm : m.st ≤ 6) (zs : s.st ≤ 4) {y : Pla} {a : Arr} (ha : a ∈ m.arrows) : plTo s y a ∈ allQ m s := by
  have h1 := may_arrs hm a ha
  exact mem_allQ zs ⟨h1.2.2.1, h1.2.2.2.1⟩ (stepIn hs y.2 a.e)
theorem start_in (hm : mayB m = true) (hs : mayB s = true) (zm : m.st ≤ 6) (zs : s.st ≤ 4) {x : Int} (hx : x ∈ m.starts) : ((x, s.starts) : Pla) ∈ allQ m s := mem_allQ zs ((may_starts hm).2 x hx) (may_starts hs)
/-- What is come to by events that are not seen. -/
theorem wideQ_all (hm : mayB m = true) (hs : mayB s = true) (zm : m.st ≤ 6) (zs : s.st ≤ 4) {seen : List Int} {l : List Pla} (hn : l.Nodup) (hu : ∀ x ∈ l, x ∈ allQ m s) : (wideQ m s seen l).Nodup ∧ (∀ x ∈ wideQ m s seen l, x ∈ allQ m s) ∧ ∀ x, x ∈ wideQ m s seen l ↔ ∃ t y, (∀ e ∈ t, hasB seen e = false) ∧ y ∈ l ∧ x.1 ∈ afterL m.arrows [y.1] t ∧ x.2 = afterL s.arrows y.2 t := by
  have hU : ∀ y ∈ allQ m s, ∀ x ∈ unQ m s seen y, x ∈ allQ m s := fun y _ x hx => by
    obtain ⟨a, h1, -, -, rfl⟩ := mem_unQ.1 hx
    exact plTo_in hm hs zm zs h1
  have hf : (allQ m s).length < 1000 := by have := allQ_len zm s; omega
  obtain ⟨k1, k2, k3, k4⟩ := cGo_start (unQ m s seen) (d := ((0, []) : Pla)) hU hn hu hf (fun x => ∃ t y, (∀ e ∈ t, hasB seen e = false) ∧ y ∈ l ∧ x.1 ∈ afterL m.arrows [y.1] t ∧ x.2 = afterL s.arrows y.2 t) (fun y hy x hx => by
    obtain ⟨t, z, h1, h2, h3, h4⟩ := hy
    obtain ⟨a, g1, g2, g3, rfl⟩ := mem_unQ.1 hx
    refine ⟨t ++ [a.e], z, fun e he => ?_, h2, ?_, ?_⟩
    · rcases List.mem_append.1 he with q | q
      · exact h1 e q
      · rw [List.mem_singleton.1 q]; exact g3
    · rw [afterL_app]
      exact (mem_stepL _ _ _ _).2 ⟨a, g1, rfl, by rw [g2]; exact h3, rfl⟩
    · rw [afterL_app, ← h4]; rfl) (fun x hx => ⟨[], x, by simp, hx, by simp [afterL], rfl⟩)
  refine ⟨k1, fun x hx => (k2 x hx).1, fun x => ⟨fun hx => (k2 x hx).2, ?_⟩⟩
  rintro ⟨t, y, h1, h2, h3, h4⟩
  have key : ∀ (t : List Int) (y : Pla) (x : Pla), (∀ e ∈ t, hasB seen e = false) → y ∈ wideQ m s seen l → x.1 ∈ afterL m.arrows [y.1] t → x.2 = afterL s.arrows y.2 t → x ∈ wideQ m s seen l := by
    intro t
    induction t with
    | nil =>
      intro y x _ hy h3 h4
      have e1 : x.1 = y.1 := by simpa [afterL] using h3
      have e2 : x.2 = y.2 := h4
      have : x = y := Prod.ext e1 e2
      rw [this]; exact hy
    | cons e t ih =>
      intro y x ht hy h3 h4
      obtain ⟨z, hz, h5⟩ := after_one t (ss := stepL m.arrows [y.1] e) h3
      obtain ⟨a, g1, g2, g3, g4⟩ := (mem_stepL _ _ _ _).1 hz
      have g3 : a.f = y.1 := by simpa using g3
      have hin : plTo s y a ∈ wideQ m s seen l := k3 y hy _ (mem_unQ.2 ⟨a, g1, g3, by rw [g2]; exact ht e (by simp), rfl⟩)
      refine ih (plTo s y a) x (fun q hq => ht q (by simp [hq])) hin ?_ ?_
      · show x.1 ∈ afterL m.arrows [a.t] t
        rw [g4]; exact h5
      · show x.2 = afterL s.arrows (stepL s.arrows y.2 a.e) t
        rw [g2]; exact h4
  exact key t y x h1 (k4 y h2) h3 h4
theorem stepQ_in (hm : mayB m = true) (hs : mayB s = true) (zm : m.st ≤ 6) (zs : s.st ≤ 4) {l : List Pla} (e : Int) : (stepQ m s l e).Nodup ∧ ∀ x ∈ stepQ m s l e, x ∈ allQ m s := by
  refine ⟨(stepQ_inv m s e l [] List.nodup_nil).1, fun x hx => ?_⟩
  obtain ⟨y, hy, h⟩ := (mem_stepQ m s l e x).1 hx
  obtain ⟨a, h1, -, -, rfl⟩ := mem_evQ.1 h
  exact plTo_in hm hs zm zs h1
theorem first_in (hm : mayB m = true) (hs : mayB s = true) (zm : m.st ≤ 6) (zs : s.st ≤ 4) {seen : List Int} : (firstQ m s seen).Nodup ∧ (∀ x ∈ firstQ m s seen, x ∈ allQ m s) ∧ ∀ x, x ∈ firstQ m s seen ↔ ∃ t, (∀ e ∈ t, hasB seen e = false) ∧ x.1 ∈ afterL m.arrows m.starts t ∧ x.2 = afterL s.arrows s.starts t := by
  have hn : (m.starts.map fun x => ((x, s.starts) : Pla)).Nodup := by
    have := inc_nodup (may_starts hm).1
    rw [List.nodup_iff_pairwise_ne, List.pairwise_map]
    exact List.Pairwise.imp (fun hab e => hab (by injection e)) (List.nodup_iff_pairwise_ne.1 this)
  obtain ⟨k1, k2, k3⟩ := wideQ_all hm hs zm zs (seen := seen) hn (fun x hx => by
    obtain ⟨y, hy, rfl⟩ := List.mem_map.1 hx
    exact start_in hm hs zm zs hy)
  refine ⟨k1, k2, fun x => ?_⟩
  rw [show (x ∈ firstQ m s seen ↔ _) from k3 x]
  constructor
  · rintro ⟨t, y, h1, h2, h3, h4⟩
    obtain ⟨z, hz, rfl⟩ := List.mem_map.1 h2
    exact ⟨t, h1, after_mono t (ss := [z]) (fun q hq => by rw [List.mem_singleton.1 hq]; exact hz) x.1 h3, h4⟩
  · rintro ⟨t, h1, h3, h4⟩
    obtain ⟨z, hz, h5⟩ := after_one t h3
    exact ⟨t, (z, s.starts), h1, List.mem_map.2 ⟨z, hz, rfl⟩, h5, h4⟩
theorem seeQ_in (hm : mayB m = true) (hs : mayB s = true) (zm : m.st ≤ 6) (zs : s.st ≤ 4) {seen : List Int} {l : List Pla} {e : Int} : (seeQ m s seen l e).Nodup ∧ ∀ x ∈ seeQ m s seen l e, x ∈ allQ m s := by
  obtain ⟨h1, h2⟩ := stepQ_in hm hs zm zs (l := l) e
  obtain ⟨k1, k2, -⟩ := wideQ_all hm hs zm zs (seen := seen) h1 h2
  exact ⟨k1, k2⟩
theorem mem_seeQ (hm : mayB m = true) (hs : mayB s = true) (zm : m.st ≤ 6) (zs : s.st ≤ 4) {seen : List Int} {l : List Pla} {e : Int} (x : Pla) : x ∈ seeQ m s seen l e ↔ ∃ t y, (∀ q ∈ t, hasB seen q = false) ∧ y ∈ l ∧ x.1 ∈ afterL m.arrows [y.1] (e :: t) ∧ x.2 = afterL s.arrows y.2 (e :: t) := by
  obtain ⟨h1, h2⟩ := stepQ_in hm hs zm zs (l := l) e
  rw [show (x ∈ seeQ m s seen l e ↔ _) from (wideQ_all hm hs zm zs (seen := seen) h1 h2).2.2 x]
  constructor
  · rintro ⟨t, z, k1, k2, k3, k4⟩
    obtain ⟨y, hy, k5⟩ := (mem_stepQ m s l e z).1 k2
    obtain ⟨a, g1, g2, g3, rfl⟩ := mem_evQ.1 k5
    refine ⟨t, y, k1, hy, ?_, ?_⟩
    · refine after_mono t (ss := [a.t]) (ss' := stepL m.arrows [y.1] e) (fun q hq => ?_) x.1 k3
      rw [List.mem_singleton.1 hq]
      exact (mem_stepL _ _ _ _).2 ⟨a, g1, g3, by rw [g2]; simp, rfl⟩
    · rw [k4]
      show afterL s.arrows (stepL s.arrows y.2 a.e) t = afterL s.arrows (stepL s.arrows y.2 e) t
      rw [g3]
  · rintro ⟨t, y, k1, hy, k3, k4⟩
    obtain ⟨z, hz, k5⟩ := after_one t (ss := stepL m.arrows [y.1] e) k3
    obtain ⟨a, g1, g2, g3, g4⟩ := (mem_stepL _ _ _ _).1 hz
    have g3 : a.f = y.1 := by simpa using g3
    refine ⟨t, plTo s y a, k1, (mem_stepQ m s l e _).2 ⟨y, hy, mem_evQ.2 ⟨a, g1, g3, g2, rfl⟩⟩, ?_, ?_⟩
    · show x.1 ∈ afterL m.arrows [a.t] t
      rw [g4]; exact k5
    · show x.2 = afterL s.arrows (stepL s.arrows y.2 a.e) t
      rw [g2]; exact k4
end
/-- A word of which a list is seen leads there. -/
def SemQ (m s : Mach) (seen u : List Int) (x : Pla) : Prop := ∃ t, seenL seen t = u ∧ x.1 ∈ afterL m.arrows m.starts t ∧ x.2 = afterL s.arrows s.starts t
theorem seen_none {seen t : List Int} (h : ∀ q ∈ t, hasB seen q = false) : seenL seen t = [] := by
  unfold seenL
  rw [List.filter_eq_nil_iff]
  intro q hq
  rw [h q hq]; simp
theorem none_seen {seen t : List Int} (h : seenL seen t = []) : ∀ q ∈ t, hasB seen q = false := by
  unfold seenL at h
  rw [List.filter_eq_nil_iff] at h
  intro q hq
  have := h q hq
  cases hh : hasB seen q with
  | false => rfl
  | true => rw [hh] at this; exact absurd rfl this
section
variable {m s : Mach}
theorem sem_see (hm : mayB m = true) (hs : mayB s = true) (zm : m.st ≤ 6) (zs : s.st ≤ 4) {seen u : List Int} {l : List Pla} (hl : ∀ x, x ∈ l ↔ SemQ m s seen u x) {e : Int} (he : e ∈ seen) (x : Pla) : x ∈ seeQ m s seen l e ↔ SemQ m s seen (u ++ [e]) x := by
  have hse : seenL seen [e] = [e] := by
    unfold seenL
    rw [List.filter_cons_of_pos (by rw [(hasB_iff _ _).2 he]; rfl)]; rfl
  rw [mem_seeQ hm hs zm zs]
  constructor
  · rintro ⟨t, y, k1, k2, k3, k4⟩
    obtain ⟨t0, j1, j2, j3⟩ := (hl y).1 k2
    refine ⟨t0 ++ (e :: t), ?_, ?_, ?_⟩
    · rw [show t0 ++ (e :: t) = t0 ++ ([e] ++ t) from rfl, seen_app, seen_app, j1, hse, seen_none k1, List.append_nil]
    · rw [afterL_app]
      exact after_mono (e :: t) (ss := [y.1]) (fun q hq => by rw [List.mem_singleton.1 hq]; exact j2) x.1 k3
    · rw [afterL_app, k4, j3]
  · rintro ⟨t, j1, j2, j3⟩
    unfold seenL at j1
    obtain ⟨a, b, rfl, ha, hb⟩ := List.filter_eq_append_iff.1 j1
    obtain ⟨b1, b2, rfl, hb1, hb2, hb3⟩ := List.filter_eq_cons_iff.1 hb
    have n1 : ∀ q ∈ b1, hasB seen q = false := fun q hq => by
      have := hb1 q hq
      cases hh : hasB seen q with
      | false => rfl
      | true => rw [hh] at this; exact absurd rfl this
    have e1 : a ++ (b1 ++ e :: b2) = (a ++ b1) ++ (e :: b2) := by rw [List.append_assoc]
    rw [e1, afterL_app] at j2 j3
    obtain ⟨y1, hy1, h5⟩ := after_one (e :: b2) j2
    refine ⟨b2, (y1, afterL s.arrows s.starts (a ++ b1)), none_seen hb3, (hl _).2 ⟨a ++ b1, ?_, hy1, rfl⟩, h5, j3⟩
    rw [seen_app, seen_none n1, List.append_nil]; exact ha
theorem sem_fold (hm : mayB m = true) (hs : mayB s = true) (zm : m.st ≤ 6) (zs : s.st ≤ 4) {seen : List Int} : ∀ (word u : List Int) (l : List Pla), (∀ e ∈ word, e ∈ seen) → (∀ x, x ∈ l ↔ SemQ m s seen u x) → ∀ x, x ∈ word.foldl (seeQ m s seen) l ↔ SemQ m s seen (u ++ word) x
  | [], u, l, _, hl, x => by rw [List.append_nil]; exact hl x
  | e :: r, u, l, hw, hl, x => by
    have := sem_fold hm hs zm zs r (u ++ [e]) (seeQ m s seen l e) (fun q hq => hw q (by simp [hq])) (sem_see hm hs zm zs hl (hw e (by simp))) x
    rw [List.append_assoc] at this
    exact this
/-- L1: the whereabouts of a list. -/
theorem mem_afterQ (hm : mayB m = true) (hs : mayB s = true) (zm : m.st ≤ 6) (zs : s.st ≤ 4) {seen word : List Int} (hw : ∀ e ∈ word, e ∈ seen) (x : Pla) : x ∈ afterQ m s seen word ↔ SemQ m s seen word x := by
  have := sem_fold hm hs zm zs (seen := seen) word [] (firstQ m s seen) hw (fun y => by
    rw [(first_in hm hs zm zs).2.2 y]
    exact ⟨fun ⟨t, h1, h2, h3⟩ => ⟨t, seen_none h1, h2, h3⟩, fun ⟨t, h1, h2, h3⟩ => ⟨t, none_seen h1, h2, h3⟩⟩) x
  rw [List.nil_append] at this
  exact this
end

end Go.Proofs.YtgebfkmfhpcdhaaDoor
namespace Go.Proofs.YtgebfkmfhpcdhaaDoor
open Go.RowKit
set_option linter.unusedVariables false

theorem Tryd.infoAtQ : (Tryd.prog.info? 140).map (fun i => (i.zero, i.size, i.bytes)) = some (some (.agg #[.int .i64 0, .slice none 0 0]), 2, 32) := by kernel_rfl

theorem cells_duoQ (W W' : World) (hW : W'.heap = W.heap) (t : TypeId) (x y : Value) : ∀ j u, ([x, y] : List Value)[j]? = some u → (W'.alloc (.cells #[x, y] t)).cell? ((⟨W.heap.size, 0, none⟩ : Addr).add j) = some u := by
  intro j u hu
  rw [addr0_add, Nat.zero_add, ← hW]
  exact (Blk.new W' t #[x, y]).cell j (by rw [← Array.getElem?_toList]; exact hu)
/-- Whereabouts in memory, in a block of theirs. -/
def AtQ (n : Nat) (W : World) (a : Option Addr) (l : List Pla) : Prop := l = [] ∨ ∃ g o, a = some ⟨g, o, none⟩ ∧ (∃ cs, W.heap[g]? = some (.cells cs 140 (0, 0))) ∧ ∀ (k : Nat) (x : Pla), l[k]? = some x → W.cell? ⟨g, o + k * 2, none⟩ = some (.int .i64 x.1) ∧ ∃ z, W.cell? ⟨g, o + k * 2 + 1, none⟩ = some z ∧ InnW n W z x.2
theorem AtQ.kept {n : Nat} {W W' : World} {a : Option Addr} {l : List Pla} (h : AtQ n W a l) (hz : W.heap.size ≤ W'.heap.size) (h1 : ∀ j, j < n → W'.heap[j]? = W.heap[j]?) (h2 : ∀ (g : Nat) (cs : Array Value), W.heap[g]? = some (.cells cs 3 (0, 0)) → W'.heap[g]? = W.heap[g]?) (h3 : ∀ (g : Nat) (cs : Array Value), W.heap[g]? = some (.cells cs 140 (0, 0)) → W'.heap[g]? = W.heap[g]?) : AtQ n W' a l := by
  rcases h with h | ⟨g, o, e, ⟨cs, hg⟩, hc⟩
  · exact .inl h
  · have hb := h3 g cs hg
    refine .inr ⟨g, o, e, ⟨cs, hb.trans hg⟩, fun k x hx => ?_⟩
    obtain ⟨c1, z, c2, hi⟩ := hc k x hx
    refine ⟨?_, z, ?_, hi.kept hz h1 h2⟩
    · rw [World.cell?_of_block (w := W) hb]; exact c1
    · rw [World.cell?_of_block (w := W) hb]; exact c2
theorem AtQ.below {n : Nat} {W W' : World} {a : Option Addr} {l : List Pla} (h : AtQ n W a l) (hb : Below W.heap.size W W') (hn : n ≤ W.heap.size) : AtQ n W' a l :=
  h.kept hb.size (fun j hj => hb.block j (by omega)) (fun g cs hg => hb.block g (Array.getElem?_eq_some_iff.1 hg).1) (fun g cs hg => hb.block g (Array.getElem?_eq_some_iff.1 hg).1)
/-- What the cells hold. -/
theorem AtQ.get {n : Nat} {W : World} {a : Option Addr} {l : List Pla} (h : AtQ n W a l) {k : Nat} {x : Pla} (hx : l[k]? = some x) : ∃ g o sa sc, a = some ⟨g, o, none⟩ ∧ g < W.heap.size ∧ W.cell? ⟨g, o + k * 2, none⟩ = some (.int .i64 x.1) ∧ W.cell? ⟨g, o + k * 2 + 1, none⟩ = some (.slice sa x.2.length sc) ∧ At W sa x.2 ∧ x.2.length ≤ maxLen ∧ InnW n W (.slice sa x.2.length sc) x.2 := by
  rcases h with h | ⟨g, o, e, ⟨cs, hg⟩, hc⟩
  · rw [h] at hx; simp at hx
  · obtain ⟨c1, z, c2, hi⟩ := hc k x hx
    obtain ⟨sa, sc, rfl, i1, i2, -⟩ := hi.at
    exact ⟨g, o, sa, sc, e, (Array.getElem?_eq_some_iff.1 hg).1, c1, c2, i1, i2, hi⟩
/-- Whereabouts of the call's own, in a row from block B on. -/
def OwnQ (n : Nat) (W : World) (B : Nat) (v : Value) (l : List Pla) : Prop := ∃ vs : List Value, W.ownsRow B 140 2 v l.length vs ∧ ∀ (k : Nat) (x : Pla), l[k]? = some x → vs[k * 2]? = some (.int .i64 x.1) ∧ ∃ z, vs[k * 2 + 1]? = some z ∧ InnW n W z x.2
theorem ownQ_nil (n : Nat) (W : World) (B : Nat) : OwnQ n W B (.slice none 0 0) [] := ⟨[], ⟨rfl, .inl ⟨rfl, rfl⟩⟩, fun k x h => by simp at h⟩
theorem OwnQ.at {n : Nat} {W : World} {B : Nat} {v : Value} {l : List Pla} (h : OwnQ n W B v l) : ∃ a cap, v = .slice a l.length cap ∧ AtQ n W a l ∧ l.length ≤ maxLen := by
  obtain ⟨vs, ho, hi⟩ := h
  rcases ho.2 with ⟨rfl, hn⟩ | ⟨g, cap, cur, rfl, hg, hh, hnc, hcm, hcs, ht⟩
  · have : l = [] := List.eq_nil_of_length_eq_zero hn
    subst this
    exact ⟨none, 0, rfl, .inl rfl, Nat.zero_le _⟩
  · refine ⟨some ⟨g, 0, none⟩, cap, rfl, .inr ⟨g, 0, rfl, ⟨cur, hh⟩, fun k x hx => ?_⟩, Nat.le_trans hnc hcm⟩
    obtain ⟨c1, z, c2, hz⟩ := hi k x hx
    have d1 := ho.cells (g := g) rfl _ _ c1
    have d2 := ho.cells (g := g) rfl _ _ c2
    rw [addr0_add] at d1 d2
    exact ⟨d1, z, d2, hz⟩
theorem OwnQ.form {n : Nat} {W : World} {B : Nat} {v : Value} {l : List Pla} (h : OwnQ n W B v l) : ∃ a cap, v = .slice a l.length cap := by
  obtain ⟨a, cap, e, -, -⟩ := h.at
  exact ⟨a, cap, e⟩
theorem OwnQ.kept {n : Nat} {W W' : World} {B : Nat} {v : Value} {l : List Pla} (h : OwnQ n W B v l) (hz : W.heap.size ≤ W'.heap.size) (h1 : ∀ j, j < n → W'.heap[j]? = W.heap[j]?) (h2 : ∀ (g : Nat) (cs : Array Value), W.heap[g]? = some (.cells cs 3 (0, 0)) → W'.heap[g]? = W.heap[g]?) (h3 : ∀ (g : Nat) (cs : Array Value), W.heap[g]? = some (.cells cs 140 (0, 0)) → W'.heap[g]? = W.heap[g]?) : OwnQ n W' B v l := by
  obtain ⟨vs, ho, hi⟩ := h
  refine ⟨vs, own_same ho (fun k hk => ?_), fun k x hx => ?_⟩
  · obtain ⟨cs, hc⟩ := own_type ho hk
    exact h3 k cs hc
  · obtain ⟨c1, z, c2, hz'⟩ := hi k x hx
    exact ⟨c1, z, c2, hz'.kept hz h1 h2⟩
theorem OwnQ.below {n : Nat} {W W' : World} {B : Nat} {v : Value} {l : List Pla} (h : OwnQ n W B v l) (hb : Below W.heap.size W W') (hn : n ≤ W.heap.size) : OwnQ n W' B v l :=
  h.kept hb.size (fun j hj => hb.block j (by omega)) (fun g cs hg => hb.block g (Array.getElem?_eq_some_iff.1 hg).1) (fun g cs hg => hb.block g (Array.getElem?_eq_some_iff.1 hg).1)
/-- One more. -/
theorem OwnQ.push {n : Nat} {W W2 : World} {B : Nat} {v v' z : Value} {l : List Pla} {x : Pla} {vs : List Value} (hn : n ≤ B) (hB : B ≤ W.heap.size) (ho : W.ownsRow B 140 2 v l.length vs) (hi : ∀ (k : Nat) (x : Pla), l[k]? = some x → vs[k * 2]? = some (.int .i64 x.1) ∧ ∃ z, vs[k * 2 + 1]? = some z ∧ InnW n W z x.2) (hz : InnW n W z x.2) (o1 : W2.ownsRow B 140 2 v' (l.length + 1) (vs ++ [.int .i64 x.1, z])) (g : W.grownBy W2 v.ownBlock) : OwnQ n W2 B v' (l ++ [x]) := by
  have low : ∀ j, j < n → W2.heap[j]? = W.heap[j]? := fun j hj => g.block j (by omega) (fun e => by have := (World.ownsRow.lt ho j e.symm).1; omega)
  have hty : ∀ (q : Nat) (cs : Array Value), W.heap[q]? = some (.cells cs 3 (0, 0)) → W2.heap[q]? = W.heap[q]? := fun q cs hq => g.block q (Array.getElem?_eq_some_iff.1 hq).1 (fun e => by
    obtain ⟨c2, h2⟩ := own_type ho e.symm
    rw [hq] at h2; cases h2)
  have hl : vs.length = l.length * 2 := ho.1
  refine ⟨vs ++ [.int .i64 x.1, z], by rw [List.length_append]; exact o1, fun k y hy => ?_⟩
  by_cases hk : k < l.length
  · rw [List.getElem?_append_left hk] at hy
    obtain ⟨c1, u, c2, hu⟩ := hi k y hy
    exact ⟨by rw [List.getElem?_append_left (by omega)]; exact c1, u, by rw [List.getElem?_append_left (by omega)]; exact c2, hu.kept g.size low hty⟩
  · have hk' := (List.getElem?_eq_some_iff.1 hy).1
    simp at hk'
    have e : k = l.length := by omega
    subst e
    rw [List.getElem?_append_right (Nat.le_refl _)] at hy
    have : x = y := by simpa using hy
    subst this
    refine ⟨?_, z, ?_, hz.kept g.size low hty⟩
    · rw [List.getElem?_append_right (by omega), hl, Nat.sub_self]; rfl
    · rw [List.getElem?_append_right (by omega), hl]
      have : l.length * 2 + 1 - l.length * 2 = 1 := by omega
      rw [this]; rfl
theorem one_vals {n : Nat} {W : World} {z : Value} {x : Pla} (hz : InnW n W z x.2) : ∀ u ∈ ([.int .i64 x.1, z] : List Value), u.oneCell' = true := fun u hu => by
  rcases List.mem_cons.1 hu with rfl | hu
  · rfl
  · rw [List.mem_singleton.1 hu]; exact hz.one

end Go.Proofs.YtgebfkmfhpcdhaaDoor
namespace Go.Proofs.YtgebfkmfhpcdhaaDoor
open Go.RowKit
set_option linter.unusedVariables false

/-- Is a place among some? -/
def memQ (l : List Pla) (x : Pla) : Bool := decide (x ∈ l)
/-- None of the first k is. -/
def noneQ (l : List Pla) (k : Nat) (x : Pla) : Prop := ∀ (j : Nat) (y : Pla), j < k → l[j]? = some y → y ≠ x
theorem memQ_hit {l : List Pla} {k : Nat} {y x : Pla} (h : Hid (l[k]? = some y)) (e : Hid (y = x)) : true = memQ l x := (decide_eq_true (by rw [← e.out]; exact List.mem_of_getElem? h.out)).symm
theorem noneQ_succ {l : List Pla} {k : Nat} {y x : Pla} (h0 : Hid (noneQ l k x)) (h : Hid (l[k]? = some y)) (h1 : Hid (y ≠ x)) : Hid (noneQ l (k + 1) x) := fun j q hj hq => by
  by_cases e : j < k
  · exact h0.out j q e hq
  · have : j = k := by omega
    subst this
    rw [h.out] at hq
    have := Option.some.inj hq
    subst this
    exact h1.out
theorem noneQ_end {l : List Pla} {k : Nat} {x : Pla} (h0 : Hid (noneQ l k x)) (h : ¬ k < l.length) : false = memQ l x := by
  symm
  refine decide_eq_false (fun hx => ?_)
  obtain ⟨i, hi⟩ := List.mem_iff_getElem?.1 hx
  exact h0.out i x (Nat.lt_of_lt_of_le (List.getElem?_eq_some_iff.1 hi).1 (by omega)) hi rfl

set_option maxRecDepth 100000 in
set_option maxHeartbeats 4000000 in
theorem rqhas_any (n : Nat) (a : Option Addr) (c : Nat) (l : List Pla) (xm : Int) (xs : List Int) (xa : Option Addr) (xc : Nat) (w : World) (hl : Hid (AtQ n w a l)) (hll : l.length ≤ 9223372036854775807) (hx : Hid (At w xa xs)) (hxl : Hid (xs.length ≤ maxLen)) :
    Calls Tryd.prog 134 #[.slice a l.length c, .agg #[.int .i64 xm, .slice xa xs.length xc]] w fun e w' => e = .returned (.bool (memQ l (xm, xs))) ∧ Below w.heap.size w w' := by
  have B0 : Hid (Below w.heap.size w (w.alloc (.cells #[.int .i64 xm, .slice xa xs.length xc] 140))) := (Below.refl _ _).alloc (Nat.le_refl _) _
  have K0 : Hid (Blk (w.alloc (.cells #[.int .i64 xm, .slice xa xs.length xc] 140)) w.heap.size 140 #[.int .i64 xm, .slice xa xs.length xc]) := Blk.new w _ _
  go_enter Tryd.func134, Tryd.ntmps134
  go_wp2_with fail
  revert B0 K0
  generalize w.alloc (.cells #[.int .i64 xm, .slice xa xs.length xc] 140) = V
  intro B0 K0
  go_loopw [5] (fun i wr => ∃ k q : Nat, i = .int .i64 k ∧ k ≤ l.length ∧ wr = V.drewN q ∧ Hid (noneQ l k (xm, xs))) (fun i _ => l.length - (intOf i).toNat)
  case atStart => exact ⟨0, 0, rfl, Nat.zero_le _, rfl, fun j p hj => by omega⟩
  case round =>
    obtain ⟨k, q, rfl, hk, rfl, he⟩ := hrel
    by_cases hlt : k < l.length
    · obtain ⟨⟨ym, ys⟩, HY⟩ : ∃ y, Hid (l[k]? = some y) := ⟨_, List.getElem?_eq_getElem hlt⟩
      obtain ⟨g, o, sa, sc, hga, hg, c1, c2, a1, l1, -⟩ := hl.out.get HY.out
      dsimp only at c1 c2 a1 l1
      subst hga
      have A1 := Hid.of (a1.below B0.out (Nat.le_refl _))
      have L1 := Hid.of l1
      have A2 := Hid.of (hx.out.below B0.out (Nat.le_refl _))
      obtain ⟨U, HU⟩ : ∃ U, Hid (U = V.drewN q) := ⟨_, rfl⟩
      have d1 : U.cell? ⟨g, o + k * 2, none⟩ = some (.int .i64 ym) := by rw [HU.out]; exact (B0.out.cell (p := ⟨g, o + k * 2, none⟩) hg).trans c1
      have d2 : U.cell? ⟨g, o + k * 2 + 1, none⟩ = some (.slice sa ys.length sc) := by rw [HU.out]; exact (B0.out.cell (p := ⟨g, o + k * 2 + 1, none⟩) hg).trans c2
      have b0 : U.cell? ⟨w.heap.size, 0, none⟩ = some (.int .i64 xm) := by rw [HU.out]; exact K0.out.cell 0 rfl
      have b1 : U.cell? ⟨w.heap.size, 1, none⟩ = some (.slice xa xs.length xc) := by rw [HU.out]; exact K0.out.cell 1 rfl
      have KEY : Hid (∀ r, Calls Tryd.prog 22 #[.slice sa ys.length sc, .slice xa xs.length xc] (U.drewN r) fun e w' => e = .returned (.bool (sameB ys xs)) ∧ ∃ m, w' = (U.drewN r).drewN m) := fun r => by
        rw [HU.out]
        exact same_any sa xa sc xc ys xs _ (At.drewN (At.drewN A1.out q) r) (At.drewN (At.drewN A2.out q) r) L1.out hxl.out
      rw [← HU.out]
      clear c1 c2 a1 l1 hg A1 A2 L1
      go_wp2_with fail
      by_cases e1 : ym = xm
      · have g1 : (ym == xm) = true := by simp [e1]
        have E1 := Hid.of e1
        clear e1
        cases e2 : sameB ys xs with
        | true =>
          have E2 : Hid (((ym, ys) : Pla) = (xm, xs)) := by
            have : ys = xs := by simpa [sameB] using e2
            show _ = _
            rw [E1.out, this]
          rw [e2] at KEY
          clear e2
          go_quiet (first | (go_at_call 22; exact Calls.quiet_of (KEY.out _)))
          have HUr : Hid (U.drewN nq = V.drewN (q + nq)) := by show _ = _; rw [HU.out, World.drewN_drewN]
          rw [HUr.out]
          clear d1 d2 b0 b1 KEY
          go_wp2_with fail
          go_ret
          exact ⟨ret_bool (memQ_hit HY E2), below_drewN B0.out _⟩
        | false =>
          have E2 : Hid (((ym, ys) : Pla) ≠ (xm, xs)) := fun e => by
            have : ys = xs := congrArg Prod.snd e
            rw [this] at e2
            simp [sameB] at e2
          rw [e2] at KEY
          clear e2
          go_quiet (first | (go_at_call 22; exact Calls.quiet_of (KEY.out _)))
          have HUr : Hid (U.drewN nq = V.drewN (q + nq)) := by show _ = _; rw [HU.out, World.drewN_drewN]
          rw [HUr.out]
          clear d1 d2 b0 b1 KEY
          go_wp2_with fail
          go_roundw
          case rel => exact ⟨k + 1, q + nq, by go_num, by omega, rfl, noneQ_succ he HY E2⟩
          case measure => simp [intOf]; omega
      · have g1 : (ym == xm) = false := by simp [e1]
        have E2 : Hid (((ym, ys) : Pla) ≠ (xm, xs)) := fun e => e1 (congrArg Prod.fst e)
        clear e1
        go_quiet (first | (go_at_call 22; exact Calls.quiet_of (KEY.out _)))
        have HUr : Hid (U.drewN nq = V.drewN (q + nq)) := by show _ = _; rw [HU.out, World.drewN_drewN]
        rw [HUr.out]
        clear d1 d2 b0 b1 KEY
        go_wp2_with fail
        go_roundw
        case rel => exact ⟨k + 1, q + nq, by go_num, by omega, rfl, noneQ_succ he HY E2⟩
        case measure => simp [intOf]; omega
    · have hkD : decide ((k : Int) < (l.length : Int)) = false := by simp; omega
      go_wp2_with fail
      go_ret
      exact ⟨ret_bool (noneQ_end he hlt), below_drewN B0.out _⟩

/-- As many, and all of the one in the other? -/
def sameQ (a b : List Pla) : Bool := decide (a.length = b.length) && a.all fun x => memQ b x
theorem sameQ_iff {a b : List Pla} (ha : a.Nodup) (hb : b.Nodup) : sameQ a b = true ↔ ∀ x, x ∈ a ↔ x ∈ b := by
  rw [← same_sets ha hb]
  unfold sameQ memQ
  rw [Bool.and_eq_true, decide_eq_true_eq, List.all_eq_true]
  simp only [decide_eq_true_eq]

set_option maxRecDepth 100000 in
set_option maxHeartbeats 4000000 in
theorem rqsame_any (n : Nat) (a b : Option Addr) (ca cb : Nat) (l l' : List Pla) (w : World) (h : Hid (AtQ n w a l)) (h' : Hid (AtQ n w b l')) (hl : l.length ≤ 9223372036854775807) (hl' : l'.length ≤ 9223372036854775807) (hn : n ≤ w.heap.size) :
    Calls Tryd.prog 97 #[.slice a l.length ca, .slice b l'.length cb] w fun e w' => e = .returned (.bool (sameQ l l')) ∧ Below w.heap.size w w' := by
  go_enter Tryd.func97, Tryd.ntmps97
  by_cases hne : l.length = l'.length
  · have g1 : ((l.length : Int) != (l'.length : Int)) = false := by simp [hne]
    have HE := Hid.of hne
    clear hne
    go_wp2_with fail
    go_loopw [5] (fun i wr => ∃ k : Nat, i = .int .i64 k ∧ k ≤ l.length ∧ Hid (Below w.heap.size w wr) ∧ Hid (∀ (j : Nat) (y : Pla), j < k → l[j]? = some y → memQ l' y = true)) (fun i _ => l.length - (intOf i).toNat)
    case atStart => exact ⟨0, rfl, Nat.zero_le _, Below.refl _ _, fun j p hj => by omega⟩
    case round =>
      obtain ⟨k, rfl, hk, B, HA⟩ := hrel
      by_cases hlt : k < l.length
      · obtain ⟨⟨ym, ys⟩, HY⟩ : ∃ y, Hid (l[k]? = some y) := ⟨_, List.getElem?_eq_getElem hlt⟩
        obtain ⟨g, o, sa, sc, hga, hg, c1, c2, a1, l1, -⟩ := (h.out.below B.out hn).get HY.out
        dsimp only at c1 c2 a1 l1
        subst hga
        have KEY := Hid.of (rqhas_any n b cb l' ym ys sa sc wr (Hid.of (h'.out.below B.out hn)) hl' (Hid.of a1) (Hid.of l1))
        clear a1 l1
        go_wp2_with fail
        refine KEY.out.mono ?_
        rintro e W1 ⟨rfl, hb⟩
        have B1 := Hid.of (B.out.trans (hb.mono B.out.size))
        clear KEY hb c1 c2 B
        cases hm : memQ l' (ym, ys) with
        | true =>
          have HA1 : Hid (∀ (j : Nat) (y : Pla), j < k + 1 → l[j]? = some y → memQ l' y = true) := fun j y hj hy => by
            by_cases e : j < k
            · exact HA.out j y e hy
            · have : j = k := by omega
              subst this
              rw [HY.out] at hy
              have := Option.some.inj hy
              subst this; exact hm
          clear hm
          go_wp2_with fail
          go_roundw
          case rel => exact ⟨k + 1, by go_num, by omega, B1, HA1⟩
          case measure => simp [intOf]; omega
        | false =>
          have HR : Hid (false = sameQ l l') := by
            show _ = _
            unfold sameQ
            symm
            rw [Bool.and_eq_false_iff]
            right
            rw [List.all_eq_false]
            exact ⟨_, List.mem_of_getElem? HY.out, by rw [hm]; simp⟩
          clear hm
          go_wp2_with fail
          go_ret
          exact ⟨ret_bool HR.out, B1.out⟩
      · have hkD : decide ((k : Int) < (l.length : Int)) = false := by simp; omega
        have HR : Hid (true = sameQ l l') := by
          show _ = _
          unfold sameQ
          symm
          rw [Bool.and_eq_true, decide_eq_true_eq, List.all_eq_true]
          refine ⟨HE.out, fun x hx => ?_⟩
          obtain ⟨j, hj⟩ := List.mem_iff_getElem?.1 hx
          exact HA.out j x (by have := (List.getElem?_eq_some_iff.1 hj).1; omega) hj
        go_wp2_with fail
        go_ret
        exact ⟨ret_bool HR.out, B.out⟩
  · have g1 : ((l.length : Int) != (l'.length : Int)) = true := by simp; omega
    have HR : Hid (false = sameQ l l') := by show _ = _; unfold sameQ; rw [decide_eq_false hne]; rfl
    clear hne
    go_wp2_with fail
    go_ret
    exact ⟨ret_bool HR.out, Below.refl _ _⟩

end Go.Proofs.YtgebfkmfhpcdhaaDoor
