/-
  Plain: the machine of what is seen: it may be, and it accepts what is seen of the words that are accepted. No program, no model.
  Plain: a plant, and what may be known of where it is. No program, no model.
  A plant's value, and what is said of it in a world; a plant that came in, opened.
  What is said of a slice of integers that a call has made: 'Own'; what an append of one number does to it.
  The walks of machine.within and of its closure.
-/
import Derived.Test.YtdhgabpoaicjoaaDoorG06
import Derived.Test.YtdhgabpoaicjoaaDoorG04
import Derived.Test.YtdhgabpoaicjoaaDoorG03
import Derived.Test.YtdhgabpoaicjoaaDoorG05
import Derived.Laws.EntriesVeiled
import Derived.Laws.Bits64b
import Derived.BigQuiet
import Derived.BigRegion
import Derived.Deep.RegionHeld3
namespace Go.Proofs.YtdhgabpoaicjoaaDoor
open Go.RowKit
set_option linter.unusedVariables false

/-- Arrows from a state, at a seen event. -/
def hRow (m : Mach) (seen : List Int) (f k : Nat) : List Arr := (wideL m.arrows seen (stepL m.arrows (wideL m.arrows seen [(f : Int)]) (seen[k]?.getD 0))).map fun t => ⟨(f : Int), (k : Int), t⟩
def hFrom (m : Mach) (seen : List Int) (f n : Nat) : List Arr := (List.range n).flatMap (hRow m seen f)
def hAll (m : Mach) (seen : List Int) (n : Nat) : List Arr := (List.range n).flatMap fun f => hFrom m seen f seen.length
def hideM (m : Mach) (seen : List Int) : Mach := ⟨m.st, seen.length, wideL m.arrows seen m.starts, hAll m seen m.st.toNat, m.ends⟩

theorem mem_hRow (m : Mach) (seen : List Int) (f k : Nat) (x : Arr) : x ∈ hRow m seen f k ↔ ∃ t ∈ wideL m.arrows seen (stepL m.arrows (wideL m.arrows seen [(f : Int)]) (seen[k]?.getD 0)), x = ⟨(f : Int), (k : Int), t⟩ := by
  unfold hRow; rw [List.mem_map]
  constructor
  · rintro ⟨t, h, rfl⟩; exact ⟨t, h, rfl⟩
  · rintro ⟨t, h, rfl⟩; exact ⟨t, h, rfl⟩
theorem mem_hAll (m : Mach) (seen : List Int) (n : Nat) (x : Arr) : x ∈ hAll m seen n ↔ ∃ f k : Nat, f < n ∧ k < seen.length ∧ x ∈ hRow m seen f k := by
  unfold hAll hFrom
  simp only [List.mem_flatMap, List.mem_range]
  constructor
  · rintro ⟨f, hf, k, hk, h⟩; exact ⟨f, k, hf, hk, h⟩
  · rintro ⟨f, k, hf, hk, h⟩; exact ⟨f, hf, k, hk, h⟩
theorem may_to {m : Mach} (hm : mayB m = true) : ∀ a ∈ m.arrows, 0 ≤ a.t ∧ a.t < (256 : Nat) := fun a ha => by
  have h1 := may_arrs hm a ha
  have h2 := mayB_size hm
  unfold sizeOk at h2
  exact ⟨h1.2.2.1, by have := h1.2.2.2.1; omega⟩
theorem wide_bd {m : Mach} (hm : mayB m = true) {seen ss : List Int} (hs : ∀ x ∈ ss, 0 ≤ x ∧ x < m.st) : ∀ x ∈ wideL m.arrows seen ss, 0 ≤ x ∧ x < m.st := fun x hx =>
  rch_bd hs (fun a ha => by have := may_arrs hm a ((mem_unseen _ _ _).1 ha).1; exact ⟨this.2.2.1, this.2.2.2.1⟩) ((mem_wide (may_to hm) x).1 hx)
theorem step_bd {m : Mach} (hm : mayB m = true) {ss : List Int} {e : Int} : ∀ x ∈ stepL m.arrows ss e, 0 ≤ x ∧ x < m.st := fun x hx => by
  obtain ⟨a, ha, -, -, rfl⟩ := (mem_stepL _ _ _ _).1 hx
  have := may_arrs hm a ha
  exact ⟨this.2.2.1, this.2.2.2.1⟩
theorem inc_wide (ars : List Arr) (seen ss : List Int) : Inc (wideL ars seen ss) := inc_srt _
theorem incA_flat {g : Nat → List Arr} (h1 : ∀ k, IncA (g k)) (h2 : ∀ k k', k < k' → ∀ x ∈ g k, ∀ y ∈ g k', aheadB x y = true) : ∀ n, IncA ((List.range n).flatMap g)
  | 0 => by simp [IncA]
  | n + 1 => by
    rw [List.range_succ, List.flatMap_append]
    refine List.pairwise_append.2 ⟨incA_flat h1 h2 n, by simpa using h1 n, fun x hx y hy => ?_⟩
    obtain ⟨k, hk, hx⟩ := List.mem_flatMap.1 hx
    have hk := List.mem_range.1 hk
    exact h2 k n hk x hx y (by simpa using hy)
theorem incA_hRow (m : Mach) (seen : List Int) (f k : Nat) : IncA (hRow m seen f k) := by
  unfold hRow
  rw [IncA, List.pairwise_map]
  refine (inc_wide _ _ _).imp ?_
  intro t u h
  exact (aheadB_iff _ _).2 (.inr ⟨rfl, .inr ⟨rfl, h⟩⟩)
theorem incA_hAll (m : Mach) (seen : List Int) (n : Nat) : IncA (hAll m seen n) := by
  refine incA_flat (fun f => incA_flat (incA_hRow m seen f) (fun k k' hk x hx y hy => ?_) _) (fun f f' hf x hx y hy => ?_) n
  · obtain ⟨t, -, rfl⟩ := (mem_hRow _ _ _ _ _).1 hx
    obtain ⟨u, -, rfl⟩ := (mem_hRow _ _ _ _ _).1 hy
    exact (aheadB_iff _ _).2 (.inr ⟨rfl, .inl (by dsimp only; omega)⟩)
  · obtain ⟨k, -, hx⟩ := List.mem_flatMap.1 hx
    obtain ⟨k', -, hy⟩ := List.mem_flatMap.1 hy
    obtain ⟨t, -, rfl⟩ := (mem_hRow _ _ _ _ _).1 hx
    obtain ⟨u, -, rfl⟩ := (mem_hRow _ _ _ _ _).1 hy
    exact (aheadB_iff _ _).2 (.inl (by dsimp only; omega))
theorem row_short {n : Int} {l : List Int} (hn : n ≤ 2147483648) (h0 : 0 ≤ n) (h : rowB n l = true) : (l.length : Int) ≤ n := by
  obtain ⟨h1, h2⟩ := (rowB_iff n hn l).1 h
  have := nodup_len n.toNat l (inc_nodup h1) (fun x hx => by have := h2 x hx; omega)
  omega
theorem may_hide {m : Mach} (hm : mayB m = true) {seen : List Int} (hs : rowB m.ev seen = true) (hz : (hAll m seen m.st.toNat).length ≤ 4096) : mayB (hideM m seen) = true := by
  have hm' := mayB_size hm
  unfold sizeOk at hm'
  have hl := row_short (by omega) (by omega) hs
  rw [mayB_go (m := hideM m seen) ⟨hm'.1, hm'.2.1, by show (0 : Int) ≤ seen.length; omega, by show (seen.length : Int) ≤ 8; omega, hz⟩ ((rowB_iff _ (by show m.st ≤ _; omega) _).2 ⟨inc_wide _ _ _, wide_bd hm (may_starts hm).2⟩) (show rowB m.st m.ends = true from mayB_ends hm)]
  rw [arrsFrom_iff]
  refine ⟨fun x hx => ?_, incA_hAll _ _ _, fun _ _ => rfl⟩
  obtain ⟨f, k, hf, hk, hx⟩ := (mem_hAll _ _ _ _).1 hx
  obtain ⟨t, ht, rfl⟩ := (mem_hRow _ _ _ _ _).1 hx
  have hb := wide_bd hm (step_bd hm) t ht
  exact ⟨by dsimp only; omega, by show (f : Int) < m.st; omega, hb.1, hb.2, by dsimp only; omega, by show (k : Int) < seen.length; omega⟩

/-! What is seen of a word that is accepted is accepted. -/
/-- The seen events of a word, by their numbers. -/
def numL (seen word : List Int) : List Int := (seenL seen word).map fun e => placeI seen e
theorem hide_step {m : Mach} (hm : mayB m = true) {seen : List Int} {ss : List Int} {e : Int} (he : e ∈ seen) {a : Arr} (ha : a ∈ m.arrows) (hae : a.e = e) (hf : a.f ∈ ss) : a.t ∈ stepL (hideM m seen).arrows ss (placeI seen e) := by
  obtain ⟨j, hj⟩ := placeN_mem he
  have h1 := placeI_of hj
  have h2 := placeN_some hj
  have hb := may_arrs hm a ha
  have hk := (List.getElem?_eq_some_iff.1 h2).1
  refine (mem_stepL _ _ _ _).2 ⟨⟨a.f, (j : Int), a.t⟩, ?_, h1.symm, hf, rfl⟩
  show _ ∈ hAll m seen m.st.toNat
  refine (mem_hAll _ _ _ _).2 ⟨a.f.toNat, j, by have := hb.1; have := hb.2.1; omega, hk, (mem_hRow _ _ _ _ _).2 ⟨a.t, ?_, ?_⟩⟩
  · have hc : ((a.f.toNat : Nat) : Int) = a.f := by have := hb.1; omega
    rw [h2, Option.getD_some, hc]
    refine wide_sub (may_to hm) _ ((mem_stepL _ _ _ _).2 ⟨a, ha, hae, wide_sub (may_to hm) _ (by simp), rfl⟩)
  · have hc : ((a.f.toNat : Nat) : Int) = a.f := by have := hb.1; omega
    rw [hc]
theorem hide_closed {m : Mach} (hm : mayB m = true) {seen : List Int} {ss : List Int} {k : Int} {a : Arr} (ha : a ∈ m.arrows) (hu : hasB seen a.e = false) (h : a.f ∈ stepL (hideM m seen).arrows ss k) : a.t ∈ stepL (hideM m seen).arrows ss k := by
  obtain ⟨c, hc, h1, h2, h3⟩ := (mem_stepL _ _ _ _).1 h
  obtain ⟨f, j, hf, hj, hx⟩ := (mem_hAll _ _ _ _).1 hc
  obtain ⟨t, ht, rfl⟩ := (mem_hRow _ _ _ _ _).1 hx
  dsimp only at h1 h2 h3
  subst h3
  exact (mem_stepL _ _ _ _).2 ⟨⟨(f : Int), (j : Int), a.t⟩, (mem_hAll _ _ _ _).2 ⟨f, j, hf, hj, (mem_hRow _ _ _ _ _).2 ⟨a.t, wide_cl (may_to hm) ha hu ht, rfl⟩⟩, h1, h2, rfl⟩
theorem hide_after {m : Mach} (hm : mayB m = true) {seen : List Int} : ∀ (word : List Int) {ss ss' : List Int}, (∀ x ∈ ss, x ∈ ss') → (∀ a ∈ m.arrows, hasB seen a.e = false → a.f ∈ ss' → a.t ∈ ss') → ∀ x ∈ afterL m.arrows ss word, x ∈ afterL (hideM m seen).arrows ss' (numL seen word)
  | [], _, _, h, _, x, hx => h x hx
  | e :: r, ss, ss', h, hc, x, hx => by
    have hx : x ∈ afterL m.arrows (stepL m.arrows ss e) r := hx
    cases hs : hasB seen e with
    | false =>
      have e1 : numL seen (e :: r) = numL seen r := by simp [numL, seenL, hs]
      rw [e1]
      refine hide_after hm r (fun y hy => ?_) hc x hx
      obtain ⟨a, ha, hae, hf, rfl⟩ := (mem_stepL _ _ _ _).1 hy
      exact hc a ha (by rw [hae]; exact hs) (h _ hf)
    | true =>
      have e1 : numL seen (e :: r) = placeI seen e :: numL seen r := by simp [numL, seenL, hs]
      rw [e1]
      show x ∈ afterL _ (stepL (hideM m seen).arrows ss' (placeI seen e)) (numL seen r)
      refine hide_after hm r (fun y hy => ?_) (fun a ha hu hf => hide_closed hm ha hu hf) x hx
      obtain ⟨a, ha, hae, hf, rfl⟩ := (mem_stepL _ _ _ _).1 hy
      exact hide_step hm ((hasB_iff _ _).1 hs) ha hae (h _ hf)
theorem hide_sees {m : Mach} (hm : mayB m = true) {seen : List Int} {word : List Int} (h : acceptsB m word = true) : acceptsB (hideM m seen) (numL seen word) = true := by
  obtain ⟨x, hx, he⟩ := (accepts_iff _ _).1 h
  exact (accepts_iff _ _).2 ⟨x, hide_after hm word (wide_sub (may_to hm)) (fun a ha hu hf => wide_cl (may_to hm) ha hu hf) x hx, he⟩

end Go.Proofs.YtdhgabpoaicjoaaDoor
namespace Go.Proofs.YtdhgabpoaicjoaaDoor
open Go.RowKit
set_option linter.unusedVariables false
set_option linter.unusedSectionVars false

/-! Words by the numbers of some events. -/
/-- The events of a word of numbers. -/
def wordS (seen u : List Int) : List Int := u.map fun k => seen[k.toNat]?.getD 0
/-- The numbers of the events of a word. -/
def idxS (seen word : List Int) : List Int := word.map fun e => placeI seen e
theorem wordS_snoc (seen u : List Int) (e : Nat) : wordS seen (u ++ [(e : Int)]) = wordS seen u ++ [seen[e]?.getD 0] := by simp [wordS]
theorem wordS_len (seen u : List Int) : (wordS seen u).length = u.length := by simp [wordS]
theorem idx_in {seen word : List Int} (h : ∀ e ∈ word, e ∈ seen) : ∀ k ∈ idxS seen word, 0 ≤ k ∧ k < (seen.length : Int) := by
  intro k hk
  obtain ⟨e, he, rfl⟩ := List.mem_map.1 hk
  obtain ⟨j, hj⟩ := placeN_mem (h e he)
  have h1 := placeI_of hj
  have h2 := (List.getElem?_eq_some_iff.1 (placeN_some hj)).1
  omega
theorem word_idx {seen : List Int} : ∀ {word : List Int}, (∀ e ∈ word, e ∈ seen) → wordS seen (idxS seen word) = word
  | [], _ => rfl
  | e :: r, h => by
    have ih := word_idx (word := r) (fun x hx => h x (by simp [hx]))
    obtain ⟨j, hj⟩ := placeN_mem (h e (by simp))
    have h1 := placeI_of hj
    have h2 := placeN_some hj
    simp only [idxS, wordS, List.map_cons] at ih ⊢
    rw [ih, h1, Int.toNat_natCast, h2, Option.getD_some]
theorem word_in {seen u : List Int} (h : ∀ k ∈ u, 0 ≤ k ∧ k < (seen.length : Int)) : ∀ e ∈ wordS seen u, e ∈ seen := by
  intro e he
  obtain ⟨k, hk, rfl⟩ := List.mem_map.1 he
  have := h k hk
  have hl : k.toNat < seen.length := by omega
  rw [List.getElem?_eq_getElem hl]
  exact List.getElem_mem hl
theorem seen_lt {seen : List Int} (hi : Inc seen) {j k : Int} (hj : 0 ≤ j ∧ j < (seen.length : Int)) (hk : 0 ≤ k ∧ k < (seen.length : Int)) : (seen[j.toNat]?.getD 0 < seen[k.toNat]?.getD 0 ↔ j < k) ∧ (seen[j.toNat]?.getD 0 = seen[k.toNat]?.getD 0 ↔ j = k) := by
  have l1 : j.toNat < seen.length := by omega
  have l2 : k.toNat < seen.length := by omega
  rw [List.getElem?_eq_getElem l1, List.getElem?_eq_getElem l2, Option.getD_some, Option.getD_some]
  rcases Int.lt_trichotomy j k with h | h | h
  · have := List.pairwise_iff_getElem.1 hi j.toNat k.toNat l1 l2 (by omega)
    constructor <;> constructor <;> omega
  · subst h
    constructor <;> constructor <;> omega
  · have := List.pairwise_iff_getElem.1 hi k.toNat j.toNat l2 l1 (by omega)
    constructor <;> constructor <;> omega
theorem lexB_word {seen : List Int} (hi : Inc seen) : ∀ {u v : List Int}, (∀ k ∈ u, 0 ≤ k ∧ k < (seen.length : Int)) → (∀ k ∈ v, 0 ≤ k ∧ k < (seen.length : Int)) → lexB (wordS seen u) (wordS seen v) = lexB u v
  | [], v, _, _ => by simp [wordS, lexB]
  | _ :: _, [], _, _ => by simp [wordS, lexB]
  | j :: u, k :: v, h, h' => by
    have ih := lexB_word hi (u := u) (v := v) (fun x hx => h x (by simp [hx])) (fun x hx => h' x (by simp [hx]))
    obtain ⟨q1, q2⟩ := seen_lt hi (h j (by simp)) (h' k (by simp))
    show lexB (seen[j.toNat]?.getD 0 :: wordS seen u) (seen[k.toNat]?.getD 0 :: wordS seen v) = _
    unfold lexB
    by_cases e : j = k
    · rw [if_pos (q2.2 e), if_pos e, ih]
    · rw [if_neg (fun h => e (q2.1 h)), if_neg e]
      exact decide_eq_decide.2 q1
theorem lessB_word {seen : List Int} (hi : Inc seen) {u v : List Int} (h : ∀ k ∈ u, 0 ≤ k ∧ k < (seen.length : Int)) (h' : ∀ k ∈ v, 0 ≤ k ∧ k < (seen.length : Int)) : lessB (wordS seen u) (wordS seen v) = lessB u v := by
  unfold lessB
  rw [wordS_len, wordS_len, lexB_word hi h h']

/-! The plant. -/
structure Plant where
  m : Mach
  seen : List Int
  secret : List Int
/-- May it be (I1)? -/
def mayP (p : Plant) : Bool := mayB p.m && (decide (p.m.st ≤ 6) && (rowB p.m.ev p.seen && rowB p.m.st p.secret))
theorem mayP_iff (p : Plant) : mayP p = true ↔ mayB p.m = true ∧ p.m.st ≤ 6 ∧ rowB p.m.ev p.seen = true ∧ rowB p.m.st p.secret = true := by
  unfold mayP; simp only [Bool.and_eq_true, decide_eq_true_eq]
/-- What is known when an event was seen. -/
def seeL (p : Plant) (s : List Int) (e : Int) : List Int := wideL p.m.arrows p.seen (stepL p.m.arrows s e)
/-- What is known behind a list of seen events, from some states on. -/
def fromL (p : Plant) (ss word : List Int) : List Int := word.foldl (seeL p) (wideL p.m.arrows p.seen ss)
/-- The estimate (I2). -/
def estL (p : Plant) (word : List Int) : List Int := fromL p p.m.starts word
/-- Is a row not empty, and all of it secret? -/
def leakB (secret row : List Int) : Bool := decide (0 < row.length) && decide ((row.filter fun n => hasB secret n == false).length = 0)
def seeD (p : Plant) (s : List Int) (k : Nat) : List Int := seeL p s (p.seen[k]?.getD 0)
theorem see_run (p : Plant) : ∀ (u : List Int) (s : List Int), runF (seeD p) s u = (wordS p.seen u).foldl (seeL p) s
  | [], s => rfl
  | k :: u, s => by
    show runF (seeD p) (seeD p s k.toNat) u = _
    rw [see_run p u]; rfl
/-- All estimates, each with the least list (of numbers) that has it, the lesser ones ahead. -/
def fwdL (p : Plant) : List (List Int × List Int) := bfGo (seeD p) p.seen.length 65 0 [(wideL p.m.arrows p.seen p.m.starts, [])]
/-- The least list that leaks. -/
def outC (p : Plant) : Option (List Int) := ((fwdL p).find? fun x => leakB p.secret x.1).map fun x => wordS p.seen x.2
theorem see_in {p : Plant} (hm : mayB p.m = true) (s : List Int) (e : Int) : Inc (seeL p s e) ∧ ∀ x ∈ seeL p s e, 0 ≤ x ∧ x < p.m.st := ⟨inc_wide _ _ _, wide_bd hm (step_bd hm)⟩
theorem from_in {p : Plant} (hm : mayB p.m = true) : ∀ (word s : List Int), (Inc s ∧ ∀ x ∈ s, 0 ≤ x ∧ x < p.m.st) → Inc (word.foldl (seeL p) s) ∧ ∀ x ∈ word.foldl (seeL p) s, 0 ≤ x ∧ x < p.m.st
  | [], s, h => h
  | e :: r, s, _ => from_in hm r (seeL p s e) (see_in hm s e)
theorem wide_in {p : Plant} (hm : mayB p.m = true) {ss : List Int} (hs : ∀ x ∈ ss, 0 ≤ x ∧ x < p.m.st) : Inc (wideL p.m.arrows p.seen ss) ∧ ∀ x ∈ wideL p.m.arrows p.seen ss, 0 ≤ x ∧ x < p.m.st := ⟨inc_wide _ _ _, wide_bd hm hs⟩
theorem est_in {p : Plant} (hm : mayB p.m = true) (word : List Int) : Inc (estL p word) ∧ ∀ x ∈ estL p word, 0 ≤ x ∧ x < p.m.st := from_in hm word _ (wide_in hm (may_starts hm).2)
theorem fwd_bound {p : Plant} (hm : mayB p.m = true) (z : p.m.st ≤ 6) {k n : Nat} {l : List (List Int × List Int)} (h : BI (seeD p) (wideL p.m.arrows p.seen p.m.starts) p.seen.length k n l) : l.length ≤ 64 := by
  have h1 := nodup_sub (m := subs 6) h.nd (fun s hs => by
    obtain ⟨x, hx, rfl⟩ := List.mem_map.1 hs
    obtain ⟨e1, e2⟩ := h.run x hx
    rw [see_run] at e1
    have i1 := from_in hm (wordS p.seen x.2) _ (wide_in hm (may_starts hm).2)
    rw [e1]
    exact mem_subs 6 _ i1.1 (fun y hy => by have := i1.2 y hy; omega))
  rw [List.length_map, subs_len] at h1
  exact h1
theorem fwd_all {p : Plant} (hm : mayB p.m = true) (z : p.m.st ≤ 6) : BI (seeD p) (wideL p.m.arrows p.seen p.m.starts) p.seen.length (fwdL p).length 0 (fwdL p) :=
  bi_end (N := 64) (fun k n l h => fwd_bound hm z h) 65 0 _ (bi_start _ _ _) (Nat.zero_le _) (by omega)
theorem fwd_est {p : Plant} {k n : Nat} {l : List (List Int × List Int)} (h : BI (seeD p) (wideL p.m.arrows p.seen p.m.starts) p.seen.length k n l) {x : List Int × List Int} (hx : x ∈ l) : x.1 = estL p (wordS p.seen x.2) := by
  rw [(h.run x hx).1, see_run]; rfl
theorem outC_none {p : Plant} (hp : mayP p = true) (h : outC p = none) (word : List Int) (hw : ∀ e ∈ word, e ∈ p.seen) : leakB p.secret (estL p word) = false := by
  obtain ⟨hm, z, hs, -⟩ := (mayP_iff p).1 hp
  have hI := fwd_all hm z
  obtain ⟨x, hx, e1, -⟩ := bi_all _ hI (idxS p.seen word) (idx_in hw)
  unfold outC at h
  rw [Option.map_eq_none_iff, List.find?_eq_none] at h
  have h1 := h x hx
  rw [e1, see_run, word_idx hw] at h1
  have h2 : leakB p.secret (estL p word) ≠ true := h1
  simpa using h2
theorem outC_some {p : Plant} (hp : mayP p = true) {v : List Int} (h : outC p = some v) : leakB p.secret (estL p v) = true ∧ (∀ e ∈ v, e ∈ p.seen) ∧ v.length ≤ 64 ∧ ∀ word : List Int, (∀ e ∈ word, e ∈ p.seen) → leakB p.secret (estL p word) = true → lessB word v = false := by
  obtain ⟨hm, z, hs, -⟩ := (mayP_iff p).1 hp
  have hz := mayB_size hm
  unfold sizeOk at hz
  have hi : Inc p.seen := ((rowB_iff _ (by omega) _).1 hs).1
  have hI := fwd_all hm z
  unfold outC at h
  rw [Option.map_eq_some_iff] at h
  obtain ⟨x, hx, rfl⟩ := h
  have hxo := List.find?_some hx
  rw [List.find?_eq_some_iff_getElem] at hx
  obtain ⟨-, i, hil, e0, hlow⟩ := hx
  have hxi : (fwdL p)[i]? = some x := by rw [List.getElem?_eq_getElem hil, e0]
  have hxm := List.mem_of_getElem? hxi
  have hr := hI.run x hxm
  have hbd := fwd_bound hm z hI
  refine ⟨?_, word_in hr.2, ?_, fun word hw hb' => ?_⟩
  · rw [← fwd_est hI hxm]; exact hxo
  · have := bi_wlen hI i x hxi; rw [wordS_len]; omega
  · obtain ⟨q, hq, e1, e2⟩ := bi_all _ hI (idxS p.seen word) (idx_in hw)
    have hqo : leakB p.secret q.1 = true := by
      rw [e1, see_run, word_idx hw]; exact hb'
    obtain ⟨j, hj⟩ := List.mem_iff_getElem?.1 hq
    have hjl := (List.getElem?_eq_some_iff.1 hj).1
    have hqe := (List.getElem?_eq_some_iff.1 hj).2
    have hij : i ≤ j := by
      rcases Nat.lt_or_ge j i with h1 | h1
      · have := hlow j h1
        rw [hqe, hqo] at this; simp at this
      · exact h1
    have hle : leW x.2 q.2 := by
      rcases Nat.lt_or_ge i j with h1 | h1
      · have := List.pairwise_iff_getElem.1 hI.inc i j hil hjl h1
        rw [hqe, e0] at this
        exact .inr this
      · have : i = j := by omega
        subst this
        rw [hxi] at hj
        have := Option.some.inj hj
        subst this
        exact leW_refl _
    have hn := leW_not (leW_trans hle e2)
    rw [← lessB_word hi (idx_in hw) hr.2, word_idx hw] at hn
    exact hn

end Go.Proofs.YtdhgabpoaicjoaaDoor
namespace Go.Proofs.YtdhgabpoaicjoaaDoor
open Go.ChangeShapes Go.WideShapes Go.ChangeAt Go.RowKit Go.Deep
set_option linter.unusedVariables false
set_option maxRecDepth 100000

/-- Where a plant's slices lie. -/
structure PTL where
  l : ML
  sa : Option Addr
  sc : Nat
  ta : Option Addr
  tc : Nat
abbrev ptcells (p : Plant) (L : PTL) : Array Value := #[.int .i64 p.m.st, .int .i64 p.m.ev, .slice L.l.a1 p.m.starts.length L.l.c1, .slice L.l.a2 p.m.arrows.length L.l.c2, .slice L.l.a3 p.m.ends.length L.l.c3, .slice L.sa p.seen.length L.sc, .slice L.ta p.secret.length L.tc]
abbrev ptval (p : Plant) (L : PTL) : Value := .agg (ptcells p L)
structure PAt (w : World) (p : Plant) (L : PTL) : Prop where
  m : MAt w p.m L.l
  s : Sl w L.sa L.sc p.seen
  t : Sl w L.ta L.tc p.secret
theorem PAt.below {w w' : World} {p : Plant} {L : PTL} {B : Nat} (h : PAt w p L) (hb : Below B w w') (hB : w.heap.size ≤ B) : PAt w' p L := ⟨h.m.below hb hB, h.s.below hb hB, h.t.below hb hB⟩
theorem ptcell_at {W : World} {b : Nat} {p : Plant} {L : PTL} (h : Blk W b 50 (ptcells p L)) : W.cell? ⟨b, 0, none⟩ = some (.int .i64 p.m.st) ∧ W.cell? ⟨b, 1, none⟩ = some (.int .i64 p.m.ev) ∧ W.cell? ⟨b, 2, none⟩ = some (.slice L.l.a1 p.m.starts.length L.l.c1) ∧ W.cell? ⟨b, 3, none⟩ = some (.slice L.l.a2 p.m.arrows.length L.l.c2) ∧ W.cell? ⟨b, 4, none⟩ = some (.slice L.l.a3 p.m.ends.length L.l.c3) ∧ W.cell? ⟨b, 5, none⟩ = some (.slice L.sa p.seen.length L.sc) ∧ W.cell? ⟨b, 6, none⟩ = some (.slice L.ta p.secret.length L.tc) :=
  ⟨h.cell 0 rfl, h.cell 1 rfl, h.cell 2 rfl, h.cell 3 rfl, h.cell 4 rfl, h.cell 5 rfl, h.cell 6 rfl⟩

section
variable {H : Type} {enc : TypeId × Value → H} {W : World}
theorem array7 {α : Type} {cs : Array α} (h : cs.size = 7) : ∃ c0 c1 c2 c3 c4 c5 c6, cs = #[c0, c1, c2, c3, c4, c5, c6] := by
  obtain ⟨l⟩ := cs
  match l, h with
  | [c0, c1, c2, c3, c4, c5, c6], _ => exact ⟨c0, c1, c2, c3, c4, c5, c6, rfl⟩
theorem plant_of_cells {fuel : Nat} {c0 c1 c2 c3 c4 c5 c6 : Value} {x : DataW H × List MemPlace} (h : DataW.trod enc Tryd.prog W 0 (fun _ => true) true fuel 50 [c0, c1, c2, c3, c4, c5, c6] = some x) : ∃ p L, Value.agg #[c0, c1, c2, c3, c4, c5, c6] = ptval p L ∧ PAt W p L := by
  obtain ⟨xs, n, _, _, _, hlen, hf⟩ := DataW.trod_struct Tryd.underlying50 h
  have hlen3 : xs.length = 3 := hlen
  match xs, hlen3 with
  | [y0, y1, y2], _ =>
    have i1 : Tryd.prog.cellsOf 25 = 5 := by kernel_rfl
    have i2 : Tryd.prog.cellsOf 22 = 1 := by kernel_rfl
    have h0 := hf 0 { name := "Machine", type := 25, offset := 0, embedded := false, tag := "", pkgPath := "", byteOffset := 0 } rfl
    have h1 := hf 1 { name := "Seen", type := 22, offset := 5, embedded := false, tag := "", pkgPath := "", byteOffset := 88 } rfl
    have h2 := hf 2 { name := "Secret", type := 22, offset := 6, embedded := false, tag := "", pkgPath := "", byteOffset := 112 } rfl
    dsimp only at h0 h1 h2
    simp only [i1, i2, List.drop_succ_cons, List.drop_zero, List.take_succ_cons, List.take_zero, List.getElem?_cons_zero, List.getElem?_cons_succ] at h0 h1 h2
    obtain ⟨m, l, e0, hm⟩ := mach_of_cells h0
    obtain ⟨a1, k1, seen, e1, s1, s2, s3, s4, s5⟩ := ints_of_trod h1
    obtain ⟨a2, k2, secret, e2, r1, r2, r3, r4, r5⟩ := ints_of_trod h2
    simp only [List.cons.injEq, and_true] at e1 e2
    subst e1 e2
    have e0' : #[c0, c1, c2, c3, c4] = mcells m l := by injection e0
    have e3 : [c0, c1, c2, c3, c4] = (mcells m l).toList := by rw [← e0']
    simp only [List.cons.injEq, and_true] at e3
    obtain ⟨q0, q1, q2, q3, q4⟩ := e3
    exact ⟨⟨m, seen, secret⟩, ⟨l, a1, k1, a2, k2⟩, by rw [q0, q1, q2, q3, q4], hm, ⟨s3, s1, s2, s4⟩, ⟨r3, r1, r2, r4⟩⟩
/-- A PLANT THAT CAME IN. -/
theorem open_plant {base : Nat} {v : Value} {d : DataW H} {p : List MemPlace} (hv : Value.okWide Tryd.prog W .any base 50 v) (h : DataW.Trod enc Tryd.prog W 0 (fun _ => true) true 50 v d p) : ∃ q L, v = ptval q L ∧ PAt W q L := by
  obtain ⟨cs, rfl, hsz⟩ := okWide_struct Tryd.underlying50 hv
  obtain ⟨c0, c1, c2, c3, c4, c5, c6, rfl⟩ := array7 (hsz.trans (by kernel_rfl))
  obtain ⟨fuel, hf⟩ := h
  exact plant_of_cells (by simpa [Value.cells] using hf)
end

end Go.Proofs.YtdhgabpoaicjoaaDoor
namespace Go.Proofs.YtdhgabpoaicjoaaDoor
open Go.RowKit

theorem Tryd.infoInt : (Tryd.prog.info? 3).map (fun i => (i.zero, i.size, i.bytes)) = some (some (.int .i64 0), 1, 8) := by kernel_rfl

/-- The slice v is in memory made from block B on, and holds xs. -/
def Own (w : World) (B : Nat) (v : Value) (xs : List Int) : Prop := w.ownsRow B 3 1 v xs.length (xs.map (Value.int .i64))

theorem own_nil (w : World) (B : Nat) : Own w B (.slice none 0 0) [] := World.ownsRow_nil _ _ _ _

theorem Own.at {w : World} {B : Nat} {v : Value} {xs : List Int} (h : Own w B v xs) : ∃ a cap, v = .slice a xs.length cap ∧ At w a xs ∧ xs.length ≤ maxLen := by
  rcases h.2 with ⟨rfl, hn⟩ | ⟨g, cap, cur, rfl, hg, hh, hnc, hcm, hcs, ht⟩
  · have : xs = [] := List.eq_nil_of_length_eq_zero hn
    subst this
    exact ⟨none, 0, rfl, .inl rfl, Nat.zero_le _⟩
  · refine ⟨some ⟨g, 0, none⟩, cap, rfl, .inr ⟨g, 0, rfl, (Array.getElem?_eq_some_iff.1 hh).1, fun j hj => ?_⟩, Nat.le_trans hnc hcm⟩
    have := h.cells (g := g) rfl j (.int .i64 (xs.getD j 0)) (by rw [List.getElem?_map, List.getElem?_eq_getElem hj]; simp [List.getElem?_eq_getElem hj])
    rw [show (⟨g, 0, none⟩ : Addr).add j = ⟨g, 0 + j, none⟩ from by unfold Addr.add; split <;> simp_all] at this
    exact this

/-- What a call that hands back a slice leaves: the slice reads as xs, and nothing old has turned. -/
def Gives (w : World) (xs : List Int) (e : Ending) (w' : World) : Prop := ∃ a cap, e = .returned (.slice a xs.length cap) ∧ At w' a xs ∧ xs.length ≤ maxLen ∧ Below w.heap.size w w'

theorem gives_of_own {w w' : World} {B : Nat} {v : Value} {xs : List Int} (h : Own w' B v xs) (hb : Below w.heap.size w w') : Gives w xs (.returned v) w' := by
  obtain ⟨a, cap, rfl, h1, h2⟩ := h.at
  exact ⟨a, cap, rfl, h1, h2, hb⟩

theorem own_snoc {w wr w1 : World} {B : Nat} {v v' : Value} {L : List Int} {x : Int} {o : Obj} (hown : Own wr B v L) (hb : Below B w wr) (hB : B ≤ wr.heap.size)
    (hown' : w1.ownsRow B 3 1 v' (L.length + 1) (L.map (Value.int .i64) ++ [.int .i64 x])) (hgrow : (wr.alloc o).grownBy w1 v.ownBlock) :
    Own w1 B v' (L ++ [x]) ∧ Below B w w1 ∧ B ≤ w1.heap.size := by
  refine ⟨by unfold Own; rw [List.length_append, List.map_append]; exact hown', (hb.alloc hB o).grown hgrow (by simp; omega) (fun j hj => (hown.lt j hj).1), ?_⟩
  have := hgrow.size
  simp at this
  omega

theorem Own.drewN {w : World} {B : Nat} {v : Value} {xs : List Int} (h : Own w B v xs) (m : Nat) : Own (w.drewN m) B v xs := h

/-- An owned slice, as its value and its cells. -/
theorem Own.cells_of {w : World} {B : Nat} {v : Value} {xs : List Int} (h : Own w B v xs) : (v = .slice none 0 0 ∧ xs = []) ∨ ∃ g cap, v = .slice (some ⟨g, 0, none⟩) xs.length cap ∧ B ≤ g ∧ g < w.heap.size ∧ Cells w g 0 xs ∧ (∀ j, w.frozen? ⟨g, j, none⟩ = false) := by
  rcases h.2 with ⟨rfl, hn⟩ | ⟨g, cap, cur, rfl, hg, hh, hnc, hcm, hcs, ht⟩
  · exact .inl ⟨rfl, List.eq_nil_of_length_eq_zero hn⟩
  · refine .inr ⟨g, cap, rfl, hg, (Array.getElem?_eq_some_iff.1 hh).1, fun j hj => ?_, fun j => ?_⟩
    · have := h.cells (g := g) rfl j (.int .i64 (xs.getD j 0)) (by rw [List.getElem?_map, List.getElem?_eq_getElem hj]; simp [List.getElem?_eq_getElem hj])
      rw [show (⟨g, 0, none⟩ : Addr).add j = ⟨g, 0 + j, none⟩ from by unfold Addr.add; split <;> simp_all] at this
      exact this
    · simp [World.frozen?, hh]

end Go.Proofs.YtdhgabpoaicjoaaDoor
namespace Go.Proofs.YtdhgabpoaicjoaaDoor
open Go.RowKit
set_option linter.unusedVariables false

set_option maxHeartbeats 400000 in
theorem within_any (b : Int) (w : World) :
    Calls Tryd.prog 97 #[.int .i64 b] w fun e w' => e = .returned (.func (.func 131) #[] #[.pointer (some ⟨w.heap.size, 0, none⟩)]) ∧ w' = w.alloc (.cells #[.int .i64 b] 3) := by
  have hmf : ∀ (fn : Fn) (first cap : Array Value) (w : World), (Instr.makeFunc fn first cap).run Tryd.prog w = .ok (.func fn first cap) w := fun _ _ _ _ => rfl
  go_enter Tryd.func97, Tryd.ntmps97
  go_wp2
  go_ret
  exact ⟨rfl, rfl⟩

/-- Is a number from 0 to below a bound? -/
def inB (b n : Int) : Bool := decide (0 ≤ n ∧ n < b)

set_option maxHeartbeats 400000 in
theorem within1_any (b n : Int) (B : Nat) (w : World) (hc : w.cell? ⟨B, 0, none⟩ = some (.int .i64 b)) :
    Calls Tryd.prog 131 #[.int .i64 n, .pointer (some ⟨B, 0, none⟩)] w fun e w' => e = .returned (.bool (inB b n)) ∧ w' = w := by
  by_cases h1 : 0 ≤ n
  · by_cases h2 : n < b
    · have hr : Hid (true = inB b n) := show true = inB b n by simp [inB, h1, h2]
      have f1 : decide (0 ≤ n) = true := by simpa using h1
      have f2 : decide (n < b) = true := by simpa using h2
      go_enter Tryd.func131, Tryd.ntmps131
      go_wp2
      go_ret
      exact ⟨ret_bool hr.out, rfl⟩
    · have hr : Hid (false = inB b n) := show false = inB b n by simp [inB]; omega
      have f1 : decide (0 ≤ n) = true := by simpa using h1
      have f2 : decide (n < b) = false := by simpa using h2
      go_enter Tryd.func131, Tryd.ntmps131
      go_wp2
      go_ret
      exact ⟨ret_bool hr.out, rfl⟩
  · have hr : Hid (false = inB b n) := show false = inB b n by simp [inB]; omega
    have f1 : decide (0 ≤ n) = false := by simpa using h1
    go_enter Tryd.func131, Tryd.ntmps131
    go_wp2
    go_ret
    exact ⟨ret_bool hr.out, rfl⟩

theorem size_alloc2 (w : World) (o o' : Obj) : ((w.alloc o).alloc o').heap.size = w.heap.size + 2 := by simp

end Go.Proofs.YtdhgabpoaicjoaaDoor
