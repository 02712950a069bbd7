/-
  Plain: what unseen events come to, and the machine of what is seen. No program, no model.
  Plain: the machine of what is seen: it may be, and it accepts what is seen of the words that are accepted. No program, no model.
  What Hide leaves, the program's and the reference's.
  What the walk of jalousieref5.Hide knows of the memory; how many arrows there may be.
  The walk of determine.Make.
  What the walk of jalousieref6.Make knows of the memory.
-/
import Derived.Test.YtbdkaobbfmgnhaaDoorG20
import Derived.Test.YtbdkaobbfmgnhaaDoorG15
import Derived.Test.YtbdkaobbfmgnhaaDoorG14
import Derived.Test.YtbdkaobbfmgnhaaDoorG18
import Derived.Test.YtbdkaobbfmgnhaaDoorG06
import Derived.Test.YtbdkaobbfmgnhaaDoorG04
import Derived.Test.YtbdkaobbfmgnhaaDoorG03
namespace Go.Proofs.YtbdkaobbfmgnhaaDoor
open Go.RowKit
set_option linter.unusedVariables false

/-- The arrows that are not seen. -/
def unseenA (ars : List Arr) (seen : List Int) : List Arr := ars.filter fun a => !hasB seen a.e
theorem mem_unseen (ars : List Arr) (seen : List Int) (a : Arr) : a ∈ unseenA ars seen ↔ a ∈ ars ∧ hasB seen a.e = false := by
  unfold unseenA; rw [List.mem_filter]; simp
theorem wAdd_in {seen : List Int} {y x : Int} {l : List Int} {a : Arr} (h : x ∈ wAdd seen y l a) : x ∈ l ∨ (a.f = y ∧ hasB seen a.e = false ∧ x = a.t) := by
  unfold wAdd at h
  split at h
  · rename_i hc
    simp only [Bool.and_eq_true, decide_eq_true_eq, Bool.not_eq_true'] at hc
    rcases List.mem_append.1 h with h | h
    · exact .inl h
    · exact .inr ⟨hc.1, hc.2.1, by simpa using h⟩
  · exact .inl h
theorem wAdd_has {seen : List Int} {y : Int} {l : List Int} {a : Arr} (h1 : a.f = y) (h2 : hasB seen a.e = false) : a.t ∈ wAdd seen y l a := by
  unfold wAdd
  split
  · simp
  · rename_i hc
    cases h3 : hasB l a.t with
    | true => exact (hasB_iff _ _).1 h3
    | false => exact absurd (by simp [h1, h2, h3]) hc
theorem wRow_in {seen : List Int} {y x : Int} : ∀ {ars : List Arr} {l : List Int}, x ∈ wRow ars seen y l → x ∈ l ∨ ∃ a ∈ ars, a.f = y ∧ hasB seen a.e = false ∧ x = a.t
  | [], l, h => .inl h
  | a :: r, l, h => by
    rcases wRow_in (ars := r) (l := wAdd seen y l a) h with h | ⟨c, hc, h'⟩
    · rcases wAdd_in h with h | h
      · exact .inl h
      · exact .inr ⟨a, by simp, h⟩
    · exact .inr ⟨c, by simp [hc], h'⟩
theorem wRow_has {seen : List Int} {y : Int} : ∀ {ars : List Arr} {l : List Int} {a : Arr}, a ∈ ars → a.f = y → hasB seen a.e = false → a.t ∈ wRow ars seen y l
  | [], _, a, h, _, _ => by simp at h
  | c :: r, l, a, h, h1, h2 => by
    rcases List.mem_cons.1 h with rfl | h
    · obtain ⟨t, e⟩ := wRow_pre seen y r (wAdd seen y l a)
      show a.t ∈ wRow r seen y (wAdd seen y l a)
      rw [e]
      exact List.mem_append_left _ (wAdd_has h1 h2)
    · exact wRow_has (ars := r) h h1 h2
theorem wRow_wb {ss : List Int} {seen : List Int} {y : Int} : ∀ {ars : List Arr} {l : List Int}, (∀ a ∈ ars, 0 ≤ a.t ∧ a.t < (256 : Nat)) → WB ss l → WB ss (wRow ars seen y l)
  | [], _, _, h => h
  | a :: r, l, hin, h => wRow_wb (ars := r) (fun c hc => hin c (by simp [hc])) (h.add (hin a (by simp)))
/-- What is known when the first k have been gone on from. -/
structure WI (ars : List Arr) (seen ss : List Int) (k : Nat) (l : List Int) : Prop where
  wb : WB ss l
  rch : ∀ x ∈ l, Rch (·.f) (·.t) (unseenA ars seen) ss x
  cl : ∀ i, i < k → ∀ y, l[i]? = some y → ∀ a ∈ unseenA ars seen, a.f = y → a.t ∈ l
theorem wi_next {ars : List Arr} {seen ss : List Int} (hin : ∀ a ∈ ars, 0 ≤ a.t ∧ a.t < (256 : Nat)) {k : Nat} {l : List Int} (h : WI ars seen ss k l) (hk : k < l.length) : WI ars seen ss (k + 1) (wRow ars seen (l[k]?.getD 0) l) := by
  have hy : l[k]? = some l[k] := List.getElem?_eq_getElem hk
  rw [hy, Option.getD_some]
  obtain ⟨t, ht⟩ := wRow_pre seen l[k] ars l
  refine ⟨wRow_wb hin h.wb, fun x hx => ?_, fun i hi y hy' a ha hf => ?_⟩
  · rcases wRow_in hx with hx | ⟨a, ha, h1, h2, rfl⟩
    · exact h.rch x hx
    · exact rch_step (fr := (·.f)) (to := (·.t)) ((mem_unseen _ _ _).2 ⟨ha, h2⟩) (by rw [h1]; exact h.rch _ (List.getElem_mem _))
  · have hl : i < l.length := by omega
    rw [ht, List.getElem?_append_left hl] at hy'
    by_cases hik : i = k
    · subst hik
      rw [hy] at hy'
      have hy' := Option.some.inj hy'
      obtain ⟨h1, h2⟩ := (mem_unseen _ _ _).1 ha
      exact wRow_has h1 (by rw [hf, hy']) h2
    · rw [ht]
      exact List.mem_append_left _ (h.cl i (by omega) y hy' a ha hf)
theorem wi_go {ars : List Arr} {seen ss : List Int} (hin : ∀ a ∈ ars, 0 ≤ a.t ∧ a.t < (256 : Nat)) : ∀ (f k : Nat) (l : List Int), WI ars seen ss k l → ss.length + 256 ≤ f + k → k ≤ l.length → WI ars seen ss (wGo ars seen f k l).length (wGo ars seen f k l)
  | 0, k, l, h, hf, hk => by
    have := h.wb.len
    have e : k = l.length := by omega
    show WI ars seen ss l.length l
    rw [← e]; exact h
  | f + 1, k, l, h, hf, hk => by
    rw [wGo]
    split
    · rename_i hlt
      refine wi_go hin f (k + 1) _ (wi_next hin h hlt) (by omega) ?_
      obtain ⟨t, ht⟩ := wRow_pre seen (l[k]?.getD 0) ars l
      rw [ht, List.length_append]; omega
    · rename_i hlt
      have e : k = l.length := by omega
      rw [← e]; exact h
theorem mem_wide {ars : List Arr} {seen ss : List Int} (hin : ∀ a ∈ ars, 0 ≤ a.t ∧ a.t < (256 : Nat)) (x : Int) : x ∈ wideL ars seen ss ↔ Rch (·.f) (·.t) (unseenA ars seen) ss x := by
  have h := wi_go hin (ss.length + 256) 0 ss ⟨WB.refl _, fun x hx => rch_start hx, fun i hi => by omega⟩ (by omega) (by omega) (seen := seen)
  unfold wideL
  rw [mem_srt]
  constructor
  · exact h.rch x
  · intro hx
    refine hx (· ∈ wGo ars seen (ss.length + 256) 0 ss) ⟨fun y hy => ?_, fun a ha hf => ?_⟩
    · obtain ⟨t, ht, -⟩ := h.wb
      rw [ht]; exact List.mem_append_left _ hy
    · obtain ⟨i, hi⟩ := List.getElem?_of_mem hf
      exact h.cl i (List.getElem?_eq_some_iff.1 hi).1 _ hi a ha rfl
theorem wide_sub {ars : List Arr} {seen ss : List Int} (hin : ∀ a ∈ ars, 0 ≤ a.t ∧ a.t < (256 : Nat)) : ∀ x ∈ ss, x ∈ wideL ars seen ss := fun x hx => (mem_wide hin x).2 (rch_start hx)
theorem wide_cl {ars : List Arr} {seen ss : List Int} (hin : ∀ a ∈ ars, 0 ≤ a.t ∧ a.t < (256 : Nat)) {a : Arr} (ha : a ∈ ars) (hu : hasB seen a.e = false) (h : a.f ∈ wideL ars seen ss) : a.t ∈ wideL ars seen ss :=
  (mem_wide hin _).2 (rch_step (fr := (·.f)) (to := (·.t)) ((mem_unseen _ _ _).2 ⟨ha, hu⟩) ((mem_wide hin _).1 h))

end Go.Proofs.YtbdkaobbfmgnhaaDoor
namespace Go.Proofs.YtbdkaobbfmgnhaaDoor
open Go.RowKit
set_option linter.unusedVariables false

/-- Arrows from a state, at a seen event. -/
def hRow (m : Mach) (seen : List Int) (f k : Nat) : List Arr := (wideL m.arrows seen (stepL m.arrows (wideL m.arrows seen [(f : Int)]) (seen[k]?.getD 0))).map fun t => ⟨(f : Int), (k : Int), t⟩
def hFrom (m : Mach) (seen : List Int) (f n : Nat) : List Arr := (List.range n).flatMap (hRow m seen f)
def hAll (m : Mach) (seen : List Int) (n : Nat) : List Arr := (List.range n).flatMap fun f => hFrom m seen f seen.length
def hideM (m : Mach) (seen : List Int) : Mach := ⟨m.st, seen.length, wideL m.arrows seen m.starts, hAll m seen m.st.toNat, m.ends⟩

theorem mem_hRow (m : Mach) (seen : List Int) (f k : Nat) (x : Arr) : x ∈ hRow m seen f k ↔ ∃ t ∈ wideL m.arrows seen (stepL m.arrows (wideL m.arrows seen [(f : Int)]) (seen[k]?.getD 0)), x = ⟨(f : Int), (k : Int), t⟩ := by
  unfold hRow; rw [List.mem_map]
  constructor
  · rintro ⟨t, h, rfl⟩; exact ⟨t, h, rfl⟩
  · rintro ⟨t, h, rfl⟩; exact ⟨t, h, rfl⟩
theorem mem_hAll (m : Mach) (seen : List Int) (n : Nat) (x : Arr) : x ∈ hAll m seen n ↔ ∃ f k : Nat, f < n ∧ k < seen.length ∧ x ∈ hRow m seen f k := by
  unfold hAll hFrom
  simp only [List.mem_flatMap, List.mem_range]
  constructor
  · rintro ⟨f, hf, k, hk, h⟩; exact ⟨f, k, hf, hk, h⟩
  · rintro ⟨f, k, hf, hk, h⟩; exact ⟨f, hf, k, hk, h⟩
theorem may_to {m : Mach} (hm : mayB m = true) : ∀ a ∈ m.arrows, 0 ≤ a.t ∧ a.t < (256 : Nat) := fun a ha => by
  have h1 := may_arrs hm a ha
  have h2 := mayB_size hm
  unfold sizeOk at h2
  exact ⟨h1.2.2.1, by have := h1.2.2.2.1; omega⟩
theorem wide_bd {m : Mach} (hm : mayB m = true) {seen ss : List Int} (hs : ∀ x ∈ ss, 0 ≤ x ∧ x < m.st) : ∀ x ∈ wideL m.arrows seen ss, 0 ≤ x ∧ x < m.st := fun x hx =>
  rch_bd hs (fun a ha => by have := may_arrs hm a ((mem_unseen _ _ _).1 ha).1; exact ⟨this.2.2.1, this.2.2.2.1⟩) ((mem_wide (may_to hm) x).1 hx)
theorem step_bd {m : Mach} (hm : mayB m = true) {ss : List Int} {e : Int} : ∀ x ∈ stepL m.arrows ss e, 0 ≤ x ∧ x < m.st := fun x hx => by
  obtain ⟨a, ha, -, -, rfl⟩ := (mem_stepL _ _ _ _).1 hx
  have := may_arrs hm a ha
  exact ⟨this.2.2.1, this.2.2.2.1⟩
theorem inc_wide (ars : List Arr) (seen ss : List Int) : Inc (wideL ars seen ss) := inc_srt _
theorem incA_flat {g : Nat → List Arr} (h1 : ∀ k, IncA (g k)) (h2 : ∀ k k', k < k' → ∀ x ∈ g k, ∀ y ∈ g k', aheadB x y = true) : ∀ n, IncA ((List.range n).flatMap g)
  | 0 => by simp [IncA]
  | n + 1 => by
    rw [List.range_succ, List.flatMap_append]
    refine List.pairwise_append.2 ⟨incA_flat h1 h2 n, by simpa using h1 n, fun x hx y hy => ?_⟩
    obtain ⟨k, hk, hx⟩ := List.mem_flatMap.1 hx
    have hk := List.mem_range.1 hk
    exact h2 k n hk x hx y (by simpa using hy)
theorem incA_hRow (m : Mach) (seen : List Int) (f k : Nat) : IncA (hRow m seen f k) := by
  unfold hRow
  rw [IncA, List.pairwise_map]
  refine (inc_wide _ _ _).imp ?_
  intro t u h
  exact (aheadB_iff _ _).2 (.inr ⟨rfl, .inr ⟨rfl, h⟩⟩)
theorem incA_hAll (m : Mach) (seen : List Int) (n : Nat) : IncA (hAll m seen n) := by
  refine incA_flat (fun f => incA_flat (incA_hRow m seen f) (fun k k' hk x hx y hy => ?_) _) (fun f f' hf x hx y hy => ?_) n
  · obtain ⟨t, -, rfl⟩ := (mem_hRow _ _ _ _ _).1 hx
    obtain ⟨u, -, rfl⟩ := (mem_hRow _ _ _ _ _).1 hy
    exact (aheadB_iff _ _).2 (.inr ⟨rfl, .inl (by dsimp only; omega)⟩)
  · obtain ⟨k, -, hx⟩ := List.mem_flatMap.1 hx
    obtain ⟨k', -, hy⟩ := List.mem_flatMap.1 hy
    obtain ⟨t, -, rfl⟩ := (mem_hRow _ _ _ _ _).1 hx
    obtain ⟨u, -, rfl⟩ := (mem_hRow _ _ _ _ _).1 hy
    exact (aheadB_iff _ _).2 (.inl (by dsimp only; omega))
theorem row_short {n : Int} {l : List Int} (hn : n ≤ 2147483648) (h0 : 0 ≤ n) (h : rowB n l = true) : (l.length : Int) ≤ n := by
  obtain ⟨h1, h2⟩ := (rowB_iff n hn l).1 h
  have := nodup_len n.toNat l (inc_nodup h1) (fun x hx => by have := h2 x hx; omega)
  omega
theorem may_hide {m : Mach} (hm : mayB m = true) {seen : List Int} (hs : rowB m.ev seen = true) (hz : (hAll m seen m.st.toNat).length ≤ 4096) : mayB (hideM m seen) = true := by
  have hm' := mayB_size hm
  unfold sizeOk at hm'
  have hl := row_short (by omega) (by omega) hs
  rw [mayB_go (m := hideM m seen) ⟨hm'.1, hm'.2.1, by show (0 : Int) ≤ seen.length; omega, by show (seen.length : Int) ≤ 8; omega, hz⟩ ((rowB_iff _ (by show m.st ≤ _; omega) _).2 ⟨inc_wide _ _ _, wide_bd hm (may_starts hm).2⟩) (show rowB m.st m.ends = true from mayB_ends hm)]
  rw [arrsFrom_iff]
  refine ⟨fun x hx => ?_, incA_hAll _ _ _, fun _ _ => rfl⟩
  obtain ⟨f, k, hf, hk, hx⟩ := (mem_hAll _ _ _ _).1 hx
  obtain ⟨t, ht, rfl⟩ := (mem_hRow _ _ _ _ _).1 hx
  have hb := wide_bd hm (step_bd hm) t ht
  exact ⟨by dsimp only; omega, by show (f : Int) < m.st; omega, hb.1, hb.2, by dsimp only; omega, by show (k : Int) < seen.length; omega⟩

/-! What is seen of a word that is accepted is accepted. -/
/-- The seen events of a word, by their numbers. -/
def numL (seen word : List Int) : List Int := (seenL seen word).map fun e => placeI seen e
theorem hide_step {m : Mach} (hm : mayB m = true) {seen : List Int} {ss : List Int} {e : Int} (he : e ∈ seen) {a : Arr} (ha : a ∈ m.arrows) (hae : a.e = e) (hf : a.f ∈ ss) : a.t ∈ stepL (hideM m seen).arrows ss (placeI seen e) := by
  obtain ⟨j, hj⟩ := placeN_mem he
  have h1 := placeI_of hj
  have h2 := placeN_some hj
  have hb := may_arrs hm a ha
  have hk := (List.getElem?_eq_some_iff.1 h2).1
  refine (mem_stepL _ _ _ _).2 ⟨⟨a.f, (j : Int), a.t⟩, ?_, h1.symm, hf, rfl⟩
  show _ ∈ hAll m seen m.st.toNat
  refine (mem_hAll _ _ _ _).2 ⟨a.f.toNat, j, by have := hb.1; have := hb.2.1; omega, hk, (mem_hRow _ _ _ _ _).2 ⟨a.t, ?_, ?_⟩⟩
  · have hc : ((a.f.toNat : Nat) : Int) = a.f := by have := hb.1; omega
    rw [h2, Option.getD_some, hc]
    refine wide_sub (may_to hm) _ ((mem_stepL _ _ _ _).2 ⟨a, ha, hae, wide_sub (may_to hm) _ (by simp), rfl⟩)
  · have hc : ((a.f.toNat : Nat) : Int) = a.f := by have := hb.1; omega
    rw [hc]
theorem hide_closed {m : Mach} (hm : mayB m = true) {seen : List Int} {ss : List Int} {k : Int} {a : Arr} (ha : a ∈ m.arrows) (hu : hasB seen a.e = false) (h : a.f ∈ stepL (hideM m seen).arrows ss k) : a.t ∈ stepL (hideM m seen).arrows ss k := by
  obtain ⟨c, hc, h1, h2, h3⟩ := (mem_stepL _ _ _ _).1 h
  obtain ⟨f, j, hf, hj, hx⟩ := (mem_hAll _ _ _ _).1 hc
  obtain ⟨t, ht, rfl⟩ := (mem_hRow _ _ _ _ _).1 hx
  dsimp only at h1 h2 h3
  subst h3
  exact (mem_stepL _ _ _ _).2 ⟨⟨(f : Int), (j : Int), a.t⟩, (mem_hAll _ _ _ _).2 ⟨f, j, hf, hj, (mem_hRow _ _ _ _ _).2 ⟨a.t, wide_cl (may_to hm) ha hu ht, rfl⟩⟩, h1, h2, rfl⟩
theorem hide_after {m : Mach} (hm : mayB m = true) {seen : List Int} : ∀ (word : List Int) {ss ss' : List Int}, (∀ x ∈ ss, x ∈ ss') → (∀ a ∈ m.arrows, hasB seen a.e = false → a.f ∈ ss' → a.t ∈ ss') → ∀ x ∈ afterL m.arrows ss word, x ∈ afterL (hideM m seen).arrows ss' (numL seen word)
  | [], _, _, h, _, x, hx => h x hx
  | e :: r, ss, ss', h, hc, x, hx => by
    have hx : x ∈ afterL m.arrows (stepL m.arrows ss e) r := hx
    cases hs : hasB seen e with
    | false =>
      have e1 : numL seen (e :: r) = numL seen r := by simp [numL, seenL, hs]
      rw [e1]
      refine hide_after hm r (fun y hy => ?_) hc x hx
      obtain ⟨a, ha, hae, hf, rfl⟩ := (mem_stepL _ _ _ _).1 hy
      exact hc a ha (by rw [hae]; exact hs) (h _ hf)
    | true =>
      have e1 : numL seen (e :: r) = placeI seen e :: numL seen r := by simp [numL, seenL, hs]
      rw [e1]
      show x ∈ afterL _ (stepL (hideM m seen).arrows ss' (placeI seen e)) (numL seen r)
      refine hide_after hm r (fun y hy => ?_) (fun a ha hu hf => hide_closed hm ha hu hf) x hx
      obtain ⟨a, ha, hae, hf, rfl⟩ := (mem_stepL _ _ _ _).1 hy
      exact hide_step hm ((hasB_iff _ _).1 hs) ha hae (h _ hf)
theorem hide_sees {m : Mach} (hm : mayB m = true) {seen : List Int} {word : List Int} (h : acceptsB m word = true) : acceptsB (hideM m seen) (numL seen word) = true := by
  obtain ⟨x, hx, he⟩ := (accepts_iff _ _).1 h
  exact (accepts_iff _ _).2 ⟨x, hide_after hm word (wide_sub (may_to hm)) (fun a ha hu hf => wide_cl (may_to hm) ha hu hf) x hx, he⟩

end Go.Proofs.YtbdkaobbfmgnhaaDoor
namespace Go.Proofs.YtbdkaobbfmgnhaaDoor
open Go.RowKit
set_option linter.unusedVariables false

theorem results_twoM {fn : Func} {p u : Tmp} (h : fn.results = #[.cell p 25, .tmp u]) (tmps : Array Value) (w : World) (g : Nat) (m : Mach) (l : ML) (x : Value) (hp : tmps.getD p undef = .pointer (some ⟨g, 0, none⟩)) (hu : tmps.getD u undef = x) (hB : Blk w g 25 (mcells m l)) :
    (results fn tmps).run Tryd.prog w = .ok (.tuple #[mval m l, x]) w := by
  obtain ⟨x0, x1, x2, x3, x4⟩ := mcell_at hB
  have e : (results fn tmps).run Tryd.prog w = ((asAddr (tmps.getD p undef)).run Tryd.prog w).andThen fun a w₁ => ((loadVar 25 a).run Tryd.prog w₁).andThen fun r w₂ => .ok (.tuple #[r, tmps.getD u undef]) w₂ := by
    simp only [results, h]
    simp [Sem.run_bind, Result.andThen]
  rw [e, hp, hu]
  go_simp

/-- What Hide leaves where something is wrong. -/
def HErr (c : Int) (w : World) (e : Ending) (w' : World) : Prop := e = .returned (.tuple #[mval m0 ml0, .int .i64 c]) ∧ Below w.heap.size w w'
/-- What Hide leaves. -/
def HidePost (w : World) (m : Mach) (seen : List Int) (e : Ending) (w' : World) : Prop :=
  if mayB m = false ∨ rowB m.ev seen = false then HErr 2 w e w'
  else if (hAll m seen m.st.toNat).length ≤ 4096 then ∃ L, e = .returned (.tuple #[mval (hideM m seen) L, .int .i64 0]) ∧ MAt w' (hideM m seen) L ∧ Below w.heap.size w w'
  else HErr 1 w e w'

end Go.Proofs.YtbdkaobbfmgnhaaDoor
namespace Go.Proofs.YtbdkaobbfmgnhaaDoor
open Go.RowKit
set_option linter.unusedVariables false

theorem hFrom_succ (m : Mach) (seen : List Int) (f k : Nat) : hFrom m seen f (k + 1) = hFrom m seen f k ++ hRow m seen f k := by
  unfold hFrom; rw [List.range_succ, List.flatMap_append]; simp
theorem hAll_succ (m : Mach) (seen : List Int) (f : Nat) : hAll m seen (f + 1) = hAll m seen f ++ hFrom m seen f seen.length := by
  unfold hAll; rw [List.range_succ, List.flatMap_append]; simp
section
variable {w W : World} {B bm : Nat} {m : Mach} {l : ML} {K : Nat} {vs va : Value} {S : List Int} {A : List Arr}
theorem Own.keep {w w' : World} {B B' : Nat} {v : Value} {L : List Int} (h : Own w B v L) (hb : Below B' w w') (hB : w.heap.size ≤ B') : Own w' B v L :=
  own_same h (fun k hk => hb.block k (Nat.lt_of_lt_of_le (World.ownsRow.lt h k hk).2 hB))
end

end Go.Proofs.YtbdkaobbfmgnhaaDoor
namespace Go.Proofs.YtbdkaobbfmgnhaaDoor
open Go.RowKit
set_option linter.unusedVariables false

set_option maxRecDepth 100000 in
set_option maxHeartbeats 4000000 in
theorem dmake_err (m : Mach) (l : ML) (w : World) (h : Hid (MAt w m l)) (hm : Hid (mayB m = false)) :
    Calls Tryd.prog 34 #[mval m l] w fun e w' => MakePost w m e w' := by
  have B0 : Hid (Below w.heap.size w ((w.alloc (.cells (mcells m l) 25)).alloc (.cells zcells 25))) := ((Below.refl _ _).alloc (Nat.le_refl _) _).alloc (by simp) _
  have R0 : Hid (Blk ((w.alloc (.cells (mcells m l) 25)).alloc (.cells zcells 25)) (w.heap.size + 1) 25 zcells) := by
    have := Blk.new (w.alloc (.cells (mcells m l) 25)) 25 zcells
    rwa [World.size_alloc] at this
  go_enter Tryd.func34, Tryd.ntmps34
  go_wp2_with fail
  revert B0 R0
  generalize (w.alloc (.cells (mcells m l) 25)).alloc (.cells zcells 25) = V0
  intro B0 R0
  refine (pMay_any m l _ (h.out.below B0.out (Nat.le_refl _))).mono ?_
  rintro e V ⟨rfl, hb1⟩
  rw [hm.out]
  have B1 := Hid.of (B0.out.trans (hb1.mono B0.out.size))
  have R1 := Hid.of (R0.out.below hb1 R0.out.lt)
  clear hb1 B0 R0
  obtain ⟨r0, r1, r2, r3, r4⟩ := zcell_at R1.out
  have rz := R1.out.frozen
  have RR : Hid (Blk _ (w.heap.size + 1) 25 (mcells m0 ml0)) := R1.out.set5 (.int .i64 0) (.int .i64 0) (.slice none 0 0) (.slice none 0 0) (.slice none 0 0)
  go_wp2
  refine bodyPost_ret (v := .tuple #[mval m0 ml0, .slice none 0 0, .int .i64 2]) ?_ rfl (makePost_err (detOut_bad hm.out) (below_set5 B1.out (b' := w.heap.size + 1) (by omega) _ _ _ _ _))
  exact results_three (p := 2) (u := 3) (v := 4) rfl _ _ (w.heap.size + 1) m0 ml0 _ _ rfl rfl rfl RR.out

theorem at_oneD (W : World) (x : Int) : At (W.alloc (.cells #[.int .i64 x] 3)) (some ⟨W.heap.size, 0, none⟩) [x] := by
  refine .inr ⟨W.heap.size, 0, rfl, by simp, fun j hj => ?_⟩
  have hj : j = 0 := by simp at hj; exact hj
  subst hj
  exact (Blk.new W 3 #[.int .i64 x]).cell 0 rfl

theorem make_some {st ev : Nat} {starts : List Int} {ars : List Arr} {ends : List Int} {s : DS} {SL : List (Nat → Nat)} (h : RepL SL s.sets) (hr : Rep (ofS ends) ends) : detM ⟨(st : Int), (ev : Int), starts, ars, ends⟩ s = ⟨(SL.length : Int), (ev : Int), [0], s.ar, meetFrom (ofS ends) 0 SL⟩ := by
  unfold detM endsD
  rw [h.len, meet_ends hr 0 h]

set_option maxRecDepth 100000 in
set_option maxHeartbeats 8000000 in
theorem dmake_ok (st ev : Nat) (starts : List Int) (ars : List Arr) (ends : List Int) (a1 : Option Addr) (c1 : Nat) (a2 : Option Addr) (c2 : Nat) (a3 : Option Addr) (c3 : Nat) (w : World) (h : Hid (MAt w ⟨(st : Int), (ev : Int), starts, ars, ends⟩ ⟨a1, c1, a2, c2, a3, c3⟩)) (hm : Hid (mayB ⟨(st : Int), (ev : Int), starts, ars, ends⟩ = true)) (hT : Hid (Tab w)) :
    Calls Tryd.prog 34 #[mval ⟨(st : Int), (ev : Int), starts, ars, ends⟩ ⟨a1, c1, a2, c2, a3, c3⟩] w fun e w' => MakePost w ⟨(st : Int), (ev : Int), starts, ars, ends⟩ e w' := by
  have hz := mayB_size hm.out
  unfold sizeOk at hz
  dsimp only at hz
  have hst : st ≤ 256 := by omega
  have hev : ev ≤ 8 := by omega
  have hlen : Hid (ars.length ≤ 4096) := show _ ≤ _ by omega
  clear hz
  have hsl : Hid (starts.length ≤ maxLen) := Nat.le_trans h.out.s1 h.out.s2
  have hel : Hid (ends.length ≤ maxLen) := Nat.le_trans h.out.e1 h.out.e2
  have hsb : Hid (∀ x ∈ starts, 0 ≤ x ∧ x < 256) := fun x hx => by have := (may_starts hm.out).2 x hx; dsimp only at this; omega
  have heb : Hid (∀ x ∈ ends, 0 ≤ x ∧ x < 256) := fun x hx => by have := (may_ends hm.out).2 x hx; dsimp only at this; omega
  have hrs : Hid (Rep (ofS starts) starts) := by
    have := rep_of hsb.out starts.length
    rwa [List.take_of_length_le (Nat.le_refl _)] at this
  have hre : Hid (Rep (ofS ends) ends) := by
    have := rep_of heb.out ends.length
    rwa [List.take_of_length_le (Nat.le_refl _)] at this
  have B0 : Hid (Below w.heap.size w ((w.alloc (.cells (mcells ⟨(st : Int), (ev : Int), starts, ars, ends⟩ ⟨a1, c1, a2, c2, a3, c3⟩) 25)).alloc (.cells zcells 25))) := ((Below.refl _ _).alloc (Nat.le_refl _) _).alloc (by simp) _
  have K0 : Hid (Blk ((w.alloc (.cells (mcells ⟨(st : Int), (ev : Int), starts, ars, ends⟩ ⟨a1, c1, a2, c2, a3, c3⟩) 25)).alloc (.cells zcells 25)) w.heap.size 25 (mcells ⟨(st : Int), (ev : Int), starts, ars, ends⟩ ⟨a1, c1, a2, c2, a3, c3⟩)) := (Blk.new w _ _).alloc _
  have R0 : Hid (Blk ((w.alloc (.cells (mcells ⟨(st : Int), (ev : Int), starts, ars, ends⟩ ⟨a1, c1, a2, c2, a3, c3⟩) 25)).alloc (.cells zcells 25)) (w.heap.size + 1) 25 zcells) := by
    have := Blk.new (w.alloc (.cells (mcells ⟨(st : Int), (ev : Int), starts, ars, ends⟩ ⟨a1, c1, a2, c2, a3, c3⟩) 25)) 25 zcells
    rwa [World.size_alloc] at this
  go_enter Tryd.func34, Tryd.ntmps34
  go_wp2_with fail
  revert B0 K0 R0
  generalize (w.alloc (.cells (mcells ⟨(st : Int), (ev : Int), starts, ars, ends⟩ ⟨a1, c1, a2, c2, a3, c3⟩) 25)).alloc (.cells zcells 25) = V0
  intro B0 K0 R0
  refine (pMay_any ⟨(st : Int), (ev : Int), starts, ars, ends⟩ ⟨a1, c1, a2, c2, a3, c3⟩ _ (h.out.below B0.out (Nat.le_refl _))).mono ?_
  rintro e V ⟨rfl, hb1⟩
  rw [hm.out]
  have B1 : Hid (Below w.heap.size w V.drew) := (B0.out.trans (hb1.mono B0.out.size)).drew
  have K1 : Hid (Blk V.drew w.heap.size 25 (mcells ⟨(st : Int), (ev : Int), starts, ars, ends⟩ ⟨a1, c1, a2, c2, a3, c3⟩)) := Blk.drew (K0.out.below hb1 K0.out.lt)
  have R1 : Hid (Blk V.drew (w.heap.size + 1) 25 zcells) := Blk.drew (R0.out.below hb1 R0.out.lt)
  clear hb1 B0 K0 R0
  go_wp2
  refine wp_region_held_drew (S := fun w' => w'.cell? ⟨w.heap.size, 0, none⟩ = some (.int .i64 st) ∧ w'.cell? ⟨w.heap.size, 1, none⟩ = some (.int .i64 ev) ∧ w'.cell? ⟨w.heap.size, 2, none⟩ = some (.slice a1 starts.length c1) ∧ w'.cell? ⟨w.heap.size, 3, none⟩ = some (.slice a2 ars.length c2) ∧ w'.cell? ⟨w.heap.size, 4, none⟩ = some (.slice a3 ends.length c3)) (by kernel_rfl) (mcell_at K1.out) (fun hS0 => ?_)
  revert B1 K1 R1 hS0
  generalize V.drew = Y0
  intro B1 K1 R1 hS0
  refine wpAnyH_take (i := 0) (v := .pointer (some ⟨w.heap.size, 2, none⟩)) rfl (by kernel_rfl) (by kernel_rfl) (by kernel_rfl) (fun _ _ _ h => h) (Or.inl ⟨by kernel_rfl, fun w' hw' => by obtain ⟨q0, q1, q2, q3, q4⟩ := hw'; go_simp⟩) hS0 ?_
  refine wpAnyH_take (i := 1) (v := .slice a1 starts.length c1) rfl (by kernel_rfl) (by kernel_rfl) (by kernel_rfl) (fun _ _ _ h => h) (Or.inl ⟨by kernel_rfl, fun w' hw' => by obtain ⟨q0, q1, q2, q3, q4⟩ := hw'; go_simp⟩) hS0 ?_
  refine wpAnyH_take (i := 3) (v := .pointer (some ⟨w.heap.size, 1, none⟩)) rfl (by kernel_rfl) (by kernel_rfl) (by kernel_rfl) (fun _ _ _ h => h) (Or.inl ⟨by kernel_rfl, fun w' hw' => by obtain ⟨q0, q1, q2, q3, q4⟩ := hw'; go_simp⟩) hS0 ?_
  refine wpAnyH_take (i := 4) (v := .int .i64 ev) rfl (by kernel_rfl) (by kernel_rfl) (by kernel_rfl) (fun _ _ _ h => h) (Or.inl ⟨by kernel_rfl, fun w' hw' => by obtain ⟨q0, q1, q2, q3, q4⟩ := hw'; go_simp⟩) hS0 ?_
  refine wpAnyH_take (i := 5) (v := .agg #[.int .i64 st, .int .i64 ev, .slice a1 starts.length c1, .slice a2 ars.length c2, .slice a3 ends.length c3]) rfl (by kernel_rfl) (by kernel_rfl) (by kernel_rfl) (fun _ _ _ h => h) (Or.inl ⟨by kernel_rfl, fun w' hw' => by obtain ⟨q0, q1, q2, q3, q4⟩ := hw'; go_simp⟩) hS0 ?_
  simp only [Act.put, List.setIfInBounds_toArray]
  refine wpAnyH_ready (rs := [2]) (by kernel_rfl) (by simp) ?_
  refine AllReadyH.cons rfl (fun K' hK' => ?_) AllReadyH.nil
  go_simp
  refine (of_any a1 c1 starts _ (h.out.s.below B1.out (Nat.le_refl _)) hsl.out hsb.out).mono ?_
  rintro e Y1 ⟨rfl, hb1⟩
  have B2 := Hid.of (B1.out.trans (hb1.mono B1.out.size))
  have K2 := Hid.of (K1.out.below hb1 K1.out.lt)
  have R2 := Hid.of (R1.out.below hb1 R1.out.lt)
  refine hK'.out _ _ (mcell_at K2.out) (fun hS1 => ?_)
  clear hK' K' hb1 B1 K1 R1 hS0
  refine wpAnyH_ready (rs := [6]) (by kernel_rfl) (by simp) ?_
  refine AllReadyH.cons rfl (fun K' hK' => ?_) AllReadyH.nil
  go_simp
  refine (leader_go st ev starts ars ends a1 c1 a2 c2 a3 c3 _ (Hid.of (h.out.below B2.out (Nat.le_refl _))) hm hst hev hlen.out (Hid.of (may_arrs hm.out))).mono ?_
  rintro e Y2 ⟨L, rfl, hLD, hLa, hb2⟩
  have B3 := Hid.of (B2.out.trans (hb2.mono B2.out.size))
  have K3 := Hid.of (K2.out.below hb2 K2.out.lt)
  have R3 := Hid.of (R2.out.below hb2 R2.out.lt)
  have HLD := Hid.of hLD
  refine hK'.out _ _ (mcell_at K3.out) (fun hS2 => ?_)
  clear hK' K' hb2 B2 K2 R2 hS1 hLD hLa
  refine wpAnyH_ready (rs := [7]) (by kernel_rfl) (by simp) ?_
  refine AllReadyH.cons rfl (fun K' hK' => ?_) AllReadyH.nil
  go_simp
  refine (find_any0 st ev starts ars ends hm (ofS starts) hrs L _ (Hid.of (hT.out.below B3.out hT.out.lt)) HLD).mono ?_
  intro e Y3 hfp
  unfold FindPost at hfp
  have hY2 : Hid (w.heap.size + 2 ≤ Y2.heap.size) := R3.out.lt
  cases hd : detS ⟨(st : Int), (ev : Int), starts, ars, ends⟩ with
  | none =>
    rw [hd] at hfp
    obtain ⟨rfl, hb3⟩ := hfp
    have HDN := Hid.of (detOut_none hm.out hd)
    have B4 := Hid.of (B3.out.trans (hb3.mono B3.out.size))
    have K4 := Hid.of (K3.out.below hb3 K3.out.lt)
    have R4 := Hid.of (R3.out.below hb3 R3.out.lt)
    refine hK'.out _ _ (mcell_at K4.out) (fun hS3 => ?_)
    clear hK' K' hb3 B3 K3 R3 hS2 hd HLD
    refine wpAnyH_take (i := 8) (v := .tuple #[.slice none 0 0, .slice none 0 0, .bool false]) rfl (by kernel_rfl) (by kernel_rfl) (by kernel_rfl) (fun _ _ _ h => h) (Or.inl ⟨by kernel_rfl, fun w' hw' => by obtain ⟨q0, q1, q2, q3, q4⟩ := hw'; go_simp⟩) hS3 ?_
    refine wpAnyH_take (i := 9) (v := .slice none 0 0) rfl (by kernel_rfl) (by kernel_rfl) (by kernel_rfl) (fun _ _ _ h => h) (Or.inl ⟨by kernel_rfl, fun w' hw' => by obtain ⟨q0, q1, q2, q3, q4⟩ := hw'; go_simp⟩) hS3 ?_
    refine wpAnyH_take (i := 10) (v := .slice none 0 0) rfl (by kernel_rfl) (by kernel_rfl) (by kernel_rfl) (fun _ _ _ h => h) (Or.inl ⟨by kernel_rfl, fun w' hw' => by obtain ⟨q0, q1, q2, q3, q4⟩ := hw'; go_simp⟩) hS3 ?_
    refine wpAnyH_take (i := 11) (v := .bool false) rfl (by kernel_rfl) (by kernel_rfl) (by kernel_rfl) (fun _ _ _ h => h) (Or.inl ⟨by kernel_rfl, fun w' hw' => by obtain ⟨q0, q1, q2, q3, q4⟩ := hw'; go_simp⟩) hS3 ?_
    refine wpAnyH_take (i := 12) (v := .slice none 0 0) rfl (by kernel_rfl) (by kernel_rfl) (by kernel_rfl) (fun _ _ _ h => h) (Or.inl ⟨by kernel_rfl, fun w' hw' => by obtain ⟨q0, q1, q2, q3, q4⟩ := hw'; go_simp⟩) hS3 ?_
    refine wpAnyH_take (i := 13) (v := .slice none 0 0) rfl (by kernel_rfl) (by kernel_rfl) (by kernel_rfl) (fun _ _ _ h => h) (Or.inl ⟨by kernel_rfl, fun w' hw' => by obtain ⟨q0, q1, q2, q3, q4⟩ := hw'; go_simp⟩) hS3 ?_
    refine wpAnyH_take (i := 14) (v := .bool false) rfl (by kernel_rfl) (by kernel_rfl) (by kernel_rfl) (fun _ _ _ h => h) (Or.inl ⟨by kernel_rfl, fun w' hw' => by obtain ⟨q0, q1, q2, q3, q4⟩ := hw'; go_simp⟩) hS3 ?_
    refine wpAnyH_done (by kernel_rfl) ?_ _
    obtain ⟨r0, r1, r2, r3, r4⟩ := zcell_at R4.out
    have rz := R4.out.frozen
    have RR : Hid (Blk _ (w.heap.size + 1) 25 (mcells m0 ml0)) := R4.out.set5 (.int .i64 0) (.int .i64 0) (.slice none 0 0) (.slice none 0 0) (.slice none 0 0)
    simp only [Act.put, List.setIfInBounds_toArray]
    go_wp2
    refine bodyPost_ret (v := .tuple #[mval m0 ml0, .slice none 0 0, .int .i64 1]) ?_ rfl (makePost_err HDN.out (below_set5 B4.out (b' := w.heap.size + 1) (by omega) _ _ _ _ _))
    exact results_three (p := 2) (u := 3) (v := 4) rfl _ _ (w.heap.size + 1) m0 ml0 _ _ rfl rfl rfl RR.out
  | some s =>
    rw [hd] at hfp
    obtain ⟨vs, va, SL, rfl, hRL, hOS, hOA, hb3⟩ := hfp
    have HDN := Hid.of (detOut_some hm.out hd)
    have H256 := Hid.of (detS_di hm.out hd).2
    have D4 : Hid (DB w Y3 ⟨(st : Int), (ev : Int), starts, ars, ends⟩ ⟨a1, c1, a2, c2, a3, c3⟩ vs va SL s.ar) := ⟨B3.out.trans (hb3.mono B3.out.size), K3.out.below hb3 K3.out.lt, R3.out.below hb3 R3.out.lt, ownsRow_low hOS hY2.out, ownsRow_low hOA hY2.out, hT.out.below (B3.out.trans (hb3.mono B3.out.size)) hT.out.lt⟩
    refine hK'.out _ _ (mcell_at D4.out.kb) (fun hS3 => ?_)
    clear hK' K' hb3 B3 K3 R3 hS2 hd hOS hOA HLD
    obtain ⟨va8, vc8, hvs, -, -, -⟩ := own_form2 D4.out.ss
    subst hvs
    obtain ⟨fa, fc, hva, fl1, fl2, fl3⟩ := own_form2 D4.out.ar
    subst hva
    refine wpAnyH_take (i := 8) (v := .tuple #[.slice va8 SL.length vc8, .slice fa s.ar.length fc, .bool true]) rfl (by kernel_rfl) (by kernel_rfl) (by kernel_rfl) (fun _ _ _ h => h) (Or.inl ⟨by kernel_rfl, fun w' hw' => by obtain ⟨q0, q1, q2, q3, q4⟩ := hw'; go_simp⟩) hS3 ?_
    refine wpAnyH_take (i := 9) (v := .slice va8 SL.length vc8) rfl (by kernel_rfl) (by kernel_rfl) (by kernel_rfl) (fun _ _ _ h => h) (Or.inl ⟨by kernel_rfl, fun w' hw' => by obtain ⟨q0, q1, q2, q3, q4⟩ := hw'; go_simp⟩) hS3 ?_
    refine wpAnyH_take (i := 10) (v := .slice fa s.ar.length fc) rfl (by kernel_rfl) (by kernel_rfl) (by kernel_rfl) (fun _ _ _ h => h) (Or.inl ⟨by kernel_rfl, fun w' hw' => by obtain ⟨q0, q1, q2, q3, q4⟩ := hw'; go_simp⟩) hS3 ?_
    refine wpAnyH_take (i := 11) (v := .bool true) rfl (by kernel_rfl) (by kernel_rfl) (by kernel_rfl) (fun _ _ _ h => h) (Or.inl ⟨by kernel_rfl, fun w' hw' => by obtain ⟨q0, q1, q2, q3, q4⟩ := hw'; go_simp⟩) hS3 ?_
    refine wpAnyH_take (i := 12) (v := .slice va8 SL.length vc8) rfl (by kernel_rfl) (by kernel_rfl) (by kernel_rfl) (fun _ _ _ h => h) (Or.inl ⟨by kernel_rfl, fun w' hw' => by obtain ⟨q0, q1, q2, q3, q4⟩ := hw'; go_simp⟩) hS3 ?_
    refine wpAnyH_take (i := 13) (v := .slice fa s.ar.length fc) rfl (by kernel_rfl) (by kernel_rfl) (by kernel_rfl) (fun _ _ _ h => h) (Or.inl ⟨by kernel_rfl, fun w' hw' => by obtain ⟨q0, q1, q2, q3, q4⟩ := hw'; go_simp⟩) hS3 ?_
    refine wpAnyH_take (i := 14) (v := .bool true) rfl (by kernel_rfl) (by kernel_rfl) (by kernel_rfl) (fun _ _ _ h => h) (Or.inl ⟨by kernel_rfl, fun w' hw' => by obtain ⟨q0, q1, q2, q3, q4⟩ := hw'; go_simp⟩) hS3 ?_
    refine wpAnyH_done (by kernel_rfl) ?_ _
    have HRL := Hid.of hRL
    have hSLl : SL.length ≤ 256 := by rw [hRL.len]; exact H256.out
    have hok : Hid (∀ S ∈ SL, okS S) := fun S hS => by
      obtain ⟨j, hj⟩ := List.mem_iff_getElem?.1 hS
      obtain ⟨l', -, q, -⟩ := hRL.rep j S hj
      exact q.ok
    have HME : Hid (detM ⟨(st : Int), (ev : Int), starts, ars, ends⟩ s = ⟨(SL.length : Int), (ev : Int), [0], s.ar, meetFrom (ofS ends) 0 SL⟩) := make_some HRL.out hre.out
    have HSE : Hid (s.sets = SL.map rowS) := HRL.out.map.symm
    clear hRL hS3
    simp only [Act.put, List.setIfInBounds_toArray]
    go_wp2
    have hbd : Below Y3.heap.size Y3 Y3.drew := (Below.refl _ _).drew
    have D := Hid.of (D4.out.below hbd)
    refine wp_region_held_drew (S := fun w' => w'.cell? ⟨w.heap.size, 1, none⟩ = some (.int .i64 ev) ∧ w'.cell? ⟨w.heap.size, 4, none⟩ = some (.slice a3 ends.length c3)) (by kernel_rfl) D4.out.cells (fun hS0 => ?_)
    clear D4 hbd
    revert D hS0
    generalize Y3.drew = Z0
    intro D hS0
    refine wpAnyH_take (i := 0) (v := .slice va8 SL.length vc8) rfl (by kernel_rfl) (by kernel_rfl) (by kernel_rfl) (fun _ _ _ h => h) (Or.inl ⟨by kernel_rfl, fun w' hw' => by obtain ⟨q0, q1⟩ := hw'; go_simp⟩) hS0 ?_
    refine wpAnyH_take (i := 1) (v := .int .i64 SL.length) rfl (by kernel_rfl) (by kernel_rfl) (by kernel_rfl) (fun _ _ _ h => h) (Or.inl ⟨by kernel_rfl, fun w' hw' => by obtain ⟨q0, q1⟩ := hw'; go_simp⟩) hS0 ?_
    refine wpAnyH_take (i := 2) (v := .pointer (some ⟨w.heap.size, 1, none⟩)) rfl (by kernel_rfl) (by kernel_rfl) (by kernel_rfl) (fun _ _ _ h => h) (Or.inl ⟨by kernel_rfl, fun w' hw' => by obtain ⟨q0, q1⟩ := hw'; go_simp⟩) hS0 ?_
    refine wpAnyH_take (i := 3) (v := .int .i64 ev) rfl (by kernel_rfl) (by kernel_rfl) (by kernel_rfl) (fun _ _ _ h => h) (Or.inl ⟨by kernel_rfl, fun w' hw' => by obtain ⟨q0, q1⟩ := hw'; go_simp⟩) hS0 ?_
    refine wpAnyH_take (i := 5) (v := .slice fa s.ar.length fc) rfl (by kernel_rfl) (by kernel_rfl) (by kernel_rfl) (fun _ _ _ h => h) (Or.inl ⟨by kernel_rfl, fun w' hw' => by obtain ⟨q0, q1⟩ := hw'; go_simp⟩) hS0 ?_
    refine wpAnyH_take (i := 6) (v := .slice va8 SL.length vc8) rfl (by kernel_rfl) (by kernel_rfl) (by kernel_rfl) (fun _ _ _ h => h) (Or.inl ⟨by kernel_rfl, fun w' hw' => by obtain ⟨q0, q1⟩ := hw'; go_simp⟩) hS0 ?_
    refine wpAnyH_take (i := 7) (v := .pointer (some ⟨w.heap.size, 4, none⟩)) rfl (by kernel_rfl) (by kernel_rfl) (by kernel_rfl) (fun _ _ _ h => h) (Or.inl ⟨by kernel_rfl, fun w' hw' => by obtain ⟨q0, q1⟩ := hw'; go_simp⟩) hS0 ?_
    refine wpAnyH_take (i := 8) (v := .slice a3 ends.length c3) rfl (by kernel_rfl) (by kernel_rfl) (by kernel_rfl) (fun _ _ _ h => h) (Or.inl ⟨by kernel_rfl, fun w' hw' => by obtain ⟨q0, q1⟩ := hw'; go_simp⟩) hS0 ?_
    refine wpAnyH_take (i := 12) (v := .slice va8 SL.length vc8) rfl (by kernel_rfl) (by kernel_rfl) (by kernel_rfl) (fun _ _ _ h => h) (Or.inl ⟨by kernel_rfl, fun w' hw' => by obtain ⟨q0, q1⟩ := hw'; go_simp⟩) hS0 ?_
    simp only [Act.put, List.setIfInBounds_toArray]
    refine wpAnyH_ready (rs := [4, 9]) (by kernel_rfl) (by simp) ?_
    refine AllReadyH.cons rfl (fun K' hK' => ?_) (AllReadyH.cons rfl (fun K' hK' => ?_) AllReadyH.nil)
    · go_simp
      have hb : Below Z0.heap.size Z0 (Z0.alloc (.cells #[.int .i64 0] 3)) := (Below.refl _ _).alloc (Nat.le_refl _) _
      have D' := Hid.of (D.out.below hb)
      have A4n := Hid.of (at_oneD Z0 0)
      have P4 : Hid (w.heap.size + 2 ≤ Z0.heap.size) := D.out.rb.lt
      refine hK'.out _ _ D'.out.cells (fun hSn => ?_)
      clear hK' K' hb D hS0 
      revert D' A4n hSn
      generalize Z0.alloc (.cells #[.int .i64 0] 3) = Z1
      revert P4
      generalize Z0.heap.size = p
      intro P4 D  A4 hS1
      refine wpAnyH_ready (rs := [9]) (by kernel_rfl) (by simp) ?_
      refine AllReadyH.cons rfl (fun K' hK' => ?_) AllReadyH.nil
      go_simp
      refine (of_any a3 c3 ends _ (h.out.e.below D.out.bel (Nat.le_refl _)) hel.out heb.out).mono ?_
      rintro e Z2 ⟨rfl, hb⟩
      have D' := Hid.of (D.out.below hb)
      have A4' := Hid.of (A4.out.below hb (Nat.le_refl _))
      refine hK'.out _ _ D'.out.cells (fun hS2 => ?_)
      clear hK' K' hb D hS1 A4
      have D := D'
      have A4 := A4'
      clear D' A4'
      refine wpAnyH_ready (rs := [10]) (by kernel_rfl) (by simp) ?_
      refine AllReadyH.cons rfl (fun K' hK' => ?_) AllReadyH.nil
      go_simp
      refine (meeting_any (w.heap.size + 2) _ SL (ofS ends) _ (Hid.of D.out.ss) hSLl hok (Hid.of hre.out.ok)).mono ?_
      rintro e Z3 ⟨ve, rfl, oe, hb⟩
      obtain ⟨ea, ec, rfl, -, -, -, -⟩ := oe.at2
      have En := Hid.of (oe.low (show w.heap.size + 2 ≤ _ from D.out.rb.lt))
      clear oe
      have D' := Hid.of (D.out.below hb)
      have A4' := Hid.of (A4.out.below hb (Nat.le_refl _))
      refine hK'.out _ _ D'.out.cells (fun hS3 => ?_)
      clear hK' K' hb D hS2 A4
      have D := D'
      have A4 := A4'
      have E := En
      clear D' A4' En
      refine wpAnyH_take (i := 11) (v := .agg #[.int .i64 SL.length, .int .i64 ev, .slice (some ⟨p, 0, none⟩) 1 1, .slice fa s.ar.length fc, .slice ea (meetFrom (ofS ends) 0 SL).length ec]) rfl (by kernel_rfl) (by kernel_rfl) (by kernel_rfl) (fun _ _ _ h => h) (Or.inl ⟨by kernel_rfl, fun w' hw' => by obtain ⟨q0, q1⟩ := hw'; go_simp⟩) hS3 ?_
      refine wpAnyH_ready (rs := [13]) (by kernel_rfl) (by simp) ?_
      refine AllReadyH.cons rfl (fun K' hK' => ?_) AllReadyH.nil
      go_simp
      refine (rowsS_any (w.heap.size + 2) _ SL _ (Hid.of D.out.ss) hSLl hok (Hid.of D.out.tab)).mono ?_
      rintro e Z4 ⟨vr, rfl, orr, hb⟩
      obtain ⟨ra, rc, rfl, -, -, -, -⟩ := orr.at
      have RWn := Hid.of (orr.low (show w.heap.size + 2 ≤ _ from D.out.rb.lt))
      clear orr
      have D' := Hid.of (D.out.below hb)
      have A4' := Hid.of (A4.out.below hb (Nat.le_refl _))
      have E' := Hid.of (E.out.keep hb (Nat.le_refl _))
      refine hK'.out _ _ D'.out.cells (fun hS4 => ?_)
      clear hK' K' hb D hS3 A4 E
      have D := D'
      have A4 := A4'
      have E := E'
      have RW := RWn
      clear D' A4' E' RWn
      refine wpAnyH_ready (rs := [14]) (by kernel_rfl) (by simp) ?_
      refine AllReadyH.cons rfl (fun K' hK' => ?_) AllReadyH.nil
      obtain ⟨r0, r1, r2, r3, r4⟩ := zcell_at D.out.rb
      have rz := D.out.rb.frozen
      obtain ⟨xa, xc, xe, xt, x1, x2, x3⟩ := Own.at2 E.out
      cases xe
      obtain ⟨ya, yc, ye, yt, y1, y2, y3⟩ := OwnA.at D.out.ar
      cases ye
      have hMX : MAt Z4 ⟨(SL.length : Int), (ev : Int), [0], s.ar, meetFrom (ofS ends) 0 SL⟩ ⟨some ⟨p, 0, none⟩, 1, fa, fc, ea, ec⟩ := ⟨A4.out, yt, xt, Nat.le_refl _, (show (1 : Nat) ≤ maxLen by decide), (fun h => by cases h), y1, y2, y3, x1, x2, x3⟩
      have hFX : FrM (w.heap.size + 2) ⟨(SL.length : Int), (ev : Int), [0], s.ar, meetFrom (ofS ends) 0 SL⟩ ⟨some ⟨p, 0, none⟩, 1, fa, fc, ea, ec⟩ := ⟨.inr ⟨p, 0, rfl, P4.out⟩, OwnA.fr D.out.ar, Own.fr E.out⟩
      have hLF := Hid.of (dleaf D.out.bel D.out.rb hMX hFX RW.out)
      have hne : w.heap.size ≠ w.heap.size + 1 := by omega
      have KK := ((((D.out.kb.other hne (j := 0) (.int .i64 SL.length)).other hne (j := 1) (.int .i64 ev)).other hne (j := 2) (.slice (some ⟨p, 0, none⟩) 1 1)).other hne (j := 3) (.slice fa s.ar.length fc)).other hne (j := 4) (.slice ea (meetFrom (ofS ends) 0 SL).length ec)
      go_simp
      refine hK'.out _ _ ⟨KK.cell 1 rfl, KK.cell 4 rfl⟩ (fun hSZ => ?_)
      clear hK' K' r0 r1 r2 r3 r4 rz hMX hFX
      refine wpAnyH_take (i := 15) (v := .slice ra (SL.map rowS).length rc) rfl (by kernel_rfl) (by kernel_rfl) (by kernel_rfl) (fun _ _ _ h => h) (Or.inl ⟨by kernel_rfl, fun w' hw' => by obtain ⟨q0, q1⟩ := hw'; go_simp⟩) hSZ ?_
      refine wpAnyH_take (i := 16) (v := .int .i64 0) rfl (by kernel_rfl) (by kernel_rfl) (by kernel_rfl) (fun _ _ _ h => h) (Or.inl ⟨by kernel_rfl, fun w' hw' => by obtain ⟨q0, q1⟩ := hw'; go_simp⟩) hSZ ?_
      refine wpAnyH_done (by kernel_rfl) ?_ _
      clear KK hSZ
      go_wp2
      refine bodyPost_ret (v := .tuple #[mval ⟨(SL.length : Int), (ev : Int), [0], s.ar, meetFrom (ofS ends) 0 SL⟩ ⟨some ⟨p, 0, none⟩, 1, fa, fc, ea, ec⟩, .slice ra SL.length rc, .int .i64 0]) ?_ rfl ?_
      · exact results_three (p := 2) (u := 3) (v := 4) rfl _ _ (w.heap.size + 1) ⟨(SL.length : Int), (ev : Int), [0], s.ar, meetFrom (ofS ends) 0 SL⟩ ⟨some ⟨p, 0, none⟩, 1, fa, fc, ea, ec⟩ _ _ rfl rfl rfl hLF.out.1
      · unfold MakePost
        rw [HDN.out]
        dsimp only
        rw [HME.out, HSE.out]
        obtain ⟨za, zc, ze, zt, z1, z2, z3⟩ := hLF.out.2.2.1.at
        cases ze
        exact ⟨_, _, _, (by rw [List.length_map]), hLF.out.2.1, zt, (by rw [List.length_map]; exact hSLl), hLF.out.2.2.2⟩
    · go_simp
      refine (of_any a3 c3 ends _ (h.out.e.below D.out.bel (Nat.le_refl _)) hel.out heb.out).mono ?_
      rintro e Z1 ⟨rfl, hb⟩
      have D' := Hid.of (D.out.below hb)
      refine hK'.out _ _ D'.out.cells (fun hS1 => ?_)
      clear hK' K' hb D hS0 
      have D := D'
      clear D'
      refine wpAnyH_ready (rs := [4, 10]) (by kernel_rfl) (by simp) ?_
      refine AllReadyH.cons rfl (fun K' hK' => ?_) (AllReadyH.cons rfl (fun K' hK' => ?_) AllReadyH.nil)
      · go_simp
        have hb : Below Z1.heap.size Z1 (Z1.alloc (.cells #[.int .i64 0] 3)) := (Below.refl _ _).alloc (Nat.le_refl _) _
        have D' := Hid.of (D.out.below hb)
        have A4n := Hid.of (at_oneD Z1 0)
        have P4 : Hid (w.heap.size + 2 ≤ Z1.heap.size) := D.out.rb.lt
        refine hK'.out _ _ D'.out.cells (fun hSn => ?_)
        clear hK' K' hb D hS1 
        revert D' A4n hSn
        generalize Z1.alloc (.cells #[.int .i64 0] 3) = Z2
        revert P4
        generalize Z1.heap.size = p
        intro P4 D  A4 hS2
        refine wpAnyH_ready (rs := [10]) (by kernel_rfl) (by simp) ?_
        refine AllReadyH.cons rfl (fun K' hK' => ?_) AllReadyH.nil
        go_simp
        refine (meeting_any (w.heap.size + 2) _ SL (ofS ends) _ (Hid.of D.out.ss) hSLl hok (Hid.of hre.out.ok)).mono ?_
        rintro e Z3 ⟨ve, rfl, oe, hb⟩
        obtain ⟨ea, ec, rfl, -, -, -, -⟩ := oe.at2
        have En := Hid.of (oe.low (show w.heap.size + 2 ≤ _ from D.out.rb.lt))
        clear oe
        have D' := Hid.of (D.out.below hb)
        have A4' := Hid.of (A4.out.below hb (Nat.le_refl _))
        refine hK'.out _ _ D'.out.cells (fun hS3 => ?_)
        clear hK' K' hb D hS2 A4
        have D := D'
        have A4 := A4'
        have E := En
        clear D' A4' En
        refine wpAnyH_take (i := 11) (v := .agg #[.int .i64 SL.length, .int .i64 ev, .slice (some ⟨p, 0, none⟩) 1 1, .slice fa s.ar.length fc, .slice ea (meetFrom (ofS ends) 0 SL).length ec]) rfl (by kernel_rfl) (by kernel_rfl) (by kernel_rfl) (fun _ _ _ h => h) (Or.inl ⟨by kernel_rfl, fun w' hw' => by obtain ⟨q0, q1⟩ := hw'; go_simp⟩) hS3 ?_
        refine wpAnyH_ready (rs := [13]) (by kernel_rfl) (by simp) ?_
        refine AllReadyH.cons rfl (fun K' hK' => ?_) AllReadyH.nil
        go_simp
        refine (rowsS_any (w.heap.size + 2) _ SL _ (Hid.of D.out.ss) hSLl hok (Hid.of D.out.tab)).mono ?_
        rintro e Z4 ⟨vr, rfl, orr, hb⟩
        obtain ⟨ra, rc, rfl, -, -, -, -⟩ := orr.at
        have RWn := Hid.of (orr.low (show w.heap.size + 2 ≤ _ from D.out.rb.lt))
        clear orr
        have D' := Hid.of (D.out.below hb)
        have A4' := Hid.of (A4.out.below hb (Nat.le_refl _))
        have E' := Hid.of (E.out.keep hb (Nat.le_refl _))
        refine hK'.out _ _ D'.out.cells (fun hS4 => ?_)
        clear hK' K' hb D hS3 A4 E
        have D := D'
        have A4 := A4'
        have E := E'
        have RW := RWn
        clear D' A4' E' RWn
        refine wpAnyH_ready (rs := [14]) (by kernel_rfl) (by simp) ?_
        refine AllReadyH.cons rfl (fun K' hK' => ?_) AllReadyH.nil
        obtain ⟨r0, r1, r2, r3, r4⟩ := zcell_at D.out.rb
        have rz := D.out.rb.frozen
        obtain ⟨xa, xc, xe, xt, x1, x2, x3⟩ := Own.at2 E.out
        cases xe
        obtain ⟨ya, yc, ye, yt, y1, y2, y3⟩ := OwnA.at D.out.ar
        cases ye
        have hMX : MAt Z4 ⟨(SL.length : Int), (ev : Int), [0], s.ar, meetFrom (ofS ends) 0 SL⟩ ⟨some ⟨p, 0, none⟩, 1, fa, fc, ea, ec⟩ := ⟨A4.out, yt, xt, Nat.le_refl _, (show (1 : Nat) ≤ maxLen by decide), (fun h => by cases h), y1, y2, y3, x1, x2, x3⟩
        have hFX : FrM (w.heap.size + 2) ⟨(SL.length : Int), (ev : Int), [0], s.ar, meetFrom (ofS ends) 0 SL⟩ ⟨some ⟨p, 0, none⟩, 1, fa, fc, ea, ec⟩ := ⟨.inr ⟨p, 0, rfl, P4.out⟩, OwnA.fr D.out.ar, Own.fr E.out⟩
        have hLF := Hid.of (dleaf D.out.bel D.out.rb hMX hFX RW.out)
        have hne : w.heap.size ≠ w.heap.size + 1 := by omega
        have KK := ((((D.out.kb.other hne (j := 0) (.int .i64 SL.length)).other hne (j := 1) (.int .i64 ev)).other hne (j := 2) (.slice (some ⟨p, 0, none⟩) 1 1)).other hne (j := 3) (.slice fa s.ar.length fc)).other hne (j := 4) (.slice ea (meetFrom (ofS ends) 0 SL).length ec)
        go_simp
        refine hK'.out _ _ ⟨KK.cell 1 rfl, KK.cell 4 rfl⟩ (fun hSZ => ?_)
        clear hK' K' r0 r1 r2 r3 r4 rz hMX hFX
        refine wpAnyH_take (i := 15) (v := .slice ra (SL.map rowS).length rc) rfl (by kernel_rfl) (by kernel_rfl) (by kernel_rfl) (fun _ _ _ h => h) (Or.inl ⟨by kernel_rfl, fun w' hw' => by obtain ⟨q0, q1⟩ := hw'; go_simp⟩) hSZ ?_
        refine wpAnyH_take (i := 16) (v := .int .i64 0) rfl (by kernel_rfl) (by kernel_rfl) (by kernel_rfl) (fun _ _ _ h => h) (Or.inl ⟨by kernel_rfl, fun w' hw' => by obtain ⟨q0, q1⟩ := hw'; go_simp⟩) hSZ ?_
        refine wpAnyH_done (by kernel_rfl) ?_ _
        clear KK hSZ
        go_wp2
        refine bodyPost_ret (v := .tuple #[mval ⟨(SL.length : Int), (ev : Int), [0], s.ar, meetFrom (ofS ends) 0 SL⟩ ⟨some ⟨p, 0, none⟩, 1, fa, fc, ea, ec⟩, .slice ra SL.length rc, .int .i64 0]) ?_ rfl ?_
        · exact results_three (p := 2) (u := 3) (v := 4) rfl _ _ (w.heap.size + 1) ⟨(SL.length : Int), (ev : Int), [0], s.ar, meetFrom (ofS ends) 0 SL⟩ ⟨some ⟨p, 0, none⟩, 1, fa, fc, ea, ec⟩ _ _ rfl rfl rfl hLF.out.1
        · unfold MakePost
          rw [HDN.out]
          dsimp only
          rw [HME.out, HSE.out]
          obtain ⟨za, zc, ze, zt, z1, z2, z3⟩ := hLF.out.2.2.1.at
          cases ze
          exact ⟨_, _, _, (by rw [List.length_map]), hLF.out.2.1, zt, (by rw [List.length_map]; exact hSLl), hLF.out.2.2.2⟩
      · go_simp
        refine (meeting_any (w.heap.size + 2) _ SL (ofS ends) _ (Hid.of D.out.ss) hSLl hok (Hid.of hre.out.ok)).mono ?_
        rintro e Z2 ⟨ve, rfl, oe, hb⟩
        obtain ⟨ea, ec, rfl, -, -, -, -⟩ := oe.at2
        have En := Hid.of (oe.low (show w.heap.size + 2 ≤ _ from D.out.rb.lt))
        clear oe
        have D' := Hid.of (D.out.below hb)
        refine hK'.out _ _ D'.out.cells (fun hS2 => ?_)
        clear hK' K' hb D hS1 
        have D := D'
        have E := En
        clear D' En
        refine wpAnyH_ready (rs := [4, 13]) (by kernel_rfl) (by simp) ?_
        refine AllReadyH.cons rfl (fun K' hK' => ?_) (AllReadyH.cons rfl (fun K' hK' => ?_) AllReadyH.nil)
        · go_simp
          have hb : Below Z2.heap.size Z2 (Z2.alloc (.cells #[.int .i64 0] 3)) := (Below.refl _ _).alloc (Nat.le_refl _) _
          have D' := Hid.of (D.out.below hb)
          have E' := Hid.of (E.out.keep hb (Nat.le_refl _))
          have A4n := Hid.of (at_oneD Z2 0)
          have P4 : Hid (w.heap.size + 2 ≤ Z2.heap.size) := D.out.rb.lt
          refine hK'.out _ _ D'.out.cells (fun hSn => ?_)
          clear hK' K' hb D hS2 E
          revert D' A4n E' hSn
          generalize Z2.alloc (.cells #[.int .i64 0] 3) = Z3
          revert P4
          generalize Z2.heap.size = p
          intro P4 D E A4 hS3
          refine wpAnyH_take (i := 11) (v := .agg #[.int .i64 SL.length, .int .i64 ev, .slice (some ⟨p, 0, none⟩) 1 1, .slice fa s.ar.length fc, .slice ea (meetFrom (ofS ends) 0 SL).length ec]) rfl (by kernel_rfl) (by kernel_rfl) (by kernel_rfl) (fun _ _ _ h => h) (Or.inl ⟨by kernel_rfl, fun w' hw' => by obtain ⟨q0, q1⟩ := hw'; go_simp⟩) hS3 ?_
          refine wpAnyH_ready (rs := [13]) (by kernel_rfl) (by simp) ?_
          refine AllReadyH.cons rfl (fun K' hK' => ?_) AllReadyH.nil
          go_simp
          refine (rowsS_any (w.heap.size + 2) _ SL _ (Hid.of D.out.ss) hSLl hok (Hid.of D.out.tab)).mono ?_
          rintro e Z4 ⟨vr, rfl, orr, hb⟩
          obtain ⟨ra, rc, rfl, -, -, -, -⟩ := orr.at
          have RWn := Hid.of (orr.low (show w.heap.size + 2 ≤ _ from D.out.rb.lt))
          clear orr
          have D' := Hid.of (D.out.below hb)
          have A4' := Hid.of (A4.out.below hb (Nat.le_refl _))
          have E' := Hid.of (E.out.keep hb (Nat.le_refl _))
          refine hK'.out _ _ D'.out.cells (fun hS4 => ?_)
          clear hK' K' hb D hS3 A4 E
          have D := D'
          have A4 := A4'
          have E := E'
          have RW := RWn
          clear D' A4' E' RWn
          refine wpAnyH_ready (rs := [14]) (by kernel_rfl) (by simp) ?_
          refine AllReadyH.cons rfl (fun K' hK' => ?_) AllReadyH.nil
          obtain ⟨r0, r1, r2, r3, r4⟩ := zcell_at D.out.rb
          have rz := D.out.rb.frozen
          obtain ⟨xa, xc, xe, xt, x1, x2, x3⟩ := Own.at2 E.out
          cases xe
          obtain ⟨ya, yc, ye, yt, y1, y2, y3⟩ := OwnA.at D.out.ar
          cases ye
          have hMX : MAt Z4 ⟨(SL.length : Int), (ev : Int), [0], s.ar, meetFrom (ofS ends) 0 SL⟩ ⟨some ⟨p, 0, none⟩, 1, fa, fc, ea, ec⟩ := ⟨A4.out, yt, xt, Nat.le_refl _, (show (1 : Nat) ≤ maxLen by decide), (fun h => by cases h), y1, y2, y3, x1, x2, x3⟩
          have hFX : FrM (w.heap.size + 2) ⟨(SL.length : Int), (ev : Int), [0], s.ar, meetFrom (ofS ends) 0 SL⟩ ⟨some ⟨p, 0, none⟩, 1, fa, fc, ea, ec⟩ := ⟨.inr ⟨p, 0, rfl, P4.out⟩, OwnA.fr D.out.ar, Own.fr E.out⟩
          have hLF := Hid.of (dleaf D.out.bel D.out.rb hMX hFX RW.out)
          have hne : w.heap.size ≠ w.heap.size + 1 := by omega
          have KK := ((((D.out.kb.other hne (j := 0) (.int .i64 SL.length)).other hne (j := 1) (.int .i64 ev)).other hne (j := 2) (.slice (some ⟨p, 0, none⟩) 1 1)).other hne (j := 3) (.slice fa s.ar.length fc)).other hne (j := 4) (.slice ea (meetFrom (ofS ends) 0 SL).length ec)
          go_simp
          refine hK'.out _ _ ⟨KK.cell 1 rfl, KK.cell 4 rfl⟩ (fun hSZ => ?_)
          clear hK' K' r0 r1 r2 r3 r4 rz hMX hFX
          refine wpAnyH_take (i := 15) (v := .slice ra (SL.map rowS).length rc) rfl (by kernel_rfl) (by kernel_rfl) (by kernel_rfl) (fun _ _ _ h => h) (Or.inl ⟨by kernel_rfl, fun w' hw' => by obtain ⟨q0, q1⟩ := hw'; go_simp⟩) hSZ ?_
          refine wpAnyH_take (i := 16) (v := .int .i64 0) rfl (by kernel_rfl) (by kernel_rfl) (by kernel_rfl) (fun _ _ _ h => h) (Or.inl ⟨by kernel_rfl, fun w' hw' => by obtain ⟨q0, q1⟩ := hw'; go_simp⟩) hSZ ?_
          refine wpAnyH_done (by kernel_rfl) ?_ _
          clear KK hSZ
          go_wp2
          refine bodyPost_ret (v := .tuple #[mval ⟨(SL.length : Int), (ev : Int), [0], s.ar, meetFrom (ofS ends) 0 SL⟩ ⟨some ⟨p, 0, none⟩, 1, fa, fc, ea, ec⟩, .slice ra SL.length rc, .int .i64 0]) ?_ rfl ?_
          · exact results_three (p := 2) (u := 3) (v := 4) rfl _ _ (w.heap.size + 1) ⟨(SL.length : Int), (ev : Int), [0], s.ar, meetFrom (ofS ends) 0 SL⟩ ⟨some ⟨p, 0, none⟩, 1, fa, fc, ea, ec⟩ _ _ rfl rfl rfl hLF.out.1
          · unfold MakePost
            rw [HDN.out]
            dsimp only
            rw [HME.out, HSE.out]
            obtain ⟨za, zc, ze, zt, z1, z2, z3⟩ := hLF.out.2.2.1.at
            cases ze
            exact ⟨_, _, _, (by rw [List.length_map]), hLF.out.2.1, zt, (by rw [List.length_map]; exact hSLl), hLF.out.2.2.2⟩
        · go_simp
          refine (rowsS_any (w.heap.size + 2) _ SL _ (Hid.of D.out.ss) hSLl hok (Hid.of D.out.tab)).mono ?_
          rintro e Z3 ⟨vr, rfl, orr, hb⟩
          obtain ⟨ra, rc, rfl, -, -, -, -⟩ := orr.at
          have RWn := Hid.of (orr.low (show w.heap.size + 2 ≤ _ from D.out.rb.lt))
          clear orr
          have D' := Hid.of (D.out.below hb)
          have E' := Hid.of (E.out.keep hb (Nat.le_refl _))
          refine hK'.out _ _ D'.out.cells (fun hS3 => ?_)
          clear hK' K' hb D hS2 E
          have D := D'
          have E := E'
          have RW := RWn
          clear D' E' RWn
          refine wpAnyH_ready (rs := [4]) (by kernel_rfl) (by simp) ?_
          refine AllReadyH.cons rfl (fun K' hK' => ?_) AllReadyH.nil
          go_simp
          have hb : Below Z3.heap.size Z3 (Z3.alloc (.cells #[.int .i64 0] 3)) := (Below.refl _ _).alloc (Nat.le_refl _) _
          have D' := Hid.of (D.out.below hb)
          have E' := Hid.of (E.out.keep hb (Nat.le_refl _))
          have RW' := Hid.of (RW.out.below hb)
          have A4n := Hid.of (at_oneD Z3 0)
          have P4 : Hid (w.heap.size + 2 ≤ Z3.heap.size) := D.out.rb.lt
          refine hK'.out _ _ D'.out.cells (fun hSn => ?_)
          clear hK' K' hb D hS3 E RW
          revert D' A4n E' RW' hSn
          generalize Z3.alloc (.cells #[.int .i64 0] 3) = Z4
          revert P4
          generalize Z3.heap.size = p
          intro P4 D E RW A4 hS4
          refine wpAnyH_take (i := 11) (v := .agg #[.int .i64 SL.length, .int .i64 ev, .slice (some ⟨p, 0, none⟩) 1 1, .slice fa s.ar.length fc, .slice ea (meetFrom (ofS ends) 0 SL).length ec]) rfl (by kernel_rfl) (by kernel_rfl) (by kernel_rfl) (fun _ _ _ h => h) (Or.inl ⟨by kernel_rfl, fun w' hw' => by obtain ⟨q0, q1⟩ := hw'; go_simp⟩) hS4 ?_
          refine wpAnyH_ready (rs := [14]) (by kernel_rfl) (by simp) ?_
          refine AllReadyH.cons rfl (fun K' hK' => ?_) AllReadyH.nil
          obtain ⟨r0, r1, r2, r3, r4⟩ := zcell_at D.out.rb
          have rz := D.out.rb.frozen
          obtain ⟨xa, xc, xe, xt, x1, x2, x3⟩ := Own.at2 E.out
          cases xe
          obtain ⟨ya, yc, ye, yt, y1, y2, y3⟩ := OwnA.at D.out.ar
          cases ye
          have hMX : MAt Z4 ⟨(SL.length : Int), (ev : Int), [0], s.ar, meetFrom (ofS ends) 0 SL⟩ ⟨some ⟨p, 0, none⟩, 1, fa, fc, ea, ec⟩ := ⟨A4.out, yt, xt, Nat.le_refl _, (show (1 : Nat) ≤ maxLen by decide), (fun h => by cases h), y1, y2, y3, x1, x2, x3⟩
          have hFX : FrM (w.heap.size + 2) ⟨(SL.length : Int), (ev : Int), [0], s.ar, meetFrom (ofS ends) 0 SL⟩ ⟨some ⟨p, 0, none⟩, 1, fa, fc, ea, ec⟩ := ⟨.inr ⟨p, 0, rfl, P4.out⟩, OwnA.fr D.out.ar, Own.fr E.out⟩
          have hLF := Hid.of (dleaf D.out.bel D.out.rb hMX hFX RW.out)
          have hne : w.heap.size ≠ w.heap.size + 1 := by omega
          have KK := ((((D.out.kb.other hne (j := 0) (.int .i64 SL.length)).other hne (j := 1) (.int .i64 ev)).other hne (j := 2) (.slice (some ⟨p, 0, none⟩) 1 1)).other hne (j := 3) (.slice fa s.ar.length fc)).other hne (j := 4) (.slice ea (meetFrom (ofS ends) 0 SL).length ec)
          go_simp
          refine hK'.out _ _ ⟨KK.cell 1 rfl, KK.cell 4 rfl⟩ (fun hSZ => ?_)
          clear hK' K' r0 r1 r2 r3 r4 rz hMX hFX
          refine wpAnyH_take (i := 15) (v := .slice ra (SL.map rowS).length rc) rfl (by kernel_rfl) (by kernel_rfl) (by kernel_rfl) (fun _ _ _ h => h) (Or.inl ⟨by kernel_rfl, fun w' hw' => by obtain ⟨q0, q1⟩ := hw'; go_simp⟩) hSZ ?_
          refine wpAnyH_take (i := 16) (v := .int .i64 0) rfl (by kernel_rfl) (by kernel_rfl) (by kernel_rfl) (fun _ _ _ h => h) (Or.inl ⟨by kernel_rfl, fun w' hw' => by obtain ⟨q0, q1⟩ := hw'; go_simp⟩) hSZ ?_
          refine wpAnyH_done (by kernel_rfl) ?_ _
          clear KK hSZ
          go_wp2
          refine bodyPost_ret (v := .tuple #[mval ⟨(SL.length : Int), (ev : Int), [0], s.ar, meetFrom (ofS ends) 0 SL⟩ ⟨some ⟨p, 0, none⟩, 1, fa, fc, ea, ec⟩, .slice ra SL.length rc, .int .i64 0]) ?_ rfl ?_
          · exact results_three (p := 2) (u := 3) (v := 4) rfl _ _ (w.heap.size + 1) ⟨(SL.length : Int), (ev : Int), [0], s.ar, meetFrom (ofS ends) 0 SL⟩ ⟨some ⟨p, 0, none⟩, 1, fa, fc, ea, ec⟩ _ _ rfl rfl rfl hLF.out.1
          · unfold MakePost
            rw [HDN.out]
            dsimp only
            rw [HME.out, HSE.out]
            obtain ⟨za, zc, ze, zt, z1, z2, z3⟩ := hLF.out.2.2.1.at
            cases ze
            exact ⟨_, _, _, (by rw [List.length_map]), hLF.out.2.1, zt, (by rw [List.length_map]; exact hSLl), hLF.out.2.2.2⟩

theorem dMake_any (m : Mach) (l : ML) (w : World) (h : MAt w m l) (hT : Tab w) : Calls Tryd.prog 34 #[mval m l] w fun e w' => MakePost w m e w' := by
  cases hm : mayB m with
  | false => exact dmake_err m l w (Hid.of h) (Hid.of hm)
  | true =>
    have hz := mayB_size hm
    obtain ⟨st, ev, starts, ars, ends⟩ := m
    obtain ⟨a1, c1, a2, c2, a3, c3⟩ := l
    obtain ⟨z1, z2, z3, z4, z5⟩ := hz
    simp only at z1 z2 z3 z4 z5
    obtain ⟨s, rfl⟩ : ∃ s : Nat, st = (s : Int) := ⟨st.toNat, by omega⟩
    obtain ⟨v, rfl⟩ : ∃ v : Nat, ev = (v : Int) := ⟨ev.toNat, by omega⟩
    exact dmake_ok s v starts ars ends a1 c1 a2 c2 a3 c3 w (Hid.of h) (Hid.of hm) (Hid.of hT)

end Go.Proofs.YtbdkaobbfmgnhaaDoor
namespace Go.Proofs.YtbdkaobbfmgnhaaDoor
open Go.RowKit
set_option linter.unusedVariables false

/-- The cells of the machine that is being made. -/
abbrev rcells (st : Int) (ev : Int) (b0 : Nat) (va ve : Value) : Array Value := #[.int .i64 st, .int .i64 ev, .slice (some ⟨b0, 0, none⟩) 1 1, va, ve]
/-- What Make knows of the memory while sets are found. -/
structure RN (w W : World) (b0 : Nat) (m : Mach) (l : ML) (v6 va : Value) (LL : List (List Int)) (A : List Arr) : Prop where
  bel : Below w.heap.size w W
  kb : Blk W w.heap.size 25 (mcells m l)
  rb : Blk W (w.heap.size + 1) 25 zcells
  s0 : Blk W b0 3 #[.int .i64 0]
  nb : Blk W (b0 + 1) 25 (rcells 0 m.ev b0 va (.slice none 0 0))
  ss : OwnN w.heap.size W (b0 + 2) v6 LL
  ar : OwnA W (b0 + 2) va A
  lo : w.heap.size + 1 < b0
  hB : b0 + 2 ≤ W.heap.size
section
variable {w W : World} {b0 : Nat} {m : Mach} {l : ML} {v6 va : Value} {LL : List (List Int)} {A : List Arr}
theorem RN.below {W' : World} (h : RN w W b0 m l v6 va LL A) (hb : Below W.heap.size W W') : RN w W' b0 m l v6 va LL A :=
  ⟨h.bel.trans (hb.mono h.bel.size), h.kb.below hb h.kb.lt, h.rb.below hb h.rb.lt, h.s0.below hb h.s0.lt, h.nb.below hb h.nb.lt, h.ss.below hb h.bel.size, h.ar.kept hb (Nat.le_refl _), h.lo, Nat.le_trans h.hB hb.size⟩
theorem RN.mcells (h : RN w W b0 m l v6 va LL A) : W.cell? ⟨w.heap.size, 0, none⟩ = some (.int .i64 m.st) ∧ W.cell? ⟨w.heap.size, 1, none⟩ = some (.int .i64 m.ev) ∧ W.cell? ⟨w.heap.size, 2, none⟩ = some (.slice l.a1 m.starts.length l.c1) ∧ W.cell? ⟨w.heap.size, 3, none⟩ = some (.slice l.a2 m.arrows.length l.c2) ∧ W.cell? ⟨w.heap.size, 4, none⟩ = some (.slice l.a3 m.ends.length l.c3) :=
  ⟨h.kb.cell 0 rfl, h.kb.cell 1 rfl, h.kb.cell 2 rfl, h.kb.cell 3 rfl, h.kb.cell 4 rfl⟩
/-- One set more. -/
theorem RN.pushS {W2 W3 : World} {v6' x : Value} {xs : List Int} {vs : List Value} (h : RN w W b0 m l v6 va LL A) (hW3 : Below W.heap.size W W3) (ho : W3.ownsRow (b0 + 2) 22 1 v6 LL.length vs) (hi : ∀ (j : Nat) (x : Value) (xs : List Int), vs[j]? = some x → LL[j]? = some xs → InnN w.heap.size W3 x xs) (hx : InnN w.heap.size W3 x xs) (o1 : W2.ownsRow (b0 + 2) 22 1 v6' (LL.length + 1) (vs ++ [x])) (g : W3.grownBy W2 v6.ownBlock) :
    RN w W2 b0 m l v6' va (LL ++ [xs]) A := by
  have h3 := h.below hW3
  have lo := h.lo
  have low : ∀ j, j < b0 + 2 → W2.heap[j]? = W3.heap[j]? := fun j hj => g.block j (Nat.lt_of_lt_of_le hj h3.hB) (fun e => by have := (World.ownsRow.lt ho j e.symm).1; omega)
  have hty : ∀ (q : Nat) (cs : Array Value) (t : TypeId), t ≠ 22 → W3.heap[q]? = some (.cells cs t (0, 0)) → W2.heap[q]? = W3.heap[q]? := fun q cs t ht hq => g.block q (Array.getElem?_eq_some_iff.1 hq).1 (fun e => by
    obtain ⟨c2, h2⟩ := own_type ho e.symm
    rw [hq] at h2; cases h2; exact ht rfl)
  have kp : ∀ {y : Value} {ys : List Int}, InnN w.heap.size W3 y ys → InnN w.heap.size W2 y ys := fun hy => hy.kept g.size (fun j hj => low j (by omega)) (fun q cs hq => hty q cs _ (by decide) hq)
  refine ⟨h3.bel.grown g h3.bel.size (fun j hj => Nat.le_trans (by omega) (World.ownsRow.lt ho j hj).1), (low _ (by omega)).trans h3.kb, (low _ (by omega)).trans h3.rb, (low _ (by omega)).trans h3.s0, (low _ (by omega)).trans h3.nb, ?_, ?_, lo, Nat.le_trans h3.hB g.size⟩
  · have hl : vs.length = LL.length := by have := ho.1; omega
    refine ⟨vs ++ [x], by rw [List.length_append]; exact o1, fun j y ys a b => ?_⟩
    by_cases hj : j < LL.length
    · rw [List.getElem?_append_left (by omega)] at a
      rw [List.getElem?_append_left hj] at b
      exact kp (hi j y ys a b)
    · have hj2 : j < (LL ++ [xs]).length := (List.getElem?_eq_some_iff.1 b).1
      have : j = LL.length := by simp at hj2; omega
      subst this
      rw [List.getElem?_append_right (by omega)] at a b
      rw [hl] at a
      simp at a b
      subst a; subst b
      exact kp hx
  · refine own_same h3.ar (fun k hk => ?_)
    obtain ⟨cs, hc⟩ := own_type h3.ar hk
    exact hty k cs _ (by decide) hc
/-- One arrow more. -/
theorem RN.pushA {W2 W3 : World} {va' : Value} {x : Arr} (h : RN w W b0 m l v6 va LL A) (hW3 : Below W.heap.size W W3) (o1 : OwnA W2 (b0 + 2) va' (A ++ [x])) (g : W3.grownBy W2 va.ownBlock) :
    Blk W2 (b0 + 1) 25 (rcells 0 m.ev b0 va (.slice none 0 0)) ∧ RN w (W2.setCell ⟨b0 + 1, 3, none⟩ va') b0 m l v6 va' LL (A ++ [x]) := by
  have h3 := h.below hW3
  have lo := h.lo
  have low : ∀ j, j < b0 + 2 → W2.heap[j]? = W3.heap[j]? := fun j hj => g.block j (Nat.lt_of_lt_of_le hj h3.hB) (fun e => by have := (World.ownsRow.lt h3.ar j e.symm).1; omega)
  have hty : ∀ (q : Nat) (cs : Array Value) (t : TypeId), t ≠ 58 → W3.heap[q]? = some (.cells cs t (0, 0)) → W2.heap[q]? = W3.heap[q]? := fun q cs t ht hq => g.block q (Array.getElem?_eq_some_iff.1 hq).1 (fun e => by
    obtain ⟨c2, h2⟩ := own_type h3.ar e.symm
    rw [hq] at h2; cases h2; exact ht rfl)
  have nb2 : Blk W2 (b0 + 1) 25 (rcells 0 m.ev b0 va (.slice none 0 0)) := (low _ (by omega)).trans h3.nb
  have nb3 : W3.heap[b0 + 1]? = some (.cells (rcells 0 m.ev b0 va (.slice none 0 0)) 25 (0, 0)) := h3.nb
  refine ⟨nb2, ⟨?_, Blk.other ((low _ (by omega)).trans h3.kb) (by omega) _, Blk.other ((low _ (by omega)).trans h3.rb) (by omega) _, Blk.other ((low _ (by omega)).trans h3.s0) (by omega) _, nb2.set 3 va', ?_, ownsRow_set o1 (by omega) va', lo, ?_⟩⟩
  · exact (h3.bel.grown g h3.bel.size (fun j hj => Nat.le_trans (by omega) (World.ownsRow.lt h3.ar j hj).1)).setCell (p := ⟨b0 + 1, 3, none⟩) (show w.heap.size ≤ b0 + 1 by omega) _
  · refine h3.ss.kept ?_ (fun k hk => ?_) (fun j hj => ?_) (fun q cs hq => ?_)
    · have := g.size; simpa [World.setCell] using this
    · obtain ⟨vs, ho, -⟩ := h3.ss
      have := (World.ownsRow.lt ho k hk).1
      obtain ⟨cs, hc⟩ := own_type ho hk
      rw [Below.heap_setCell _ _ _ _ (show k ≠ b0 + 1 by omega), hty k cs _ (by decide) hc]
    · rw [Below.heap_setCell _ _ _ _ (show j ≠ b0 + 1 by omega), low j (by omega)]
    · rw [Below.heap_setCell _ _ _ _ (show q ≠ b0 + 1 from fun e => by rw [e, nb3] at hq; cases hq), hty q cs _ (by decide) hq]
  · have := g.size
    have := h3.hB
    simp [World.setCell]; omega
/-- What lies where, for the loop over the ends. -/
theorem RN.get (h : RN w W b0 m l v6 va LL A) {k : Nat} {xs : List Int} (hk : LL[k]? = some xs) : ∃ g cap a c, v6 = .slice (some ⟨g, 0, none⟩) LL.length cap ∧ g < W.heap.size ∧ g ≠ b0 + 1 ∧ g ≠ w.heap.size + 1 ∧ W.cell? ⟨g, k, none⟩ = some (.slice a xs.length c) ∧ xs.length ≤ maxLen ∧ (xs = [] ∨ ∃ q o, a = some ⟨q, o, none⟩ ∧ q < W.heap.size ∧ q ≠ b0 + 1 ∧ q ≠ w.heap.size + 1 ∧ Cells W q o xs) := by
  obtain ⟨g, cap, x, h1, h2, h3, h4, a, c, rfl, h5, h6⟩ := h.ss.get hk
  have lo := h.lo
  have nb : W.heap[b0 + 1]? = some (.cells (rcells 0 m.ev b0 va (.slice none 0 0)) 25 (0, 0)) := h.nb
  have rb : W.heap[w.heap.size + 1]? = some (.cells zcells 25 (0, 0)) := h.rb
  refine ⟨g, cap, a, c, h1, h3, by omega, by omega, h4, h5, ?_⟩
  rcases h6 with h6 | ⟨q, o, e, hlt, hc, h6⟩
  · exact .inl h6
  · refine .inr ⟨q, o, e, hlt, ?_, ?_, hc⟩
    · rcases h6 with h6 | ⟨cs, h6⟩
      · omega
      · intro e; rw [e, nb] at h6; cases h6
    · rcases h6 with h6 | ⟨cs, h6⟩
      · omega
      · intro e; rw [e, rb] at h6; cases h6
end
theorem at_kp {W X : World} {b : Nat} {a : Option Addr} {xs : List Int} {P : Nat → Prop} (h : xs = [] ∨ ∃ q o, a = some ⟨q, o, none⟩ ∧ q < X.heap.size ∧ q ≠ b ∧ P q ∧ Cells X q o xs) (kp : Kp b X W) : At W a xs := by
  rcases h with h | ⟨q, o, e, h1, h2, -, h3⟩
  · exact .inl h
  · exact .inr ⟨q, o, e, Nat.lt_of_lt_of_le h1 kp.size, cells_block h3 (kp.same q h1 h2)⟩

theorem RN.fin {w W0 W W' : World} {b0 : Nat} {m : Mach} {l : ML} {v6 va : Value} {LL : List (List Int)} {A : List Arr} (h : RN w W0 b0 m l v6 va LL A) (kp : Kp (b0 + 1) W0 W) (hz : W.heap.size ≤ W'.heap.size) (hs : ∀ q, q ≠ w.heap.size + 1 → W'.heap[q]? = W.heap[q]?) : ∃ a cap, v6 = .slice a LL.length cap ∧ At2 W' a LL := by
  obtain ⟨a, cap, e, -⟩ := h.ss.at2
  refine ⟨a, cap, e, ?_⟩
  cases hL : LL with
  | nil => exact .inl rfl
  | cons x r =>
    have h0 : LL[0]? = some x := by rw [hL]; rfl
    obtain ⟨g, cap', a', c', e', hg, hg1, hg2, -⟩ := h.get h0
    rw [e] at e'
    have ea : a = some ⟨g, 0, none⟩ := by cases e'; rfl
    have hW : ∀ q, q < W0.heap.size → q ≠ b0 + 1 → q ≠ w.heap.size + 1 → W'.heap[q]? = W0.heap[q]? := fun q h1 h2 h3 => (hs q h3).trans (kp.same q h1 h2)
    refine .inr ⟨g, 0, ea, Nat.lt_of_lt_of_le hg (Nat.le_trans kp.size hz), fun k xs hk => ?_⟩
    rw [← hL] at hk
    obtain ⟨g2, cap2, a2, c2, e2, hg3, hg4, hg5, cx, hxl, hin⟩ := h.get hk
    rw [e, ea] at e2
    have eg : g = g2 := by cases e2; rfl
    subst eg
    refine ⟨a2, c2, ?_, ?_, hxl⟩
    · rw [Nat.zero_add, World.cell?_of_block (w := W0) (hW g hg3 hg4 hg5)]; exact cx
    · rcases hin with hin | ⟨q, o, eq, q1, q2, q3, q4⟩
      · exact .inl hin
      · exact .inr ⟨q, o, eq, Nat.lt_of_lt_of_le q1 (Nat.le_trans kp.size hz), cells_block q4 (hW q q1 q2 q3)⟩
theorem Kp.below {b : Nat} {X W W' : World} (h : Kp b X W) (hb : Below W.heap.size W W') : Kp b X W' := ⟨Nat.le_trans h.size hb.size, fun k hk hn => (hb.block k (Nat.lt_of_lt_of_le hk h.size)).trans (h.same k hk hn)⟩
theorem heap_set5 (W : World) (b : Nat) (v0 v1 v2 v3 v4 : Value) : ∀ q, q ≠ b → (((((W.setCell ⟨b, 0, none⟩ v0).setCell ⟨b, 1, none⟩ v1).setCell ⟨b, 2, none⟩ v2).setCell ⟨b, 3, none⟩ v3).setCell ⟨b, 4, none⟩ v4).heap[q]? = W.heap[q]? := fun q hq => by
  rw [Below.heap_setCell _ _ _ _ hq, Below.heap_setCell _ _ _ _ hq, Below.heap_setCell _ _ _ _ hq, Below.heap_setCell _ _ _ _ hq, Below.heap_setCell _ _ _ _ hq]
theorem size_set5 (W : World) (b : Nat) (v0 v1 v2 v3 v4 : Value) : W.heap.size ≤ (((((W.setCell ⟨b, 0, none⟩ v0).setCell ⟨b, 1, none⟩ v1).setCell ⟨b, 2, none⟩ v2).setCell ⟨b, 3, none⟩ v3).setCell ⟨b, 4, none⟩ v4).heap.size := by simp [World.setCell]

end Go.Proofs.YtbdkaobbfmgnhaaDoor
