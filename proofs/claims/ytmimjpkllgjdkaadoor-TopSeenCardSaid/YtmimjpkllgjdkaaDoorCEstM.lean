/-
  Plain: all estimates, and all rows gone back to, as the program makes them; what is first of two lists that tell where a plant was. No program, no model.
-/
import Derived.Test.YtmimjpkllgjdkaaDoorG30
import Derived.Test.YtmimjpkllgjdkaaDoorG27
namespace Go.Proofs.YtmimjpkllgjdkaaDoor
open Go.RowKit
set_option linter.unusedVariables false

/-! All estimates. -/
structure LE (p : Plant) (k : Nat) (l : List (List Int × List Int)) : Prop where
  bi : BI (seeD p) (wideL p.m.arrows p.seen p.m.starts) p.seen.length k 0 l
  go : fwdL p = bfGo (seeD p) p.seen.length (65 - k) k l
theorem LE.start (p : Plant) : LE p 0 [(wideL p.m.arrows p.seen p.m.starts, [])] := ⟨bi_start _ _ _, rfl⟩
theorem LE.next {p : Plant} {k : Nat} {l : List (List Int × List Int)} (h : LE p k l) {x : List Int × List Int} (hx : l[k]? = some x) (hk : k < 65) : LE p (k + 1) (bfRow (seeD p) x l p.seen.length) :=
  ⟨bi_next _ h.bi hx, by rw [h.go, show 65 - k = (65 - (k + 1)) + 1 by omega, bfGo, hx]⟩
theorem LE.all {p : Plant} {k : Nat} {l : List (List Int × List Int)} (h : LE p k l) (hk : k = l.length) : fwdL p = l := by
  rw [h.go]
  have hx : l[k]? = none := List.getElem?_eq_none (by omega)
  cases 65 - k with
  | zero => rfl
  | succ f => unfold bfGo; rw [hx]
theorem fwd_found {p : Plant} {k : Nat} {x : List Int × List Int} (hno : ∀ (j : Nat) (y : List Int × List Int), j < k → (fwdL p)[j]? = some y → leakB p.secret y.1 = false) (hx : (fwdL p)[k]? = some x) (ho : leakB p.secret x.1 = true) : outC p = some (wordS p.seen x.2) := by
  unfold outC
  have : (fwdL p).find? (fun x => leakB p.secret x.1) = some x := by
    rw [List.find?_eq_some_iff_getElem]
    have hk := (List.getElem?_eq_some_iff.1 hx).1
    refine ⟨ho, k, hk, (List.getElem?_eq_some_iff.1 hx).2, fun j hj => ?_⟩
    have := hno j _ hj (List.getElem?_eq_getElem (Nat.lt_trans hj hk))
    rw [this]; rfl
  rw [this]; rfl
theorem fwd_not {p : Plant} {k : Nat} (hno : ∀ (j : Nat) (y : List Int × List Int), j < k → (fwdL p)[j]? = some y → leakB p.secret y.1 = false) (hk : (fwdL p).length ≤ k) : outC p = none := by
  unfold outC
  rw [Option.map_eq_none_iff, List.find?_eq_none]
  intro x hx
  obtain ⟨j, hj⟩ := List.mem_iff_getElem?.1 hx
  have := hno j x (by have := (List.getElem?_eq_some_iff.1 hj).1; omega) hj
  rw [this]; simp
theorem no_more {f : List Int → Bool} {l : List (List Int × List Int)} {k : Nat} {x : List Int × List Int} (h : ∀ (j : Nat) (y : List Int × List Int), j < k → l[j]? = some y → f y.1 = false) (hx : l[k]? = some x) (ho : f x.1 = false) : ∀ (j : Nat) (y : List Int × List Int), j < k + 1 → l[j]? = some y → f y.1 = false := fun j y hj hy => by
  by_cases e : j = k
  · subst e
    rw [hx] at hy
    have := Option.some.inj hy
    subst this; exact ho
  · exact h j y (by omega) hy

/-! All rows gone back to. -/
structure Orig (p : Plant) (l : List (List Int × List Int)) : Prop where
  inc : l.Pairwise fun a b => lessB a.2 b.2 = true
  run : ∀ x ∈ l, x.1 = valB (opB p) (rngI p.m.st.toNat) x.2 ∧ ∀ c ∈ x.2, 0 ≤ c ∧ c < (p.seen.length : Int)
  cov : ∀ u : List Int, (∀ c ∈ u, 0 ≤ c ∧ c < (p.seen.length : Int)) → ∃ x ∈ l, x.1 = valB (opB p) (rngI p.m.st.toNat) u ∧ leW x.2 u
  len : l.length ≤ 64
  wl : ∀ x ∈ l, x.2.length ≤ 64
theorem ig_bound {p : Plant} (hp : mayP p = true) {n frm to e r : Nat} {l : List (List Int × List Int)} (h : IG (opB p) (rngI p.m.st.toNat) p.seen.length n frm to e r l) : l.length ≤ 64 :=
  LIn.bound (k := 0) hp ⟨h, fun j x hj => absurd hj (Nat.not_lt_zero _)⟩
theorem orig_of {p : Plant} (hp : mayP p = true) {n frm to e r : Nat} {l : List (List Int × List Int)} (h : IG (opB p) (rngI p.m.st.toNat) p.seen.length n frm to e r l) (hf : l.length ≤ frm) (hn : n ≤ frm) : Orig p l := by
  have hb := ig_bound hp h
  refine ⟨h.inc, h.run, ig_all h hf, hb, fun x hx => ?_⟩
  obtain ⟨j, hj⟩ := List.mem_iff_getElem?.1 hx
  have h1 := (List.getElem?_eq_some_iff.1 hj).1
  have h2 := h.low j x hj (by omega)
  have h3 := h.ft
  have h4 := h.tl
  omega
theorem orig_found {p : Plant} (hp : mayP p = true) {l : List (List Int × List Int)} (h : Orig p l) {k : Nat} {x : List Int × List Int} (hno : ∀ (j : Nat) (y : List Int × List Int), j < k → l[j]? = some y → tellB p y.1 = false) (hx : l[k]? = some x) (ho : tellB p x.1 = true) : outI p = some (wordS p.seen x.2) := by
  obtain ⟨hm, z, hs, -⟩ := (mayP_iff p).1 hp
  have hi := seen_inc hp
  have hr := h.run x (List.mem_of_getElem? hx)
  rw [tell_on hm hr.1] at ho
  cases hO : outI p with
  | none =>
    have := outI_none hp hO _ (word_in hr.2)
    rw [ho] at this; cases this
  | some v =>
    obtain ⟨v1, v2, -, v3⟩ := outI_some hp hO
    have hvx := v3 _ (word_in hr.2) ho
    have hw := word_idx v2
    obtain ⟨q, hq, e1, e2⟩ := h.cov _ (idx_in v2)
    have hqt : tellB p q.1 = true := by rw [tell_on hm e1, hw]; exact v1
    obtain ⟨j, hj⟩ := List.mem_iff_getElem?.1 hq
    have hkj : k ≤ j := by
      rcases Nat.lt_or_ge j k with h1 | h1
      · rw [hno j q h1 hj] at hqt; cases hqt
      · exact h1
    have hle : leW x.2 q.2 := by
      rcases Nat.lt_or_ge k j with h1 | h1
      · have l1 := List.getElem?_eq_some_iff.1 hx
        have l2 := List.getElem?_eq_some_iff.1 hj
        have := List.pairwise_iff_getElem.1 h.inc k j l1.1 l2.1 h1
        rw [l1.2, l2.2] at this
        exact .inr this
      · have : j = k := by omega
        subst this
        rw [hx] at hj
        have := Option.some.inj hj
        subst this; exact leW_refl _
    have hle2 := leW_trans hle e2
    rcases hle2 with h3 | h3
    · rw [h3, hw]
    · rw [← lessB_word hi hr.2 (idx_in v2), hw] at h3
      rw [hvx] at h3; cases h3
theorem orig_not {p : Plant} (hp : mayP p = true) {l : List (List Int × List Int)} (h : Orig p l) {k : Nat} (hno : ∀ (j : Nat) (y : List Int × List Int), j < k → l[j]? = some y → tellB p y.1 = false) (hk : l.length ≤ k) : outI p = none := by
  obtain ⟨hm, z, hs, -⟩ := (mayP_iff p).1 hp
  cases hO : outI p with
  | none => rfl
  | some v =>
    obtain ⟨v1, v2, -, -⟩ := outI_some hp hO
    obtain ⟨q, hq, e1, -⟩ := h.cov _ (idx_in v2)
    obtain ⟨j, hj⟩ := List.mem_iff_getElem?.1 hq
    have := hno j q (by have := (List.getElem?_eq_some_iff.1 hj).1; omega) hj
    rw [tell_on hm e1, word_idx v2, v1] at this; cases this

/-- What both sets have, asked so, is what two lists tell. -/
theorem only_meet {S T R : Nat → Nat} {a b k : List Int} (hS : Rep S a) (hT : Rep T b) (hR : Rep R k) (hb : b.Nodup) : onlyS (meetS S T) R = leakB k (meetR a b) := by
  rw [only_set (rep_meet hS hT) hR, meetR_eq hb]
  congr 1
  refine List.filter_congr (fun x _ => ?_)
  cases hasB b x <;> rfl

/-! Which of two lists come first. -/
/-- What is known when the befores from k on were gone through. -/
def SF (secret : List Int) (A B : List Kno) (k : Nat) (o : Option (List Int × List Int)) : Prop := PIn secret (-1) ((A.drop k).flatMap fun x => B.map fun y => (x, y)) o
theorem SF.start (secret : List Int) (A B : List Kno) : SF secret A B A.length none := by
  unfold SF
  rw [List.drop_length]
  exact ⟨fun _ c hc => by simp at hc, fun q hq => by cases hq⟩
theorem drop_mem {A B : List Kno} {k : Nat} {x : Kno} (hx : A[k]? = some x) (c : Kno × Kno) : (c ∈ (A.drop k).flatMap fun x => B.map fun y => (x, y)) ↔ (c.1 = x ∧ c.2 ∈ B) ∨ c ∈ (A.drop (k + 1)).flatMap fun x => B.map fun y => (x, y) := by
  obtain ⟨hk, e⟩ := List.getElem?_eq_some_iff.1 hx
  rw [mem_twos, mem_twos, List.drop_eq_getElem_cons hk, e, List.mem_cons]
  constructor
  · rintro ⟨h1 | h1, h2⟩
    · exact .inl ⟨h1, h2⟩
    · exact .inr ⟨h1, h2⟩
  · rintro (⟨h1, h2⟩ | ⟨h1, h2⟩)
    · exact ⟨.inl h1, h2⟩
    · exact ⟨.inr h1, h2⟩
section
variable {secret : List Int} {A B : List Kno} {k : Nat} {x : Kno} {o : Option (List Int × List Int)}
/-- None tells with it. -/
theorem SF.none (h : SF secret A B (k + 1) o) (hx : A[k]? = some x) (hn : ∀ y ∈ B, okP secret (-1) x y = false) : SF secret A B k o := by
  have key : ∀ c : Kno × Kno, (c ∈ (A.drop k).flatMap fun x => B.map fun y => (x, y)) → okP secret (-1) c.1 c.2 = true → c ∈ (A.drop (k + 1)).flatMap fun x => B.map fun y => (x, y) := fun c hc ho => by
    rcases (drop_mem hx c).1 hc with ⟨h1, h2⟩ | h1
    · rw [h1, hn _ h2] at ho; cases ho
    · exact h1
  refine ⟨fun ho c hc => ?_, fun q hq => ?_⟩
  · cases hk : okP secret (-1) c.1 c.2 with
    | false => rfl
    | true => rw [← hk]; exact h.1 ho c (key c hc hk)
  · obtain ⟨⟨c, c1, c2, c3⟩, h2⟩ := h.2 q hq
    exact ⟨⟨c, (drop_mem hx c).2 (.inr c1), c2, c3⟩, fun d hd hdk => h2 d (key d hd hdk) hdk⟩
theorem first_least (hB : B.Pairwise fun a b => lessB a.2 b.2 = true) {j : Nat} {y : Kno} (hy : B[j]? = some y) (hl : ∀ (i : Nat) (z : Kno), i < j → B[i]? = some z → okP secret (-1) x z = false) : ∀ z ∈ B, okP secret (-1) x z = true → pairB x.2 z.2 x.2 y.2 = false := fun z hz ho => by
  obtain ⟨i, hi⟩ := List.mem_iff_getElem?.1 hz
  rcases Nat.lt_trichotomy i j with h1 | h1 | h1
  · rw [hl i z h1 hi] at ho; cases ho
  · subst h1
    rw [hi] at hy
    have := Option.some.inj hy
    subst this; exact pairB_irrefl _ _
  · have l1 := List.getElem?_eq_some_iff.1 hi
    have l2 := List.getElem?_eq_some_iff.1 hy
    have hlt := List.pairwise_iff_getElem.1 hB j i l2.1 l1.1 h1
    rw [l1.2, l2.2] at hlt
    rcases pair_mono (leW_refl x.2) (.inr hlt : leW y.2 z.2) with ⟨-, e⟩ | h2
    · rw [e]; exact pairB_irrefl _ _
    · cases hh : pairB x.2 z.2 x.2 y.2 with
      | false => rfl
      | true =>
        have := pairB_trans h2 hh
        rw [pairB_irrefl] at this; cases this
/-- The first one that tells with it takes the place. -/
theorem SF.put (h : SF secret A B (k + 1) o) (hx : A[k]? = some x) (hB : B.Pairwise fun a b => lessB a.2 b.2 = true) (hA : A.Pairwise fun a b => lessB a.2 b.2 = true) {j : Nat} {y : Kno} (hy : B[j]? = some y) (ho : okP secret (-1) x y = true) (hl : ∀ (i : Nat) (z : Kno), i < j → B[i]? = some z → okP secret (-1) x z = false) (hc : ∀ q, o = some q → x.2.length + y.2.length < q.1.length + q.2.length ∨ (x.2.length + y.2.length = q.1.length + q.2.length ∧ y.2.length ≤ q.2.length)) : SF secret A B k (some (x.2, y.2)) := by
  have hf := first_least (x := x) hB hy hl
  refine ⟨fun h => (by cases h), fun q hq => ?_⟩
  have hq := Option.some.inj hq
  subst hq
  refine ⟨⟨(x, y), (drop_mem hx _).2 (.inl ⟨rfl, List.mem_of_getElem? hy⟩), ho, rfl⟩, fun d hd hdk => ?_⟩
  rcases (drop_mem hx d).1 hd with ⟨h1, h2⟩ | h1
  · rw [h1] at hdk ⊢
    exact hf _ h2 hdk
  · cases o with
    | none =>
      have := h.1 rfl d h1
      rw [this] at hdk; cases hdk
    | some q =>
      obtain ⟨⟨c, c1, c2, c3⟩, h2⟩ := h.2 q rfl
      have h3 := h2 d h1 hdk
      have hcc := (mem_twos.1 c1).1
      obtain ⟨i, hi⟩ := List.mem_iff_getElem?.1 hcc
      rw [List.getElem?_drop] at hi
      have l1 := List.getElem?_eq_some_iff.1 hx
      have l2 := List.getElem?_eq_some_iff.1 hi
      have hlt := List.pairwise_iff_getElem.1 hA k (k + 1 + i) l1.1 l2.1 (by omega)
      rw [l1.2, l2.2] at hlt
      have hp : pairB x.2 y.2 q.1 q.2 = true := by
        rw [pairB_iff]
        rcases hc q rfl with h4 | ⟨h4, h5⟩
        · exact .inl h4
        · rcases Nat.lt_or_ge y.2.length q.2.length with h6 | h6
          · exact .inr ⟨h4, .inl h6⟩
          · refine .inr ⟨h4, .inr ⟨by omega, .inl ?_⟩⟩
            rw [c3]; exact hlt
      cases hh : pairB d.1.2 d.2.2 x.2 y.2 with
      | false => rfl
      | true => rw [pairB_trans hh hp] at h3; cases h3
/-- Or it does not, where what is there comes first. -/
theorem SF.keep {q : List Int × List Int} (h : SF secret A B (k + 1) (some q)) (hx : A[k]? = some x) (hB : B.Pairwise fun a b => lessB a.2 b.2 = true) {j : Nat} {y : Kno} (hy : B[j]? = some y) (hl : ∀ (i : Nat) (z : Kno), i < j → B[i]? = some z → okP secret (-1) x z = false) (hc : ¬ (x.2.length + y.2.length < q.1.length + q.2.length ∨ (x.2.length + y.2.length = q.1.length + q.2.length ∧ y.2.length ≤ q.2.length))) : SF secret A B k (some q) := by
  have hf := first_least (x := x) hB hy hl
  refine ⟨fun h => (by cases h), fun q' hq => ?_⟩
  have hq := Option.some.inj hq
  subst hq
  obtain ⟨⟨c, c1, c2, c3⟩, h2⟩ := h.2 q rfl
  refine ⟨⟨c, (drop_mem hx c).2 (.inr c1), c2, c3⟩, fun d hd hdk => ?_⟩
  rcases (drop_mem hx d).1 hd with ⟨h1, h3⟩ | h1
  · rw [h1] at hdk ⊢
    have h4 := hf _ h3 hdk
    have hp : pairB q.1 q.2 x.2 y.2 = true := by
      rw [pairB_iff]
      rcases Nat.lt_trichotomy (q.1.length + q.2.length) (x.2.length + y.2.length) with h5 | h5 | h5
      · exact .inl h5
      · exact .inr ⟨h5, .inl (by omega)⟩
      · omega
    cases hh : pairB x.2 d.2.2 q.1 q.2 with
    | false => rfl
    | true => rw [pairB_trans hh hp] at h4; cases h4
  · exact h2 d h1 hdk
end
/-- Those whose lists are short enough. -/
structure UpTo (most : Int) (l l' : List (List Int × List Int)) : Prop where
  sub : l' <+: l
  short : 0 ≤ most → ∀ x ∈ l', (x.2.length : Int) ≤ most
  all : ∀ x ∈ l, (0 ≤ most → (x.2.length : Int) ≤ most) → x ∈ l'
theorem upTo_any {most : Int} (h : most < 0) (l : List (List Int × List Int)) : UpTo most l l := ⟨List.prefix_refl _, fun h0 => by omega, fun x hx _ => hx⟩
theorem upTo_none {most : Int} {l : List (List Int × List Int)} (h : ∀ x ∈ l, ¬ most < (x.2.length : Int)) : UpTo most l l := ⟨List.prefix_refl _, fun _ x hx => by have := h x hx; omega, fun x hx _ => hx⟩
theorem upTo_at {most : Int} (h0 : 0 ≤ most) {l : List (List Int × List Int)} (hi : l.Pairwise fun a b => lessB a.2 b.2 = true) {k : Nat} {x : List Int × List Int} (hx : l[k]? = some x) (hl : most < (x.2.length : Int)) (hn : ∀ (j : Nat) (y : List Int × List Int), j < k → l[j]? = some y → ¬ most < (y.2.length : Int)) : UpTo most l (l.take k) := by
  refine ⟨List.take_prefix _ _, fun _ y hy => ?_, fun y hy hs => ?_⟩
  · obtain ⟨j, hj⟩ := List.mem_iff_getElem?.1 hy
    have hjl := (List.getElem?_eq_some_iff.1 hj).1
    have hjk : j < k := by rw [List.length_take] at hjl; omega
    rw [List.getElem?_take_of_lt hjk] at hj
    have := hn j y hjk hj
    omega
  · obtain ⟨j, hj⟩ := List.mem_iff_getElem?.1 hy
    have hjk : j < k := by
      rcases Nat.lt_trichotomy j k with h1 | h1 | h1
      · exact h1
      · subst h1
        rw [hx] at hj
        have := Option.some.inj hj
        subst this
        have := hs h0; omega
      · have l1 := List.getElem?_eq_some_iff.1 hj
        have l2 := List.getElem?_eq_some_iff.1 hx
        have hlt := List.pairwise_iff_getElem.1 hi k j l2.1 l1.1 h1
        rw [l1.2, l2.2] at hlt
        have := lessB_len hlt
        have := hs h0; omega
    exact List.mem_of_getElem? (i := j) (by rw [List.getElem?_take_of_lt hjk]; exact hj)
theorem kn_inc {seen : List Int} (hi : Inc seen) {l : List (List Int × List Int)} (h : l.Pairwise fun a b => lessB a.2 b.2 = true) (hr : ∀ x ∈ l, ∀ c ∈ x.2, 0 ≤ c ∧ c < (seen.length : Int)) : (knL seen l).Pairwise fun a b => lessB a.2 b.2 = true := by
  unfold knL
  rw [List.pairwise_map]
  refine List.Pairwise.imp_of_mem ?_ h
  intro a b ha hb hab
  show lessB (wordS seen a.2) (wordS seen b.2) = true
  rw [lessB_word hi (hr a ha) (hr b hb)]; exact hab
theorem fwd_inc {p : Plant} (hp : mayP p = true) : (knL p.seen (fwdL p)).Pairwise fun a b => lessB a.2 b.2 = true := by
  obtain ⟨hm, z, -, -⟩ := (mayP_iff p).1 hp
  have hI := fwd_all hm z
  exact kn_inc (seen_inc hp) hI.inc (fun x hx => (hI.run x hx).2)
theorem orig_inc {p : Plant} (hp : mayP p = true) {most : Int} {l l' : List (List Int × List Int)} (h : Orig p l) (hu : UpTo most l l') : (knL p.seen l').Pairwise fun a b => lessB a.2 b.2 = true :=
  kn_inc (seen_inc hp) (h.inc.sublist hu.sub.sublist) (fun x hx => (h.run x (hu.sub.subset hx)).2)
/-- What first answers is what is asked for (K2). -/
theorem sf_out {p : Plant} (hp : mayP p = true) {most : Int} {l l' : List (List Int × List Int)} (h : Orig p l) (hu : UpTo most l l') {o : Option (List Int × List Int)} (hs : SF p.secret (knL p.seen (fwdL p)) (knL p.seen l') 0 o) : outS p most = o := by
  obtain ⟨hm, z, -, -⟩ := (mayP_iff p).1 hp
  have hi := seen_inc hp
  unfold SF at hs
  rw [List.drop_zero] at hs
  have bmem : ∀ y ∈ knL p.seen l', y.1 = onL p y.2 ∧ (∀ e ∈ y.2, e ∈ p.seen) ∧ (0 ≤ most → (y.2.length : Int) ≤ most) := fun y hy => by
    obtain ⟨q, hq, rfl⟩ := List.mem_map.1 hy
    have hr := h.run q (hu.sub.subset hq)
    exact ⟨by show q.1 = _; rw [hr.1, on_val hm], word_in hr.2, fun h0 => by show ((wordS p.seen q.2).length : Int) ≤ most; rw [wordS_len]; exact hu.short h0 q hq⟩
  have bcov : ∀ v : List Int, (∀ e ∈ v, e ∈ p.seen) → (0 ≤ most → (v.length : Int) ≤ most) → ∃ y ∈ knL p.seen l', y.1 = onL p v ∧ leW y.2 v := fun v hv hsh => by
    obtain ⟨q, hq, e1, e2⟩ := h.cov (idxS p.seen v) (idx_in hv)
    have hr := h.run q hq
    have e3 := leW_word hi hr.2 (idx_in hv) e2
    rw [word_idx hv] at e3
    have hql : q ∈ l' := hu.all q hq (fun h0 => by
      have := leW_len e3
      rw [wordS_len] at this
      have := hsh h0; omega)
    exact ⟨(q.1, wordS p.seen q.2), List.mem_map.2 ⟨q, hql, rfl⟩, by show q.1 = _; rw [e1, on_val hm, word_idx hv], e3⟩
  have any1 : (0 : Int) ≤ -1 → False := by omega
  cases o with
  | none =>
    refine outS_no hp (fun w v hw hv hsh => ?_)
    obtain ⟨x, hx, x1, x2⟩ := fwd_cov hp hw
    obtain ⟨y, hy, y1, y2⟩ := bcov v hv hsh
    have h1 := hs.1 rfl (x, y) (mem_twos.2 ⟨hx, hy⟩)
    cases hl : leakB p.secret (wasL p w v) with
    | false => rfl
    | true =>
      rw [(okP_iff hp (most := -1) x1 y1).2 ⟨fun h0 => absurd h0 (fun h => any1 h), hl⟩] at h1
      cases h1
  | some q =>
    obtain ⟨⟨⟨x, y⟩, c1, c2, c3⟩, h2⟩ := hs.2 q rfl
    obtain ⟨hx, hy⟩ := mem_twos.1 c1
    dsimp only at hx hy c2 c3
    obtain ⟨x1, x2, -⟩ := fwd_mem hp hx
    obtain ⟨y1, y2, y3⟩ := bmem y hy
    subst c3
    refine outS_is hp x2 y2 y3 ((okP_iff hp (most := -1) x1 y1).1 c2).2 (fun w' v' hw hv hsh hl => ?_)
    obtain ⟨x', hx', x1', x2'⟩ := fwd_cov hp hw
    obtain ⟨y', hy', y1', y2'⟩ := bcov v' hv hsh
    exact pair_le x2' y2' (h2 (x', y') (mem_twos.2 ⟨hx', hy'⟩) ((okP_iff hp (most := -1) x1' y1').2 ⟨fun h0 => absurd h0 (fun h => any1 h), hl⟩))

/-! Where it was, by where it began. -/
/-- The plant that begins where a list leads. -/
def atP (p : Plant) (before : List Int) : Plant := { p with m := { p.m with starts := estL p before } }
theorem may_at {p : Plant} (hp : mayP p = true) (before : List Int) : mayP (atP p before) = true := by
  obtain ⟨hm, z, h1, h2⟩ := (mayP_iff p).1 hp
  have hz := mayB_size hm
  unfold sizeOk at hz
  have he := est_in hm before
  have hr : rowB p.m.st (estL p before) = true := (rowB_iff _ (by omega) _).2 ⟨he.1, he.2⟩
  refine (mayP_iff _).2 ⟨?_, z, h1, h2⟩
  unfold mayB at hm ⊢
  simp only [Bool.and_eq_true] at hm ⊢
  exact ⟨hm.1, hr, hm.2.2⟩
theorem was_at {p : Plant} (hp : mayP p = true) (before behind : List Int) : beganL (atP p before) behind = wasL p before behind := rfl

end Go.Proofs.YtmimjpkllgjdkaaDoor
