/-
  What current.May, Estimate and Leak leave; plain: what is best of what is known ahead.
  Plain: where a plant may have begun. No program, no model.
  The walk of current.Estimate.
  What initial.Began and Leak leave.
  Plain: the program's way to the least list that tells the beginning: sets gone back to, by a table of the hidden machine's arrows. No program, no model.
  Plain: where a plant was, and the least two lists that tell it. No program, no model.
-/
import Derived.Test.YtmimjpkllgjdkaaDoorG28
import Derived.Test.YtmimjpkllgjdkaaDoorCR9Fwd
import Derived.Test.YtmimjpkllgjdkaaDoorG04
import Derived.Test.YtmimjpkllgjdkaaDoorG07
import Derived.Test.YtmimjpkllgjdkaaDoorG27
import Derived.Test.YtmimjpkllgjdkaaDoorG15
import Derived.Test.YtmimjpkllgjdkaaDoorG26
namespace Go.Proofs.YtmimjpkllgjdkaaDoor
open Go.RowKit
set_option linter.unusedVariables false

/-- Are all of a list seen? -/
def inSeen (seen word : List Int) : Bool := decide ((seenL seen word).length = word.length)
theorem inSeen_iff (seen word : List Int) : inSeen seen word = true ↔ ∀ e ∈ word, e ∈ seen := by
  unfold inSeen seenL
  rw [decide_eq_true_eq, List.length_filter_eq_length_iff]
  constructor
  · intro h e he
    have := h e he
    unfold hasB at this
    simpa using this
  · intro h e he
    have := h e he
    unfold hasB
    simpa using this
/-- What Estimate answers (I2). -/
def estOut (p : Plant) (word : List Int) : List Int × Int := if mayP p = true then (if inSeen p.seen word = true then (estL p word, 0) else ([], 6)) else ([], 2)
/-- What is left by a call that hands back a list and an error. -/
def ListPost (w : World) (r : List Int × Int) (e : Ending) (w' : World) : Prop := ∃ va vc, e = .returned (.tuple #[.slice va r.1.length vc, .int .i64 r.2]) ∧ At w' va r.1 ∧ r.1.length ≤ maxLen ∧ Below w.heap.size w w'
/-- What a search answers. -/
def leakOut (p : Plant) (o : Option (List Int)) : Bool × List Int × Int := if mayP p = true then (o.isSome, o.getD [], 0) else (false, [], 2)
def LeakPost (w : World) (r : Bool × List Int × Int) (e : Ending) (w' : World) : Prop := ∃ va vc, e = .returned (.tuple #[.bool r.1, .slice va r.2.1.length vc, .int .i64 r.2.2]) ∧ At w' va r.2.1 ∧ r.2.1.length ≤ maxLen ∧ Below w.heap.size w w'
theorem estOut_bad {p : Plant} (h : mayP p = false) (word : List Int) : estOut p word = ([], 2) := by unfold estOut; rw [if_neg (by rw [h]; simp)]
theorem estOut_ok {p : Plant} {word : List Int} (h : mayP p = true) (hs : inSeen p.seen word = true) : estOut p word = (estL p word, 0) := by unfold estOut; rw [if_pos h, if_pos hs]
theorem estOut_out {p : Plant} {word : List Int} (h : mayP p = true) (hs : inSeen p.seen word = false) : estOut p word = ([], 6) := by unfold estOut; rw [if_pos h, if_neg (by rw [hs]; simp)]
theorem leakOut_bad {p : Plant} (h : mayP p = false) (o : Option (List Int)) : leakOut p o = (false, [], 2) := by unfold leakOut; rw [if_neg (by rw [h]; simp)]
theorem leakOut_ok {p : Plant} (h : mayP p = true) (o : Option (List Int)) : leakOut p o = (o.isSome, o.getD [], 0) := by unfold leakOut; rw [if_pos h]

/-! What is best, where the lesser lists stand ahead. -/
def leakK (secret only : List Int) (x : Kno) : Bool := leakB secret (x.1.filter fun n => hasB only n == true)
end Go.Proofs.YtmimjpkllgjdkaaDoor
namespace Go.Proofs.YtmimjpkllgjdkaaDoor
open Go.RowKit
set_option linter.unusedVariables false
set_option linter.unusedSectionVars false

/-! What is seen from some states on is what is seen from one of them on. -/
/-- Unseen events lead nowhere else. -/
def ClS (p : Plant) (S : List Int) : Prop := ∀ a ∈ p.m.arrows, hasB p.seen a.e = false → a.f ∈ S → a.t ∈ S
theorem cl_wide {p : Plant} (hm : mayB p.m = true) (ss : List Int) : ClS p (wideL p.m.arrows p.seen ss) := fun a ha hu hf => wide_cl (may_to hm) ha hu hf
theorem wide_min {p : Plant} (hm : mayB p.m = true) {ss S : List Int} (hS : ClS p S) (h : ∀ x ∈ ss, x ∈ S) : ∀ x ∈ wideL p.m.arrows p.seen ss, x ∈ S := fun x hx => by
  refine (mem_wide (may_to hm) x).1 hx (fun y => y ∈ S) ⟨h, fun a ha hf => ?_⟩
  obtain ⟨h1, h2⟩ := (mem_unseen _ _ _).1 ha
  exact hS a h1 h2 hf
theorem see_mono {p : Plant} (hm : mayB p.m = true) {S S' : List Int} (h : ∀ x ∈ S, x ∈ S') (e : Int) : ∀ x ∈ seeL p S e, x ∈ seeL p S' e := by
  refine wide_min hm (cl_wide hm _) (fun x hx => ?_)
  obtain ⟨a, h1, h2, h3, h4⟩ := (mem_stepL _ _ _ _).1 hx
  exact wide_sub (may_to hm) _ ((mem_stepL _ _ _ _).2 ⟨a, h1, h2, h _ h3, h4⟩)
theorem fold_mono {p : Plant} (hm : mayB p.m = true) : ∀ (word : List Int) {S S' : List Int}, (∀ x ∈ S, x ∈ S') → ∀ x ∈ word.foldl (seeL p) S, x ∈ word.foldl (seeL p) S'
  | [], _, _, h => h
  | e :: r, S, S', h => fold_mono hm r (see_mono hm h e)
theorem see_one {p : Plant} (hm : mayB p.m = true) {S : List Int} {e x : Int} (h : x ∈ seeL p S e) : ∃ t ∈ S, x ∈ seeL p [t] e := by
  refine (mem_wide (may_to hm) x).1 h (fun y => ∃ t ∈ S, y ∈ seeL p [t] e) ⟨fun y hy => ?_, fun a ha hf => ?_⟩
  · obtain ⟨a, h1, h2, h3, h4⟩ := (mem_stepL _ _ _ _).1 hy
    exact ⟨a.f, h3, wide_sub (may_to hm) _ ((mem_stepL _ _ _ _).2 ⟨a, h1, h2, by simp, h4⟩)⟩
  · obtain ⟨t, ht, hft⟩ := hf
    obtain ⟨h1, h2⟩ := (mem_unseen _ _ _).1 ha
    exact ⟨t, ht, cl_wide hm _ a h1 h2 hft⟩
theorem fold_one {p : Plant} (hm : mayB p.m = true) : ∀ (word : List Int) {S : List Int} {x : Int}, x ∈ word.foldl (seeL p) S → ∃ t ∈ S, x ∈ fromL p [t] word
  | [], S, x, h => ⟨x, h, wide_sub (may_to hm) _ (by simp)⟩
  | e :: r, S, x, h => by
    obtain ⟨u, hu, hx⟩ := fold_one hm r (S := seeL p S e) h
    obtain ⟨t, ht, hut⟩ := see_one hm hu
    refine ⟨t, ht, ?_⟩
    show x ∈ r.foldl (seeL p) (seeL p (wideL p.m.arrows p.seen [t]) e)
    refine fold_mono hm r (S := wideL p.m.arrows p.seen [u]) ?_ x hx
    refine wide_min hm (cl_wide hm _) (fun y hy => ?_)
    have : y = u := by simpa using hy
    subst this
    exact see_mono hm (fun z hz => wide_sub (may_to hm) _ hz) e y hut

/-! Where a list can go on from. -/
/-- The states from which an event goes on into a row. -/
def intoL (p : Plant) (row : List Int) (e : Int) : List Int := (rngI p.m.st.toNat).filter fun s => decide (0 < ((seeL p (wideL p.m.arrows p.seen [s]) e).filter fun t => hasB row t == true).length)
/-- The states from which a list goes on. -/
def onL (p : Plant) (word : List Int) : List Int := (rngI p.m.st.toNat).filter fun s => decide (0 < (fromL p [s] word).length)
theorem mem_rng9 (n : Nat) (x : Int) : x ∈ rngI n ↔ 0 ≤ x ∧ x < (n : Int) := by
  unfold rngI
  rw [List.mem_map]
  constructor
  · rintro ⟨k, hk, rfl⟩
    have := List.mem_range.1 hk
    omega
  · rintro ⟨h0, h1⟩
    exact ⟨x.toNat, List.mem_range.2 (by omega), by omega⟩
theorem inc_rng9 (n : Nat) : Inc (rngI n) := by
  unfold rngI Inc
  rw [List.pairwise_map]
  exact List.Pairwise.imp (fun h => by omega) List.pairwise_lt_range
theorem inc_flt {l : List Int} (h : Inc l) (f : Int → Bool) : Inc (l.filter f) := List.Pairwise.filter f h
theorem pos_mem {l : List Int} : 0 < l.length ↔ ∃ x, x ∈ l := by
  constructor
  · intro h; exact ⟨l[0], List.getElem_mem h⟩
  · rintro ⟨x, hx⟩; exact List.length_pos_of_mem hx
theorem mem_on (p : Plant) (word : List Int) (s : Int) : s ∈ onL p word ↔ (0 ≤ s ∧ s < (p.m.st.toNat : Int)) ∧ ∃ x, x ∈ fromL p [s] word := by
  unfold onL
  rw [List.mem_filter, mem_rng9, decide_eq_true_eq, pos_mem]
theorem mem_into (p : Plant) (row : List Int) (e s : Int) : s ∈ intoL p row e ↔ (0 ≤ s ∧ s < (p.m.st.toNat : Int)) ∧ ∃ t, t ∈ seeL p (wideL p.m.arrows p.seen [s]) e ∧ t ∈ row := by
  unfold intoL
  rw [List.mem_filter, mem_rng9, decide_eq_true_eq, pos_mem]
  refine and_congr_right fun _ => ?_
  constructor
  · rintro ⟨t, ht⟩
    rw [List.mem_filter] at ht
    refine ⟨t, ht.1, ?_⟩
    have := ht.2
    unfold hasB at this
    simpa using this
  · rintro ⟨t, h1, h2⟩
    refine ⟨t, ?_⟩
    rw [List.mem_filter]
    refine ⟨h1, ?_⟩
    unfold hasB
    simpa using h2
theorem on_nil {p : Plant} (hm : mayB p.m = true) : onL p [] = rngI p.m.st.toNat := by
  unfold onL
  rw [List.filter_eq_self]
  intro s hs
  rw [decide_eq_true_eq, pos_mem]
  exact ⟨s, wide_sub (may_to hm) _ (by simp)⟩
theorem on_cons {p : Plant} (hm : mayB p.m = true) (e : Int) (word : List Int) : onL p (e :: word) = intoL p (onL p word) e := by
  refine inc_ext (inc_flt (inc_rng9 _) _) (inc_flt (inc_rng9 _) _) (fun s => ?_)
  show s ∈ onL p (e :: word) ↔ s ∈ intoL p (onL p word) e
  have hz := mayB_size hm
  unfold sizeOk at hz
  rw [mem_on, mem_into]
  refine and_congr_right fun hs => ?_
  constructor
  · rintro ⟨x, hx⟩
    obtain ⟨t, ht, hx'⟩ := fold_one hm word (S := seeL p (wideL p.m.arrows p.seen [s]) e) hx
    have hb := (see_in hm (wideL p.m.arrows p.seen [s]) e).2 t ht
    exact ⟨t, ht, (mem_on _ _ _).2 ⟨⟨hb.1, by omega⟩, x, hx'⟩⟩
  · rintro ⟨t, ht, hr⟩
    obtain ⟨-, x, hx⟩ := (mem_on _ _ _).1 hr
    refine ⟨x, ?_⟩
    show x ∈ word.foldl (seeL p) (seeL p (wideL p.m.arrows p.seen [s]) e)
    refine fold_mono hm word (S := wideL p.m.arrows p.seen [t]) ?_ x hx
    refine wide_min hm (cl_wide hm _) (fun y hy => ?_)
    have : y = t := by simpa using hy
    subst this; exact ht
def opB (p : Plant) (k : Nat) (row : List Int) : List Int := intoL p row (p.seen[k]?.getD 0)
theorem on_val {p : Plant} (hm : mayB p.m = true) : ∀ u : List Int, valB (opB p) (rngI p.m.st.toNat) u = onL p (wordS p.seen u)
  | [] => (on_nil hm).symm
  | k :: u => by
    show opB p k.toNat (valB (opB p) (rngI p.m.st.toNat) u) = onL p (p.seen[k.toNat]?.getD 0 :: wordS p.seen u)
    rw [on_val hm u, on_cons hm]; rfl
/-- All such rows, each with the least list (of numbers), by lengths. -/
def bwdL (p : Plant) : List (List Int × List Int) := bwGo (opB p) p.seen.length 65 [(rngI p.m.st.toNat, [])] [(rngI p.m.st.toNat, [])]
theorem bwd_bound {p : Plant} (hm : mayB p.m = true) (z : p.m.st ≤ 6) {n : Nat} {l layer : List (List Int × List Int)} (h : LBk (opB p) (rngI p.m.st.toNat) p.seen.length n l layer) : l.length ≤ 64 := by
  have h1 := nodup_sub (m := subs 6) h.nd (fun s hs => by
    obtain ⟨x, hx, rfl⟩ := List.mem_map.1 hs
    obtain ⟨e1, -, -⟩ := h.run x hx
    rw [e1, on_val hm]
    exact mem_subs 6 _ (inc_flt (inc_rng9 _) _) (fun y hy => by have := ((mem_on _ _ _).1 hy).1; omega))
  rw [List.length_map, subs_len] at h1
  exact h1
theorem bwd_all {p : Plant} (hm : mayB p.m = true) (z : p.m.st ≤ 6) : ∃ n, LBk (opB p) (rngI p.m.st.toNat) p.seen.length n (bwdL p) [] :=
  lbk_end (N := 64) (fun n l layer h => bwd_bound hm z h) 65 0 _ _ (lbk_start _ _) (by simp)

/-! What is best. -/
def BInvK (secret only : List Int) (P : List Kno) (o : Option (List Int)) : Prop :=
  match o with
  | none => ∀ x ∈ P, leakK secret only x = false
  | some v => (∃ x ∈ P, leakK secret only x = true ∧ x.2 = v) ∧ ∀ x ∈ P, leakK secret only x = true → lessB x.2 v = false
theorem binv_step (secret only : List Int) {P : List Kno} {o : Option (List Int)} (h : BInvK secret only P o) (x : Kno) : BInvK secret only (P ++ [x]) (bestStep secret only o x) := by
  have hs : bestStep secret only o x = if (leakK secret only x && (o.isNone || lessB x.2 (o.getD []))) = true then some x.2 else o := rfl
  rw [hs]
  cases hl : leakK secret only x with
  | false =>
    rw [if_neg (by simp)]
    cases o with
    | none =>
      intro y hy
      rcases List.mem_append.1 hy with hy | hy
      · exact h y hy
      · have : y = x := by simpa using hy
        subst this; exact hl
    | some v =>
      obtain ⟨⟨y, hy, h1⟩, h2⟩ := h
      refine ⟨⟨y, List.mem_append_left _ hy, h1⟩, fun y hy hk => ?_⟩
      rcases List.mem_append.1 hy with hy | hy
      · exact h2 y hy hk
      · have : y = x := by simpa using hy
        subst this; rw [hl] at hk; cases hk
  | true =>
    cases o with
    | none =>
      rw [if_pos (by simp)]
      refine ⟨⟨x, by simp, hl, rfl⟩, fun y hy hk => ?_⟩
      rcases List.mem_append.1 hy with hy | hy
      · rw [h y hy] at hk; cases hk
      · have : y = x := by simpa using hy
        subst this; exact lessB_irrefl _
    | some v =>
      obtain ⟨⟨z, hz, h1⟩, h2⟩ := h
      cases hls : lessB x.2 v with
      | true =>
        rw [if_pos (by simp [hls])]
        refine ⟨⟨x, by simp, hl, rfl⟩, fun y hy hk => ?_⟩
        rcases List.mem_append.1 hy with hy | hy
        · have k1 := leW_of_not (h2 y hy hk)
          exact leW_not (leW_trans (.inr hls) k1)
        · have : y = x := by simpa using hy
          subst this; exact lessB_irrefl _
      | false =>
        rw [if_neg (by simp [hls])]
        refine ⟨⟨z, List.mem_append_left _ hz, h1⟩, fun y hy hk => ?_⟩
        rcases List.mem_append.1 hy with hy | hy
        · exact h2 y hy hk
        · have : y = x := by simpa using hy
          subst this; exact hls
theorem binv_all (secret only : List Int) : ∀ (L P : List Kno) (o : Option (List Int)), BInvK secret only P o → BInvK secret only (P ++ L) (L.foldl (bestStep secret only) o)
  | [], P, o, h => by simpa using h
  | x :: r, P, o, h => by
    have := binv_all secret only r (P ++ [x]) _ (binv_step secret only h x)
    rw [List.append_assoc] at this
    exact this
theorem best_inv (secret only : List Int) (L : List Kno) : BInvK secret only L (bestL secret only L) := by
  have := binv_all secret only L [] none (fun x hx => by simp at hx)
  simpa [bestL] using this

/-! Where it may have begun (J1), and what tells it (J2). -/
def beganL (p : Plant) (word : List Int) : List Int := p.m.starts.filter fun s => decide (0 < (fromL p [s] word).length)
theorem began_row {p : Plant} (hm : mayB p.m = true) (word : List Int) : ((onL p word).filter fun n => hasB p.m.starts n == true) = beganL p word := by
  have h1 := may_starts hm
  have hz := mayB_size hm
  unfold sizeOk at hz
  refine inc_ext (inc_flt (inc_flt (inc_rng9 _) _) _) (inc_flt h1.1 _) (fun s => ?_)
  unfold beganL
  rw [List.mem_filter, List.mem_filter, decide_eq_true_eq, pos_mem]
  have hb : ((hasB p.m.starts s == true) = true) ↔ s ∈ p.m.starts := by unfold hasB; simp
  rw [hb]
  constructor
  · rintro ⟨h2, h3⟩
    exact ⟨h3, ((mem_on _ _ _).1 h2).2⟩
  · rintro ⟨h2, h3⟩
    have := h1.2 s h2
    exact ⟨(mem_on _ _ _).2 ⟨⟨this.1, by omega⟩, h3⟩, h2⟩
def outI (p : Plant) : Option (List Int) := bestL p.secret p.m.starts (knL p.seen (bwdL p))
theorem bwd_leak {p : Plant} (hm : mayB p.m = true) {n : Nat} {l layer : List (List Int × List Int)} (h : LBk (opB p) (rngI p.m.st.toNat) p.seen.length n l layer) {x : List Int × List Int} (hx : x ∈ l) : leakK p.secret p.m.starts (x.1, wordS p.seen x.2) = leakB p.secret (beganL p (wordS p.seen x.2)) := by
  show leakB p.secret (x.1.filter fun n => hasB p.m.starts n == true) = _
  rw [(h.run x hx).1, on_val hm, began_row hm]
theorem outI_none {p : Plant} (hp : mayP p = true) (h : outI p = none) (word : List Int) (hw : ∀ e ∈ word, e ∈ p.seen) : leakB p.secret (beganL p word) = false := by
  obtain ⟨hm, z, hs, -⟩ := (mayP_iff p).1 hp
  obtain ⟨n, hI⟩ := bwd_all hm z
  have hb := best_inv p.secret p.m.starts (knL p.seen (bwdL p))
  rw [show bestL p.secret p.m.starts (knL p.seen (bwdL p)) = none from h] at hb
  obtain ⟨x, hx, e1, -⟩ := lbk_all hI (idxS p.seen word) (idx_in hw)
  have h1 := hb (x.1, wordS p.seen x.2) (List.mem_map.2 ⟨x, hx, rfl⟩)
  have h2 : leakK p.secret p.m.starts (x.1, wordS p.seen x.2) = leakB p.secret (beganL p word) := by
    show leakB p.secret (x.1.filter fun n => hasB p.m.starts n == true) = _
    rw [e1, on_val hm, word_idx hw, began_row hm]
  rw [← h2]; exact h1
/-- A least word is no longer than there are rows. -/
theorem bwd_wlen {p : Plant} (hm : mayB p.m = true) (z : p.m.st ≤ 6) {n : Nat} (hI : LBk (opB p) (rngI p.m.st.toNat) p.seen.length n (bwdL p) []) {x : List Int × List Int} (hx : x ∈ bwdL p) : x.2.length ≤ 64 := by
  have hr := hI.run x hx
  have hlen : ∀ m, m ≤ x.2.length → ∃ q ∈ bwdL p, q.2.length = m := by
    intro m hmle
    have hsuf : ∀ e ∈ x.2.drop (x.2.length - m), 0 ≤ e ∧ e < (p.seen.length : Int) := fun e he => hr.2.1 e (List.mem_of_mem_drop he)
    obtain ⟨q, hq, e1, e2⟩ := lbk_all hI _ hsuf
    refine ⟨q, hq, ?_⟩
    have hql := hI.run q hq
    have hle : q.2.length ≤ m := by
      have : q.2.length ≤ (x.2.drop (x.2.length - m)).length := by
        rcases e2 with e2 | e2
        · rw [e2]; exact Nat.le_refl _
        · exact lessB_len e2
      rw [List.length_drop] at this; omega
    rcases Nat.lt_or_ge q.2.length m with hlt | hge
    · -- else the whole word could be made shorter
      exfalso
      have hval : valB (opB p) (rngI p.m.st.toNat) (x.2.take (x.2.length - m) ++ q.2) = x.1 := by
        have hap : ∀ (a b c : List Int), valB (opB p) (rngI p.m.st.toNat) b = valB (opB p) (rngI p.m.st.toNat) c → valB (opB p) (rngI p.m.st.toNat) (a ++ b) = valB (opB p) (rngI p.m.st.toNat) (a ++ c) := by
          intro a
          induction a with
          | nil => intro b c h; exact h
          | cons e a ih => intro b c h; show opB p e.toNat (valB (opB p) (rngI p.m.st.toNat) (a ++ b)) = opB p e.toNat (valB (opB p) (rngI p.m.st.toNat) (a ++ c)); rw [ih b c h]
        rw [hap _ q.2 (x.2.drop (x.2.length - m)) (by rw [← e1, hql.1]), List.take_append_drop, hr.1]
      have hin : ∀ e ∈ x.2.take (x.2.length - m) ++ q.2, 0 ≤ e ∧ e < (p.seen.length : Int) := fun e he => by
        rcases List.mem_append.1 he with he | he
        · exact hr.2.1 e (List.mem_of_mem_take he)
        · exact hql.2.1 e he
      have hle2 := hI.lst x hx _ hin hval
      have hl2 : x.2.length ≤ (x.2.take (x.2.length - m) ++ q.2).length := by
        rcases hle2 with e2 | e2
        · rw [← e2]; exact Nat.le_refl _
        · exact lessB_len e2
      rw [List.length_append, List.length_take] at hl2
      omega
    · omega
  have hsub := nodup_sub (l := List.range (x.2.length + 1)) (m := (bwdL p).map fun q => q.2.length) List.nodup_range (fun m hm' => by
    obtain ⟨q, hq, e1⟩ := hlen m (by have := List.mem_range.1 hm'; omega)
    exact List.mem_map.2 ⟨q, hq, e1⟩)
  rw [List.length_range, List.length_map] at hsub
  have := bwd_bound hm z hI
  omega
theorem outI_some {p : Plant} (hp : mayP p = true) {v : List Int} (h : outI p = some v) : leakB p.secret (beganL p v) = true ∧ (∀ e ∈ v, e ∈ p.seen) ∧ v.length ≤ 64 ∧ ∀ word : List Int, (∀ e ∈ word, e ∈ p.seen) → leakB p.secret (beganL p word) = true → lessB word v = false := by
  obtain ⟨hm, z, hs, -⟩ := (mayP_iff p).1 hp
  have hz := mayB_size hm
  unfold sizeOk at hz
  have hi : Inc p.seen := ((rowB_iff _ (by omega) _).1 hs).1
  obtain ⟨n, hI⟩ := bwd_all hm z
  have hb := best_inv p.secret p.m.starts (knL p.seen (bwdL p))
  rw [show bestL p.secret p.m.starts (knL p.seen (bwdL p)) = some v from h] at hb
  obtain ⟨⟨y, hy, h1, h2⟩, h3⟩ := hb
  obtain ⟨x, hx, rfl⟩ := List.mem_map.1 hy
  dsimp only at h1 h2
  subst h2
  have hr := hI.run x hx
  rw [bwd_leak hm hI hx] at h1
  refine ⟨h1, word_in hr.2.1, ?_, fun word hw hl => ?_⟩
  · rw [wordS_len]; exact bwd_wlen hm z hI hx
  · obtain ⟨q, hq, e1, e2⟩ := lbk_all hI (idxS p.seen word) (idx_in hw)
    have hq1 : leakK p.secret p.m.starts (q.1, wordS p.seen q.2) = true := by
      show leakB p.secret (q.1.filter fun n => hasB p.m.starts n == true) = true
      rw [e1, on_val hm, word_idx hw, began_row hm]; exact hl
    have h4 := h3 (q.1, wordS p.seen q.2) (List.mem_map.2 ⟨q, hq, rfl⟩) hq1
    dsimp only at h4
    have hqr := hI.run q hq
    rw [lessB_word hi hqr.2.1 hr.2.1] at h4
    have h5 := leW_not (leW_trans (leW_of_not h4) e2)
    rw [← lessB_word hi (idx_in hw) hr.2.1, word_idx hw] at h5
    exact h5

end Go.Proofs.YtmimjpkllgjdkaaDoor
namespace Go.Proofs.YtmimjpkllgjdkaaDoor
open Go.RowKit
set_option linter.unusedVariables false

theorem allIn_eq (seen xs : List Int) : allIn seen xs = inSeen seen xs := by
  rw [Bool.eq_iff_iff, allIn_iff, inSeen_iff]
/-- What Estimate knows behind the first k events. -/
structure ES (p : Plant) (word : List Int) (k : Nat) (S : Nat → Nat) : Prop where
  rep : RepI S (estL p (word.take k))
theorem est_cl {p : Plant} (hm : mayB p.m = true) (u : List Int) : ClU p (estL p u) := clU_fold hm u _ (clU_start hm)
theorem est_snoc (p : Plant) (u : List Int) (e : Int) : estL p (u ++ [e]) = seeL p (estL p u) e := by
  unfold estL fromL
  rw [List.foldl_append]; rfl
theorem est_more (p : Plant) (hm : mayB p.m = true) (u v : List Int) (h : estL p u = []) : estL p (u ++ v) = [] := by
  unfold estL fromL at h ⊢
  rw [List.foldl_append, h]
  exact fold_nil hm v
theorem es_next {p : Plant} (hp : mayP p = true) {word : List Int} {k : Nat} {S : Nat → Nat} (h : ES p word k S) (hk : k < word.length) {ev : Int} (he : Hid (ev = word[k]?.getD 0)) {j : Nat} (hj : Hid (placeN p.seen ev = some j)) : ES p word (k + 1) (leadS p.seen.length (hideM p.m p.seen).arrows S j) := by
  obtain ⟨hm, -, -, -⟩ := (mayP_iff p).1 hp
  have h1 := placeN_some hj.out
  have hl := (List.getElem?_eq_some_iff.1 h1).1
  have h2 := rep_see hp h.rep (est_cl hm _) hl
  refine ⟨?_⟩
  have h3 : word[k]? = some ev := by rw [he.out, List.getElem?_eq_getElem hk, Option.getD_some]
  rw [List.take_add_one, h3, Option.toList_some, est_snoc]
  have h4 : seeD p (estL p (word.take k)) j = seeL p (estL p (word.take k)) ev := by unfold seeD; rw [h1, Option.getD_some]
  rw [← h4]; exact h2
/-- Nothing more is to be known: what Row answers. -/
theorem es_row {p : Plant} (hm : mayB p.m = true) {word : List Int} {k : Nat} {S : Nat → Nat} (h : ES p word k S) (hk : emptyB S = true ∨ word.length ≤ k) : rowS S = estL p word := by
  rw [rep_row h.rep.1 h.rep.2]
  rcases hk with he | hk
  · have := empty_yes h.rep.1 he
    rw [this]
    have e := est_more p hm (word.take k) (word.drop k) this
    rw [List.take_append_drop] at e
    exact e.symm
  · rw [List.take_of_length_le hk]

/-- What is left by a call that hands back a list of its own, and an error. -/
def ListOwn (w : World) (r : List Int × Int) (e : Ending) (w' : World) : Prop := ∃ v, e = .returned (.tuple #[v, .int .i64 r.2]) ∧ Own w' w.heap.size v r.1 ∧ Below w.heap.size w w'
theorem ListOwn.post {w : World} {r : List Int × Int} {e : Ending} {w' : World} (h : ListOwn w r e w') : ListPost w r e w' := by
  obtain ⟨v, rfl, ov, hb⟩ := h
  obtain ⟨va, vc, rfl, h1, h2⟩ := Own.at ov
  exact ⟨va, vc, rfl, h1, h2, hb⟩

set_option maxRecDepth 100000 in
set_option maxHeartbeats 4000000 in
theorem est_bad (p : Plant) (P : PTL) (wa : Option Addr) (wc : Nat) (word : List Int) (w : World) (h : Hid (PAt w p P)) (hp : Hid (mayP p = false)) :
    Calls Tryd.prog 31 #[ptval p P, .slice wa word.length wc] w fun e w' => ListOwn w (estOut p word) e w' := by
  have B : Hid (Below w.heap.size w (w.alloc (.cells (ptcells p P) 44))) := (Below.refl _ _).alloc (Nat.le_refl _) _
  have KP : Hid (Blk (w.alloc (.cells (ptcells p P) 44)) w.heap.size 44 (ptcells p P)) := Blk.new w _ _
  go_enter Tryd.func31, Tryd.ntmps31
  obtain ⟨x0, x1, x2, x3, x4, x5, x6⟩ := ptcell_at KP.out
  go_wp2_with fail
  clear x0 x1 x2 x3 x4 x5 x6
  revert B KP
  generalize (w.alloc (.cells (ptcells p P) 44)) = V0
  intro B KP
  refine (cwatch_bad p P V0 (Hid.of (h.out.below B.out (Nat.le_refl _))) hp).mono ?_
  rintro e V1 ⟨rfl, hb⟩
  replace B := Hid.of (B.out.trans (hb.mono B.out.size))
  clear hb KP
  have B2 : Hid (Below w.heap.size w (V1.alloc (.cells zs4 69))) := B.out.alloc B.out.size _
  clear B
  go_wp2_with fail
  refine bodyPost_ret (v := .tuple #[.slice none 0 0, .int .i64 2]) (by simp [results, go_sem]) rfl ?_
  rw [estOut_bad hp.out]
  exact ⟨_, rfl, own_nil _ _, B2.out⟩

set_option maxRecDepth 100000 in
set_option maxHeartbeats 16000000 in
theorem est_ok (p : Plant) (P : PTL) (wa : Option Addr) (wc : Nat) (word : List Int) (w : World) (h : Hid (PAt w p P)) (hw : Hid (At w wa word)) (hwl : Hid (word.length ≤ maxLen)) (hT : Hid (Tab w)) (hp : Hid (mayP p = true)) :
    Calls Tryd.prog 31 #[ptval p P, .slice wa word.length wc] w fun e w' => ListOwn w (estOut p word) e w' := by
  obtain ⟨hm, z6, hrr, -⟩ := (mayP_iff p).1 hp.out
  have hz := mayB_size hm
  unfold sizeOk at hz
  have h8 : p.seen.length ≤ 8 := by have := row_short (by omega) (by omega) hrr; omega
  have h256 : p.m.st.toNat ≤ 256 := by omega
  have HMM := Hid.of hm
  have H8 := Hid.of h8
  have H256 := Hid.of h256
  clear hz hrr hm z6 h8 h256
  have B : Hid (Below w.heap.size w (w.alloc (.cells (ptcells p P) 44))) := (Below.refl _ _).alloc (Nat.le_refl _) _
  have KP : Hid (Blk (w.alloc (.cells (ptcells p P) 44)) w.heap.size 44 (ptcells p P)) := Blk.new w _ _
  go_enter Tryd.func31, Tryd.ntmps31
  obtain ⟨x0, x1, x2, x3, x4, x5, x6⟩ := ptcell_at KP.out
  go_wp2_with fail
  clear x0 x1 x2 x3 x4 x5 x6
  revert B KP
  generalize (w.alloc (.cells (ptcells p P) 44)) = V0
  intro B KP
  refine (cwatch_ok p P V0 (Hid.of (h.out.below B.out (Nat.le_refl _))) (Hid.of (hT.out.below B.out hT.out.lt)) hp).mono ?_
  rintro e V1 ⟨pl, pp, L0, rfl, cl, hb⟩
  replace B := Hid.of (B.out.trans (hb.mono B.out.size))
  replace KP := Hid.of (KP.out.below hb KP.out.lt)
  have HCL := Hid.of cl
  clear hb cl
  obtain ⟨Q, HQ⟩ : ∃ Q, Hid (Q = ofS (wideL p.m.arrows p.seen p.m.starts)) := ⟨_, rfl⟩
  have HRQ : Hid (RepI Q (wideL p.m.arrows p.seen p.m.starts)) := by rw [HQ.out]; exact rep_start hp.out
  rw [← HQ.out]
  have BV : Hid (Below V1.heap.size V1 (V1.alloc (.cells (scells Q) 69))) := (Below.refl _ _).alloc (Nat.le_refl _) _
  have KS : Hid (SB (V1.alloc (.cells (scells Q) 69)) V1.heap.size Q) := Blk.new V1 _ _
  obtain ⟨x0, x1, x2, x3, x4, x5, x6⟩ := ptcell_at (KP.out.below BV.out KP.out.lt)
  obtain ⟨y0, y1, y2, y3⟩ := SB.cells KS.out
  go_wp2_with fail
  clear x0 x1 x2 x3 x4 x5 x6 y0 y1 y2 y3
  revert BV KS
  generalize V1.alloc (.cells (scells Q) 69) = V2
  intro BV KS
  refine (cisSeen_any p P wa wc word V2 (Hid.of (h.out.below (B.out.trans (BV.out.mono B.out.size)) (Nat.le_refl _))) (Hid.of (hw.out.below (B.out.trans (BV.out.mono B.out.size)) (Nat.le_refl _))) hwl).mono ?_
  rintro e V3 ⟨rfl, hb⟩
  rw [allIn_eq]
  replace BV := Hid.of (BV.out.trans (hb.mono BV.out.size))
  replace KS := Hid.of (KS.out.below hb KS.out.lt)
  clear hb
  cases hin : inSeen p.seen word with
  | false =>
    have HO : Hid (estOut p word = ([], 6)) := estOut_out hp.out hin
    clear hin
    go_wp2_with fail
    refine bodyPost_ret (v := .tuple #[.slice none 0 0, .int .i64 6]) (by simp [results, go_sem]) rfl ?_
    rw [HO.out]
    exact ⟨_, rfl, own_nil _ _, B.out.trans (BV.out.mono B.out.size)⟩
  | true =>
    have HO : Hid (estOut p word = (estL p word, 0)) := estOut_ok hp.out hin
    have HIN : Hid (∀ e ∈ word, e ∈ p.seen) := (inSeen_iff _ _).1 hin
    have hwl2 : word.length ≤ 9223372036854775807 := hwl.out
    clear hin
    go_wp2_with fail
    go_loopw [26] (fun i wr => ∃ (k : Nat) (S : Nat → Nat), i = .int .i64 k ∧ k ≤ word.length ∧ Hid (ES p word k S) ∧ Hid (Below V1.heap.size V1 wr) ∧ Hid (SB wr V1.heap.size S)) (fun i _ => word.length - (intOf i).toNat)
    case atStart => exact ⟨0, Q, rfl, Nat.zero_le _, Hid.of ⟨HRQ.out⟩, BV, KS⟩
    case round =>
      clear BV KS HRQ HQ
      obtain ⟨k, S, rfl, hk, HES, BV, KS⟩ := hrel
      by_cases hlt : k < word.length
      · obtain ⟨bs, os, ev, rfl, HEV, HSC⟩ : ∃ (bs os : Nat) (ev : Int), wa = some ⟨bs, os, none⟩ ∧ Hid (ev = word[k]?.getD 0) ∧ wr.cell? ⟨bs, os + k, none⟩ = some (.int .i64 ev) := by
          rcases hw.out with h0 | ⟨bs, os, ha, hb, hc⟩
          · have : word.length = 0 := by rw [h0]; rfl
            omega
          · obtain ⟨ev, hev, hcell⟩ := hc.at hlt
            refine ⟨bs, os, ev, ha, hev, ?_⟩
            exact ((B.out.trans (BV.out.mono B.out.size)).cell (p := ⟨bs, os + k, none⟩) hb).trans hcell
        obtain ⟨j, HJ⟩ : ∃ j, Hid (placeN p.seen ev = some j) := placeN_mem (HIN.out ev (by rw [HEV.out, List.getElem?_eq_getElem hlt, Option.getD_some]; exact List.getElem_mem hlt))
        have HJL : Hid (j < p.seen.length) := (List.getElem?_eq_some_iff.1 (placeN_some HJ.out)).1
        obtain ⟨y0, y1, y2, y3⟩ := SB.cells KS.out
        have hgd := run_guard_set
        cases hE : emptyB S with
        | true =>
          have heq : (Op.equalIn 10000 69 (.agg #[.int .u64 (S 0), .int .u64 (S 1), .int .u64 (S 2), .int .u64 (S 3)]) (.agg #[.int .u64 0, .int .u64 0, .int .u64 0, .int .u64 0])).run Tryd.prog wr = .ok true wr := by rw [← hE]; exact run_equalIn_set S wr
          have HEQ : Hid (rowS S = estL p word) := es_row HMM.out HES.out (.inl hE)
          clear hE
          go_wp2_with fail
          refine (rowO_any S _ HES.out.rep.1.ok (hT.out.below (B.out.trans (BV.out.mono B.out.size)) hT.out.lt)).mono ?_
          rintro e W9 ⟨v9, rfl, ov, hb⟩
          obtain ⟨R, HRr⟩ : ∃ R, Hid (R = rowS S) := ⟨_, rfl⟩
          rw [← HRr.out] at ov
          have OV := Hid.of (Own.low ov (Nat.le_trans B.out.size BV.out.size))
          have B9 := Hid.of (B.out.trans ((BV.out.trans (hb.mono BV.out.size)).mono B.out.size))
          clear ov hb
          go_wp2_with fail
          refine bodyPost_ret (v := .tuple #[v9, .int .i64 0]) (by simp [results, go_sem]) rfl ?_
          rw [HO.out, ← HEQ.out, ← HRr.out]
          exact ⟨v9, rfl, OV.out, B9.out⟩
        | false =>
          have heq : (Op.equalIn 10000 69 (.agg #[.int .u64 (S 0), .int .u64 (S 1), .int .u64 (S 2), .int .u64 (S 3)]) (.agg #[.int .u64 0, .int .u64 0, .int .u64 0, .int .u64 0])).run Tryd.prog wr = .ok false wr := by rw [← hE]; exact run_equalIn_set S wr
          have HN : Hid (ES p word (k + 1) (leadS p.seen.length (hideM p.m p.seen).arrows S j)) := es_next hp.out HES.out hlt HEV HJ
          have hcall := Hid.of (cwatch1_any p P S ev j HJ HJL.out H8.out H256.out (Hid.of HES.out.rep.1.ok) (Hid.of (all_lt HES.out.rep (est_cl HMM.out _))) pl pp L0 wr (Hid.of (hT.out.below (B.out.trans (BV.out.mono B.out.size)) hT.out.lt)) (Hid.of (HCL.out.kept BV.out)))
          obtain ⟨Q2, HQ2⟩ : ∃ Q2, Hid (Q2 = leadS p.seen.length (hideM p.m p.seen).arrows S j) := ⟨_, rfl⟩
          rw [← HQ2.out] at hcall HN
          clear hE
          go_wp2_with fail
          refine hcall.out.mono ?_
          rintro r w1 ⟨rfl, hb1⟩
          have BV1 := Hid.of (BV.out.trans (hb1.mono BV.out.size))
          have KS1 := Hid.of (KS.out.below hb1 KS.out.lt)
          clear hb1 y0 y1 y2 y3 heq hcall HSC
          obtain ⟨y0, y1, y2, y3⟩ := SB.cells KS1.out
          have yz := KS1.out.frozen
          have KS2 := Hid.of (SB.set4 KS1.out Q2)
          have BV2 := Hid.of (below_set4 BV1.out (b' := V1.heap.size) (Nat.le_refl _) (.int .u64 (Q2 0)) (.int .u64 (Q2 1)) (.int .u64 (Q2 2)) (.int .u64 (Q2 3)))
          go_wp2_with fail
          go_roundw
          case rel => exact ⟨k + 1, Q2, by go_num, by omega, HN, BV2, KS2⟩
          case measure => simp [intOf]; omega
      · have HEQ : Hid (rowS S = estL p word) := es_row HMM.out HES.out (.inr (by omega))
        obtain ⟨y0, y1, y2, y3⟩ := SB.cells KS.out
        go_wp2_with fail
        refine (rowO_any S _ HES.out.rep.1.ok (hT.out.below (B.out.trans (BV.out.mono B.out.size)) hT.out.lt)).mono ?_
        rintro e W9 ⟨v9, rfl, ov, hb⟩
        obtain ⟨R, HRr⟩ : ∃ R, Hid (R = rowS S) := ⟨_, rfl⟩
        rw [← HRr.out] at ov
        have OV := Hid.of (Own.low ov (Nat.le_trans B.out.size BV.out.size))
        have B9 := Hid.of (B.out.trans ((BV.out.trans (hb.mono BV.out.size)).mono B.out.size))
        clear ov hb
        go_wp2_with fail
        refine bodyPost_ret (v := .tuple #[v9, .int .i64 0]) (by simp [results, go_sem]) rfl ?_
        rw [HO.out, ← HEQ.out, ← HRr.out]
        exact ⟨v9, rfl, OV.out, B9.out⟩

theorem pEstO_any (p : Plant) (P : PTL) (wa : Option Addr) (wc : Nat) (word : List Int) (w : World) (h : PAt w p P) (hw : At w wa word) (hwl : word.length ≤ maxLen) (hT : Tab w) :
    Calls Tryd.prog 31 #[ptval p P, .slice wa word.length wc] w fun e w' => ListOwn w (estOut p word) e w' := by
  cases hp : mayP p with
  | false => exact est_bad p P wa wc word w (Hid.of h) (Hid.of hp)
  | true => exact est_ok p P wa wc word w (Hid.of h) (Hid.of hw) (Hid.of hwl) (Hid.of hT) (Hid.of hp)
theorem pEst_any (p : Plant) (P : PTL) (wa : Option Addr) (wc : Nat) (word : List Int) (w : World) (h : PAt w p P) (hw : At w wa word) (hwl : word.length ≤ maxLen) (hT : Tab w) :
    Calls Tryd.prog 31 #[ptval p P, .slice wa word.length wc] w fun e w' => ListPost w (estOut p word) e w' :=
  (pEstO_any p P wa wc word w h hw hwl hT).mono fun _ _ h => h.post

end Go.Proofs.YtmimjpkllgjdkaaDoor
namespace Go.Proofs.YtmimjpkllgjdkaaDoor
open Go.RowKit
set_option linter.unusedVariables false

/-- What Began answers (J1). -/
def begOut (p : Plant) (word : List Int) : List Int × Int := if mayP p = true then (if inSeen p.seen word = true then (beganL p word, 0) else ([], 6)) else ([], 2)
theorem begOut_bad {p : Plant} (h : mayP p = false) (word : List Int) : begOut p word = ([], 2) := by unfold begOut; rw [if_neg (by rw [h]; simp)]
theorem begOut_ok {p : Plant} {word : List Int} (h : mayP p = true) (hs : inSeen p.seen word = true) : begOut p word = (beganL p word, 0) := by unfold begOut; rw [if_pos h, if_pos hs]
theorem begOut_out {p : Plant} {word : List Int} (h : mayP p = true) (hs : inSeen p.seen word = false) : begOut p word = ([], 6) := by unfold begOut; rw [if_pos h, if_neg (by rw [hs]; simp)]

end Go.Proofs.YtmimjpkllgjdkaaDoor
namespace Go.Proofs.YtmimjpkllgjdkaaDoor
open Go.RowKit
set_option linter.unusedVariables false

/-- Does a row tell the beginning? -/
def tellB (p : Plant) (row : List Int) : Bool := leakB p.secret (row.filter fun n => hasB p.m.starts n == true)
theorem tell_on {p : Plant} (hm : mayB p.m = true) {u row : List Int} (h : row = valB (opB p) (rngI p.m.st.toNat) u) : tellB p row = leakB p.secret (beganL p (wordS p.seen u)) := by
  unfold tellB; rw [h, on_val hm, began_row hm]
/-- Nothing found ahead of k tells. -/
structure LIn (p : Plant) (n frm to e r k : Nat) (l : List (List Int × List Int)) : Prop where
  ig : IG (opB p) (rngI p.m.st.toNat) p.seen.length n frm to e r l
  no : ∀ (j : Nat) (x : List Int × List Int), j < k → l[j]? = some x → tellB p x.1 = false
theorem LIn.bound {p : Plant} (hp : mayP p = true) {n frm to e r k : Nat} {l : List (List Int × List Int)} (h : LIn p n frm to e r k l) : l.length ≤ 64 := by
  obtain ⟨hm, z, -, -⟩ := (mayP_iff p).1 hp
  have h1 := nodup_sub (m := subs 6) h.ig.nd (fun s hs => by
    obtain ⟨x, hx, rfl⟩ := List.mem_map.1 hs
    obtain ⟨e1, -⟩ := h.ig.run x hx
    rw [e1, on_val hm]
    exact mem_subs 6 _ (inc_flt (inc_rng9 _) _) (fun y hy => by have := ((mem_on _ _ _).1 hy).1; omega))
  rw [List.length_map, subs_len] at h1
  exact h1
/-! Sets gone back to. -/
/-- Where an arrow stands in the table: by its event (as the plant numbers it) and where it leads to. -/
def frI (seen : List Int) (a : Arr) : Int := (seen[a.e.toNat]?.getD 0) * 6 + a.t
def baT (p : Plant) : Nat → Nat → Nat := tabK (frI p.seen) Arr.f (hideM p.m p.seen).arrows
/-- What goes back from a set, at an event. -/
def backS (p : Plant) (S : Nat → Nat) (e : Nat) : Nat → Nat := toF (fun n => baT p (e * 6 + n)) (allS S)
theorem ok_back (p : Plant) (S : Nat → Nat) (e : Nat) : okS (backS p S e) := ok_toF (fun n => okS_tabK _ _ _ _) _
theorem rep_back {p : Plant} (hp : mayP p = true) {S : Nat → Nat} {s : List Int} (hr : Rep S s) (hb : ∀ x ∈ s, 0 ≤ x ∧ x < p.m.st) {k : Nat} (hk : k < p.seen.length) : RepI (backS p S (p.seen[k]?.getD 0).toNat) (opB p k s) := by
  obtain ⟨hm, z6, hs, -⟩ := (mayP_iff p).1 hp
  have hz := mayB_size hm
  unfold sizeOk at hz
  have hrow := (rowB_iff _ (by omega) _).1 hs
  refine ⟨⟨ok_back _ _ _, fun x hx => ?_, fun n hn => ?_⟩, inc_flt (inc_rng9 _) _⟩
  · have := ((mem_into _ _ _ _).1 hx).1; omega
  · unfold backS
    rw [has_toF]
    show _ ↔ (n : Int) ∈ intoL p s (p.seen[k]?.getD 0)
    rw [mem_into]
    have hsk : ∀ j : Nat, j < p.seen.length → 0 ≤ p.seen[j]?.getD 0 := fun j hj => by
      rw [List.getElem?_eq_getElem hj, Option.getD_some]
      exact (hrow.2 _ (List.getElem_mem hj)).1
    constructor
    · rintro ⟨m, hm1, hm2⟩
      obtain ⟨a, ha, e1, e2⟩ := (has_tabK _ _ _ _ _).1 hm2
      obtain ⟨f, j, hf, hj, hrw⟩ := (mem_hAll _ _ _ _).1 (show a ∈ hAll p.m p.seen p.m.st.toNat from ha)
      obtain ⟨t, ht, rfl⟩ := (mem_hRow _ _ _ _ _).1 hrw
      have htb := (see_in hm (wideL p.m.arrows p.seen [(f : Int)]) (p.seen[j]?.getD 0)).2 t ht
      have hms := (mem_allS _ _).1 hm1
      have hmb := hb (m : Int) ((hr.mem m hms.1).1 hms.2)
      simp only [frI, Int.toNat_natCast] at e1 e2
      have hj0 := hsk j hj
      have hk0 := hsk k hk
      have e3 : p.seen[k]?.getD 0 = p.seen[j]?.getD 0 ∧ t = (m : Int) := by omega
      subst e2
      refine ⟨⟨by omega, by omega⟩, t, ?_, ?_⟩
      · rw [e3.1]; exact ht
      · rw [e3.2]; exact (hr.mem m hms.1).1 hms.2
    · rintro ⟨h1, t, ht, hts⟩
      have htb := hb t hts
      have hk0 := hsk k hk
      refine ⟨t.toNat, (mem_allS _ _).2 ⟨by omega, (hr.mem _ (by omega)).2 (by rwa [Int.toNat_of_nonneg htb.1])⟩, (has_tabK _ _ _ _ _).2 ⟨⟨(n : Int), (k : Int), t⟩, ?_, ?_, by simp⟩⟩
      · exact (mem_hAll _ _ _ _).2 ⟨n, k, by omega, hk, (mem_hRow _ _ _ _ _).2 ⟨t, ht, rfl⟩⟩
      · simp only [frI, Int.toNat_natCast]; omega
theorem bd_op {p : Plant} (hm : mayB p.m = true) (k : Nat) (s : List Int) : ∀ x ∈ opB p k s, 0 ≤ x ∧ x < p.m.st := fun x hx => by
  have hz := mayB_size hm
  unfold sizeOk at hz
  have := ((mem_into _ _ _ _).1 hx).1; omega
theorem bd_rng {p : Plant} (hm : mayB p.m = true) : ∀ x ∈ rngI p.m.st.toNat, 0 ≤ x ∧ x < p.m.st := fun x hx => by
  have hz := mayB_size hm
  unfold sizeOk at hz
  have := (mem_rng9 _ _).1 hx; omega
theorem bd_val {p : Plant} (hm : mayB p.m = true) : ∀ u : List Int, ∀ x ∈ valB (opB p) (rngI p.m.st.toNat) u, 0 ≤ x ∧ x < p.m.st
  | [] => bd_rng hm
  | k :: u => bd_op hm _ _
/-- All states, as a set. -/
def allF (n : Nat) : Nat → Nat := ofS (rngI n)
theorem allF_succ (n : Nat) : allF (n + 1) = withS (allF n) n := by unfold allF; rw [rngI_succ, ofS_snoc, Int.toNat_natCast]
theorem rep_all {n : Nat} (h : n ≤ 256) : RepI (allF n) (rngI n) := by
  have := rep_of (l := rngI n) (fun x hx => by have := (mem_rng9 _ _).1 hx; omega) n
  rw [List.take_of_length_le (by simp [rngI])] at this
  exact ⟨this, inc_rng9 _⟩
theorem ok_allF (n : Nat) : okS (allF n) := by
  induction n with
  | zero => exact okS_zero
  | succ n ih => rw [allF_succ]; exact okS_with ih _
/-- Does a set tell the beginning, as the program tells it? -/
def tellS (S T R : Nat → Nat) : Bool := !emptyB (meetS S T) && emptyB (lessS (meetS S T) R)
theorem rep_meet {S T : Nat → Nat} {l k : List Int} (h : Rep S l) (h' : Rep T k) : Rep (meetS S T) (l.filter fun n => hasB k n == true) := by
  refine ⟨okS_meet h.ok, fun x hx => h.bd x (List.mem_filter.1 hx).1, fun n hn => ?_⟩
  rw [hasS_meet, Bool.and_eq_true, h.mem n hn, h'.mem n hn, List.mem_filter]
  refine and_congr_right fun _ => ?_
  unfold hasB; simp
theorem tell_set {S T R : Nat → Nat} {p : Plant} {s : List Int} (h : Rep S s) (hT : Rep T p.m.starts) (hR : Rep R p.secret) : tellS S T R = tellB p s := by
  unfold tellS tellB
  have hm := rep_meet h hT
  generalize (s.filter fun n => hasB p.m.starts n == true) = row at hm
  generalize meetS S T = M at hm
  unfold leakB
  cases he : emptyB M with
  | true =>
    have : row = [] := by
      rw [List.eq_nil_iff_forall_not_mem]
      intro x hx
      obtain ⟨b0, b1⟩ := hm.bd x hx
      have h1 := empty_has he x.toNat (by omega)
      rw [(hm.mem x.toNat (by omega)).2 (by rwa [Int.toNat_of_nonneg b0])] at h1
      cases h1
    subst this; rfl
  | false =>
    obtain ⟨n, hn, h1⟩ := empty_not hm.ok he
    have hpos : 0 < row.length := List.length_pos_of_mem ((hm.mem n hn).1 h1)
    rw [decide_eq_true hpos]
    simp only [Bool.not_false, Bool.true_and]
    cases hl : emptyB (lessS M R) with
    | true =>
      symm
      rw [decide_eq_true_eq, List.length_eq_zero_iff, List.filter_eq_nil_iff]
      intro x hx
      obtain ⟨b0, b1⟩ := hm.bd x hx
      have h2 := empty_has hl x.toNat (by omega)
      rw [hasS_less hR.ok, (hm.mem x.toNat (by omega)).2 (by rwa [Int.toNat_of_nonneg b0])] at h2
      have h3 : hasS R x.toNat = true := by simpa using h2
      have := (hR.mem x.toNat (by omega)).1 h3
      rw [Int.toNat_of_nonneg b0] at this
      unfold hasB; simpa using this
    | false =>
      obtain ⟨m, hm1, h2⟩ := empty_not (okS_less hm.ok) hl
      rw [hasS_less hR.ok] at h2
      simp only [Bool.and_eq_true, Bool.not_eq_true'] at h2
      have m1 := (hm.mem m hm1).1 h2.1
      have m2 : ¬ (m : Int) ∈ p.secret := fun hk => by
        have := (hR.mem m hm1).2 hk
        rw [h2.2] at this; cases this
      symm
      rw [decide_eq_false_iff_not]
      have : 0 < (row.filter fun n => hasB p.secret n == false).length := List.length_pos_of_mem (List.mem_filter.2 ⟨m1, by unfold hasB; simpa using m2⟩)
      omega

end Go.Proofs.YtmimjpkllgjdkaaDoor
namespace Go.Proofs.YtmimjpkllgjdkaaDoor
open Go.RowKit
set_option linter.unusedVariables false

/-! Two lists, by how many numbers they have together, how many the second one has, the first one, the second one. -/
def pairB (w v w' v' : List Int) : Bool := decide (w.length + v.length < w'.length + v'.length) || (decide (w.length + v.length = w'.length + v'.length) && (decide (v.length < v'.length) || (decide (v.length = v'.length) && (lessB w w' || (!lessB w' w && lessB v v')))))
theorem pairB_iff (w v w' v' : List Int) : pairB w v w' v' = true ↔ w.length + v.length < w'.length + v'.length ∨ (w.length + v.length = w'.length + v'.length ∧ (v.length < v'.length ∨ (v.length = v'.length ∧ (lessB w w' = true ∨ (w = w' ∧ lessB v v' = true))))) := by
  unfold pairB
  simp only [Bool.or_eq_true, Bool.and_eq_true, decide_eq_true_eq, Bool.not_eq_true']
  refine or_congr Iff.rfl (and_congr Iff.rfl (or_congr Iff.rfl (and_congr Iff.rfl ?_)))
  constructor
  · rintro (h | ⟨h1, h2⟩)
    · exact .inl h
    · by_cases e : w = w'
      · exact .inr ⟨e, h2⟩
      · rcases lessB_total e with h | h
        · exact .inl h
        · rw [h1] at h; cases h
  · rintro (h | ⟨h1, h2⟩)
    · exact .inl h
    · subst h1
      exact .inr ⟨lessB_irrefl w, h2⟩
theorem pairB_irrefl (w v : List Int) : pairB w v w v = false := by
  rw [Bool.eq_false_iff]
  intro h
  rw [pairB_iff] at h
  rcases h with h | ⟨-, h | ⟨-, h | ⟨-, h⟩⟩⟩
  · omega
  · omega
  · rw [lessB_irrefl] at h; cases h
  · rw [lessB_irrefl] at h; cases h
theorem pairB_trans {a b c d e f : List Int} (h : pairB a b c d = true) (k : pairB c d e f = true) : pairB a b e f = true := by
  rw [pairB_iff] at h k ⊢
  rcases h with h | ⟨h0, h⟩
  · rcases k with k | ⟨k0, -⟩
    · exact .inl (by omega)
    · exact .inl (by omega)
  · rcases k with k | ⟨k0, k⟩
    · exact .inl (by omega)
    · refine .inr ⟨by omega, ?_⟩
      rcases h with h | ⟨h1, h⟩
      · rcases k with k | ⟨k1, -⟩
        · exact .inl (by omega)
        · exact .inl (by omega)
      · rcases k with k | ⟨k1, k⟩
        · exact .inl (by omega)
        · refine .inr ⟨by omega, ?_⟩
          rcases h with h | ⟨rfl, h⟩
          · rcases k with k | ⟨rfl, -⟩
            · exact .inl (lessB_trans h k)
            · exact .inl h
          · rcases k with k | ⟨rfl, k⟩
            · exact .inl k
            · exact .inr ⟨rfl, lessB_trans h k⟩
theorem pairB_total {a b c d : List Int} (h : ¬ (a = c ∧ b = d)) : pairB a b c d = true ∨ pairB c d a b = true := by
  rw [pairB_iff, pairB_iff]
  rcases Nat.lt_trichotomy (a.length + b.length) (c.length + d.length) with q | q | q
  · exact .inl (.inl q)
  · rcases Nat.lt_trichotomy b.length d.length with r | r | r
    · exact .inl (.inr ⟨q, .inl r⟩)
    · by_cases e : a = c
      · have hb : b ≠ d := fun hb => h ⟨e, hb⟩
        rcases lessB_total hb with s | s
        · exact .inl (.inr ⟨q, .inr ⟨r, .inr ⟨e, s⟩⟩⟩)
        · exact .inr (.inr ⟨q.symm, .inr ⟨r.symm, .inr ⟨e.symm, s⟩⟩⟩)
      · rcases lessB_total e with s | s
        · exact .inl (.inr ⟨q, .inr ⟨r, .inl s⟩⟩)
        · exact .inr (.inr ⟨q.symm, .inr ⟨r.symm, .inl s⟩⟩)
    · exact .inr (.inr ⟨q.symm, .inl r⟩)
  · exact .inr (.inl q)
theorem pair_mono {a b a' b' : List Int} (h : leW a a') (k : leW b b') : (a = a' ∧ b = b') ∨ pairB a b a' b' = true := by
  rw [pairB_iff]
  have h1 : a.length ≤ a'.length := by rcases h with h | h; (rw [h]; exact Nat.le_refl _); (exact lessB_len h)
  have k1 : b.length ≤ b'.length := by rcases k with k | k; (rw [k]; exact Nat.le_refl _); (exact lessB_len k)
  by_cases q : a.length + b.length < a'.length + b'.length
  · exact .inr (.inl q)
  · rcases h with rfl | h
    · rcases k with rfl | k
      · exact .inl ⟨rfl, rfl⟩
      · exact .inr (.inr ⟨by omega, .inr ⟨by omega, .inr ⟨rfl, k⟩⟩⟩)
    · exact .inr (.inr ⟨by omega, .inr ⟨by omega, .inl h⟩⟩)
theorem pair_le {a b a' b' w v : List Int} (h : leW a a') (k : leW b b') (hn : pairB a b w v = false) : pairB a' b' w v = false := by
  cases hh : pairB a' b' w v with
  | false => rfl
  | true =>
    rcases pair_mono h k with ⟨rfl, rfl⟩ | q
    · rw [hn] at hh; cases hh
    · rw [pairB_trans q hh] at hn; cases hn

/-! What both rows have. -/
def meetR (a b : List Int) : List Int := a.flatMap fun x => b.filter fun y => y == x
theorem filt_one (x : Int) : ∀ {b : List Int}, b.Nodup → (b.filter fun y => y == x) = if hasB b x = true then [x] else []
  | [], _ => by simp [hasB]
  | c :: r, h => by
    rw [List.nodup_cons] at h
    have ih := filt_one x h.2
    by_cases e : c = x
    · subst e
      have hn : hasB r c = false := by
        cases hh : hasB r c with
        | false => rfl
        | true => exact absurd ((hasB_iff r c).1 hh) h.1
      rw [hn] at ih
      have hc : hasB (c :: r) c = true := (hasB_iff _ _).2 (by simp)
      rw [List.filter_cons_of_pos (by simp), ih, hc]; simp
    · have hc : hasB (c :: r) x = hasB r x := by
        rw [Bool.eq_iff_iff, hasB_iff, hasB_iff, List.mem_cons]
        exact ⟨fun h => h.resolve_left (fun q => e q.symm), .inr⟩
      rw [List.filter_cons_of_neg (by simpa using e), ih, hc]
theorem meetR_eq {b : List Int} (hb : b.Nodup) : ∀ a : List Int, meetR a b = a.filter fun x => hasB b x
  | [] => rfl
  | x :: r => by
    have ih := meetR_eq hb r
    unfold meetR at ih ⊢
    rw [List.flatMap_cons, ih, filt_one x hb]
    cases hx : hasB b x with
    | true => rw [if_pos rfl, List.filter_cons_of_pos (by simpa using hx)]; rfl
    | false => rw [if_neg (by simp), List.filter_cons_of_neg (by rw [hx]; simp)]; rfl
/-- Where it was (K1). -/
def wasL (p : Plant) (before behind : List Int) : List Int := (estL p before).filter fun s => decide (0 < (fromL p [s] behind).length)
theorem was_meet {p : Plant} (hm : mayB p.m = true) (before behind : List Int) : meetR (estL p before) (onL p behind) = wasL p before behind := by
  have hz := mayB_size hm
  unfold sizeOk at hz
  have hn : (onL p behind).Nodup := inc_nodup (inc_flt (inc_rng9 _) _)
  rw [meetR_eq hn]
  unfold wasL
  refine List.filter_congr (fun s hs => ?_)
  have hb := (est_in hm before).2 s hs
  rw [Bool.eq_iff_iff, hasB_iff, mem_on, decide_eq_true_eq, pos_mem]
  exact ⟨fun h => h.2, fun h => ⟨⟨hb.1, by omega⟩, h⟩⟩
theorem mem_was (p : Plant) (before behind : List Int) (x : Int) : x ∈ wasL p before behind ↔ x ∈ estL p before ∧ ∃ y, y ∈ fromL p [x] behind := by
  unfold wasL
  rw [List.mem_filter, decide_eq_true_eq, pos_mem]
theorem was_nil {p : Plant} (hm : mayB p.m = true) (before : List Int) : wasL p before [] = estL p before := by
  unfold wasL
  rw [List.filter_eq_self]
  intro s hs
  rw [decide_eq_true_eq, pos_mem]
  exact ⟨s, wide_sub (may_to hm) s (by simp)⟩

/-! What is best of all twos. -/
def okP (secret : List Int) (most : Int) (x y : Kno) : Bool := !(decide (0 ≤ most) && decide (most < (y.2.length : Int))) && leakB secret (meetR x.1 y.1)
def putP (secret : List Int) (most : Int) (o : Option (List Int × List Int)) (x y : Kno) : Option (List Int × List Int) := if (okP secret most x y && (o.isNone || pairB x.2 y.2 (o.getD ([], [])).1 (o.getD ([], [])).2)) = true then some (x.2, y.2) else o
def rowP (secret : List Int) (most : Int) (o : Option (List Int × List Int)) (x : Kno) (B : List Kno) : Option (List Int × List Int) := B.foldl (fun o y => putP secret most o x y) o
def allP (secret : List Int) (most : Int) (A B : List Kno) : Option (List Int × List Int) := A.foldl (fun o x => rowP secret most o x B) none
def PIn (secret : List Int) (most : Int) (C : List (Kno × Kno)) (o : Option (List Int × List Int)) : Prop :=
  (o = none → ∀ c ∈ C, okP secret most c.1 c.2 = false) ∧ (∀ q, o = some q → (∃ c ∈ C, okP secret most c.1 c.2 = true ∧ q = (c.1.2, c.2.2)) ∧ ∀ c ∈ C, okP secret most c.1 c.2 = true → pairB c.1.2 c.2.2 q.1 q.2 = false)
theorem pin_step {secret : List Int} {most : Int} {C : List (Kno × Kno)} {o : Option (List Int × List Int)} (h : PIn secret most C o) (x y : Kno) : PIn secret most (C ++ [(x, y)]) (putP secret most o x y) := by
  unfold putP
  cases hk : okP secret most x y with
  | false =>
    rw [Bool.false_and, if_neg (by simp)]
    refine ⟨fun ho c hc => ?_, fun q hq => ?_⟩
    · rcases List.mem_append.1 hc with hc | hc
      · exact h.1 ho c hc
      · have : c = (x, y) := by simpa using hc
        rw [this]; exact hk
    · obtain ⟨⟨c, c1, c2, c3⟩, h2⟩ := h.2 q hq
      refine ⟨⟨c, List.mem_append_left _ c1, c2, c3⟩, fun d hd hdk => ?_⟩
      rcases List.mem_append.1 hd with hd | hd
      · exact h2 d hd hdk
      · have : d = (x, y) := by simpa using hd
        rw [this] at hdk
        rw [hk] at hdk; cases hdk
  | true =>
    rw [Bool.true_and]
    cases o with
    | none =>
      rw [if_pos (by simp)]
      refine ⟨fun ho => (by cases ho), fun q hq => ?_⟩
      have hq := Option.some.inj hq
      subst hq
      refine ⟨⟨(x, y), by simp, hk, rfl⟩, fun d hd hdk => ?_⟩
      rcases List.mem_append.1 hd with hd | hd
      · have := h.1 rfl d hd
        rw [this] at hdk; cases hdk
      · have : d = (x, y) := by simpa using hd
        rw [this]; exact pairB_irrefl _ _
    | some q0 =>
      obtain ⟨⟨c, c1, c2, c3⟩, h2⟩ := h.2 q0 rfl
      rw [Option.isNone_some, Bool.false_or, Option.getD_some]
      cases hp : pairB x.2 y.2 q0.1 q0.2 with
      | true =>
        rw [if_pos rfl]
        refine ⟨fun ho => (by cases ho), fun q hq => ?_⟩
        have hq := Option.some.inj hq
        subst hq
        refine ⟨⟨(x, y), by simp, hk, rfl⟩, fun d hd hdk => ?_⟩
        rcases List.mem_append.1 hd with hd | hd
        · have h3 := h2 d hd hdk
          cases hh : pairB d.1.2 d.2.2 x.2 y.2 with
          | false => rfl
          | true => rw [pairB_trans hh hp] at h3; cases h3
        · have : d = (x, y) := by simpa using hd
          rw [this]; exact pairB_irrefl _ _
      | false =>
        rw [if_neg (by simp)]
        refine ⟨fun ho => (by cases ho), fun q hq => ?_⟩
        have hq := Option.some.inj hq
        subst hq
        refine ⟨⟨c, List.mem_append_left _ c1, c2, c3⟩, fun d hd hdk => ?_⟩
        rcases List.mem_append.1 hd with hd | hd
        · exact h2 d hd hdk
        · have : d = (x, y) := by simpa using hd
          rw [this]; exact hp
theorem pin_row {secret : List Int} {most : Int} (x : Kno) : ∀ (B : List Kno) {C : List (Kno × Kno)} {o : Option (List Int × List Int)}, PIn secret most C o → PIn secret most (C ++ B.map fun y => (x, y)) (rowP secret most o x B)
  | [], C, o, h => by simpa [rowP] using h
  | y :: r, C, o, h => by
    have := pin_row x r (pin_step h x y)
    rw [List.append_assoc] at this
    exact this
theorem pin_all {secret : List Int} {most : Int} (B : List Kno) : ∀ (A : List Kno) {C : List (Kno × Kno)} {o : Option (List Int × List Int)}, PIn secret most C o → PIn secret most (C ++ A.flatMap fun x => B.map fun y => (x, y)) (A.foldl (fun o x => rowP secret most o x B) o)
  | [], C, o, h => by simpa using h
  | x :: r, C, o, h => by
    have := pin_all B r (pin_row x B h)
    rw [List.append_assoc] at this
    exact this
theorem allP_inv (secret : List Int) (most : Int) (A B : List Kno) : PIn secret most (A.flatMap fun x => B.map fun y => (x, y)) (allP secret most A B) := by
  have := pin_all (secret := secret) (most := most) B A (C := []) (o := none) ⟨fun _ c hc => by simp at hc, fun q hq => by cases hq⟩
  exact this
theorem mem_twos {A B : List Kno} {c : Kno × Kno} : (c ∈ A.flatMap fun x => B.map fun y => (x, y)) ↔ c.1 ∈ A ∧ c.2 ∈ B := by
  rw [List.mem_flatMap]
  constructor
  · rintro ⟨x, hx, hc⟩
    obtain ⟨y, hy, rfl⟩ := List.mem_map.1 hc
    exact ⟨hx, hy⟩
  · rintro ⟨h1, h2⟩
    exact ⟨c.1, h1, List.mem_map.2 ⟨c.2, h2, rfl⟩⟩

/-! The least two lists that tell where it was (K2). -/
def outS (p : Plant) (most : Int) : Option (List Int × List Int) := allP p.secret most (knL p.seen (fwdL p)) (knL p.seen (bwdL p))
theorem leW_word {seen : List Int} (hi : Inc seen) {u v : List Int} (h : ∀ k ∈ u, 0 ≤ k ∧ k < (seen.length : Int)) (h' : ∀ k ∈ v, 0 ≤ k ∧ k < (seen.length : Int)) (hl : leW u v) : leW (wordS seen u) (wordS seen v) := by
  rcases hl with rfl | hl
  · exact .inl rfl
  · exact .inr (by rw [lessB_word hi h h']; exact hl)
section
variable {p : Plant}
theorem seen_inc (hp : mayP p = true) : Inc p.seen := by
  obtain ⟨hm, z, hs, -⟩ := (mayP_iff p).1 hp
  have hz := mayB_size hm
  unfold sizeOk at hz
  exact ((rowB_iff _ (by omega) _).1 hs).1
theorem fwd_cov (hp : mayP p = true) {w : List Int} (hw : ∀ e ∈ w, e ∈ p.seen) : ∃ x ∈ knL p.seen (fwdL p), x.1 = estL p w ∧ leW x.2 w := by
  obtain ⟨hm, z, hs, -⟩ := (mayP_iff p).1 hp
  have hI := fwd_all hm z
  obtain ⟨x, hx, e1, e2⟩ := bi_all _ hI (idxS p.seen w) (idx_in hw)
  refine ⟨(x.1, wordS p.seen x.2), List.mem_map.2 ⟨x, hx, rfl⟩, ?_, ?_⟩
  · show x.1 = _
    rw [e1, see_run, word_idx hw]; rfl
  · have := leW_word (seen_inc hp) (hI.run x hx).2 (idx_in hw) e2
    rwa [word_idx hw] at this
theorem bwd_cov (hp : mayP p = true) {v : List Int} (hv : ∀ e ∈ v, e ∈ p.seen) : ∃ y ∈ knL p.seen (bwdL p), y.1 = onL p v ∧ leW y.2 v := by
  obtain ⟨hm, z, hs, -⟩ := (mayP_iff p).1 hp
  obtain ⟨n, hI⟩ := bwd_all hm z
  obtain ⟨y, hy, e1, e2⟩ := lbk_all hI (idxS p.seen v) (idx_in hv)
  refine ⟨(y.1, wordS p.seen y.2), List.mem_map.2 ⟨y, hy, rfl⟩, ?_, ?_⟩
  · show y.1 = _
    rw [e1, on_val hm, word_idx hv]
  · have := leW_word (seen_inc hp) (hI.run y hy).2.1 (idx_in hv) e2
    rwa [word_idx hv] at this
theorem fwd_mem (hp : mayP p = true) {x : Kno} (hx : x ∈ knL p.seen (fwdL p)) : x.1 = estL p x.2 ∧ (∀ e ∈ x.2, e ∈ p.seen) ∧ x.2.length ≤ 64 := by
  obtain ⟨hm, z, hs, -⟩ := (mayP_iff p).1 hp
  have hI := fwd_all hm z
  obtain ⟨q, hq, rfl⟩ := List.mem_map.1 hx
  refine ⟨fwd_est hI hq, word_in (hI.run q hq).2, ?_⟩
  obtain ⟨i, hi⟩ := List.mem_iff_getElem?.1 hq
  have h1 := bi_wlen hI i q hi
  have h2 := (List.getElem?_eq_some_iff.1 hi).1
  have h3 := fwd_bound hm z hI
  show (wordS p.seen q.2).length ≤ 64
  rw [wordS_len]; omega
theorem bwd_mem (hp : mayP p = true) {y : Kno} (hy : y ∈ knL p.seen (bwdL p)) : y.1 = onL p y.2 ∧ (∀ e ∈ y.2, e ∈ p.seen) ∧ y.2.length ≤ 64 := by
  obtain ⟨hm, z, hs, -⟩ := (mayP_iff p).1 hp
  obtain ⟨n, hI⟩ := bwd_all hm z
  obtain ⟨q, hq, rfl⟩ := List.mem_map.1 hy
  have h := hI.run q hq
  exact ⟨by show q.1 = _; rw [h.1, on_val hm], word_in h.2.1, by show (wordS p.seen q.2).length ≤ 64; rw [wordS_len]; exact bwd_wlen hm z hI hq⟩
theorem okP_iff (hp : mayP p = true) {most : Int} {x y : Kno} {w v : List Int} (hx : x.1 = estL p w) (hy : y.1 = onL p v) : okP p.secret most x y = true ↔ (0 ≤ most → (y.2.length : Int) ≤ most) ∧ leakB p.secret (wasL p w v) = true := by
  obtain ⟨hm, -⟩ := (mayP_iff p).1 hp
  unfold okP
  rw [hx, hy, was_meet hm, Bool.and_eq_true]
  refine and_congr ?_ Iff.rfl
  by_cases h0 : 0 ≤ most
  · by_cases h1 : most < (y.2.length : Int)
    · simp [h0, h1]
    · simp [h0, h1]; omega
  · simp [h0]
theorem outS_none (hp : mayP p = true) {most : Int} (h : outS p most = none) {w v : List Int} (hw : ∀ e ∈ w, e ∈ p.seen) (hv : ∀ e ∈ v, e ∈ p.seen) (hs : 0 ≤ most → (v.length : Int) ≤ most) : leakB p.secret (wasL p w v) = false := by
  obtain ⟨x, hx, x1, x2⟩ := fwd_cov hp hw
  obtain ⟨y, hy, y1, y2⟩ := bwd_cov hp hv
  have hI := (allP_inv p.secret most (knL p.seen (fwdL p)) (knL p.seen (bwdL p))).1 h (x, y) (mem_twos.2 ⟨hx, hy⟩)
  cases hl : leakB p.secret (wasL p w v) with
  | false => rfl
  | true =>
    have hlen : y.2.length ≤ v.length := by rcases y2 with q | q; (rw [q]; exact Nat.le_refl _); (exact lessB_len q)
    have := (okP_iff hp (most := most) x1 y1).2 ⟨fun h0 => by have := hs h0; omega, hl⟩
    rw [this] at hI; cases hI
theorem outS_some (hp : mayP p = true) {most : Int} {w v : List Int} (h : outS p most = some (w, v)) : leakB p.secret (wasL p w v) = true ∧ (∀ e ∈ w, e ∈ p.seen) ∧ (∀ e ∈ v, e ∈ p.seen) ∧ (0 ≤ most → (v.length : Int) ≤ most) ∧ ∀ w' v' : List Int, (∀ e ∈ w', e ∈ p.seen) → (∀ e ∈ v', e ∈ p.seen) → (0 ≤ most → (v'.length : Int) ≤ most) → leakB p.secret (wasL p w' v') = true → pairB w' v' w v = false := by
  obtain ⟨⟨⟨x, y⟩, c1, c2, c3⟩, h2⟩ := (allP_inv p.secret most (knL p.seen (fwdL p)) (knL p.seen (bwdL p))).2 _ h
  obtain ⟨hx, hy⟩ := mem_twos.1 c1
  injection c3 with e1 e2
  dsimp only at c2 hx hy e1 e2
  obtain ⟨x1, x2, -⟩ := fwd_mem hp hx
  obtain ⟨y1, y2, -⟩ := bwd_mem hp hy
  rw [← e1] at x1 x2
  rw [← e2] at y1 y2
  obtain ⟨q1, q2⟩ := (okP_iff hp x1 y1).1 c2
  rw [← e2] at q1
  refine ⟨q2, x2, y2, q1, fun w' v' hw hv hs hl => ?_⟩
  obtain ⟨x', hx', x1', x2'⟩ := fwd_cov hp hw
  obtain ⟨y', hy', y1', y2'⟩ := bwd_cov hp hv
  have hlen : y'.2.length ≤ v'.length := by rcases y2' with q | q; (rw [q]; exact Nat.le_refl _); (exact lessB_len q)
  exact pair_le x2' y2' (h2 (x', y') (mem_twos.2 ⟨hx', hy'⟩) ((okP_iff hp x1' y1').2 ⟨fun h0 => by have := hs h0; omega, hl⟩))
theorem outS_is (hp : mayP p = true) {most : Int} {w v : List Int} (hw : ∀ e ∈ w, e ∈ p.seen) (hv : ∀ e ∈ v, e ∈ p.seen) (hs : 0 ≤ most → (v.length : Int) ≤ most) (hl : leakB p.secret (wasL p w v) = true) (hmin : ∀ w' v' : List Int, (∀ e ∈ w', e ∈ p.seen) → (∀ e ∈ v', e ∈ p.seen) → (0 ≤ most → (v'.length : Int) ≤ most) → leakB p.secret (wasL p w' v') = true → pairB w' v' w v = false) : outS p most = some (w, v) := by
  cases h : outS p most with
  | none => rw [outS_none hp h hw hv hs] at hl; cases hl
  | some q =>
    obtain ⟨w', v'⟩ := q
    obtain ⟨k1, k2, k3, k4, k5⟩ := outS_some hp h
    have r1 := hmin w' v' k2 k3 k4 k1
    have r2 := k5 w v hw hv hs hl
    by_cases e : w' = w ∧ v' = v
    · rw [e.1, e.2]
    · rcases pairB_total e with r | r
      · rw [r1] at r; cases r
      · rw [r2] at r; cases r
theorem outS_no (hp : mayP p = true) {most : Int} (hn : ∀ w v : List Int, (∀ e ∈ w, e ∈ p.seen) → (∀ e ∈ v, e ∈ p.seen) → (0 ≤ most → (v.length : Int) ≤ most) → leakB p.secret (wasL p w v) = false) : outS p most = none := by
  cases h : outS p most with
  | none => rfl
  | some q =>
    obtain ⟨w', v'⟩ := q
    obtain ⟨k1, k2, k3, k4, -⟩ := outS_some hp h
    rw [hn w' v' k2 k3 k4] at k1; cases k1
/-- K3: with no step it is where it is. -/
theorem outS_zero (hp : mayP p = true) : outS p 0 = (outC p).map fun w => (w, []) := by
  obtain ⟨hm, -⟩ := (mayP_iff p).1 hp
  have nil : ∀ v : List Int, (0 ≤ (0 : Int) → (v.length : Int) ≤ 0) → v = [] := fun v h => by
    have := h (Int.le_refl _)
    exact List.eq_nil_of_length_eq_zero (by omega)
  cases h : outC p with
  | none =>
    refine outS_no hp (fun w v hw hv hs => ?_)
    rw [nil v hs, was_nil hm]
    exact outC_none hp h w hw
  | some w =>
    obtain ⟨k1, k2, -, k4⟩ := outC_some hp h
    refine outS_is hp k2 (by simp) (fun _ => by simp) (by rw [was_nil hm]; exact k1) (fun w' v' hw hv hs hl => ?_)
    rw [nil v' hs, was_nil hm] at hl
    rw [nil v' hs]
    have h5 := k4 w' hw hl
    rw [Bool.eq_false_iff]
    intro hh
    rw [pairB_iff] at hh
    rcases hh with q | ⟨q, r | ⟨-, r | ⟨r, s⟩⟩⟩
    · have : lessB w' w = true := by unfold lessB; rw [if_neg (by simp at q; omega)]; exact decide_eq_true (by simpa using q)
      rw [this] at h5; cases h5
    · simp at r
    · rw [r] at h5; cases h5
    · rw [lessB_irrefl] at s; cases s
/-- K3: what tells within fewer steps tells within more. -/
theorem outS_more (hp : mayP p = true) {few more : Int} (hw : more = -1 ∨ (0 ≤ few ∧ few ≤ more)) (h : (outS p few).isSome = true) : (outS p more).isSome = true := by
  cases hm : outS p more with
  | some q => rfl
  | none =>
    obtain ⟨⟨w, v⟩, hq⟩ := Option.isSome_iff_exists.1 h
    obtain ⟨k1, k2, k3, k4, -⟩ := outS_some hp hq
    have := outS_none hp hm k2 k3 (fun h0 => by
      rcases hw with e | ⟨e1, e2⟩
      · omega
      · have := k4 e1; omega)
    rw [this] at k1; cases k1
end

end Go.Proofs.YtmimjpkllgjdkaaDoor
