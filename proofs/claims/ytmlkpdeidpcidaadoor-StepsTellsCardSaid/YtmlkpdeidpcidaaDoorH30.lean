/-
  What current.May, Estimate and Leak leave; plain: what is best of what is known ahead.
  Plain: where a plant may have begun. No program, no model.
  The walk of current.Estimate.
  What initial.Began and Leak leave.
  Plain: the program's way to the least list that tells the beginning: sets gone back to, by a table of the hidden machine's arrows. No program, no model.
  The walk of initial.all.
  The walk of the closure of initial.watch: what goes back from a set, at an event.
-/
import Derived.Test.YtmlkpdeidpcidaaDoorH28
import Derived.Test.YtmlkpdeidpcidaaDoorH06
import Derived.Test.YtmlkpdeidpcidaaDoorDR9Fwd
import Derived.Test.YtmlkpdeidpcidaaDoorH04
import Derived.Test.YtmlkpdeidpcidaaDoorH07
import Derived.Test.YtmlkpdeidpcidaaDoorH15
import Derived.Test.YtmlkpdeidpcidaaDoorH27
import Derived.Test.YtmlkpdeidpcidaaDoorH26
import Derived.Deep.RegionHeld3
import Derived.Test.YtmlkpdeidpcidaaDoorH13
import Derived.Test.YtmlkpdeidpcidaaDoorDSetOps
import Derived.Test.YtmlkpdeidpcidaaDoorH16
import Derived.Test.YtmlkpdeidpcidaaDoorH11
import Derived.Test.YtmlkpdeidpcidaaDoorDSpread
namespace Go.Proofs.YtmlkpdeidpcidaaDoor
open Go.RowKit
set_option linter.unusedVariables false

/-- Are all of a list seen? -/
def inSeen (seen word : List Int) : Bool := decide ((seenL seen word).length = word.length)
theorem inSeen_iff (seen word : List Int) : inSeen seen word = true ↔ ∀ e ∈ word, e ∈ seen := by
  unfold inSeen seenL
  rw [decide_eq_true_eq, List.length_filter_eq_length_iff]
  constructor
  · intro h e he
    have := h e he
    unfold hasB at this
    simpa using this
  · intro h e he
    have := h e he
    unfold hasB
    simpa using this
/-- What Estimate answers (I2). -/
def estOut (p : Plant) (word : List Int) : List Int × Int := if mayP p = true then (if inSeen p.seen word = true then (estL p word, 0) else ([], 6)) else ([], 2)
/-- What is left by a call that hands back a list and an error. -/
def ListPost (w : World) (r : List Int × Int) (e : Ending) (w' : World) : Prop := ∃ va vc, e = .returned (.tuple #[.slice va r.1.length vc, .int .i64 r.2]) ∧ At w' va r.1 ∧ r.1.length ≤ maxLen ∧ Below w.heap.size w w'
theorem estOut_bad {p : Plant} (h : mayP p = false) (word : List Int) : estOut p word = ([], 2) := by unfold estOut; rw [if_neg (by rw [h]; simp)]
theorem estOut_ok {p : Plant} {word : List Int} (h : mayP p = true) (hs : inSeen p.seen word = true) : estOut p word = (estL p word, 0) := by unfold estOut; rw [if_pos h, if_pos hs]
theorem estOut_out {p : Plant} {word : List Int} (h : mayP p = true) (hs : inSeen p.seen word = false) : estOut p word = ([], 6) := by unfold estOut; rw [if_pos h, if_neg (by rw [hs]; simp)]
/-! What is best, where the lesser lists stand ahead. -/
end Go.Proofs.YtmlkpdeidpcidaaDoor
namespace Go.Proofs.YtmlkpdeidpcidaaDoor
open Go.RowKit
set_option linter.unusedVariables false
set_option linter.unusedSectionVars false

/-! What is seen from some states on is what is seen from one of them on. -/
/-- Unseen events lead nowhere else. -/
def ClS (p : Plant) (S : List Int) : Prop := ∀ a ∈ p.m.arrows, hasB p.seen a.e = false → a.f ∈ S → a.t ∈ S
theorem cl_wide {p : Plant} (hm : mayB p.m = true) (ss : List Int) : ClS p (wideL p.m.arrows p.seen ss) := fun a ha hu hf => wide_cl (may_to hm) ha hu hf
theorem wide_min {p : Plant} (hm : mayB p.m = true) {ss S : List Int} (hS : ClS p S) (h : ∀ x ∈ ss, x ∈ S) : ∀ x ∈ wideL p.m.arrows p.seen ss, x ∈ S := fun x hx => by
  refine (mem_wide (may_to hm) x).1 hx (fun y => y ∈ S) ⟨h, fun a ha hf => ?_⟩
  obtain ⟨h1, h2⟩ := (mem_unseen _ _ _).1 ha
  exact hS a h1 h2 hf
theorem see_mono {p : Plant} (hm : mayB p.m = true) {S S' : List Int} (h : ∀ x ∈ S, x ∈ S') (e : Int) : ∀ x ∈ seeL p S e, x ∈ seeL p S' e := by
  refine wide_min hm (cl_wide hm _) (fun x hx => ?_)
  obtain ⟨a, h1, h2, h3, h4⟩ := (mem_stepL _ _ _ _).1 hx
  exact wide_sub (may_to hm) _ ((mem_stepL _ _ _ _).2 ⟨a, h1, h2, h _ h3, h4⟩)
theorem fold_mono {p : Plant} (hm : mayB p.m = true) : ∀ (word : List Int) {S S' : List Int}, (∀ x ∈ S, x ∈ S') → ∀ x ∈ word.foldl (seeL p) S, x ∈ word.foldl (seeL p) S'
  | [], _, _, h => h
  | e :: r, S, S', h => fold_mono hm r (see_mono hm h e)
theorem see_one {p : Plant} (hm : mayB p.m = true) {S : List Int} {e x : Int} (h : x ∈ seeL p S e) : ∃ t ∈ S, x ∈ seeL p [t] e := by
  refine (mem_wide (may_to hm) x).1 h (fun y => ∃ t ∈ S, y ∈ seeL p [t] e) ⟨fun y hy => ?_, fun a ha hf => ?_⟩
  · obtain ⟨a, h1, h2, h3, h4⟩ := (mem_stepL _ _ _ _).1 hy
    exact ⟨a.f, h3, wide_sub (may_to hm) _ ((mem_stepL _ _ _ _).2 ⟨a, h1, h2, by simp, h4⟩)⟩
  · obtain ⟨t, ht, hft⟩ := hf
    obtain ⟨h1, h2⟩ := (mem_unseen _ _ _).1 ha
    exact ⟨t, ht, cl_wide hm _ a h1 h2 hft⟩
theorem fold_one {p : Plant} (hm : mayB p.m = true) : ∀ (word : List Int) {S : List Int} {x : Int}, x ∈ word.foldl (seeL p) S → ∃ t ∈ S, x ∈ fromL p [t] word
  | [], S, x, h => ⟨x, h, wide_sub (may_to hm) _ (by simp)⟩
  | e :: r, S, x, h => by
    obtain ⟨u, hu, hx⟩ := fold_one hm r (S := seeL p S e) h
    obtain ⟨t, ht, hut⟩ := see_one hm hu
    refine ⟨t, ht, ?_⟩
    show x ∈ r.foldl (seeL p) (seeL p (wideL p.m.arrows p.seen [t]) e)
    refine fold_mono hm r (S := wideL p.m.arrows p.seen [u]) ?_ x hx
    refine wide_min hm (cl_wide hm _) (fun y hy => ?_)
    have : y = u := by simpa using hy
    subst this
    exact see_mono hm (fun z hz => wide_sub (may_to hm) _ hz) e y hut

/-! Where a list can go on from. -/
/-- The states from which an event goes on into a row. -/
def intoL (p : Plant) (row : List Int) (e : Int) : List Int := (rngI p.m.st.toNat).filter fun s => decide (0 < ((seeL p (wideL p.m.arrows p.seen [s]) e).filter fun t => hasB row t == true).length)
/-- The states from which a list goes on. -/
def onL (p : Plant) (word : List Int) : List Int := (rngI p.m.st.toNat).filter fun s => decide (0 < (fromL p [s] word).length)
theorem mem_rng9 (n : Nat) (x : Int) : x ∈ rngI n ↔ 0 ≤ x ∧ x < (n : Int) := by
  unfold rngI
  rw [List.mem_map]
  constructor
  · rintro ⟨k, hk, rfl⟩
    have := List.mem_range.1 hk
    omega
  · rintro ⟨h0, h1⟩
    exact ⟨x.toNat, List.mem_range.2 (by omega), by omega⟩
theorem inc_rng9 (n : Nat) : Inc (rngI n) := by
  unfold rngI Inc
  rw [List.pairwise_map]
  exact List.Pairwise.imp (fun h => by omega) List.pairwise_lt_range
theorem inc_flt {l : List Int} (h : Inc l) (f : Int → Bool) : Inc (l.filter f) := List.Pairwise.filter f h
theorem pos_mem {l : List Int} : 0 < l.length ↔ ∃ x, x ∈ l := by
  constructor
  · intro h; exact ⟨l[0], List.getElem_mem h⟩
  · rintro ⟨x, hx⟩; exact List.length_pos_of_mem hx
theorem mem_on (p : Plant) (word : List Int) (s : Int) : s ∈ onL p word ↔ (0 ≤ s ∧ s < (p.m.st.toNat : Int)) ∧ ∃ x, x ∈ fromL p [s] word := by
  unfold onL
  rw [List.mem_filter, mem_rng9, decide_eq_true_eq, pos_mem]
theorem mem_into (p : Plant) (row : List Int) (e s : Int) : s ∈ intoL p row e ↔ (0 ≤ s ∧ s < (p.m.st.toNat : Int)) ∧ ∃ t, t ∈ seeL p (wideL p.m.arrows p.seen [s]) e ∧ t ∈ row := by
  unfold intoL
  rw [List.mem_filter, mem_rng9, decide_eq_true_eq, pos_mem]
  refine and_congr_right fun _ => ?_
  constructor
  · rintro ⟨t, ht⟩
    rw [List.mem_filter] at ht
    refine ⟨t, ht.1, ?_⟩
    have := ht.2
    unfold hasB at this
    simpa using this
  · rintro ⟨t, h1, h2⟩
    refine ⟨t, ?_⟩
    rw [List.mem_filter]
    refine ⟨h1, ?_⟩
    unfold hasB
    simpa using h2
theorem on_nil {p : Plant} (hm : mayB p.m = true) : onL p [] = rngI p.m.st.toNat := by
  unfold onL
  rw [List.filter_eq_self]
  intro s hs
  rw [decide_eq_true_eq, pos_mem]
  exact ⟨s, wide_sub (may_to hm) _ (by simp)⟩
theorem on_cons {p : Plant} (hm : mayB p.m = true) (e : Int) (word : List Int) : onL p (e :: word) = intoL p (onL p word) e := by
  refine inc_ext (inc_flt (inc_rng9 _) _) (inc_flt (inc_rng9 _) _) (fun s => ?_)
  show s ∈ onL p (e :: word) ↔ s ∈ intoL p (onL p word) e
  have hz := mayB_size hm
  unfold sizeOk at hz
  rw [mem_on, mem_into]
  refine and_congr_right fun hs => ?_
  constructor
  · rintro ⟨x, hx⟩
    obtain ⟨t, ht, hx'⟩ := fold_one hm word (S := seeL p (wideL p.m.arrows p.seen [s]) e) hx
    have hb := (see_in hm (wideL p.m.arrows p.seen [s]) e).2 t ht
    exact ⟨t, ht, (mem_on _ _ _).2 ⟨⟨hb.1, by omega⟩, x, hx'⟩⟩
  · rintro ⟨t, ht, hr⟩
    obtain ⟨-, x, hx⟩ := (mem_on _ _ _).1 hr
    refine ⟨x, ?_⟩
    show x ∈ word.foldl (seeL p) (seeL p (wideL p.m.arrows p.seen [s]) e)
    refine fold_mono hm word (S := wideL p.m.arrows p.seen [t]) ?_ x hx
    refine wide_min hm (cl_wide hm _) (fun y hy => ?_)
    have : y = t := by simpa using hy
    subst this; exact ht
def opB (p : Plant) (k : Nat) (row : List Int) : List Int := intoL p row (p.seen[k]?.getD 0)
theorem on_val {p : Plant} (hm : mayB p.m = true) : ∀ u : List Int, valB (opB p) (rngI p.m.st.toNat) u = onL p (wordS p.seen u)
  | [] => (on_nil hm).symm
  | k :: u => by
    show opB p k.toNat (valB (opB p) (rngI p.m.st.toNat) u) = onL p (p.seen[k.toNat]?.getD 0 :: wordS p.seen u)
    rw [on_val hm u, on_cons hm]; rfl
/-- All such rows, each with the least list (of numbers), by lengths. -/
def bwdL (p : Plant) : List (List Int × List Int) := bwGo (opB p) p.seen.length 65 [(rngI p.m.st.toNat, [])] [(rngI p.m.st.toNat, [])]
theorem bwd_bound {p : Plant} (hm : mayB p.m = true) (z : p.m.st ≤ 6) {n : Nat} {l layer : List (List Int × List Int)} (h : LBk (opB p) (rngI p.m.st.toNat) p.seen.length n l layer) : l.length ≤ 64 := by
  have h1 := nodup_sub (m := subs 6) h.nd (fun s hs => by
    obtain ⟨x, hx, rfl⟩ := List.mem_map.1 hs
    obtain ⟨e1, -, -⟩ := h.run x hx
    rw [e1, on_val hm]
    exact mem_subs 6 _ (inc_flt (inc_rng9 _) _) (fun y hy => by have := ((mem_on _ _ _).1 hy).1; omega))
  rw [List.length_map, subs_len] at h1
  exact h1
theorem bwd_all {p : Plant} (hm : mayB p.m = true) (z : p.m.st ≤ 6) : ∃ n, LBk (opB p) (rngI p.m.st.toNat) p.seen.length n (bwdL p) [] :=
  lbk_end (N := 64) (fun n l layer h => bwd_bound hm z h) 65 0 _ _ (lbk_start _ _) (by simp)

/-! What is best. -/
/-! Where it may have begun (J1), and what tells it (J2). -/
def beganL (p : Plant) (word : List Int) : List Int := p.m.starts.filter fun s => decide (0 < (fromL p [s] word).length)
theorem began_row {p : Plant} (hm : mayB p.m = true) (word : List Int) : ((onL p word).filter fun n => hasB p.m.starts n == true) = beganL p word := by
  have h1 := may_starts hm
  have hz := mayB_size hm
  unfold sizeOk at hz
  refine inc_ext (inc_flt (inc_flt (inc_rng9 _) _) _) (inc_flt h1.1 _) (fun s => ?_)
  unfold beganL
  rw [List.mem_filter, List.mem_filter, decide_eq_true_eq, pos_mem]
  have hb : ((hasB p.m.starts s == true) = true) ↔ s ∈ p.m.starts := by unfold hasB; simp
  rw [hb]
  constructor
  · rintro ⟨h2, h3⟩
    exact ⟨h3, ((mem_on _ _ _).1 h2).2⟩
  · rintro ⟨h2, h3⟩
    have := h1.2 s h2
    exact ⟨(mem_on _ _ _).2 ⟨⟨this.1, by omega⟩, h3⟩, h2⟩
/-- A least word is no longer than there are rows. -/
theorem bwd_wlen {p : Plant} (hm : mayB p.m = true) (z : p.m.st ≤ 6) {n : Nat} (hI : LBk (opB p) (rngI p.m.st.toNat) p.seen.length n (bwdL p) []) {x : List Int × List Int} (hx : x ∈ bwdL p) : x.2.length ≤ 64 := by
  have hr := hI.run x hx
  have hlen : ∀ m, m ≤ x.2.length → ∃ q ∈ bwdL p, q.2.length = m := by
    intro m hmle
    have hsuf : ∀ e ∈ x.2.drop (x.2.length - m), 0 ≤ e ∧ e < (p.seen.length : Int) := fun e he => hr.2.1 e (List.mem_of_mem_drop he)
    obtain ⟨q, hq, e1, e2⟩ := lbk_all hI _ hsuf
    refine ⟨q, hq, ?_⟩
    have hql := hI.run q hq
    have hle : q.2.length ≤ m := by
      have : q.2.length ≤ (x.2.drop (x.2.length - m)).length := by
        rcases e2 with e2 | e2
        · rw [e2]; exact Nat.le_refl _
        · exact lessB_len e2
      rw [List.length_drop] at this; omega
    rcases Nat.lt_or_ge q.2.length m with hlt | hge
    · -- else the whole word could be made shorter
      exfalso
      have hval : valB (opB p) (rngI p.m.st.toNat) (x.2.take (x.2.length - m) ++ q.2) = x.1 := by
        have hap : ∀ (a b c : List Int), valB (opB p) (rngI p.m.st.toNat) b = valB (opB p) (rngI p.m.st.toNat) c → valB (opB p) (rngI p.m.st.toNat) (a ++ b) = valB (opB p) (rngI p.m.st.toNat) (a ++ c) := by
          intro a
          induction a with
          | nil => intro b c h; exact h
          | cons e a ih => intro b c h; show opB p e.toNat (valB (opB p) (rngI p.m.st.toNat) (a ++ b)) = opB p e.toNat (valB (opB p) (rngI p.m.st.toNat) (a ++ c)); rw [ih b c h]
        rw [hap _ q.2 (x.2.drop (x.2.length - m)) (by rw [← e1, hql.1]), List.take_append_drop, hr.1]
      have hin : ∀ e ∈ x.2.take (x.2.length - m) ++ q.2, 0 ≤ e ∧ e < (p.seen.length : Int) := fun e he => by
        rcases List.mem_append.1 he with he | he
        · exact hr.2.1 e (List.mem_of_mem_take he)
        · exact hql.2.1 e he
      have hle2 := hI.lst x hx _ hin hval
      have hl2 : x.2.length ≤ (x.2.take (x.2.length - m) ++ q.2).length := by
        rcases hle2 with e2 | e2
        · rw [← e2]; exact Nat.le_refl _
        · exact lessB_len e2
      rw [List.length_append, List.length_take] at hl2
      omega
    · omega
  have hsub := nodup_sub (l := List.range (x.2.length + 1)) (m := (bwdL p).map fun q => q.2.length) List.nodup_range (fun m hm' => by
    obtain ⟨q, hq, e1⟩ := hlen m (by have := List.mem_range.1 hm'; omega)
    exact List.mem_map.2 ⟨q, hq, e1⟩)
  rw [List.length_range, List.length_map] at hsub
  have := bwd_bound hm z hI
  omega
end Go.Proofs.YtmlkpdeidpcidaaDoor
namespace Go.Proofs.YtmlkpdeidpcidaaDoor
open Go.RowKit
set_option linter.unusedVariables false

theorem allIn_eq (seen xs : List Int) : allIn seen xs = inSeen seen xs := by
  rw [Bool.eq_iff_iff, allIn_iff, inSeen_iff]
/-- What Estimate knows behind the first k events. -/
structure ES (p : Plant) (word : List Int) (k : Nat) (S : Nat → Nat) : Prop where
  rep : RepI S (estL p (word.take k))
theorem est_cl {p : Plant} (hm : mayB p.m = true) (u : List Int) : ClU p (estL p u) := clU_fold hm u _ (clU_start hm)
theorem est_snoc (p : Plant) (u : List Int) (e : Int) : estL p (u ++ [e]) = seeL p (estL p u) e := by
  unfold estL fromL
  rw [List.foldl_append]; rfl
theorem est_more (p : Plant) (hm : mayB p.m = true) (u v : List Int) (h : estL p u = []) : estL p (u ++ v) = [] := by
  unfold estL fromL at h ⊢
  rw [List.foldl_append, h]
  exact fold_nil hm v
theorem es_next {p : Plant} (hp : mayP p = true) {word : List Int} {k : Nat} {S : Nat → Nat} (h : ES p word k S) (hk : k < word.length) {ev : Int} (he : Hid (ev = word[k]?.getD 0)) {j : Nat} (hj : Hid (placeN p.seen ev = some j)) : ES p word (k + 1) (leadS p.seen.length (hideM p.m p.seen).arrows S j) := by
  obtain ⟨hm, -, -, -⟩ := (mayP_iff p).1 hp
  have h1 := placeN_some hj.out
  have hl := (List.getElem?_eq_some_iff.1 h1).1
  have h2 := rep_see hp h.rep (est_cl hm _) hl
  refine ⟨?_⟩
  have h3 : word[k]? = some ev := by rw [he.out, List.getElem?_eq_getElem hk, Option.getD_some]
  rw [List.take_add_one, h3, Option.toList_some, est_snoc]
  have h4 : seeD p (estL p (word.take k)) j = seeL p (estL p (word.take k)) ev := by unfold seeD; rw [h1, Option.getD_some]
  rw [← h4]; exact h2
/-- Nothing more is to be known: what Row answers. -/
theorem es_row {p : Plant} (hm : mayB p.m = true) {word : List Int} {k : Nat} {S : Nat → Nat} (h : ES p word k S) (hk : emptyB S = true ∨ word.length ≤ k) : rowS S = estL p word := by
  rw [rep_row h.rep.1 h.rep.2]
  rcases hk with he | hk
  · have := empty_yes h.rep.1 he
    rw [this]
    have e := est_more p hm (word.take k) (word.drop k) this
    rw [List.take_append_drop] at e
    exact e.symm
  · rw [List.take_of_length_le hk]

/-- What is left by a call that hands back a list of its own, and an error. -/
def ListOwn (w : World) (r : List Int × Int) (e : Ending) (w' : World) : Prop := ∃ v, e = .returned (.tuple #[v, .int .i64 r.2]) ∧ Own w' w.heap.size v r.1 ∧ Below w.heap.size w w'
set_option maxRecDepth 100000 in
set_option maxHeartbeats 4000000 in
theorem est_bad (p : Plant) (P : PTL) (wa : Option Addr) (wc : Nat) (word : List Int) (w : World) (h : Hid (PAt w p P)) (hp : Hid (mayP p = false)) :
    Calls Tryd.prog 29 #[ptval p P, .slice wa word.length wc] w fun e w' => ListOwn w (estOut p word) e w' := by
  have B : Hid (Below w.heap.size w (w.alloc (.cells (ptcells p P) 44))) := (Below.refl _ _).alloc (Nat.le_refl _) _
  have KP : Hid (Blk (w.alloc (.cells (ptcells p P) 44)) w.heap.size 44 (ptcells p P)) := Blk.new w _ _
  go_enter Tryd.func29, Tryd.ntmps29
  obtain ⟨x0, x1, x2, x3, x4, x5, x6⟩ := ptcell_at KP.out
  go_wp2_with fail
  clear x0 x1 x2 x3 x4 x5 x6
  revert B KP
  generalize (w.alloc (.cells (ptcells p P) 44)) = V0
  intro B KP
  refine (cwatch_bad p P V0 (Hid.of (h.out.below B.out (Nat.le_refl _))) hp).mono ?_
  rintro e V1 ⟨rfl, hb⟩
  replace B := Hid.of (B.out.trans (hb.mono B.out.size))
  clear hb KP
  have B2 : Hid (Below w.heap.size w (V1.alloc (.cells zs4 85))) := B.out.alloc B.out.size _
  clear B
  go_wp2_with fail
  refine bodyPost_ret (v := .tuple #[.slice none 0 0, .int .i64 2]) (by simp [results, go_sem]) rfl ?_
  rw [estOut_bad hp.out]
  exact ⟨_, rfl, own_nil _ _, B2.out⟩

set_option maxRecDepth 100000 in
set_option maxHeartbeats 16000000 in
theorem est_ok (p : Plant) (P : PTL) (wa : Option Addr) (wc : Nat) (word : List Int) (w : World) (h : Hid (PAt w p P)) (hw : Hid (At w wa word)) (hwl : Hid (word.length ≤ maxLen)) (hT : Hid (Tab w)) (hp : Hid (mayP p = true)) :
    Calls Tryd.prog 29 #[ptval p P, .slice wa word.length wc] w fun e w' => ListOwn w (estOut p word) e w' := by
  obtain ⟨hm, z6, hrr, -⟩ := (mayP_iff p).1 hp.out
  have hz := mayB_size hm
  unfold sizeOk at hz
  have h8 : p.seen.length ≤ 8 := by have := row_short (by omega) (by omega) hrr; omega
  have h256 : p.m.st.toNat ≤ 256 := by omega
  have HMM := Hid.of hm
  have H8 := Hid.of h8
  have H256 := Hid.of h256
  clear hz hrr hm z6 h8 h256
  have B : Hid (Below w.heap.size w (w.alloc (.cells (ptcells p P) 44))) := (Below.refl _ _).alloc (Nat.le_refl _) _
  have KP : Hid (Blk (w.alloc (.cells (ptcells p P) 44)) w.heap.size 44 (ptcells p P)) := Blk.new w _ _
  go_enter Tryd.func29, Tryd.ntmps29
  obtain ⟨x0, x1, x2, x3, x4, x5, x6⟩ := ptcell_at KP.out
  go_wp2_with fail
  clear x0 x1 x2 x3 x4 x5 x6
  revert B KP
  generalize (w.alloc (.cells (ptcells p P) 44)) = V0
  intro B KP
  refine (cwatch_ok p P V0 (Hid.of (h.out.below B.out (Nat.le_refl _))) (Hid.of (hT.out.below B.out hT.out.lt)) hp).mono ?_
  rintro e V1 ⟨pl, pp, L0, rfl, cl, hb⟩
  replace B := Hid.of (B.out.trans (hb.mono B.out.size))
  replace KP := Hid.of (KP.out.below hb KP.out.lt)
  have HCL := Hid.of cl
  clear hb cl
  obtain ⟨Q, HQ⟩ : ∃ Q, Hid (Q = ofS (wideL p.m.arrows p.seen p.m.starts)) := ⟨_, rfl⟩
  have HRQ : Hid (RepI Q (wideL p.m.arrows p.seen p.m.starts)) := by rw [HQ.out]; exact rep_start hp.out
  rw [← HQ.out]
  have BV : Hid (Below V1.heap.size V1 (V1.alloc (.cells (scells Q) 85))) := (Below.refl _ _).alloc (Nat.le_refl _) _
  have KS : Hid (SB (V1.alloc (.cells (scells Q) 85)) V1.heap.size Q) := Blk.new V1 _ _
  obtain ⟨x0, x1, x2, x3, x4, x5, x6⟩ := ptcell_at (KP.out.below BV.out KP.out.lt)
  obtain ⟨y0, y1, y2, y3⟩ := SB.cells KS.out
  go_wp2_with fail
  clear x0 x1 x2 x3 x4 x5 x6 y0 y1 y2 y3
  revert BV KS
  generalize V1.alloc (.cells (scells Q) 85) = V2
  intro BV KS
  refine (cisSeen_any p P wa wc word V2 (Hid.of (h.out.below (B.out.trans (BV.out.mono B.out.size)) (Nat.le_refl _))) (Hid.of (hw.out.below (B.out.trans (BV.out.mono B.out.size)) (Nat.le_refl _))) hwl).mono ?_
  rintro e V3 ⟨rfl, hb⟩
  rw [allIn_eq]
  replace BV := Hid.of (BV.out.trans (hb.mono BV.out.size))
  replace KS := Hid.of (KS.out.below hb KS.out.lt)
  clear hb
  cases hin : inSeen p.seen word with
  | false =>
    have HO : Hid (estOut p word = ([], 6)) := estOut_out hp.out hin
    clear hin
    go_wp2_with fail
    refine bodyPost_ret (v := .tuple #[.slice none 0 0, .int .i64 6]) (by simp [results, go_sem]) rfl ?_
    rw [HO.out]
    exact ⟨_, rfl, own_nil _ _, B.out.trans (BV.out.mono B.out.size)⟩
  | true =>
    have HO : Hid (estOut p word = (estL p word, 0)) := estOut_ok hp.out hin
    have HIN : Hid (∀ e ∈ word, e ∈ p.seen) := (inSeen_iff _ _).1 hin
    have hwl2 : word.length ≤ 9223372036854775807 := hwl.out
    clear hin
    go_wp2_with fail
    go_loopw [26] (fun i wr => ∃ (k : Nat) (S : Nat → Nat), i = .int .i64 k ∧ k ≤ word.length ∧ Hid (ES p word k S) ∧ Hid (Below V1.heap.size V1 wr) ∧ Hid (SB wr V1.heap.size S)) (fun i _ => word.length - (intOf i).toNat)
    case atStart => exact ⟨0, Q, rfl, Nat.zero_le _, Hid.of ⟨HRQ.out⟩, BV, KS⟩
    case round =>
      clear BV KS HRQ HQ
      obtain ⟨k, S, rfl, hk, HES, BV, KS⟩ := hrel
      by_cases hlt : k < word.length
      · obtain ⟨bs, os, ev, rfl, HEV, HSC⟩ : ∃ (bs os : Nat) (ev : Int), wa = some ⟨bs, os, none⟩ ∧ Hid (ev = word[k]?.getD 0) ∧ wr.cell? ⟨bs, os + k, none⟩ = some (.int .i64 ev) := by
          rcases hw.out with h0 | ⟨bs, os, ha, hb, hc⟩
          · have : word.length = 0 := by rw [h0]; rfl
            omega
          · obtain ⟨ev, hev, hcell⟩ := hc.at hlt
            refine ⟨bs, os, ev, ha, hev, ?_⟩
            exact ((B.out.trans (BV.out.mono B.out.size)).cell (p := ⟨bs, os + k, none⟩) hb).trans hcell
        obtain ⟨j, HJ⟩ : ∃ j, Hid (placeN p.seen ev = some j) := placeN_mem (HIN.out ev (by rw [HEV.out, List.getElem?_eq_getElem hlt, Option.getD_some]; exact List.getElem_mem hlt))
        have HJL : Hid (j < p.seen.length) := (List.getElem?_eq_some_iff.1 (placeN_some HJ.out)).1
        obtain ⟨y0, y1, y2, y3⟩ := SB.cells KS.out
        have hgd := run_guard_set
        cases hE : emptyB S with
        | true =>
          have heq : (Op.equalIn 10000 85 (.agg #[.int .u64 (S 0), .int .u64 (S 1), .int .u64 (S 2), .int .u64 (S 3)]) (.agg #[.int .u64 0, .int .u64 0, .int .u64 0, .int .u64 0])).run Tryd.prog wr = .ok true wr := by rw [← hE]; exact run_equalIn_set S wr
          have HEQ : Hid (rowS S = estL p word) := es_row HMM.out HES.out (.inl hE)
          clear hE
          go_wp2_with fail
          refine (rowO_any S _ HES.out.rep.1.ok (hT.out.below (B.out.trans (BV.out.mono B.out.size)) hT.out.lt)).mono ?_
          rintro e W9 ⟨v9, rfl, ov, hb⟩
          obtain ⟨R, HRr⟩ : ∃ R, Hid (R = rowS S) := ⟨_, rfl⟩
          rw [← HRr.out] at ov
          have OV := Hid.of (Own.low ov (Nat.le_trans B.out.size BV.out.size))
          have B9 := Hid.of (B.out.trans ((BV.out.trans (hb.mono BV.out.size)).mono B.out.size))
          clear ov hb
          go_wp2_with fail
          refine bodyPost_ret (v := .tuple #[v9, .int .i64 0]) (by simp [results, go_sem]) rfl ?_
          rw [HO.out, ← HEQ.out, ← HRr.out]
          exact ⟨v9, rfl, OV.out, B9.out⟩
        | false =>
          have heq : (Op.equalIn 10000 85 (.agg #[.int .u64 (S 0), .int .u64 (S 1), .int .u64 (S 2), .int .u64 (S 3)]) (.agg #[.int .u64 0, .int .u64 0, .int .u64 0, .int .u64 0])).run Tryd.prog wr = .ok false wr := by rw [← hE]; exact run_equalIn_set S wr
          have HN : Hid (ES p word (k + 1) (leadS p.seen.length (hideM p.m p.seen).arrows S j)) := es_next hp.out HES.out hlt HEV HJ
          have hcall := Hid.of (cwatch1_any p P S ev j HJ HJL.out H8.out H256.out (Hid.of HES.out.rep.1.ok) (Hid.of (all_lt HES.out.rep (est_cl HMM.out _))) pl pp L0 wr (Hid.of (hT.out.below (B.out.trans (BV.out.mono B.out.size)) hT.out.lt)) (Hid.of (HCL.out.kept BV.out)))
          obtain ⟨Q2, HQ2⟩ : ∃ Q2, Hid (Q2 = leadS p.seen.length (hideM p.m p.seen).arrows S j) := ⟨_, rfl⟩
          rw [← HQ2.out] at hcall HN
          clear hE
          go_wp2_with fail
          refine hcall.out.mono ?_
          rintro r w1 ⟨rfl, hb1⟩
          have BV1 := Hid.of (BV.out.trans (hb1.mono BV.out.size))
          have KS1 := Hid.of (KS.out.below hb1 KS.out.lt)
          clear hb1 y0 y1 y2 y3 heq hcall HSC
          obtain ⟨y0, y1, y2, y3⟩ := SB.cells KS1.out
          have yz := KS1.out.frozen
          have KS2 := Hid.of (SB.set4 KS1.out Q2)
          have BV2 := Hid.of (below_set4 BV1.out (b' := V1.heap.size) (Nat.le_refl _) (.int .u64 (Q2 0)) (.int .u64 (Q2 1)) (.int .u64 (Q2 2)) (.int .u64 (Q2 3)))
          go_wp2_with fail
          go_roundw
          case rel => exact ⟨k + 1, Q2, by go_num, by omega, HN, BV2, KS2⟩
          case measure => simp [intOf]; omega
      · have HEQ : Hid (rowS S = estL p word) := es_row HMM.out HES.out (.inr (by omega))
        obtain ⟨y0, y1, y2, y3⟩ := SB.cells KS.out
        go_wp2_with fail
        refine (rowO_any S _ HES.out.rep.1.ok (hT.out.below (B.out.trans (BV.out.mono B.out.size)) hT.out.lt)).mono ?_
        rintro e W9 ⟨v9, rfl, ov, hb⟩
        obtain ⟨R, HRr⟩ : ∃ R, Hid (R = rowS S) := ⟨_, rfl⟩
        rw [← HRr.out] at ov
        have OV := Hid.of (Own.low ov (Nat.le_trans B.out.size BV.out.size))
        have B9 := Hid.of (B.out.trans ((BV.out.trans (hb.mono BV.out.size)).mono B.out.size))
        clear ov hb
        go_wp2_with fail
        refine bodyPost_ret (v := .tuple #[v9, .int .i64 0]) (by simp [results, go_sem]) rfl ?_
        rw [HO.out, ← HEQ.out, ← HRr.out]
        exact ⟨v9, rfl, OV.out, B9.out⟩

theorem pEstO_any (p : Plant) (P : PTL) (wa : Option Addr) (wc : Nat) (word : List Int) (w : World) (h : PAt w p P) (hw : At w wa word) (hwl : word.length ≤ maxLen) (hT : Tab w) :
    Calls Tryd.prog 29 #[ptval p P, .slice wa word.length wc] w fun e w' => ListOwn w (estOut p word) e w' := by
  cases hp : mayP p with
  | false => exact est_bad p P wa wc word w (Hid.of h) (Hid.of hp)
  | true => exact est_ok p P wa wc word w (Hid.of h) (Hid.of hw) (Hid.of hwl) (Hid.of hT) (Hid.of hp)
end Go.Proofs.YtmlkpdeidpcidaaDoor
namespace Go.Proofs.YtmlkpdeidpcidaaDoor
open Go.RowKit
set_option linter.unusedVariables false

/-- What Began answers (J1). -/
def begOut (p : Plant) (word : List Int) : List Int × Int := if mayP p = true then (if inSeen p.seen word = true then (beganL p word, 0) else ([], 6)) else ([], 2)
theorem begOut_bad {p : Plant} (h : mayP p = false) (word : List Int) : begOut p word = ([], 2) := by unfold begOut; rw [if_neg (by rw [h]; simp)]
theorem begOut_ok {p : Plant} {word : List Int} (h : mayP p = true) (hs : inSeen p.seen word = true) : begOut p word = (beganL p word, 0) := by unfold begOut; rw [if_pos h, if_pos hs]
theorem begOut_out {p : Plant} {word : List Int} (h : mayP p = true) (hs : inSeen p.seen word = false) : begOut p word = ([], 6) := by unfold begOut; rw [if_pos h, if_neg (by rw [hs]; simp)]

end Go.Proofs.YtmlkpdeidpcidaaDoor
namespace Go.Proofs.YtmlkpdeidpcidaaDoor
open Go.RowKit
set_option linter.unusedVariables false

/-- Does a row tell the beginning? -/
def tellB (p : Plant) (row : List Int) : Bool := leakB p.secret (row.filter fun n => hasB p.m.starts n == true)
/-- Nothing found ahead of k tells. -/
structure LIn (p : Plant) (n frm to e r k : Nat) (l : List (List Int × List Int)) : Prop where
  ig : IG (opB p) (rngI p.m.st.toNat) p.seen.length n frm to e r l
  no : ∀ (j : Nat) (x : List Int × List Int), j < k → l[j]? = some x → tellB p x.1 = false
theorem LIn.bound {p : Plant} (hp : mayP p = true) {n frm to e r k : Nat} {l : List (List Int × List Int)} (h : LIn p n frm to e r k l) : l.length ≤ 64 := by
  obtain ⟨hm, z, -, -⟩ := (mayP_iff p).1 hp
  have h1 := nodup_sub (m := subs 6) h.ig.nd (fun s hs => by
    obtain ⟨x, hx, rfl⟩ := List.mem_map.1 hs
    obtain ⟨e1, -⟩ := h.ig.run x hx
    rw [e1, on_val hm]
    exact mem_subs 6 _ (inc_flt (inc_rng9 _) _) (fun y hy => by have := ((mem_on _ _ _).1 hy).1; omega))
  rw [List.length_map, subs_len] at h1
  exact h1
/-! Sets gone back to. -/
/-- Where an arrow stands in the table: by its event (as the plant numbers it) and where it leads to. -/
def frI (seen : List Int) (a : Arr) : Int := (seen[a.e.toNat]?.getD 0) * 6 + a.t
def baT (p : Plant) : Nat → Nat → Nat := tabK (frI p.seen) Arr.f (hideM p.m p.seen).arrows
/-- What goes back from a set, at an event. -/
def backS (p : Plant) (S : Nat → Nat) (e : Nat) : Nat → Nat := toF (fun n => baT p (e * 6 + n)) (allS S)
theorem ok_back (p : Plant) (S : Nat → Nat) (e : Nat) : okS (backS p S e) := ok_toF (fun n => okS_tabK _ _ _ _) _
theorem rep_back {p : Plant} (hp : mayP p = true) {S : Nat → Nat} {s : List Int} (hr : Rep S s) (hb : ∀ x ∈ s, 0 ≤ x ∧ x < p.m.st) {k : Nat} (hk : k < p.seen.length) : RepI (backS p S (p.seen[k]?.getD 0).toNat) (opB p k s) := by
  obtain ⟨hm, z6, hs, -⟩ := (mayP_iff p).1 hp
  have hz := mayB_size hm
  unfold sizeOk at hz
  have hrow := (rowB_iff _ (by omega) _).1 hs
  refine ⟨⟨ok_back _ _ _, fun x hx => ?_, fun n hn => ?_⟩, inc_flt (inc_rng9 _) _⟩
  · have := ((mem_into _ _ _ _).1 hx).1; omega
  · unfold backS
    rw [has_toF]
    show _ ↔ (n : Int) ∈ intoL p s (p.seen[k]?.getD 0)
    rw [mem_into]
    have hsk : ∀ j : Nat, j < p.seen.length → 0 ≤ p.seen[j]?.getD 0 := fun j hj => by
      rw [List.getElem?_eq_getElem hj, Option.getD_some]
      exact (hrow.2 _ (List.getElem_mem hj)).1
    constructor
    · rintro ⟨m, hm1, hm2⟩
      obtain ⟨a, ha, e1, e2⟩ := (has_tabK _ _ _ _ _).1 hm2
      obtain ⟨f, j, hf, hj, hrw⟩ := (mem_hAll _ _ _ _).1 (show a ∈ hAll p.m p.seen p.m.st.toNat from ha)
      obtain ⟨t, ht, rfl⟩ := (mem_hRow _ _ _ _ _).1 hrw
      have htb := (see_in hm (wideL p.m.arrows p.seen [(f : Int)]) (p.seen[j]?.getD 0)).2 t ht
      have hms := (mem_allS _ _).1 hm1
      have hmb := hb (m : Int) ((hr.mem m hms.1).1 hms.2)
      simp only [frI, Int.toNat_natCast] at e1 e2
      have hj0 := hsk j hj
      have hk0 := hsk k hk
      have e3 : p.seen[k]?.getD 0 = p.seen[j]?.getD 0 ∧ t = (m : Int) := by omega
      subst e2
      refine ⟨⟨by omega, by omega⟩, t, ?_, ?_⟩
      · rw [e3.1]; exact ht
      · rw [e3.2]; exact (hr.mem m hms.1).1 hms.2
    · rintro ⟨h1, t, ht, hts⟩
      have htb := hb t hts
      have hk0 := hsk k hk
      refine ⟨t.toNat, (mem_allS _ _).2 ⟨by omega, (hr.mem _ (by omega)).2 (by rwa [Int.toNat_of_nonneg htb.1])⟩, (has_tabK _ _ _ _ _).2 ⟨⟨(n : Int), (k : Int), t⟩, ?_, ?_, by simp⟩⟩
      · exact (mem_hAll _ _ _ _).2 ⟨n, k, by omega, hk, (mem_hRow _ _ _ _ _).2 ⟨t, ht, rfl⟩⟩
      · simp only [frI, Int.toNat_natCast]; omega
theorem bd_op {p : Plant} (hm : mayB p.m = true) (k : Nat) (s : List Int) : ∀ x ∈ opB p k s, 0 ≤ x ∧ x < p.m.st := fun x hx => by
  have hz := mayB_size hm
  unfold sizeOk at hz
  have := ((mem_into _ _ _ _).1 hx).1; omega
theorem bd_rng {p : Plant} (hm : mayB p.m = true) : ∀ x ∈ rngI p.m.st.toNat, 0 ≤ x ∧ x < p.m.st := fun x hx => by
  have hz := mayB_size hm
  unfold sizeOk at hz
  have := (mem_rng9 _ _).1 hx; omega
theorem bd_val {p : Plant} (hm : mayB p.m = true) : ∀ u : List Int, ∀ x ∈ valB (opB p) (rngI p.m.st.toNat) u, 0 ≤ x ∧ x < p.m.st
  | [] => bd_rng hm
  | k :: u => bd_op hm _ _
/-- All states, as a set. -/
def allF (n : Nat) : Nat → Nat := ofS (rngI n)
theorem allF_succ (n : Nat) : allF (n + 1) = withS (allF n) n := by unfold allF; rw [rngI_succ, ofS_snoc, Int.toNat_natCast]
theorem rep_all {n : Nat} (h : n ≤ 256) : RepI (allF n) (rngI n) := by
  have := rep_of (l := rngI n) (fun x hx => by have := (mem_rng9 _ _).1 hx; omega) n
  rw [List.take_of_length_le (by simp [rngI])] at this
  exact ⟨this, inc_rng9 _⟩
theorem ok_allF (n : Nat) : okS (allF n) := by
  induction n with
  | zero => exact okS_zero
  | succ n ih => rw [allF_succ]; exact okS_with ih _
theorem rep_meet {S T : Nat → Nat} {l k : List Int} (h : Rep S l) (h' : Rep T k) : Rep (meetS S T) (l.filter fun n => hasB k n == true) := by
  refine ⟨okS_meet h.ok, fun x hx => h.bd x (List.mem_filter.1 hx).1, fun n hn => ?_⟩
  rw [hasS_meet, Bool.and_eq_true, h.mem n hn, h'.mem n hn, List.mem_filter]
  refine and_congr_right fun _ => ?_
  unfold hasB; simp
end Go.Proofs.YtmlkpdeidpcidaaDoor
namespace Go.Proofs.YtmlkpdeidpcidaaDoor
open Go.RowKit
set_option linter.unusedVariables false

set_option maxRecDepth 100000 in
set_option maxHeartbeats 4000000 in
theorem iall_any (p : Plant) (P : PTL) (N : Nat) (hN : Hid (p.m.st = (N : Int))) (h256 : N ≤ 256) (w : World) :
    Calls Tryd.prog 84 #[ptval p P] w fun e w' => e = .returned (sval (allF N)) ∧ Below w.heap.size w w' := by
  have B : Hid (Below w.heap.size w (((w.alloc (.cells (ptcells p P) 44)).alloc (.cells zs4 85)).alloc (.cells zs4 85))) := (((Below.refl _ _).alloc (Nat.le_refl _) _).alloc (by simp) _).alloc (by simp; omega) _
  have KP : Hid (Blk (((w.alloc (.cells (ptcells p P) 44)).alloc (.cells zs4 85)).alloc (.cells zs4 85)) w.heap.size 44 (ptcells p P)) := ((Blk.new w _ _).alloc _).alloc _
  have KR : Hid (SB (((w.alloc (.cells (ptcells p P) 44)).alloc (.cells zs4 85)).alloc (.cells zs4 85)) (w.heap.size + 1) zeroS) := by
    have := (Blk.new (w.alloc (.cells (ptcells p P) 44)) 85 zs4).alloc (.cells zs4 85)
    rwa [World.size_alloc] at this
  have KS : Hid (SB (((w.alloc (.cells (ptcells p P) 44)).alloc (.cells zs4 85)).alloc (.cells zs4 85)) (w.heap.size + 1 + 1) (allF 0)) := by
    have := Blk.new ((w.alloc (.cells (ptcells p P) 44)).alloc (.cells zs4 85)) 85 zs4
    rwa [World.size_alloc, World.size_alloc] at this
  go_enter Tryd.func84, Tryd.ntmps84
  have x0 : (((w.alloc (.cells (ptcells p P) 44)).alloc (.cells zs4 85)).alloc (.cells zs4 85)).cell? ⟨w.heap.size, 0, none⟩ = some (.int .i64 (N : Int)) := by rw [← hN.out]; exact KP.out.cell 0 rfl
  go_wp2_with fail
  clear x0
  revert B KP KR KS
  generalize (((w.alloc (.cells (ptcells p P) 44)).alloc (.cells zs4 85)).alloc (.cells zs4 85)) = V0
  intro B KP KR KS
  go_loopw [8] (fun i wr => ∃ k : Nat, k ≤ N ∧ i = .int .i64 k ∧ Hid (SB wr (w.heap.size + 1 + 1) (allF k)) ∧ Hid (Below (w.heap.size + 1 + 1) V0 wr)) (fun i _ => N - (intOf i).toNat)
  case atStart => exact ⟨0, Nat.zero_le _, rfl, KS, Below.refl _ _⟩
  case round =>
    clear KS
    obtain ⟨k, hk, rfl, LS, LB⟩ := hrel
    obtain ⟨Q, HQ⟩ : ∃ Q, Hid (Q = allF k) := ⟨_, rfl⟩
    have hok : Hid (okS Q) := by show okS Q; rw [HQ.out]; exact ok_allF k
    rw [← HQ.out] at LS
    by_cases hlt : k < N
    · obtain ⟨s0, s1, s2, s3⟩ := SB.cells LS.out
      go_wp2_with fail
      refine (with_any Q (k : Int) _ hok.out (by omega) (by omega)).mono ?_
      rintro e w1 ⟨rfl, hb⟩
      rw [Int.toNat_natCast]
      have L1 := Hid.of (LS.out.below hb LS.out.lt)
      have B1 := Hid.of (LB.out.trans (hb.mono (Nat.le_trans (Nat.le_of_lt LS.out.lt) (Nat.le_refl _))))
      clear s0 s1 s2 s3 hb
      have fz := L1.out.frozen
      obtain ⟨s0, s1, s2, s3⟩ := SB.cells L1.out
      have L2 := Hid.of (SB.set4 L1.out (withS Q k))
      have B2 := Hid.of (below_set4 B1.out (b' := w.heap.size + 1 + 1) (Nat.le_refl _) (.int .u64 (withS Q k 0)) (.int .u64 (withS Q k 1)) (.int .u64 (withS Q k 2)) (.int .u64 (withS Q k 3)))
      go_wp2_with fail
      go_roundw
      case rel => exact ⟨k + 1, by omega, by go_num, by rw [allF_succ, ← HQ.out]; exact L2, B2⟩
      case measure => simp [intOf]; omega
    · have hk2 : N ≤ k := by omega
      have HK : Hid (k = N) := by show k = N; omega
      clear hlt
      have BW := Hid.of (B.out.trans (LB.out.mono (by omega)))
      have RW := Hid.of (KR.out.below LB.out (by omega))
      obtain ⟨s0, s1, s2, s3⟩ := SB.cells LS.out
      obtain ⟨r0, r1, r2, r3⟩ := SB.cells RW.out
      have rz := RW.out.frozen
      have RR := Hid.of (SB.set4 RW.out Q)
      have BB := Hid.of (below_set4 BW.out (b' := w.heap.size + 1) (by omega) (.int .u64 (Q 0)) (.int .u64 (Q 1)) (.int .u64 (Q 2)) (.int .u64 (Q 3)))
      go_wp2_with fail
      clear r0 r1 r2 r3 s0 s1 s2 s3
      obtain ⟨r0, r1, r2, r3⟩ := SB.cells RR.out
      refine bodyPost_ret (v := sval Q) ?_ rfl ⟨by rw [HQ.out, HK.out], BB.out⟩
      simp [results, go_sem, r0, r1, r2, r3]

end Go.Proofs.YtmlkpdeidpcidaaDoor
namespace Go.Proofs.YtmlkpdeidpcidaaDoor
open Go.RowKit Go.Shelf
set_option linter.unusedVariables false
attribute [local go_sem] Oper.semAt_some

/-- The table of initial.watch lies in block g: 8 rows of 6 sets. -/
def TI (W : World) (g : Nat) (T : Nat → Nat → Nat) : Prop := ∃ cs, Blk W g 194 cs ∧ cs.size = 192 ∧ ∀ e n j, e < 8 → n < 6 → j < 4 → cs[e * 24 + n * 4 + j]? = some (.int .u64 (T (e * 6 + n) j))
theorem TI.cells {W : World} {g : Nat} {T : Nat → Nat → Nat} (h : TI W g T) {e n : Nat} (he : e < 8) (hn : n < 6) : W.cell? ⟨g, e * 24 + n * 4, none⟩ = some (.int .u64 (T (e * 6 + n) 0)) ∧ W.cell? ⟨g, e * 24 + n * 4 + 1, none⟩ = some (.int .u64 (T (e * 6 + n) 1)) ∧ W.cell? ⟨g, e * 24 + n * 4 + 2, none⟩ = some (.int .u64 (T (e * 6 + n) 2)) ∧ W.cell? ⟨g, e * 24 + n * 4 + 3, none⟩ = some (.int .u64 (T (e * 6 + n) 3)) := by
  obtain ⟨cs, hb, hs, hc⟩ := h
  exact ⟨hb.cell _ (hc e n 0 he hn (by omega)), hb.cell _ (hc e n 1 he hn (by omega)), hb.cell _ (hc e n 2 he hn (by omega)), hb.cell _ (hc e n 3 he hn (by omega))⟩
theorem TI.below {W W' : World} {g B : Nat} {T : Nat → Nat → Nat} (h : TI W g T) (hb : Below B W W') (hB : g < B) : TI W' g T := by
  obtain ⟨cs, h1, h2, h3⟩ := h
  exact ⟨cs, h1.below hb hB, h2, h3⟩
theorem TI.lt {W : World} {g : Nat} {T : Nat → Nat → Nat} (h : TI W g T) : g < W.heap.size := by
  obtain ⟨cs, h1, h2, h3⟩ := h
  exact h1.lt
theorem TI.frozen {W : World} {g : Nat} {T : Nat → Nat → Nat} (h : TI W g T) (j : Nat) : W.frozen? ⟨g, j, none⟩ = false := by
  obtain ⟨cs, h1, h2, h3⟩ := h
  exact h1.frozen j
/-- One set of the table stored anew. -/
theorem TI.store {W : World} {g e n : Nat} {T : Nat → Nat → Nat} (h : TI W g T) (he : e < 8) (hn : n < 6) (U : Nat → Nat) :
    TI ((((W.setCell ⟨g, e * 24 + n * 4, none⟩ (.int .u64 (U 0))).setCell ⟨g, e * 24 + n * 4 + 1, none⟩ (.int .u64 (U 1))).setCell ⟨g, e * 24 + n * 4 + 2, none⟩ (.int .u64 (U 2))).setCell ⟨g, e * 24 + n * 4 + 3, none⟩ (.int .u64 (U 3))) g (fun q => if q = e * 6 + n then U else T q) := by
  obtain ⟨cs, h1, h2, h3⟩ := h
  refine ⟨_, (((h1.set (e * 24 + n * 4) _).set (e * 24 + n * 4 + 1) _).set (e * 24 + n * 4 + 2) _).set (e * 24 + n * 4 + 3) _, by simp [h2], fun e' n' j he' hn' hj => ?_⟩
  simp only [Array.getElem?_setIfInBounds, Array.size_setIfInBounds]
  by_cases q : e' * 6 + n' = e * 6 + n
  · have q1 : e' = e := by omega
    have q2 : n' = n := by omega
    subst q1; subst q2
    have hj' : j = 0 ∨ j = 1 ∨ j = 2 ∨ j = 3 := by omega
    rcases hj' with rfl | rfl | rfl | rfl
    · simp [show e' * 24 + n' * 4 < cs.size by omega]
    · simp [show e' * 24 + n' * 4 + 1 < cs.size by omega]
    · simp [show e' * 24 + n' * 4 + 2 < cs.size by omega]
    · simp [show e' * 24 + n' * 4 + 3 < cs.size by omega]
  · have a0 : ¬ e * 24 + n * 4 = e' * 24 + n' * 4 + j := by omega
    have a1 : ¬ e * 24 + n * 4 + 1 = e' * 24 + n' * 4 + j := by omega
    have a2 : ¬ e * 24 + n * 4 + 2 = e' * 24 + n' * 4 + j := by omega
    have a3 : ¬ e * 24 + n * 4 + 3 = e' * 24 + n' * 4 + j := by omega
    rw [if_neg a3, if_neg a2, if_neg a1, if_neg a0, h3 e' n' j he' hn' hj, if_neg q]

set_option maxRecDepth 100000 in
set_option maxHeartbeats 4000000 in
theorem iwatch1_in (S : Nat → Nat) (hS : okS S) (e : Nat) (he8 : e < 8) (T : Nat → Nat → Nat) (hTok : Hid (∀ p, okS (T p))) (hall : ∀ k ∈ allS S, k < 6) (pg : Nat) (w : World) (hT : Tab w) (hTB : TI w pg T) :
    CallsIn Fence.wide 5 Tryd.prog 135 #[sval S, .int .i64 e, .pointer (some ⟨pg, 0, none⟩)] w fun e' W' => e' = .returned (sval (toF (fun n => T (e * 6 + n)) (allS S))) ∧ Below w.heap.size w W' := by
  obtain ⟨xs, hxs⟩ := nb_of (N := 6) (allS S) hall
  clear hall
  refine callsIn_of_wp_marks Tryd.func135 rfl trivial ?_ rfl
  simp only [Tryd.ntmps135, List.size_toArray, List.length_cons, List.length_nil, Nat.reduceAdd, Nat.reduceSub, Array.replicate_succ, Array.replicate_zero, List.push_toArray, List.append_toArray, List.nil_append, List.cons_append]
  gi_wp2_with (refine ⟨trivial, ?_⟩; refine CallsIn.mono (callsIn_wide.2 (all_any S _)) ?_; rintro e1 w1 ⟨rfl, rfl⟩)
  have hB0 : Below w.heap.size w (((((w.alloc (.cells (scells S) 85)).alloc (.cells #[.int .i64 e] 3)).alloc (.cells #[.int .u64 0, .int .u64 0, .int .u64 0, .int .u64 0] 85)).alloc (.cells #[.int .u64 0, .int .u64 0, .int .u64 0, .int .u64 0] 85)).alloc (.cells (scells S) 85)) := (((((Below.refl _ _).alloc (Nat.le_refl _) _).alloc (by simp) _).alloc (by simp; omega) _).alloc (by simp; omega) _).alloc (by simp; omega) _
  have bX : Boxed (((((w.alloc (.cells (scells S) 85)).alloc (.cells #[.int .i64 e] 3)).alloc (.cells #[.int .u64 0, .int .u64 0, .int .u64 0, .int .u64 0] 85)).alloc (.cells #[.int .u64 0, .int .u64 0, .int .u64 0, .int .u64 0] 85)).alloc (.cells (scells S) 85)) (w.heap.size + 1) 3 (.int .i64 e) := by
    have := (((Boxed.new (w.alloc (.cells (scells S) 85)) 3 (.int .i64 e)).alloc (.cells #[.int .u64 0, .int .u64 0, .int .u64 0, .int .u64 0] 85)).alloc (.cells #[.int .u64 0, .int .u64 0, .int .u64 0, .int .u64 0] 85)).alloc (.cells (scells S) 85)
    rwa [World.size_alloc] at this
  have bR : SB (((((w.alloc (.cells (scells S) 85)).alloc (.cells #[.int .i64 e] 3)).alloc (.cells #[.int .u64 0, .int .u64 0, .int .u64 0, .int .u64 0] 85)).alloc (.cells #[.int .u64 0, .int .u64 0, .int .u64 0, .int .u64 0] 85)).alloc (.cells (scells S) 85)) (w.heap.size + 1 + 1) zeroS := by
    have := ((Blk.new ((w.alloc (.cells (scells S) 85)).alloc (.cells #[.int .i64 e] 3)) 85 #[.int .u64 0, .int .u64 0, .int .u64 0, .int .u64 0]).alloc (.cells #[.int .u64 0, .int .u64 0, .int .u64 0, .int .u64 0] 85)).alloc (.cells (scells S) 85)
    rwa [World.size_alloc, World.size_alloc] at this
  have bO : SB (((((w.alloc (.cells (scells S) 85)).alloc (.cells #[.int .i64 e] 3)).alloc (.cells #[.int .u64 0, .int .u64 0, .int .u64 0, .int .u64 0] 85)).alloc (.cells #[.int .u64 0, .int .u64 0, .int .u64 0, .int .u64 0] 85)).alloc (.cells (scells S) 85)) (w.heap.size + 1 + 1 + 1) zeroS := by
    have := (Blk.new (((w.alloc (.cells (scells S) 85)).alloc (.cells #[.int .i64 e] 3)).alloc (.cells #[.int .u64 0, .int .u64 0, .int .u64 0, .int .u64 0] 85)) 85 #[.int .u64 0, .int .u64 0, .int .u64 0, .int .u64 0]).alloc (.cells (scells S) 85)
    rwa [World.size_alloc, World.size_alloc, World.size_alloc] at this
  have bN : SB (((((w.alloc (.cells (scells S) 85)).alloc (.cells #[.int .i64 e] 3)).alloc (.cells #[.int .u64 0, .int .u64 0, .int .u64 0, .int .u64 0] 85)).alloc (.cells #[.int .u64 0, .int .u64 0, .int .u64 0, .int .u64 0] 85)).alloc (.cells (scells S) 85)) (w.heap.size + 1 + 1 + 1 + 1) S := by
    have := Blk.new ((((w.alloc (.cells (scells S) 85)).alloc (.cells #[.int .i64 e] 3)).alloc (.cells #[.int .u64 0, .int .u64 0, .int .u64 0, .int .u64 0] 85)).alloc (.cells #[.int .u64 0, .int .u64 0, .int .u64 0, .int .u64 0] 85)) 85 (scells S)
    rwa [World.size_alloc, World.size_alloc, World.size_alloc, World.size_alloc] at this
  have hsz0 : (((((w.alloc (.cells (scells S) 85)).alloc (.cells #[.int .i64 e] 3)).alloc (.cells #[.int .u64 0, .int .u64 0, .int .u64 0, .int .u64 0] 85)).alloc (.cells #[.int .u64 0, .int .u64 0, .int .u64 0, .int .u64 0] 85)).alloc (.cells (scells S) 85)).heap.size = w.heap.size + 5 := by simp
  revert hB0 bX bR bO bN hsz0
  generalize ((((w.alloc (.cells (scells S) 85)).alloc (.cells #[.int .i64 e] 3)).alloc (.cells #[.int .u64 0, .int .u64 0, .int .u64 0, .int .u64 0] 85)).alloc (.cells #[.int .u64 0, .int .u64 0, .int .u64 0, .int .u64 0] 85)).alloc (.cells (scells S) 85) = W0
  intro hB0 bX bR bO bN hsz0
  have hT0 := hT.below hB0 hT.lt
  have hw0 := hT.lt
  refine wpIn_rangeFunc_ownG rfl (by omega) (gf := 164) (lb := #[.pointer (some ⟨w.heap.size + 1 + 1 + 1 + 1, 0, none⟩)]) rfl trivial (enters_of Tryd.func164 (by kernel_rfl) rfl)
    (all_stops 4 (by omega) (w.heap.size + 1 + 1 + 1 + 1) (w.heap.size + 3) S hS xs hxs (by omega) W0 (by omega) bN hT0) belowK_t (belowK_b (by omega)) (Below.refl _ _) (fun _ => rfl)
    (fun pre W' => SB W' (w.heap.size + 1 + 1 + 1) (toF (fun n => T (e * 6 + n)) (nbNats pre)) ∧ Below (w.heap.size + 3) W0 W')
    (fun _ _ _ => False)
    (OwnFrom.and (Go.Own.from (own_SB (w.heap.size + 1 + 1 + 1) (fun pre : List (NB 6) => toF (fun n => T (e * 6 + n)) (nbNats pre))) _) (ownFrom_below (by omega) (by omega)))
    (fun _ _ _ _ _ hs _ _ => hs)
    ⟨bO, Below.refl _ _⟩
    (fun x => { tmps := #[sval S, .int .i64 e, .pointer (some ⟨pg, 0, none⟩), .pointer (some ⟨w.heap.size, 0, none⟩), .pointer (some ⟨w.heap.size + 1, 0, none⟩), .pointer (some ⟨w.heap.size + 1 + 1, 0, none⟩), .pointer (some ⟨w.heap.size + 1 + 1 + 1, 0, none⟩), .int .i64 (x.1 : Int), sval S, .func (.func 164) #[] #[.pointer (some ⟨w.heap.size + 1 + 1 + 1 + 1, 0, none⟩)], .int .i64 (x.1 : Int), undef, undef, undef, undef, undef, undef, undef, undef], defers := [] }) ?assign ?body ?done ?stop
  case assign =>
    intro l x W K hK
    gi_wp2
    exact hK
  case body =>
    rintro l' pre x W' ⟨hO, hB'⟩ hlt
    have hBW : Below w.heap.size w W' := hB0.trans (hB'.mono (by omega))
    have hTW := hTB.below hBW hTB.lt
    have c1 : W'.cell? ⟨w.heap.size + 1, 0, none⟩ = some (.int .i64 e) := Boxed.cell ((hB'.block _ (by omega)).trans bX)
    have hx := x.2
    obtain ⟨n, hn⟩ : ∃ n, Hid (n = x.1) := ⟨_, rfl⟩
    rw [← hn.out] at hx ⊢
    obtain ⟨t0, t1, t2, t3⟩ := hTW.cells he8 hx
    obtain ⟨o0, o1, o2, o3⟩ := hO.cells
    have fO := hO.frozen
    have mx : Tryd.prog.follows .mixedOrders = true := by kernel_rfl
    have hOk : Hid (okS (toF (fun n => T (e * 6 + n)) (nbNats pre))) := ok_toF (fun _ => hTok.out _) _
    have hTp : Hid (okS (T (e * 6 + n))) := hTok.out _
    have HX : Hid (toF (fun n => T (e * 6 + n)) (nbNats (pre ++ [x])) = joinS (toF (fun n => T (e * 6 + n)) (nbNats pre)) (T (e * 6 + n))) := by show _ = _; rw [nbNats_snoc, toF_snoc, hn.out]
    have hn0 : (0 : Int) ≤ (n : Int) := by omega
    have hnI : (n : Int) < 6 := by omega
    have he0 : (0 : Int) ≤ (e : Int) := by omega
    have heI : (e : Int) < 8 := by omega
    obtain ⟨U, HU⟩ : ∃ U, Hid (U = T (e * 6 + n)) := ⟨_, rfl⟩
    rw [← HU.out] at t0 t1 t2 t3 hTp HX
    have hOd : Hid (SB W'.drew (w.heap.size + 1 + 1 + 1) (toF (fun n => T (e * 6 + n)) (nbNats pre))) := hO
    have HB := Hid.of hB'
    have HO := Hid.of hO
    clear hTW hBW hB' hO
    generalize toF (fun n => T (e * 6 + n)) (nbNats pre) = O at *
    gi_wp2
    gi_region_with_o (refine ⟨trivial, ?_⟩; refine CallsIn.mono (CallsIn.inRound l' (callsIn_wide.2 (join_any O U _ hOk.out hTp.out))) ?_; rintro e' w1 ⟨rfl, hb1⟩; have hO1 := Blk.below hOd.out hb1 hOd.out.lt; obtain ⟨y0, y1, y2, y3⟩ := SB.cells hO1; have fO1 := Blk.frozen hO1)
    all_goals
      have k1 : KeepsOthers W' w1 := ⟨hb1.size, fun k o hk _ => (hb1.block k (Array.getElem?_eq_some_iff.1 hk).1).trans hk⟩
      have k2 : Below (w.heap.size + 3) W' w1 := ((Below.refl _ W').drew).trans (hb1.mono (Nat.le_of_lt HO.out.lt))
      have k3 := below_set4 k2 (b' := w.heap.size + 1 + 1 + 1) (Nat.le_refl _) (.int .u64 (joinS O U 0)) (.int .u64 (joinS O U 1)) (.int .u64 (joinS O U 2)) (.int .u64 (joinS O U 3))
      exact ⟨((((k1.trans (KeepsOthers.setCell _ _ _)).trans (KeepsOthers.setCell _ _ _)).trans (KeepsOthers.setCell _ _ _)).trans (KeepsOthers.setCell _ _ _)).from _, k3, by rw [HX.out]; exact SB.set4 hO1 _, HB.out.trans k3⟩
  case done =>
    rintro D ys W' hD rfl ⟨hO, hB'⟩ hK
    have hBW : Below w.heap.size w W' := hB0.trans (hB'.mono (by omega))
    obtain ⟨o0, o1, o2, o3⟩ := hO.cells
    have HQ : Hid (toF (fun n => T (e * 6 + n)) (nbNats ys) = toF (fun n => T (e * 6 + n)) (allS S)) := by show _ = _; rw [← hxs]; rfl
    have hres := bR.below hB' (by omega)
    obtain ⟨r0, r1, r2, r3⟩ := SB.cells hres
    have rz := hres.frozen
    have k2 := Hid.of (SB.set4 hres (toF (fun n => T (e * 6 + n)) (nbNats ys)))
    have k3 := Hid.of (below_set4 hBW (b' := w.heap.size + 1 + 1) (by omega) (.int .u64 (toF (fun n => T (e * 6 + n)) (nbNats ys) 0)) (.int .u64 (toF (fun n => T (e * 6 + n)) (nbNats ys) 1)) (.int .u64 (toF (fun n => T (e * 6 + n)) (nbNats ys) 2)) (.int .u64 (toF (fun n => T (e * 6 + n)) (nbNats ys) 3)))
    have hMk : Marks w.heap.size [D] W' := by
      refine ⟨fun D' hD' => ?_, by simp⟩
      have e : D' = D := by simpa using hD'
      rw [e]
      exact ⟨by omega, hK⟩
    have k4 := Hid.of (hMk.other4 hres (toF (fun n => T (e * 6 + n)) (nbNats ys)))
    clear hMk
    clear hO hBW hB' hres hK
    generalize toF (fun n => T (e * 6 + n)) (nbNats ys) = O at *
    gi_wp2
    refine leaves_marks (B := w.heap.size) (fun W => SB W (w.heap.size + 1 + 1) O ∧ Below w.heap.size w W) ?hJ ?hfin [D] _ k4.out ⟨k2.out, k3.out⟩
    case hJ =>
      rintro W D ⟨h1, h2⟩ hD hk
      refine ⟨(World.putObj_heap_other (fun e => ?_)).trans h1, h2.trans (belowK_b (w := w) (Nat.le_refl _) W D _ _ hD hk rfl rfl)⟩
      have h3 : W.heap[w.heap.size + 1 + 1]? = _ := h1
      rw [e, hk] at h3
      cases h3
    case hfin =>
      rintro W ⟨h1, h2⟩
      exact ⟨_, results_cell_row (g := w.heap.size + 1 + 1) (p := 5) rfl _ _ _ _ _ _ rfl h1 Tryd.underlying85 rfl (by kernel_rfl), by rw [← HQ.out], h2⟩
  case stop =>
    rintro D c pre W _ _ h _
    exact h.elim

theorem iwatch1_any (S : Nat → Nat) (hS : okS S) (e : Nat) (he8 : e < 8) (T : Nat → Nat → Nat) (hTok : ∀ p, okS (T p)) (hall : ∀ k ∈ allS S, k < 6) (pg : Nat) (w : World) (hT : Tab w) (hTB : TI w pg T) :
    Calls Tryd.prog 135 #[sval S, .int .i64 e, .pointer (some ⟨pg, 0, none⟩)] w fun e' W' => e' = .returned (sval (toF (fun n => T (e * 6 + n)) (allS S))) ∧ Below w.heap.size w W' :=
  callsIn_wide.1 (iwatch1_in S hS e he8 T hTok hall pg w hT hTB)

end Go.Proofs.YtmlkpdeidpcidaaDoor
