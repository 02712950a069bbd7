/-
  Plain: what is seen of a machine hangs on its language alone. No program, no model.
  The walk of jalousieref1.Join, with what it hands back as its own.
  Plain: what a watcher knows, by the words that a plant does; who sees more knows no less. No program, no model.
-/
import Derived.Test.YtmimjpkllgjdkaaDoorG20
import Derived.Test.YtmimjpkllgjdkaaDoorG15
import Derived.Test.YtmimjpkllgjdkaaDoorG04
import Derived.Test.YtmimjpkllgjdkaaDoorG26
import Derived.Test.YtmimjpkllgjdkaaDoorG07
import Derived.Test.YtmimjpkllgjdkaaDoorG30
namespace Go.Proofs.YtmimjpkllgjdkaaDoor
open Go.RowKit
set_option linter.unusedVariables false
set_option linter.unusedSectionVars false

theorem afterL_app (ars : List Arr) (ss a b : List Int) : afterL ars ss (a ++ b) = afterL ars (afterL ars ss a) b := by
  unfold afterL; rw [List.foldl_append]
theorem step_mono {ars : List Arr} {ss ss' : List Int} {e : Int} (h : ∀ x ∈ ss, x ∈ ss') : ∀ x ∈ stepL ars ss e, x ∈ stepL ars ss' e := fun x hx => by
  obtain ⟨a, h1, h2, h3, h4⟩ := (mem_stepL _ _ _ _).1 hx
  exact (mem_stepL _ _ _ _).2 ⟨a, h1, h2, h _ h3, h4⟩
theorem after_mono {ars : List Arr} : ∀ (u : List Int) {ss ss' : List Int}, (∀ x ∈ ss, x ∈ ss') → ∀ x ∈ afterL ars ss u, x ∈ afterL ars ss' u
  | [], _, _, h => h
  | e :: u, ss, ss', h => after_mono u (ss := stepL ars ss e) (ss' := stepL ars ss' e) (step_mono h)
/-- A word of events of the machine's arrows, none of them seen. -/
def unW (ars : List Arr) (seen u : List Int) : Prop := ∀ e ∈ u, hasB seen e = false ∧ ∃ a ∈ ars, a.e = e
theorem wide_word {ars : List Arr} {seen ss : List Int} (hin : ∀ a ∈ ars, 0 ≤ a.t ∧ a.t < (256 : Nat)) {x : Int} (h : x ∈ wideL ars seen ss) : ∃ u, unW ars seen u ∧ x ∈ afterL ars ss u := by
  refine (mem_wide hin x).1 h (fun y => ∃ u, unW ars seen u ∧ y ∈ afterL ars ss u) ⟨fun y hy => ⟨[], by simp [unW], hy⟩, fun a ha hp => ?_⟩
  obtain ⟨u, h1, h2⟩ := hp
  obtain ⟨ha1, ha2⟩ := (mem_unseen _ _ _).1 ha
  refine ⟨u ++ [a.e], fun e he => ?_, ?_⟩
  · rcases List.mem_append.1 he with he | he
    · exact h1 e he
    · have : e = a.e := by simpa using he
      subst this; exact ⟨ha2, a, ha1, rfl⟩
  · rw [afterL_app]
    exact (mem_stepL _ _ _ _).2 ⟨a, ha1, rfl, h2, rfl⟩
end Go.Proofs.YtmimjpkllgjdkaaDoor
namespace Go.Proofs.YtmimjpkllgjdkaaDoor
open Go.RowKit
set_option linter.unusedVariables false

set_option maxHeartbeats 400000 in
theorem refJoin_own (a1 a2 : Option Addr) (c1 c2 : Nat) (xs ys : List Int) (w : World) (h1 : At w a1 xs) (h2 : At w a2 ys) (n1 : a1 = none → c1 = 0) (n2 : a2 = none → c2 = 0) (l1 : xs.length ≤ 4398046511104) (l2 : ys.length ≤ 4398046511104) :
    Calls Tryd.prog 50 #[.slice a1 xs.length c1, .slice a2 ys.length c2] w fun e w' => GivesO w (srt (xs ++ ys)) e w' := by
  obtain ⟨i0, hi, hz0, hz1, hz2⟩ := info_parts Tryd.infoInt
  have N1 : Hid (a1 = none → c1 = 0) := n1
  have N2 : Hid (a2 = none → c2 = 0) := n2
  clear n1 n2
  go_enter Tryd.func50, Tryd.ntmps50
  have o0 : Own (w.alloc (.cells #[] 3)) w.heap.size (.slice (some ⟨w.heap.size, 0, none⟩) 0 0) [] := own_empty w
  have b0 : Below w.heap.size w (w.alloc (.cells #[] 3)) := (Below.refl _ _).alloc (Nat.le_refl _) _
  have a1' : At (w.alloc (.cells #[] 3)) a1 xs := h1.below b0 (Nat.le_refl _)
  go_wp2_with (at_builtin; refine wpList_append_ints _ rfl (.tmp 6) (.tmp 7) 22 rfl w.heap.size i0 Tryd.underlying22 hi hz0 hz1 hz2 _ [] rfl o0 a1 c1 xs rfl a1' N1.out (by simp only [List.length_nil]; omega) (by simp) ?_)
  intro v1 w1 o1 b1 z1
  have bb1 : Below w.heap.size w w1 := b0.trans b1
  have a2' : At w1 a2 ys := h2.below bb1 (Nat.le_refl _)
  clear o0 a1' b1 b0
  go_wp2_with (at_builtin; refine wpList_append_ints _ rfl (.tmp 8) (.tmp 9) 22 rfl w.heap.size i0 Tryd.underlying22 hi hz0 hz1 hz2 _ xs rfl o1 a2 c2 ys rfl a2' N2.out (by omega) z1 ?_)
  intro v2 w2 o2 b2 z2
  have bb2 : Below w.heap.size w w2 := bb1.trans b2
  clear o1 a2' b2 bb1
  obtain ⟨a3, c3, rfl, h3, l3⟩ := o2.at
  clear o2
  have HL : Hid ((xs ++ ys).length ≤ 17592186044416) := by show _ ≤ _; rw [List.length_append]; omega
  generalize hz : xs ++ ys = zs at *
  have HZ : Hid (xs ++ ys = zs) := hz
  clear hz
  go_wp2_with fail
  refine (sorted_own a3 c3 zs _ h3 HL.out).mono ?_
  rintro e w3 ⟨v4, rfl, o4, b4⟩
  have bb3 : Below w.heap.size w w3 := bb2.trans (b4.mono bb2.size)
  have O4 : Hid (Own w3 w.heap.size v4 (srt zs)) := Own.low o4 bb2.size
  clear o4
  go_wp2
  go_ret
  have hz := HZ.out
  subst hz
  exact ⟨_, rfl, O4.out, bb3⟩

end Go.Proofs.YtmimjpkllgjdkaaDoor
namespace Go.Proofs.YtmimjpkllgjdkaaDoor
open Go.RowKit
set_option linter.unusedVariables false

theorem step_of1 {ars : List Arr} {ss : List Int} {e x : Int} (h : x ∈ stepL ars ss e) : ∃ y ∈ ss, x ∈ stepL ars [y] e := by
  obtain ⟨a, h1, h2, h3, h4⟩ := (mem_stepL _ _ _ _).1 h
  exact ⟨a.f, h3, (mem_stepL _ _ _ _).2 ⟨a, h1, h2, by simp, h4⟩⟩
theorem after_one {ars : List Arr} : ∀ (u : List Int) {ss : List Int} {x : Int}, x ∈ afterL ars ss u → ∃ y ∈ ss, x ∈ afterL ars [y] u
  | [], ss, x, h => ⟨x, h, by simp [afterL]⟩
  | e :: u, ss, x, h => by
    obtain ⟨y, hy, h1⟩ := after_one u (ss := stepL ars ss e) h
    obtain ⟨z, hz, h2⟩ := step_of1 hy
    exact ⟨z, hz, after_mono u (ss := [y]) (ss' := stepL ars [z] e) (fun q hq => by rw [List.mem_singleton.1 hq]; exact h2) x h1⟩
theorem seen_un {ars : List Arr} {seen u : List Int} (h : unW ars seen u) : seenL seen u = [] := by
  unfold seenL
  rw [List.filter_eq_nil_iff]
  intro e he
  rw [(h e he).1]; simp
theorem seen_app (seen a b : List Int) : seenL seen (a ++ b) = seenL seen a ++ seenL seen b := by unfold seenL; rw [List.filter_append]
section
variable {p : Plant}
theorem fold_word (hm : mayB p.m = true) : ∀ (u : List Int) {S : List Int} {x : Int}, (∀ e ∈ u, e ∈ p.seen) → x ∈ u.foldl (seeL p) S → ∃ t, seenL p.seen t = u ∧ x ∈ afterL p.m.arrows S t
  | [], S, x, _, h => ⟨[], rfl, h⟩
  | e :: u, S, x, hu, h => by
    obtain ⟨t, h1, h2⟩ := fold_word hm u (S := seeL p S e) (fun z hz => hu z (by simp [hz])) h
    obtain ⟨y, hy, h3⟩ := after_one t h2
    obtain ⟨c, hc, h4⟩ := wide_word (may_to hm) hy
    refine ⟨e :: (c ++ t), ?_, ?_⟩
    · have he : hasB p.seen e = true := (hasB_iff _ _).2 (hu e (by simp))
      rw [show e :: (c ++ t) = [e] ++ (c ++ t) from rfl, seen_app, seen_app, seen_un hc, h1]
      unfold seenL
      rw [List.filter_cons_of_pos (by rw [he]; rfl)]; rfl
    · show x ∈ afterL p.m.arrows (stepL p.m.arrows S e) (c ++ t)
      rw [afterL_app]
      exact after_mono t (ss := [y]) (fun q hq => by rw [List.mem_singleton.1 hq]; exact h4) x h3
theorem word_fold (hm : mayB p.m = true) : ∀ (t : List Int) {S S' : List Int} {x : Int}, (∀ y ∈ S, y ∈ S') → ClS p S' → x ∈ afterL p.m.arrows S t → x ∈ (seenL p.seen t).foldl (seeL p) S'
  | [], S, S', x, h, _, hx => h x hx
  | e :: t, S, S', x, h, hc, hx => by
    have hx : x ∈ afterL p.m.arrows (stepL p.m.arrows S e) t := hx
    cases he : hasB p.seen e with
    | true =>
      have e1 : seenL p.seen (e :: t) = e :: seenL p.seen t := by unfold seenL; rw [List.filter_cons_of_pos (by rw [he]; rfl)]
      rw [e1, List.foldl_cons]
      exact word_fold hm t (S' := seeL p S' e) (fun y hy => wide_sub (may_to hm) y (step_mono h y hy)) (cl_wide hm _) hx
    | false =>
      have e1 : seenL p.seen (e :: t) = seenL p.seen t := by unfold seenL; rw [List.filter_cons_of_neg (by rw [he]; simp)]
      rw [e1]
      refine word_fold hm t (fun y hy => ?_) hc hx
      obtain ⟨a, h1, h2, h3, h4⟩ := (mem_stepL _ _ _ _).1 hy
      rw [← h4]
      exact hc a h1 (by rw [h2]; exact he) (h _ h3)
/-- What is known is where a word leads of which just that is seen. -/
theorem mem_from (hm : mayB p.m = true) {ss u : List Int} (hu : ∀ e ∈ u, e ∈ p.seen) (x : Int) : x ∈ fromL p ss u ↔ ∃ t, seenL p.seen t = u ∧ x ∈ afterL p.m.arrows ss t := by
  constructor
  · intro h
    obtain ⟨t, h1, h2⟩ := fold_word hm u hu h
    obtain ⟨y, hy, h3⟩ := after_one t h2
    obtain ⟨c, hc, h4⟩ := wide_word (may_to hm) hy
    refine ⟨c ++ t, by rw [seen_app, seen_un hc, h1]; rfl, ?_⟩
    rw [afterL_app]
    exact after_mono t (ss := [y]) (fun q hq => by rw [List.mem_singleton.1 hq]; exact h4) x h3
  · rintro ⟨t, rfl, h⟩
    exact word_fold hm t (fun y hy => wide_sub (may_to hm) y hy) (cl_wide hm _) h
theorem seen_mem (seen t : List Int) : ∀ e ∈ seenL seen t, e ∈ seen := fun e he => by
  unfold seenL at he
  have := (List.mem_filter.1 he).2
  exact (hasB_iff _ _).1 (by simpa using this)
theorem seen_seen {a b : List Int} (h : ∀ e ∈ a, e ∈ b) (t : List Int) : seenL a (seenL b t) = seenL a t := by
  unfold seenL
  rw [List.filter_filter]
  refine List.filter_congr (fun e _ => ?_)
  cases he : hasB a e with
  | false => simp
  | true =>
    have : hasB b e = true := (hasB_iff _ _).2 (h e ((hasB_iff _ _).1 he))
    rw [this]; rfl
theorem leakB_iff (secret row : List Int) : leakB secret row = true ↔ (∃ x, x ∈ row) ∧ ∀ x ∈ row, x ∈ secret := by
  unfold leakB
  rw [Bool.and_eq_true, decide_eq_true_eq, decide_eq_true_eq, pos_mem]
  refine and_congr Iff.rfl ?_
  rw [List.length_eq_zero_iff, List.filter_eq_nil_iff]
  refine forall_congr' fun x => forall_congr' fun hx => ?_
  rw [← hasB_iff]
  cases hasB secret x <;> simp

variable {q : Plant}
/-- What more is seen of a list tells no more of where it leads. -/
theorem from_sub (hq : q.m = p.m) (hs : ∀ e ∈ p.seen, e ∈ q.seen) (hm : mayB p.m = true) {ss u : List Int} (hu : ∀ e ∈ u, e ∈ q.seen) {x : Int} (h : x ∈ fromL q ss u) : x ∈ fromL p ss (seenL p.seen u) := by
  obtain ⟨t, h1, h2⟩ := (mem_from (p := q) (by rw [hq]; exact hm) hu x).1 h
  rw [hq] at h2
  exact (mem_from hm (seen_mem _ _) x).2 ⟨t, by rw [← h1, seen_seen hs], h2⟩
theorem cur_more (hq : q.m = p.m) (hs : ∀ e ∈ p.seen, e ∈ q.seen) (hc : q.secret = p.secret) (hm : mayB p.m = true) {u : List Int} (hu : ∀ e ∈ u, e ∈ p.seen) (h : leakB p.secret (estL p u) = true) : ∃ u', (∀ e ∈ u', e ∈ q.seen) ∧ leakB q.secret (estL q u') = true := by
  obtain ⟨⟨x, hx⟩, hall⟩ := (leakB_iff _ _).1 h
  obtain ⟨t, h1, h2⟩ := (mem_from hm hu x).1 hx
  refine ⟨seenL q.seen t, seen_mem _ _, (leakB_iff _ _).2 ⟨⟨x, ?_⟩, fun y hy => ?_⟩⟩
  · have e : q.m.starts = p.m.starts := by rw [hq]
    unfold estL
    rw [e]
    exact (mem_from (p := q) (by rw [hq]; exact hm) (seen_mem _ _) x).2 ⟨t, rfl, by rw [hq]; exact h2⟩
  · rw [hc]
    unfold estL at hy
    have := from_sub hq hs hm (seen_mem _ _) hy
    rw [seen_seen hs, h1, hq] at this
    exact hall y this
theorem beg_more (hq : q.m = p.m) (hs : ∀ e ∈ p.seen, e ∈ q.seen) (hc : q.secret = p.secret) (hm : mayB p.m = true) {u : List Int} (hu : ∀ e ∈ u, e ∈ p.seen) (h : leakB p.secret (beganL p u) = true) : ∃ u', (∀ e ∈ u', e ∈ q.seen) ∧ leakB q.secret (beganL q u') = true := by
  have mb : ∀ (r : Plant) (v : List Int) (s : Int), s ∈ beganL r v ↔ s ∈ r.m.starts ∧ ∃ y, y ∈ fromL r [s] v := fun r v s => by
    unfold beganL
    rw [List.mem_filter, decide_eq_true_eq, pos_mem]
  obtain ⟨⟨x, hx⟩, hall⟩ := (leakB_iff _ _).1 h
  obtain ⟨hx1, y, hy⟩ := (mb p u x).1 hx
  obtain ⟨t, h1, h2⟩ := (mem_from hm hu y).1 hy
  refine ⟨seenL q.seen t, seen_mem _ _, (leakB_iff _ _).2 ⟨⟨x, (mb q _ x).2 ⟨by rw [hq]; exact hx1, y, ?_⟩⟩, fun z hz => ?_⟩⟩
  · exact (mem_from (p := q) (by rw [hq]; exact hm) (seen_mem _ _) y).2 ⟨t, rfl, by rw [hq]; exact h2⟩
  · rw [hc]
    obtain ⟨z1, y', hy'⟩ := (mb q _ z).1 hz
    have := from_sub hq hs hm (seen_mem _ _) hy'
    rw [seen_seen hs, h1] at this
    exact hall z ((mb p u z).2 ⟨by rw [hq] at z1; exact z1, y', this⟩)
theorem was_more (hq : q.m = p.m) (hs : ∀ e ∈ p.seen, e ∈ q.seen) (hc : q.secret = p.secret) (hm : mayB p.m = true) {u v : List Int} (hu : ∀ e ∈ u, e ∈ p.seen) (hv : ∀ e ∈ v, e ∈ p.seen) (h : leakB p.secret (wasL p u v) = true) : ∃ u' v', (∀ e ∈ u', e ∈ q.seen) ∧ (∀ e ∈ v', e ∈ q.seen) ∧ leakB q.secret (wasL q u' v') = true := by
  obtain ⟨⟨x, hx⟩, hall⟩ := (leakB_iff _ _).1 h
  obtain ⟨hx1, y, hy⟩ := (mem_was p u v x).1 hx
  obtain ⟨t, h1, h2⟩ := (mem_from hm hu x).1 hx1
  obtain ⟨r, h3, h4⟩ := (mem_from hm hv y).1 hy
  have es : q.m.starts = p.m.starts := by rw [hq]
  refine ⟨seenL q.seen t, seenL q.seen r, seen_mem _ _, seen_mem _ _, (leakB_iff _ _).2 ⟨⟨x, (mem_was q _ _ x).2 ⟨?_, y, ?_⟩⟩, fun z hz => ?_⟩⟩
  · unfold estL
    rw [es]
    exact (mem_from (p := q) (by rw [hq]; exact hm) (seen_mem _ _) x).2 ⟨t, rfl, by rw [hq]; exact h2⟩
  · exact (mem_from (p := q) (by rw [hq]; exact hm) (seen_mem _ _) y).2 ⟨r, rfl, by rw [hq]; exact h4⟩
  · rw [hc]
    obtain ⟨z1, y', hy'⟩ := (mem_was q _ _ z).1 hz
    have k1 := from_sub hq hs hm (seen_mem _ _) hy'
    rw [seen_seen hs, h3] at k1
    unfold estL at z1
    have k2 := from_sub hq hs hm (seen_mem _ _) z1
    rw [seen_seen hs, h1, hq] at k2
    exact hall z ((mem_was p u v z).2 ⟨k2, y', k1⟩)
end
theorem top_short {p : Plant} (hp : mayP p = true) {more : List Int} (h : rowB p.m.ev more = true) : p.seen.length ≤ 256 ∧ more.length ≤ 256 := by
  obtain ⟨hm, z, hs, -⟩ := (mayP_iff p).1 hp
  have hz := mayB_size hm
  unfold sizeOk at hz
  have h1 := (rowB_iff _ (by omega) _).1 hs
  have h2 := (rowB_iff _ (by omega) _).1 h
  exact ⟨nodup_len 256 _ (inc_nodup h1.1) (fun x hx => by have := h1.2 x hx; omega), nodup_len 256 _ (inc_nodup h2.1) (fun x hx => by have := h2.2 x hx; omega)⟩
theorem top_join {p : Plant} (hp : mayP p = true) {more : List Int} (h : rowB p.m.ev more = true) : mayP ⟨p.m, srt (p.seen ++ more), p.secret⟩ = true ∧ ∀ e ∈ p.seen, e ∈ srt (p.seen ++ more) := by
  obtain ⟨hm, z, hs, ht⟩ := (mayP_iff p).1 hp
  have hz := mayB_size hm
  unfold sizeOk at hz
  have h1 := (rowB_iff _ (by omega) _).1 hs
  have h2 := (rowB_iff _ (by omega) _).1 h
  refine ⟨(mayP_iff _).2 ⟨hm, z, (rowB_iff _ (by show p.m.ev ≤ _; omega) _).2 ⟨inc_srt _, fun x hx => ?_⟩, ht⟩, fun e he => (mem_srt _ _).2 (List.mem_append_left _ he)⟩
  rcases List.mem_append.1 ((mem_srt _ _).1 hx) with q | q
  · exact h1.2 x q
  · exact h2.2 x q
/-- I3, J2, K2: who sees more finds whatever is found. -/
theorem top_seen {p q : Plant} (hp : mayP p = true) (hpq : mayP q = true) (hq : q.m = p.m) (hs : ∀ e ∈ p.seen, e ∈ q.seen) (hc : q.secret = p.secret) : ((outC p).isSome = true → (outC q).isSome = true) ∧ ((outI p).isSome = true → (outI q).isSome = true) ∧ ((outS p (-1)).isSome = true → (outS q (-1)).isSome = true) := by
  obtain ⟨hm, -⟩ := (mayP_iff p).1 hp
  refine ⟨fun h => ?_, fun h => ?_, fun h => ?_⟩
  · obtain ⟨v, hv⟩ := Option.isSome_iff_exists.1 h
    obtain ⟨k1, k2, -⟩ := outC_some hp hv
    obtain ⟨u', h1, h2⟩ := cur_more hq hs hc hm k2 k1
    cases ho : outC q with
    | some z => rfl
    | none => rw [outC_none hpq ho u' h1] at h2; cases h2
  · obtain ⟨v, hv⟩ := Option.isSome_iff_exists.1 h
    obtain ⟨k1, k2, -⟩ := outI_some hp hv
    obtain ⟨u', h1, h2⟩ := beg_more hq hs hc hm k2 k1
    cases ho : outI q with
    | some z => rfl
    | none => rw [outI_none hpq ho u' h1] at h2; cases h2
  · obtain ⟨⟨w, v⟩, hv⟩ := Option.isSome_iff_exists.1 h
    obtain ⟨k1, k2, k3, -⟩ := outS_some hp hv
    obtain ⟨u', v', h1, h2, h3⟩ := was_more hq hs hc hm k2 k3 k1
    cases ho : outS q (-1) with
    | some z => rfl
    | none => rw [outS_none hpq ho h1 h2 (fun h0 => by omega)] at h3; cases h3

end Go.Proofs.YtmimjpkllgjdkaaDoor
