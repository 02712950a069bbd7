/-
  Plain: whereabouts as sets of numbers, as package secret keeps them: a pair's number is 16 times its state, and the bits of its row. No program, no model.
  The walk of secret.others: the numbers below another one that are not in a list.
  What secret.Told must leave.
  Plain: what is seen of a machine, with the numbers that the seen events had: the least word by which it is not within the machine is the least list that tells. No program, no model.
  The walk of secret.renumbered: the arrows of a machine are changed where they lie.
  A map keyed by pairs of sets of states, and rows of places, as the model runs them.
  The walks of the closures of package within.
-/
import Derived.Test.YtgebfkmfhpcdhaaDoorI32
import Derived.Test.YtgebfkmfhpcdhaaDoorI15
import Derived.Test.YtgebfkmfhpcdhaaDoorI08
import Derived.Test.YtgebfkmfhpcdhaaDoorI14
import Derived.Test.YtgebfkmfhpcdhaaDoorI05
import Derived.Test.YtgebfkmfhpcdhaaDoorERQTold
import Derived.Test.YtgebfkmfhpcdhaaDoorI28
import Derived.Test.YtgebfkmfhpcdhaaDoorI26
import Derived.Test.YtgebfkmfhpcdhaaDoorI19
import Derived.Deep.RegionHeld3
import Derived.Test.YtgebfkmfhpcdhaaDoorI06
import Derived.Test.YtgebfkmfhpcdhaaDoorI17
import Derived.Test.YtgebfkmfhpcdhaaDoorI04
import Derived.Test.YtgebfkmfhpcdhaaDoorESetOps
namespace Go.Proofs.YtgebfkmfhpcdhaaDoor
open Go.RowKit
set_option linter.unusedVariables false
set_option linter.unusedSectionVars false

/-- All numbers below another one that are not in a list. -/
def othL (ev : Nat) (l : List Int) : List Int := (rngI ev).filter fun e => !hasB l e
theorem oth_seen (m : Mach) (high : List Int) : othL m.ev.toNat high = seenH m high := rfl
/-! Sets of states below 4, by their first word. -/
/-! All pairs. -/
/-! The pairs of states with one row. -/
/-! Where pairs lead to. -/

/-! What unseen events come to. -/

end Go.Proofs.YtgebfkmfhpcdhaaDoor
namespace Go.Proofs.YtgebfkmfhpcdhaaDoor
open Go.RowKit
set_option linter.unusedVariables false

theorem rngI_snoc (k : Nat) : rngI (k + 1) = rngI k ++ [(k : Int)] := by unfold rngI; rw [List.range_succ, List.map_append]; rfl
theorem oth_hit {l : List Int} {k : Nat} (h : hasB l (k : Int) = false) : othL (k + 1) l = othL k l ++ [(k : Int)] := by
  unfold othL
  rw [rngI_snoc, List.filter_append, List.filter_cons_of_pos (by rw [h]; rfl), List.filter_nil]
theorem oth_miss {l : List Int} {k : Nat} (h : hasB l (k : Int) = true) : othL (k + 1) l = othL k l := by
  unfold othL
  rw [rngI_snoc, List.filter_append, List.filter_cons_of_neg (by rw [h]; simp), List.filter_nil, List.append_nil]
theorem oth_len (k : Nat) (l : List Int) : (othL k l).length ≤ k := by
  unfold othL
  refine Nat.le_trans (List.length_filter_le _ _) ?_
  unfold rngI; simp

set_option maxHeartbeats 2000000 in
set_option maxRecDepth 100000 in
theorem others_any (ev : Nat) (a : Option Addr) (cap : Nat) (xs : List Int) (w : World) (he : ev ≤ 8) (hs : At w a xs) (hl : xs.length ≤ maxLen) :
    Calls Tryd.prog 98 #[.int .i64 ev, .slice a xs.length cap] w fun e w' => ∃ v, e = .returned v ∧ Own w' w.heap.size v (othL ev xs) ∧ Below w.heap.size w w' := by
  obtain ⟨i0, hi, hz0, hz1, hz2⟩ := info_parts Tryd.infoInt
  have HS := Hid.of hs
  have HL := Hid.of hl
  clear hs hl
  go_enter Tryd.func98, Tryd.ntmps98
  go_wp2
  go_loopw [5, 8] (fun v i wr => ∃ k : Nat, k ≤ ev ∧ i = .int .i64 k ∧ Own wr w.heap.size v (othL k xs) ∧ Below w.heap.size w wr) (fun _ i _ => ev - (intOf i).toNat)
  case atStart => exact ⟨0, Nat.zero_le _, rfl, own_nil _ _, Below.refl _ _⟩
  case round =>
    obtain ⟨k, hk, rfl, hown, hbel⟩ := hrel
    by_cases hlt : k < ev
    · have hll := oth_len k xs
      have hsz := hbel.size
      have hat := Hid.of (HS.out.below hbel (Nat.le_refl _))
      go_wp2_with fail
      refine (rowHas_any a cap xs k _ hat.out HL.out).mono ?_
      rintro e w1 ⟨rfl, rfl⟩
      by_cases hh : hasB xs (k : Int) = true
      · have r1 := hown
        rw [← oth_miss hh] at r1
        rw [hh]
        clear hown hh
        go_wp2
        go_roundw
        case rel => exact ⟨k + 1, by omega, by go_num, r1, hbel⟩
        case measure => simp [intOf]; omega
      · have hh : hasB xs (k : Int) = false := by simpa using hh
        have HH : Hid (hasB xs (k : Int) = false) := hh
        rw [hh]
        clear hh
        go_wp2_with (at_builtin; refine wpList_append_own _ rfl _ _ 22 rfl w.heap.size 3 i0 (.int .i64 0) 1 8 Tryd.underlying22 hi hz0 hz1 hz2 rfl (by decide) _ _ _ rfl (World.ownsRow.alloc hown _) ⟨w1.heap.size, 0, none⟩ 1 1 [.int .i64 (k : Int)] rfl rfl (cell_one_new _ _ _) (by intro u hu; simp at hu; subst hu; rfl) (by unfold maxLen; omega) (by omega) (by simp; omega) ?_)
        intro v' w2 hown' hgrow _
        obtain ⟨r1, r2, -⟩ := own_snoc hown hbel hsz hown' hgrow
        rw [← oth_hit HH.out] at r1
        clear hown' hgrow hown
        go_wp2
        go_roundw
        case rel => exact ⟨k + 1, by omega, by go_num, r1, r2⟩
        case measure => simp [intOf]; omega
    · have hke : k = ev := by omega
      subst hke
      go_wp2
      go_ret
      exact ⟨_, rfl, hown, hbel⟩

end Go.Proofs.YtgebfkmfhpcdhaaDoor
namespace Go.Proofs.YtgebfkmfhpcdhaaDoor
open Go.RowKit
set_option linter.unusedVariables false

/-- What Told answers (L2). -/
def tolOut (m : Mach) (high : List Int) : Bool × List Int × Int := if mayB m = true ∧ rowB m.ev high = true then (if m.st ≤ 6 then ((outT m high).isSome, (outT m high).getD [], 0) else (false, [], 1)) else (false, [], 2)
theorem tolOut_m {m : Mach} (h : mayB m = false) (high : List Int) : tolOut m high = (false, [], 2) := by unfold tolOut; rw [if_neg (by rw [h]; simp)]
theorem tolOut_r {m : Mach} {high : List Int} (h : rowB m.ev high = false) : tolOut m high = (false, [], 2) := by unfold tolOut; rw [if_neg (by rw [h]; simp)]
theorem tolOut_z {m : Mach} {high : List Int} (hm : mayB m = true) (hr : rowB m.ev high = true) (h : ¬ m.st ≤ 6) : tolOut m high = (false, [], 1) := by unfold tolOut; rw [if_pos ⟨hm, hr⟩, if_neg h]
theorem tolOut_ok {m : Mach} {high : List Int} (hm : mayB m = true) (hr : rowB m.ev high = true) (h : m.st ≤ 6) : tolOut m high = ((outT m high).isSome, (outT m high).getD [], 0) := by unfold tolOut; rw [if_pos ⟨hm, hr⟩, if_pos h]

end Go.Proofs.YtgebfkmfhpcdhaaDoor
namespace Go.Proofs.YtgebfkmfhpcdhaaDoor
open Go.RowKit
set_option linter.unusedVariables false
set_option linter.unusedSectionVars false

def renA (low : List Int) (a : Arr) : Arr := ⟨a.f, low[a.e.toNat]?.getD 0, a.t⟩
def renM (low : List Int) (ev : Int) (n : Mach) : Mach := ⟨n.st, ev, n.starts, n.arrows.map (renA low), n.ends⟩
/-- What is seen of a machine, the low events being seen. -/
abbrev lowN (m : Mach) (high : List Int) : Mach := renM (seenH m high) m.ev (hideM m (seenH m high))
theorem nth_inc {l : List Int} (h : Inc l) {i j : Nat} (hj : j < l.length) (hij : i < j) : l[i]?.getD 0 < l[j]?.getD 0 := by
  rw [List.getElem?_eq_getElem (by omega), List.getElem?_eq_getElem hj, Option.getD_some, Option.getD_some]
  exact List.pairwise_iff_getElem.1 h i j (by omega) hj hij
theorem nth_inj {l : List Int} (h : Inc l) {i j : Nat} (hi : i < l.length) (hj : j < l.length) (e : l[i]?.getD 0 = l[j]?.getD 0) : i = j := by
  rcases Nat.lt_trichotomy i j with h1 | h1 | h1
  · have := nth_inc h hj h1; omega
  · exact h1
  · have := nth_inc h hi h1; omega
theorem nth_mem {l : List Int} {i : Nat} (hi : i < l.length) : l[i]?.getD 0 ∈ l := by
  rw [List.getElem?_eq_getElem hi, Option.getD_some]; exact List.getElem_mem hi
section
variable {m : Mach}
theorem low_row (hm : mayB m = true) (high : List Int) : rowB m.ev (seenH m high) = true := by
  have hz := mayB_size hm
  unfold sizeOk at hz
  refine (rowB_iff _ (by omega) _).2 ⟨inc_seenH m high, fun x hx => ?_⟩
  have := (mem_rng9 _ _).1 (List.mem_filter.1 hx).1
  omega
theorem low_lt (hm : mayB m = true) (high : List Int) : ∀ x ∈ seenH m high, 0 ≤ x ∧ x < m.ev := fun x hx => by
  have hz := mayB_size hm
  unfold sizeOk at hz
  have := (mem_rng9 _ _).1 (List.mem_filter.1 hx).1
  omega
theorem hide_ev (seen : List Int) {n : Nat} {a : Arr} (h : a ∈ hAll m seen n) : 0 ≤ a.e ∧ a.e < (seen.length : Int) := by
  obtain ⟨f, k, -, hk, hr⟩ := (mem_hAll _ _ _ _).1 h
  obtain ⟨t, -, rfl⟩ := (mem_hRow _ _ _ _ _).1 hr
  dsimp only
  omega
/-- It may be. -/
theorem may_low (hm : mayB m = true) {high : List Int} (z : (hAll m (seenH m high) m.st.toNat).length ≤ 4096) : mayB (lowN m high) = true := by
  have hz := mayB_size hm
  unfold sizeOk at hz
  have hN := may_hide hm (low_row hm high) z
  have hi := inc_seenH m high
  have h1 : mayB (lowN m high) = arrsFrom m.st m.ev none ((hAll m (seenH m high) m.st.toNat).map (renA (seenH m high))) := mayB_go (m := lowN m high) ⟨hz.1, hz.2.1, hz.2.2.1, hz.2.2.2.1, by show ((hAll m (seenH m high) m.st.toNat).map (renA (seenH m high))).length ≤ 4096; rw [List.length_map]; exact z⟩ (by have := mayB_starts hN; exact this) (by have := mayB_ends hN; exact this)
  rw [h1, arrsFrom_iff]
  have ha := may_arrs hN
  refine ⟨fun a h => ?_, ?_, fun _ _ => rfl⟩
  · obtain ⟨b, hb, rfl⟩ := List.mem_map.1 h
    have hb1 := ha b hb
    have hb2 := hide_ev _ hb
    have hb3 := low_lt hm high _ (nth_mem (l := seenH m high) (i := b.e.toNat) (by omega))
    have e1 : (hideM m (seenH m high)).st = m.st := rfl
    rw [e1] at hb1
    exact ⟨hb1.1, hb1.2.1, hb1.2.2.1, hb1.2.2.2.1, hb3.1, hb3.2⟩
  · show ((hAll m (seenH m high) m.st.toNat).map (renA (seenH m high))).Pairwise _
    rw [List.pairwise_map]
    refine List.Pairwise.imp_of_mem ?_ (incA_hAll m (seenH m high) m.st.toNat)
    intro a b h h' hab
    have e1 := hide_ev _ h
    have e2 := hide_ev _ h'
    unfold aheadB at hab ⊢
    unfold renA
    dsimp only
    by_cases hf : a.f = b.f
    · rw [if_pos hf] at hab ⊢
      by_cases he : a.e = b.e
      · rw [if_pos he] at hab
        rw [if_pos (by rw [he])]; exact hab
      · rw [if_neg he] at hab
        have hlt := of_decide_eq_true hab
        have := nth_inc hi (i := a.e.toNat) (j := b.e.toNat) (by omega) (by omega)
        rw [if_neg (by omega)]
        exact decide_eq_true this
    · rw [if_neg hf] at hab ⊢; exact hab
/-- A low event leads on as what is known does. -/
theorem low_step (hm : mayB m = true) (high : List Int) {s : List Int} (hs : ClU (lowP m high) s) {e : Int} (he : e ∈ seenH m high) : stepL (lowN m high).arrows s e = seeL (lowP m high) s e := by
  obtain ⟨k, hk, rfl⟩ := List.mem_iff_getElem.1 he
  have h1 := hide_see (p := lowP m high) hm hs (k := k) hk
  unfold seeD at h1
  rw [show ((lowP m high).seen[k]?.getD 0) = (seenH m high)[k] by show ((seenH m high)[k]?.getD 0) = _; rw [List.getElem?_eq_getElem hk, Option.getD_some]] at h1
  rw [← h1]
  refine inc_ext (inc_srt _) (inc_srt _) fun x => ?_
  rw [mem_stepL, mem_stepL]
  constructor
  · rintro ⟨a, ha, g1, g2, g3⟩
    obtain ⟨b, hb, rfl⟩ := List.mem_map.1 ha
    have hbe := hide_ev _ hb
    have : b.e.toNat = k := nth_inj (inc_seenH m high) (by omega) hk (by
      rw [List.getElem?_eq_getElem hk, Option.getD_some]; exact g1)
    exact ⟨b, hb, by omega, g2, g3⟩
  · rintro ⟨b, hb, g1, g2, g3⟩
    refine ⟨renA (seenH m high) b, List.mem_map.2 ⟨b, hb, rfl⟩, ?_, g2, g3⟩
    show (seenH m high)[b.e.toNat]?.getD 0 = _
    rw [show b.e.toNat = k by omega, List.getElem?_eq_getElem hk, Option.getD_some]
theorem low_no (hm : mayB m = true) (high : List Int) {s : List Int} {e : Int} (he : ¬ e ∈ seenH m high) : stepL (lowN m high).arrows s e = [] := by
  rw [List.eq_nil_iff_forall_not_mem]
  intro x hx
  obtain ⟨a, ha, g1, -, -⟩ := (mem_stepL _ _ _ _).1 hx
  obtain ⟨b, hb, rfl⟩ := List.mem_map.1 ha
  have hbe := hide_ev _ hb
  refine he ?_
  rw [← g1]
  exact nth_mem (by omega)
theorem low_fold (hm : mayB m = true) (high : List Int) : ∀ (word s : List Int), ClU (lowP m high) s → (∀ e ∈ word, e ∈ seenH m high) → afterL (lowN m high).arrows s word = word.foldl (seeL (lowP m high)) s
  | [], s, _, _ => rfl
  | e :: r, s, hs, hw => by
    show afterL (lowN m high).arrows (stepL (lowN m high).arrows s e) r = _
    rw [low_step hm high hs (hw e (by simp)), List.foldl_cons]
    exact low_fold hm high r _ (clU_see (p := lowP m high) hm s e) (fun q hq => hw q (by simp [hq]))
theorem low_est (hm : mayB m = true) (high : List Int) {word : List Int} (hw : ∀ e ∈ word, e ∈ seenH m high) : afterL (lowN m high).arrows (lowN m high).starts word = estL (lowP m high) word :=
  low_fold hm high word _ (clU_start (p := lowP m high) hm) hw
theorem low_out (hm : mayB m = true) (high : List Int) : ∀ (word s : List Int), (∃ e ∈ word, ¬ e ∈ seenH m high) → afterL (lowN m high).arrows s word = []
  | [], s, h => by obtain ⟨e, he, -⟩ := h; cases he
  | e :: r, s, h => by
    show afterL (lowN m high).arrows (stepL (lowN m high).arrows s e) r = []
    by_cases he : e ∈ seenH m high
    · refine low_out hm high r _ ?_
      obtain ⟨q, hq, hn⟩ := h
      rcases List.mem_cons.1 hq with rfl | hq
      · exact absurd he hn
      · exact ⟨q, hq, hn⟩
    · rw [low_no hm high he]; exact afterL_nil _ r
theorem lowA_step (high : List Int) (s : List Int) {e : Int} (he : e ∈ seenH m high) : stepL (lowA m high) s e = stepL m.arrows s e := by
  have hn : hasB high e = false := by
    have := (List.mem_filter.1 he).2
    rwa [Bool.not_eq_true'] at this
  refine inc_ext (inc_srt _) (inc_srt _) fun x => ?_
  rw [mem_stepL, mem_stepL]
  constructor
  · rintro ⟨a, ha, g1, g2, g3⟩
    exact ⟨a, (List.mem_filter.1 ha).1, g1, g2, g3⟩
  · rintro ⟨a, ha, g1, g2, g3⟩
    exact ⟨a, List.mem_filter.2 ⟨ha, by rw [g1, hn]; rfl⟩, g1, g2, g3⟩
theorem lowA_after (high : List Int) : ∀ (word s : List Int), (∀ e ∈ word, e ∈ seenH m high) → afterL (lowA m high) s word = afterL m.arrows s word
  | [], s, _ => rfl
  | e :: r, s, hw => by
    show afterL (lowA m high) (stepL (lowA m high) s e) r = afterL m.arrows (stepL m.arrows s e) r
    rw [lowA_step high s (hw e (by simp))]
    exact lowA_after high r _ (fun q hq => hw q (by simp [hq]))
/-- A low list is between, if it tells. -/
theorem betw_low (hm : mayB m = true) (high : List Int) {word : List Int} (hw : ∀ e ∈ word, e ∈ seenH m high) : betw (lowN m high) m word = tellW m high word := by
  unfold betw tellW acceptsB acceptsL
  rw [low_est hm high hw, lowA_after high word _ hw]
  congr 1
  rw [← decide_not]
  exact decide_eq_decide.2 (by omega)
theorem betw_out (hm : mayB m = true) (high : List Int) {word : List Int} (hw : ¬ ∀ e ∈ word, e ∈ seenH m high) : betw (lowN m high) m word = false := by
  have : ∃ e ∈ word, ¬ e ∈ seenH m high := by
    apply Classical.byContradiction
    intro hn
    exact hw (fun e he => Classical.byContradiction fun h => hn ⟨e, he, h⟩)
  unfold betw acceptsB acceptsL
  rw [low_out hm high word _ this]
  rfl
/-- L2, by what is within what. -/
theorem told_out (hm : mayB m = true) (zm : m.st ≤ 6) (high : List Int) (z : (hAll m (seenH m high) m.st.toNat).length ≤ 4096) : outW (lowN m high) m = outT m high := by
  have hL := may_low hm z
  have e1 : (lowN m high).ev = m.ev := rfl
  have z1 : (lowN m high).st ≤ 6 := zm
  cases hW : outW (lowN m high) m with
  | none =>
    cases hT : outT m high with
    | none => rfl
    | some v =>
      obtain ⟨t1, t2, -, -⟩ := outT_some hm zm high hT
      have := outW_none hL hm z1 zm hW v (fun e he => low_lt hm high e (t2 e he))
      rw [betw_low hm high t2, t1] at this; cases this
  | some v =>
    obtain ⟨w1, w2, -, w4⟩ := outW_some hL hm z1 zm hW
    have hv : ∀ e ∈ v, e ∈ seenH m high := Classical.byContradiction fun hn => by
      rw [betw_out hm high hn] at w1; cases w1
    rw [betw_low hm high hv] at w1
    cases hT : outT m high with
    | none =>
      have := outT_none hm zm high hT hv
      rw [w1] at this; cases this
    | some u =>
      obtain ⟨t1, t2, -, t4⟩ := outT_some hm zm high hT
      have h1 := t4 v hv w1
      have h2 := w4 u (fun e he => low_lt hm high e (t2 e he)) (by rw [betw_low hm high t2]; exact t1)
      by_cases e : v = u
      · rw [e]
      · rcases lessB_total e with h | h
        · rw [h] at h1; cases h1
        · rw [h] at h2; cases h2
end

end Go.Proofs.YtgebfkmfhpcdhaaDoor
namespace Go.Proofs.YtgebfkmfhpcdhaaDoor
open Go.RowKit
set_option linter.unusedVariables false

/-- The first k are numbered anew. -/
def rkL (low : List Int) (A : List Arr) (k : Nat) : List Arr := (A.take k).map (renA low) ++ A.drop k
theorem rkL_zero (low : List Int) (A : List Arr) : rkL low A 0 = A := by simp [rkL]
theorem rkL_all (low : List Int) (A : List Arr) {k : Nat} (h : A.length ≤ k) : rkL low A k = A.map (renA low) := by
  unfold rkL; rw [List.take_of_length_le h, List.drop_eq_nil_of_le h, List.append_nil]
theorem rkL_len (low : List Int) (A : List Arr) (k : Nat) : (rkL low A k).length = A.length := by
  unfold rkL; rw [List.length_append, List.length_map, List.length_take, List.length_drop]; omega
theorem rkL_at (low : List Int) {A : List Arr} {k : Nat} (h : k < A.length) : (rkL low A k)[k]? = A[k]? := by
  unfold rkL
  have : ((A.take k).map (renA low)).length = k := by rw [List.length_map, List.length_take]; omega
  rw [List.getElem?_append_right (by omega), this, Nat.sub_self, List.getElem?_drop]; rfl
theorem rkL_set (low : List Int) {A : List Arr} {k : Nat} (h : k < A.length) : (rkL low A k).set k (renA low (A[k]?.getD arr0)) = rkL low A (k + 1) := by
  have hl : ((A.take k).map (renA low)).length = k := by rw [List.length_map, List.length_take]; omega
  unfold rkL
  rw [List.set_append_right _ _ (by omega), hl, Nat.sub_self, List.drop_eq_getElem_cons h, List.set_cons_zero, List.take_add_one, List.getElem?_eq_getElem h, List.map_append, List.append_assoc]
  rfl
theorem aflat_set : ∀ {L : List Arr} {k : Nat} (h : k < L.length) (y : Int), (aflat L).set (k * 3 + 1) (.int .i64 y) = aflat (L.set k { L[k]?.getD arr0 with e := y })
  | [], k, h, y => by simp at h
  | a :: r, 0, h, y => rfl
  | a :: r, k + 1, h, y => by
    have ih := aflat_set (L := r) (k := k) (by simpa using h) y
    show (_ :: _ :: _ :: aflat r).set ((k + 1) * 3 + 1) _ = _ :: _ :: _ :: aflat _
    rw [show (k + 1) * 3 + 1 = (k * 3 + 1) + 1 + 1 + 1 by omega, List.set_cons_succ, List.set_cons_succ, List.set_cons_succ, ih]
    rfl
theorem ownA_set {W : World} {B g k n c : Nat} {low : List Int} {A : List Arr} (h : OwnA W B (.slice (some ⟨g, 0, none⟩) n c) (rkL low A k)) (hk : k < A.length) {y : Int} (hy : y = (renA low (A[k]?.getD arr0)).e) : OwnA (W.setCell ⟨g, k * 3 + 1, none⟩ (.int .i64 y)) B (.slice (some ⟨g, 0, none⟩) n c) (rkL low A (k + 1)) ∧ W.grownBy (W.setCell ⟨g, k * 3 + 1, none⟩ (.int .i64 y)) (some g) := by
  have hn : n = (rkL low A k).length := by
    rcases h.2 with ⟨h0, _⟩ | ⟨g', cap', cur, h0, _⟩
    · simp at h0
    · simp only [Value.slice.injEq] at h0; exact h0.2.1
  subst hn
  obtain ⟨h1, h2⟩ := World.ownsRow.stored h (k * 3 + 1) (.int .i64 y)
  refine ⟨?_, h2⟩
  rw [aflat_set (by rw [rkL_len]; exact hk) y] at h1
  have e2 : (rkL low A k).set k { (rkL low A k)[k]?.getD arr0 with e := y } = rkL low A (k + 1) := by
    rw [← rkL_set low hk, rkL_at low hk, hy]
    rfl
  rw [e2] at h1
  have e3 : (rkL low A (k + 1)).length = (rkL low A k).length := by rw [rkL_len, rkL_len]
  show World.ownsRow _ B _ 3 _ (rkL low A (k + 1)).length _
  rw [e3]; exact h1
theorem grown_trans {W W1 W2 : World} {row : Option Nat} (h : W.grownBy W1 row) (h' : W1.grownBy W2 row) : W.grownBy W2 row :=
  ⟨h'.os.trans h.os, h'.tape.trans h.tape, h'.output.trans h.output, Nat.le_trans h.size h'.size, fun k hk hn => (h'.block k (Nat.lt_of_lt_of_le hk h.size) hn).trans (h.block k hk hn)⟩
theorem grown_drew {W W1 : World} {row : Option Nat} (h : W.grownBy W1 row) : W.grownBy W1.drew row := ⟨h.os, h.tape, h.output, h.size, h.block⟩

theorem grown_on {w V W : World} {row : Option Nat} (h : Below w.heap.size w V) (g : V.grownBy W row) : w.grownBy W row :=
  ⟨g.os.trans h.os, g.tape.trans h.tape, g.output.trans h.output, Nat.le_trans h.size g.size, fun k hk hn => (g.block k (Nat.lt_of_lt_of_le hk h.size) hn).trans (h.block k hk)⟩
theorem grown_below {w W W' : World} {row : Option Nat} (g : w.grownBy W row) (h : Below w.heap.size W W') : w.grownBy W' row :=
  ⟨h.os.trans g.os, h.tape.trans g.tape, h.output.trans g.output, Nat.le_trans g.size h.size, fun k hk hn => (h.block k hk).trans (g.block k hk hn)⟩

set_option maxRecDepth 100000 in
set_option maxHeartbeats 16000000 in
theorem renum_go (st e0 : Int) (starts : List Int) (A : List Arr) (ends : List Int) (a1 : Option Addr) (c1 : Nat) (a2 : Option Addr) (c2 : Nat) (a3 : Option Addr) (c3 : Nat) (low : List Int) (la : Option Addr) (lc : Nat) (ev : Int) (B B' : Nat) (w : World) (hAl : A.length ≤ 4096) (hll : low.length ≤ 8) (hO : Hid (OwnA w B (.slice a2 A.length c2) A)) (hL : Hid (Own w B' (.slice la low.length lc) low)) (hE : Hid (∀ a ∈ A, 0 ≤ a.e ∧ a.e < (low.length : Int))) :
    Calls Tryd.prog 99 #[mval ⟨st, e0, starts, A, ends⟩ ⟨a1, c1, a2, c2, a3, c3⟩, .slice la low.length lc, .int .i64 ev] w fun e w' => e = .returned (mval (renM low ev ⟨st, e0, starts, A, ends⟩) ⟨a1, c1, a2, c2, a3, c3⟩) ∧ OwnA w' B (.slice a2 A.length c2) (A.map (renA low)) ∧ w.grownBy w' (Value.slice a2 A.length c2).ownBlock := by
  have BW : Hid (Below w.heap.size w ((w.alloc (.cells (mcells ⟨st, e0, starts, A, ends⟩ ⟨a1, c1, a2, c2, a3, c3⟩) 25)).alloc (.cells zcells 25))) := ((Below.refl _ _).alloc (Nat.le_refl _) _).alloc (by simp) _
  have KM : Hid (Blk ((w.alloc (.cells (mcells ⟨st, e0, starts, A, ends⟩ ⟨a1, c1, a2, c2, a3, c3⟩) 25)).alloc (.cells zcells 25)) w.heap.size 25 (mcells ⟨st, e0, starts, A, ends⟩ ⟨a1, c1, a2, c2, a3, c3⟩)) := (Blk.new w _ _).alloc _
  have KZ : Hid (Blk ((w.alloc (.cells (mcells ⟨st, e0, starts, A, ends⟩ ⟨a1, c1, a2, c2, a3, c3⟩) 25)).alloc (.cells zcells 25)) (w.heap.size + 1) 25 zcells) := by
    have := Blk.new (w.alloc (.cells (mcells ⟨st, e0, starts, A, ends⟩ ⟨a1, c1, a2, c2, a3, c3⟩) 25)) 25 zcells
    rwa [World.size_alloc] at this
  go_enter Tryd.func99, Tryd.ntmps99
  obtain ⟨x0, x1, x2, x3, x4⟩ := mcell_at KM.out
  dsimp only at x0 x1 x2 x3 x4
  go_wp2_with fail
  clear x0 x1 x2 x3 x4
  revert BW KM KZ
  generalize ((w.alloc (.cells (mcells ⟨st, e0, starts, A, ends⟩ ⟨a1, c1, a2, c2, a3, c3⟩) 25)).alloc (.cells zcells 25)) = V
  intro BW KM KZ
  have HO0 : Hid (OwnA V B (.slice a2 A.length c2) (rkL low A 0)) := by
    show OwnA _ _ _ _
    rw [rkL_zero]
    exact own_same hO.out (fun k hk => BW.out.block k (World.ownsRow.lt hO.out k hk).2)
  have HL0 : Hid (Own V B' (.slice la low.length lc) low) := own_same hL.out (fun k hk => BW.out.block k (World.ownsRow.lt hL.out k hk).2)
  have HLT : Hid (∀ k, (Value.slice a2 A.length c2).ownBlock = some k → k < w.heap.size) := fun k hk => (World.ownsRow.lt hO.out k hk).2
  have HG0 : Hid (V.grownBy V (Value.slice a2 A.length c2).ownBlock) := World.grownBy.refl _ _
  go_loopw [11] (fun vi wr => ∃ k : Nat, vi = .int .i64 k ∧ k ≤ A.length ∧ Hid (OwnA wr B (.slice a2 A.length c2) (rkL low A k)) ∧ Hid (V.grownBy wr (Value.slice a2 A.length c2).ownBlock)) (fun vi _ => A.length - (intOf vi).toNat)
  case atStart => exact ⟨0, rfl, Nat.zero_le _, HO0, HG0⟩
  case round =>
    clear HO0 HG0
    obtain ⟨k, rfl, hk, HO, HG⟩ := hrel
    have KM1 : Hid (Blk wr w.heap.size 25 (mcells ⟨st, e0, starts, A, ends⟩ ⟨a1, c1, a2, c2, a3, c3⟩)) := (HG.out.block _ KM.out.lt (fun e => Nat.lt_irrefl _ (HLT.out _ e.symm))).trans KM.out
    have KZ1 : Hid (Blk wr (w.heap.size + 1) 25 zcells) := (HG.out.block _ KZ.out.lt (fun e => by have := HLT.out _ e.symm; omega)).trans KZ.out
    by_cases hlt : k < A.length
    · rcases HO.out.forms with ⟨-, h0⟩ | ⟨g, cap, hv, hBg, hg, hc, -, -⟩
      · have := rkL_len low A k
        rw [h0] at this; simp at this; omega
      have hv2 : a2 = some ⟨g, 0, none⟩ := by
        have := congrArg (fun v => match v with | Value.slice a _ _ => a | _ => none) hv
        exact this
      subst hv2
      clear hv
      have hcA := hc k (by rw [rkL_len]; exact hlt)
      rw [rkL_at low hlt] at hcA
      obtain ⟨a, HA⟩ : ∃ a, Hid (a = A[k]?.getD arr0) := ⟨_, rfl⟩
      rw [← HA.out] at hcA
      have hae : 0 ≤ a.e ∧ a.e < (low.length : Int) := hE.out a (by have h2 := HA.out; rw [List.getElem?_eq_getElem hlt, Option.getD_some] at h2; rw [h2]; exact List.getElem_mem hlt)
      obtain ⟨q, hq⟩ : ∃ q : Nat, a.e = q := ⟨a.e.toNat, by omega⟩
      have hql : q < low.length := by omega
      have hqI : (q : Int) < (low.length : Int) := by omega
      have HL1 : Hid (Own wr B' (.slice la low.length lc) low) := own_same HL0.out (fun j hj => HG.out.block j (World.ownsRow.lt HL0.out j hj).2 (fun e => by
        obtain ⟨cs, h1⟩ := own_type HL0.out hj
        obtain ⟨cs2, h2⟩ := own_type HO.out e.symm
        have h3 := HG.out
        have h4 : (Value.slice (some ⟨g, 0, none⟩) A.length c2).ownBlock = some g := rfl
        rw [h4] at e
        have e := Option.some.inj e
        subst e
        have h5 := own_type (own_same hO.out (fun k hk => BW.out.block k (World.ownsRow.lt hO.out k hk).2) : World.ownsRow V _ _ _ _ _ _) h4
        obtain ⟨c5, h5⟩ := h5
        rw [h1] at h5
        cases h5))
      obtain ⟨la', lc', hla, hat, -⟩ := HL1.out.at
      have hla2 : la = la' := by
        have := congrArg (fun v => match v with | Value.slice a _ _ => a | _ => none) hla
        exact this
      subst hla2
      clear hla
      rcases hat with h0 | ⟨bl, ol, hbl, hblt, hcl⟩
      · rw [h0] at hql; simp at hql
      subst hbl
      obtain ⟨y, HY, hcy⟩ := hcl.at hql
      have HCE : Hid (wr.drew.cell? ⟨g, k * 3 + 1, none⟩ = some (.int .i64 (q : Int))) := by
        have := hcA.2.1
        rw [Nat.zero_add, hq] at this
        exact this
      have HYE : Hid (y = (renA low (A[k]?.getD arr0)).e) := by
        show _ = low[(A[k]?.getD arr0).e.toNat]?.getD 0
        rw [← HA.out, hq, Int.toNat_natCast]; exact HY.out
      obtain ⟨no, ng⟩ := ownA_set (W := wr.drew) (show OwnA wr.drew B (.slice (some ⟨g, 0, none⟩) A.length c2) (rkL low A k) from HO.out) hlt HYE.out
      have NO := Hid.of no
      have NG : Hid (V.grownBy (wr.drew.setCell ⟨g, k * 3 + 1, none⟩ (.int .i64 y)) (Value.slice (some ⟨g, 0, none⟩) A.length c2).ownBlock) := grown_trans (grown_drew HG.out) ng
      have HFZ : Hid (wr.drew.frozen? ⟨g, k * 3 + 1, none⟩ = false) := by
        obtain ⟨cs, h2⟩ := own_type HO.out (show (Value.slice (some ⟨g, 0, none⟩) A.length c2).ownBlock = some g from rfl)
        exact Blk.frozen (show Blk wr g 75 cs from h2) _
      have HGL : Hid (g < w.heap.size) := HLT.out g rfl
      have HBG : Hid (bl ≠ g) := fun e => by
        obtain ⟨cs, h2⟩ := own_type HO.out (show (Value.slice (some ⟨g, 0, none⟩) A.length c2).ownBlock = some g from rfl)
        obtain ⟨cs3, h3⟩ := own_type HL1.out (show (Value.slice (some ⟨bl, ol, none⟩) low.length lc).ownBlock = some bl from rfl)
        rw [e, h2] at h3; cases h3
      have SA : Hid (wr.drew.cell? ⟨w.heap.size, 3, none⟩ = some (.slice (some ⟨g, 0, none⟩) A.length c2) ∧ wr.drew.cell? ⟨bl, ol + q, none⟩ = some (.int .i64 y)) := ⟨(Blk.drew KM1.out).cell 3 rfl, hcy⟩
      have SA2 : Hid ((wr.drew.setCell ⟨g, k * 3 + 1, none⟩ (.int .i64 y)).cell? ⟨w.heap.size, 3, none⟩ = some (.slice (some ⟨g, 0, none⟩) A.length c2) ∧ (wr.drew.setCell ⟨g, k * 3 + 1, none⟩ (.int .i64 y)).cell? ⟨bl, ol + q, none⟩ = some (.int .i64 y)) := by
        refine ⟨((Blk.drew KM1.out).other (b' := g) (j := k * 3 + 1) (by have := HGL.out; omega) (.int .i64 y)).cell 3 rfl, ?_⟩
        have h1 : (wr.drew.setCell ⟨g, k * 3 + 1, none⟩ (.int .i64 y)).heap[bl]? = wr.drew.heap[bl]? := Below.heap_setCell wr.drew ⟨g, k * 3 + 1, none⟩ (.int .i64 y) bl HBG.out
        exact (World.cell?_of_block (a := ⟨bl, ol + q, none⟩) h1).trans hcy
      have hkI : (k : Int) < (A.length : Int) := by omega
      clear hcA hae hq hc hg hBg hcl hcy hblt no ng KZ1
      go_wp2_with fail
      refine wp_region_held_drew (S := fun w' => w'.cell? ⟨w.heap.size, 3, none⟩ = some (.slice (some ⟨g, 0, none⟩) A.length c2) ∧ w'.cell? ⟨bl, ol + q, none⟩ = some (.int .i64 y)) (by kernel_rfl) SA.out (fun hS => ?_)
      revert HCE NO NG HFZ SA SA2 hS
      generalize wr.drew = Y0
      intro HCE NO NG HFZ SA SA2 hS
      refine wpAnyH_take (i := 0) (v := .pointer (some ⟨w.heap.size, 3, none⟩)) rfl (by kernel_rfl) (by kernel_rfl) (by kernel_rfl) (fun _ _ _ h => h) (Or.inl ⟨by kernel_rfl, fun w' hw' => by obtain ⟨q0, q1⟩ := hw'; go_simp⟩) hS ?_
      refine wpAnyH_take (i := 1) (v := .slice (some ⟨g, 0, none⟩) A.length c2) rfl (by kernel_rfl) (by kernel_rfl) (by kernel_rfl) (fun _ _ _ h => h) (Or.inl ⟨by kernel_rfl, fun w' hw' => by obtain ⟨q0, q1⟩ := hw'; go_simp⟩) hS ?_
      refine wpAnyH_take (i := 2) (v := .int .i64 k) rfl (by kernel_rfl) (by kernel_rfl) (by kernel_rfl) (fun _ _ _ h => h) (Or.inl ⟨by kernel_rfl, fun w' hw' => by obtain ⟨q0, q1⟩ := hw'; go_simp⟩) hS ?_
      refine wpAnyH_take (i := 3) (v := .slice (some ⟨bl, ol, none⟩) low.length lc) rfl (by kernel_rfl) (by kernel_rfl) (by kernel_rfl) (fun _ _ _ h => h) (Or.inl ⟨by kernel_rfl, fun w' hw' => by obtain ⟨q0, q1⟩ := hw'; go_simp⟩) hS ?_
      refine wpAnyH_take (i := 4) (v := .pointer (some ⟨w.heap.size, 3, none⟩)) rfl (by kernel_rfl) (by kernel_rfl) (by kernel_rfl) (fun _ _ _ h => h) (Or.inl ⟨by kernel_rfl, fun w' hw' => by obtain ⟨q0, q1⟩ := hw'; go_simp⟩) hS ?_
      refine wpAnyH_take (i := 5) (v := .slice (some ⟨g, 0, none⟩) A.length c2) rfl (by kernel_rfl) (by kernel_rfl) (by kernel_rfl) (fun _ _ _ h => h) (Or.inl ⟨by kernel_rfl, fun w' hw' => by obtain ⟨q0, q1⟩ := hw'; go_simp⟩) hS ?_
      refine wpAnyH_take (i := 6) (v := .int .i64 k) rfl (by kernel_rfl) (by kernel_rfl) (by kernel_rfl) (fun _ _ _ h => h) (Or.inl ⟨by kernel_rfl, fun w' hw' => by obtain ⟨q0, q1⟩ := hw'; go_simp⟩) hS ?_
      refine wpAnyH_take (i := 7) (v := .pointer (some ⟨g, k * 3, none⟩)) rfl (by kernel_rfl) (by kernel_rfl) (by kernel_rfl) (fun _ _ _ h => h) (Or.inl ⟨by kernel_rfl, fun w' hw' => by obtain ⟨q0, q1⟩ := hw'; go_simp⟩) hS ?_
      refine wpAnyH_take (i := 8) (v := .pointer (some ⟨g, k * 3 + 1, none⟩)) rfl (by kernel_rfl) (by kernel_rfl) (by kernel_rfl) (fun _ _ _ h => h) (Or.inl ⟨by kernel_rfl, fun w' hw' => by obtain ⟨q0, q1⟩ := hw'; go_simp⟩) hS ?_
      simp only [Act.put, List.setIfInBounds_toArray]
      refine wpAnyH_ready (rs := [9]) (by kernel_rfl) (by simp) ?_
      refine AllReadyH.cons rfl (fun K' hK' => ?_) AllReadyH.nil
      clear hS
      have ce := HCE.out
      go_simp
      refine hK'.out _ _ (SA.out) (fun hS => ?_)
      clear hK' K' ce
      refine wpAnyH_take (i := 10) (v := .pointer (some ⟨bl, ol + q, none⟩)) rfl (by kernel_rfl) (by kernel_rfl) (by kernel_rfl) (fun _ _ _ h => h) (Or.inl ⟨by kernel_rfl, fun w' hw' => by obtain ⟨q0, q1⟩ := hw'; go_simp⟩) hS ?_
      refine wpAnyH_take (i := 11) (v := .int .i64 y) rfl (by kernel_rfl) (by kernel_rfl) (by kernel_rfl) (fun _ _ _ h => h) (Or.inl ⟨by kernel_rfl, fun w' hw' => by obtain ⟨q0, q1⟩ := hw'; go_simp⟩) hS ?_
      refine wpAnyH_take (i := 12) (v := .pointer (some ⟨g, k * 3, none⟩)) rfl (by kernel_rfl) (by kernel_rfl) (by kernel_rfl) (fun _ _ _ h => h) (Or.inl ⟨by kernel_rfl, fun w' hw' => by obtain ⟨q0, q1⟩ := hw'; go_simp⟩) hS ?_
      refine wpAnyH_take (i := 13) (v := .pointer (some ⟨g, k * 3 + 1, none⟩)) rfl (by kernel_rfl) (by kernel_rfl) (by kernel_rfl) (fun _ _ _ h => h) (Or.inl ⟨by kernel_rfl, fun w' hw' => by obtain ⟨q0, q1⟩ := hw'; go_simp⟩) hS ?_
      refine wpAnyH_ready (rs := [14]) (by kernel_rfl) (by simp) ?_
      refine AllReadyH.cons rfl (fun K' hK' => ?_) AllReadyH.nil
      clear hS
      have ce := HCE.out
      have fz := HFZ.out
      go_simp
      refine hK'.out _ _ SA2.out (fun hS => ?_)
      clear hK' K' ce fz hS
      refine wpAnyH_done (by kernel_rfl) ?_ _
      go_wp2_with fail
      go_roundw
      case rel => exact ⟨k + 1, by go_num, by omega, NO, NG⟩
      case measure => simp [intOf]; omega
    · have hke : k = A.length := by omega
      subst hke
      have NO : Hid (OwnA wr B (.slice a2 A.length c2) (A.map (renA low))) := by
        have := HO.out
        rw [rkL_all low A (Nat.le_refl _)] at this
        exact this
      obtain ⟨x0, x1, x2, x3, x4⟩ := mcell_at KM1.out
      dsimp only at x0 x1 x2 x3 x4
      have fm := KM1.out.frozen
      have K2 := Hid.of (KM1.out.set 1 (.int .i64 ev))
      have Z2 := Hid.of (KZ1.out.other (b' := w.heap.size) (j := 1) (by omega) (.int .i64 ev))
      have y0 : (wr.setCell ⟨w.heap.size, 1, none⟩ (.int .i64 ev)).cell? ⟨w.heap.size, 0, none⟩ = some (.int .i64 st) := K2.out.cell 0 rfl
      have y1 : (wr.setCell ⟨w.heap.size, 1, none⟩ (.int .i64 ev)).cell? ⟨w.heap.size, 1, none⟩ = some (.int .i64 ev) := K2.out.cell 1 rfl
      have y2 : (wr.setCell ⟨w.heap.size, 1, none⟩ (.int .i64 ev)).cell? ⟨w.heap.size, 2, none⟩ = some (.slice a1 starts.length c1) := K2.out.cell 2 rfl
      have y3 : (wr.setCell ⟨w.heap.size, 1, none⟩ (.int .i64 ev)).cell? ⟨w.heap.size, 3, none⟩ = some (.slice a2 A.length c2) := K2.out.cell 3 rfl
      have y4 : (wr.setCell ⟨w.heap.size, 1, none⟩ (.int .i64 ev)).cell? ⟨w.heap.size, 4, none⟩ = some (.slice a3 ends.length c3) := K2.out.cell 4 rfl
      obtain ⟨z0, z1, z2, z3, z4⟩ := zcell_at Z2.out
      have fz := Z2.out.frozen
      have RR := Hid.of (Z2.out.set5 (.int .i64 st) (.int .i64 ev) (.slice a1 starts.length c1) (.slice a2 A.length c2) (.slice a3 ends.length c3))
      have BF : Hid (Below w.heap.size wr _) := below_set5 ((Below.refl w.heap.size wr).setCell (p := ⟨w.heap.size, 1, none⟩) (Nat.le_refl _) (.int .i64 ev)) (b' := w.heap.size + 1) (by omega) (.int .i64 st) (.int .i64 ev) (.slice a1 starts.length c1) (.slice a2 A.length c2) (.slice a3 ends.length c3)
      have GW : Hid (w.grownBy wr (Value.slice a2 A.length c2).ownBlock) := grown_on BW.out HG.out
      have GF := Hid.of (grown_below GW.out BF.out)
      have NF := Hid.of (own_same NO.out (fun k hk => BF.out.block k (HLT.out k hk)))
      clear K2 Z2 KM1 KZ1 HO HG BW GW BF
      have hil : ¬ A.length < A.length := Nat.lt_irrefl _
      go_wp2_with fail
      obtain ⟨r0, r1, r2, r3, r4⟩ := mcell_at (m := renM low ev ⟨st, e0, starts, A, ends⟩) (l := ⟨a1, c1, a2, c2, a3, c3⟩) (by have := RR.out; show Blk _ _ _ _; unfold renM; dsimp only [mcells]; rw [List.length_map]; exact this)
      refine bodyPost_ret (v := mval (renM low ev ⟨st, e0, starts, A, ends⟩) ⟨a1, c1, a2, c2, a3, c3⟩) ?_ rfl ⟨rfl, NF.out, GF.out⟩
      simp [results, go_sem, r0, r1, r2, r3, r4]

end Go.Proofs.YtgebfkmfhpcdhaaDoor
namespace Go.Proofs.YtgebfkmfhpcdhaaDoor
open Go.RowKit
set_option linter.unusedVariables false

/-- A pair of sets. -/
structure SP where
  a : Nat → Nat
  b : Nat → Nat
abbrev spcells (P : SP) : Array Value := #[.int .u64 (P.a 0), .int .u64 (P.a 1), .int .u64 (P.a 2), .int .u64 (P.a 3), .int .u64 (P.b 0), .int .u64 (P.b 1), .int .u64 (P.b 2), .int .u64 (P.b 3)]
abbrev spval (P : SP) : Value := .agg (spcells P)
def eqSP (P Q : SP) : Prop := eqS P.a Q.a ∧ eqS P.b Q.b
/-- The pair stands for two lists, which rise. -/
structure RepSP (P : SP) (s : List Int × List Int) : Prop where
  ra : Rep P.a s.1
  rb : Rep P.b s.2
  ia : Inc s.1
  ib : Inc s.2
theorem eqSP_iff {P Q : SP} {s t : List Int × List Int} (h : RepSP P s) (h' : RepSP Q t) : eqSP P Q ↔ s = t := by
  unfold eqSP
  rw [eqS_iff h.ra h'.ra h.ia h'.ia, eqS_iff h.rb h'.rb h.ib h'.ib]
  constructor
  · rintro ⟨h1, h2⟩; exact Prod.ext h1 h2
  · rintro rfl; exact ⟨rfl, rfl⟩
/-- A place: its pair, from where it was found, at which event. -/
structure PlW where
  sp : SP
  fr : Nat
  ev : Nat

theorem rowSP : (103 : TypeId) < Tryd.prog.types.size := of_decide_eq_true (by kernel_rfl)
theorem wideSP : (match Tryd.prog.underlying 103 with | some (.array _ _) | some (.struct _) => true | _ => false) = true := by kernel_rfl
set_option maxRecDepth 100000 in
theorem lawSP : WideMaps.KeyLaw Tryd.prog 103 := deep_law_laid laidOutS (m := 5) (by omega) rowSP (by kernel_rfl) wideSP
set_option maxRecDepth 100000 in
theorem keySP {P : SP} (h : okS P.a) (h' : okS P.b) : ∃ l, keyOf Tryd.prog 103 (spval P) = some l := by
  have h0 := wf_u64 (h 0)
  have h1 := wf_u64 (h 1)
  have h2 := wf_u64 (h 2)
  have h3 := wf_u64 (h 3)
  have k0 := wf_u64 (h' 0)
  have k1 := wf_u64 (h' 1)
  have k2 := wf_u64 (h' 2)
  have k3 := wf_u64 (h' 3)
  have hk : Tryd.prog.keyType 103 = true := by kernel_rfl
  have hp : Tryd.prog.cellsOf 103 = 8 := by kernel_rfl
  have hc : Tryd.prog.cellsOf 79 = 4 := by kernel_rfl
  have hci : Tryd.prog.cellsOf 77 = 1 := by kernel_rfl
  have hs : ∃ m, Tryd.prog.types.size = m + 1 + 1 := ⟨Tryd.prog.types.size - 2, by have : 2 ≤ Tryd.prog.types.size := of_decide_eq_true (by kernel_rfl); omega⟩
  obtain ⟨m, hm⟩ := hs
  unfold keyOf
  simp only [Tryd.underlying103]
  rw [if_pos (by simp [hk, Value.formed, Tryd.underlying103, hp]), hm]
  unfold Program.keyLits
  simp only [Tryd.underlying103, Value.cells]
  have hr : List.range 4 = [0, 1, 2, 3] := rfl
  simp [hp, hc, hci, Program.keyLits, Tryd.underlying79, Tryd.underlying77, hr, h0, h1, h2, h3, k0, k1, k2, k3]
theorem spval_eq {P Q : SP} (h : spval P = spval Q) : eqSP P Q := by
  simp at h
  obtain ⟨h0, h1, h2, h3, h4, h5, h6, h7⟩ := h
  exact ⟨⟨by omega, by omega, by omega, by omega⟩, ⟨by omega, by omega, by omega, by omega⟩⟩
theorem eqSP_val {P Q : SP} (h : eqSP P Q) : spval P = spval Q := by
  obtain ⟨⟨h0, h1, h2, h3⟩, ⟨h4, h5, h6, h7⟩⟩ := h
  show Value.agg #[_, _, _, _, _, _, _, _] = Value.agg #[_, _, _, _, _, _, _, _]
  rw [h0, h1, h2, h3, h4, h5, h6, h7]
def entW (k : Nat) (p : PlW) : MapEntry := { key := spval p.sp, val := .agg #[], born := k }
def entsW (L : List PlW) : Array MapEntry := (L.mapIdx entW).toArray
theorem entsW_snoc (L : List PlW) (p : PlW) : entsW (L ++ [p]) = (entsW L).push (entW L.length p) := by
  unfold entsW; rw [List.mapIdx_concat]; simp
/-- The places stand for what has been found, one by one. -/
structure RepPL (L : List PlW) (l : List ((List Int × List Int) × List Int)) : Prop where
  len : L.length = l.length
  rep : ∀ (k : Nat) (p : PlW), L[k]? = some p → ∃ x, l[k]? = some x ∧ RepSP p.sp x.1
theorem RepPL.at {L : List PlW} {l : List ((List Int × List Int) × List Int)} (h : RepPL L l) {k : Nat} {x : (List Int × List Int) × List Int} (hk : l[k]? = some x) : ∃ p, L[k]? = some p ∧ RepSP p.sp x.1 := by
  have hlt := (List.getElem?_eq_some_iff.1 hk).1
  have hlt' : k < L.length := by rw [h.len]; exact hlt
  obtain ⟨y, h1, h2⟩ := h.rep k _ (List.getElem?_eq_getElem hlt')
  rw [hk] at h1
  have h1 := Option.some.inj h1
  subst h1
  exact ⟨_, List.getElem?_eq_getElem hlt', h2⟩
theorem RepPL.snoc {L : List PlW} {l : List ((List Int × List Int) × List Int)} (h : RepPL L l) {p : PlW} {x : (List Int × List Int) × List Int} (hr : RepSP p.sp x.1) : RepPL (L ++ [p]) (l ++ [x]) := by
  refine ⟨by simp [h.len], fun k q hk => ?_⟩
  by_cases hlt : k < L.length
  · rw [List.getElem?_append_left hlt] at hk
    obtain ⟨y, h1, h2⟩ := h.rep k q hk
    exact ⟨y, by rw [List.getElem?_append_left (by rw [← h.len]; exact hlt)]; exact h1, h2⟩
  · have hk' := (List.getElem?_eq_some_iff.1 hk).1
    simp at hk'
    have e : k = L.length := by omega
    subst e
    rw [List.getElem?_append_right (Nat.le_refl _)] at hk
    have : p = q := by simpa using hk
    subst this
    exact ⟨x, by rw [h.len, List.getElem?_append_right (Nat.le_refl _)]; simp, hr⟩
theorem RepPL.one {p : PlW} {x : (List Int × List Int) × List Int} (hr : RepSP p.sp x.1) : RepPL [p] [x] := RepPL.snoc (L := []) (l := []) ⟨rfl, fun k S h => by simp at h⟩ hr
theorem find_sp {L : List PlW} {l : List ((List Int × List Int) × List Int)} (hR : RepPL L l) {P : SP} {s : List Int × List Int} (hr : RepSP P s) (w : World) :
    (knownB l s = true ∧ ∃ j, (Instr.findKey 103 (spval P) (entsW L).toList).run Tryd.prog w = .ok (some (j, .agg #[])) w) ∨ (knownB l s = false ∧ (Instr.findKey 103 (spval P) (entsW L).toList).run Tryd.prog w = .ok none w) := by
  obtain ⟨kl, hl⟩ := keySP hr.ra.ok hr.rb.ok
  have hget : ∀ (j : Nat) e, (entsW L).toList[j]? = some e → ∃ p, L[j]? = some p ∧ e = entW j p := by
    intro j e h
    simp only [entsW] at h
    rw [List.getElem?_mapIdx] at h
    cases hq : L[j]? with
    | none => rw [hq] at h; cases h
    | some q => rw [hq] at h; exact ⟨q, rfl, (Option.some.inj h).symm⟩
  have hes : ∀ e ∈ (entsW L).toList, ∃ l, keyOf Tryd.prog 103 e.key = some l := by
    intro e he
    obtain ⟨j, hj⟩ := List.mem_iff_getElem?.1 he
    obtain ⟨p, hp, rfl⟩ := hget j e hj
    obtain ⟨x, -, h2⟩ := hR.rep j p hp
    exact keySP h2.ra.ok h2.rb.ok
  rcases lawSP.find w hl (entsW L).toList hes with ⟨h1, h2⟩ | ⟨j, e, h1, h2, h3⟩
  · refine .inr ⟨?_, h1⟩
    cases hk : knownB l s with
    | false => rfl
    | true =>
      obtain ⟨x, hx, e1⟩ := (knownB_iff _ _).1 hk
      obtain ⟨j, hj⟩ := List.mem_iff_getElem?.1 hx
      obtain ⟨p, hp, hrp⟩ := hR.at hj
      refine absurd (eqSP_val ((eqSP_iff hrp hr).2 e1)) (h2 (entW j p) (List.mem_of_getElem? (i := j) ?_))
      simp only [entsW]
      rw [List.getElem?_mapIdx, hp]; rfl
  · obtain ⟨p, hp, rfl⟩ := hget j e h2
    obtain ⟨x, hx, hrx⟩ := hR.rep j p hp
    exact .inl ⟨(knownB_iff _ _).2 ⟨x, List.mem_of_getElem? hx, (eqSP_iff hrx hr).1 (spval_eq h3)⟩, j, h1⟩
theorem mapSP : Tryd.prog.underlying 173 = some (.map 103 172) := by kernel_rfl
theorem lookW_known {L : List PlW} {l : List ((List Int × List Int) × List Int)} (hR : RepPL L l) {P : SP} {s : List Int × List Int} (hr : RepSP P s) {w : World} {r c : Nat} (hm : w.heap[r]? = some (.map (entsW L) c)) (h : knownB l s = true) :
    (Instr.lookup 173 (.map (some r)) (spval P) true).run Tryd.prog w = .ok (.tuple #[.agg #[], .bool true]) w := by
  obtain ⟨kl, hl⟩ := keySP hr.ra.ok hr.rb.ok
  rcases find_sp hR hr w with ⟨-, j, h1⟩ | ⟨h1, -⟩
  · simp [Instr.lookup, run_underlying mapSP, MapKept.run_getObj_map hm, lawSP.check w _ hl, h1, Result.andThen]
  · rw [h] at h1; cases h1
theorem lookW_new {L : List PlW} {l : List ((List Int × List Int) × List Int)} (hR : RepPL L l) {P : SP} {s : List Int × List Int} (hr : RepSP P s) {w : World} {r c : Nat} (hm : w.heap[r]? = some (.map (entsW L) c)) (h : knownB l s = false) :
    (Instr.lookup 173 (.map (some r)) (spval P) true).run Tryd.prog w = .ok (.tuple #[.agg #[], .bool false]) w := by
  obtain ⟨kl, hl⟩ := keySP hr.ra.ok hr.rb.ok
  rcases find_sp hR hr w with ⟨h1, -⟩ | ⟨-, h1⟩
  · rw [h] at h1; cases h1
  · simp [Instr.lookup, run_underlying mapSP, MapKept.run_getObj_map hm, lawSP.check w _ hl, h1, Result.andThen]
theorem updW_new {L : List PlW} {l : List ((List Int × List Int) × List Int)} (hR : RepPL L l) {p : PlW} {s : List Int × List Int} (hr : RepSP p.sp s) {w : World} {r : Nat} (hm : w.heap[r]? = some (.map (entsW L) L.length)) (h : knownB l s = false) :
    (Instr.mapUpdate 173 (.map (some r)) (spval p.sp) (.agg #[])).run Tryd.prog w = .ok () (setMap w r (.map (entsW (L ++ [p])) (L.length + 1))) := by
  obtain ⟨kl, hl⟩ := keySP hr.ra.ok hr.rb.ok
  rcases find_sp hR hr w with ⟨h1, -⟩ | ⟨-, h1⟩
  · rw [h] at h1; cases h1
  · simp [Instr.mapUpdate, run_underlying mapSP, MapKept.run_getObj_map hm, lawSP.check w _ hl, h1, MapKept.run_setObj_map _ hm, Result.andThen, setMap, entsW_snoc, entW]
theorem updW_first {p : PlW} {s : List Int × List Int} (hr : RepSP p.sp s) {w : World} {r : Nat} (hm : w.heap[r]? = some (.map #[] 0)) :
    (Instr.mapUpdate 173 (.map (some r)) (spval p.sp) (.agg #[])).run Tryd.prog w = .ok () (setMap w r (.map (entsW [p]) 1)) := by
  have := updW_new (L := []) (l := []) ⟨rfl, fun k S h => by simp at h⟩ hr (w := w) (r := r) hm rfl
  simpa using this

/-! Rows of places. -/
def plcells (p : PlW) : List Value := [.int .u64 (p.sp.a 0), .int .u64 (p.sp.a 1), .int .u64 (p.sp.a 2), .int .u64 (p.sp.a 3), .int .u64 (p.sp.b 0), .int .u64 (p.sp.b 1), .int .u64 (p.sp.b 2), .int .u64 (p.sp.b 3), .int .i64 (p.fr : Nat), .int .i64 (p.ev : Nat)]
def plflat : List PlW → List Value
  | [] => []
  | p :: r => plcells p ++ plflat r
theorem plflat_append : ∀ L M : List PlW, plflat (L ++ M) = plflat L ++ plflat M
  | [], M => rfl
  | a :: r, M => by simp only [List.cons_append, plflat, plflat_append r M, List.append_assoc]
theorem plflat_at : ∀ {L : List PlW} {k : Nat} {p : PlW}, L[k]? = some p → ∀ j, j < 10 → (plflat L)[k * 10 + j]? = (plcells p)[j]?
  | [], k, p, h => by simp at h
  | a :: r, 0, p, h => by
    have e : a = p := by simpa using h
    subst e
    intro j hj
    rw [plflat, Nat.zero_mul, Nat.zero_add, List.getElem?_append_left (by simp [plcells]; omega)]
  | a :: r, k + 1, p, h => by
    intro j hj
    have := plflat_at (L := r) (k := k) (p := p) (by simpa using h) j hj
    rw [plflat, List.getElem?_append_right (by simp [plcells]; omega)]
    have e : (k + 1) * 10 + j - (plcells a).length = k * 10 + j := by simp [plcells]; omega
    rw [e]; exact this
abbrev OwnW (W : World) (B : Nat) (v : Value) (L : List PlW) : Prop := W.ownsRow B 170 10 v L.length (plflat L)
theorem OwnW.cell {W : World} {B : Nat} {v : Value} {L : List PlW} (h : OwnW W B v L) {k : Nat} {p : PlW} (hk : L[k]? = some p) : ∃ g cap, v = .slice (some ⟨g, 0, none⟩) L.length cap ∧ B ≤ g ∧ g < W.heap.size ∧ ∀ j u, (plcells p)[j]? = some u → W.cell? ⟨g, k * 10 + j, none⟩ = some u := by
  rcases h.2 with ⟨rfl, hn⟩ | ⟨g, cap, cur, rfl, hg, hh, hnc, hcm, hcs, ht⟩
  · have := (List.getElem?_eq_some_iff.1 hk).1; omega
  · refine ⟨g, cap, rfl, hg, (Array.getElem?_eq_some_iff.1 hh).1, fun j u hu => ?_⟩
    have hj : j < 10 := by have := (List.getElem?_eq_some_iff.1 hu).1; simpa [plcells] using this
    have c1 := h.cells (g := g) rfl _ _ ((plflat_at hk j hj).trans hu)
    rwa [addr0_add, Nat.zero_add] at c1
theorem cells_list (W W' : World) (hW : W'.heap = W.heap) (t : TypeId) (xs : Array Value) : ∀ j v, xs.toList[j]? = some v → (W'.alloc (.cells xs t)).cell? ((⟨W.heap.size, 0, none⟩ : Addr).add j) = some v := by
  intro j v hv
  rw [addr0_add, Nat.zero_add, ← hW]
  exact (Blk.new W' t xs).cell j (by rw [← Array.getElem?_toList]; exact hv)
theorem own_plc {W : World} {B : Nat} {v : Value} {L : List PlW} {p : PlW} (h : W.ownsRow B 170 10 v (L.length + 1) (plflat L ++ plcells p)) : OwnW W B v (L ++ [p]) := by
  show W.ownsRow B 170 10 v (L ++ [p]).length (plflat (L ++ [p]))
  rw [List.length_append, plflat_append]
  have e : plflat [p] = plcells p := by simp [plflat]
  rw [e]; exact h
theorem ownW_one (W : World) (p : PlW) (B : Nat) (hB : B ≤ W.heap.size) : OwnW (W.alloc (.cells (plcells p).toArray 170)) B (.slice (some ⟨W.heap.size, 0, none⟩) 1 1) [p] := by
  have : World.ownsRow (W.alloc (.cells (plcells p).toArray 170)) B 170 10 (.slice (some ⟨W.heap.size, 0, none⟩) 1 1) 1 (plcells p) := World.ownsRow_lit W (plcells p).toArray 1 hB (by decide) rfl
  have e : plflat [p] = plcells p := by simp [plflat]
  show World.ownsRow _ B 170 10 _ 1 (plflat [p])
  rw [e]; exact this

/-- What least knows: its row of places, made from block B on, and its map. -/
structure LWI (B : Nat) (W : World) (br : Nat) (vs : Value) (L : List PlW) : Prop where
  ss : OwnW W B vs L
  mp : W.heap[br]? = some (.map (entsW L) L.length)
  lr : B ≤ br
section
variable {B : Nat} {W : World} {br : Nat} {vs : Value} {L : List PlW}
theorem LWI.below {W' : World} (h : LWI B W br vs L) (hb : Below W.heap.size W W') : LWI B W' br vs L :=
  ⟨own_same h.ss (fun k hk => hb.block k (World.ownsRow.lt h.ss k hk).2), (hb.block br (Array.getElem?_eq_some_iff.1 h.mp).1).trans h.mp, h.lr⟩
theorem LWI.apart (h : LWI B W br vs L) : vs.ownBlock ≠ some br := by
  have hm := h.mp
  exact fun e => (by obtain ⟨cs, hc⟩ := own_type h.ss e; rw [hm] at hc; cases hc)
theorem LWI.push {w0 : World} {W2 W3 : World} {vs' : Value} {p : PlW} (h : LWI B W br vs L) (h0 : Below B w0 W) (hW3 : Below (setMap W br (.map (entsW (L ++ [p])) (L.length + 1))).heap.size (setMap W br (.map (entsW (L ++ [p])) (L.length + 1))) W3) (o1 : OwnW W2 B vs' (L ++ [p])) (g : W3.grownBy W2 vs.ownBlock) (hBW : B ≤ W.heap.size) :
    LWI B W2 br vs' (L ++ [p]) ∧ Below B w0 W2 := by
  have a1 := h.apart
  have hbr := (Array.getElem?_eq_some_iff.1 h.mp).1
  have hz : W.heap.size ≤ W3.heap.size := by have := hW3.size; rwa [size_setMap] at this
  have k3 : ∀ j, j < W.heap.size → W3.heap[j]? = (setMap W br (.map (entsW (L ++ [p])) (L.length + 1))).heap[j]? := fun j hj => hW3.block j (by rw [size_setMap]; exact hj)
  have k2 : ∀ j, j < W.heap.size → vs.ownBlock ≠ some j → W2.heap[j]? = (setMap W br (.map (entsW (L ++ [p])) (L.length + 1))).heap[j]? := fun j hj hne => (g.block j (Nat.lt_of_lt_of_le hj hz) (fun e => hne e.symm)).trans (k3 j hj)
  refine ⟨⟨o1, ?_, h.lr⟩, ?_⟩
  · rw [k2 br hbr a1, heap_setMap _ _ hbr, List.length_append]; rfl
  · have b1 : Below B w0 (setMap W br (.map (entsW (L ++ [p])) (L.length + 1))) :=
      h0.trans ⟨rfl, rfl, rfl, by rw [size_setMap]; exact Nat.le_refl _, fun j hj => heap_setMap_ne _ _ _ (by have := h.lr; omega)⟩
    exact (b1.trans (hW3.mono (by rw [size_setMap]; exact hBW))).grown g (Nat.le_trans hBW hz) (fun j hj => (World.ownsRow.lt h.ss j hj).1)
end

end Go.Proofs.YtgebfkmfhpcdhaaDoor
namespace Go.Proofs.YtgebfkmfhpcdhaaDoor
open Go.RowKit
set_option linter.unusedVariables false

/-- A pair's block. -/
abbrev PBk (W : World) (b : Nat) (P : SP) : Prop := Blk W b 103 (spcells P)
theorem PBk.cells {W : World} {b : Nat} {P : SP} (h : PBk W b P) : W.cell? ⟨b, 0, none⟩ = some (.int .u64 (P.a 0)) ∧ W.cell? ⟨b, 1, none⟩ = some (.int .u64 (P.a 1)) ∧ W.cell? ⟨b, 2, none⟩ = some (.int .u64 (P.a 2)) ∧ W.cell? ⟨b, 3, none⟩ = some (.int .u64 (P.a 3)) ∧ W.cell? ⟨b, 4, none⟩ = some (.int .u64 (P.b 0)) ∧ W.cell? ⟨b, 5, none⟩ = some (.int .u64 (P.b 1)) ∧ W.cell? ⟨b, 6, none⟩ = some (.int .u64 (P.b 2)) ∧ W.cell? ⟨b, 7, none⟩ = some (.int .u64 (P.b 3)) :=
  ⟨h.cell 0 rfl, h.cell 1 rfl, h.cell 2 rfl, h.cell 3 rfl, h.cell 4 rfl, h.cell 5 rfl, h.cell 6 rfl, h.cell 7 rfl⟩

/-- Is a the set of a pair at an end of the one, and b the other one's at none? -/
def outSP (P : SP) (EA EB : Nat → Nat) : Bool := meetB P.a EA && !meetB P.b EB

set_option maxRecDepth 100000 in
set_option maxHeartbeats 4000000 in
theorem apart1_any (P : SP) (EA EB : Nat → Nat) (pA pB : Nat) (w : World) (hA : Hid (SB w pA EA)) (hB : Hid (SB w pB EB)) (o1 : okS P.a) (o2 : okS P.b) (o3 : okS EA) (o4 : okS EB) :
    Calls Tryd.prog 121 #[spval P, .pointer (some ⟨pA, 0, none⟩), .pointer (some ⟨pB, 0, none⟩)] w fun e w' => e = .returned (.bool (outSP P EA EB)) ∧ Below w.heap.size w w' := by
  have B0 : Hid (Below w.heap.size w (w.alloc (.cells (spcells P) 103))) := (Below.refl _ _).alloc (Nat.le_refl _) _
  have K0 : Hid (PBk (w.alloc (.cells (spcells P) 103)) w.heap.size P) := Blk.new w _ _
  have A0 := Hid.of (Blk.alloc hA.out (.cells (spcells P) 103))
  have E0 := Hid.of (Blk.alloc hB.out (.cells (spcells P) 103))
  obtain ⟨x0, x1, x2, x3, x4, x5, x6, x7⟩ := PBk.cells K0.out
  obtain ⟨y0, y1, y2, y3⟩ := SB.cells A0.out
  go_enter Tryd.func121, Tryd.ntmps121
  go_wp2_with fail
  clear x0 x1 x2 x3 x4 x5 x6 x7 y0 y1 y2 y3
  revert B0 K0 A0 E0
  generalize w.alloc (.cells (spcells P) 103) = V0
  intro B0 K0 A0 E0
  refine (meets_any P.a EA _ o1 o3).mono ?_
  rintro e V ⟨rfl, hb1⟩
  have B1 := Hid.of (B0.out.trans (hb1.mono B0.out.size))
  have K1 := Hid.of (K0.out.below hb1 K0.out.lt)
  have E1 := Hid.of (E0.out.below hb1 E0.out.lt)
  clear hb1 B0 K0 E0 A0
  cases hm : meetB P.a EA with
  | false =>
    have HO : Hid (outSP P EA EB = false) := by show _ = _; unfold outSP; rw [hm]; rfl
    go_wp2_with fail
    exact bodyPost_ret (v := .bool false) (by simp [results, go_sem]) rfl ⟨by rw [HO.out], B1.out⟩
  | true =>
    obtain ⟨x0, x1, x2, x3, x4, x5, x6, x7⟩ := PBk.cells K1.out
    obtain ⟨y0, y1, y2, y3⟩ := SB.cells E1.out
    go_wp2_with fail
    refine (meets_any P.b EB _ o2 o4).mono ?_
    rintro e V2 ⟨rfl, hb1⟩
    have B2 := Hid.of (B1.out.trans (hb1.mono B1.out.size))
    have HO : Hid (outSP P EA EB = !meetB P.b EB) := by show _ = _; unfold outSP; rw [hm]; rfl
    clear hb1 hm
    go_wp2_with fail
    exact bodyPost_ret (v := .bool (!meetB P.b EB)) (by simp [results, go_sem]) rfl ⟨by rw [HO.out], B2.out⟩

/-- The closure that tells where a pair leads to, and what it knows. -/
abbrev wleadV (pA pB : Nat) : Value := .func (.func 120) #[] #[.pointer (some ⟨pA, 0, none⟩), .pointer (some ⟨pB, 0, none⟩)]
def leadSP (P : SP) (TA TC : Nat → Nat → Nat) (ev e : Nat) : SP := ⟨leadF TA ev e (allS P.a), leadF TC ev e (allS P.b)⟩
abbrev spzero : Array Value := #[.int .u64 0, .int .u64 0, .int .u64 0, .int .u64 0, .int .u64 0, .int .u64 0, .int .u64 0, .int .u64 0]
theorem PBk.set8 {W : World} {b : Nat} (h : Blk W b 103 spzero) (P : SP) : PBk ((((((((W.setCell ⟨b, 0, none⟩ (.int .u64 (P.a 0))).setCell ⟨b, 1, none⟩ (.int .u64 (P.a 1))).setCell ⟨b, 2, none⟩ (.int .u64 (P.a 2))).setCell ⟨b, 3, none⟩ (.int .u64 (P.a 3))).setCell ⟨b, 4, none⟩ (.int .u64 (P.b 0))).setCell ⟨b, 5, none⟩ (.int .u64 (P.b 1))).setCell ⟨b, 6, none⟩ (.int .u64 (P.b 2))).setCell ⟨b, 7, none⟩ (.int .u64 (P.b 3))) b P := by
  have := (((((((h.set 0 (.int .u64 (P.a 0))).set 1 (.int .u64 (P.a 1))).set 2 (.int .u64 (P.a 2))).set 3 (.int .u64 (P.a 3))).set 4 (.int .u64 (P.b 0))).set 5 (.int .u64 (P.b 1))).set 6 (.int .u64 (P.b 2))).set 7 (.int .u64 (P.b 3))
  simp only [spzero, List.setIfInBounds_toArray, List.set_cons_succ, List.set_cons_zero] at this
  exact this
theorem below_set8 {W V : World} {B b' : Nat} (h : Below B V W) (hb : B ≤ b') (v0 v1 v2 v3 v4 v5 v6 v7 : Value) : Below B V ((((((((W.setCell ⟨b', 0, none⟩ v0).setCell ⟨b', 1, none⟩ v1).setCell ⟨b', 2, none⟩ v2).setCell ⟨b', 3, none⟩ v3).setCell ⟨b', 4, none⟩ v4).setCell ⟨b', 5, none⟩ v5).setCell ⟨b', 6, none⟩ v6).setCell ⟨b', 7, none⟩ v7) := by
  have := below_set4' (below_set4' h 0 hb v0 v1 v2 v3) 4 hb v4 v5 v6 v7
  exact this

set_option maxRecDepth 100000 in
set_option maxHeartbeats 8000000 in
theorem leadW1_any (P : SP) (e : Nat) (pA pB : Nat) (LA LC : LB) (ev sa sb : Nat) (TA TC : Nat → Nat → Nat) (hTA : Hid (∀ p, okS (TA p))) (hTC : Hid (∀ p, okS (TC p))) (o1 : Hid (okS P.a)) (o2 : Hid (okS P.b)) (ha : Hid (∀ k ∈ allS P.a, k < sa)) (hb : Hid (∀ k ∈ allS P.b, k < sb)) (he : e < ev) (hev8 : ev ≤ 8) (hsa : sa ≤ 256) (hsb : sb ≤ 256) (w : World) (hT : Hid (Tab w)) (hW : Hid (WL w pA pB LA LC ev sa sb TA TC)) :
    Calls Tryd.prog 120 #[spval P, .int .i64 e, .pointer (some ⟨pA, 0, none⟩), .pointer (some ⟨pB, 0, none⟩)] w fun e' w' => e' = .returned (spval (leadSP P TA TC ev e)) ∧ Below w.heap.size w w' := by
  have B0 : Hid (Below w.heap.size w ((w.alloc (.cells (spcells P) 103)).alloc (.cells spzero 103))) := ((Below.refl _ _).alloc (Nat.le_refl _) _).alloc (by simp) _
  have K0 : Hid (PBk ((w.alloc (.cells (spcells P) 103)).alloc (.cells spzero 103)) w.heap.size P) := (Blk.new w _ _).alloc _
  have R0 : Hid (Blk ((w.alloc (.cells (spcells P) 103)).alloc (.cells spzero 103)) (w.heap.size + 1) 103 spzero) := by
    have := Blk.new (w.alloc (.cells (spcells P) 103)) 103 spzero
    rwa [World.size_alloc] at this
  go_enter Tryd.func120, Tryd.ntmps120
  go_wp2_with fail
  revert B0 K0 R0
  generalize (w.alloc (.cells (spcells P) 103)).alloc (.cells spzero 103) = V0
  intro B0 K0 R0
  have cellsAt : Hid (∀ W, Below w.heap.size w W → PBk W w.heap.size P → W.cell? ⟨w.heap.size, 0, none⟩ = some (.int .u64 (P.a 0)) ∧ W.cell? ⟨w.heap.size, 1, none⟩ = some (.int .u64 (P.a 1)) ∧ W.cell? ⟨w.heap.size, 2, none⟩ = some (.int .u64 (P.a 2)) ∧ W.cell? ⟨w.heap.size, 3, none⟩ = some (.int .u64 (P.a 3)) ∧ W.cell? ⟨w.heap.size, 4, none⟩ = some (.int .u64 (P.b 0)) ∧ W.cell? ⟨w.heap.size, 5, none⟩ = some (.int .u64 (P.b 1)) ∧ W.cell? ⟨w.heap.size, 6, none⟩ = some (.int .u64 (P.b 2)) ∧ W.cell? ⟨w.heap.size, 7, none⟩ = some (.int .u64 (P.b 3)) ∧ W.cell? ⟨pA, 0, none⟩ = some (leadV LA) ∧ W.cell? ⟨pB, 0, none⟩ = some (leadV LC)) := fun W hb hp => by
    obtain ⟨x0, x1, x2, x3, x4, x5, x6, x7⟩ := PBk.cells hp
    exact ⟨x0, x1, x2, x3, x4, x5, x6, x7, (hW.out.ca.below hb hW.out.ca.lt).cell 0 rfl, (hW.out.cb.below hb hW.out.cb.lt).cell 0 rfl⟩
  refine wp_region_held_drew (S := fun w' => w'.cell? ⟨w.heap.size, 0, none⟩ = some (.int .u64 (P.a 0)) ∧ w'.cell? ⟨w.heap.size, 1, none⟩ = some (.int .u64 (P.a 1)) ∧ w'.cell? ⟨w.heap.size, 2, none⟩ = some (.int .u64 (P.a 2)) ∧ w'.cell? ⟨w.heap.size, 3, none⟩ = some (.int .u64 (P.a 3)) ∧ w'.cell? ⟨w.heap.size, 4, none⟩ = some (.int .u64 (P.b 0)) ∧ w'.cell? ⟨w.heap.size, 5, none⟩ = some (.int .u64 (P.b 1)) ∧ w'.cell? ⟨w.heap.size, 6, none⟩ = some (.int .u64 (P.b 2)) ∧ w'.cell? ⟨w.heap.size, 7, none⟩ = some (.int .u64 (P.b 3)) ∧ w'.cell? ⟨pA, 0, none⟩ = some (leadV LA) ∧ w'.cell? ⟨pB, 0, none⟩ = some (leadV LC)) (by kernel_rfl) (cellsAt.out _ B0.out.drew (Blk.drew K0.out)) (fun hS0 => ?_)
  have B1 : Hid (Below w.heap.size w V0.drew) := B0.out.drew
  have K1 : Hid (PBk V0.drew w.heap.size P) := Blk.drew K0.out
  have R1 : Hid (Blk V0.drew (w.heap.size + 1) 103 spzero) := Blk.drew R0.out
  clear B0 K0 R0
  revert B1 K1 R1 hS0
  generalize V0.drew = Y0
  intro hS0 B1 K1 R1
  refine wpAnyH_take (i := 0) (v := leadV LA) rfl (by kernel_rfl) (by kernel_rfl) (by kernel_rfl) (fun _ _ _ h => h) (Or.inl ⟨by kernel_rfl, fun w' hw' => by obtain ⟨q0, q1, q2, q3, q4, q5, q6, q7, q8, q9⟩ := hw'; go_simp⟩) hS0 ?_
  refine wpAnyH_take (i := 1) (v := .pointer (some ⟨w.heap.size, 0, none⟩)) rfl (by kernel_rfl) (by kernel_rfl) (by kernel_rfl) (fun _ _ _ h => h) (Or.inl ⟨by kernel_rfl, fun w' hw' => by obtain ⟨q0, q1, q2, q3, q4, q5, q6, q7, q8, q9⟩ := hw'; go_simp⟩) hS0 ?_
  refine wpAnyH_take (i := 2) (v := sval P.a) rfl (by kernel_rfl) (by kernel_rfl) (by kernel_rfl) (fun _ _ _ h => h) (Or.inl ⟨by kernel_rfl, fun w' hw' => by obtain ⟨q0, q1, q2, q3, q4, q5, q6, q7, q8, q9⟩ := hw'; go_simp⟩) hS0 ?_
  refine wpAnyH_take (i := 3) (v := .int .i64 e) rfl (by kernel_rfl) (by kernel_rfl) (by kernel_rfl) (fun _ _ _ h => h) (Or.inl ⟨by kernel_rfl, fun w' hw' => by obtain ⟨q0, q1, q2, q3, q4, q5, q6, q7, q8, q9⟩ := hw'; go_simp⟩) hS0 ?_
  refine wpAnyH_take (i := 5) (v := leadV LC) rfl (by kernel_rfl) (by kernel_rfl) (by kernel_rfl) (fun _ _ _ h => h) (Or.inl ⟨by kernel_rfl, fun w' hw' => by obtain ⟨q0, q1, q2, q3, q4, q5, q6, q7, q8, q9⟩ := hw'; go_simp⟩) hS0 ?_
  refine wpAnyH_take (i := 6) (v := .pointer (some ⟨w.heap.size, 4, none⟩)) rfl (by kernel_rfl) (by kernel_rfl) (by kernel_rfl) (fun _ _ _ h => h) (Or.inl ⟨by kernel_rfl, fun w' hw' => by obtain ⟨q0, q1, q2, q3, q4, q5, q6, q7, q8, q9⟩ := hw'; go_simp⟩) hS0 ?_
  refine wpAnyH_take (i := 7) (v := sval P.b) rfl (by kernel_rfl) (by kernel_rfl) (by kernel_rfl) (fun _ _ _ h => h) (Or.inl ⟨by kernel_rfl, fun w' hw' => by obtain ⟨q0, q1, q2, q3, q4, q5, q6, q7, q8, q9⟩ := hw'; go_simp⟩) hS0 ?_
  refine wpAnyH_take (i := 8) (v := .int .i64 e) rfl (by kernel_rfl) (by kernel_rfl) (by kernel_rfl) (fun _ _ _ h => h) (Or.inl ⟨by kernel_rfl, fun w' hw' => by obtain ⟨q0, q1, q2, q3, q4, q5, q6, q7, q8, q9⟩ := hw'; go_simp⟩) hS0 ?_
  simp only [Act.put, List.setIfInBounds_toArray]
  refine wpAnyH_ready (rs := [4]) (by kernel_rfl) (by simp) ?_
  refine AllReadyH.cons rfl (fun K' hK' => ?_) AllReadyH.nil
  go_simp
  refine (lead1_any sa ev e LA TA hTA.out P.a o1.out ha.out he hev8 hsa _ (hT.out.below B1.out hT.out.lt) (hW.out.la.below B1.out hW.out.la.lt)).mono ?_
  rintro e1 Y1 ⟨rfl, hb1⟩
  have B2 := Hid.of (B1.out.trans (hb1.mono B1.out.size))
  have K2 := Hid.of (K1.out.below hb1 K1.out.lt)
  have R2 := Hid.of (R1.out.below hb1 R1.out.lt)
  refine hK'.out _ _ (cellsAt.out _ B2.out K2.out) (fun hS1 => ?_)
  clear hK' K' hb1 B1 K1 R1 hS0
  refine wpAnyH_ready (rs := [9]) (by kernel_rfl) (by simp) ?_
  refine AllReadyH.cons rfl (fun K' hK' => ?_) AllReadyH.nil
  go_simp
  refine (lead1_any sb ev e LC TC hTC.out P.b o2.out hb.out he hev8 hsb _ (hT.out.below B2.out hT.out.lt) (hW.out.lb.below B2.out hW.out.lb.lt)).mono ?_
  rintro e1 Y2 ⟨rfl, hb1⟩
  have B3 := Hid.of (B2.out.trans (hb1.mono B2.out.size))
  have K3 := Hid.of (K2.out.below hb1 K2.out.lt)
  have R3 := Hid.of (R2.out.below hb1 R2.out.lt)
  refine hK'.out _ _ (cellsAt.out _ B3.out K3.out) (fun hS2 => ?_)
  clear hK' K' hb1 B2 K2 R2 hS1
  obtain ⟨QA, HQA⟩ : ∃ Q, Hid (Q = leadF TA ev e (allS P.a)) := ⟨_, rfl⟩
  obtain ⟨QB, HQB⟩ : ∃ Q, Hid (Q = leadF TC ev e (allS P.b)) := ⟨_, rfl⟩
  rw [← HQA.out, ← HQB.out]
  have HR : Hid (leadSP P TA TC ev e = ⟨QA, QB⟩) := by show _ = _; unfold leadSP; rw [HQA.out, HQB.out]
  refine wpAnyH_take (i := 10) (v := spval ⟨QA, QB⟩) rfl (by kernel_rfl) (by kernel_rfl) (by kernel_rfl) (fun _ _ _ h => h) (Or.inl ⟨by kernel_rfl, fun w' hw' => by obtain ⟨q0, q1, q2, q3, q4, q5, q6, q7, q8, q9⟩ := hw'; go_simp⟩) hS2 ?_
  refine wpAnyH_ready (rs := [11]) (by kernel_rfl) (by simp) ?_
  refine AllReadyH.cons rfl (fun K' hK' => ?_) AllReadyH.nil
  have rz := R3.out.frozen
  have r0 := R3.out.cell 0 rfl
  have r1 := R3.out.cell 1 rfl
  have r2 := R3.out.cell 2 rfl
  have r3 := R3.out.cell 3 rfl
  have r4 := R3.out.cell 4 rfl
  have r5 := R3.out.cell 5 rfl
  have r6 := R3.out.cell 6 rfl
  have r7 := R3.out.cell 7 rfl
  have RR := Hid.of (PBk.set8 R3.out ⟨QA, QB⟩)
  have BB := Hid.of (below_set8 B3.out (b' := w.heap.size + 1) (by omega) (.int .u64 (QA 0)) (.int .u64 (QA 1)) (.int .u64 (QA 2)) (.int .u64 (QA 3)) (.int .u64 (QB 0)) (.int .u64 (QB 1)) (.int .u64 (QB 2)) (.int .u64 (QB 3)))
  have KK : Hid (PBk _ w.heap.size P) := Blk.other4' (Blk.other4' K3.out 0 (Nat.ne_of_lt (Nat.lt_succ_self _)) (.int .u64 (QA 0)) (.int .u64 (QA 1)) (.int .u64 (QA 2)) (.int .u64 (QA 3))) 4 (Nat.ne_of_lt (Nat.lt_succ_self _)) (.int .u64 (QB 0)) (.int .u64 (QB 1)) (.int .u64 (QB 2)) (.int .u64 (QB 3))
  go_simp
  refine hK'.out _ _ (cellsAt.out _ BB.out KK.out) (fun hS3 => ?_)
  clear hK' K' r0 r1 r2 r3 r4 r5 r6 r7 rz hS2 hS3
  refine wpAnyH_done (by kernel_rfl) ?_ _
  obtain ⟨r0, r1, r2, r3, r4, r5, r6, r7⟩ := PBk.cells RR.out
  go_wp2
  refine bodyPost_ret (v := spval ⟨QA, QB⟩) ?_ rfl ⟨by rw [HR.out], BB.out⟩
  simp [results, go_sem, r0, r1, r2, r3, r4, r5, r6, r7]

end Go.Proofs.YtgebfkmfhpcdhaaDoor
