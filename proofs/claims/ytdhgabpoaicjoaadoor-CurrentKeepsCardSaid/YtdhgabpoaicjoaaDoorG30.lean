/-
  What is hidden of a small machine fits; hide.Hide, where nothing is wrong.
  Plain: the program's way to the least list that tells the beginning: sets gone back to, by a table of the hidden machine's arrows. No program, no model.
  The walk of current.May.
-/
import Derived.Test.YtdhgabpoaicjoaaDoorG29
import Derived.Test.YtdhgabpoaicjoaaDoorG23
import Derived.Test.YtdhgabpoaicjoaaDoorG15
import Derived.Test.YtdhgabpoaicjoaaDoorG07
namespace Go.Proofs.YtdhgabpoaicjoaaDoor
open Go.RowKit
set_option linter.unusedVariables false

theorem wide_small {m : Mach} (hm : mayB m = true) (z : m.st ≤ 6) {seen ss : List Int} (hs : ∀ x ∈ ss, 0 ≤ x ∧ x < m.st) : (wideL m.arrows seen ss).length ≤ 6 := by
  refine nodup_len 6 _ (inc_nodup (inc_wide _ _ _)) (fun x hx => ?_)
  have := wide_bd hm hs x hx
  omega
theorem hFrom_small {m : Mach} (hm : mayB m = true) (z : m.st ≤ 6) (seen : List Int) (f : Nat) : ∀ k, (hFrom m seen f k).length ≤ k * 6
  | 0 => by simp [hFrom]
  | k + 1 => by
    have h1 := hFrom_small hm z seen f k
    have h2 : (hRow m seen f k).length ≤ 6 := by unfold hRow; rw [List.length_map]; exact wide_small hm z (step_bd hm)
    rw [hFrom_succ, List.length_append]; omega
theorem hAll_small {m : Mach} (hm : mayB m = true) (z : m.st ≤ 6) (seen : List Int) (h8 : seen.length ≤ 8) : ∀ f, (hAll m seen f).length ≤ f * 48
  | 0 => by simp [hAll]
  | f + 1 => by
    have h1 := hAll_small hm z seen h8 f
    have h2 := hFrom_small hm z seen f seen.length
    rw [hAll_succ, List.length_append]; omega
theorem hide_small {m : Mach} (hm : mayB m = true) (z : m.st ≤ 6) {seen : List Int} (hr : rowB m.ev seen = true) : (hAll m seen m.st.toNat).length ≤ 4096 := by
  have hz := mayB_size hm
  unfold sizeOk at hz
  have h8 := row_short (by omega) (by omega) hr
  have := hAll_small hm z seen (by omega) m.st.toNat
  omega
/-- Hide, where nothing is wrong. -/
theorem hide_okp (m : Mach) (l : ML) (sa : Option Addr) (sc : Nat) (seen : List Int) (w : World) (h : MAt w m l) (hs : At w sa seen) (hsl : seen.length ≤ maxLen) (hT : Tab w) (hm : mayB m = true) (hr : rowB m.ev seen = true) (ha : (hAll m seen m.st.toNat).length ≤ 4096) :
    Calls Tryd.prog 25 #[mval m l, .slice sa seen.length sc] w fun e w' => ∃ L, e = .returned (.tuple #[mval (hideM m seen) L, .int .i64 0]) ∧ MAt w' (hideM m seen) L ∧ Below w.heap.size w w' := by
  refine (pHide_any m l sa sc seen w h hs hsl hT).mono ?_
  intro e w' hp
  unfold HidePost at hp
  rw [if_neg (by rw [hm, hr]; simp), if_pos ha] at hp
  exact hp

end Go.Proofs.YtdhgabpoaicjoaaDoor
namespace Go.Proofs.YtdhgabpoaicjoaaDoor
open Go.RowKit
set_option linter.unusedVariables false

/-- Does a row tell the beginning? -/
def tellB (p : Plant) (row : List Int) : Bool := leakB p.secret (row.filter fun n => hasB p.m.starts n == true)
theorem tell_on {p : Plant} (hm : mayB p.m = true) {u row : List Int} (h : row = valB (opB p) (rngI p.m.st.toNat) u) : tellB p row = leakB p.secret (beganL p (wordS p.seen u)) := by
  unfold tellB; rw [h, on_val hm, began_row hm]
/-- Nothing found ahead of k tells. -/
structure LIn (p : Plant) (n frm to e r k : Nat) (l : List (List Int × List Int)) : Prop where
  ig : IG (opB p) (rngI p.m.st.toNat) p.seen.length n frm to e r l
  no : ∀ (j : Nat) (x : List Int × List Int), j < k → l[j]? = some x → tellB p x.1 = false
theorem LIn.start (p : Plant) : LIn p 0 0 1 0 0 0 [(rngI p.m.st.toNat, [])] := ⟨ig_start _ _, fun j x h => absurd h (Nat.not_lt_zero _)⟩
theorem LIn.bound {p : Plant} (hp : mayP p = true) {n frm to e r k : Nat} {l : List (List Int × List Int)} (h : LIn p n frm to e r k l) : l.length ≤ 64 := by
  obtain ⟨hm, z, -, -⟩ := (mayP_iff p).1 hp
  have h1 := nodup_sub (m := subs 6) h.ig.nd (fun s hs => by
    obtain ⟨x, hx, rfl⟩ := List.mem_map.1 hs
    obtain ⟨e1, -⟩ := h.ig.run x hx
    rw [e1, on_val hm]
    exact mem_subs 6 _ (inc_flt (inc_rng9 _) _) (fun y hy => by have := ((mem_on _ _ _).1 hy).1; omega))
  rw [List.length_map, subs_len] at h1
  exact h1
theorem LIn.found {p : Plant} (hp : mayP p = true) {n frm to e r k : Nat} {l : List (List Int × List Int)} (h : LIn p n frm to e r k l) (hk : k < to) {x : List Int × List Int} (hx : l[k]? = some x) (ho : tellB p x.1 = true) : outI p = some (wordS p.seen x.2) := by
  obtain ⟨hm, z, hs, -⟩ := (mayP_iff p).1 hp
  have hz := mayB_size hm
  unfold sizeOk at hz
  have hi : Inc p.seen := ((rowB_iff _ (by omega) _).1 hs).1
  have hr := h.ig.run x (List.mem_of_getElem? hx)
  rw [tell_on hm hr.1] at ho
  cases hO : outI p with
  | none =>
    have := outI_none hp hO _ (word_in hr.2)
    rw [ho] at this; cases this
  | some v =>
    obtain ⟨v1, v2, -, v3⟩ := outI_some hp hO
    have hvx := v3 _ (word_in hr.2) ho
    have hw := word_idx v2
    have hlen : (idxS p.seen v).length ≤ n := by
      have h1 : v.length ≤ (wordS p.seen x.2).length := leW_len (leW_of_not hvx)
      rw [wordS_len] at h1
      have h2 := (ig_lenof h.ig hx).2 hk
      simp only [idxS, List.length_map]; omega
    obtain ⟨q, hq, e1, e2⟩ := h.ig.cov _ (idx_in v2) hlen
    have hqt : tellB p q.1 = true := by rw [tell_on hm e1, hw]; exact v1
    obtain ⟨j, hj⟩ := List.mem_iff_getElem?.1 hq
    have hkj : k ≤ j := by
      rcases Nat.lt_or_ge j k with h1 | h1
      · rw [h.no j q h1 hj] at hqt; cases hqt
      · exact h1
    have hle : leW x.2 q.2 := by
      rcases Nat.lt_or_ge k j with h1 | h1
      · have l1 := List.getElem?_eq_some_iff.1 hx
        have l2 := List.getElem?_eq_some_iff.1 hj
        have := List.pairwise_iff_getElem.1 h.ig.inc k j l1.1 l2.1 h1
        rw [l1.2, l2.2] at this
        exact .inr this
      · have : j = k := by omega
        subst this
        rw [hx] at hj
        have := Option.some.inj hj
        subst this; exact leW_refl _
    have hle2 := leW_trans hle e2
    rcases hle2 with h3 | h3
    · rw [h3, hw]
    · rw [← lessB_word hi hr.2 (idx_in v2), hw] at h3
      rw [hvx] at h3; cases h3
theorem LIn.not {p : Plant} (hp : mayP p = true) {n frm to e r k : Nat} {l : List (List Int × List Int)} (h : LIn p n frm to e r k l) (hf : l.length ≤ frm) (hk : l.length ≤ k) : outI p = none := by
  obtain ⟨hm, z, hs, -⟩ := (mayP_iff p).1 hp
  cases hO : outI p with
  | none => rfl
  | some v =>
    obtain ⟨v1, v2, -, -⟩ := outI_some hp hO
    obtain ⟨q, hq, e1, -⟩ := ig_all h.ig hf _ (idx_in v2)
    obtain ⟨j, hj⟩ := List.mem_iff_getElem?.1 hq
    have := h.no j q (by have := (List.getElem?_eq_some_iff.1 hj).1; omega) hj
    rw [tell_on hm e1, word_idx v2, v1] at this; cases this

theorem LIn.tell {p : Plant} {n frm to e r k : Nat} {l : List (List Int × List Int)} (h : LIn p n frm to e r k l) {x : List Int × List Int} (hx : l[k]? = some x) (ho : tellB p x.1 = false) : LIn p n frm to e r (k + 1) l :=
  ⟨h.ig, fun j y hj hy => by
    by_cases e1 : j = k
    · subst e1
      rw [hx] at hy
      have := Option.some.inj hy
      subst this; exact ho
    · exact h.no j y (by omega) hy⟩
theorem LIn.step {p : Plant} {n frm to e r : Nat} {l : List (List Int × List Int)} (h : LIn p n frm to e r to l) {x : List Int × List Int} (hf : frm ≤ r) (hr : r < to) (hx : l[r]? = some x) (he : e < p.seen.length) : LIn p n frm to e (r + 1) to (igStep (opB p) x e l) :=
  ⟨ig_step h.ig hf hr hx he, fun j y hj hy => by
    obtain ⟨t, ht⟩ := igStep_pre (opB p) x e l
    have htl := h.ig.tl
    rw [ht, List.getElem?_append_left (by omega)] at hy
    exact h.no j y hj hy⟩
theorem LIn.event {p : Plant} {n frm to e r k : Nat} {l : List (List Int × List Int)} (h : LIn p n frm to e r k l) (hr : to ≤ r) : LIn p n frm to (e + 1) frm k l := ⟨ig_event h.ig hr, h.no⟩
theorem LIn.next {p : Plant} {n frm to r : Nat} {l : List (List Int × List Int)} (h : LIn p n frm to p.seen.length r to l) : LIn p (n + 1) to l.length 0 to to l := ⟨ig_next h.ig, h.no⟩

/-! Sets gone back to. -/
/-- Where an arrow stands in the table: by its event (as the plant numbers it) and where it leads to. -/
def frI (seen : List Int) (a : Arr) : Int := (seen[a.e.toNat]?.getD 0) * 6 + a.t
def baT (p : Plant) : Nat → Nat → Nat := tabK (frI p.seen) Arr.f (hideM p.m p.seen).arrows
/-- What goes back from a set, at an event. -/
def backS (p : Plant) (S : Nat → Nat) (e : Nat) : Nat → Nat := toF (fun n => baT p (e * 6 + n)) (allS S)
theorem ok_back (p : Plant) (S : Nat → Nat) (e : Nat) : okS (backS p S e) := ok_toF (fun n => okS_tabK _ _ _ _) _
theorem rep_back {p : Plant} (hp : mayP p = true) {S : Nat → Nat} {s : List Int} (hr : Rep S s) (hb : ∀ x ∈ s, 0 ≤ x ∧ x < p.m.st) {k : Nat} (hk : k < p.seen.length) : RepI (backS p S (p.seen[k]?.getD 0).toNat) (opB p k s) := by
  obtain ⟨hm, z6, hs, -⟩ := (mayP_iff p).1 hp
  have hz := mayB_size hm
  unfold sizeOk at hz
  have hrow := (rowB_iff _ (by omega) _).1 hs
  refine ⟨⟨ok_back _ _ _, fun x hx => ?_, fun n hn => ?_⟩, inc_flt (inc_rng9 _) _⟩
  · have := ((mem_into _ _ _ _).1 hx).1; omega
  · unfold backS
    rw [has_toF]
    show _ ↔ (n : Int) ∈ intoL p s (p.seen[k]?.getD 0)
    rw [mem_into]
    have hsk : ∀ j : Nat, j < p.seen.length → 0 ≤ p.seen[j]?.getD 0 := fun j hj => by
      rw [List.getElem?_eq_getElem hj, Option.getD_some]
      exact (hrow.2 _ (List.getElem_mem hj)).1
    constructor
    · rintro ⟨m, hm1, hm2⟩
      obtain ⟨a, ha, e1, e2⟩ := (has_tabK _ _ _ _ _).1 hm2
      obtain ⟨f, j, hf, hj, hrw⟩ := (mem_hAll _ _ _ _).1 (show a ∈ hAll p.m p.seen p.m.st.toNat from ha)
      obtain ⟨t, ht, rfl⟩ := (mem_hRow _ _ _ _ _).1 hrw
      have htb := (see_in hm (wideL p.m.arrows p.seen [(f : Int)]) (p.seen[j]?.getD 0)).2 t ht
      have hms := (mem_allS _ _).1 hm1
      have hmb := hb (m : Int) ((hr.mem m hms.1).1 hms.2)
      simp only [frI, Int.toNat_natCast] at e1 e2
      have hj0 := hsk j hj
      have hk0 := hsk k hk
      have e3 : p.seen[k]?.getD 0 = p.seen[j]?.getD 0 ∧ t = (m : Int) := by omega
      subst e2
      refine ⟨⟨by omega, by omega⟩, t, ?_, ?_⟩
      · rw [e3.1]; exact ht
      · rw [e3.2]; exact (hr.mem m hms.1).1 hms.2
    · rintro ⟨h1, t, ht, hts⟩
      have htb := hb t hts
      have hk0 := hsk k hk
      refine ⟨t.toNat, (mem_allS _ _).2 ⟨by omega, (hr.mem _ (by omega)).2 (by rwa [Int.toNat_of_nonneg htb.1])⟩, (has_tabK _ _ _ _ _).2 ⟨⟨(n : Int), (k : Int), t⟩, ?_, ?_, by simp⟩⟩
      · exact (mem_hAll _ _ _ _).2 ⟨n, k, by omega, hk, (mem_hRow _ _ _ _ _).2 ⟨t, ht, rfl⟩⟩
      · simp only [frI, Int.toNat_natCast]; omega
theorem bd_op {p : Plant} (hm : mayB p.m = true) (k : Nat) (s : List Int) : ∀ x ∈ opB p k s, 0 ≤ x ∧ x < p.m.st := fun x hx => by
  have hz := mayB_size hm
  unfold sizeOk at hz
  have := ((mem_into _ _ _ _).1 hx).1; omega
theorem bd_rng {p : Plant} (hm : mayB p.m = true) : ∀ x ∈ rngI p.m.st.toNat, 0 ≤ x ∧ x < p.m.st := fun x hx => by
  have hz := mayB_size hm
  unfold sizeOk at hz
  have := (mem_rng9 _ _).1 hx; omega
theorem bd_val {p : Plant} (hm : mayB p.m = true) : ∀ u : List Int, ∀ x ∈ valB (opB p) (rngI p.m.st.toNat) u, 0 ≤ x ∧ x < p.m.st
  | [] => bd_rng hm
  | k :: u => bd_op hm _ _
theorem inc_val {p : Plant} (hm : mayB p.m = true) : ∀ u : List Int, Inc (valB (opB p) (rngI p.m.st.toNat) u)
  | [] => inc_rng9 _
  | k :: u => inc_flt (inc_rng9 _) _
/-- All states, as a set. -/
def allF (n : Nat) : Nat → Nat := ofS (rngI n)
theorem allF_succ (n : Nat) : allF (n + 1) = withS (allF n) n := by unfold allF; rw [rngI_succ, ofS_snoc, Int.toNat_natCast]
theorem rep_all {n : Nat} (h : n ≤ 256) : RepI (allF n) (rngI n) := by
  have := rep_of (l := rngI n) (fun x hx => by have := (mem_rng9 _ _).1 hx; omega) n
  rw [List.take_of_length_le (by simp [rngI])] at this
  exact ⟨this, inc_rng9 _⟩
theorem ok_allF (n : Nat) : okS (allF n) := by
  induction n with
  | zero => exact okS_zero
  | succ n ih => rw [allF_succ]; exact okS_with ih _
/-- Does a set tell the beginning, as the program tells it? -/
def tellS (S T R : Nat → Nat) : Bool := !emptyB (meetS S T) && emptyB (lessS (meetS S T) R)
theorem rep_meet {S T : Nat → Nat} {l k : List Int} (h : Rep S l) (h' : Rep T k) : Rep (meetS S T) (l.filter fun n => hasB k n == true) := by
  refine ⟨okS_meet h.ok, fun x hx => h.bd x (List.mem_filter.1 hx).1, fun n hn => ?_⟩
  rw [hasS_meet, Bool.and_eq_true, h.mem n hn, h'.mem n hn, List.mem_filter]
  refine and_congr_right fun _ => ?_
  unfold hasB; simp
theorem tell_set {S T R : Nat → Nat} {p : Plant} {s : List Int} (h : Rep S s) (hT : Rep T p.m.starts) (hR : Rep R p.secret) : tellS S T R = tellB p s := by
  unfold tellS tellB
  have hm := rep_meet h hT
  generalize (s.filter fun n => hasB p.m.starts n == true) = row at hm
  generalize meetS S T = M at hm
  unfold leakB
  cases he : emptyB M with
  | true =>
    have : row = [] := by
      rw [List.eq_nil_iff_forall_not_mem]
      intro x hx
      obtain ⟨b0, b1⟩ := hm.bd x hx
      have h1 := empty_has he x.toNat (by omega)
      rw [(hm.mem x.toNat (by omega)).2 (by rwa [Int.toNat_of_nonneg b0])] at h1
      cases h1
    subst this; rfl
  | false =>
    obtain ⟨n, hn, h1⟩ := empty_not hm.ok he
    have hpos : 0 < row.length := List.length_pos_of_mem ((hm.mem n hn).1 h1)
    rw [decide_eq_true hpos]
    simp only [Bool.not_false, Bool.true_and]
    cases hl : emptyB (lessS M R) with
    | true =>
      symm
      rw [decide_eq_true_eq, List.length_eq_zero_iff, List.filter_eq_nil_iff]
      intro x hx
      obtain ⟨b0, b1⟩ := hm.bd x hx
      have h2 := empty_has hl x.toNat (by omega)
      rw [hasS_less hR.ok, (hm.mem x.toNat (by omega)).2 (by rwa [Int.toNat_of_nonneg b0])] at h2
      have h3 : hasS R x.toNat = true := by simpa using h2
      have := (hR.mem x.toNat (by omega)).1 h3
      rw [Int.toNat_of_nonneg b0] at this
      unfold hasB; simpa using this
    | false =>
      obtain ⟨m, hm1, h2⟩ := empty_not (okS_less hm.ok) hl
      rw [hasS_less hR.ok] at h2
      simp only [Bool.and_eq_true, Bool.not_eq_true'] at h2
      have m1 := (hm.mem m hm1).1 h2.1
      have m2 : ¬ (m : Int) ∈ p.secret := fun hk => by
        have := (hR.mem m hm1).2 hk
        rw [h2.2] at this; cases this
      symm
      rw [decide_eq_false_iff_not]
      have : 0 < (row.filter fun n => hasB p.secret n == false).length := List.length_pos_of_mem (List.mem_filter.2 ⟨m1, by unfold hasB; simpa using m2⟩)
      omega

end Go.Proofs.YtdhgabpoaicjoaaDoor
namespace Go.Proofs.YtdhgabpoaicjoaaDoor
open Go.RowKit
set_option linter.unusedVariables false

set_option maxRecDepth 100000 in
set_option maxHeartbeats 4000000 in
theorem pCurMay_any (p : Plant) (P : PTL) (w : World) (h : PAt w p P) :
    Calls Tryd.prog 35 #[ptval p P] w fun e w' => e = .returned (.bool (mayP p)) ∧ Below w.heap.size w w' := by
  have B : Hid (Below w.heap.size w (w.alloc (.cells (ptcells p P) 50))) := (Below.refl _ _).alloc (Nat.le_refl _) _
  have KP : Hid (Blk (w.alloc (.cells (ptcells p P) 50)) w.heap.size 50 (ptcells p P)) := Blk.new w _ _
  have H := Hid.of h
  clear h
  go_enter Tryd.func35, Tryd.ntmps35
  obtain ⟨x0, x1, x2, x3, x4, x5, x6⟩ := ptcell_at KP.out
  go_wp2_with fail
  clear x0 x1 x2 x3 x4 x5 x6
  revert B KP
  generalize (w.alloc (.cells (ptcells p P) 50)) = V0
  intro B KP
  refine (pMay_any p.m P.l V0 (H.out.m.below B.out (Nat.le_refl _))).mono ?_
  rintro e W1 ⟨rfl, hb⟩
  replace B := Hid.of (B.out.trans (hb.mono B.out.size))
  replace KP := Hid.of (KP.out.below hb KP.out.lt)
  clear hb
  cases hm : mayB p.m with
  | false =>
    have HO : Hid (false = mayP p) := by show _ = _; unfold mayP; rw [hm]; rfl
    clear hm
    go_wp2_with fail
    go_ret
    exact ⟨ret_bool HO.out, B.out⟩
  | true =>
    have HM := Hid.of hm
    clear hm
    obtain ⟨x0, x1, x2, x3, x4, x5, x6⟩ := ptcell_at KP.out
    by_cases hs6 : p.m.st ≤ 6
    · have d1 : decide (p.m.st ≤ (6 : Int)) = true := by simpa using hs6
      have H6 := Hid.of hs6
      clear hs6
      go_wp2_with fail
      refine (rowIs_any P.sa P.sc p.seen p.m.ev W1 (H.out.s.at_.below B.out (Nat.le_refl _)) H.out.s.len).mono ?_
      rintro e W2 ⟨rfl, rfl⟩
      cases hr : rowB p.m.ev p.seen with
      | false =>
        have HO : Hid (false = mayP p) := by show _ = _; unfold mayP; rw [hr]; simp
        clear hr
        go_wp2_with fail
        go_ret
        exact ⟨ret_bool HO.out, B.out⟩
      | true =>
        have HO : Hid (rowB p.m.st p.secret = mayP p) := by show _ = _; unfold mayP; rw [HM.out, hr, decide_eq_true H6.out]; rfl
        clear hr
        go_wp2_with fail
        refine (rowIs_any P.ta P.tc p.secret p.m.st W2 (H.out.t.at_.below B.out (Nat.le_refl _)) H.out.t.len).mono ?_
        rintro e W3 ⟨rfl, rfl⟩
        go_wp2_with fail
        go_ret
        exact ⟨ret_bool HO.out, B.out⟩
    · have d1 : decide (p.m.st ≤ (6 : Int)) = false := by simpa using hs6
      have HO : Hid (false = mayP p) := by show _ = _; unfold mayP; rw [d1]; simp
      clear hs6
      go_wp2_with fail
      go_ret
      exact ⟨ret_bool HO.out, B.out⟩

end Go.Proofs.YtdhgabpoaicjoaaDoor
