/-
  Plain: what is seen of a machine hangs on its language alone. No program, no model.
  hide.Hide, whatever comes in.
  What is hidden of a small machine fits; hide.Hide, where nothing is wrong.
  The walk of the law TopLanguage.
-/
import Derived.Test.YtbdkaobbfmgnhaaDoorG21
import Derived.Test.YtbdkaobbfmgnhaaDoorG22
import Derived.Test.YtbdkaobbfmgnhaaDoorCHHide
import Derived.Test.YtbdkaobbfmgnhaaDoorCPLeast
import Derived.Test.YtbdkaobbfmgnhaaDoorCRefMay
namespace Go.Proofs.YtbdkaobbfmgnhaaDoor
open Go.RowKit
set_option linter.unusedVariables false
set_option linter.unusedSectionVars false

theorem afterL_app (ars : List Arr) (ss a b : List Int) : afterL ars ss (a ++ b) = afterL ars (afterL ars ss a) b := by
  unfold afterL; rw [List.foldl_append]
theorem step_mono {ars : List Arr} {ss ss' : List Int} {e : Int} (h : ∀ x ∈ ss, x ∈ ss') : ∀ x ∈ stepL ars ss e, x ∈ stepL ars ss' e := fun x hx => by
  obtain ⟨a, h1, h2, h3, h4⟩ := (mem_stepL _ _ _ _).1 hx
  exact (mem_stepL _ _ _ _).2 ⟨a, h1, h2, h _ h3, h4⟩
theorem after_mono {ars : List Arr} : ∀ (u : List Int) {ss ss' : List Int}, (∀ x ∈ ss, x ∈ ss') → ∀ x ∈ afterL ars ss u, x ∈ afterL ars ss' u
  | [], _, _, h => h
  | e :: u, ss, ss', h => after_mono u (ss := stepL ars ss e) (ss' := stepL ars ss' e) (step_mono h)
/-- A word of events of the machine's arrows, none of them seen. -/
def unW (ars : List Arr) (seen u : List Int) : Prop := ∀ e ∈ u, hasB seen e = false ∧ ∃ a ∈ ars, a.e = e
theorem wide_word {ars : List Arr} {seen ss : List Int} (hin : ∀ a ∈ ars, 0 ≤ a.t ∧ a.t < (256 : Nat)) {x : Int} (h : x ∈ wideL ars seen ss) : ∃ u, unW ars seen u ∧ x ∈ afterL ars ss u := by
  refine (mem_wide hin x).1 h (fun y => ∃ u, unW ars seen u ∧ y ∈ afterL ars ss u) ⟨fun y hy => ⟨[], by simp [unW], hy⟩, fun a ha hp => ?_⟩
  obtain ⟨u, h1, h2⟩ := hp
  obtain ⟨ha1, ha2⟩ := (mem_unseen _ _ _).1 ha
  refine ⟨u ++ [a.e], fun e he => ?_, ?_⟩
  · rcases List.mem_append.1 he with he | he
    · exact h1 e he
    · have : e = a.e := by simpa using he
      subst this; exact ⟨ha2, a, ha1, rfl⟩
  · rw [afterL_app]
    exact (mem_stepL _ _ _ _).2 ⟨a, ha1, rfl, h2, rfl⟩
theorem num_app (seen a b : List Int) : numL seen (a ++ b) = numL seen a ++ numL seen b := by simp [numL, seenL]
theorem num_un {ars : List Arr} {seen u : List Int} (h : unW ars seen u) : numL seen u = [] := by
  unfold numL seenL
  rw [List.map_eq_nil_iff, List.filter_eq_nil_iff]
  intro e he
  rw [(h e he).1]; simp
theorem num_one {seen : List Int} (hi : Inc seen) {k : Nat} {e : Int} (hk : seen[k]? = some e) : numL seen [e] = [(k : Int)] := by
  have hm : e ∈ seen := List.mem_of_getElem? hk
  obtain ⟨j, hj⟩ := placeN_mem hm
  have h1 := placeI_of hj
  have h2 := placeN_some hj
  have hjk : j = k := by
    have l1 := (List.getElem?_eq_some_iff.1 h2).1
    have l2 := (List.getElem?_eq_some_iff.1 hk).1
    have e1 := (List.getElem?_eq_some_iff.1 h2).2
    have e2 := (List.getElem?_eq_some_iff.1 hk).2
    rcases Nat.lt_trichotomy j k with h | h | h
    · have := List.pairwise_iff_getElem.1 hi j k l1 l2 h; omega
    · exact h
    · have := List.pairwise_iff_getElem.1 hi k j l2 l1 h; omega
  subst hjk
  have hh : hasB seen e = true := by unfold hasB; simpa using hm
  simp [numL, seenL, hh, h1]
/-- A word of events of the machine's arrows. -/
def evW (ars : List Arr) (u : List Int) : Prop := ∀ e ∈ u, ∃ a ∈ ars, a.e = e
theorem back_step {m : Mach} (hm : mayB m = true) {seen : List Int} (hi : Inc seen) {ss : List Int} {k x : Int} (h : x ∈ stepL (hideM m seen).arrows ss k) : ∃ u, x ∈ afterL m.arrows ss u ∧ evW m.arrows u ∧ numL seen u = [k] := by
  obtain ⟨a, ha, h1, h2, h3⟩ := (mem_stepL _ _ _ _).1 h
  obtain ⟨f, j, hf, hj, hr⟩ := (mem_hAll _ _ _ _).1 (show a ∈ hAll m seen m.st.toNat from ha)
  obtain ⟨t, ht, e0⟩ := (mem_hRow _ _ _ _ _).1 hr
  subst e0
  dsimp only at h1 h2 h3
  subst h1; subst h3
  obtain ⟨e, he⟩ : ∃ e, seen[j]? = some e := ⟨_, List.getElem?_eq_getElem hj⟩
  rw [he, Option.getD_some] at ht
  obtain ⟨u2, v2, k2⟩ := wide_word (may_to hm) ht
  -- from some y in what f leads to at e
  have key : ∀ (u : List Int) {S : List Int} {z : Int}, z ∈ afterL m.arrows S u → ∃ y ∈ S, z ∈ afterL m.arrows [y] u := by
    intro u
    induction u with
    | nil => intro S z hz; exact ⟨z, hz, by simp [afterL]⟩
    | cons c u ih =>
      intro S z hz
      obtain ⟨y, hy, hz'⟩ := ih (S := stepL m.arrows S c) hz
      obtain ⟨b, hb, b1, b2, b3⟩ := (mem_stepL _ _ _ _).1 hy
      refine ⟨b.f, b2, ?_⟩
      have : y ∈ stepL m.arrows [b.f] c := (mem_stepL _ _ _ _).2 ⟨b, hb, b1, by simp, b3⟩
      exact after_mono u (ss := [y]) (ss' := stepL m.arrows [b.f] c) (fun q hq => by
        have : q = y := by simpa using hq
        subst this; assumption) z hz'
  obtain ⟨y, hy, hz⟩ := key u2 k2
  obtain ⟨b, hb, b1, b2, b3⟩ := (mem_stepL _ _ _ _).1 hy
  obtain ⟨u1, v1, k1⟩ := wide_word (may_to hm) b2
  refine ⟨u1 ++ ([e] ++ u2), ?_, fun c hc => ?_, ?_⟩
  · rw [afterL_app, afterL_app]
    refine after_mono u2 (ss := [y]) (fun q hq => ?_) _ hz
    have : q = y := by simpa using hq
    subst this
    refine (mem_stepL _ _ _ _).2 ⟨b, hb, b1, ?_, b3⟩
    exact after_mono u1 (ss := [(f : Int)]) (fun q hq => by
      have : q = (f : Int) := by simpa using hq
      subst this; exact h2) _ k1
  · rcases List.mem_append.1 hc with hc | hc
    · exact (v1 c hc).2
    · rcases List.mem_append.1 hc with hc | hc
      · have : c = e := by simpa using hc
        subst this; exact ⟨b, hb, b1⟩
      · exact (v2 c hc).2
  · rw [num_app, num_app, num_un v1, num_un v2, num_one hi he]; simp
theorem back_after {m : Mach} (hm : mayB m = true) {seen : List Int} (hi : Inc seen) : ∀ (v : List Int) {ss : List Int} {x : Int}, x ∈ afterL (hideM m seen).arrows ss v → ∃ u, x ∈ afterL m.arrows ss u ∧ evW m.arrows u ∧ numL seen u = v
  | [], ss, x, h => ⟨[], h, by simp [evW], by simp [numL, seenL]⟩
  | k :: v, ss, x, h => by
    obtain ⟨u, h1, h2, h3⟩ := back_after hm hi v (ss := stepL (hideM m seen).arrows ss k) h
    have key : ∀ (u : List Int) {S : List Int} {z : Int}, z ∈ afterL m.arrows S u → ∃ y ∈ S, z ∈ afterL m.arrows [y] u := by
      intro u
      induction u with
      | nil => intro S z hz; exact ⟨z, hz, by simp [afterL]⟩
      | cons c u ih =>
        intro S z hz
        obtain ⟨y, hy, hz'⟩ := ih (S := stepL m.arrows S c) hz
        obtain ⟨b, hb, b1, b2, b3⟩ := (mem_stepL _ _ _ _).1 hy
        refine ⟨b.f, b2, ?_⟩
        have : y ∈ stepL m.arrows [b.f] c := (mem_stepL _ _ _ _).2 ⟨b, hb, b1, by simp, b3⟩
        exact after_mono u (ss := [y]) (ss' := stepL m.arrows [b.f] c) (fun q hq => by
          have : q = y := by simpa using hq
          subst this; assumption) z hz'
    obtain ⟨y, hy, hz⟩ := key u h1
    obtain ⟨u1, k1, k2, k3⟩ := back_step hm hi hy
    refine ⟨u1 ++ u, ?_, fun c hc => ?_, by rw [num_app, k3, h3]; rfl⟩
    · rw [afterL_app]
      exact after_mono u (ss := [y]) (fun q hq => by
        have : q = y := by simpa using hq
        subst this; exact k1) _ hz
    · rcases List.mem_append.1 hc with hc | hc
      · exact k2 c hc
      · exact h2 c hc
/-- What the machine of what is seen accepts is seen of a word that the machine accepts. -/
theorem hide_back {m : Mach} (hm : mayB m = true) {seen : List Int} (hi : Inc seen) {v : List Int} (h : acceptsB (hideM m seen) v = true) : ∃ u, wordB m.ev u = true ∧ acceptsB m u = true ∧ numL seen u = v := by
  obtain ⟨x, hx, he⟩ := (accepts_iff _ _).1 h
  obtain ⟨u, h1, h2, h3⟩ := back_after hm hi v hx
  have key : ∀ (u : List Int) {S : List Int} {z : Int}, z ∈ afterL m.arrows S u → ∃ y ∈ S, z ∈ afterL m.arrows [y] u := by
    intro u
    induction u with
    | nil => intro S z hz; exact ⟨z, hz, by simp [afterL]⟩
    | cons c u ih =>
      intro S z hz
      obtain ⟨y, hy, hz'⟩ := ih (S := stepL m.arrows S c) hz
      obtain ⟨b, hb, b1, b2, b3⟩ := (mem_stepL _ _ _ _).1 hy
      refine ⟨b.f, b2, ?_⟩
      have : y ∈ stepL m.arrows [b.f] c := (mem_stepL _ _ _ _).2 ⟨b, hb, b1, by simp, b3⟩
      exact after_mono u (ss := [y]) (ss' := stepL m.arrows [b.f] c) (fun q hq => by
        have : q = y := by simpa using hq
        subst this; assumption) z hz'
  obtain ⟨y, hy, hz⟩ := key u h1
  obtain ⟨u0, k0, k1⟩ := wide_word (may_to hm) (show y ∈ wideL m.arrows seen m.starts from hy)
  refine ⟨u0 ++ u, wordB_of (fun e hee => ?_), (accepts_iff _ _).2 ⟨x, ?_, he⟩, by rw [num_app, num_un k0, h3]; rfl⟩
  · have : ∃ a ∈ m.arrows, a.e = e := by
      rcases List.mem_append.1 hee with hc | hc
      · exact (k0 e hc).2
      · exact h2 e hc
    obtain ⟨a, ha, rfl⟩ := this
    have := may_arrs hm a ha
    unfold arrIn at this
    omega
  · rw [afterL_app]
    exact after_mono u (ss := [y]) (fun q hq => by
      have : q = y := by simpa using hq
      subst this; exact k1) _ hz
/-- What is seen hangs on the language alone. -/
theorem hide_lang {a b : Mach} (ha : mayB a = true) (hb : mayB b = true) (he : a.ev = b.ev) (hl : ∀ u, wordB a.ev u = true → acceptsB a u = acceptsB b u) {seen : List Int} (hi : Inc seen) (v : List Int) : acceptsB (hideM a seen) v = acceptsB (hideM b seen) v := by
  have one : ∀ {a b : Mach}, mayB a = true → mayB b = true → (∀ u, wordB a.ev u = true → acceptsB a u = acceptsB b u) → acceptsB (hideM a seen) v = true → acceptsB (hideM b seen) v = true := fun {a b} ha hb hl h => by
    obtain ⟨u, h1, h2, h3⟩ := hide_back ha hi h
    rw [hl u h1] at h2
    rw [← h3]
    exact hide_sees hb h2
  rw [Bool.eq_iff_iff]
  exact ⟨one ha hb hl, one hb ha (fun u hu => (hl u (by rw [he]; exact hu)).symm)⟩

end Go.Proofs.YtbdkaobbfmgnhaaDoor
namespace Go.Proofs.YtbdkaobbfmgnhaaDoor
open Go.RowKit
set_option linter.unusedVariables false

theorem pHide_any (m : Mach) (l : ML) (sa : Option Addr) (sc : Nat) (seen : List Int) (w : World) (h : MAt w m l) (hs : At w sa seen) (hsl : seen.length ≤ maxLen) (hT : Tab w) :
    Calls Tryd.prog 30 #[mval m l, .slice sa seen.length sc] w fun e w' => HidePost w m seen e w' := by
  by_cases hbad : mayB m = false ∨ rowB m.ev seen = false
  · refine (hide_err m l sa sc seen w (Hid.of h) (Hid.of hs) (Hid.of hsl) (Hid.of hbad)).mono fun e w' h => ?_
    unfold HidePost; rw [if_pos hbad]; exact h
  · have hm : mayB m = true := by cases e : mayB m with
      | true => rfl
      | false => exact absurd (.inl e) hbad
    have hr : rowB m.ev seen = true := by cases e : rowB m.ev seen with
      | true => rfl
      | false => exact absurd (.inr e) hbad
    obtain ⟨mst, ev, starts, ars, ends⟩ := m
    obtain ⟨a1, c1, a2, c2, a3, c3⟩ := l
    obtain ⟨st, rfl⟩ : ∃ st : Nat, mst = (st : Int) := by
      have := mayB_size hm
      unfold sizeOk at this
      exact ⟨mst.toNat, by dsimp only at this; omega⟩
    refine (hide_ok st ev starts ars ends a1 c1 a2 c2 a3 c3 sa sc seen w (Hid.of h) (Hid.of hs) (Hid.of hsl) (Hid.of hm) (Hid.of hr) (Hid.of hT)).mono fun e w' h => ?_
    unfold HidePost; rw [if_neg hbad]; exact h

end Go.Proofs.YtbdkaobbfmgnhaaDoor
namespace Go.Proofs.YtbdkaobbfmgnhaaDoor
open Go.RowKit
set_option linter.unusedVariables false

theorem wide_small {m : Mach} (hm : mayB m = true) (z : m.st ≤ 6) {seen ss : List Int} (hs : ∀ x ∈ ss, 0 ≤ x ∧ x < m.st) : (wideL m.arrows seen ss).length ≤ 6 := by
  refine nodup_len 6 _ (inc_nodup (inc_wide _ _ _)) (fun x hx => ?_)
  have := wide_bd hm hs x hx
  omega
theorem hFrom_small {m : Mach} (hm : mayB m = true) (z : m.st ≤ 6) (seen : List Int) (f : Nat) : ∀ k, (hFrom m seen f k).length ≤ k * 6
  | 0 => by simp [hFrom]
  | k + 1 => by
    have h1 := hFrom_small hm z seen f k
    have h2 : (hRow m seen f k).length ≤ 6 := by unfold hRow; rw [List.length_map]; exact wide_small hm z (step_bd hm)
    rw [hFrom_succ, List.length_append]; omega
theorem hAll_small {m : Mach} (hm : mayB m = true) (z : m.st ≤ 6) (seen : List Int) (h8 : seen.length ≤ 8) : ∀ f, (hAll m seen f).length ≤ f * 48
  | 0 => by simp [hAll]
  | f + 1 => by
    have h1 := hAll_small hm z seen h8 f
    have h2 := hFrom_small hm z seen f seen.length
    rw [hAll_succ, List.length_append]; omega
theorem hide_small {m : Mach} (hm : mayB m = true) (z : m.st ≤ 6) {seen : List Int} (hr : rowB m.ev seen = true) : (hAll m seen m.st.toNat).length ≤ 4096 := by
  have hz := mayB_size hm
  unfold sizeOk at hz
  have h8 := row_short (by omega) (by omega) hr
  have := hAll_small hm z seen (by omega) m.st.toNat
  omega
/-- Hide, where nothing is wrong. -/
theorem hide_okp (m : Mach) (l : ML) (sa : Option Addr) (sc : Nat) (seen : List Int) (w : World) (h : MAt w m l) (hs : At w sa seen) (hsl : seen.length ≤ maxLen) (hT : Tab w) (hm : mayB m = true) (hr : rowB m.ev seen = true) (ha : (hAll m seen m.st.toNat).length ≤ 4096) :
    Calls Tryd.prog 30 #[mval m l, .slice sa seen.length sc] w fun e w' => ∃ L, e = .returned (.tuple #[mval (hideM m seen) L, .int .i64 0]) ∧ MAt w' (hideM m seen) L ∧ Below w.heap.size w w' := by
  refine (pHide_any m l sa sc seen w h hs hsl hT).mono ?_
  intro e w' hp
  unfold HidePost at hp
  rw [if_neg (by rw [hm, hr]; simp), if_pos ha] at hp
  exact hp

end Go.Proofs.YtbdkaobbfmgnhaaDoor
namespace Go.Proofs.YtbdkaobbfmgnhaaDoor
open Go.RowKit
set_option linter.unusedVariables false

/-! Plain: small machines. -/
/-- The least machine may be, and has the same language. -/
theorem least_lang {m M : Mach} (hm : mayB m = true) (zm : m.st ≤ 6) (hM : IsLeast m M) : mayB M = true ∧ M.ev = m.ev ∧ ∀ u, wordB m.ev u = true → acceptsB m u = acceptsB M u := by
  letI inst : DecidableEq Lang := fun a b => Classical.propDecidable _
  have hz := mayB_size hm
  unfold sizeOk at hz
  have e1 : m.ev = ((m.ev.toNat : Nat) : Int) := by omega
  rw [hM inst]
  exact ⟨(least_may hm zm e1).1, e1.symm, fun u hu => (least_acc hm zm e1 hu).symm⟩
theorem hide_least {m M X Y : Mach} (hm : mayB m = true) (hM : mayB M = true) (zm : m.st ≤ 6) (zM : M.st ≤ 6) (he : M.ev = m.ev) (hl : ∀ u, wordB m.ev u = true → acceptsB m u = acceptsB M u) {seen : List Int} (hr : rowB m.ev seen = true) (ha : mayB (hideM m seen) = true) (hb : mayB (hideM M seen) = true) (hX : IsLeast (hideM m seen) X) (hY : IsLeast (hideM M seen) Y) : X = Y ∧ 0 < X.st := by
  letI inst : DecidableEq Lang := fun a b => Classical.propDecidable _
  have hz := mayB_size hm
  unfold sizeOk at hz
  have hi : Inc seen := ((rowB_iff _ (by omega) _).1 hr).1
  have h1 := (least_det ha (show (hideM m seen).st ≤ 6 from zm) hX).2
  have h2 := mayB_size h1
  unfold sizeOk at h2
  refine ⟨?_, by omega⟩
  rw [hX inst, hY inst]
  exact (least_same ha hb (show (hideM m seen).st ≤ 6 from zm) (show (hideM M seen).st ≤ 6 from zM) (ev := seen.length) rfl rfl).2 (fun u _ => hide_lang hm hM he.symm hl hi u)
set_option maxRecDepth 100000 in
set_option maxHeartbeats 8000000 in
theorem tlang_any (m : Mach) (l : ML) (sa : Option Addr) (sc : Nat) (seen : List Int) (w : World) (hT : Hid (Tab w)) (h : Hid (MAt w m l)) (hs : Hid (At w sa seen)) (hsl : Hid (seen.length ≤ maxLen)) :
    Calls Tryd.prog 13 #[mval m l, .slice sa seen.length sc] w fun e w' => e = .returned (.bool true) ∧ Below w.heap.size w w' := by
  have B : Hid (Below w.heap.size w (w.alloc (.cells (mcells m l) 25))) := (Below.refl _ _).alloc (Nat.le_refl _) _
  have KM : Hid (Blk (w.alloc (.cells (mcells m l) 25)) w.heap.size 25 (mcells m l)) := Blk.new w _ _
  go_enter Tryd.func13, Tryd.ntmps13
  go_wp2_with fail
  revert B KM
  generalize (w.alloc (.cells (mcells m l) 25)) = V0
  intro B KM
  refine (refMay_any m l _ (h.out.below B.out (Nat.le_refl _))).mono ?_
  rintro e W1 ⟨rfl, hb⟩
  replace B := Hid.of (B.out.trans (hb.mono B.out.size))
  replace KM := Hid.of (KM.out.below hb KM.out.lt)
  clear hb
  cases hm : mayB m with
  | false =>
    go_wp2_with fail
    go_ret
    exact ⟨rfl, B.out⟩
  | true =>
    have HM := Hid.of hm
    clear hm
    by_cases hs6 : m.st ≤ 6
    · have d1 : decide ((6 : Int) < m.st) = false := by simp; omega
      obtain ⟨x0, x1, x2, x3, x4⟩ := mcell_at KM.out
      go_wp2_with fail
      clear x0 x1 x2 x3 x4
      refine (refIs_any sa sc seen m.ev _ (hs.out.below B.out (Nat.le_refl _)) hsl.out).mono ?_
      rintro e W2 ⟨rfl, qd, hqd⟩
      have hb : Below W1.heap.size W1 W2 := by rw [hqd]; exact below_drewN (Below.refl _ _) qd
      clear hqd
      replace B := Hid.of (B.out.trans (hb.mono B.out.size))
      replace KM := Hid.of (KM.out.below hb KM.out.lt)
      clear hb
      cases hr : rowB m.ev seen with
      | false =>
        go_wp2_with fail
        go_ret
        exact ⟨rfl, B.out⟩
      | true =>
        have HR := Hid.of hr
        clear hr
        obtain ⟨x0, x1, x2, x3, x4⟩ := mcell_at KM.out
        go_wp2_with fail
        clear x0 x1 x2 x3 x4
        refine (pLeast_any m l _ (h.out.below B.out (Nat.le_refl _)) (hT.out.below B.out hT.out.lt)).mono ?_
        rintro e W3 ⟨M, L, c, ho, rfl, mt, hb⟩
        replace B := Hid.of (B.out.trans (hb.mono B.out.size))
        replace KM := Hid.of (KM.out.below hb KM.out.lt)
        clear hb
        obtain ⟨e1, hl1⟩ := ho.ok HM.out hs6
        subst e1
        have HL1 := Hid.of hl1
        have MT := Hid.of mt
        clear ho mt hl1
        have hb : Below W3.heap.size W3 (W3.alloc (.cells (mcells M L) 25)) := (Below.refl _ _).alloc (Nat.le_refl _) _
        replace B := Hid.of (B.out.trans (hb.mono B.out.size))
        replace KM := Hid.of (KM.out.below hb KM.out.lt)
        replace MT := Hid.of (MT.out.below hb (Nat.le_refl _))
        clear hb
        have KL := Hid.of (Blk.new W3 25 (mcells M L))
        by_cases hM6 : M.st ≤ 6
        · have d2 : decide ((6 : Int) < M.st) = false := by simp; omega
          obtain ⟨hML, hEV, hACC⟩ := least_lang HM.out hs6 HL1.out
          have HA := Hid.of (hide_small HM.out hs6 HR.out)
          have HRM : Hid (rowB M.ev seen = true) := by show _ = _; rw [hEV]; exact HR.out
          have HBm := Hid.of (hide_small hML hM6 HRM.out)
          have HMa := Hid.of (may_hide HM.out HR.out HA.out)
          have HMb := Hid.of (may_hide hML HRM.out HBm.out)
          have HML := Hid.of hML
          have HSAME : Hid (∀ X Y, IsLeast (hideM m seen) X → IsLeast (hideM M seen) Y → X = Y ∧ 0 < X.st) := fun X Y hX hY => hide_least HM.out hML hs6 hM6 hEV hACC HR.out HMa.out HMb.out hX hY
          clear hML hEV hACC
          obtain ⟨x0, x1, x2, x3, x4⟩ := mcell_at KM.out
          go_wp2_with fail
          clear x0 x1 x2 x3 x4
          revert B KM MT KL
          show Hid (Below w.heap.size w (W3.alloc (.cells #[.int .i64 M.st, .int .i64 M.ev, .slice L.a1 M.starts.length L.c1, .slice L.a2 M.arrows.length L.c2, .slice L.a3 M.ends.length L.c3] 25))) → _
          generalize W3.alloc (.cells #[.int .i64 M.st, .int .i64 M.ev, .slice L.a1 M.starts.length L.c1, .slice L.a2 M.arrows.length L.c2, .slice L.a3 M.ends.length L.c3] 25) = W4
          generalize W3.heap.size = p1
          intro B KM MT KL
          refine (hide_okp m l sa sc seen _ (h.out.below B.out (Nat.le_refl _)) (hs.out.below B.out (Nat.le_refl _)) hsl.out (hT.out.below B.out hT.out.lt) HM.out HR.out HA.out).mono ?_
          rintro e W5 ⟨LA, rfl, mt, hb⟩
          replace B := Hid.of (B.out.trans (hb.mono B.out.size))
          replace KM := Hid.of (KM.out.below hb KM.out.lt)
          replace MT := Hid.of (MT.out.below hb (Nat.le_refl _))
          replace KL := Hid.of (KL.out.below hb KL.out.lt)
          clear hb
          have AT := Hid.of mt
          clear mt
          obtain ⟨A, HAE⟩ : ∃ A, Hid (A = hideM m seen) := ⟨_, rfl⟩
          rw [← HAE.out] at AT HMa HSAME ⊢
          have hA6 : A.st ≤ 6 := by rw [HAE.out]; exact hs6
          have hb : Below W5.heap.size W5 (W5.alloc (.cells (mcells A LA) 25)) := (Below.refl _ _).alloc (Nat.le_refl _) _
          replace B := Hid.of (B.out.trans (hb.mono B.out.size))
          replace KM := Hid.of (KM.out.below hb KM.out.lt)
          replace MT := Hid.of (MT.out.below hb (Nat.le_refl _))
          replace KL := Hid.of (KL.out.below hb KL.out.lt)
          replace AT := Hid.of (AT.out.below hb (Nat.le_refl _))
          clear hb
          have KA := Hid.of (Blk.new W5 25 (mcells A LA))
          obtain ⟨y0, y1, y2, y3, y4⟩ := mcell_at KL.out
          go_wp2_with fail
          clear y0 y1 y2 y3 y4
          revert B KM MT KL AT KA
          show Hid (Below w.heap.size w (W5.alloc (.cells #[.int .i64 A.st, .int .i64 A.ev, .slice LA.a1 A.starts.length LA.c1, .slice LA.a2 A.arrows.length LA.c2, .slice LA.a3 A.ends.length LA.c3] 25))) → _
          generalize W5.alloc (.cells #[.int .i64 A.st, .int .i64 A.ev, .slice LA.a1 A.starts.length LA.c1, .slice LA.a2 A.arrows.length LA.c2, .slice LA.a3 A.ends.length LA.c3] 25) = W6
          generalize W5.heap.size = p2
          intro B KM MT KL AT KA
          refine (hide_okp M L sa sc seen _ MT.out (hs.out.below B.out (Nat.le_refl _)) hsl.out (hT.out.below B.out hT.out.lt) HML.out HRM.out HBm.out).mono ?_
          rintro e W7 ⟨LB, rfl, mt, hb⟩
          replace B := Hid.of (B.out.trans (hb.mono B.out.size))
          replace KM := Hid.of (KM.out.below hb KM.out.lt)
          replace MT := Hid.of (MT.out.below hb (Nat.le_refl _))
          replace KL := Hid.of (KL.out.below hb KL.out.lt)
          replace AT := Hid.of (AT.out.below hb (Nat.le_refl _))
          replace KA := Hid.of (KA.out.below hb KA.out.lt)
          clear hb
          have BT := Hid.of mt
          clear mt
          obtain ⟨Bm, HBE⟩ : ∃ A, Hid (A = hideM M seen) := ⟨_, rfl⟩
          rw [← HBE.out] at BT HMb HSAME ⊢
          have hB6 : Bm.st ≤ 6 := by rw [HBE.out]; exact hM6
          have hb : Below W7.heap.size W7 (W7.alloc (.cells (mcells Bm LB) 25)) := (Below.refl _ _).alloc (Nat.le_refl _) _
          replace B := Hid.of (B.out.trans (hb.mono B.out.size))
          replace KM := Hid.of (KM.out.below hb KM.out.lt)
          replace MT := Hid.of (MT.out.below hb (Nat.le_refl _))
          replace KL := Hid.of (KL.out.below hb KL.out.lt)
          replace AT := Hid.of (AT.out.below hb (Nat.le_refl _))
          replace KA := Hid.of (KA.out.below hb KA.out.lt)
          replace BT := Hid.of (BT.out.below hb (Nat.le_refl _))
          clear hb
          have KB := Hid.of (Blk.new W7 25 (mcells Bm LB))
          obtain ⟨y0, y1, y2, y3, y4⟩ := mcell_at KA.out
          go_wp2_with fail
          clear y0 y1 y2 y3 y4
          revert B KM MT KL AT KA BT KB
          show Hid (Below w.heap.size w (W7.alloc (.cells #[.int .i64 Bm.st, .int .i64 Bm.ev, .slice LB.a1 Bm.starts.length LB.c1, .slice LB.a2 Bm.arrows.length LB.c2, .slice LB.a3 Bm.ends.length LB.c3] 25))) → _
          generalize W7.alloc (.cells #[.int .i64 Bm.st, .int .i64 Bm.ev, .slice LB.a1 Bm.starts.length LB.c1, .slice LB.a2 Bm.arrows.length LB.c2, .slice LB.a3 Bm.ends.length LB.c3] 25) = W8
          generalize W7.heap.size = p3
          intro B KM MT KL AT KA BT KB
          refine (pLeast_any A LA _ AT.out (hT.out.below B.out hT.out.lt)).mono ?_
          rintro e W9 ⟨X, LX, c, ho, rfl, mt, hb⟩
          replace B := Hid.of (B.out.trans (hb.mono B.out.size))
          replace KM := Hid.of (KM.out.below hb KM.out.lt)
          replace MT := Hid.of (MT.out.below hb (Nat.le_refl _))
          replace KL := Hid.of (KL.out.below hb KL.out.lt)
          replace AT := Hid.of (AT.out.below hb (Nat.le_refl _))
          replace KA := Hid.of (KA.out.below hb KA.out.lt)
          replace BT := Hid.of (BT.out.below hb (Nat.le_refl _))
          replace KB := Hid.of (KB.out.below hb KB.out.lt)
          clear hb
          obtain ⟨e1, hl1⟩ := ho.ok HMa.out hA6
          subst e1
          have HLX := Hid.of hl1
          have XT := Hid.of mt
          clear ho mt hl1
          have hb : Below W9.heap.size W9 (W9.alloc (.cells (mcells X LX) 25)) := (Below.refl _ _).alloc (Nat.le_refl _) _
          replace B := Hid.of (B.out.trans (hb.mono B.out.size))
          replace KM := Hid.of (KM.out.below hb KM.out.lt)
          replace MT := Hid.of (MT.out.below hb (Nat.le_refl _))
          replace KL := Hid.of (KL.out.below hb KL.out.lt)
          replace AT := Hid.of (AT.out.below hb (Nat.le_refl _))
          replace KA := Hid.of (KA.out.below hb KA.out.lt)
          replace BT := Hid.of (BT.out.below hb (Nat.le_refl _))
          replace KB := Hid.of (KB.out.below hb KB.out.lt)
          replace XT := Hid.of (XT.out.below hb (Nat.le_refl _))
          clear hb
          have KX := Hid.of (Blk.new W9 25 (mcells X LX))
          obtain ⟨y0, y1, y2, y3, y4⟩ := mcell_at KB.out
          go_wp2_with fail
          clear y0 y1 y2 y3 y4
          revert B KM MT KL AT KA BT KB XT KX
          show Hid (Below w.heap.size w (W9.alloc (.cells #[.int .i64 X.st, .int .i64 X.ev, .slice LX.a1 X.starts.length LX.c1, .slice LX.a2 X.arrows.length LX.c2, .slice LX.a3 X.ends.length LX.c3] 25))) → _
          generalize W9.alloc (.cells #[.int .i64 X.st, .int .i64 X.ev, .slice LX.a1 X.starts.length LX.c1, .slice LX.a2 X.arrows.length LX.c2, .slice LX.a3 X.ends.length LX.c3] 25) = W10
          generalize W9.heap.size = p4
          intro B KM MT KL AT KA BT KB XT KX
          refine (pLeast_any Bm LB _ BT.out (hT.out.below B.out hT.out.lt)).mono ?_
          rintro e W11 ⟨Y, LY, c, ho, rfl, mt, hb⟩
          replace B := Hid.of (B.out.trans (hb.mono B.out.size))
          replace KM := Hid.of (KM.out.below hb KM.out.lt)
          replace MT := Hid.of (MT.out.below hb (Nat.le_refl _))
          replace KL := Hid.of (KL.out.below hb KL.out.lt)
          replace AT := Hid.of (AT.out.below hb (Nat.le_refl _))
          replace KA := Hid.of (KA.out.below hb KA.out.lt)
          replace BT := Hid.of (BT.out.below hb (Nat.le_refl _))
          replace KB := Hid.of (KB.out.below hb KB.out.lt)
          replace XT := Hid.of (XT.out.below hb (Nat.le_refl _))
          replace KX := Hid.of (KX.out.below hb KX.out.lt)
          clear hb
          obtain ⟨e1, hl1⟩ := ho.ok HMb.out hB6
          subst e1
          obtain ⟨e2, hpos⟩ := HSAME.out X Y HLX.out hl1
          subst e2
          have YT := Hid.of mt
          clear ho mt hl1
          have hb : Below W11.heap.size W11 (W11.alloc (.cells (mcells X LY) 25)) := (Below.refl _ _).alloc (Nat.le_refl _) _
          replace B := Hid.of (B.out.trans (hb.mono B.out.size))
          replace KM := Hid.of (KM.out.below hb KM.out.lt)
          replace MT := Hid.of (MT.out.below hb (Nat.le_refl _))
          replace KL := Hid.of (KL.out.below hb KL.out.lt)
          replace AT := Hid.of (AT.out.below hb (Nat.le_refl _))
          replace KA := Hid.of (KA.out.below hb KA.out.lt)
          replace BT := Hid.of (BT.out.below hb (Nat.le_refl _))
          replace KB := Hid.of (KB.out.below hb KB.out.lt)
          replace XT := Hid.of (XT.out.below hb (Nat.le_refl _))
          replace KX := Hid.of (KX.out.below hb KX.out.lt)
          replace YT := Hid.of (YT.out.below hb (Nat.le_refl _))
          clear hb
          have KY := Hid.of (Blk.new W11 25 (mcells X LY))
          obtain ⟨x0, x1, x2, x3, x4⟩ := mcell_at KX.out
          go_wp2_with fail
          clear x0 x1 x2 x3 x4
          revert B KM MT KL AT KA BT KB XT KX YT KY
          show Hid (Below w.heap.size w (W11.alloc (.cells #[.int .i64 X.st, .int .i64 X.ev, .slice LY.a1 X.starts.length LY.c1, .slice LY.a2 X.arrows.length LY.c2, .slice LY.a3 X.ends.length LY.c3] 25))) → _
          generalize W11.alloc (.cells #[.int .i64 X.st, .int .i64 X.ev, .slice LY.a1 X.starts.length LY.c1, .slice LY.a2 X.arrows.length LY.c2, .slice LY.a3 X.ends.length LY.c3] 25) = W12
          generalize W11.heap.size = p5
          intro B KM MT KL AT KA BT KB XT KX YT KY
          refine (refMSame_any X X LX LY _ XT.out YT.out).mono ?_
          rintro e W13 ⟨rfl, hb⟩
          replace B := Hid.of (B.out.trans (hb.mono B.out.size))
          replace KM := Hid.of (KM.out.below hb KM.out.lt)
          replace MT := Hid.of (MT.out.below hb (Nat.le_refl _))
          replace KL := Hid.of (KL.out.below hb KL.out.lt)
          replace AT := Hid.of (AT.out.below hb (Nat.le_refl _))
          replace KA := Hid.of (KA.out.below hb KA.out.lt)
          replace BT := Hid.of (BT.out.below hb (Nat.le_refl _))
          replace KB := Hid.of (KB.out.below hb KB.out.lt)
          replace XT := Hid.of (XT.out.below hb (Nat.le_refl _))
          replace KX := Hid.of (KX.out.below hb KX.out.lt)
          replace YT := Hid.of (YT.out.below hb (Nat.le_refl _))
          replace KY := Hid.of (KY.out.below hb KY.out.lt)
          clear hb
          rw [sameM_self]
          have dp : decide ((0 : Int) < X.st) = true := by simpa using hpos
          obtain ⟨x0, x1, x2, x3, x4⟩ := mcell_at KM.out
          obtain ⟨y0, y1, y2, y3, y4⟩ := mcell_at KX.out
          cases hz : (m.ev == 0) with
          | true =>
            go_wp2_with fail
            go_ret
            exact ⟨rfl, B.out⟩
          | false =>
            go_wp2_with fail
            go_ret
            exact ⟨rfl, B.out⟩
        · have d2 : decide ((6 : Int) < M.st) = true := by simp; omega
          go_wp2_with fail
          go_ret
          exact ⟨rfl, B.out⟩
    · have d1 : decide ((6 : Int) < m.st) = true := by simp; omega
      obtain ⟨x0, x1, x2, x3, x4⟩ := mcell_at KM.out
      go_wp2_with fail
      clear x0 x1 x2 x3 x4
      go_ret
      exact ⟨rfl, B.out⟩

end Go.Proofs.YtbdkaobbfmgnhaaDoor
