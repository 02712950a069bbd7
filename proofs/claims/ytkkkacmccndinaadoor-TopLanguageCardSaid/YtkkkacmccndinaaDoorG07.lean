/-
  Plain mathematics of a machine trimmed: the states that are in both, numbered anew; it accepts the same words. No program, no model.
  What is said of a machine's block, and of slices that lie elsewhere.
  'All blocks of a world but one are as they were'.
  The walk of jalousieref1.Sorted: insertion, one number after the other: it answers 'srt xs'.
  jalousieref1.Sorted hands back a slice of its own.
-/
import Derived.Test.YtkkkacmccndinaaDoorG06
import Derived.Test.YtkkkacmccndinaaDoorG05
import Derived.Test.YtkkkacmccndinaaDoorG04
import Derived.Laws.ResultCell
import Derived.Deep.QuietTactic
import Derived.BigQuiet
namespace Go.Proofs.YtkkkacmccndinaaDoor
open Go.RowKit
set_option linter.unusedVariables false

/-- The states that are in both. -/
def trimL (m : Mach) : List Int := (reachL m).filter (fun n => hasB (liveL m) n == true)
/-- The arrows between them, numbered anew. -/
def trimA (T : List Int) (ars : List Arr) : List Arr := (ars.filter fun a => decide (0 ≤ placeI T a.f) && decide (0 ≤ placeI T a.t)).map fun a => ⟨placeI T a.f, a.e, placeI T a.t⟩
def trimM (m : Mach) : Mach := ⟨if (trimL m).length = 0 then 1 else (trimL m).length, m.ev, placesL (trimL m) m.starts, srtA (trimA (trimL m) m.arrows), placesL (trimL m) m.ends⟩

theorem trimA_take {T : List Int} {ars : List Arr} {k : Nat} {a : Arr} (h : k < ars.length) (ha : Hid (a = ars[k]?.getD arr0)) : trimA T (ars.take (k + 1)) = if (decide (0 ≤ placeI T a.f) && decide (0 ≤ placeI T a.t)) = true then trimA T (ars.take k) ++ [⟨placeI T a.f, a.e, placeI T a.t⟩] else trimA T (ars.take k) := by
  have ha := ha.out
  rw [List.getElem?_eq_getElem h, Option.getD_some] at ha
  unfold trimA
  rw [List.take_add_one, List.getElem?_eq_getElem h, List.filter_append, List.map_append, ← ha]
  by_cases c : (decide (0 ≤ placeI T a.f) && decide (0 ≤ placeI T a.t)) = true
  · rw [if_pos c]; simp only [Option.toList_some, List.filter_cons, c, if_true, List.filter_nil, List.map_cons, List.map_nil]
  · rw [if_neg c]; simp only [Option.toList_some, List.filter_cons, c, Bool.false_eq_true, if_false, List.filter_nil, List.map_nil, List.append_nil]
theorem trimA_len (T : List Int) (ars : List Arr) : (trimA T ars).length ≤ ars.length := by unfold trimA; rw [List.length_map]; exact List.length_filter_le _ _

/-! Places. -/
theorem placeN_some : ∀ {l : List Int} {n : Int} {j : Nat}, placeN l n = some j → l[j]? = some n
  | [], _, _, h => by simp [placeN] at h
  | x :: r, n, j, h => by
    unfold placeN at h
    by_cases hx : x = n
    · rw [if_pos hx] at h; cases h; simp [hx]
    · rw [if_neg hx] at h
      cases hp : placeN r n with
      | none => rw [hp] at h; cases h
      | some i => rw [hp] at h; cases h; simpa using placeN_some hp
theorem placeN_mem : ∀ {l : List Int} {n : Int}, n ∈ l → ∃ j, placeN l n = some j
  | [], _, h => by simp at h
  | x :: r, n, h => by
    unfold placeN
    by_cases hx : x = n
    · exact ⟨0, by rw [if_pos hx]⟩
    · rw [if_neg hx]
      rcases List.mem_cons.1 h with h | h
      · exact absurd h.symm hx
      · obtain ⟨j, hj⟩ := placeN_mem h
        exact ⟨j + 1, by rw [hj]; rfl⟩
theorem placeI_of {l : List Int} {n : Int} {j : Nat} (h : placeN l n = some j) : placeI l n = j := by unfold placeI placeF; rw [h]; simp
theorem placeI_nn (l : List Int) (n : Int) : 0 ≤ placeI l n ↔ n ∈ l := by
  constructor
  · intro h
    cases hp : placeN l n with
    | none => unfold placeI placeF at h; rw [hp] at h; simp at h
    | some j => exact List.mem_of_getElem? (placeN_some hp)
  · intro h
    obtain ⟨j, hj⟩ := placeN_mem h
    rw [placeI_of hj]; omega
theorem placeI_lt {l : List Int} {n : Int} (h : n ∈ l) : placeI l n < l.length := by
  obtain ⟨j, hj⟩ := placeN_mem h
  have := placeF_lt l n j hj
  rw [placeI_of hj]; omega
theorem placeI_mono {l : List Int} (hl : Inc l) {x y : Int} (hx : x ∈ l) (hy : y ∈ l) : placeI l x < placeI l y ↔ x < y := by
  obtain ⟨i, hi⟩ := placeN_mem hx
  obtain ⟨j, hj⟩ := placeN_mem hy
  rw [placeI_of hi, placeI_of hj]
  obtain ⟨i1, i2⟩ := List.getElem?_eq_some_iff.1 (placeN_some hi)
  obtain ⟨j1, j2⟩ := List.getElem?_eq_some_iff.1 (placeN_some hj)
  have hp := List.pairwise_iff_getElem.1 hl
  constructor
  · intro h
    have := hp i j i1 j1 (by omega)
    rwa [i2, j2] at this
  · intro h
    rcases Nat.lt_trichotomy i j with h1 | h1 | h1
    · omega
    · subst h1; rw [i2] at j2; omega
    · have := hp j i j1 i1 h1
      rw [i2, j2] at this; omega
theorem placeI_inj {l : List Int} {x y : Int} (hx : x ∈ l) (hy : y ∈ l) (h : placeI l x = placeI l y) : x = y := by
  obtain ⟨i, hi⟩ := placeN_mem hx
  obtain ⟨j, hj⟩ := placeN_mem hy
  rw [placeI_of hi, placeI_of hj] at h
  have e : i = j := by omega
  subst e
  have := (placeN_some hi).symm.trans (placeN_some hj)
  exact Option.some.inj this

/-! Rows and arrows in order. -/
theorem rowB_iff (n : Int) (hn : n ≤ 2147483648) (l : List Int) : rowB n l = true ↔ Inc l ∧ ∀ x ∈ l, 0 ≤ x ∧ x < n := by
  unfold rowB
  rw [goIs_iff]
  constructor
  · rintro ⟨h1, h2⟩; exact ⟨h1, fun x hx => by have := h2 x hx; omega⟩
  · rintro ⟨h1, h2⟩; exact ⟨h1, fun x hx => by have := h2 x hx; omega⟩
abbrev IncA (l : List Arr) : Prop := l.Pairwise (fun a b => aheadB a b = true)
theorem aheadB_iff (a b : Arr) : aheadB a b = true ↔ a.f < b.f ∨ (a.f = b.f ∧ (a.e < b.e ∨ (a.e = b.e ∧ a.t < b.t))) := by
  unfold aheadB
  split
  · split
    · simp only [decide_eq_true_eq]; omega
    · simp only [decide_eq_true_eq]; omega
  · simp only [decide_eq_true_eq]; omega
theorem aheadB_trans {a b c : Arr} (h : aheadB a b = true) (k : aheadB b c = true) : aheadB a c = true := by
  rw [aheadB_iff] at *; omega
theorem arrsFrom_iff (st ev : Int) : ∀ (ars : List Arr) (p : Option Arr), arrsFrom st ev p ars = true ↔ (∀ a ∈ ars, arrIn st ev a) ∧ IncA ars ∧ ∀ a ∈ ars, behindB p a = true
  | [], p => by simp [arrsFrom]
  | b :: r, p => by
    unfold arrsFrom
    by_cases hc : arrIn st ev b ∧ behindB p b = true
    · rw [if_pos hc, arrsFrom_iff st ev r (some b)]
      constructor
      · rintro ⟨h1, h2, h3⟩
        refine ⟨?_, List.pairwise_cons.2 ⟨fun a ha => h3 a ha, h2⟩, ?_⟩
        · intro a ha
          rcases List.mem_cons.1 ha with rfl | ha
          · exact hc.1
          · exact h1 a ha
        · intro a ha
          rcases List.mem_cons.1 ha with rfl | ha
          · exact hc.2
          · cases p with
            | none => rfl
            | some q => exact aheadB_trans (b := b) hc.2 (h3 a ha)
      · rintro ⟨h1, h2, h3⟩
        obtain ⟨k1, k2⟩ := List.pairwise_cons.1 h2
        exact ⟨fun a ha => h1 a (by simp [ha]), k2, k1⟩
    · rw [if_neg hc]
      constructor
      · intro h; cases h
      · rintro ⟨h1, h2, h3⟩
        exact absurd ⟨h1 b (by simp), h3 b (by simp)⟩ hc
theorem insA_last {x : Arr} : ∀ {L : List Arr}, (∀ a ∈ L, aheadB a x = true) → insA x L = L ++ [x]
  | [], _ => rfl
  | y :: r, h => by
    unfold insA
    rw [if_pos (h y (by simp)), insA_last (fun a ha => h a (by simp [ha]))]; rfl
theorem srtA_go : ∀ (l o : List Arr), IncA (o ++ l) → l.foldl (fun out x => insA x out) o = o ++ l
  | [], o, _ => by simp
  | x :: r, o, h => by
    have h1 : ∀ a ∈ o, aheadB a x = true := fun a ha => (List.pairwise_append.1 h).2.2 a ha x (by simp)
    rw [List.foldl_cons, insA_last h1, srtA_go r (o ++ [x]) (by simpa using h)]
    simp
theorem srtA_id {l : List Arr} (h : IncA l) : srtA l = l := by
  have := srtA_go l [] (by simpa using h)
  simpa [srtA] using this

/-! What is come to, of a machine that may be. -/
theorem may_arrs {m : Mach} (hm : mayB m = true) : ∀ a ∈ m.arrows, arrIn m.st m.ev a := ((arrsFrom_iff _ _ _ _).1 (mayB_arrs hm)).1
theorem may_inc {m : Mach} (hm : mayB m = true) : IncA m.arrows := ((arrsFrom_iff _ _ _ _).1 (mayB_arrs hm)).2.1
theorem may_starts {m : Mach} (hm : mayB m = true) : Inc m.starts ∧ ∀ x ∈ m.starts, 0 ≤ x ∧ x < m.st := (rowB_iff _ (by have := mayB_size hm; unfold sizeOk at this; omega) _).1 (mayB_starts hm)
theorem may_ends {m : Mach} (hm : mayB m = true) : Inc m.ends ∧ ∀ x ∈ m.ends, 0 ≤ x ∧ x < m.st := (rowB_iff _ (by have := mayB_size hm; unfold sizeOk at this; omega) _).1 (mayB_ends hm)
theorem mem_reach {m : Mach} (hm : mayB m = true) (x : Int) : x ∈ reachL m ↔ Rch (·.f) (·.t) m.arrows m.starts x := by
  have hz := mayB_size hm
  unfold sizeOk at hz
  have hs := may_starts hm
  have ha := may_arrs hm
  unfold reachL
  rw [mem_srt]
  exact mem_close (fun a h => by have := ha a h; omega) (inc_nodup hs.1) (fun y hy => by have := hs.2 y hy; omega) x
theorem mem_live {m : Mach} (hm : mayB m = true) (x : Int) : x ∈ liveL m ↔ Rch (·.t) (·.f) m.arrows m.ends x := by
  have hz := mayB_size hm
  unfold sizeOk at hz
  have hs := may_ends hm
  have ha := may_arrs hm
  unfold liveL
  rw [mem_srt]
  exact mem_close (fun a h => by have := ha a h; omega) (inc_nodup hs.1) (fun y hy => by have := hs.2 y hy; omega) x
theorem rch_bd {fr to : Arr → Int} {ars : List Arr} {l : List Int} {n x : Int} (hl : ∀ x ∈ l, 0 ≤ x ∧ x < n) (ha : ∀ a ∈ ars, 0 ≤ to a ∧ to a < n) (h : Rch fr to ars l x) : 0 ≤ x ∧ x < n :=
  h (fun x => 0 ≤ x ∧ x < n) ⟨hl, fun a h _ => ha a h⟩
theorem reach_bd {m : Mach} (hm : mayB m = true) {x : Int} (h : x ∈ reachL m) : 0 ≤ x ∧ x < m.st :=
  rch_bd (may_starts hm).2 (fun a ha => by have := may_arrs hm a ha; omega) ((mem_reach hm x).1 h)
theorem mem_trim (m : Mach) (x : Int) : x ∈ trimL m ↔ x ∈ reachL m ∧ x ∈ liveL m := by
  unfold trimL
  rw [List.mem_filter, beq_iff_eq, hasB_iff]
theorem inc_trim (m : Mach) : Inc (trimL m) := (inc_srt _).filter _
theorem trim_le {m : Mach} (hm : mayB m = true) : (trimL m).length ≤ m.st.toNat := by
  have hz := mayB_size hm
  unfold sizeOk at hz
  exact nodup_len _ _ (inc_nodup (inc_trim m)) (fun x hx => by have := reach_bd hm ((mem_trim m x).1 hx).1; omega)

/-! The trimmed machine may be. -/
theorem mem_places (T ss : List Int) (x : Int) : x ∈ placesL T ss ↔ ∃ s ∈ ss, s ∈ T ∧ placeI T s = x := by
  unfold placesL
  simp only [List.mem_filter, List.mem_map, decide_eq_true_eq]
  constructor
  · rintro ⟨⟨s, h1, rfl⟩, h2⟩; exact ⟨s, h1, (placeI_nn _ _).1 h2, rfl⟩
  · rintro ⟨s, h1, h2, rfl⟩; exact ⟨⟨s, h1, rfl⟩, (placeI_nn _ _).2 h2⟩
theorem inc_places {T ss : List Int} (hT : Inc T) (hs : Inc ss) : Inc (placesL T ss) := by
  unfold placesL
  rw [List.filter_map]
  refine List.pairwise_map.2 ?_
  refine (hs.filter _).imp_of_mem ?_
  intro a b ha hb hab
  simp only [List.mem_filter, Function.comp_apply, decide_eq_true_eq, placeI_nn] at ha hb
  exact (placeI_mono hT ha.2 hb.2).2 hab
theorem mem_trimA (T : List Int) (ars : List Arr) (x : Arr) : x ∈ trimA T ars ↔ ∃ a ∈ ars, a.f ∈ T ∧ a.t ∈ T ∧ x = ⟨placeI T a.f, a.e, placeI T a.t⟩ := by
  unfold trimA
  simp only [List.mem_map, List.mem_filter, Bool.and_eq_true, decide_eq_true_eq, placeI_nn]
  constructor
  · rintro ⟨a, ⟨h1, h2, h3⟩, rfl⟩; exact ⟨a, h1, h2, h3, rfl⟩
  · rintro ⟨a, h1, h2, h3, rfl⟩; exact ⟨a, ⟨h1, h2, h3⟩, rfl⟩
theorem inc_trimA {T : List Int} {ars : List Arr} (hT : Inc T) (ha : IncA ars) : IncA (trimA T ars) := by
  unfold trimA
  refine List.pairwise_map.2 ?_
  refine (ha.filter _).imp_of_mem ?_
  intro a b h1 h2 hab
  simp only [List.mem_filter, Bool.and_eq_true, decide_eq_true_eq, placeI_nn] at h1 h2
  rw [aheadB_iff] at hab ⊢
  dsimp only
  have m1 := placeI_mono hT h1.2.1 h2.2.1
  have m2 := placeI_mono hT h1.2.2 h2.2.2
  rcases hab with h | ⟨h, h'⟩
  · exact .inl (m1.2 h)
  · refine .inr ⟨by rw [h], ?_⟩
    rcases h' with h' | ⟨h', h''⟩
    · exact .inl h'
    · exact .inr ⟨h', m2.2 h''⟩
theorem srt_trimA {m : Mach} (hm : mayB m = true) : srtA (trimA (trimL m) m.arrows) = trimA (trimL m) m.arrows := srtA_id (inc_trimA (inc_trim m) (may_inc hm))
theorem may_trim {m : Mach} (hm : mayB m = true) : mayB (trimM m) = true := by
  have hz := mayB_size hm
  unfold sizeOk at hz
  have hl := trim_le hm
  have hst : 1 ≤ (trimM m).st ∧ (trimM m).st ≤ 256 ∧ ((trimL m).length : Int) ≤ (trimM m).st := by
    unfold trimM; dsimp only; split <;> omega
  have hT := inc_trim m
  rw [mayB_go ⟨hst.1, hst.2.1, hz.2.2.1, hz.2.2.2.1, Nat.le_trans (Nat.le_trans (srtA_len _) (trimA_len _ _)) hz.2.2.2.2⟩ ((rowB_iff _ (by omega) _).2 ⟨inc_places hT (may_starts hm).1, fun x hx => ?_⟩) ((rowB_iff _ (by omega) _).2 ⟨inc_places hT (may_ends hm).1, fun x hx => ?_⟩)]
  · rw [arrsFrom_iff]
    show (∀ a ∈ srtA (trimA (trimL m) m.arrows), _) ∧ IncA (srtA (trimA (trimL m) m.arrows)) ∧ _
    rw [srt_trimA hm]
    refine ⟨?_, inc_trimA hT (may_inc hm), fun _ _ => rfl⟩
    intro a ha
    obtain ⟨b, h1, h2, h3, rfl⟩ := (mem_trimA _ _ _).1 ha
    have i1 := placeI_lt h2
    have i2 := placeI_lt h3
    have i3 := (placeI_nn _ _).2 h2
    have i4 := (placeI_nn _ _).2 h3
    have i5 := may_arrs hm b h1
    exact ⟨i3, by dsimp only; omega, i4, by dsimp only; omega, i5.2.2.2.2.1, i5.2.2.2.2.2⟩
  · obtain ⟨s, h1, h2, rfl⟩ := (mem_places _ _ _).1 hx
    have i1 := placeI_lt h2
    exact ⟨(placeI_nn _ _).2 h2, by omega⟩
  · obtain ⟨s, h1, h2, rfl⟩ := (mem_places _ _ _).1 hx
    have i1 := placeI_lt h2
    exact ⟨(placeI_nn _ _).2 h2, by omega⟩

/-! The trimmed machine accepts the same words. -/
structure TrimOf (m : Mach) (ss ss' : List Int) : Prop where
  mem : ∀ x, x ∈ ss' ↔ ∃ s ∈ ss, s ∈ trimL m ∧ placeI (trimL m) s = x
  sub : ∀ s ∈ ss, s ∈ reachL m
theorem trim_step {m : Mach} (hm : mayB m = true) {ss ss' : List Int} (h : TrimOf m ss ss') (e : Int) : TrimOf m (stepL m.arrows ss e) (stepL (trimM m).arrows ss' e) := by
  have hst : ∀ a ∈ m.arrows, a.f ∈ reachL m → a.t ∈ reachL m := fun a ha hf => (mem_reach hm _).2 (rch_step (fr := (·.f)) (to := (·.t)) ha ((mem_reach hm _).1 hf))
  have hlv : ∀ a ∈ m.arrows, a.t ∈ liveL m → a.f ∈ liveL m := fun a ha hf => (mem_live hm _).2 (rch_step (fr := (·.t)) (to := (·.f)) ha ((mem_live hm _).1 hf))
  refine ⟨fun x => ?_, fun s hs => ?_⟩
  · rw [mem_stepL]
    show (∃ a ∈ srtA (trimA (trimL m) m.arrows), _) ↔ _
    rw [srt_trimA hm]
    constructor
    · rintro ⟨a', ha', h1, h2, h3⟩
      obtain ⟨a, ha, hf, ht, rfl⟩ := (mem_trimA _ _ _).1 ha'
      obtain ⟨s, hs, hsT, hp⟩ := (h.mem _).1 h2
      have : s = a.f := placeI_inj hsT hf hp
      subst this
      exact ⟨a.t, (mem_stepL _ _ _ _).2 ⟨a, ha, h1, hs, rfl⟩, ht, h3⟩
    · rintro ⟨s, hs, hsT, hp⟩
      obtain ⟨a, ha, h1, h2, rfl⟩ := (mem_stepL _ _ _ _).1 hs
      have hfT : a.f ∈ trimL m := (mem_trim m _).2 ⟨h.sub _ h2, hlv a ha ((mem_trim m _).1 hsT).2⟩
      exact ⟨_, (mem_trimA _ _ _).2 ⟨a, ha, hfT, hsT, rfl⟩, h1, (h.mem _).2 ⟨a.f, h2, hfT, rfl⟩, hp⟩
  · obtain ⟨a, ha, -, h2, rfl⟩ := (mem_stepL _ _ _ _).1 hs
    exact hst a ha (h.sub _ h2)
theorem trim_after {m : Mach} (hm : mayB m = true) : ∀ (word : List Int) {ss ss' : List Int}, TrimOf m ss ss' → TrimOf m (afterL m.arrows ss word) (afterL (trimM m).arrows ss' word)
  | [], _, _, h => h
  | e :: r, _, _, h => trim_after hm r (trim_step hm h e)
theorem accepts_iff (m : Mach) (word : List Int) : acceptsB m word = true ↔ ∃ x ∈ afterL m.arrows m.starts word, x ∈ m.ends := by
  unfold acceptsB acceptsL
  rw [decide_eq_true_eq, List.length_pos_iff_exists_mem]
  simp only [List.mem_filter, beq_iff_eq, hasB_iff]
theorem trim_accepts {m : Mach} (hm : mayB m = true) (word : List Int) : acceptsB (trimM m) word = acceptsB m word := by
  have h0 : TrimOf m m.starts (trimM m).starts := ⟨fun x => mem_places _ _ x, fun s hs => (mem_reach hm s).2 (rch_start hs)⟩
  have h1 := trim_after hm word h0
  rw [Bool.eq_iff_iff, accepts_iff, accepts_iff]
  constructor
  · rintro ⟨x, hx, he⟩
    obtain ⟨s, hs, hsT, hp⟩ := (h1.mem x).1 hx
    obtain ⟨t, ht, htT, hq⟩ := (mem_places _ _ _).1 he
    have : s = t := placeI_inj hsT htT (hp.trans hq.symm)
    subst this
    exact ⟨s, hs, ht⟩
  · rintro ⟨s, hs, he⟩
    have hT : s ∈ trimL m := (mem_trim m s).2 ⟨h1.sub s hs, (mem_live hm s).2 (rch_start he)⟩
    exact ⟨_, (h1.mem _).2 ⟨s, hs, hT, rfl⟩, (mem_places _ _ _).2 ⟨s, he, hT, rfl⟩⟩

end Go.Proofs.YtkkkacmccndinaaDoor
namespace Go.Proofs.YtkkkacmccndinaaDoor
open Go.RowKit
set_option linter.unusedVariables false

abbrev zcells : Array Value := #[.int .i64 0, .int .i64 0, .slice none 0 0, .slice none 0 0, .slice none 0 0]
theorem mcell_at {W : World} {b : Nat} {m : Mach} {l : ML} (h : Blk W b 25 (mcells m l)) : W.cell? ⟨b, 0, none⟩ = some (.int .i64 m.st) ∧ W.cell? ⟨b, 1, none⟩ = some (.int .i64 m.ev) ∧ W.cell? ⟨b, 2, none⟩ = some (.slice l.a1 m.starts.length l.c1) ∧ W.cell? ⟨b, 3, none⟩ = some (.slice l.a2 m.arrows.length l.c2) ∧ W.cell? ⟨b, 4, none⟩ = some (.slice l.a3 m.ends.length l.c3) :=
  ⟨h.cell 0 rfl, h.cell 1 rfl, h.cell 2 rfl, h.cell 3 rfl, h.cell 4 rfl⟩

/-- A slice that lies neither in block bn nor up to block r. -/
def AtX (w : World) (r bn : Nat) (a : Option Addr) (xs : List Int) : Prop := xs = [] ∨ ∃ b off, a = some ⟨b, off, none⟩ ∧ (b ≠ bn ∧ b ≠ r) ∧ b < w.heap.size ∧ Cells w b off xs
theorem AtX.at {w : World} {r B : Nat} {a : Option Addr} {xs : List Int} (h : AtX w r B a xs) : At w a xs := by
  rcases h with h | ⟨b, off, h1, -, h2, h3⟩
  · exact .inl h
  · exact .inr ⟨b, off, h1, h2, h3⟩
theorem AtX.below {w w' : World} {r B : Nat} {a : Option Addr} {xs : List Int} (h : AtX w r B a xs) (hb : Below w.heap.size w w') : AtX w' r B a xs := by
  rcases h with h | ⟨b, off, h1, h0, h2, h3⟩
  · exact .inl h
  · exact .inr ⟨b, off, h1, h0, Nat.lt_of_lt_of_le h2 hb.size, fun j hj => (hb.cell (p := ⟨b, off + j, none⟩) h2).trans (h3 j hj)⟩
theorem AtX.set0 {w : World} {r bn g j : Nat} {a : Option Addr} {xs : List Int} (h : AtX w r bn a xs) (v : Value) (hg : g = bn ∨ g = r) : AtX (w.setCell ⟨g, j, none⟩ v) r bn a xs := by
  rcases h with h | ⟨b, off, h1, h0, h2, h3⟩
  · exact .inl h
  · refine .inr ⟨b, off, h1, h0, by simpa [World.setCell] using h2, fun i hi => ?_⟩
    rw [← h3 i hi]
    exact World.cell?_of_block (w := w) (Below.heap_setCell w ⟨g, j, none⟩ v b (by show b ≠ g; omega))
theorem AtX.set {w : World} {r bn j : Nat} {a : Option Addr} {xs : List Int} (h : AtX w r bn a xs) (v : Value) : AtX (w.setCell ⟨bn, j, none⟩ v) r bn a xs := h.set0 v (.inl rfl)
theorem AtX.setr {w : World} {r bn j : Nat} {a : Option Addr} {xs : List Int} (h : AtX w r bn a xs) (v : Value) : AtX (w.setCell ⟨r, j, none⟩ v) r bn a xs := h.set0 v (.inr rfl)
theorem own_atX {w : World} {B : Nat} {v : Value} {xs : List Int} (h : Own w B v xs) (r bn : Nat) (hr : r < B) (hn : bn < B ∨ w.heap.size ≤ bn) : ∃ a cap, v = .slice a xs.length cap ∧ AtX w r bn a xs ∧ xs.length ≤ cap ∧ cap ≤ maxLen ∧ (a = none → cap = 0) := by
  rcases h.cells_of with ⟨rfl, rfl⟩ | ⟨g, cap, rfl, h1, h2, h3, -⟩
  · exact ⟨none, 0, rfl, .inl rfl, Nat.le_refl _, Nat.zero_le _, fun _ => rfl⟩
  · obtain ⟨a, c, e, -, k1, k2, k3⟩ := h.at2
    cases e
    exact ⟨_, _, rfl, .inr ⟨g, 0, rfl, by omega, h2, h3⟩, k1, k2, k3⟩
theorem size_set (w : World) (a : Addr) (v : Value) : (w.setCell a v).heap.size = w.heap.size := by simp [World.setCell]
/-- Arrows that do not lie in block g. -/
def AtXA (w : World) (g : Nat) (a : Option Addr) (ars : List Arr) : Prop := ars = [] ∨ ∃ b off, a = some ⟨b, off, none⟩ ∧ b ≠ g ∧ b < w.heap.size ∧ CellsA w b off ars
theorem AtXA.at {w : World} {g : Nat} {a : Option Addr} {ars : List Arr} (h : AtXA w g a ars) : AtA w a ars := by
  rcases h with h | ⟨b, off, h1, -, h2, h3⟩
  · exact .inl h
  · exact .inr ⟨b, off, h1, h2, h3⟩
theorem AtXA.set {w : World} {g j : Nat} {a : Option Addr} {ars : List Arr} (h : AtXA w g a ars) (v : Value) : AtXA (w.setCell ⟨g, j, none⟩ v) g a ars := by
  rcases h with h | ⟨b, off, h1, hne, h2, h3⟩
  · exact .inl h
  · refine .inr ⟨b, off, h1, hne, by simpa [World.setCell] using h2, fun i hi => ?_⟩
    obtain ⟨k1, k2, k3⟩ := h3 i hi
    exact ⟨(World.cell?_of_block (w := w) (Below.heap_setCell w ⟨g, j, none⟩ v b hne)).trans k1, (World.cell?_of_block (w := w) (Below.heap_setCell w ⟨g, j, none⟩ v b hne)).trans k2, (World.cell?_of_block (w := w) (Below.heap_setCell w ⟨g, j, none⟩ v b hne)).trans k3⟩
/-- Arrows do not lie in a machine's block. -/
theorem AtA.apart {w : World} {bn : Nat} {t : TypeId} {a : Option Addr} {ars : List Arr} {x y : Int} {a1 a2 a3 : Option Addr} {n1 n2 n3 c1 c2 c3 : Nat} (h : AtA w a ars) (hB : Blk w bn t #[.int .i64 x, .int .i64 y, .slice a1 n1 c1, .slice a2 n2 c2, .slice a3 n3 c3]) : AtXA w bn a ars := by
  rcases h with h | ⟨b, off, h1, h2, h3⟩
  · exact .inl h
  · by_cases he : ars = []
    · exact .inl he
    · have hlen : 0 < ars.length := List.length_pos_iff.2 he
      have hne : b ≠ bn := by
        rintro rfl
        obtain ⟨k1, k2, k3⟩ := h3 0 hlen
        have hf : ∀ i v, w.cell? ⟨b, i, none⟩ = some v → (#[Value.int .i64 x, .int .i64 y, .slice a1 n1 c1, .slice a2 n2 c2, .slice a3 n3 c3] : Array Value)[i]? = some v := fun i v hv => by
          have := hv
          simp only [World.cell?, show w.heap[b]? = _ from hB] at this
          simpa using this
        have q := hf _ _ k3
        have hi : off + 0 * 3 + 2 = 2 ∨ off + 0 * 3 + 2 = 3 ∨ off + 0 * 3 + 2 = 4 ∨ 5 ≤ off + 0 * 3 + 2 := by omega
        rcases hi with hi | hi | hi | hi
        · rw [hi] at q; simp at q
        · rw [hi] at q; simp at q
        · rw [hi] at q; simp at q
        · rw [Array.getElem?_eq_none (by simpa using hi)] at q; cases q
      exact .inr ⟨b, off, h1, hne, h2, h3⟩
theorem atA_new (W : World) (t : TypeId) (x : Arr) (b : Nat) (hb : b = W.heap.size) : AtA (W.alloc (.cells #[.int .i64 x.f, .int .i64 x.e, .int .i64 x.t] t)) (some ⟨b, 0, none⟩) [x] := by
  subst hb
  refine .inr ⟨_, 0, rfl, by simp, fun j hj => ?_⟩
  have : j = 0 := by simp at hj; omega
  subst this
  exact ⟨(Blk.new W t #[.int .i64 x.f, .int .i64 x.e, .int .i64 x.t]).cell 0 rfl, (Blk.new W t #[.int .i64 x.f, .int .i64 x.e, .int .i64 x.t]).cell 1 rfl, (Blk.new W t #[.int .i64 x.f, .int .i64 x.e, .int .i64 x.t]).cell 2 rfl⟩
theorem ownA_snoc2 {w wr w1 : World} {B : Nat} {v : Value} {L : List Arr} {o o' : Obj} (hown : OwnA wr B v L) (hb : Below B w wr) (hB : B ≤ wr.heap.size) (hgrow : ((wr.alloc o).alloc o').grownBy w1 v.ownBlock) : Below B w w1 :=
  ((hb.alloc hB o).alloc (by simp; omega) o').grown hgrow (by simp; omega) (fun j hj => (World.ownsRow.lt hown j hj).1)
theorem startsLen {m : Mach} (hm : mayB m = true) : m.starts.length ≤ 4096 := by
  have hz := mayB_size hm
  have hr := mayB_starts hm
  unfold sizeOk at hz
  unfold rowB at hr
  have := goIs_len _ _ _ (by omega) hr
  omega
theorem endsLen {m : Mach} (hm : mayB m = true) : m.ends.length ≤ 4096 := by
  have hz := mayB_size hm
  have hr := mayB_ends hm
  unfold sizeOk at hz
  unfold rowB at hr
  have := goIs_len _ _ _ (by omega) hr
  omega

end Go.Proofs.YtkkkacmccndinaaDoor
namespace Go.Proofs.YtkkkacmccndinaaDoor
open Go.RowKit
set_option linter.unusedVariables false

/-- All blocks of X but b are as they were. -/
structure Kp (b : Nat) (X W : World) : Prop where
  size : X.heap.size ≤ W.heap.size
  same : ∀ k, k < X.heap.size → k ≠ b → W.heap[k]? = X.heap[k]?
theorem Kp.refl (b : Nat) (X : World) : Kp b X X := ⟨Nat.le_refl _, fun _ _ _ => rfl⟩
theorem Kp.alloc {b : Nat} {X W : World} (h : Kp b X W) (o : Obj) : Kp b X (W.alloc o) :=
  ⟨by rw [World.size_alloc]; exact Nat.le_succ_of_le h.size, fun k hk hne => (Below.heap_alloc W o k (Nat.lt_of_lt_of_le hk h.size)).trans (h.same k hk hne)⟩
theorem Kp.set {b : Nat} {X W : World} (h : Kp b X W) (j : Nat) (v : Value) : Kp b X (W.setCell ⟨b, j, none⟩ v) :=
  ⟨by simpa [World.setCell] using h.size, fun k hk hne => (Below.heap_setCell W ⟨b, j, none⟩ v k hne).trans (h.same k hk hne)⟩
theorem Kp.grown {b : Nat} {X W W' : World} {row : Option Nat} (h : Kp b X W) (g : W.grownBy W' row) (hr : ∀ k, row = some k → X.heap.size ≤ k) : Kp b X W' :=
  ⟨Nat.le_trans h.size g.size, fun k hk hne => (g.block k (Nat.lt_of_lt_of_le hk h.size) (fun e => by have := hr k e.symm; omega)).trans (h.same k hk hne)⟩
theorem Kp.blk {b k : Nat} {X W : World} {t : TypeId} {cs : Array Value} (h : Kp b X W) (hB : Blk X k t cs) (hne : k ≠ b) : Blk W k t cs := (h.same k hB.lt hne).trans hB

end Go.Proofs.YtkkkacmccndinaaDoor
namespace Go.Proofs.YtkkkacmccndinaaDoor
open Go.RowKit
set_option linter.unusedVariables false

theorem getD_cons_succ' (y : Int) (r : List Int) (j : Nat) : (y :: r)[j + 1]?.getD 0 = r[j]?.getD 0 := by simp

theorem ins_put {x : Int} : ∀ {L : List Int} {p : Nat}, p ≤ L.length → (∀ j, j < p → L[j]?.getD 0 < x) → (p = L.length ∨ x < L[p]?.getD 0) → ins x L = L.take p ++ x :: L.drop p
  | [], p, hp, _, _ => by have : p = 0 := by simpa using hp
                          subst this; simp [ins]
  | y :: r, 0, _, _, h => by
    rcases h with h | h
    · simp at h
    · have h : x < y := by simpa using h
      simp only [ins, List.take_zero, List.drop_zero, List.nil_append]
      rw [if_neg (by omega), if_neg (by omega)]
  | y :: r, p + 1, hp, hl, h => by
    have h0 : y < x := by simpa using hl 0 (by omega)
    have := ins_put (x := x) (L := r) (p := p) (by simpa using hp) (fun j hj => by have := hl (j + 1) (by omega); rwa [getD_cons_succ'] at this) (by rcases h with h | h; left; simpa using h; right; rwa [getD_cons_succ'] at h)
    simp only [ins]
    rw [if_pos h0, this]
    simp
theorem ins_same {x : Int} : ∀ {L : List Int} {p : Nat}, p < L.length → (∀ j, j < p → L[j]?.getD 0 < x) → L[p]?.getD 0 = x → ins x L = L
  | [], p, hp, _, _ => by simp at hp
  | y :: r, 0, _, _, h => by
    have h : y = x := by simpa using h
    simp only [ins]
    rw [if_neg (by omega), if_pos h]
  | y :: r, p + 1, hp, hl, h => by
    have h0 : y < x := by simpa using hl 0 (by omega)
    have := ins_same (x := x) (L := r) (p := p) (by simpa using hp) (fun j hj => by have := hl (j + 1) (by omega); rwa [getD_cons_succ'] at this) (by rwa [getD_cons_succ'] at h)
    simp only [ins]
    rw [if_pos h0, this]

/-- The list with one place more, at c. -/
def gap (L : List Int) (c : Nat) (y : Int) : List Int := L.take c ++ y :: L.drop c

theorem gap_len {L : List Int} {c : Nat} {y : Int} (h : c ≤ L.length) : (gap L c y).length = L.length + 1 := by simp [gap]; omega
theorem gap_end (L : List Int) : L ++ [0] = gap L L.length 0 := by simp [gap]
theorem gap_at {L : List Int} {c : Nat} {y : Int} (h : c < L.length) : (gap L (c + 1) y)[c]?.getD 0 = L[c]?.getD 0 := by
  rw [gap, List.getElem?_append_left (by simp; omega), List.getElem?_take_of_lt (by omega)]
theorem gap_set {L : List Int} {c : Nat} {y x : Int} (h : c ≤ L.length) : (gap L c y).set c x = gap L c x := by
  rw [gap, gap, List.set_append_right _ _ (by simp; omega)]
  simp only [List.length_take]
  rw [show c - min c L.length = 0 by omega]; rfl
theorem gap_move {L : List Int} {c : Nat} {y : Int} (h : c < L.length) : (gap L (c + 1) y).set (c + 1) (L[c]?.getD 0) = gap L c (L[c]?.getD 0) := by
  rw [gap_set (by omega), gap, gap, List.take_add_one, List.getElem?_eq_getElem h]
  conv => rhs; rw [List.drop_eq_getElem_cons h]
  simp only [Option.toList_some, Option.getD_some, List.append_assoc, List.singleton_append]

theorem Own.cellAt {w : World} {B g n cap : Nat} {M : List Int} (h : Own w B (.slice (some ⟨g, 0, none⟩) n cap) M) {j : Nat} (hj : j < M.length) : w.cell? ⟨g, j, none⟩ = some (.int .i64 (M[j]?.getD 0)) ∧ w.frozen? ⟨g, j, none⟩ = false ∧ B ≤ g := by
  rcases h.cells_of with ⟨h0, _⟩ | ⟨g', cap', h0, hb, hg, hc, hf⟩
  · simp at h0
  · simp only [Value.slice.injEq, Option.some.injEq, Addr.mk.injEq, and_true] at h0
    obtain ⟨rfl, rfl, rfl⟩ := h0
    have := hc j hj
    rw [Nat.zero_add, List.getD_eq_getElem?_getD] at this
    exact ⟨this, hf j, hb⟩
theorem Own.stored {w : World} {B g n cap : Nat} {M : List Int} (h : Own w B (.slice (some ⟨g, 0, none⟩) n cap) M) (j : Nat) (x : Int) : Own (w.setCell ⟨g, j, none⟩ (.int .i64 x)) B (.slice (some ⟨g, 0, none⟩) n cap) (M.set j x) := by
  have hn : n = M.length := by
    rcases h.2 with ⟨h0, _⟩ | ⟨g', cap', cur, h0, _⟩
    · simp at h0
    · simp only [Value.slice.injEq] at h0; exact h0.2.1
  subst hn
  have := (World.ownsRow.stored h j (.int .i64 x)).1
  unfold Own
  rw [List.length_set, List.map_set]
  exact this
theorem Own.shape {w : World} {B : Nat} {v : Value} {M : List Int} (h : Own w B v M) (hp : 0 < M.length) : ∃ g cap, v = .slice (some ⟨g, 0, none⟩) M.length cap := by
  rcases h.cells_of with ⟨_, h0⟩ | ⟨g', cap', h0, _⟩
  · subst h0; simp at hp
  · exact ⟨g', cap', h0⟩

theorem srt_take {xs : List Int} {k : Nat} {x : Int} (h : k < xs.length) (hx : Hid (x = xs[k]?.getD 0)) : srt (xs.take (k + 1)) = ins x (srt (xs.take k)) := by
  have hx := hx.out
  rw [List.getElem?_eq_getElem h, Option.getD_some] at hx
  rw [List.take_add_one, List.getElem?_eq_getElem h, Option.toList_some, srt_snoc, hx]

set_option maxHeartbeats 2000000 in
set_option maxRecDepth 100000 in
theorem sorted_some (bx ox cx : Nat) (xs : List Int) (w : World) (hl : xs.length ≤ 17592186044416) (hbx : bx < w.heap.size) (hc : Cells w bx ox xs) :
    Calls Tryd.prog 84 #[.slice (some ⟨bx, ox, none⟩) xs.length cx] w fun e w' => ∃ v, e = .returned v ∧ Own w' w.heap.size v (srt xs) ∧ Below w.heap.size w w' := by
  obtain ⟨i0, hi, hz0, hz1, hz2⟩ := info_parts Tryd.infoInt
  go_enter Tryd.func84, Tryd.ntmps84
  go_wp2
  go_loopw [3, 4] (fun v i wr => ∃ k : Nat, k ≤ xs.length ∧ i = .int .i64 k ∧ Own wr w.heap.size v (srt (xs.take k)) ∧ Below w.heap.size w wr) (fun _ i _ => xs.length - (intOf i).toNat)
  case atStart => exact ⟨0, Nat.zero_le _, rfl, own_nil _ _, Below.refl _ _⟩
  case round =>
    obtain ⟨k, hk, rfl, hown, hbel⟩ := hrel
    by_cases hlt : k < xs.length
    · obtain ⟨x, HX, hcx0⟩ := hc.at hlt
      obtain ⟨wo, hwo⟩ : ∃ wo : World, wo = wr := ⟨_, rfl⟩
      subst hwo
      have hcx : wo.cell? ⟨bx, ox + k, none⟩ = some (.int .i64 x) := (hbel.cell (p := ⟨bx, ox + k, none⟩) hbx).trans hcx0
      have hcx00 := hcx0
      clear hcx0
      have hnext : Hid (srt (xs.take (k + 1)) = ins x (srt (xs.take k))) := srt_take hlt HX
      have hll : (srt (xs.take k)).length ≤ k := Nat.le_trans (srt_len _) (List.length_take_le _ _)
      generalize srt (xs.take k) = L at *
      obtain ⟨a, cap, rfl, hat, hlm⟩ := hown.at
      unfold maxLen at hlm
      go_wp2
      go_loopw [5] (fun i wr' => ∃ p q : Nat, p ≤ L.length ∧ i = .int .i64 p ∧ wr' = wo.drewN q ∧ Hid (∀ j, j < p → L[j]?.getD 0 < x)) (fun i _ => L.length - (intOf i).toNat)
      case atStart => exact ⟨0, 0, Nat.zero_le _, rfl, rfl, fun j hj => by omega⟩
      case round =>
        obtain ⟨p, q, hp, rfl, rfl, hlow⟩ := hrel
        by_cases hpl : p < L.length
        · rcases hat with h0 | ⟨b, off, rfl, hb, hca⟩
          · subst h0; simp at hpl
          · obtain ⟨y, HY, hcy⟩ := hca.at hpl
            by_cases c1 : y < x
            · have d : decide (y < x) = true := by simpa using c1
              go_wp2
              go_quiet (fail)
              go_wp2
              go_roundw
              case rel => exact ⟨p + 1, _, by omega, by go_num, rfl, fun j hj => by
                by_cases e : j = p
                · subst e; have := HY.out; omega
                · exact hlow.out j (by omega)⟩
              case measure => simp [intOf]; omega
            · have d : decide (y < x) = false := by simpa using c1
              go_wp2
              go_quiet (fail)
              go_wp2
              obtain ⟨Q, hQ⟩ : ∃ Q, (wo.drewN q).drewN nq = wo.drewN Q := ⟨_, World.drewN_drewN _ _ _⟩
              rw [hQ]
              clear hQ
              by_cases c2 : y = x
              · have HC : Hid (y = x) := c2
                have d2 : (y == x) = true := by simp [c2]
                clear c2
                have E2 : Hid (srt (xs.take (k + 1)) = L) := by show _ = _; rw [hnext.out]; exact ins_same hpl hlow.out (by rw [← HY.out]; exact HC.out)
                go_quiet (fail)
                go_wp2
                go_roundw
                case rel => exact ⟨k + 1, by omega, by go_num, by rw [E2.out]; exact hown.drewN _, below_drewN hbel _⟩
                case measure => simp [intOf]; omega
              · have d2 : (y == x) = false := by simp [c2]
                go_quiet (fail)
                obtain ⟨Q', hQ'⟩ : ∃ Q', (wo.drewN Q).drewN nq = wo.drewN Q' := ⟨_, World.drewN_drewN _ _ _⟩
                rw [hQ']
                clear hQ'
                have HE : Hid (p = L.length ∨ x < L[p]?.getD 0) := .inr (by have := HY.out; omega)
                obtain ⟨wq, hwq⟩ : ∃ wq : World, wq = wo.drewN Q' := ⟨_, rfl⟩
                have hown0 : Own wq w.heap.size (.slice (some ⟨b, off, none⟩) L.length cap) L := by rw [hwq]; exact hown.drewN Q'
                have hbelo : Below w.heap.size w wq := by rw [hwq]; exact below_drewN hbel _
                have hcxq : wq.cell? ⟨bx, ox + k, none⟩ = some (.int .i64 x) := by rw [hwq]; exact hcx
                rw [← hwq]
                clear hwq hown hbel hcx
                have hszo : w.heap.size ≤ wq.heap.size := hbelo.size
                have hbxq : bx < wq.heap.size := by omega
                go_wp2_with (at_builtin; refine wpList_append_own _ rfl _ _ 22 rfl w.heap.size 3 i0 (.int .i64 0) 1 8 Tryd.underlying22 hi hz0 hz1 hz2 rfl (by decide) _ _ _ rfl (World.ownsRow.alloc hown0 _) ⟨wq.heap.size, 0, none⟩ 1 1 [.int .i64 0] rfl rfl (cell_one_new _ _ _) (by intro u hu; simp at hu; subst hu; rfl) (by unfold maxLen; omega) (by omega) (by simp; omega) ?_)
                intro v' w1 hown' hgrow _
                obtain ⟨o1, o2, -⟩ := own_snoc hown0 hbelo hszo hown' hgrow
                clear hown' hgrow hown0 hcxq
                obtain ⟨g, cap', rfl⟩ := o1.shape (by simp)
                rw [List.length_append, List.length_singleton] at o1 ⊢
                rw [gap_end] at o1
                go_wp2
                go_loopw [6] (fun i wr' => ∃ (c : Nat) (z : Int), p ≤ c ∧ c ≤ L.length ∧ i = .int .i64 c ∧ Own wr' w.heap.size (.slice (some ⟨g, 0, none⟩) (L.length + 1) cap') (gap L c z) ∧ Below w.heap.size w wr') (fun i _ => (intOf i).toNat)
                case atStart => exact ⟨L.length, 0, hp, Nat.le_refl _, by go_num, o1, o2⟩
                case round =>
                  obtain ⟨c, z, hc1, hc2, rfl, ow, bw⟩ := hrel
                  clear o1 o2
                  by_cases hcp : p < c
                  · obtain ⟨e, rfl⟩ : ∃ e, c = e + 1 := ⟨c - 1, by omega⟩
                    have hgl := gap_len (y := z) hc2
                    obtain ⟨f1, f2, f3⟩ := ow.cellAt (j := e) (by omega)
                    obtain ⟨f4, f5, -⟩ := ow.cellAt (j := e + 1) (by omega)
                    rw [gap_at (by omega)] at f1
                    have ow' := ow.stored (e + 1) (L[e]?.getD 0)
                    rw [gap_move (by omega)] at ow'
                    have bw' := bw.setCell (p := ⟨g, e + 1, none⟩) f3 (.int .i64 (L[e]?.getD 0))
                    generalize L[e]?.getD 0 = u at *
                    generalize (gap L (e + 1) z)[e + 1]?.getD 0 = u' at *
                    clear ow
                    go_wp2
                    go_roundw
                    case rel => exact ⟨e, u, by omega, by omega, by go_num, ow', bw'⟩
                    case measure => simp [intOf]
                  · have hcp' : c = p := by omega
                    subst hcp'
                    have hgl := gap_len (y := z) hc2
                    obtain ⟨f1, f2, f3⟩ := ow.cellAt (j := c) (by omega)
                    have hcx2 : wr.cell? ⟨bx, ox + k, none⟩ = some (.int .i64 x) := (bw.cell (p := ⟨bx, ox + k, none⟩) hbx).trans hcx00
                    have ow' := ow.stored c x
                    rw [gap_set hc2, gap, ← ins_put hc2 hlow.out HE.out, ← hnext.out] at ow'
                    have bw' := bw.setCell (p := ⟨g, c, none⟩) f3 (.int .i64 x)
                    generalize (gap L c z)[c]?.getD 0 = u' at *
                    clear ow
                    go_wp2
                    go_roundw
                    case rel => exact ⟨k + 1, by omega, by go_num, ow', bw'⟩
                    case measure => simp [intOf]; omega
        · go_wp2
          go_quiet (fail)
          go_wp2
          obtain ⟨Q, hQ⟩ : ∃ Q, (wo.drewN q).drewN nq = wo.drewN Q := ⟨_, World.drewN_drewN _ _ _⟩
          rw [hQ]
          clear hQ
          go_quiet (fail)
          obtain ⟨Q', hQ'⟩ : ∃ Q', (wo.drewN Q).drewN nq = wo.drewN Q' := ⟨_, World.drewN_drewN _ _ _⟩
          rw [hQ']
          clear hQ'
          have HE : Hid (p = L.length ∨ x < L[p]?.getD 0) := .inl (by omega)
          obtain ⟨wq, hwq⟩ : ∃ wq : World, wq = wo.drewN Q' := ⟨_, rfl⟩
          have hown0 : Own wq w.heap.size (.slice a L.length cap) L := by rw [hwq]; exact hown.drewN Q'
          have hbelo : Below w.heap.size w wq := by rw [hwq]; exact below_drewN hbel _
          have hcxq : wq.cell? ⟨bx, ox + k, none⟩ = some (.int .i64 x) := by rw [hwq]; exact hcx
          rw [← hwq]
          clear hwq hown hbel hcx hat
          have hszo : w.heap.size ≤ wq.heap.size := hbelo.size
          have hbxq : bx < wq.heap.size := by omega
          go_wp2_with (at_builtin; refine wpList_append_own _ rfl _ _ 22 rfl w.heap.size 3 i0 (.int .i64 0) 1 8 Tryd.underlying22 hi hz0 hz1 hz2 rfl (by decide) _ _ _ rfl (World.ownsRow.alloc hown0 _) ⟨wq.heap.size, 0, none⟩ 1 1 [.int .i64 0] rfl rfl (cell_one_new _ _ _) (by intro u hu; simp at hu; subst hu; rfl) (by unfold maxLen; omega) (by omega) (by simp; omega) ?_)
          intro v' w1 hown' hgrow _
          obtain ⟨o1, o2, -⟩ := own_snoc hown0 hbelo hszo hown' hgrow
          clear hown' hgrow hown0 hcxq
          obtain ⟨g, cap', rfl⟩ := o1.shape (by simp)
          rw [List.length_append, List.length_singleton] at o1 ⊢
          rw [gap_end] at o1
          go_wp2
          go_loopw [6] (fun i wr' => ∃ (c : Nat) (z : Int), p ≤ c ∧ c ≤ L.length ∧ i = .int .i64 c ∧ Own wr' w.heap.size (.slice (some ⟨g, 0, none⟩) (L.length + 1) cap') (gap L c z) ∧ Below w.heap.size w wr') (fun i _ => (intOf i).toNat)
          case atStart => exact ⟨L.length, 0, hp, Nat.le_refl _, by go_num, o1, o2⟩
          case round =>
            obtain ⟨c, z, hc1, hc2, rfl, ow, bw⟩ := hrel
            clear o1 o2
            by_cases hcp : p < c
            · omega
            · have hcp' : c = p := by omega
              subst hcp'
              have hgl := gap_len (y := z) hc2
              obtain ⟨f1, f2, f3⟩ := ow.cellAt (j := c) (by omega)
              have hcx2 : wr.cell? ⟨bx, ox + k, none⟩ = some (.int .i64 x) := (bw.cell (p := ⟨bx, ox + k, none⟩) hbx).trans hcx00
              have ow' := ow.stored c x
              rw [gap_set hc2, gap, ← ins_put hc2 hlow.out HE.out, ← hnext.out] at ow'
              have bw' := bw.setCell (p := ⟨g, c, none⟩) f3 (.int .i64 x)
              generalize (gap L c z)[c]?.getD 0 = u' at *
              clear ow
              go_wp2
              go_roundw
              case rel => exact ⟨k + 1, by omega, by go_num, ow', bw'⟩
              case measure => simp [intOf]; omega
    · rw [List.take_of_length_le (by omega)] at hown
      go_wp2
      go_ret
      exact ⟨_, rfl, hown, hbel⟩

set_option maxHeartbeats 400000 in
theorem sorted_nil (a : Option Addr) (cx : Nat) (w : World) :
    Calls Tryd.prog 84 #[.slice a 0 cx] w fun e w' => e = .returned (.slice none 0 0) ∧ w' = w := by
  go_enter Tryd.func84, Tryd.ntmps84
  go_wp2
  refine wp_loop_rounds 1 ?_
  rw [rounds_succ]
  go_wp2
  go_ret
  exact ⟨rfl, rfl⟩

theorem sorted_any (a : Option Addr) (cx : Nat) (xs : List Int) (w : World) (hs : At w a xs) (hl : xs.length ≤ 17592186044416) :
    Calls Tryd.prog 84 #[.slice a xs.length cx] w fun e w' => Gives w (srt xs) e w' := by
  rcases hs with rfl | ⟨b, off, rfl, hb, hc⟩
  · refine (sorted_nil a cx w).mono ?_
    rintro e w' ⟨rfl, rfl⟩
    exact gives_of_own (B := w'.heap.size) (own_nil _ _) (Below.refl _ _)
  · refine (sorted_some b off cx xs w hl hb hc).mono ?_
    rintro e w' ⟨v, rfl, h1, h2⟩
    exact gives_of_own h1 h2

end Go.Proofs.YtkkkacmccndinaaDoor
namespace Go.Proofs.YtkkkacmccndinaaDoor
open Go.RowKit

theorem Own.low {w : World} {B B' : Nat} {v : Value} {xs : List Int} (h : Own w B v xs) (hB : B' ≤ B) : Own w B' v xs := by
  refine ⟨h.1, ?_⟩
  rcases h.2 with hn | ⟨g, cap, cur, e, hg, rest⟩
  · exact .inl hn
  · exact .inr ⟨g, cap, cur, e, Nat.le_trans hB hg, rest⟩
theorem GivesO.gives {w : World} {xs : List Int} {e : Ending} {w' : World} (h : GivesO w xs e w') : Gives w xs e w' := by
  obtain ⟨v, rfl, h1, h2⟩ := h
  exact gives_of_own h1 h2
theorem sorted_own (a : Option Addr) (cx : Nat) (xs : List Int) (w : World) (hs : At w a xs) (hl : xs.length ≤ 17592186044416) :
    Calls Tryd.prog 84 #[.slice a xs.length cx] w fun e w' => GivesO w (srt xs) e w' := by
  rcases hs with rfl | ⟨b, off, rfl, hb, hc⟩
  · refine (sorted_nil a cx w).mono ?_
    rintro e w' ⟨rfl, rfl⟩
    exact ⟨_, rfl, own_nil _ _, Below.refl _ _⟩
  · refine (sorted_some b off cx xs w hl hb hc).mono ?_
    rintro e w' ⟨v, rfl, h1, h2⟩
    exact ⟨v, rfl, h1, h2⟩

end Go.Proofs.YtkkkacmccndinaaDoor
