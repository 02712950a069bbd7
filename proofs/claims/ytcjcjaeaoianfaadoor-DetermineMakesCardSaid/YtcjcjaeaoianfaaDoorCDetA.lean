/-
  Plain: the machine of sets may be, is determined, and accepts what the machine accepts; two ways to tell what is determined. No program, no model.
-/
import Derived.Test.YtcjcjaeaoianfaaDoorG05
namespace Go.Proofs.YtcjcjaeaoianfaaDoor
open Go.RowKit
set_option linter.unusedVariables false

/-! Two ways to tell what is determined. -/
/-- Has each arrow its place? -/
def goD (ev : Int) : Nat → List Arr → Bool
  | _, [] => true
  | i, a :: r => if a.f * ev + a.e = (i : Int) then goD ev (i + 1) r else false
/-- How many arrows there are, from a state at an event. -/
def cntL (ars : List Arr) (s e : Int) : Nat := (ars.filter fun a => decide (a.f = s) && decide (a.e = e)).length
def oneRow (ars : List Arr) (s : Nat) (n : Nat) : Bool := (List.range n).all fun e => decide (cntL ars (s : Int) (e : Int) = 1)
def allOne (ars : List Arr) (ev n : Nat) : Bool := (List.range n).all fun s => oneRow ars s ev
/-- Is a machine determined? (F1.) -/
def detB (m : Mach) : Bool := mayB m && (decide (m.starts.length = 1) && (decide ((m.arrows.length : Int) = m.st * m.ev) && goD m.ev 0 m.arrows))

def codeN (ev : Nat) (a : Arr) : Nat := a.f.toNat * ev + a.e.toNat
theorem code_eq {ev : Nat} {a : Arr} (h0 : 0 ≤ a.f) (h1 : 0 ≤ a.e) : a.f * (ev : Int) + a.e = (codeN ev a : Nat) := by
  unfold codeN
  rw [Int.natCast_add, Int.natCast_mul, Int.toNat_of_nonneg h0, Int.toNat_of_nonneg h1]
theorem goD_iff (ev : Nat) : ∀ (ars : List Arr) (i : Nat), (∀ a ∈ ars, 0 ≤ a.f ∧ 0 ≤ a.e) → (goD (ev : Int) i ars = true ↔ ars.map (codeN ev) = List.range' i ars.length)
  | [], i, _ => by simp [goD]
  | a :: r, i, h => by
    have ha := h a (by simp)
    have ih := goD_iff ev r (i + 1) (fun b hb => h b (by simp [hb]))
    unfold goD
    rw [code_eq ha.1 ha.2, List.map_cons, List.length_cons, List.range'_succ, List.cons.injEq]
    by_cases e : codeN ev a = i
    · rw [if_pos (by rw [e]), ih]
      exact ⟨fun h => ⟨e, h⟩, fun h => h.2⟩
    · rw [if_neg (by omega)]
      exact ⟨fun h => absurd h (by simp), fun h => absurd h.1 e⟩
theorem code_lt {ev : Nat} {f e f' e' : Nat} (h : e < ev) (h' : e' < ev) : f * ev + e < f' * ev + e' ↔ f < f' ∨ (f = f' ∧ e < e') := by
  constructor
  · intro hl
    rcases Nat.lt_trichotomy f f' with h1 | h1 | h1
    · exact .inl h1
    · subst h1; exact .inr ⟨rfl, by omega⟩
    · have : (f' + 1) * ev ≤ f * ev := Nat.mul_le_mul_right _ h1
      rw [Nat.add_mul] at this; omega
  · rintro (h1 | ⟨rfl, h1⟩)
    · have : (f + 1) * ev ≤ f' * ev := Nat.mul_le_mul_right _ h1
      rw [Nat.add_mul] at this; omega
    · omega
theorem code_inj {ev : Nat} {f e f' e' : Nat} (h : e < ev) (h' : e' < ev) (he : f * ev + e = f' * ev + e') : f = f' ∧ e = e' := by
  have h1 := (code_lt (f := f) (f' := f') h h')
  have h2 := (code_lt (f := f') (f' := f) h' h)
  constructor
  · rcases Nat.lt_trichotomy f f' with h3 | h3 | h3
    · have := h1.2 (.inl h3); omega
    · exact h3
    · have := h2.2 (.inl h3); omega
  · rcases Nat.lt_trichotomy f f' with h3 | h3 | h3
    · have := h1.2 (.inl h3); omega
    · subst h3; omega
    · have := h2.2 (.inl h3); omega
theorem code_bd {st ev : Nat} {f e : Nat} (hf : f < st) (he : e < ev) : f * ev + e < st * ev := by
  have : (f + 1) * ev ≤ st * ev := Nat.mul_le_mul_right _ hf
  rw [Nat.add_mul] at this; omega
theorem code_of {st ev i : Nat} (h : i < st * ev) : i / ev < st ∧ i % ev < ev ∧ i / ev * ev + i % ev = i := by
  have hev : 0 < ev := Nat.pos_of_ne_zero fun e => by subst e; simp at h
  refine ⟨Nat.div_lt_of_lt_mul (by rw [Nat.mul_comm]; exact h), Nat.mod_lt _ hev, ?_⟩
  rw [Nat.mul_comm]; exact Nat.div_add_mod i ev
theorem cnt_code {ev s e : Nat} (he : e < ev) : ∀ {ars : List Arr}, (∀ a ∈ ars, 0 ≤ a.f ∧ 0 ≤ a.e ∧ a.e < (ev : Int)) → cntL ars (s : Int) (e : Int) = (ars.map (codeN ev)).count (s * ev + e)
  | [], _ => rfl
  | a :: r, h => by
    have ha := h a (by simp)
    have ih := cnt_code (ev := ev) (s := s) he (ars := r) (fun b hb => h b (by simp [hb]))
    have hk : (decide (a.f = (s : Int)) && decide (a.e = (e : Int))) = (codeN ev a == s * ev + e) := by
      rw [Bool.eq_iff_iff, Bool.and_eq_true, decide_eq_true_eq, decide_eq_true_eq, beq_iff_eq]
      unfold codeN
      constructor
      · rintro ⟨h1, h2⟩; rw [h1, h2]; simp
      · intro h1
        have := code_inj (f := a.f.toNat) (e := a.e.toNat) (by omega) he h1
        omega
    unfold cntL at ih ⊢
    rw [List.filter_cons, List.map_cons, List.count_cons, hk, ← ih]
    split <;> simp
theorem count_range' (n : Nat) : ∀ (N i : Nat), i ≤ n → n < i + N → (List.range' i N).count n = 1
  | 0, i, h, h' => by omega
  | N + 1, i, h, h' => by
    rw [List.range'_succ, List.count_cons]
    by_cases e : i = n
    · subst e
      have : List.count i (List.range' (i + 1) N) = 0 := List.count_eq_zero.2 (by rw [List.mem_range'_1]; omega)
      rw [this]; simp
    · rw [count_range' n N (i + 1) (by omega) (by omega)]; simp [e]
theorem pairwise_codes {ev : Nat} : ∀ {ars : List Arr}, (∀ a ∈ ars, 0 ≤ a.f ∧ 0 ≤ a.e ∧ a.e < (ev : Int)) → IncA ars → (∀ n, (ars.map (codeN ev)).count n ≤ 1) → (ars.map (codeN ev)).Pairwise (· < ·)
  | [], _, _, _ => by simp
  | a :: r, h, hi, hc => by
    have ha := h a (by simp)
    rw [IncA, List.pairwise_cons] at hi
    rw [List.map_cons, List.pairwise_cons]
    refine ⟨fun n hn => ?_, pairwise_codes (fun b hb => h b (by simp [hb])) hi.2 (fun n => ?_)⟩
    · obtain ⟨b, hb, rfl⟩ := List.mem_map.1 hn
      have hb' := h b (by simp [hb])
      have hl := (aheadB_iff a b).1 (hi.1 b hb)
      have hne : codeN ev a ≠ codeN ev b := by
        intro e
        have h1 := hc (codeN ev a)
        rw [List.map_cons, List.count_cons_self] at h1
        have h2 : 0 < (r.map (codeN ev)).count (codeN ev a) := List.count_pos_iff.2 (by rw [e]; exact List.mem_map_of_mem hb)
        omega
      have hle : codeN ev a ≤ codeN ev b := by
        unfold codeN
        rcases hl with h1 | ⟨h1, h2⟩
        · have := (code_lt (f := a.f.toNat) (e := a.e.toNat) (f' := b.f.toNat) (e' := b.e.toNat) (ev := ev) (by omega) (by omega)).2 (.inl (by omega))
          omega
        · rw [h1]; omega
      omega
    · have := hc n
      rw [List.map_cons, List.count_cons] at this
      omega
theorem det_same {st ev : Nat} {ars : List Arr} (hin : ∀ a ∈ ars, arrIn (st : Int) (ev : Int) a) (hi : IncA ars) : (decide ((ars.length : Int) = (st : Int) * (ev : Int)) && goD (ev : Int) 0 ars) = allOne ars ev st := by
  have h1 : ∀ a ∈ ars, 0 ≤ a.f ∧ 0 ≤ a.e ∧ a.e < (ev : Int) := fun a ha => by have := hin a ha; unfold arrIn at this; omega
  have hmem : allOne ars ev st = true ↔ ∀ s, s < st → ∀ e, e < ev → cntL ars (s : Int) (e : Int) = 1 := by
    unfold allOne oneRow
    simp only [List.all_eq_true, List.mem_range, decide_eq_true_eq]
  rw [Bool.eq_iff_iff, Bool.and_eq_true, decide_eq_true_eq, goD_iff ev ars 0 (fun a ha => ⟨(h1 a ha).1, (h1 a ha).2.1⟩), hmem]
  constructor
  · rintro ⟨hl, hc⟩ s hs e he
    have hl : ars.length = st * ev := by rw [← Int.natCast_mul] at hl; omega
    rw [cnt_code he h1, hc]
    exact count_range' _ _ _ (by omega) (by rw [hl]; have := code_bd hs he; omega)
  · intro hall
    have hcl : ∀ n ∈ ars.map (codeN ev), n < st * ev := by
      intro n hn
      obtain ⟨a, ha, rfl⟩ := List.mem_map.1 hn
      have := hin a ha
      unfold arrIn at this
      exact code_bd (by omega) (by omega)
    have hc1 : ∀ n, n < st * ev → (ars.map (codeN ev)).count n = 1 := by
      intro n hn
      obtain ⟨k1, k2, k3⟩ := code_of hn
      have := hall _ k1 _ k2
      rw [cnt_code k2 h1, k3] at this
      exact this
    have hpw := pairwise_codes h1 hi (fun n => by
      by_cases hn : n < st * ev
      · rw [hc1 n hn]; exact Nat.le_refl _
      · rw [List.count_eq_zero.2 (fun hm => hn (hcl n hm))]; omega)
    have hr : ars.map (codeN ev) = List.range (st * ev) := natInc_ext hpw List.pairwise_lt_range (fun x => by
      rw [List.mem_range]
      exact ⟨hcl x, fun hx => List.count_pos_iff.1 (by rw [hc1 x hx]; omega)⟩)
    have hl : ars.length = st * ev := by have := congrArg List.length hr; simpa using this
    exact ⟨by rw [hl, Int.natCast_mul], by rw [hr, hl, List.range_eq_range']⟩

/-! The machine of sets. -/
section
variable {m : Mach} {s : DS}
theorem det_arr (hm : mayB m = true) (h : detS m = some s) {a : Arr} (ha : a ∈ s.ar) : ∃ (i f e t : Nat) (l : List Int), s.ar[i]? = some a ∧ a = ⟨(f : Int), (e : Int), (t : Int)⟩ ∧ f * m.ev.toNat + e = i ∧ e < m.ev.toNat ∧ s.sets[f]? = some l ∧ s.sets[t]? = some (stepL m.arrows l (e : Int)) := by
  obtain ⟨hd, -⟩ := detS_di hm h
  obtain ⟨i, hi⟩ := List.mem_iff_getElem?.1 ha
  have hlt := (List.getElem?_eq_some_iff.1 hi).1
  rw [hd.len] at hlt
  obtain ⟨f, e, t, l, h1, h2, h3, h4, h5⟩ := hd.ar i hlt
  rw [hi] at h1
  exact ⟨i, f, e, t, l, hi, Option.some.inj h1, h2, h3, h4, h5⟩
theorem det_inc (hm : mayB m = true) (h : detS m = some s) : IncA s.ar := by
  obtain ⟨hd, -⟩ := detS_di hm h
  rw [IncA, List.pairwise_iff_getElem]
  intro i j hi hj hij
  obtain ⟨f, e, t, l, h1, h2, h3, -, -⟩ := hd.ar i (by rw [← hd.len]; exact hi)
  obtain ⟨f', e', t', l', k1, k2, k3, -, -⟩ := hd.ar j (by rw [← hd.len]; exact hj)
  rw [List.getElem?_eq_getElem hi] at h1
  rw [List.getElem?_eq_getElem hj] at k1
  rw [Option.some.inj h1, Option.some.inj k1]
  refine (aheadB_iff _ _).2 ?_
  dsimp only
  rcases (code_lt h3 k3 (f := f) (f' := f')).1 (by omega) with h4 | ⟨h4, h5⟩
  · exact .inl (by omega)
  · exact .inr ⟨by omega, .inl (by omega)⟩
theorem may_det (hm : mayB m = true) (h : detS m = some s) : mayB (detM m s) = true := by
  have hm' := mayB_size hm
  unfold sizeOk at hm'
  obtain ⟨hd, h256⟩ := detS_di hm h
  have hp := hd.pos
  have he8 : m.ev.toNat ≤ 8 := by omega
  have hlen : s.ar.length ≤ 256 * 8 := by rw [hd.len]; exact Nat.mul_le_mul h256 he8
  rw [mayB_go (m := detM m s) ⟨by show (1 : Int) ≤ s.sets.length; omega, by show (s.sets.length : Int) ≤ 256; omega, hm'.2.2.1, hm'.2.2.2.1, by show s.ar.length ≤ 4096; omega⟩ ((rowB_iff _ (by show (s.sets.length : Int) ≤ _; omega) _).2 ⟨by show Inc [0]; simp [Inc], fun x hx => by have hx : x ∈ [(0 : Int)] := hx; have : x = 0 := List.mem_singleton.1 hx; show 0 ≤ x ∧ x < (s.sets.length : Int); omega⟩) ((rowB_iff _ (by show (s.sets.length : Int) ≤ _; omega) _).2 ⟨inc_endsFrom _ _ _, fun x hx => by
    obtain ⟨j, a, h1, h2, -⟩ := (mem_endsFrom _ _ _ _).1 hx
    have := (List.getElem?_eq_some_iff.1 h1).1
    show 0 ≤ x ∧ x < (s.sets.length : Int); omega⟩)]
  rw [arrsFrom_iff]
  refine ⟨fun a ha => ?_, det_inc hm h, fun _ _ => rfl⟩
  obtain ⟨i, f, e, t, l, -, rfl, -, h3, h4, h5⟩ := det_arr hm h ha
  have h4 := (List.getElem?_eq_some_iff.1 h4).1
  have h5 := (List.getElem?_eq_some_iff.1 h5).1
  exact ⟨by dsimp only; omega, by show (f : Int) < s.sets.length; omega, by dsimp only; omega, by show (t : Int) < s.sets.length; omega, by dsimp only; omega, by show (e : Int) < m.ev; omega⟩
theorem det_det (hm : mayB m = true) (h : detS m = some s) : detB (detM m s) = true := by
  have hm' := mayB_size hm
  unfold sizeOk at hm'
  obtain ⟨hd, h256⟩ := detS_di hm h
  obtain ⟨ev, hev⟩ : ∃ ev : Nat, m.ev = (ev : Int) := ⟨m.ev.toNat, by omega⟩
  have e1 : m.ev.toNat = ev := by omega
  rw [e1] at hd
  unfold detB
  rw [may_det hm h, Bool.true_and, Bool.and_eq_true, Bool.and_eq_true]
  refine ⟨rfl, ?_, ?_⟩
  · rw [decide_eq_true_eq]
    show (s.ar.length : Int) = (s.sets.length : Int) * m.ev
    rw [hd.len, hev, Int.natCast_mul]
  · show goD m.ev 0 s.ar = true
    rw [hev, goD_iff ev s.ar 0 (fun a ha => by obtain ⟨i, f, e, t, l, -, rfl, -, h3, -, -⟩ := det_arr hm h ha; exact ⟨by dsimp only; omega, by dsimp only; omega⟩)]
    refine List.ext_getElem? fun i => ?_
    rw [List.getElem?_map]
    by_cases hi : i < s.ar.length
    · obtain ⟨f, e, t, l, h1, h2, h3, -, -⟩ := hd.ar i (by rw [← hd.len]; exact hi)
      rw [h1, List.getElem?_range' (by exact hi)]
      simp [codeN, h2]
    · rw [List.getElem?_eq_none (by omega), List.getElem?_eq_none (by simp; omega)]; rfl
theorem det_step (hm : mayB m = true) (h : detS m = some s) {k e : Nat} {l : List Int} (hk : s.sets[k]? = some l) (he : e < m.ev.toNat) : ∃ t : Nat, stepL s.ar [(k : Int)] (e : Int) = [(t : Int)] ∧ s.sets[t]? = some (stepL m.arrows l (e : Int)) := by
  obtain ⟨hd, h256⟩ := detS_di hm h
  have hlt := (List.getElem?_eq_some_iff.1 hk).1
  obtain ⟨f, e', t, l', h1, h2, h3, h4, h5⟩ := hd.ar (k * m.ev.toNat + e) (code_bd hlt he)
  obtain ⟨q1, q2⟩ := code_inj h3 he h2
  rw [q1, q2] at h1 h2
  rw [q1, hk] at h4
  rw [q2] at h5
  have h4 := Option.some.inj h4
  subst h4
  refine ⟨t, inc_ext (inc_srt _) (by simp [Inc]) (fun x => ?_), h5⟩
  rw [mem_stepL]
  constructor
  · rintro ⟨a, ha, ha1, ha2, ha3⟩
    obtain ⟨i, f1, e1, t1, l1, k0, rfl, k2, k3, -, -⟩ := det_arr hm h ha
    dsimp only at ha1 ha2 ha3
    have q3 : e1 = e := by omega
    have q4 : f1 = k := by have : (f1 : Int) = (k : Int) := List.mem_singleton.1 ha2
                           omega
    rw [q3, q4] at k2
    rw [← k2, h1] at k0
    have q5 := Option.some.inj k0
    injection q5 with _ _ q6
    rw [← ha3, ← q6]; simp
  · intro hx
    have : x = (t : Int) := List.mem_singleton.1 hx
    rw [this]
    exact ⟨_, List.mem_of_getElem? h1, rfl, by simp, rfl⟩
theorem wordB_cons {ev x : Int} {r : List Int} (h : wordB ev (x :: r) = true) : (0 ≤ x ∧ x < ev) ∧ wordB ev r = true := by
  unfold wordB at h
  split at h
  · cases h
  · exact ⟨by omega, h⟩
theorem det_after (hm : mayB m = true) (h : detS m = some s) : ∀ (word : List Int) {k : Nat} {l : List Int}, wordB m.ev word = true → s.sets[k]? = some l → ∃ t : Nat, afterL s.ar [(k : Int)] word = [(t : Int)] ∧ s.sets[t]? = some (afterL m.arrows l word)
  | [], k, l, _, hk => ⟨k, rfl, hk⟩
  | x :: r, k, l, hw, hk => by
    obtain ⟨hx, hr⟩ := wordB_cons hw
    obtain ⟨e, rfl⟩ : ∃ e : Nat, x = (e : Int) := ⟨x.toNat, by omega⟩
    obtain ⟨t, h1, h2⟩ := det_step hm h hk (e := e) (by omega)
    obtain ⟨t', h3, h4⟩ := det_after hm h r hr h2
    exact ⟨t', by show afterL s.ar (stepL s.ar [(k : Int)] (e : Int)) r = _; rw [h1, h3], h4⟩
theorem det_accepts (hm : mayB m = true) (h : detS m = some s) {word : List Int} (hw : wordB m.ev word = true) : acceptsB (detM m s) word = acceptsB m word := by
  obtain ⟨hd, h256⟩ := detS_di hm h
  obtain ⟨t, h1, h2⟩ := det_after hm h word hw hd.hd
  rw [Bool.eq_iff_iff, accepts_iff, accepts_iff]
  have e1 : afterL (detM m s).arrows (detM m s).starts word = [(t : Int)] := h1
  rw [e1]
  constructor
  · rintro ⟨x, hx, he⟩
    have : x = (t : Int) := by simpa using hx
    subst this
    obtain ⟨j, a, k1, k2, y, k3, k4⟩ := (mem_endsFrom _ _ _ _).1 he
    have : t = j := by omega
    subst this
    rw [h2] at k1
    rw [← Option.some.inj k1] at k3
    exact ⟨y, k3, k4⟩
  · rintro ⟨y, k3, k4⟩
    exact ⟨(t : Int), by simp, (mem_endsFrom _ _ _ _).2 ⟨t, _, h2, by simp, y, k3, k4⟩⟩
end

end Go.Proofs.YtcjcjaeaoianfaaDoor
