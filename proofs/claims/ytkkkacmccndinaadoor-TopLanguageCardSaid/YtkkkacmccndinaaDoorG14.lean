/-
  Plain: the machine of sets may be, is determined, and accepts what the machine accepts; two ways to tell what is determined. No program, no model.
  Plain: a search, level by level, of what words lead to; the least words. No program, no model.
  Plain: the places where two machines may be at once, and the least word that one accepts and the other one doesn't. No program, no model.
  Plain mathematics of machines beside one another: pairs as they are found, arrows between them. No program, no model.
-/
import Derived.Test.YtkkkacmccndinaaDoorG13
import Derived.Test.YtkkkacmccndinaaDoorG03
import Derived.Test.YtkkkacmccndinaaDoorG06
namespace Go.Proofs.YtkkkacmccndinaaDoor
open Go.RowKit
set_option linter.unusedVariables false

/-! Two ways to tell what is determined. -/
/-- Has each arrow its place? -/
def goD (ev : Int) : Nat → List Arr → Bool
  | _, [] => true
  | i, a :: r => if a.f * ev + a.e = (i : Int) then goD ev (i + 1) r else false
/-- How many arrows there are, from a state at an event. -/
def cntL (ars : List Arr) (s e : Int) : Nat := (ars.filter fun a => decide (a.f = s) && decide (a.e = e)).length
def oneRow (ars : List Arr) (s : Nat) (n : Nat) : Bool := (List.range n).all fun e => decide (cntL ars (s : Int) (e : Int) = 1)
def allOne (ars : List Arr) (ev n : Nat) : Bool := (List.range n).all fun s => oneRow ars s ev
/-- Is a machine determined? (F1.) -/
def detB (m : Mach) : Bool := mayB m && (decide (m.starts.length = 1) && (decide ((m.arrows.length : Int) = m.st * m.ev) && goD m.ev 0 m.arrows))

def codeN (ev : Nat) (a : Arr) : Nat := a.f.toNat * ev + a.e.toNat
theorem code_eq {ev : Nat} {a : Arr} (h0 : 0 ≤ a.f) (h1 : 0 ≤ a.e) : a.f * (ev : Int) + a.e = (codeN ev a : Nat) := by
  unfold codeN
  rw [Int.natCast_add, Int.natCast_mul, Int.toNat_of_nonneg h0, Int.toNat_of_nonneg h1]
theorem goD_iff (ev : Nat) : ∀ (ars : List Arr) (i : Nat), (∀ a ∈ ars, 0 ≤ a.f ∧ 0 ≤ a.e) → (goD (ev : Int) i ars = true ↔ ars.map (codeN ev) = List.range' i ars.length)
  | [], i, _ => by simp [goD]
  | a :: r, i, h => by
    have ha := h a (by simp)
    have ih := goD_iff ev r (i + 1) (fun b hb => h b (by simp [hb]))
    unfold goD
    rw [code_eq ha.1 ha.2, List.map_cons, List.length_cons, List.range'_succ, List.cons.injEq]
    by_cases e : codeN ev a = i
    · rw [if_pos (by rw [e]), ih]
      exact ⟨fun h => ⟨e, h⟩, fun h => h.2⟩
    · rw [if_neg (by omega)]
      exact ⟨fun h => absurd h (by simp), fun h => absurd h.1 e⟩
theorem code_lt {ev : Nat} {f e f' e' : Nat} (h : e < ev) (h' : e' < ev) : f * ev + e < f' * ev + e' ↔ f < f' ∨ (f = f' ∧ e < e') := by
  constructor
  · intro hl
    rcases Nat.lt_trichotomy f f' with h1 | h1 | h1
    · exact .inl h1
    · subst h1; exact .inr ⟨rfl, by omega⟩
    · have : (f' + 1) * ev ≤ f * ev := Nat.mul_le_mul_right _ h1
      rw [Nat.add_mul] at this; omega
  · rintro (h1 | ⟨rfl, h1⟩)
    · have : (f + 1) * ev ≤ f' * ev := Nat.mul_le_mul_right _ h1
      rw [Nat.add_mul] at this; omega
    · omega
theorem code_inj {ev : Nat} {f e f' e' : Nat} (h : e < ev) (h' : e' < ev) (he : f * ev + e = f' * ev + e') : f = f' ∧ e = e' := by
  have h1 := (code_lt (f := f) (f' := f') h h')
  have h2 := (code_lt (f := f') (f' := f) h' h)
  constructor
  · rcases Nat.lt_trichotomy f f' with h3 | h3 | h3
    · have := h1.2 (.inl h3); omega
    · exact h3
    · have := h2.2 (.inl h3); omega
  · rcases Nat.lt_trichotomy f f' with h3 | h3 | h3
    · have := h1.2 (.inl h3); omega
    · subst h3; omega
    · have := h2.2 (.inl h3); omega
theorem code_bd {st ev : Nat} {f e : Nat} (hf : f < st) (he : e < ev) : f * ev + e < st * ev := by
  have : (f + 1) * ev ≤ st * ev := Nat.mul_le_mul_right _ hf
  rw [Nat.add_mul] at this; omega
theorem code_of {st ev i : Nat} (h : i < st * ev) : i / ev < st ∧ i % ev < ev ∧ i / ev * ev + i % ev = i := by
  have hev : 0 < ev := Nat.pos_of_ne_zero fun e => by subst e; simp at h
  refine ⟨Nat.div_lt_of_lt_mul (by rw [Nat.mul_comm]; exact h), Nat.mod_lt _ hev, ?_⟩
  rw [Nat.mul_comm]; exact Nat.div_add_mod i ev
theorem cnt_code {ev s e : Nat} (he : e < ev) : ∀ {ars : List Arr}, (∀ a ∈ ars, 0 ≤ a.f ∧ 0 ≤ a.e ∧ a.e < (ev : Int)) → cntL ars (s : Int) (e : Int) = (ars.map (codeN ev)).count (s * ev + e)
  | [], _ => rfl
  | a :: r, h => by
    have ha := h a (by simp)
    have ih := cnt_code (ev := ev) (s := s) he (ars := r) (fun b hb => h b (by simp [hb]))
    have hk : (decide (a.f = (s : Int)) && decide (a.e = (e : Int))) = (codeN ev a == s * ev + e) := by
      rw [Bool.eq_iff_iff, Bool.and_eq_true, decide_eq_true_eq, decide_eq_true_eq, beq_iff_eq]
      unfold codeN
      constructor
      · rintro ⟨h1, h2⟩; rw [h1, h2]; simp
      · intro h1
        have := code_inj (f := a.f.toNat) (e := a.e.toNat) (by omega) he h1
        omega
    unfold cntL at ih ⊢
    rw [List.filter_cons, List.map_cons, List.count_cons, hk, ← ih]
    split <;> simp
theorem count_range' (n : Nat) : ∀ (N i : Nat), i ≤ n → n < i + N → (List.range' i N).count n = 1
  | 0, i, h, h' => by omega
  | N + 1, i, h, h' => by
    rw [List.range'_succ, List.count_cons]
    by_cases e : i = n
    · subst e
      have : List.count i (List.range' (i + 1) N) = 0 := List.count_eq_zero.2 (by rw [List.mem_range'_1]; omega)
      rw [this]; simp
    · rw [count_range' n N (i + 1) (by omega) (by omega)]; simp [e]
theorem pairwise_codes {ev : Nat} : ∀ {ars : List Arr}, (∀ a ∈ ars, 0 ≤ a.f ∧ 0 ≤ a.e ∧ a.e < (ev : Int)) → IncA ars → (∀ n, (ars.map (codeN ev)).count n ≤ 1) → (ars.map (codeN ev)).Pairwise (· < ·)
  | [], _, _, _ => by simp
  | a :: r, h, hi, hc => by
    have ha := h a (by simp)
    rw [IncA, List.pairwise_cons] at hi
    rw [List.map_cons, List.pairwise_cons]
    refine ⟨fun n hn => ?_, pairwise_codes (fun b hb => h b (by simp [hb])) hi.2 (fun n => ?_)⟩
    · obtain ⟨b, hb, rfl⟩ := List.mem_map.1 hn
      have hb' := h b (by simp [hb])
      have hl := (aheadB_iff a b).1 (hi.1 b hb)
      have hne : codeN ev a ≠ codeN ev b := by
        intro e
        have h1 := hc (codeN ev a)
        rw [List.map_cons, List.count_cons_self] at h1
        have h2 : 0 < (r.map (codeN ev)).count (codeN ev a) := List.count_pos_iff.2 (by rw [e]; exact List.mem_map_of_mem hb)
        omega
      have hle : codeN ev a ≤ codeN ev b := by
        unfold codeN
        rcases hl with h1 | ⟨h1, h2⟩
        · have := (code_lt (f := a.f.toNat) (e := a.e.toNat) (f' := b.f.toNat) (e' := b.e.toNat) (ev := ev) (by omega) (by omega)).2 (.inl (by omega))
          omega
        · rw [h1]; omega
      omega
    · have := hc n
      rw [List.map_cons, List.count_cons] at this
      omega
theorem det_same {st ev : Nat} {ars : List Arr} (hin : ∀ a ∈ ars, arrIn (st : Int) (ev : Int) a) (hi : IncA ars) : (decide ((ars.length : Int) = (st : Int) * (ev : Int)) && goD (ev : Int) 0 ars) = allOne ars ev st := by
  have h1 : ∀ a ∈ ars, 0 ≤ a.f ∧ 0 ≤ a.e ∧ a.e < (ev : Int) := fun a ha => by have := hin a ha; unfold arrIn at this; omega
  have hmem : allOne ars ev st = true ↔ ∀ s, s < st → ∀ e, e < ev → cntL ars (s : Int) (e : Int) = 1 := by
    unfold allOne oneRow
    simp only [List.all_eq_true, List.mem_range, decide_eq_true_eq]
  rw [Bool.eq_iff_iff, Bool.and_eq_true, decide_eq_true_eq, goD_iff ev ars 0 (fun a ha => ⟨(h1 a ha).1, (h1 a ha).2.1⟩), hmem]
  constructor
  · rintro ⟨hl, hc⟩ s hs e he
    have hl : ars.length = st * ev := by rw [← Int.natCast_mul] at hl; omega
    rw [cnt_code he h1, hc]
    exact count_range' _ _ _ (by omega) (by rw [hl]; have := code_bd hs he; omega)
  · intro hall
    have hcl : ∀ n ∈ ars.map (codeN ev), n < st * ev := by
      intro n hn
      obtain ⟨a, ha, rfl⟩ := List.mem_map.1 hn
      have := hin a ha
      unfold arrIn at this
      exact code_bd (by omega) (by omega)
    have hc1 : ∀ n, n < st * ev → (ars.map (codeN ev)).count n = 1 := by
      intro n hn
      obtain ⟨k1, k2, k3⟩ := code_of hn
      have := hall _ k1 _ k2
      rw [cnt_code k2 h1, k3] at this
      exact this
    have hpw := pairwise_codes h1 hi (fun n => by
      by_cases hn : n < st * ev
      · rw [hc1 n hn]; exact Nat.le_refl _
      · rw [List.count_eq_zero.2 (fun hm => hn (hcl n hm))]; omega)
    have hr : ars.map (codeN ev) = List.range (st * ev) := natInc_ext hpw List.pairwise_lt_range (fun x => by
      rw [List.mem_range]
      exact ⟨hcl x, fun hx => List.count_pos_iff.1 (by rw [hc1 x hx]; omega)⟩)
    have hl : ars.length = st * ev := by have := congrArg List.length hr; simpa using this
    exact ⟨by rw [hl, Int.natCast_mul], by rw [hr, hl, List.range_eq_range']⟩

/-! The machine of sets. -/
section
variable {m : Mach} {s : DS}
theorem det_arr (hm : mayB m = true) (h : detS m = some s) {a : Arr} (ha : a ∈ s.ar) : ∃ (i f e t : Nat) (l : List Int), s.ar[i]? = some a ∧ a = ⟨(f : Int), (e : Int), (t : Int)⟩ ∧ f * m.ev.toNat + e = i ∧ e < m.ev.toNat ∧ s.sets[f]? = some l ∧ s.sets[t]? = some (stepL m.arrows l (e : Int)) := by
  obtain ⟨hd, -⟩ := detS_di hm h
  obtain ⟨i, hi⟩ := List.mem_iff_getElem?.1 ha
  have hlt := (List.getElem?_eq_some_iff.1 hi).1
  rw [hd.len] at hlt
  obtain ⟨f, e, t, l, h1, h2, h3, h4, h5⟩ := hd.ar i hlt
  rw [hi] at h1
  exact ⟨i, f, e, t, l, hi, Option.some.inj h1, h2, h3, h4, h5⟩
theorem det_inc (hm : mayB m = true) (h : detS m = some s) : IncA s.ar := by
  obtain ⟨hd, -⟩ := detS_di hm h
  rw [IncA, List.pairwise_iff_getElem]
  intro i j hi hj hij
  obtain ⟨f, e, t, l, h1, h2, h3, -, -⟩ := hd.ar i (by rw [← hd.len]; exact hi)
  obtain ⟨f', e', t', l', k1, k2, k3, -, -⟩ := hd.ar j (by rw [← hd.len]; exact hj)
  rw [List.getElem?_eq_getElem hi] at h1
  rw [List.getElem?_eq_getElem hj] at k1
  rw [Option.some.inj h1, Option.some.inj k1]
  refine (aheadB_iff _ _).2 ?_
  dsimp only
  rcases (code_lt h3 k3 (f := f) (f' := f')).1 (by omega) with h4 | ⟨h4, h5⟩
  · exact .inl (by omega)
  · exact .inr ⟨by omega, .inl (by omega)⟩
theorem may_det (hm : mayB m = true) (h : detS m = some s) : mayB (detM m s) = true := by
  have hm' := mayB_size hm
  unfold sizeOk at hm'
  obtain ⟨hd, h256⟩ := detS_di hm h
  have hp := hd.pos
  have he8 : m.ev.toNat ≤ 8 := by omega
  have hlen : s.ar.length ≤ 256 * 8 := by rw [hd.len]; exact Nat.mul_le_mul h256 he8
  rw [mayB_go (m := detM m s) ⟨by show (1 : Int) ≤ s.sets.length; omega, by show (s.sets.length : Int) ≤ 256; omega, hm'.2.2.1, hm'.2.2.2.1, by show s.ar.length ≤ 4096; omega⟩ ((rowB_iff _ (by show (s.sets.length : Int) ≤ _; omega) _).2 ⟨by show Inc [0]; simp [Inc], fun x hx => by have hx : x ∈ [(0 : Int)] := hx; have : x = 0 := List.mem_singleton.1 hx; show 0 ≤ x ∧ x < (s.sets.length : Int); omega⟩) ((rowB_iff _ (by show (s.sets.length : Int) ≤ _; omega) _).2 ⟨inc_endsFrom _ _ _, fun x hx => by
    obtain ⟨j, a, h1, h2, -⟩ := (mem_endsFrom _ _ _ _).1 hx
    have := (List.getElem?_eq_some_iff.1 h1).1
    show 0 ≤ x ∧ x < (s.sets.length : Int); omega⟩)]
  rw [arrsFrom_iff]
  refine ⟨fun a ha => ?_, det_inc hm h, fun _ _ => rfl⟩
  obtain ⟨i, f, e, t, l, -, rfl, -, h3, h4, h5⟩ := det_arr hm h ha
  have h4 := (List.getElem?_eq_some_iff.1 h4).1
  have h5 := (List.getElem?_eq_some_iff.1 h5).1
  exact ⟨by dsimp only; omega, by show (f : Int) < s.sets.length; omega, by dsimp only; omega, by show (t : Int) < s.sets.length; omega, by dsimp only; omega, by show (e : Int) < m.ev; omega⟩
theorem det_det (hm : mayB m = true) (h : detS m = some s) : detB (detM m s) = true := by
  have hm' := mayB_size hm
  unfold sizeOk at hm'
  obtain ⟨hd, h256⟩ := detS_di hm h
  obtain ⟨ev, hev⟩ : ∃ ev : Nat, m.ev = (ev : Int) := ⟨m.ev.toNat, by omega⟩
  have e1 : m.ev.toNat = ev := by omega
  rw [e1] at hd
  unfold detB
  rw [may_det hm h, Bool.true_and, Bool.and_eq_true, Bool.and_eq_true]
  refine ⟨rfl, ?_, ?_⟩
  · rw [decide_eq_true_eq]
    show (s.ar.length : Int) = (s.sets.length : Int) * m.ev
    rw [hd.len, hev, Int.natCast_mul]
  · show goD m.ev 0 s.ar = true
    rw [hev, goD_iff ev s.ar 0 (fun a ha => by obtain ⟨i, f, e, t, l, -, rfl, -, h3, -, -⟩ := det_arr hm h ha; exact ⟨by dsimp only; omega, by dsimp only; omega⟩)]
    refine List.ext_getElem? fun i => ?_
    rw [List.getElem?_map]
    by_cases hi : i < s.ar.length
    · obtain ⟨f, e, t, l, h1, h2, h3, -, -⟩ := hd.ar i (by rw [← hd.len]; exact hi)
      rw [h1, List.getElem?_range' (by exact hi)]
      simp [codeN, h2]
    · rw [List.getElem?_eq_none (by omega), List.getElem?_eq_none (by simp; omega)]; rfl
theorem det_step (hm : mayB m = true) (h : detS m = some s) {k e : Nat} {l : List Int} (hk : s.sets[k]? = some l) (he : e < m.ev.toNat) : ∃ t : Nat, stepL s.ar [(k : Int)] (e : Int) = [(t : Int)] ∧ s.sets[t]? = some (stepL m.arrows l (e : Int)) := by
  obtain ⟨hd, h256⟩ := detS_di hm h
  have hlt := (List.getElem?_eq_some_iff.1 hk).1
  obtain ⟨f, e', t, l', h1, h2, h3, h4, h5⟩ := hd.ar (k * m.ev.toNat + e) (code_bd hlt he)
  obtain ⟨q1, q2⟩ := code_inj h3 he h2
  rw [q1, q2] at h1 h2
  rw [q1, hk] at h4
  rw [q2] at h5
  have h4 := Option.some.inj h4
  subst h4
  refine ⟨t, inc_ext (inc_srt _) (by simp [Inc]) (fun x => ?_), h5⟩
  rw [mem_stepL]
  constructor
  · rintro ⟨a, ha, ha1, ha2, ha3⟩
    obtain ⟨i, f1, e1, t1, l1, k0, rfl, k2, k3, -, -⟩ := det_arr hm h ha
    dsimp only at ha1 ha2 ha3
    have q3 : e1 = e := by omega
    have q4 : f1 = k := by have : (f1 : Int) = (k : Int) := List.mem_singleton.1 ha2
                           omega
    rw [q3, q4] at k2
    rw [← k2, h1] at k0
    have q5 := Option.some.inj k0
    injection q5 with _ _ q6
    rw [← ha3, ← q6]; simp
  · intro hx
    have : x = (t : Int) := List.mem_singleton.1 hx
    rw [this]
    exact ⟨_, List.mem_of_getElem? h1, rfl, by simp, rfl⟩
theorem wordB_cons {ev x : Int} {r : List Int} (h : wordB ev (x :: r) = true) : (0 ≤ x ∧ x < ev) ∧ wordB ev r = true := by
  unfold wordB at h
  split at h
  · cases h
  · exact ⟨by omega, h⟩
theorem det_after (hm : mayB m = true) (h : detS m = some s) : ∀ (word : List Int) {k : Nat} {l : List Int}, wordB m.ev word = true → s.sets[k]? = some l → ∃ t : Nat, afterL s.ar [(k : Int)] word = [(t : Int)] ∧ s.sets[t]? = some (afterL m.arrows l word)
  | [], k, l, _, hk => ⟨k, rfl, hk⟩
  | x :: r, k, l, hw, hk => by
    obtain ⟨hx, hr⟩ := wordB_cons hw
    obtain ⟨e, rfl⟩ : ∃ e : Nat, x = (e : Int) := ⟨x.toNat, by omega⟩
    obtain ⟨t, h1, h2⟩ := det_step hm h hk (e := e) (by omega)
    obtain ⟨t', h3, h4⟩ := det_after hm h r hr h2
    exact ⟨t', by show afterL s.ar (stepL s.ar [(k : Int)] (e : Int)) r = _; rw [h1, h3], h4⟩
theorem det_accepts (hm : mayB m = true) (h : detS m = some s) {word : List Int} (hw : wordB m.ev word = true) : acceptsB (detM m s) word = acceptsB m word := by
  obtain ⟨hd, h256⟩ := detS_di hm h
  obtain ⟨t, h1, h2⟩ := det_after hm h word hw hd.hd
  rw [Bool.eq_iff_iff, accepts_iff, accepts_iff]
  have e1 : afterL (detM m s).arrows (detM m s).starts word = [(t : Int)] := h1
  rw [e1]
  constructor
  · rintro ⟨x, hx, he⟩
    have : x = (t : Int) := by simpa using hx
    subst this
    obtain ⟨j, a, k1, k2, y, k3, k4⟩ := (mem_endsFrom _ _ _ _).1 he
    have : t = j := by omega
    subst this
    rw [h2] at k1
    rw [← Option.some.inj k1] at k3
    exact ⟨y, k3, k4⟩
  · rintro ⟨y, k3, k4⟩
    exact ⟨(t : Int), by simp, (mem_endsFrom _ _ _ _).2 ⟨t, _, h2, by simp, y, k3, k4⟩⟩
end

end Go.Proofs.YtkkkacmccndinaaDoor
namespace Go.Proofs.YtkkkacmccndinaaDoor
open Go.RowKit
set_option linter.unusedVariables false
set_option linter.unusedSectionVars false

/-! Which of two lists is the lesser one (G1). -/
def lexB : List Int → List Int → Bool
  | x :: a, y :: b => if x = y then lexB a b else decide (x < y)
  | _, _ => false
def lessB (a b : List Int) : Bool := if a.length = b.length then lexB a b else decide (a.length < b.length)
theorem lexB_irrefl : ∀ a, lexB a a = false
  | [] => rfl
  | x :: a => by unfold lexB; rw [if_pos rfl]; exact lexB_irrefl a
theorem lexB_trans : ∀ {a b c : List Int}, lexB a b = true → lexB b c = true → lexB a c = true
  | [], _, _, h, _ => by simp [lexB] at h
  | _ :: _, [], _, h, _ => by simp [lexB] at h
  | _ :: _, _ :: _, [], _, h => by simp [lexB] at h
  | x :: a, y :: b, z :: c, h, k => by
    unfold lexB at h k ⊢
    by_cases e1 : x = y
    · rw [if_pos e1] at h
      by_cases e2 : y = z
      · rw [if_pos e2] at k
        rw [if_pos (e1.trans e2)]
        exact lexB_trans h k
      · rw [if_neg e2] at k
        rw [if_neg (by omega)]
        have := of_decide_eq_true k
        exact decide_eq_true (by omega)
    · rw [if_neg e1] at h
      have h := of_decide_eq_true h
      by_cases e2 : y = z
      · rw [if_neg (by omega)]
        exact decide_eq_true (by omega)
      · rw [if_neg e2] at k
        have k := of_decide_eq_true k
        rw [if_neg (by omega)]
        exact decide_eq_true (by omega)
theorem lexB_total : ∀ {a b : List Int}, a.length = b.length → a ≠ b → lexB a b = true ∨ lexB b a = true
  | [], [], _, h => absurd rfl h
  | [], _ :: _, h, _ => by simp at h
  | _ :: _, [], h, _ => by simp at h
  | x :: a, y :: b, hl, h => by
    unfold lexB
    by_cases e : x = y
    · subst e
      rw [if_pos rfl, if_pos rfl]
      exact lexB_total (by simpa using hl) (fun e => h (by rw [e]))
    · rw [if_neg e, if_neg (fun h => e h.symm)]
      by_cases h1 : x < y
      · exact .inl (decide_eq_true h1)
      · exact .inr (decide_eq_true (by omega))
theorem lexB_snoc : ∀ {a b : List Int} (x y : Int), a.length = b.length → lexB a b = true → lexB (a ++ [x]) (b ++ [y]) = true
  | [], _, _, _, _, h => by simp [lexB] at h
  | _ :: _, [], _, _, h, _ => by simp at h
  | u :: a, v :: b, x, y, hl, h => by
    rw [List.cons_append, List.cons_append]
    unfold lexB at h ⊢
    by_cases e : u = v
    · rw [if_pos e] at h ⊢
      exact lexB_snoc x y (by simpa using hl) h
    · rw [if_neg e] at h ⊢
      exact h
theorem lexB_last : ∀ (a : List Int) {x y : Int}, x < y → lexB (a ++ [x]) (a ++ [y]) = true
  | [], x, y, h => by
    show lexB [x] [y] = true
    unfold lexB; rw [if_neg (by omega)]; exact decide_eq_true h
  | u :: a, x, y, h => by
    rw [List.cons_append, List.cons_append]
    unfold lexB
    rw [if_pos rfl]
    exact lexB_last a h
theorem lessB_irrefl (a : List Int) : lessB a a = false := by unfold lessB; rw [if_pos rfl]; exact lexB_irrefl a
theorem lessB_len {a b : List Int} (h : lessB a b = true) : a.length ≤ b.length := by
  unfold lessB at h
  by_cases e : a.length = b.length
  · omega
  · rw [if_neg e] at h
    have := of_decide_eq_true h; omega
theorem lessB_trans {a b c : List Int} (h : lessB a b = true) (k : lessB b c = true) : lessB a c = true := by
  have l1 := lessB_len h
  have l2 := lessB_len k
  unfold lessB at h k ⊢
  by_cases e1 : a.length = b.length
  · rw [if_pos e1] at h
    by_cases e2 : b.length = c.length
    · rw [if_pos e2] at k
      rw [if_pos (e1.trans e2)]
      exact lexB_trans h k
    · rw [if_neg (by omega)]
      exact decide_eq_true (by omega)
  · rw [if_neg (by omega)]
    exact decide_eq_true (by omega)
theorem lessB_total {a b : List Int} (h : a ≠ b) : lessB a b = true ∨ lessB b a = true := by
  unfold lessB
  by_cases e : a.length = b.length
  · rw [if_pos e, if_pos e.symm]
    exact lexB_total e h
  · rw [if_neg e, if_neg (fun h => e h.symm)]
    by_cases h1 : a.length < b.length
    · exact .inl (decide_eq_true h1)
    · exact .inr (decide_eq_true (by omega))
theorem lessB_snoc {a b : List Int} (x y : Int) (h : lessB a b = true) : lessB (a ++ [x]) (b ++ [y]) = true := by
  have l1 := lessB_len h
  unfold lessB at h ⊢
  simp only [List.length_append, List.length_cons, List.length_nil]
  by_cases e : a.length = b.length
  · rw [if_pos e] at h
    rw [if_pos (by omega)]
    exact lexB_snoc x y e h
  · rw [if_neg (by omega)]
    exact decide_eq_true (by omega)
theorem lessB_last (a : List Int) {x y : Int} (h : x < y) : lessB (a ++ [x]) (a ++ [y]) = true := by
  unfold lessB; rw [if_pos (by simp)]; exact lexB_last a h
theorem lessB_more (a : List Int) (x : Int) : lessB a (a ++ [x]) = true := by
  unfold lessB; rw [if_neg (by simp)]; exact decide_eq_true (by simp)
/-- Lesser, or the same. -/
def leW (a b : List Int) : Prop := a = b ∨ lessB a b = true
theorem leW_refl (a : List Int) : leW a a := .inl rfl
theorem leW_trans {a b c : List Int} (h : leW a b) (k : leW b c) : leW a c := by
  rcases h with rfl | h
  · exact k
  · rcases k with rfl | k
    · exact .inr h
    · exact .inr (lessB_trans h k)
theorem leW_snoc {a b : List Int} (x : Int) (h : leW a b) : leW (a ++ [x]) (b ++ [x]) := by
  rcases h with rfl | h
  · exact .inl rfl
  · exact .inr (lessB_snoc x x h)
theorem leW_not {a b : List Int} (h : leW a b) : lessB b a = false := by
  cases hk : lessB b a with
  | false => rfl
  | true =>
    rcases h with rfl | h
    · rw [lessB_irrefl] at hk; cases hk
    · have := lessB_trans h hk; rw [lessB_irrefl] at this; cases this
theorem nil_le (a : List Int) : leW [] a := by
  cases a with
  | nil => exact .inl rfl
  | cons x r => exact .inr (by unfold lessB; rw [if_neg (by simp)]; exact decide_eq_true (by simp))

/-! The search. -/
section
variable {σ : Type} [DecidableEq σ] (δ : σ → Nat → σ)
def runF (s : σ) (u : List Int) : σ := u.foldl (fun s e => δ s e.toNat) s
theorem runF_snoc (s : σ) (u : List Int) (e : Int) : runF δ s (u ++ [e]) = δ (runF δ s u) e.toNat := by simp [runF, List.foldl_append]
/-- Is a place among some? -/
def knownB (l : List (σ × List Int)) (s : σ) : Bool := l.any fun p => decide (p.1 = s)
theorem knownB_iff (l : List (σ × List Int)) (s : σ) : knownB l s = true ↔ ∃ p ∈ l, p.1 = s := by simp [knownB]
/-- One event more, from place x. -/
def bfStep (x : σ × List Int) (l : List (σ × List Int)) (e : Nat) : List (σ × List Int) := if knownB l (δ x.1 e) = true then l else l ++ [(δ x.1 e, x.2 ++ [(e : Int)])]
def bfRow (x : σ × List Int) (l : List (σ × List Int)) (n : Nat) : List (σ × List Int) := (List.range n).foldl (bfStep δ x) l
theorem bfRow_succ (x : σ × List Int) (l : List (σ × List Int)) (n : Nat) : bfRow δ x l (n + 1) = bfStep δ x (bfRow δ x l n) n := by
  unfold bfRow; rw [List.range_succ, List.foldl_append]; rfl
def bfGo (ev : Nat) : Nat → Nat → List (σ × List Int) → List (σ × List Int)
  | 0, _, l => l
  | f + 1, k, l => match l[k]? with
    | none => l
    | some x => bfGo ev f (k + 1) (bfRow δ x l ev)
theorem bfStep_pre (x : σ × List Int) (l : List (σ × List Int)) (e : Nat) : ∃ t, bfStep δ x l e = l ++ t := by
  unfold bfStep; split
  · exact ⟨[], by simp⟩
  · exact ⟨_, rfl⟩
theorem bfRow_pre (x : σ × List Int) (l : List (σ × List Int)) : ∀ n, ∃ t, bfRow δ x l n = l ++ t
  | 0 => ⟨[], by simp [bfRow]⟩
  | n + 1 => by
    obtain ⟨t, h⟩ := bfRow_pre x l n
    obtain ⟨u, h'⟩ := bfStep_pre δ x (bfRow δ x l n) n
    exact ⟨t ++ u, by rw [bfRow_succ, h', h, List.append_assoc]⟩
theorem bfGo_pre (ev : Nat) : ∀ (f k : Nat) (l : List (σ × List Int)), ∃ t, bfGo δ ev f k l = l ++ t
  | 0, k, l => ⟨[], by simp [bfGo]⟩
  | f + 1, k, l => by
    unfold bfGo
    cases l[k]? with
    | none => exact ⟨[], by simp⟩
    | some x =>
      obtain ⟨t, h⟩ := bfRow_pre δ x l ev
      obtain ⟨u, h'⟩ := bfGo_pre ev f (k + 1) (bfRow δ x l ev)
      exact ⟨t ++ u, by show bfGo δ ev f (k + 1) (bfRow δ x l ev) = _; rw [h', h, List.append_assoc]⟩

/-- What holds when all events of the first k places, and the first n of the place k, have been gone on from. -/
structure BI (s0 : σ) (ev k n : Nat) (l : List (σ × List Int)) : Prop where
  nd : (l.map (·.1)).Nodup
  hd : l[0]? = some (s0, [])
  run : ∀ p ∈ l, p.1 = runF δ s0 p.2 ∧ ∀ e ∈ p.2, 0 ≤ e ∧ e < (ev : Int)
  inc : l.Pairwise (fun p q => lessB p.2 q.2 = true)
  cl : ∀ (i : Nat) (x : σ × List Int), l[i]? = some x → ∀ e : Nat, e < ev → (i < k ∨ (i = k ∧ e < n)) → ∃ y ∈ l, y.1 = δ x.1 e ∧ leW y.2 (x.2 ++ [(e : Int)])
  top : ∀ p ∈ l, p.2 = [] ∨ ∃ (i : Nat) (x : σ × List Int) (e : Nat), l[i]? = some x ∧ p.2 = x.2 ++ [(e : Int)] ∧ (i < k ∨ (i = k ∧ e < n))
theorem bi_start (s0 : σ) (ev : Nat) : BI δ s0 ev 0 0 [(s0, [])] := by
  refine ⟨by simp, rfl, fun p hp => ?_, by simp, fun i x hx e he h => by omega, fun p hp => ?_⟩
  · have : p = (s0, []) := by simpa using hp
    subst this; exact ⟨rfl, by simp⟩
  · have : p = (s0, []) := by simpa using hp
    subst this; exact .inl rfl
theorem bi_step {s0 : σ} {ev k n : Nat} {l : List (σ × List Int)} {x : σ × List Int} (h : BI δ s0 ev k n l) (hx : l[k]? = some x) (hn : n < ev) : BI δ s0 ev k (n + 1) (bfStep δ x l n) := by
  have hxm := List.mem_of_getElem? hx
  have hklt := (List.getElem?_eq_some_iff.1 hx).1
  -- every word so far is lesser than the new one
  have hless : ∀ p ∈ l, lessB p.2 (x.2 ++ [(n : Int)]) = true := by
    intro p hp
    rcases h.top p hp with h0 | ⟨i, y, e, hy, h1, h2⟩
    · rw [h0]
      rcases nil_le (x.2 ++ [(n : Int)]) with h3 | h3
      · have := congrArg List.length h3; simp at this
      · exact h3
    · rw [h1]
      rcases h2 with h2 | ⟨h2, h3⟩
      · have hlt := (List.getElem?_eq_some_iff.1 hy).1
        have := List.pairwise_iff_getElem.1 h.inc i k hlt hklt h2
        rw [(List.getElem?_eq_some_iff.1 hy).2, (List.getElem?_eq_some_iff.1 hx).2] at this
        exact lessB_snoc _ _ this
      · subst h2
        rw [hx] at hy
        have := Option.some.inj hy
        subst this
        exact lessB_last _ (by omega)
  by_cases hk : knownB l (δ x.1 n) = true
  · have e : bfStep δ x l n = l := by unfold bfStep; rw [if_pos hk]
    rw [e]
    refine ⟨h.nd, h.hd, h.run, h.inc, fun i y hy e he hi => ?_, fun p hp => ?_⟩
    · by_cases h1 : i < k ∨ (i = k ∧ e < n)
      · exact h.cl i y hy e he h1
      · have hik : i = k := by omega
        have hen : e = n := by omega
        subst hik; subst hen
        rw [hx] at hy
        have := Option.some.inj hy
        subst this
        obtain ⟨q, hq, e1⟩ := (knownB_iff _ _).1 hk
        exact ⟨q, hq, e1, .inr (hless q hq)⟩
    · rcases h.top p hp with h0 | ⟨i, y, e, hy, h1, h2⟩
      · exact .inl h0
      · exact .inr ⟨i, y, e, hy, h1, by omega⟩
  · have e : bfStep δ x l n = l ++ [(δ x.1 n, x.2 ++ [(n : Int)])] := by unfold bfStep; rw [if_neg hk]
    rw [e]
    have hx2 := h.run x hxm
    refine ⟨?_, ?_, ?_, ?_, ?_, ?_⟩
    · rw [List.map_append, List.nodup_append]
      refine ⟨h.nd, by simp, fun a ha b hb e => ?_⟩
      have hb : b = δ x.1 n := by simpa using hb
      subst hb; subst e
      obtain ⟨q, hq, e1⟩ := List.mem_map.1 ha
      exact hk ((knownB_iff _ _).2 ⟨q, hq, e1⟩)
    · rw [List.getElem?_append_left (List.getElem?_eq_some_iff.1 h.hd).1]; exact h.hd
    · intro p hp
      rcases List.mem_append.1 hp with hp | hp
      · exact h.run p hp
      · have : p = (δ x.1 n, x.2 ++ [(n : Int)]) := by simpa using hp
        subst this
        refine ⟨by rw [runF_snoc, ← hx2.1]; simp, fun e he => ?_⟩
        rcases List.mem_append.1 he with he | he
        · exact hx2.2 e he
        · have : e = (n : Int) := by simpa using he
          omega
    · rw [List.pairwise_append]
      refine ⟨h.inc, by simp, fun p hp q hq => ?_⟩
      have : q = (δ x.1 n, x.2 ++ [(n : Int)]) := by simpa using hq
      subst this
      exact hless p hp
    · intro i y hy e he hi
      have hil : i < l.length := by rcases hi with hi | hi <;> omega
      rw [List.getElem?_append_left hil] at hy
      by_cases h1 : i < k ∨ (i = k ∧ e < n)
      · obtain ⟨q, hq, e1, e2⟩ := h.cl i y hy e he h1
        exact ⟨q, List.mem_append_left _ hq, e1, e2⟩
      · have hik : i = k := by omega
        have hen : n = e := by omega
        subst hik; subst hen
        rw [hx] at hy
        have := Option.some.inj hy
        subst this
        exact ⟨(δ x.1 n, x.2 ++ [(n : Int)]), List.mem_append_right _ (by simp), rfl, leW_refl _⟩
    · intro p hp
      have hlk : ∀ (i : Nat) (y : σ × List Int), l[i]? = some y → (l ++ [(δ x.1 n, x.2 ++ [(n : Int)])])[i]? = some y := fun i y hy => by
        rw [List.getElem?_append_left (List.getElem?_eq_some_iff.1 hy).1]; exact hy
      rcases List.mem_append.1 hp with hp | hp
      · rcases h.top p hp with h0 | ⟨i, y, e, hy, h1, h2⟩
        · exact .inl h0
        · exact .inr ⟨i, y, e, hlk i y hy, h1, by omega⟩
      · have : p = (δ x.1 n, x.2 ++ [(n : Int)]) := by simpa using hp
        subst this
        exact .inr ⟨k, x, n, hlk k x hx, rfl, .inr ⟨rfl, by omega⟩⟩
theorem bi_row {s0 : σ} {ev k : Nat} {l : List (σ × List Int)} {x : σ × List Int} (h : BI δ s0 ev k 0 l) (hx : l[k]? = some x) : ∀ n, n ≤ ev → BI δ s0 ev k n (bfRow δ x l n)
  | 0, _ => h
  | n + 1, hn => by
    rw [bfRow_succ]
    obtain ⟨t, ht⟩ := bfRow_pre δ x l n
    exact bi_step δ (bi_row h hx n (by omega)) (by rw [ht, List.getElem?_append_left (List.getElem?_eq_some_iff.1 hx).1]; exact hx) (by omega)
theorem bi_next {s0 : σ} {ev k : Nat} {l : List (σ × List Int)} {x : σ × List Int} (h : BI δ s0 ev k 0 l) (hx : l[k]? = some x) : BI δ s0 ev (k + 1) 0 (bfRow δ x l ev) := by
  have h' := bi_row δ h hx ev (Nat.le_refl _)
  refine ⟨h'.nd, h'.hd, h'.run, h'.inc, fun i y hy e he hi => h'.cl i y hy e he (by omega), fun p hp => ?_⟩
  rcases h'.top p hp with h0 | ⟨i, y, e, hy, h1, h2⟩
  · exact .inl h0
  · exact .inr ⟨i, y, e, hy, h1, by omega⟩
/-- Where all places have been gone on from, each word's place is there, with a word that is no greater. -/
theorem bi_all {s0 : σ} {ev : Nat} {l : List (σ × List Int)} (h : BI δ s0 ev l.length 0 l) : ∀ (u : List Int), (∀ e ∈ u, 0 ≤ e ∧ e < (ev : Int)) → ∃ p ∈ l, p.1 = runF δ s0 u ∧ leW p.2 u := by
  have key : ∀ (n : Nat) (u : List Int), u.length = n → (∀ e ∈ u, 0 ≤ e ∧ e < (ev : Int)) → ∃ p ∈ l, p.1 = runF δ s0 u ∧ leW p.2 u := by
    intro n
    induction n with
    | zero =>
      intro u hu _
      have : u = [] := List.eq_nil_of_length_eq_zero hu
      subst this
      exact ⟨_, List.mem_of_getElem? h.hd, rfl, leW_refl _⟩
    | succ n ih =>
      intro u hu hb
      have hne : u ≠ [] := fun e => by rw [e] at hu; simp at hu
      have hsp := (List.dropLast_concat_getLast hne).symm
      obtain ⟨v, z, e⟩ : ∃ v z, u = v ++ [z] := ⟨_, _, hsp⟩
      subst e
      have hv : v.length = n := by simpa using hu
      obtain ⟨p, hp, e1, e2⟩ := ih v hv (fun y hy => hb y (by simp [hy]))
      have hz := hb z (by simp)
      obtain ⟨i, hi⟩ := List.mem_iff_getElem?.1 hp
      obtain ⟨q, hq, e3, e4⟩ := h.cl i p hi z.toNat (by omega) (.inl (List.getElem?_eq_some_iff.1 hi).1)
      refine ⟨q, hq, by rw [e3, e1, runF_snoc], ?_⟩
      have hc : ((z.toNat : Nat) : Int) = z := by omega
      rw [hc] at e4
      exact leW_trans e4 (leW_snoc z e2)
  exact fun u hb => key u.length u rfl hb
end

end Go.Proofs.YtkkkacmccndinaaDoor
namespace Go.Proofs.YtkkkacmccndinaaDoor
open Go.RowKit
set_option linter.unusedVariables false
set_option linter.unusedSectionVars false

/-! How many increasing lists there are. -/
theorem nodup_sub {α : Type} [DecidableEq α] : ∀ {l m : List α}, l.Nodup → (∀ x ∈ l, x ∈ m) → l.length ≤ m.length
  | [], m, _, _ => Nat.zero_le _
  | x :: r, m, hn, hs => by
    rw [List.nodup_cons] at hn
    have hx := hs x (by simp)
    have ih := nodup_sub (l := r) (m := m.erase x) hn.2 (fun y hy => by
      have hne : y ≠ x := fun e => hn.1 (e ▸ hy)
      exact (List.mem_erase_of_ne hne).2 (hs y (by simp [hy])))
    rw [List.length_erase_of_mem hx] at ih
    have := List.length_pos_of_mem hx
    rw [List.length_cons]; omega
def subs : Nat → List (List Int)
  | 0 => [[]]
  | n + 1 => subs n ++ (subs n).map (· ++ [(n : Int)])
theorem subs_len : ∀ n, (subs n).length = 2 ^ n
  | 0 => rfl
  | n + 1 => by rw [subs, List.length_append, List.length_map, subs_len n, Nat.pow_succ]; omega
theorem mem_subs : ∀ (n : Nat) (l : List Int), Inc l → (∀ x ∈ l, 0 ≤ x ∧ x < (n : Int)) → l ∈ subs n
  | 0, l, _, h => by
    have : l = [] := by
      cases l with
      | nil => rfl
      | cons x r => have := h x (by simp); omega
    subst this; simp [subs]
  | n + 1, l, hi, h => by
    rw [subs, List.mem_append, List.mem_map]
    by_cases hn : (n : Int) ∈ l
    · right
      have hne : l ≠ [] := fun e => by rw [e] at hn; simp at hn
      obtain ⟨v, z, e⟩ : ∃ v z, l = v ++ [z] := ⟨_, _, (List.dropLast_concat_getLast hne).symm⟩
      subst e
      unfold Inc at hi
      rw [List.pairwise_append] at hi
      have hz := h z (by simp)
      have hzn : z = (n : Int) := by
        rcases List.mem_append.1 hn with h1 | h1
        · have := hi.2.2 _ h1 z (by simp); omega
        · have : (n : Int) = z := by simpa using h1
          exact this.symm
      subst hzn
      refine ⟨v, mem_subs n v hi.1 (fun x hx => ?_), rfl⟩
      have h1 := hi.2.2 x hx _ (by simp : (n : Int) ∈ [(n : Int)])
      have h2 := h x (by simp [hx])
      omega
    · left
      refine mem_subs n l hi (fun x hx => ?_)
      have h1 := h x hx
      have : x ≠ (n : Int) := fun e => hn (e ▸ hx)
      omega
def prodL {α β : Type} : List α → List β → List (α × β)
  | [], _ => []
  | x :: r, m => m.map (fun y => (x, y)) ++ prodL r m
theorem prodL_len {α β : Type} (m : List β) : ∀ l : List α, (prodL l m).length = l.length * m.length
  | [] => by simp [prodL]
  | x :: r => by rw [prodL, List.length_append, List.length_map, prodL_len m r, List.length_cons, Nat.add_mul]; omega
theorem mem_prodL {α β : Type} {x : α} {y : β} {m : List β} (hy : y ∈ m) : ∀ {l : List α}, x ∈ l → (x, y) ∈ prodL l m
  | [], h => by simp at h
  | z :: r, h => by
    rw [prodL, List.mem_append]
    rcases List.mem_cons.1 h with rfl | h
    · exact .inl (List.mem_map.2 ⟨y, hy, rfl⟩)
    · exact .inr (mem_prodL hy h)

/-! The search ends. -/
section
variable {σ : Type} [DecidableEq σ] {δ : σ → Nat → σ}
theorem bi_wlen {s0 : σ} {ev k n : Nat} {l : List (σ × List Int)} (h : BI δ s0 ev k n l) : ∀ (j : Nat) (p : σ × List Int), l[j]? = some p → p.2.length ≤ j := by
  intro j
  induction j using Nat.strongRecOn with
  | _ j ih =>
    intro p hp
    rcases h.top p (List.mem_of_getElem? hp) with h0 | ⟨i, x, e, hx, h1, -⟩
    · rw [h0]; simp
    · have hl : p.2.length = x.2.length + 1 := by rw [h1]; simp
      have hlt := (List.getElem?_eq_some_iff.1 hp).1
      have hlx := (List.getElem?_eq_some_iff.1 hx).1
      have hij : i < j := by
        rcases Nat.lt_trichotomy i j with h2 | h2 | h2
        · exact h2
        · subst h2; rw [hx] at hp; have := Option.some.inj hp; subst this; omega
        · have := List.pairwise_iff_getElem.1 h.inc j i hlt hlx h2
          rw [(List.getElem?_eq_some_iff.1 hx).2, (List.getElem?_eq_some_iff.1 hp).2] at this
          have := lessB_len this; omega
      have := ih i hij x hx
      omega
theorem bi_end {s0 : σ} {ev N : Nat} (hN : ∀ (k n : Nat) (l : List (σ × List Int)), BI δ s0 ev k n l → l.length ≤ N) : ∀ (f k : Nat) (l : List (σ × List Int)), BI δ s0 ev k 0 l → k ≤ l.length → N < f + k → BI δ s0 ev (bfGo δ ev f k l).length 0 (bfGo δ ev f k l)
  | 0, k, l, h, hk, hf => by have := hN _ _ _ h; omega
  | f + 1, k, l, h, hk, hf => by
    cases hx : l[k]? with
    | none =>
      have e : bfGo δ ev (f + 1) k l = l := by unfold bfGo; rw [hx]
      have : k = l.length := by have := List.getElem?_eq_none_iff.1 hx; omega
      rw [e]; rw [this] at h; exact h
    | some x =>
      have e : bfGo δ ev (f + 1) k l = bfGo δ ev f (k + 1) (bfRow δ x l ev) := by rw [bfGo, hx]
      rw [e]
      have hlt := (List.getElem?_eq_some_iff.1 hx).1
      obtain ⟨t, ht⟩ := bfRow_pre δ x l ev
      exact bi_end hN f (k + 1) _ (bi_next δ h hx) (by rw [ht, List.length_append]; omega) (by omega)
end

/-! Two machines at once. -/
/-- Where both lead. -/
def bothD (A B : List Arr) (s : List Int × List Int) (e : Nat) : List Int × List Int := (stepL A s.1 (e : Int), stepL B s.2 (e : Int))
theorem bothD_run (A B : List Arr) : ∀ (u : List Int) (x y : List Int), (∀ e ∈ u, 0 ≤ e) → runF (bothD A B) (x, y) u = (afterL A x u, afterL B y u)
  | [], x, y, _ => rfl
  | e :: u, x, y, h => by
    have he : ((e.toNat : Nat) : Int) = e := by have := h e (by simp); omega
    show runF (bothD A B) (bothD A B (x, y) e.toNat) u = _
    unfold bothD
    rw [he]
    exact bothD_run A B u _ _ (fun z hz => h z (by simp [hz]))
theorem afterIn {m : Mach} (hm : mayB m = true) : ∀ (u l : List Int), (Inc l ∧ ∀ x ∈ l, 0 ≤ x ∧ x < m.st) → Inc (afterL m.arrows l u) ∧ ∀ x ∈ afterL m.arrows l u, 0 ≤ x ∧ x < m.st
  | [], l, h => h
  | e :: u, l, _ => afterIn hm u _ (stepIn hm l e)
/-- The places, the lesser words ahead. -/
def plcAll (a b : Mach) : List ((List Int × List Int) × List Int) := bfGo (bothD a.arrows b.arrows) a.ev.toNat 4097 0 [((a.starts, b.starts), [])]
theorem plc_bound {a b : Mach} (ha : mayB a = true) (hb : mayB b = true) (za : a.st ≤ 6) (zb : b.st ≤ 6) {ev k n : Nat} {l : List ((List Int × List Int) × List Int)} (h : BI (bothD a.arrows b.arrows) (a.starts, b.starts) ev k n l) : l.length ≤ 4096 := by
  have h1 := nodup_sub (m := prodL (subs 6) (subs 6)) h.nd (fun s hs => by
    obtain ⟨p, hp, rfl⟩ := List.mem_map.1 hs
    obtain ⟨e1, e2⟩ := h.run p hp
    rw [bothD_run _ _ _ _ _ (fun e he => (e2 e he).1)] at e1
    have i1 := afterIn ha p.2 _ (may_starts ha)
    have i2 := afterIn hb p.2 _ (may_starts hb)
    rw [e1]
    exact mem_prodL (mem_subs 6 _ i2.1 (fun x hx => by have := i2.2 x hx; omega)) (mem_subs 6 _ i1.1 (fun x hx => by have := i1.2 x hx; omega)))
  rw [List.length_map, prodL_len, subs_len] at h1
  exact h1
theorem plc_all {a b : Mach} (ha : mayB a = true) (hb : mayB b = true) (za : a.st ≤ 6) (zb : b.st ≤ 6) : BI (bothD a.arrows b.arrows) (a.starts, b.starts) a.ev.toNat (plcAll a b).length 0 (plcAll a b) :=
  bi_end (N := 4096) (fun k n l h => plc_bound ha hb za zb h) 4097 0 _ (bi_start _ _ _) (Nat.zero_le _) (by omega)

/-- Is a place where the one may end, and the other one not? -/
def outP (a b : Mach) (p : (List Int × List Int) × List Int) : Bool := decide (0 < (p.1.1.filter fun n => hasB a.ends n == true).length) && decide ((p.1.2.filter fun n => hasB b.ends n == true).length = 0)
/-- The least word that a accepts and b does not. -/
def outW (a b : Mach) : Option (List Int) := ((plcAll a b).find? (outP a b)).map (·.2)
/-- Is a word of the one, and not of the other one? -/
def betw (a b : Mach) (u : List Int) : Bool := acceptsB a u && !acceptsB b u
theorem outP_run {a b : Mach} {p : (List Int × List Int) × List Int} (h : p.1 = runF (bothD a.arrows b.arrows) (a.starts, b.starts) p.2) (hu : ∀ e ∈ p.2, 0 ≤ e) (u : List Int) (hu' : ∀ e ∈ u, 0 ≤ e) (he : p.1 = runF (bothD a.arrows b.arrows) (a.starts, b.starts) u) : outP a b p = betw a b u := by
  rw [bothD_run _ _ _ _ _ hu'] at he
  unfold outP betw acceptsB acceptsL
  rw [he]
  dsimp only
  congr 1
  rw [← decide_not]
  exact decide_eq_decide.2 (by omega)
theorem outW_none {a b : Mach} (ha : mayB a = true) (hb : mayB b = true) (za : a.st ≤ 6) (zb : b.st ≤ 6) (h : outW a b = none) (u : List Int) (hu : ∀ e ∈ u, 0 ≤ e ∧ e < a.ev) : betw a b u = false := by
  have hI := plc_all ha hb za zb
  have hev : ((a.ev.toNat : Nat) : Int) = a.ev := by have := mayB_size ha; unfold sizeOk at this; omega
  obtain ⟨p, hp, e1, -⟩ := bi_all _ hI u (by rw [hev]; exact hu)
  unfold outW at h
  rw [Option.map_eq_none_iff, List.find?_eq_none] at h
  have h1 := h p hp
  have hr := hI.run p hp
  rw [outP_run hr.1 (fun e he => (hr.2 e he).1) u (fun e he => (hu e he).1) e1] at h1
  simpa using h1
theorem outW_some {a b : Mach} (ha : mayB a = true) (hb : mayB b = true) (za : a.st ≤ 6) (zb : b.st ≤ 6) {v : List Int} (h : outW a b = some v) : betw a b v = true ∧ (∀ e ∈ v, 0 ≤ e ∧ e < a.ev) ∧ v.length ≤ 4096 ∧ ∀ u : List Int, (∀ e ∈ u, 0 ≤ e ∧ e < a.ev) → betw a b u = true → lessB u v = false := by
  have hI := plc_all ha hb za zb
  have hev : ((a.ev.toNat : Nat) : Int) = a.ev := by have := mayB_size ha; unfold sizeOk at this; omega
  unfold outW at h
  rw [Option.map_eq_some_iff] at h
  obtain ⟨p, hp, rfl⟩ := h
  have hpo := List.find?_some hp
  rw [List.find?_eq_some_iff_getElem] at hp
  obtain ⟨-, i, hi, e0, hlow⟩ := hp
  have hpi : (plcAll a b)[i]? = some p := by rw [List.getElem?_eq_getElem hi, e0]
  have hpm := List.mem_of_getElem? hpi
  have hr := hI.run p hpm
  rw [hev] at hr
  have hbd := plc_bound ha hb za zb hI
  refine ⟨?_, hr.2, ?_, fun u hu hb' => ?_⟩
  · rw [← outP_run hr.1 (fun e he => (hr.2 e he).1) p.2 (fun e he => (hr.2 e he).1) hr.1]; exact hpo
  · have := bi_wlen hI i p hpi; omega
  · obtain ⟨q, hq, e1, e2⟩ := bi_all _ hI u (by rw [hev]; exact hu)
    have hrq := hI.run q hq
    have hqo : outP a b q = true := by rw [outP_run hrq.1 (fun e he => (hrq.2 e he).1) u (fun e he => (hu e he).1) e1]; exact hb'
    obtain ⟨j, hj⟩ := List.mem_iff_getElem?.1 hq
    have hjl := (List.getElem?_eq_some_iff.1 hj).1
    have hqe := (List.getElem?_eq_some_iff.1 hj).2
    have hij : i ≤ j := by
      rcases Nat.lt_or_ge j i with h1 | h1
      · have := hlow j h1
        rw [hqe, hqo] at this; simp at this
      · exact h1
    have hle : leW p.2 q.2 := by
      rcases Nat.lt_or_ge i j with h1 | h1
      · have := List.pairwise_iff_getElem.1 hI.inc i j hi hjl h1
        rw [hqe, e0] at this
        exact .inr this
      · have : i = j := by omega
        subst this
        rw [hpi] at hj
        have := Option.some.inj hj
        subst this
        exact leW_refl _
    exact leW_not (leW_trans hle e2)

end Go.Proofs.YtkkkacmccndinaaDoor
namespace Go.Proofs.YtkkkacmccndinaaDoor
open Go.RowKit
set_option linter.unusedVariables false

/-- A pair's place, or how many there are. -/
def findP : List (Int × Int) → Int → Int → Nat
  | [], _, _ => 0
  | p :: r, x, y => if p.1 = x ∧ p.2 = y then 0 else findP r x y + 1
theorem findP_le : ∀ (L : List (Int × Int)) (x y : Int), findP L x y ≤ L.length
  | [], _, _ => Nat.le_refl _
  | p :: r, x, y => by
    unfold findP
    have := findP_le r x y
    split <;> simp <;> omega
/-- All pairs of one of both. -/
def crossP (S T : List Int) : List (Int × Int) := S.flatMap fun x => T.map fun y => (x, y)
theorem crossP_take {S T : List Int} {k : Nat} {x : Int} (h : k < S.length) (hx : Hid (x = S[k]?.getD 0)) : crossP (S.take (k + 1)) T = crossP (S.take k) T ++ T.map fun y => (x, y) := by
  have hx := hx.out
  rw [List.getElem?_eq_getElem h, Option.getD_some] at hx
  unfold crossP
  rw [List.take_add_one, List.getElem?_eq_getElem h, List.flatMap_append, ← hx]
  simp
theorem mapP_take {T : List Int} {q : Nat} {x y : Int} (h : q < T.length) (hy : Hid (y = T[q]?.getD 0)) : ((T.take (q + 1)).map fun z => (x, z)) = ((T.take q).map fun z => (x, z)) ++ [(x, y)] := by
  have hy := hy.out
  rw [List.getElem?_eq_getElem h, Option.getD_some] at hy
  rw [List.take_add_one, List.getElem?_eq_getElem h, List.map_append, ← hy]
  simp
theorem crossP_len : ∀ (S T : List Int), (crossP S T).length = S.length * T.length
  | [], T => by simp [crossP]
  | x :: r, T => by
    have := crossP_len r T
    unfold crossP at this ⊢
    rw [List.flatMap_cons, List.length_append, this, List.length_map, List.length_cons, Nat.succ_mul]; omega
theorem crossP_le {S T : List Int} (hS : S.length ≤ 4096) (hT : T.length ≤ 4096) (k : Nat) : (crossP (S.take k) T).length ≤ 16777216 := by
  rw [crossP_len]
  exact Nat.le_trans (Nat.mul_le_mul (Nat.le_trans (List.length_take_le' _ _) hS) hT) (by decide)
/-- Where a pair leads to. -/
def leadsP (ars brs : List Arr) (p : Int × Int) (e : Int) (inA inB : Bool) : List (Int × Int) :=
  if (inA || inB) = true then crossP (if inA = true then stepL ars [p.1] e else [p.1]) (if inB = true then stepL brs [p.2] e else [p.2]) else []
/-- Pairs found, and arrows. -/
structure BS where
  ps : List (Int × Int)
  ar : List Arr
/-- One pair that is led to. -/
def bAdd (i : Nat) (e : Int) (s : BS) (p : Int × Int) : BS :=
  ⟨if findP s.ps p.1 p.2 = s.ps.length then s.ps ++ [p] else s.ps, s.ar ++ [⟨(i : Int), e, (findP s.ps p.1 p.2 : Nat)⟩]⟩
/-- What a pair leads to, at one event. -/
def bEv (a b : Mach) (ofA ofB : List Int) (i : Nat) (p : Int × Int) (s : BS) (e : Int) : BS := (leadsP a.arrows b.arrows p e (hasB ofA e) (hasB ofB e)).foldl (bAdd i e) s
/-- .. at the first k events. -/
def bEvs (a b : Mach) (ofA ofB : List Int) (i : Nat) (p : Int × Int) (s : BS) (k : Nat) : BS := (List.range k).foldl (fun (s : BS) (e : Nat) => bEv a b ofA ofB i p s (e : Int)) s
def bPair (a b : Mach) (ofA ofB : List Int) (s : BS) (i : Nat) : BS := bEvs a b ofA ofB i (s.ps[i]?.getD (0, 0)) s a.ev.toNat
/-- Too many? -/
def bBig (s : BS) : Bool := decide (256 < s.ps.length) || decide (4096 < s.ar.length)
def bGo (a b : Mach) (ofA ofB : List Int) : Nat → Nat → BS → Option BS
  | 0, _, s => some s
  | f + 1, i, s => if i < s.ps.length then (if bBig (bPair a b ofA ofB s i) = true then none else bGo a b ofA ofB f (i + 1) (bPair a b ofA ofB s i)) else some s
/-- 0, 1, .., n - 1. -/
def rngI (n : Nat) : List Int := (List.range n).map fun k : Nat => (k : Int)
theorem rngI_succ (n : Nat) : rngI (n + 1) = rngI n ++ [(n : Int)] := by simp [rngI, List.range_succ]
theorem rngI_len (n : Nat) : (rngI n).length = n := by simp [rngI]
def besideS (a b : Mach) (ofA ofB : List Int) : Option BS := bGo a b ofA ofB 300 0 ⟨crossP a.starts b.starts, []⟩
/-- Which pairs are ends. -/
def endsP (a b : Mach) (L : List (Int × Int)) (n : Nat) : List Int := (rngI n).filter fun k => (hasB a.ends (L[k.toNat]?.getD (0, 0)).1 && hasB b.ends (L[k.toNat]?.getD (0, 0)).2)
def besideM (a b : Mach) (s : BS) : Mach := ⟨if s.ps.length = 0 then 1 else s.ps.length, a.ev, rngI (crossP a.starts b.starts).length, srtA s.ar, endsP a b s.ps s.ps.length⟩

theorem bEvs_succ (a b : Mach) (ofA ofB : List Int) (i : Nat) (p : Int × Int) (s : BS) (k : Nat) : bEvs a b ofA ofB i p s (k + 1) = bEv a b ofA ofB i p (bEvs a b ofA ofB i p s k) (k : Int) := by
  unfold bEvs; rw [List.range_succ, List.foldl_append]; rfl
theorem bAdd_take {i : Nat} {e : Int} {s : BS} {L : List (Int × Int)} {k : Nat} {p : Int × Int} (hp : Hid (L[k]? = some p)) : (L.take (k + 1)).foldl (bAdd i e) s = bAdd i e ((L.take k).foldl (bAdd i e) s) p := by
  obtain ⟨h1, h2⟩ := List.getElem?_eq_some_iff.1 hp.out
  rw [List.take_add_one, hp.out, List.foldl_append]; rfl
theorem bAdd_ps (i : Nat) (e : Int) (s : BS) (p : Int × Int) : ∃ t, (bAdd i e s p).ps = s.ps ++ t ∧ t.length ≤ 1 := by
  unfold bAdd
  by_cases h : findP s.ps p.1 p.2 = s.ps.length
  · exact ⟨[p], by simp [h], by simp⟩
  · exact ⟨[], by simp [h], by simp⟩
theorem bFold_ps (i : Nat) (e : Int) : ∀ (L : List (Int × Int)) (s : BS), ∃ t, (L.foldl (bAdd i e) s).ps = s.ps ++ t ∧ t.length ≤ L.length
  | [], s => ⟨[], by simp, by simp⟩
  | p :: r, s => by
    obtain ⟨t, h1, h2⟩ := bAdd_ps i e s p
    obtain ⟨t', h3, h4⟩ := bFold_ps i e r (bAdd i e s p)
    exact ⟨t ++ t', by rw [List.foldl_cons, h3, h1, List.append_assoc], by simp; omega⟩
theorem bFold_ar (i : Nat) (e : Int) : ∀ (L : List (Int × Int)) (s : BS), (L.foldl (bAdd i e) s).ar.length = s.ar.length + L.length
  | [], s => by simp
  | p :: r, s => by
    rw [List.foldl_cons, bFold_ar i e r]
    simp [bAdd]; omega
theorem leadsP_len (a b : Mach) (p : Int × Int) (e : Int) (x y : Bool) (ha : a.arrows.length ≤ 4096) (hb : b.arrows.length ≤ 4096) : (leadsP a.arrows b.arrows p e x y).length ≤ 16777216 := by
  unfold leadsP
  split
  · rw [crossP_len]
    refine Nat.le_trans (show _ ≤ 4096 * 4096 from Nat.mul_le_mul ?_ ?_) (by decide)
    · split
      · exact Nat.le_trans (stepL_len _ _ _) ha
      · simp
    · split
      · exact Nat.le_trans (stepL_len _ _ _) hb
      · simp
  · simp
/-- What the events so far have brought: bounds, and the pairs stay where they are. -/
theorem bEvs_bd (a b : Mach) (ofA ofB : List Int) (i : Nat) (p : Int × Int) (s : BS) (ha : a.arrows.length ≤ 4096) (hb : b.arrows.length ≤ 4096) : ∀ k, (∃ t, (bEvs a b ofA ofB i p s k).ps = s.ps ++ t ∧ t.length ≤ k * 16777216) ∧ (bEvs a b ofA ofB i p s k).ar.length ≤ s.ar.length + k * 16777216
  | 0 => ⟨⟨[], by simp [bEvs], by simp⟩, by simp [bEvs]⟩
  | k + 1 => by
    obtain ⟨⟨t, h1, h2⟩, h3⟩ := bEvs_bd a b ofA ofB i p s ha hb k
    rw [bEvs_succ]
    unfold bEv
    have hl := leadsP_len a b p (k : Int) (hasB ofA (k : Int)) (hasB ofB (k : Int)) ha hb
    obtain ⟨t', h4, h5⟩ := bFold_ps i (k : Int) (leadsP a.arrows b.arrows p (k : Int) (hasB ofA (k : Int)) (hasB ofB (k : Int))) (bEvs a b ofA ofB i p s k)
    have h6 := bFold_ar i (k : Int) (leadsP a.arrows b.arrows p (k : Int) (hasB ofA (k : Int)) (hasB ofB (k : Int))) (bEvs a b ofA ofB i p s k)
    refine ⟨⟨t ++ t', by rw [h4, h1, List.append_assoc], by rw [List.length_append, Nat.succ_mul]; omega⟩, ?_⟩
    rw [h6, Nat.succ_mul]; omega

end Go.Proofs.YtkkkacmccndinaaDoor
