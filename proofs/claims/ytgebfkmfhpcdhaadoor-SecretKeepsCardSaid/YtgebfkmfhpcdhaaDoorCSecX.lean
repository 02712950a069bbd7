/-
  Plain: the search of package secret, over sets of numbers, finds what the document asks for. No program, no model.
-/
import Derived.Test.YtgebfkmfhpcdhaaDoorG36
namespace Go.Proofs.YtgebfkmfhpcdhaaDoor
open Go.RowKit
set_option linter.unusedVariables false
set_option linter.unusedSectionVars false

/-! A search over other things that stand for the same ones. -/
section
variable {σ τ : Type} [DecidableEq σ] [DecidableEq τ] (φ : σ → τ) {δ : σ → Nat → σ} {δ' : τ → Nat → τ} {G : σ → Prop}
def mapQ (l : List (σ × List Int)) : List (τ × List Int) := l.map fun x => (φ x.1, x.2)
theorem mapQ_len (l : List (σ × List Int)) : (mapQ φ l).length = l.length := by simp [mapQ]
theorem mapQ_at (l : List (σ × List Int)) (k : Nat) : (mapQ φ l)[k]? = (l[k]?).map fun x => (φ x.1, x.2) := by simp [mapQ]
theorem bfStep_map (hinj : ∀ a b, G a → G b → φ a = φ b → a = b) (hG : ∀ a k, G a → G (δ a k)) (hδ : ∀ a k, G a → δ' (φ a) k = φ (δ a k)) {x : σ × List Int} {l : List (σ × List Int)} (hx : G x.1) (hl : ∀ y ∈ l, G y.1) (e : Nat) : bfStep δ' (φ x.1, x.2) (mapQ φ l) e = mapQ φ (bfStep δ x l e) ∧ ∀ y ∈ bfStep δ x l e, G y.1 := by
  have hk : knownB (mapQ φ l) (φ (δ x.1 e)) = knownB l (δ x.1 e) := by
    rw [Bool.eq_iff_iff, knownB_iff, knownB_iff]
    constructor
    · rintro ⟨p, hp, e1⟩
      obtain ⟨y, hy, rfl⟩ := List.mem_map.1 hp
      exact ⟨y, hy, hinj _ _ (hl y hy) (hG _ _ hx) e1⟩
    · rintro ⟨p, hp, e1⟩
      exact ⟨(φ p.1, p.2), List.mem_map.2 ⟨p, hp, rfl⟩, by show φ p.1 = _; rw [e1]⟩
  unfold bfStep
  dsimp only
  rw [hδ _ _ hx, hk]
  by_cases h : knownB l (δ x.1 e) = true
  · rw [if_pos h, if_pos h]; exact ⟨rfl, hl⟩
  · rw [if_neg h, if_neg h]
    refine ⟨by simp [mapQ], fun y hy => ?_⟩
    rcases List.mem_append.1 hy with q | q
    · exact hl y q
    · have : y = (δ x.1 e, x.2 ++ [(e : Int)]) := by simpa using q
      rw [this]; exact hG _ _ hx
theorem bfRow_map (hinj : ∀ a b, G a → G b → φ a = φ b → a = b) (hG : ∀ a k, G a → G (δ a k)) (hδ : ∀ a k, G a → δ' (φ a) k = φ (δ a k)) {x : σ × List Int} {l : List (σ × List Int)} (hx : G x.1) (hl : ∀ y ∈ l, G y.1) : ∀ n, bfRow δ' (φ x.1, x.2) (mapQ φ l) n = mapQ φ (bfRow δ x l n) ∧ ∀ y ∈ bfRow δ x l n, G y.1
  | 0 => ⟨rfl, hl⟩
  | n + 1 => by
    obtain ⟨h1, h2⟩ := bfRow_map hinj hG hδ hx hl n
    rw [bfRow_succ, bfRow_succ, h1]
    exact bfStep_map φ hinj hG hδ hx h2 n
theorem bfCut_map (hinj : ∀ a b, G a → G b → φ a = φ b → a = b) (hG : ∀ a k, G a → G (δ a k)) (hδ : ∀ a k, G a → δ' (φ a) k = φ (δ a k)) (M ev : Nat) : ∀ (f k : Nat) (l : List (σ × List Int)), (∀ y ∈ l, G y.1) → bfCut δ' M ev f k (mapQ φ l) = (bfCut δ M ev f k l).map (mapQ φ) ∧ ∀ l', bfCut δ M ev f k l = some l' → ∀ y ∈ l', G y.1
  | 0, k, l, hl => ⟨rfl, fun l' h y hy => by
      have h : l = l' := Option.some.inj h
      subst h; exact hl y hy⟩
  | f + 1, k, l, hl => by
    rw [bfCut, bfCut, mapQ_at, mapQ_len]
    cases hx : l[k]? with
    | none =>
      refine ⟨rfl, fun l' h y hy => ?_⟩
      have h : l = l' := Option.some.inj h
      subst h; exact hl y hy
    | some x =>
      dsimp only [Option.map_some]
      by_cases hc : M < l.length
      · rw [if_pos hc, if_pos hc]
        exact ⟨rfl, fun l' h => by cases h⟩
      · rw [if_neg hc, if_neg hc]
        obtain ⟨h1, h2⟩ := bfRow_map φ hinj hG hδ (hl x (List.mem_of_getElem? hx)) hl ev
        rw [h1]
        exact bfCut_map hinj hG hδ M ev f (k + 1) _ h2
theorem bfRow_more (x : σ × List Int) (l : List (σ × List Int)) {a b : Nat} (h : a ≤ b) : (bfRow δ x l a).length ≤ (bfRow δ x l b).length := by
  induction b with
  | zero => have : a = 0 := by omega
            subst this; exact Nat.le_refl _
  | succ b ih =>
    by_cases e : a = b + 1
    · subst e; exact Nat.le_refl _
    · obtain ⟨t, ht⟩ := bfStep_pre δ x (bfRow δ x l b) b
      rw [bfRow_succ, ht, List.length_append]
      have := ih (by omega)
      omega
end

/-! Whereabouts as rows of numbers. -/
def encL (c : List Pla) : List Int := (rngI 256).filter fun n => hasB (c.map encQ) n
def decL (m s : Mach) (t : List Int) : List Pla := (allQ m s).filter fun x => hasB t (encQ x)
def nD (m s : Mach) (seen : List Int) (t : List Int) (k : Nat) : List Int := encL (seeQ m s seen (decL m s t) (seen[k]?.getD 0))
def nF (m s : Mach) (seen : List Int) : List Int := encL (firstQ m s seen)
theorem inc_encL (c : List Pla) : Inc (encL c) := inc_flt (inc_rng9 _) _
theorem encL_same {c c' : List Pla} (h : ∀ x, x ∈ c ↔ x ∈ c') : encL c = encL c' := by
  unfold encL
  refine List.filter_congr (fun n _ => ?_)
  rw [Bool.eq_iff_iff, hasB_iff, hasB_iff, List.mem_map, List.mem_map]
  exact ⟨fun ⟨x, hx, e⟩ => ⟨x, (h x).1 hx, e⟩, fun ⟨x, hx, e⟩ => ⟨x, (h x).2 hx, e⟩⟩
section
variable {m s : Mach}
theorem mem_encL (zm : m.st ≤ 6) {c : List Pla} (hc : ∀ x ∈ c, x ∈ allQ m s) (n : Int) : n ∈ encL c ↔ n ∈ c.map encQ := by
  unfold encL
  rw [List.mem_filter, mem_rng9, hasB_iff]
  exact ⟨fun h => h.2, fun h => ⟨by have := enc_bd zm hc n h; omega, h⟩⟩
theorem rep_encL (zm : m.st ≤ 6) {c : List Pla} (hc : ∀ x ∈ c, x ∈ allQ m s) {S : Nat → Nat} (h : Rep S (c.map encQ)) : Rep S (encL c) := rep_same h (fun n => (mem_encL zm hc n).symm)
theorem mem_decL (zm : m.st ≤ 6) {c : List Pla} (hc : ∀ x ∈ c, x ∈ allQ m s) (x : Pla) : x ∈ decL m s (encL c) ↔ x ∈ c := by
  unfold decL
  rw [List.mem_filter, hasB_iff, mem_encL zm hc]
  exact ⟨fun ⟨h1, h2⟩ => (enc_mem zm hc h1).1 h2, fun h => ⟨hc x h, (enc_mem zm hc (hc x h)).2 h⟩⟩
theorem decL_in (t : List Int) : ∀ x ∈ decL m s t, x ∈ allQ m s := fun x hx => (List.mem_filter.1 hx).1
theorem rep_decL (zm : m.st ≤ 6) {c : List Pla} (hc : ∀ x ∈ c, x ∈ allQ m s) {S : Nat → Nat} (h : Rep S (encL c)) : Rep S ((decL m s (encL c)).map encQ) := rep_same h (fun n => by
  rw [mem_encL zm hc, List.mem_map, List.mem_map]
  exact ⟨fun ⟨x, hx, e⟩ => ⟨x, (mem_decL zm hc x).2 hx, e⟩, fun ⟨x, hx, e⟩ => ⟨x, (mem_decL zm hc x).1 hx, e⟩⟩)
def GQ (m s : Mach) (c : List Pla) : Prop := ∃ z, (∀ x ∈ z, x ∈ allQ m s) ∧ c = canG (allQ m s) z
theorem GQ.in {c : List Pla} (h : GQ m s c) : ∀ x ∈ c, x ∈ allQ m s := by
  obtain ⟨z, hz, rfl⟩ := h
  exact fun x hx => (List.mem_filter.1 hx).1
theorem gq_inj (zm : m.st ≤ 6) (a b : List Pla) (ha : GQ m s a) (hb : GQ m s b) (h : encL a = encL b) : a = b := by
  have h1 := ha.in
  have h2 := hb.in
  obtain ⟨z, hz, rfl⟩ := ha
  obtain ⟨y, hy, rfl⟩ := hb
  rw [canG_iff hz hy]
  intro x
  rw [← mem_canG hz, ← mem_canG hy, ← mem_decL zm h1, ← mem_decL zm h2, h]
theorem nD_enc (hm : mayB m = true) (hs : mayB s = true) (zm : m.st ≤ 6) (zs : s.st ≤ 4) (seen : List Int) (c : List Pla) (k : Nat) (hc : GQ m s c) : nD m s seen (encL c) k = encL (qD m s seen c k) := by
  unfold nD qD
  refine encL_same (fun x => ?_)
  rw [mem_canG (seeQ_in hm hs zm zs).2]
  exact see_same hm hs zm zs (mem_decL zm hc.in) _ x
/-- What the program's search finds; nothing: there are too many. -/
def fndN (m s : Mach) (seen : List Int) : Option (List (List Int × List Int)) := bfCut (nD m s seen) 256 seen.length 257 0 [(nF m s seen, [])]
theorem fndN_eq (hm : mayB m = true) (hs : mayB s = true) (zm : m.st ≤ 6) (zs : s.st ≤ 4) (seen : List Int) : fndN m s seen = (fndQ m s seen).map (mapQ encL) ∧ ∀ l, fndQ m s seen = some l → ∀ y ∈ l, GQ m s y.1 := by
  have h0 : ∀ y ∈ [(qF m s seen, ([] : List Int))], GQ m s y.1 := fun y hy => by
    have : y = (qF m s seen, []) := by simpa using hy
    rw [this]; exact ⟨firstQ m s seen, (first_in hm hs zm zs).2.1, rfl⟩
  have key := bfCut_map (δ := qD m s seen) (δ' := nD m s seen) (G := GQ m s) encL (gq_inj zm) (fun a k _ => ⟨_, (seeQ_in hm hs zm zs).2, rfl⟩) (fun a k ha => nD_enc hm hs zm zs seen a k ha) 256 seen.length 257 0 [(qF m s seen, [])] h0
  have e : nF m s seen = encL (qF m s seen) := encL_same (fun x => by unfold qF; rw [mem_canG (first_in hm hs zm zs).2.1])
  unfold fndN fndQ
  rw [e]
  exact key
def leakN (m s : Mach) (t : List Int) : Bool := leakQ m s (decL m s t)
theorem outQ_N (hm : mayB m = true) (hs : mayB s = true) (zm : m.st ≤ 6) (zs : s.st ≤ 4) (seen : List Int) : outQ m s seen = (fndN m s seen).map fun l => (l.find? fun x => leakN m s x.1).map fun x => wordS seen x.2 := by
  obtain ⟨h1, h2⟩ := fndN_eq hm hs zm zs seen
  unfold outQ
  rw [h1]
  cases hf : fndQ m s seen with
  | none => rfl
  | some l =>
    have h2 := h2 l hf
    simp only [Option.map_some]
    congr 1
    unfold mapQ
    rw [List.find?_map, Option.map_map]
    have : ∀ l : List (List Pla × List Int), (∀ y ∈ l, GQ m s y.1) → l.find? (fun x => leakQ m s x.1) = l.find? ((fun x => leakN m s x.1) ∘ fun x => (encL x.1, x.2)) := by
      intro l
      induction l with
      | nil => intro _; rfl
      | cons x r ih =>
        intro hin
        have e2 : ((fun x : List Int × List Int => leakN m s x.1) ∘ fun x : List Pla × List Int => (encL x.1, x.2)) x = leakQ m s x.1 := by
          show leakQ m s (decL m s (encL x.1)) = _
          exact leakQ_same m s (mem_decL zm (hin x (by simp)).in)
        rw [List.find?_cons, List.find?_cons, e2, ih (fun y hy => hin y (by simp [hy]))]
    rw [this l h2]
    rfl
/-- The search, at place k. -/
structure LF (m s : Mach) (seen : List Int) (k : Nat) (l : List (List Int × List Int)) : Prop where
  bi : BI (nD m s seen) (nF m s seen) seen.length k 0 l
  go : fndN m s seen = bfCut (nD m s seen) 256 seen.length (257 - k) k l
theorem LF.start (m s : Mach) (seen : List Int) : LF m s seen 0 [(nF m s seen, [])] := ⟨bi_start _ _ _, rfl⟩
theorem LF.next {seen : List Int} {k : Nat} {l : List (List Int × List Int)} (h : LF m s seen k l) {x : List Int × List Int} (hx : l[k]? = some x) (hl : l.length ≤ 256) : LF m s seen (k + 1) (bfRow (nD m s seen) x l seen.length) := by
  have hk := (List.getElem?_eq_some_iff.1 hx).1
  refine ⟨bi_next _ h.bi hx, ?_⟩
  rw [h.go, show 257 - k = (257 - (k + 1)) + 1 by omega, bfCut, hx]
  dsimp only
  rw [if_neg (by omega)]
theorem LF.all {seen : List Int} {k : Nat} {l : List (List Int × List Int)} (h : LF m s seen k l) (hk : l.length ≤ k) : fndN m s seen = some l := by
  rw [h.go]
  have hx : l[k]? = none := List.getElem?_eq_none hk
  cases 257 - k with
  | zero => rfl
  | succ f => rw [bfCut, hx]
theorem LF.cut {seen : List Int} {k : Nat} {l : List (List Int × List Int)} (h : LF m s seen k l) {x : List Int × List Int} (hx : l[k]? = some x) (hl : l.length ≤ 256) {e : Nat} (he : e ≤ seen.length) (hb : 256 < (bfRow (nD m s seen) x l e).length) : fndN m s seen = none := by
  have hk := (List.getElem?_eq_some_iff.1 hx).1
  have hg := (h.next hx hl).go
  have hm := bfRow_more (δ := nD m s seen) x l he
  rw [hg, show 257 - (k + 1) = (255 - k) + 1 by omega, bfCut, List.getElem?_eq_getElem (by omega)]
  dsimp only
  rw [if_pos (by omega)]
theorem rep_nD (hm : mayB m = true) (hs : mayB s = true) (zm : m.st ≤ 6) (zs : s.st ≤ 4) {seen t : List Int} {k : Nat} {S : Nat → Nat} (h : Rep S ((seeQ m s seen (decL m s t) (seen[k]?.getD 0)).map encQ)) : Rep S (nD m s seen t k) ∧ Inc (nD m s seen t k) := ⟨rep_encL zm (seeQ_in hm hs zm zs).2 h, inc_encL _⟩
theorem rep_nF (hm : mayB m = true) (hs : mayB s = true) (zm : m.st ≤ 6) (zs : s.st ≤ 4) {seen : List Int} {S : Nat → Nat} (h : Rep S ((firstQ m s seen).map encQ)) : Rep S (nF m s seen) ∧ Inc (nF m s seen) := ⟨rep_encL zm (first_in hm hs zm zs).2.1 h, inc_encL _⟩
/-! Which whereabouts leak. -/
theorem rep_rowS {S : Nat → Nat} (h : okS S) : Rep S (rowS S) := ⟨h, fun x hx => by have := (mem_rowS S x).1 hx; omega, fun n hn => by
  rw [mem_rowS, Int.toNat_natCast]
  exact ⟨fun h => ⟨by omega, by omega, h⟩, fun h => h.2.2⟩⟩
theorem meet_has {S T : Nat → Nat} (h : okS S) (h' : okS T) : meetB S T = true ↔ ∃ n, n < 256 ∧ hasS S n = true ∧ hasS T n = true := by
  rw [meet_iff (rep_rowS h) (rep_rowS h'), decide_eq_true_eq, List.length_pos_iff_exists_mem]
  constructor
  · rintro ⟨x, hx⟩
    obtain ⟨h1, h2⟩ := List.mem_filter.1 hx
    have h2 : hasB (rowS T) x = true := by simpa using h2
    have k1 := (mem_rowS S x).1 h1
    have k2 := (mem_rowS T x).1 ((hasB_iff _ _).1 h2)
    exact ⟨x.toNat, by omega, k1.2.2, k2.2.2⟩
  · rintro ⟨n, hn, h1, h2⟩
    refine ⟨(n : Int), List.mem_filter.2 ⟨(mem_rowS S _).2 ⟨by omega, by omega, by rwa [Int.toNat_natCast]⟩, ?_⟩⟩
    rw [(hasB_iff _ _).2 ((mem_rowS T _).2 ⟨by omega, by omega, by rwa [Int.toNat_natCast]⟩)]; rfl
/-- The pairs of the ends with the rows below k that meet those of the secret, or do not. -/
def secF (M E : Nat → Nat) (b : Bool) (k : Nat) : Nat → Nat := toF (fun n => pairsS M n) ((List.range k).filter fun n => meetB (oneW n) E == b)
theorem ok_secF (M E : Nat → Nat) (b : Bool) (k : Nat) : okS (secF M E b k) := ok_toF (fun n => ok_pairs M n) _
theorem secF_yes (M E : Nat → Nat) {b : Bool} {k : Nat} (h : meetB (oneW k) E = b) : secF M E b (k + 1) = joinS (secF M E b k) (pairsS M k) := by
  unfold secF
  rw [List.range_succ, List.filter_append, List.filter_cons_of_pos (by rw [h]; simp), List.filter_nil, toF_snoc]
theorem secF_no (M E : Nat → Nat) {b : Bool} {k : Nat} (h : meetB (oneW k) E = !b) : secF M E b (k + 1) = secF M E b k := by
  unfold secF
  rw [List.range_succ, List.filter_append, List.filter_cons_of_neg (by rw [h]; cases b <;> simp), List.filter_nil, List.append_nil]
theorem meet_part (hm : mayB m = true) (hs : mayB s = true) (zm : m.st ≤ 6) (zs : s.st ≤ 4) {c : List Pla} (hc : ∀ x ∈ c, x ∈ allQ m s) {S : Nat → Nat} (h : Rep S (c.map encQ)) (b : Bool) : meetB S (secF (ofS m.ends) (ofS s.ends) b 16) = c.any fun x => hasB m.ends x.1 && (decide (0 < (x.2.filter fun n => hasB s.ends n == true).length) == b) := by
  have rM := rep_allL (l := m.ends) (fun x hx => by have := (may_ends hm).2 x hx; omega)
  have rE := rep_allL (l := s.ends) (fun x hx => by have := (may_ends hs).2 x hx; omega)
  rw [Bool.eq_iff_iff, meet_has h.ok (ok_secF _ _ _ _), List.any_eq_true]
  have at' : ∀ x ∈ c, meetB (oneW (bitQ x.2)) (ofS s.ends) = decide (0 < (x.2.filter fun n => hasB s.ends n == true).length) := fun x hx => meet_iff (rep_oneW (allQ_in (hc x hx)).2.2.2) rE
  constructor
  · rintro ⟨n, hn, h1, h2⟩
    obtain ⟨x, hx, e1⟩ := List.mem_map.1 ((h.mem n hn).1 h1)
    unfold secF at h2
    obtain ⟨k, hk, h3⟩ := (has_toF _ _ _).1 h2
    obtain ⟨k1, k2⟩ := List.mem_filter.1 hk
    have k1 := List.mem_range.1 k1
    obtain ⟨y, hy, e2⟩ := (has_pairs rM k n).1 h3
    obtain ⟨a1, a2, a3, a4⟩ := allQ_in (hc x hx)
    have hb := bit_lt a4
    have e3 : x.1 * 16 + (bitQ x.2 : Int) = y * 16 + (k : Int) := by rw [← e2, ← e1]; rfl
    have e4 : x.1 = y := by omega
    have e5 : bitQ x.2 = k := by omega
    refine ⟨x, hx, ?_⟩
    rw [← at' x hx, e5, e4, (hasB_iff _ _).2 hy, Bool.true_and]; exact k2
  · rintro ⟨x, hx, hb⟩
    rw [Bool.and_eq_true] at hb
    obtain ⟨a1, a2, a3, a4⟩ := allQ_in (hc x hx)
    have hbt := bit_lt a4
    have he := enc_at zm (hc x hx)
    refine ⟨(encQ x).toNat, by omega, (h.mem _ (by omega)).2 (by rw [Int.toNat_of_nonneg he.1]; exact List.mem_map.2 ⟨x, hx, rfl⟩), ?_⟩
    unfold secF
    refine (has_toF _ _ _).2 ⟨bitQ x.2, List.mem_filter.2 ⟨List.mem_range.2 hbt, by rw [at' x hx]; exact hb.2⟩, (has_pairs rM _ _).2 ⟨x.1, (hasB_iff _ _).1 hb.1, by rw [Int.toNat_of_nonneg he.1]; rfl⟩⟩
theorem leak_part (hm : mayB m = true) (hs : mayB s = true) (zm : m.st ≤ 6) (zs : s.st ≤ 4) {c : List Pla} (hc : ∀ x ∈ c, x ∈ allQ m s) {S : Nat → Nat} (h : Rep S (c.map encQ)) : (meetB S (secF (ofS m.ends) (ofS s.ends) true 16) && !meetB S (secF (ofS m.ends) (ofS s.ends) false 16)) = leakQ m s c := by
  unfold leakQ secQ opnQ
  rw [meet_part hm hs zm zs hc h true, meet_part hm hs zm zs hc h false]
  congr 2
  · congr 1; funext x; cases decide (0 < (x.2.filter fun n => hasB s.ends n == true).length) <;> rfl
  · congr 1; funext x; cases decide (0 < (x.2.filter fun n => hasB s.ends n == true).length) <;> rfl
theorem outN_found (hm : mayB m = true) (hs : mayB s = true) (zm : m.st ≤ 6) (zs : s.st ≤ 4) {seen : List Int} {l : List (List Int × List Int)} (hf : fndN m s seen = some l) {k : Nat} {x : List Int × List Int} (hno : ∀ (j : Nat) (y : List Int × List Int), j < k → l[j]? = some y → leakN m s y.1 = false) (hx : l[k]? = some x) (ho : leakN m s x.1 = true) : outQ m s seen = some (some (wordS seen x.2)) := by
  rw [outQ_N hm hs zm zs, hf]
  have : l.find? (fun x => leakN m s x.1) = some x := by
    rw [List.find?_eq_some_iff_getElem]
    have hk := (List.getElem?_eq_some_iff.1 hx).1
    refine ⟨ho, k, hk, (List.getElem?_eq_some_iff.1 hx).2, fun j hj => ?_⟩
    have := hno j _ hj (List.getElem?_eq_getElem (Nat.lt_trans hj hk))
    rw [this]; rfl
  simp only [Option.map_some, this]
theorem outN_not (hm : mayB m = true) (hs : mayB s = true) (zm : m.st ≤ 6) (zs : s.st ≤ 4) {seen : List Int} {l : List (List Int × List Int)} (hf : fndN m s seen = some l) {k : Nat} (hno : ∀ (j : Nat) (y : List Int × List Int), j < k → l[j]? = some y → leakN m s y.1 = false) (hk : l.length ≤ k) : outQ m s seen = some none := by
  rw [outQ_N hm hs zm zs, hf]
  have : l.find? (fun x => leakN m s x.1) = none := by
    rw [List.find?_eq_none]
    intro x hx
    obtain ⟨j, hj⟩ := List.mem_iff_getElem?.1 hx
    have := hno j x (by have := (List.getElem?_eq_some_iff.1 hj).1; omega) hj
    rw [this]; simp
  simp only [Option.map_some, this, Option.map_none]
theorem outN_big (hm : mayB m = true) (hs : mayB s = true) (zm : m.st ≤ 6) (zs : s.st ≤ 4) {seen : List Int} (hf : fndN m s seen = none) : outQ m s seen = none := by
  rw [outQ_N hm hs zm zs, hf]; rfl
theorem fndN_len (hm : mayB m = true) (hs : mayB s = true) (zm : m.st ≤ 6) (zs : s.st ≤ 4) {seen : List Int} {l : List (List Int × List Int)} (hf : fndN m s seen = some l) : BI (nD m s seen) (nF m s seen) seen.length l.length 0 l ∧ l.length ≤ 256 :=
  bfCut_end _ 257 0 _ l (bi_start _ _ _) (Nat.zero_le _) (by omega) (by omega) hf
end

/-! What a closure that leads pairs on may be asked. -/
def BdQ (s : Mach) (l : List Pla) : Prop := ∀ x ∈ l, ∀ y ∈ x.2, 0 ≤ y ∧ y < s.st
def RdyQ (st sb : Nat) (S : Nat → Nat) : Prop := ∀ n ∈ allS S, n < 96 ∧ n / 16 < st ∧ ∀ k ∈ allS (oneW (n % 16)), k < sb
section
variable {m s : Mach}
theorem rdy_of (zm : m.st ≤ 6) {c : List Pla} (hc : ∀ x ∈ c, x ∈ allQ m s) (hb : BdQ s c) {S : Nat → Nat} (h : Rep S (c.map encQ)) : RdyQ m.st.toNat s.st.toNat S := fun n hn => by
  obtain ⟨n1, n2⟩ := (mem_allS _ _).1 hn
  obtain ⟨x, hx, e⟩ := List.mem_map.1 ((h.mem n n1).1 n2)
  have b := enc_at zm (hc x hx)
  obtain ⟨a1, a2, a3, a4⟩ := allQ_in (hc x hx)
  have e2 : n = (encQ x).toNat := by omega
  rw [e2]
  refine ⟨by omega, by rw [b.2.2.1]; omega, fun k hk => ?_⟩
  rw [b.2.2.2] at hk
  obtain ⟨k1, k2⟩ := (mem_allS _ _).1 hk
  have := hb x hx _ (((rep_oneW a4).mem k k1).1 k2)
  omega
theorem bd_to (hs : mayB s = true) (y : Pla) (a : Arr) : ∀ z ∈ (plTo s y a).2, 0 ≤ z ∧ z < s.st := (stepIn hs y.2 a.e).2
theorem bd_step (hs : mayB s = true) (l : List Pla) (e : Int) : BdQ s (stepQ m s l e) := fun x hx => by
  obtain ⟨y, -, hx⟩ := (mem_stepQ m s l e x).1 hx
  obtain ⟨a, -, -, -, rfl⟩ := mem_evQ.1 hx
  exact bd_to hs y a
theorem bd_wide (hm : mayB m = true) (hs : mayB s = true) (zm : m.st ≤ 6) (zs : s.st ≤ 4) {seen : List Int} {l : List Pla} (hn : l.Nodup) (hu : ∀ x ∈ l, x ∈ allQ m s) (hb : BdQ s l) : BdQ s (wideQ m s seen l) :=
  (wideQ_props hm hs zm zs (seen := seen) hn hu (fun x => ∀ y ∈ x.2, 0 ≤ y ∧ y < s.st) (fun y _ x hx => by
    obtain ⟨a, -, -, -, rfl⟩ := mem_unQ.1 hx
    exact bd_to hs y a) hb).1
theorem bd_see (hm : mayB m = true) (hs : mayB s = true) (zm : m.st ≤ 6) (zs : s.st ≤ 4) (seen : List Int) (l : List Pla) (e : Int) : BdQ s (seeQ m s seen l e) :=
  bd_wide hm hs zm zs (stepQ_in hm hs zm zs e).1 (stepQ_in hm hs zm zs e).2 (bd_step hs l e)
theorem start_nodup (hm : mayB m = true) : (m.starts.map fun x => ((x, s.starts) : Pla)).Nodup := by
  have := inc_nodup (may_starts hm).1
  rw [List.nodup_iff_pairwise_ne, List.pairwise_map]
  exact List.Pairwise.imp (fun hab e => hab (by injection e)) (List.nodup_iff_pairwise_ne.1 this)
theorem start_all (hm : mayB m = true) (hs : mayB s = true) (zm : m.st ≤ 6) (zs : s.st ≤ 4) : ∀ x ∈ m.starts.map fun x => ((x, s.starts) : Pla), x ∈ allQ m s := fun x hx => by
  obtain ⟨y, hy, rfl⟩ := List.mem_map.1 hx
  exact start_in hm hs zm zs hy
theorem bd_start (hs : mayB s = true) : BdQ s (m.starts.map fun x => ((x, s.starts) : Pla)) := fun x hx => by
  obtain ⟨y, -, rfl⟩ := List.mem_map.1 hx
  exact (may_starts hs).2
theorem bd_first (hm : mayB m = true) (hs : mayB s = true) (zm : m.st ≤ 6) (zs : s.st ≤ 4) (seen : List Int) : BdQ s (firstQ m s seen) :=
  bd_wide hm hs zm zs (start_nodup hm) (start_all hm hs zm zs) (bd_start hs)
theorem run_encB (hm : mayB m = true) (hs : mayB s = true) (zm : m.st ≤ 6) (zs : s.st ≤ 4) (seen u : List Int) : ∃ c, (∀ x ∈ c, x ∈ allQ m s) ∧ BdQ s c ∧ runF (nD m s seen) (nF m s seen) u = encL c := by
  rcases List.eq_nil_or_concat u with rfl | ⟨a, b, e⟩
  · exact ⟨firstQ m s seen, (first_in hm hs zm zs).2.1, bd_first hm hs zm zs seen, rfl⟩
  · rw [e, List.concat_eq_append, runF_snoc]
    exact ⟨_, (seeQ_in hm hs zm zs).2, bd_see hm hs zm zs _ _ _, rfl⟩
/-- What is found may be asked. -/
theorem found_rdy (hm : mayB m = true) (hs : mayB s = true) (zm : m.st ≤ 6) (zs : s.st ≤ 4) {seen : List Int} {k n : Nat} {l : List (List Int × List Int)} (h : BI (nD m s seen) (nF m s seen) seen.length k n l) {x : List Int × List Int} (hx : x ∈ l) {S : Nat → Nat} (hr : Rep S x.1) : Rep S ((decL m s x.1).map encQ) ∧ BdQ s (decL m s x.1) ∧ RdyQ m.st.toNat s.st.toNat S := by
  have e := (h.run x hx).1
  obtain ⟨c, h1, hb, h2⟩ := run_encB hm hs zm zs seen x.2
  rw [e, h2] at hr ⊢
  have r := rep_decL zm h1 hr
  have b : BdQ s (decL m s (encL c)) := fun y hy => hb y ((mem_decL zm h1 y).1 hy)
  exact ⟨r, b, rdy_of zm (decL_in _) b r⟩
theorem StQ.rdy (hm : mayB m = true) (hs : mayB s = true) (zm : m.st ≤ 6) (zs : s.st ≤ 4) {seen : List Int} {l0 : List Pla} (hn : l0.Nodup) (hu : ∀ x ∈ l0, x ∈ allQ m s) (hb : BdQ s l0) {S R : Nat → Nat} (h : StQ m s seen l0 S R) : RdyQ m.st.toNat s.st.toNat R := by
  obtain ⟨F, Q, h1, h2, h3, h4, h5, h6, h7⟩ := h
  have w := bd_wide hm hs zm zs (seen := seen) hn hu hb
  exact rdy_of zm (fun x hx => h3 x (h4 x hx)) (fun x hx => w x (h6 x (h4 x hx))) h2
end

end Go.Proofs.YtgebfkmfhpcdhaaDoor
