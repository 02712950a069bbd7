/-
  Inner slices of integers of which nil has no room.
  Plain: which of two lists is the lesser one, number by number. No program, no model.
  Plain mathematics of machines beside one another: pairs as they are found, arrows between them. No program, no model.
  The walk of jalousieref9.Lesser.
  Plain: the places where two machines may be at once, and the least word that one accepts and the other one doesn't. No program, no model.
  Plain: a plant, and what may be known of where it is. No program, no model.
  A plant's value, and what is said of it in a world; a plant that came in, opened.
-/
import Derived.Test.YtmlkpdeidpcidaaDoorG23
import Derived.Test.YtmlkpdeidpcidaaDoorG11
import Derived.Deep.QuietTactic
import Derived.BigQuiet
import Derived.Test.YtmlkpdeidpcidaaDoorG03
import Derived.Test.YtmlkpdeidpcidaaDoorG04
import Derived.Test.YtmlkpdeidpcidaaDoorG14
import Derived.Test.YtmlkpdeidpcidaaDoorG20
namespace Go.Proofs.YtmlkpdeidpcidaaDoor
open Go.RowKit
set_option linter.unusedVariables false

/-- An inner slice, and nil has no room. -/
def InnW (n : Nat) (W : World) (x : Value) (xs : List Int) : Prop := InnN n W x xs ∧ ∀ (m c : Nat), x = .slice none m c → c = 0
theorem InnW.kept {n : Nat} {W W' : World} {x : Value} {xs : List Int} (h : InnW n W x xs) (hz : W.heap.size ≤ W'.heap.size) (h1 : ∀ j, j < n → W'.heap[j]? = W.heap[j]?) (h2 : ∀ (g : Nat) (cs : Array Value), W.heap[g]? = some (.cells cs 3 (0, 0)) → W'.heap[g]? = W.heap[g]?) : InnW n W' x xs := ⟨h.1.kept hz h1 h2, h.2⟩
theorem InnW.below {n : Nat} {W W' : World} {x : Value} {xs : List Int} (h : InnW n W x xs) (hb : Below W.heap.size W W') (hn : n ≤ W.heap.size) : InnW n W' x xs :=
  h.kept hb.size (fun j hj => hb.block j (by omega)) (fun g cs hg => hb.block g (Array.getElem?_eq_some_iff.1 hg).1)
theorem InnW.of_own {n : Nat} {W : World} {B : Nat} {v : Value} {xs : List Int} (h : Own W B v xs) : InnW n W v xs := by
  refine ⟨InnN.of_own h, fun m c e => ?_⟩
  obtain ⟨a, cap, e1, -, -, -, e2⟩ := h.at2
  rw [e1] at e
  cases e
  exact e2 rfl
theorem InnW.at {n : Nat} {W : World} {x : Value} {xs : List Int} (h : InnW n W x xs) : ∃ a c, x = .slice a xs.length c ∧ At W a xs ∧ xs.length ≤ maxLen ∧ (a = none → c = 0) := by
  obtain ⟨a, c, e, h1, h2⟩ := h.1.at
  exact ⟨a, c, e, h1, h2, fun hn => h.2 _ c (by rw [e, hn])⟩
theorem InnW.one {n : Nat} {W : World} {x : Value} {xs : List Int} (h : InnW n W x xs) : x.oneCell' = true := by
  obtain ⟨a, c, rfl, -⟩ := h.at; rfl

theorem innW_at {w W : World} {a : Option Addr} {c : Nat} {xs : List Int} (h : At w a xs) (hl : xs.length ≤ maxLen) (hn : a = none → c = 0) (hb : Below w.heap.size w W) : InnW w.heap.size W (.slice a xs.length c) xs :=
  ⟨InnN.of_at h hl hb, fun m c' e => by cases e; exact hn rfl⟩
theorem innW_nil (n : Nat) (W : World) : InnW n W (.slice none 0 0) [] := ⟨⟨none, 0, rfl, Nat.zero_le _, .inl rfl⟩, fun m c e => by cases e; rfl⟩

end Go.Proofs.YtmlkpdeidpcidaaDoor
namespace Go.Proofs.YtmlkpdeidpcidaaDoor
open Go.RowKit
set_option linter.unusedVariables false

theorem lessB_len_ne {xs ys : List Int} (h : ¬ xs.length = ys.length) : lessB xs ys = decide (xs.length < ys.length) := by unfold lessB; rw [if_neg h]
theorem less_cast {xs ys : List Int} (h : ¬ xs.length = ys.length) : decide ((xs.length : Int) < (ys.length : Int)) = lessB xs ys := by
  rw [lessB_len_ne h]; exact decide_eq_decide.2 (by omega)
theorem dropG {l : List Int} {k : Nat} (h : k < l.length) : l.drop k = (l[k]?.getD 0) :: l.drop (k + 1) := by
  rw [List.drop_eq_getElem_cons h, List.getElem?_eq_getElem h, Option.getD_some]
theorem lex_no {xs ys : List Int} {k : Nat} {x y : Int} (hl : Hid (xs.length = ys.length)) (h1 : k < xs.length) (h2 : k < ys.length) (hx : Hid (x = xs[k]?.getD 0)) (hy : Hid (y = ys[k]?.getD 0)) (h : ¬ x = y) (e : Hid (lexB xs ys = lexB (xs.drop k) (ys.drop k))) : decide (x < y) = lessB xs ys := by
  unfold lessB; rw [if_pos hl.out, e.out, dropG h1, dropG h2, ← hx.out, ← hy.out, lexB, if_neg h]
theorem lex_yes {xs ys : List Int} {k : Nat} {x y : Int} (h1 : k < xs.length) (h2 : k < ys.length) (hx : Hid (x = xs[k]?.getD 0)) (hy : Hid (y = ys[k]?.getD 0)) (h : x = y) (e : Hid (lexB xs ys = lexB (xs.drop k) (ys.drop k))) : Hid (lexB xs ys = lexB (xs.drop (k + 1)) (ys.drop (k + 1))) := by
  show _ = _
  rw [e.out, dropG h1, dropG h2, ← hx.out, ← hy.out, lexB, if_pos h]
theorem lex_end {xs ys : List Int} {k : Nat} (hl : Hid (xs.length = ys.length)) (h : ¬ k < xs.length) (e : Hid (lexB xs ys = lexB (xs.drop k) (ys.drop k))) : false = lessB xs ys := by
  unfold lessB; rw [if_pos hl.out, e.out, List.drop_eq_nil_of_le (by omega)]; simp [lexB]

end Go.Proofs.YtmlkpdeidpcidaaDoor
namespace Go.Proofs.YtmlkpdeidpcidaaDoor
open Go.RowKit
set_option linter.unusedVariables false

/-- 0, 1, .., n - 1. -/
def rngI (n : Nat) : List Int := (List.range n).map fun k : Nat => (k : Int)
theorem rngI_succ (n : Nat) : rngI (n + 1) = rngI n ++ [(n : Int)] := by simp [rngI, List.range_succ]
theorem rngI_len (n : Nat) : (rngI n).length = n := by simp [rngI]
end Go.Proofs.YtmlkpdeidpcidaaDoor
namespace Go.Proofs.YtmlkpdeidpcidaaDoor
open Go.RowKit
set_option linter.unusedVariables false

set_option maxHeartbeats 400000 in
theorem rless_ne (a b : Option Addr) (ca cb : Nat) (xs ys : List Int) (w : World) (hne : ¬ xs.length = ys.length) (hl : xs.length ≤ 9223372036854775807) (hm : ys.length ≤ 9223372036854775807) :
    Calls Tryd.prog 88 #[.slice a xs.length ca, .slice b ys.length cb] w fun e w' => e = .returned (.bool (lessB xs ys)) ∧ ∃ q, w' = w.drewN q := by
  have hb : ((xs.length : Int) != (ys.length : Int)) = true := by rw [bne_iff_ne]; omega
  have HC := Hid.of (less_cast hne)
  obtain ⟨o, HO⟩ : ∃ o, Hid (o = decide ((xs.length : Int) < (ys.length : Int))) := ⟨_, rfl⟩
  rw [← HO.out] at HC
  by_cases hlt : xs.length < ys.length
  · have HT : Hid (true = lessB xs ys) := by rw [← HC.out, HO.out]; exact (decide_eq_true (by omega)).symm
    go_enter Tryd.func88, Tryd.ntmps88
    go_wp2
    go_ret
    exact ⟨ret_bool HT.out, 0, rfl⟩
  · have HT : Hid (false = lessB xs ys) := by rw [← HC.out, HO.out]; exact (decide_eq_false (by omega)).symm
    go_enter Tryd.func88, Tryd.ntmps88
    go_wp2
    go_ret
    exact ⟨ret_bool HT.out, 0, rfl⟩

set_option maxHeartbeats 1000000 in
theorem rless_eq (ba oa ca bb ob cb : Nat) (xs ys : List Int) (w : World) (hlen : Hid (xs.length = ys.length)) (hl : xs.length ≤ 9223372036854775807) (hca : Cells w ba oa xs) (hcb : Cells w bb ob ys) :
    Calls Tryd.prog 88 #[.slice (some ⟨ba, oa, none⟩) xs.length ca, .slice (some ⟨bb, ob, none⟩) ys.length cb] w fun e w' => e = .returned (.bool (lessB xs ys)) ∧ ∃ q, w' = w.drewN q := by
  have hm : ys.length ≤ 9223372036854775807 := by have := hlen.out; omega
  have hb : ((xs.length : Int) != (ys.length : Int)) = false := by have := hlen.out; simp; omega
  go_enter Tryd.func88, Tryd.ntmps88
  go_wp2
  go_loopw [5] (fun i wr => ∃ k q : Nat, k ≤ xs.length ∧ i = .int .i64 k ∧ wr = w.drewN q ∧ Hid (lexB xs ys = lexB (xs.drop k) (ys.drop k))) (fun i _ => xs.length - (intOf i).toNat)
  case atStart => exact ⟨0, 0, Nat.zero_le _, rfl, rfl, rfl⟩
  case round =>
    obtain ⟨k, q, hk, rfl, rfl, he⟩ := hrel
    by_cases hlt : k < xs.length
    · have hlt2 : k < ys.length := by have := hlen.out; omega
      obtain ⟨x, HX, hcx⟩ := hca.at hlt
      obtain ⟨y, HY, hcy⟩ := hcb.at hlt2
      by_cases hxy : x = y
      · have HXY : Hid (x = y) := hxy
        have d : (x != y) = false := by simp [hxy]
        clear hxy
        go_wp2
        go_quiet (fail)
        go_wp2
        go_roundw
        case rel => exact ⟨k + 1, _, by omega, by go_num, rfl, lex_yes hlt hlt2 HX HY HXY.out he⟩
        case measure => simp [intOf]; omega
      · have d : (x != y) = true := by simp [hxy]
        have HD := Hid.of (lex_no hlen hlt hlt2 HX HY hxy he)
        clear hxy
        go_wp2
        go_quiet (fail)
        go_wp2
        go_quiet (fail)
        go_wp2
        go_ret
        exact ⟨ret_bool HD.out, _, by rw [World.drewN_drewN, World.drewN_drewN]⟩
    · go_wp2
      go_ret
      exact ⟨ret_bool (lex_end hlen hlt he), q, rfl⟩

set_option maxHeartbeats 400000 in
theorem rless_nil (a b : Option Addr) (ca cb : Nat) (w : World) :
    Calls Tryd.prog 88 #[.slice a 0 ca, .slice b 0 cb] w fun e w' => e = .returned (.bool false) ∧ ∃ q, w' = w.drewN q := by
  go_enter Tryd.func88, Tryd.ntmps88
  go_wp2
  refine wp_loop_rounds 1 ?_
  rw [rounds_succ]
  go_wp2
  go_ret
  exact ⟨rfl, 0, rfl⟩

theorem rless_any (a b : Option Addr) (ca cb : Nat) (xs ys : List Int) (w : World) (hs : At w a xs) (ht : At w b ys) (hl : xs.length ≤ maxLen) (hm : ys.length ≤ maxLen) :
    Calls Tryd.prog 88 #[.slice a xs.length ca, .slice b ys.length cb] w fun e w' => e = .returned (.bool (lessB xs ys)) ∧ ∃ q, w' = w.drewN q := by
  by_cases hne : xs.length = ys.length
  · rcases hs with rfl | ⟨ba, oa, rfl, -, hca⟩
    · have : ys = [] := List.eq_nil_of_length_eq_zero (by simpa using hne.symm)
      subst this
      exact rless_nil a b ca cb w
    · rcases ht with rfl | ⟨bb, ob, rfl, -, hcb⟩
      · have : xs = [] := List.eq_nil_of_length_eq_zero (by simpa using hne)
        subst this
        exact rless_nil _ b ca cb w
      · exact rless_eq ba oa ca bb ob cb xs ys w hne hl hca hcb
  · exact rless_ne a b ca cb xs ys w hne hl hm

end Go.Proofs.YtmlkpdeidpcidaaDoor
namespace Go.Proofs.YtmlkpdeidpcidaaDoor
open Go.RowKit
set_option linter.unusedVariables false
set_option linter.unusedSectionVars false

/-! How many increasing lists there are. -/
theorem nodup_sub {α : Type} [DecidableEq α] : ∀ {l m : List α}, l.Nodup → (∀ x ∈ l, x ∈ m) → l.length ≤ m.length
  | [], m, _, _ => Nat.zero_le _
  | x :: r, m, hn, hs => by
    rw [List.nodup_cons] at hn
    have hx := hs x (by simp)
    have ih := nodup_sub (l := r) (m := m.erase x) hn.2 (fun y hy => by
      have hne : y ≠ x := fun e => hn.1 (e ▸ hy)
      exact (List.mem_erase_of_ne hne).2 (hs y (by simp [hy])))
    rw [List.length_erase_of_mem hx] at ih
    have := List.length_pos_of_mem hx
    rw [List.length_cons]; omega
def subs : Nat → List (List Int)
  | 0 => [[]]
  | n + 1 => subs n ++ (subs n).map (· ++ [(n : Int)])
theorem subs_len : ∀ n, (subs n).length = 2 ^ n
  | 0 => rfl
  | n + 1 => by rw [subs, List.length_append, List.length_map, subs_len n, Nat.pow_succ]; omega
theorem mem_subs : ∀ (n : Nat) (l : List Int), Inc l → (∀ x ∈ l, 0 ≤ x ∧ x < (n : Int)) → l ∈ subs n
  | 0, l, _, h => by
    have : l = [] := by
      cases l with
      | nil => rfl
      | cons x r => have := h x (by simp); omega
    subst this; simp [subs]
  | n + 1, l, hi, h => by
    rw [subs, List.mem_append, List.mem_map]
    by_cases hn : (n : Int) ∈ l
    · right
      have hne : l ≠ [] := fun e => by rw [e] at hn; simp at hn
      obtain ⟨v, z, e⟩ : ∃ v z, l = v ++ [z] := ⟨_, _, (List.dropLast_concat_getLast hne).symm⟩
      subst e
      unfold Inc at hi
      rw [List.pairwise_append] at hi
      have hz := h z (by simp)
      have hzn : z = (n : Int) := by
        rcases List.mem_append.1 hn with h1 | h1
        · have := hi.2.2 _ h1 z (by simp); omega
        · have : (n : Int) = z := by simpa using h1
          exact this.symm
      subst hzn
      refine ⟨v, mem_subs n v hi.1 (fun x hx => ?_), rfl⟩
      have h1 := hi.2.2 x hx _ (by simp : (n : Int) ∈ [(n : Int)])
      have h2 := h x (by simp [hx])
      omega
    · left
      refine mem_subs n l hi (fun x hx => ?_)
      have h1 := h x hx
      have : x ≠ (n : Int) := fun e => hn (e ▸ hx)
      omega
/-! The search ends. -/
section
variable {σ : Type} [DecidableEq σ] {δ : σ → Nat → σ}
theorem bi_wlen {s0 : σ} {ev k n : Nat} {l : List (σ × List Int)} (h : BI δ s0 ev k n l) : ∀ (j : Nat) (p : σ × List Int), l[j]? = some p → p.2.length ≤ j := by
  intro j
  induction j using Nat.strongRecOn with
  | _ j ih =>
    intro p hp
    rcases h.top p (List.mem_of_getElem? hp) with h0 | ⟨i, x, e, hx, h1, -⟩
    · rw [h0]; simp
    · have hl : p.2.length = x.2.length + 1 := by rw [h1]; simp
      have hlt := (List.getElem?_eq_some_iff.1 hp).1
      have hlx := (List.getElem?_eq_some_iff.1 hx).1
      have hij : i < j := by
        rcases Nat.lt_trichotomy i j with h2 | h2 | h2
        · exact h2
        · subst h2; rw [hx] at hp; have := Option.some.inj hp; subst this; omega
        · have := List.pairwise_iff_getElem.1 h.inc j i hlt hlx h2
          rw [(List.getElem?_eq_some_iff.1 hx).2, (List.getElem?_eq_some_iff.1 hp).2] at this
          have := lessB_len this; omega
      have := ih i hij x hx
      omega
theorem bi_end {s0 : σ} {ev N : Nat} (hN : ∀ (k n : Nat) (l : List (σ × List Int)), BI δ s0 ev k n l → l.length ≤ N) : ∀ (f k : Nat) (l : List (σ × List Int)), BI δ s0 ev k 0 l → k ≤ l.length → N < f + k → BI δ s0 ev (bfGo δ ev f k l).length 0 (bfGo δ ev f k l)
  | 0, k, l, h, hk, hf => by have := hN _ _ _ h; omega
  | f + 1, k, l, h, hk, hf => by
    cases hx : l[k]? with
    | none =>
      have e : bfGo δ ev (f + 1) k l = l := by unfold bfGo; rw [hx]
      have : k = l.length := by have := List.getElem?_eq_none_iff.1 hx; omega
      rw [e]; rw [this] at h; exact h
    | some x =>
      have e : bfGo δ ev (f + 1) k l = bfGo δ ev f (k + 1) (bfRow δ x l ev) := by rw [bfGo, hx]
      rw [e]
      have hlt := (List.getElem?_eq_some_iff.1 hx).1
      obtain ⟨t, ht⟩ := bfRow_pre δ x l ev
      exact bi_end hN f (k + 1) _ (bi_next δ h hx) (by rw [ht, List.length_append]; omega) (by omega)
end

/-! Two machines at once. -/
end Go.Proofs.YtmlkpdeidpcidaaDoor
namespace Go.Proofs.YtmlkpdeidpcidaaDoor
open Go.RowKit
set_option linter.unusedVariables false
set_option linter.unusedSectionVars false

/-! Words by the numbers of some events. -/
/-- The events of a word of numbers. -/
def wordS (seen u : List Int) : List Int := u.map fun k => seen[k.toNat]?.getD 0
/-- The numbers of the events of a word. -/
def idxS (seen word : List Int) : List Int := word.map fun e => placeI seen e
theorem wordS_snoc (seen u : List Int) (e : Nat) : wordS seen (u ++ [(e : Int)]) = wordS seen u ++ [seen[e]?.getD 0] := by simp [wordS]
theorem wordS_len (seen u : List Int) : (wordS seen u).length = u.length := by simp [wordS]
theorem idx_in {seen word : List Int} (h : ∀ e ∈ word, e ∈ seen) : ∀ k ∈ idxS seen word, 0 ≤ k ∧ k < (seen.length : Int) := by
  intro k hk
  obtain ⟨e, he, rfl⟩ := List.mem_map.1 hk
  obtain ⟨j, hj⟩ := placeN_mem (h e he)
  have h1 := placeI_of hj
  have h2 := (List.getElem?_eq_some_iff.1 (placeN_some hj)).1
  omega
theorem word_idx {seen : List Int} : ∀ {word : List Int}, (∀ e ∈ word, e ∈ seen) → wordS seen (idxS seen word) = word
  | [], _ => rfl
  | e :: r, h => by
    have ih := word_idx (word := r) (fun x hx => h x (by simp [hx]))
    obtain ⟨j, hj⟩ := placeN_mem (h e (by simp))
    have h1 := placeI_of hj
    have h2 := placeN_some hj
    simp only [idxS, wordS, List.map_cons] at ih ⊢
    rw [ih, h1, Int.toNat_natCast, h2, Option.getD_some]
theorem word_in {seen u : List Int} (h : ∀ k ∈ u, 0 ≤ k ∧ k < (seen.length : Int)) : ∀ e ∈ wordS seen u, e ∈ seen := by
  intro e he
  obtain ⟨k, hk, rfl⟩ := List.mem_map.1 he
  have := h k hk
  have hl : k.toNat < seen.length := by omega
  rw [List.getElem?_eq_getElem hl]
  exact List.getElem_mem hl
theorem seen_lt {seen : List Int} (hi : Inc seen) {j k : Int} (hj : 0 ≤ j ∧ j < (seen.length : Int)) (hk : 0 ≤ k ∧ k < (seen.length : Int)) : (seen[j.toNat]?.getD 0 < seen[k.toNat]?.getD 0 ↔ j < k) ∧ (seen[j.toNat]?.getD 0 = seen[k.toNat]?.getD 0 ↔ j = k) := by
  have l1 : j.toNat < seen.length := by omega
  have l2 : k.toNat < seen.length := by omega
  rw [List.getElem?_eq_getElem l1, List.getElem?_eq_getElem l2, Option.getD_some, Option.getD_some]
  rcases Int.lt_trichotomy j k with h | h | h
  · have := List.pairwise_iff_getElem.1 hi j.toNat k.toNat l1 l2 (by omega)
    constructor <;> constructor <;> omega
  · subst h
    constructor <;> constructor <;> omega
  · have := List.pairwise_iff_getElem.1 hi k.toNat j.toNat l2 l1 (by omega)
    constructor <;> constructor <;> omega
theorem lexB_word {seen : List Int} (hi : Inc seen) : ∀ {u v : List Int}, (∀ k ∈ u, 0 ≤ k ∧ k < (seen.length : Int)) → (∀ k ∈ v, 0 ≤ k ∧ k < (seen.length : Int)) → lexB (wordS seen u) (wordS seen v) = lexB u v
  | [], v, _, _ => by simp [wordS, lexB]
  | _ :: _, [], _, _ => by simp [wordS, lexB]
  | j :: u, k :: v, h, h' => by
    have ih := lexB_word hi (u := u) (v := v) (fun x hx => h x (by simp [hx])) (fun x hx => h' x (by simp [hx]))
    obtain ⟨q1, q2⟩ := seen_lt hi (h j (by simp)) (h' k (by simp))
    show lexB (seen[j.toNat]?.getD 0 :: wordS seen u) (seen[k.toNat]?.getD 0 :: wordS seen v) = _
    unfold lexB
    by_cases e : j = k
    · rw [if_pos (q2.2 e), if_pos e, ih]
    · rw [if_neg (fun h => e (q2.1 h)), if_neg e]
      exact decide_eq_decide.2 q1
theorem lessB_word {seen : List Int} (hi : Inc seen) {u v : List Int} (h : ∀ k ∈ u, 0 ≤ k ∧ k < (seen.length : Int)) (h' : ∀ k ∈ v, 0 ≤ k ∧ k < (seen.length : Int)) : lessB (wordS seen u) (wordS seen v) = lessB u v := by
  unfold lessB
  rw [wordS_len, wordS_len, lexB_word hi h h']

/-! The plant. -/
structure Plant where
  m : Mach
  seen : List Int
  secret : List Int
/-- May it be (I1)? -/
def mayP (p : Plant) : Bool := mayB p.m && (decide (p.m.st ≤ 6) && (rowB p.m.ev p.seen && rowB p.m.st p.secret))
theorem mayP_iff (p : Plant) : mayP p = true ↔ mayB p.m = true ∧ p.m.st ≤ 6 ∧ rowB p.m.ev p.seen = true ∧ rowB p.m.st p.secret = true := by
  unfold mayP; simp only [Bool.and_eq_true, decide_eq_true_eq]
/-- What is known when an event was seen. -/
def seeL (p : Plant) (s : List Int) (e : Int) : List Int := wideL p.m.arrows p.seen (stepL p.m.arrows s e)
/-- What is known behind a list of seen events, from some states on. -/
def fromL (p : Plant) (ss word : List Int) : List Int := word.foldl (seeL p) (wideL p.m.arrows p.seen ss)
/-- The estimate (I2). -/
def estL (p : Plant) (word : List Int) : List Int := fromL p p.m.starts word
/-- Is a row not empty, and all of it secret? -/
def leakB (secret row : List Int) : Bool := decide (0 < row.length) && decide ((row.filter fun n => hasB secret n == false).length = 0)
def seeD (p : Plant) (s : List Int) (k : Nat) : List Int := seeL p s (p.seen[k]?.getD 0)
theorem see_run (p : Plant) : ∀ (u : List Int) (s : List Int), runF (seeD p) s u = (wordS p.seen u).foldl (seeL p) s
  | [], s => rfl
  | k :: u, s => by
    show runF (seeD p) (seeD p s k.toNat) u = _
    rw [see_run p u]; rfl
/-- All estimates, each with the least list (of numbers) that has it, the lesser ones ahead. -/
def fwdL (p : Plant) : List (List Int × List Int) := bfGo (seeD p) p.seen.length 65 0 [(wideL p.m.arrows p.seen p.m.starts, [])]
/-- The least list that leaks. -/
def outC (p : Plant) : Option (List Int) := ((fwdL p).find? fun x => leakB p.secret x.1).map fun x => wordS p.seen x.2
theorem see_in {p : Plant} (hm : mayB p.m = true) (s : List Int) (e : Int) : Inc (seeL p s e) ∧ ∀ x ∈ seeL p s e, 0 ≤ x ∧ x < p.m.st := ⟨inc_wide _ _ _, wide_bd hm (step_bd hm)⟩
theorem from_in {p : Plant} (hm : mayB p.m = true) : ∀ (word s : List Int), (Inc s ∧ ∀ x ∈ s, 0 ≤ x ∧ x < p.m.st) → Inc (word.foldl (seeL p) s) ∧ ∀ x ∈ word.foldl (seeL p) s, 0 ≤ x ∧ x < p.m.st
  | [], s, h => h
  | e :: r, s, _ => from_in hm r (seeL p s e) (see_in hm s e)
theorem wide_in {p : Plant} (hm : mayB p.m = true) {ss : List Int} (hs : ∀ x ∈ ss, 0 ≤ x ∧ x < p.m.st) : Inc (wideL p.m.arrows p.seen ss) ∧ ∀ x ∈ wideL p.m.arrows p.seen ss, 0 ≤ x ∧ x < p.m.st := ⟨inc_wide _ _ _, wide_bd hm hs⟩
theorem est_in {p : Plant} (hm : mayB p.m = true) (word : List Int) : Inc (estL p word) ∧ ∀ x ∈ estL p word, 0 ≤ x ∧ x < p.m.st := from_in hm word _ (wide_in hm (may_starts hm).2)
theorem fwd_bound {p : Plant} (hm : mayB p.m = true) (z : p.m.st ≤ 6) {k n : Nat} {l : List (List Int × List Int)} (h : BI (seeD p) (wideL p.m.arrows p.seen p.m.starts) p.seen.length k n l) : l.length ≤ 64 := by
  have h1 := nodup_sub (m := subs 6) h.nd (fun s hs => by
    obtain ⟨x, hx, rfl⟩ := List.mem_map.1 hs
    obtain ⟨e1, e2⟩ := h.run x hx
    rw [see_run] at e1
    have i1 := from_in hm (wordS p.seen x.2) _ (wide_in hm (may_starts hm).2)
    rw [e1]
    exact mem_subs 6 _ i1.1 (fun y hy => by have := i1.2 y hy; omega))
  rw [List.length_map, subs_len] at h1
  exact h1
theorem fwd_all {p : Plant} (hm : mayB p.m = true) (z : p.m.st ≤ 6) : BI (seeD p) (wideL p.m.arrows p.seen p.m.starts) p.seen.length (fwdL p).length 0 (fwdL p) :=
  bi_end (N := 64) (fun k n l h => fwd_bound hm z h) 65 0 _ (bi_start _ _ _) (Nat.zero_le _) (by omega)
theorem fwd_est {p : Plant} {k n : Nat} {l : List (List Int × List Int)} (h : BI (seeD p) (wideL p.m.arrows p.seen p.m.starts) p.seen.length k n l) {x : List Int × List Int} (hx : x ∈ l) : x.1 = estL p (wordS p.seen x.2) := by
  rw [(h.run x hx).1, see_run]; rfl
end Go.Proofs.YtmlkpdeidpcidaaDoor
namespace Go.Proofs.YtmlkpdeidpcidaaDoor
open Go.ChangeShapes Go.WideShapes Go.ChangeAt Go.RowKit Go.Deep
set_option linter.unusedVariables false
set_option maxRecDepth 100000

/-- Where a plant's slices lie. -/
structure PTL where
  l : ML
  sa : Option Addr
  sc : Nat
  ta : Option Addr
  tc : Nat
abbrev ptcells (p : Plant) (L : PTL) : Array Value := #[.int .i64 p.m.st, .int .i64 p.m.ev, .slice L.l.a1 p.m.starts.length L.l.c1, .slice L.l.a2 p.m.arrows.length L.l.c2, .slice L.l.a3 p.m.ends.length L.l.c3, .slice L.sa p.seen.length L.sc, .slice L.ta p.secret.length L.tc]
abbrev ptval (p : Plant) (L : PTL) : Value := .agg (ptcells p L)
structure PAt (w : World) (p : Plant) (L : PTL) : Prop where
  m : MAt w p.m L.l
  s : Sl w L.sa L.sc p.seen
  t : Sl w L.ta L.tc p.secret
theorem PAt.below {w w' : World} {p : Plant} {L : PTL} {B : Nat} (h : PAt w p L) (hb : Below B w w') (hB : w.heap.size ≤ B) : PAt w' p L := ⟨h.m.below hb hB, h.s.below hb hB, h.t.below hb hB⟩
theorem ptcell_at {W : World} {b : Nat} {p : Plant} {L : PTL} (h : Blk W b 44 (ptcells p L)) : W.cell? ⟨b, 0, none⟩ = some (.int .i64 p.m.st) ∧ W.cell? ⟨b, 1, none⟩ = some (.int .i64 p.m.ev) ∧ W.cell? ⟨b, 2, none⟩ = some (.slice L.l.a1 p.m.starts.length L.l.c1) ∧ W.cell? ⟨b, 3, none⟩ = some (.slice L.l.a2 p.m.arrows.length L.l.c2) ∧ W.cell? ⟨b, 4, none⟩ = some (.slice L.l.a3 p.m.ends.length L.l.c3) ∧ W.cell? ⟨b, 5, none⟩ = some (.slice L.sa p.seen.length L.sc) ∧ W.cell? ⟨b, 6, none⟩ = some (.slice L.ta p.secret.length L.tc) :=
  ⟨h.cell 0 rfl, h.cell 1 rfl, h.cell 2 rfl, h.cell 3 rfl, h.cell 4 rfl, h.cell 5 rfl, h.cell 6 rfl⟩

section
variable {H : Type} {enc : TypeId × Value → H} {W : World}
theorem array7 {α : Type} {cs : Array α} (h : cs.size = 7) : ∃ c0 c1 c2 c3 c4 c5 c6, cs = #[c0, c1, c2, c3, c4, c5, c6] := by
  obtain ⟨l⟩ := cs
  match l, h with
  | [c0, c1, c2, c3, c4, c5, c6], _ => exact ⟨c0, c1, c2, c3, c4, c5, c6, rfl⟩
theorem plant_of_cells {fuel : Nat} {c0 c1 c2 c3 c4 c5 c6 : Value} {x : DataW H × List MemPlace} (h : DataW.trod enc Tryd.prog W 0 (fun _ => true) true fuel 44 [c0, c1, c2, c3, c4, c5, c6] = some x) : ∃ p L, Value.agg #[c0, c1, c2, c3, c4, c5, c6] = ptval p L ∧ PAt W p L := by
  obtain ⟨xs, n, _, _, _, hlen, hf⟩ := DataW.trod_struct Tryd.underlying44 h
  have hlen3 : xs.length = 3 := hlen
  match xs, hlen3 with
  | [y0, y1, y2], _ =>
    have i1 : Tryd.prog.cellsOf 25 = 5 := by kernel_rfl
    have i2 : Tryd.prog.cellsOf 22 = 1 := by kernel_rfl
    have h0 := hf 0 { name := "Machine", type := 25, offset := 0, embedded := false, tag := "", pkgPath := "", byteOffset := 0 } rfl
    have h1 := hf 1 { name := "Seen", type := 22, offset := 5, embedded := false, tag := "", pkgPath := "", byteOffset := 88 } rfl
    have h2 := hf 2 { name := "Secret", type := 22, offset := 6, embedded := false, tag := "", pkgPath := "", byteOffset := 112 } rfl
    dsimp only at h0 h1 h2
    simp only [i1, i2, List.drop_succ_cons, List.drop_zero, List.take_succ_cons, List.take_zero, List.getElem?_cons_zero, List.getElem?_cons_succ] at h0 h1 h2
    obtain ⟨m, l, e0, hm⟩ := mach_of_cells h0
    obtain ⟨a1, k1, seen, e1, s1, s2, s3, s4, s5⟩ := ints_of_trod h1
    obtain ⟨a2, k2, secret, e2, r1, r2, r3, r4, r5⟩ := ints_of_trod h2
    simp only [List.cons.injEq, and_true] at e1 e2
    subst e1 e2
    have e0' : #[c0, c1, c2, c3, c4] = mcells m l := by injection e0
    have e3 : [c0, c1, c2, c3, c4] = (mcells m l).toList := by rw [← e0']
    simp only [List.cons.injEq, and_true] at e3
    obtain ⟨q0, q1, q2, q3, q4⟩ := e3
    exact ⟨⟨m, seen, secret⟩, ⟨l, a1, k1, a2, k2⟩, by rw [q0, q1, q2, q3, q4], hm, ⟨s3, s1, s2, s4⟩, ⟨r3, r1, r2, r4⟩⟩
/-- A PLANT THAT CAME IN. -/
theorem open_plant {base : Nat} {v : Value} {d : DataW H} {p : List MemPlace} (hv : Value.okWide Tryd.prog W .any base 44 v) (h : DataW.Trod enc Tryd.prog W 0 (fun _ => true) true 44 v d p) : ∃ q L, v = ptval q L ∧ PAt W q L := by
  obtain ⟨cs, rfl, hsz⟩ := okWide_struct Tryd.underlying44 hv
  obtain ⟨c0, c1, c2, c3, c4, c5, c6, rfl⟩ := array7 (hsz.trans (by kernel_rfl))
  obtain ⟨fuel, hf⟩ := h
  exact plant_of_cells (by simpa [Value.cells] using hf)
end

end Go.Proofs.YtmlkpdeidpcidaaDoor
