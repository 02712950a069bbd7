/-
  append(v, y...) of integers as one step of a region that draws.
  Plain: a search, level by level, of what words lead to; the least words. No program, no model.
  Plain: one round of the search. No program, no model.
  Plain: the machine of sets: how its sets are found, in the reference's order; what is determined. No program, no model.
  Plain: sets of bits beside the lists that they stand for. No program, no model.
  Sets of states as keys of a map.
  What is said of slices of integers that lie below some block, or in a block of integers; rows of them.
-/
import Derived.Test.YtmlkpdeidpcidaaDoorG14
import Derived.Test.YtmlkpdeidpcidaaDoorG05
import Derived.Test.YtmlkpdeidpcidaaDoorG03
import Derived.Test.YtmlkpdeidpcidaaDoorG11
import Derived.DeepKeys4
import Derived.Maps.Keyed
import Derived.Carry
import Derived.Test.YtmlkpdeidpcidaaDoorG07
import Derived.Test.YtmlkpdeidpcidaaDoorG20
import Derived.Test.YtmlkpdeidpcidaaDoorG04
namespace Go.Proofs.YtmlkpdeidpcidaaDoor
open Go.RowKit
set_option linter.unusedVariables false

theorem grown_refl (w : World) (row : Option Nat) : w.grownBy w row := ⟨rfl, rfl, rfl, Nat.le_refl _, fun j _ _ => rfl⟩
section
variable {P : Program} {ops : Array Oper} {o : Oper} {a : Act} {w : World} {K : Act → World → Prop} {Q : Exit → Act → World → Prop} {E : Prop}
theorem step_append_ints (hg : o.guard = none) (s x : Operand) (t : TypeId) (hop : o.op = Op.call { callee := Callee.builtin Builtin.append, args := #[s, x], argTypes := #[t, t] })
    (B : Nat) (i : TypeInfo) (ht : P.underlying t = some (.slice 3)) (hi : P.info? 3 = some i) (hz : i.zero = some (.int .i64 0)) (hsize : i.size = 1) (hby : i.bytes = 8)
    (v : Value) (L : List Int) (hs : a.eval s = v) (hown : Own w B v L)
    (ad : Option Addr) (c : Nat) (ys : List Int) (hx : a.eval x = .slice ad ys.length c) (hat : At w ad ys) (hnil : ad = none → c = 0)
    (hroom : (L.length + ys.length) * 8 ≤ 140737488355328) (hbase : B ≤ w.heap.size)
    (hK : ∀ v' w', Own w' B v' (L ++ ys) → w.grownBy w' v.ownBlock → K (a.put o.dst v') w') :
    if Region.wanted o (yielded ops a.tmps) = true then Oper.wp P o a w K Q else E := by
  cases ad with
  | none =>
    have hy : ys = [] := by
      rcases hat with h | ⟨b, off, h, _⟩
      · exact h
      · cases h
    subst hy
    rw [hnil rfl] at hx
    have hw : Region.wanted o (yielded ops a.tmps) = true := by simp [Region.wanted, hg]
    rw [if_pos hw]
    refine wp_append_nil w s x t hop B 3 i 1 ht hi v _ _ hs hown hx (hK v w ?_ (grown_refl _ _))
    rw [List.append_nil]; exact hown
  | some ad =>
    refine step_append_own hg s x t hop B 3 i (.int .i64 0) 1 8 ht hi hz hsize hby rfl (by decide) v _ _ hs hown ad ys.length c (ys.map (Value.int .i64)) hx (by simp) ?_ ?_ (by unfold maxLen; omega) hroom hbase ?_
    · intro j u hu
      rw [List.getElem?_map] at hu
      rcases hat with h0 | ⟨b, off, h0, _, hc⟩
      · subst h0; simp at hu
      · cases h0
        cases hj : ys[j]? with
        | none => rw [hj] at hu; simp at hu
        | some y =>
          rw [hj] at hu
          simp only [Option.map_some, Option.some.injEq] at hu
          subst hu
          have := hc j (List.getElem?_eq_some_iff.1 hj).1
          rw [List.getD_eq_getElem?_getD, hj, Option.getD_some] at this
          rw [show (⟨b, off, none⟩ : Addr).add j = ⟨b, off + j, none⟩ from by simp [Addr.add]]
          exact this
    · intro u hu
      obtain ⟨y, _, rfl⟩ := List.mem_map.1 hu
      rfl
    · intro v' w' ho' hg'
      refine hK v' w' ?_ hg'
      unfold Own
      rw [List.length_append, List.map_append]
      exact ho'
end

end Go.Proofs.YtmlkpdeidpcidaaDoor
namespace Go.Proofs.YtmlkpdeidpcidaaDoor
open Go.RowKit
set_option linter.unusedVariables false
set_option linter.unusedSectionVars false

/-! Which of two lists is the lesser one (G1). -/
def lexB : List Int → List Int → Bool
  | x :: a, y :: b => if x = y then lexB a b else decide (x < y)
  | _, _ => false
def lessB (a b : List Int) : Bool := if a.length = b.length then lexB a b else decide (a.length < b.length)
theorem lexB_irrefl : ∀ a, lexB a a = false
  | [] => rfl
  | x :: a => by unfold lexB; rw [if_pos rfl]; exact lexB_irrefl a
theorem lexB_trans : ∀ {a b c : List Int}, lexB a b = true → lexB b c = true → lexB a c = true
  | [], _, _, h, _ => by simp [lexB] at h
  | _ :: _, [], _, h, _ => by simp [lexB] at h
  | _ :: _, _ :: _, [], _, h => by simp [lexB] at h
  | x :: a, y :: b, z :: c, h, k => by
    unfold lexB at h k ⊢
    by_cases e1 : x = y
    · rw [if_pos e1] at h
      by_cases e2 : y = z
      · rw [if_pos e2] at k
        rw [if_pos (e1.trans e2)]
        exact lexB_trans h k
      · rw [if_neg e2] at k
        rw [if_neg (by omega)]
        have := of_decide_eq_true k
        exact decide_eq_true (by omega)
    · rw [if_neg e1] at h
      have h := of_decide_eq_true h
      by_cases e2 : y = z
      · rw [if_neg (by omega)]
        exact decide_eq_true (by omega)
      · rw [if_neg e2] at k
        have k := of_decide_eq_true k
        rw [if_neg (by omega)]
        exact decide_eq_true (by omega)
theorem lexB_total : ∀ {a b : List Int}, a.length = b.length → a ≠ b → lexB a b = true ∨ lexB b a = true
  | [], [], _, h => absurd rfl h
  | [], _ :: _, h, _ => by simp at h
  | _ :: _, [], h, _ => by simp at h
  | x :: a, y :: b, hl, h => by
    unfold lexB
    by_cases e : x = y
    · subst e
      rw [if_pos rfl, if_pos rfl]
      exact lexB_total (by simpa using hl) (fun e => h (by rw [e]))
    · rw [if_neg e, if_neg (fun h => e h.symm)]
      by_cases h1 : x < y
      · exact .inl (decide_eq_true h1)
      · exact .inr (decide_eq_true (by omega))
theorem lexB_snoc : ∀ {a b : List Int} (x y : Int), a.length = b.length → lexB a b = true → lexB (a ++ [x]) (b ++ [y]) = true
  | [], _, _, _, _, h => by simp [lexB] at h
  | _ :: _, [], _, _, h, _ => by simp at h
  | u :: a, v :: b, x, y, hl, h => by
    rw [List.cons_append, List.cons_append]
    unfold lexB at h ⊢
    by_cases e : u = v
    · rw [if_pos e] at h ⊢
      exact lexB_snoc x y (by simpa using hl) h
    · rw [if_neg e] at h ⊢
      exact h
theorem lexB_last : ∀ (a : List Int) {x y : Int}, x < y → lexB (a ++ [x]) (a ++ [y]) = true
  | [], x, y, h => by
    show lexB [x] [y] = true
    unfold lexB; rw [if_neg (by omega)]; exact decide_eq_true h
  | u :: a, x, y, h => by
    rw [List.cons_append, List.cons_append]
    unfold lexB
    rw [if_pos rfl]
    exact lexB_last a h
theorem lessB_irrefl (a : List Int) : lessB a a = false := by unfold lessB; rw [if_pos rfl]; exact lexB_irrefl a
theorem lessB_len {a b : List Int} (h : lessB a b = true) : a.length ≤ b.length := by
  unfold lessB at h
  by_cases e : a.length = b.length
  · omega
  · rw [if_neg e] at h
    have := of_decide_eq_true h; omega
theorem lessB_trans {a b c : List Int} (h : lessB a b = true) (k : lessB b c = true) : lessB a c = true := by
  have l1 := lessB_len h
  have l2 := lessB_len k
  unfold lessB at h k ⊢
  by_cases e1 : a.length = b.length
  · rw [if_pos e1] at h
    by_cases e2 : b.length = c.length
    · rw [if_pos e2] at k
      rw [if_pos (e1.trans e2)]
      exact lexB_trans h k
    · rw [if_neg (by omega)]
      exact decide_eq_true (by omega)
  · rw [if_neg (by omega)]
    exact decide_eq_true (by omega)
theorem lessB_total {a b : List Int} (h : a ≠ b) : lessB a b = true ∨ lessB b a = true := by
  unfold lessB
  by_cases e : a.length = b.length
  · rw [if_pos e, if_pos e.symm]
    exact lexB_total e h
  · rw [if_neg e, if_neg (fun h => e h.symm)]
    by_cases h1 : a.length < b.length
    · exact .inl (decide_eq_true h1)
    · exact .inr (decide_eq_true (by omega))
theorem lessB_snoc {a b : List Int} (x y : Int) (h : lessB a b = true) : lessB (a ++ [x]) (b ++ [y]) = true := by
  have l1 := lessB_len h
  unfold lessB at h ⊢
  simp only [List.length_append, List.length_cons, List.length_nil]
  by_cases e : a.length = b.length
  · rw [if_pos e] at h
    rw [if_pos (by omega)]
    exact lexB_snoc x y e h
  · rw [if_neg (by omega)]
    exact decide_eq_true (by omega)
theorem lessB_last (a : List Int) {x y : Int} (h : x < y) : lessB (a ++ [x]) (a ++ [y]) = true := by
  unfold lessB; rw [if_pos (by simp)]; exact lexB_last a h
/-- Lesser, or the same. -/
def leW (a b : List Int) : Prop := a = b ∨ lessB a b = true
theorem leW_refl (a : List Int) : leW a a := .inl rfl
theorem leW_trans {a b c : List Int} (h : leW a b) (k : leW b c) : leW a c := by
  rcases h with rfl | h
  · exact k
  · rcases k with rfl | k
    · exact .inr h
    · exact .inr (lessB_trans h k)
theorem leW_snoc {a b : List Int} (x : Int) (h : leW a b) : leW (a ++ [x]) (b ++ [x]) := by
  rcases h with rfl | h
  · exact .inl rfl
  · exact .inr (lessB_snoc x x h)
theorem leW_not {a b : List Int} (h : leW a b) : lessB b a = false := by
  cases hk : lessB b a with
  | false => rfl
  | true =>
    rcases h with rfl | h
    · rw [lessB_irrefl] at hk; cases hk
    · have := lessB_trans h hk; rw [lessB_irrefl] at this; cases this
theorem nil_le (a : List Int) : leW [] a := by
  cases a with
  | nil => exact .inl rfl
  | cons x r => exact .inr (by unfold lessB; rw [if_neg (by simp)]; exact decide_eq_true (by simp))

/-! The search. -/
section
variable {σ : Type} [DecidableEq σ] (δ : σ → Nat → σ)
def runF (s : σ) (u : List Int) : σ := u.foldl (fun s e => δ s e.toNat) s
theorem runF_snoc (s : σ) (u : List Int) (e : Int) : runF δ s (u ++ [e]) = δ (runF δ s u) e.toNat := by simp [runF, List.foldl_append]
/-- Is a place among some? -/
def knownB (l : List (σ × List Int)) (s : σ) : Bool := l.any fun p => decide (p.1 = s)
theorem knownB_iff (l : List (σ × List Int)) (s : σ) : knownB l s = true ↔ ∃ p ∈ l, p.1 = s := by simp [knownB]
/-- One event more, from place x. -/
def bfStep (x : σ × List Int) (l : List (σ × List Int)) (e : Nat) : List (σ × List Int) := if knownB l (δ x.1 e) = true then l else l ++ [(δ x.1 e, x.2 ++ [(e : Int)])]
def bfRow (x : σ × List Int) (l : List (σ × List Int)) (n : Nat) : List (σ × List Int) := (List.range n).foldl (bfStep δ x) l
theorem bfRow_succ (x : σ × List Int) (l : List (σ × List Int)) (n : Nat) : bfRow δ x l (n + 1) = bfStep δ x (bfRow δ x l n) n := by
  unfold bfRow; rw [List.range_succ, List.foldl_append]; rfl
def bfGo (ev : Nat) : Nat → Nat → List (σ × List Int) → List (σ × List Int)
  | 0, _, l => l
  | f + 1, k, l => match l[k]? with
    | none => l
    | some x => bfGo ev f (k + 1) (bfRow δ x l ev)
theorem bfStep_pre (x : σ × List Int) (l : List (σ × List Int)) (e : Nat) : ∃ t, bfStep δ x l e = l ++ t := by
  unfold bfStep; split
  · exact ⟨[], by simp⟩
  · exact ⟨_, rfl⟩
theorem bfRow_pre (x : σ × List Int) (l : List (σ × List Int)) : ∀ n, ∃ t, bfRow δ x l n = l ++ t
  | 0 => ⟨[], by simp [bfRow]⟩
  | n + 1 => by
    obtain ⟨t, h⟩ := bfRow_pre x l n
    obtain ⟨u, h'⟩ := bfStep_pre δ x (bfRow δ x l n) n
    exact ⟨t ++ u, by rw [bfRow_succ, h', h, List.append_assoc]⟩
/-- What holds when all events of the first k places, and the first n of the place k, have been gone on from. -/
structure BI (s0 : σ) (ev k n : Nat) (l : List (σ × List Int)) : Prop where
  nd : (l.map (·.1)).Nodup
  hd : l[0]? = some (s0, [])
  run : ∀ p ∈ l, p.1 = runF δ s0 p.2 ∧ ∀ e ∈ p.2, 0 ≤ e ∧ e < (ev : Int)
  inc : l.Pairwise (fun p q => lessB p.2 q.2 = true)
  cl : ∀ (i : Nat) (x : σ × List Int), l[i]? = some x → ∀ e : Nat, e < ev → (i < k ∨ (i = k ∧ e < n)) → ∃ y ∈ l, y.1 = δ x.1 e ∧ leW y.2 (x.2 ++ [(e : Int)])
  top : ∀ p ∈ l, p.2 = [] ∨ ∃ (i : Nat) (x : σ × List Int) (e : Nat), l[i]? = some x ∧ p.2 = x.2 ++ [(e : Int)] ∧ (i < k ∨ (i = k ∧ e < n))
theorem bi_start (s0 : σ) (ev : Nat) : BI δ s0 ev 0 0 [(s0, [])] := by
  refine ⟨by simp, rfl, fun p hp => ?_, by simp, fun i x hx e he h => by omega, fun p hp => ?_⟩
  · have : p = (s0, []) := by simpa using hp
    subst this; exact ⟨rfl, by simp⟩
  · have : p = (s0, []) := by simpa using hp
    subst this; exact .inl rfl
theorem bi_step {s0 : σ} {ev k n : Nat} {l : List (σ × List Int)} {x : σ × List Int} (h : BI δ s0 ev k n l) (hx : l[k]? = some x) (hn : n < ev) : BI δ s0 ev k (n + 1) (bfStep δ x l n) := by
  have hxm := List.mem_of_getElem? hx
  have hklt := (List.getElem?_eq_some_iff.1 hx).1
  -- every word so far is lesser than the new one
  have hless : ∀ p ∈ l, lessB p.2 (x.2 ++ [(n : Int)]) = true := by
    intro p hp
    rcases h.top p hp with h0 | ⟨i, y, e, hy, h1, h2⟩
    · rw [h0]
      rcases nil_le (x.2 ++ [(n : Int)]) with h3 | h3
      · have := congrArg List.length h3; simp at this
      · exact h3
    · rw [h1]
      rcases h2 with h2 | ⟨h2, h3⟩
      · have hlt := (List.getElem?_eq_some_iff.1 hy).1
        have := List.pairwise_iff_getElem.1 h.inc i k hlt hklt h2
        rw [(List.getElem?_eq_some_iff.1 hy).2, (List.getElem?_eq_some_iff.1 hx).2] at this
        exact lessB_snoc _ _ this
      · subst h2
        rw [hx] at hy
        have := Option.some.inj hy
        subst this
        exact lessB_last _ (by omega)
  by_cases hk : knownB l (δ x.1 n) = true
  · have e : bfStep δ x l n = l := by unfold bfStep; rw [if_pos hk]
    rw [e]
    refine ⟨h.nd, h.hd, h.run, h.inc, fun i y hy e he hi => ?_, fun p hp => ?_⟩
    · by_cases h1 : i < k ∨ (i = k ∧ e < n)
      · exact h.cl i y hy e he h1
      · have hik : i = k := by omega
        have hen : e = n := by omega
        subst hik; subst hen
        rw [hx] at hy
        have := Option.some.inj hy
        subst this
        obtain ⟨q, hq, e1⟩ := (knownB_iff _ _).1 hk
        exact ⟨q, hq, e1, .inr (hless q hq)⟩
    · rcases h.top p hp with h0 | ⟨i, y, e, hy, h1, h2⟩
      · exact .inl h0
      · exact .inr ⟨i, y, e, hy, h1, by omega⟩
  · have e : bfStep δ x l n = l ++ [(δ x.1 n, x.2 ++ [(n : Int)])] := by unfold bfStep; rw [if_neg hk]
    rw [e]
    have hx2 := h.run x hxm
    refine ⟨?_, ?_, ?_, ?_, ?_, ?_⟩
    · rw [List.map_append, List.nodup_append]
      refine ⟨h.nd, by simp, fun a ha b hb e => ?_⟩
      have hb : b = δ x.1 n := by simpa using hb
      subst hb; subst e
      obtain ⟨q, hq, e1⟩ := List.mem_map.1 ha
      exact hk ((knownB_iff _ _).2 ⟨q, hq, e1⟩)
    · rw [List.getElem?_append_left (List.getElem?_eq_some_iff.1 h.hd).1]; exact h.hd
    · intro p hp
      rcases List.mem_append.1 hp with hp | hp
      · exact h.run p hp
      · have : p = (δ x.1 n, x.2 ++ [(n : Int)]) := by simpa using hp
        subst this
        refine ⟨by rw [runF_snoc, ← hx2.1]; simp, fun e he => ?_⟩
        rcases List.mem_append.1 he with he | he
        · exact hx2.2 e he
        · have : e = (n : Int) := by simpa using he
          omega
    · rw [List.pairwise_append]
      refine ⟨h.inc, by simp, fun p hp q hq => ?_⟩
      have : q = (δ x.1 n, x.2 ++ [(n : Int)]) := by simpa using hq
      subst this
      exact hless p hp
    · intro i y hy e he hi
      have hil : i < l.length := by rcases hi with hi | hi <;> omega
      rw [List.getElem?_append_left hil] at hy
      by_cases h1 : i < k ∨ (i = k ∧ e < n)
      · obtain ⟨q, hq, e1, e2⟩ := h.cl i y hy e he h1
        exact ⟨q, List.mem_append_left _ hq, e1, e2⟩
      · have hik : i = k := by omega
        have hen : n = e := by omega
        subst hik; subst hen
        rw [hx] at hy
        have := Option.some.inj hy
        subst this
        exact ⟨(δ x.1 n, x.2 ++ [(n : Int)]), List.mem_append_right _ (by simp), rfl, leW_refl _⟩
    · intro p hp
      have hlk : ∀ (i : Nat) (y : σ × List Int), l[i]? = some y → (l ++ [(δ x.1 n, x.2 ++ [(n : Int)])])[i]? = some y := fun i y hy => by
        rw [List.getElem?_append_left (List.getElem?_eq_some_iff.1 hy).1]; exact hy
      rcases List.mem_append.1 hp with hp | hp
      · rcases h.top p hp with h0 | ⟨i, y, e, hy, h1, h2⟩
        · exact .inl h0
        · exact .inr ⟨i, y, e, hlk i y hy, h1, by omega⟩
      · have : p = (δ x.1 n, x.2 ++ [(n : Int)]) := by simpa using hp
        subst this
        exact .inr ⟨k, x, n, hlk k x hx, rfl, .inr ⟨rfl, by omega⟩⟩
theorem bi_row {s0 : σ} {ev k : Nat} {l : List (σ × List Int)} {x : σ × List Int} (h : BI δ s0 ev k 0 l) (hx : l[k]? = some x) : ∀ n, n ≤ ev → BI δ s0 ev k n (bfRow δ x l n)
  | 0, _ => h
  | n + 1, hn => by
    rw [bfRow_succ]
    obtain ⟨t, ht⟩ := bfRow_pre δ x l n
    exact bi_step δ (bi_row h hx n (by omega)) (by rw [ht, List.getElem?_append_left (List.getElem?_eq_some_iff.1 hx).1]; exact hx) (by omega)
theorem bi_next {s0 : σ} {ev k : Nat} {l : List (σ × List Int)} {x : σ × List Int} (h : BI δ s0 ev k 0 l) (hx : l[k]? = some x) : BI δ s0 ev (k + 1) 0 (bfRow δ x l ev) := by
  have h' := bi_row δ h hx ev (Nat.le_refl _)
  refine ⟨h'.nd, h'.hd, h'.run, h'.inc, fun i y hy e he hi => h'.cl i y hy e he (by omega), fun p hp => ?_⟩
  rcases h'.top p hp with h0 | ⟨i, y, e, hy, h1, h2⟩
  · exact .inl h0
  · exact .inr ⟨i, y, e, hy, h1, by omega⟩
/-- Where all places have been gone on from, each word's place is there, with a word that is no greater. -/
theorem bi_all {s0 : σ} {ev : Nat} {l : List (σ × List Int)} (h : BI δ s0 ev l.length 0 l) : ∀ (u : List Int), (∀ e ∈ u, 0 ≤ e ∧ e < (ev : Int)) → ∃ p ∈ l, p.1 = runF δ s0 u ∧ leW p.2 u := by
  have key : ∀ (n : Nat) (u : List Int), u.length = n → (∀ e ∈ u, 0 ≤ e ∧ e < (ev : Int)) → ∃ p ∈ l, p.1 = runF δ s0 u ∧ leW p.2 u := by
    intro n
    induction n with
    | zero =>
      intro u hu _
      have : u = [] := List.eq_nil_of_length_eq_zero hu
      subst this
      exact ⟨_, List.mem_of_getElem? h.hd, rfl, leW_refl _⟩
    | succ n ih =>
      intro u hu hb
      have hne : u ≠ [] := fun e => by rw [e] at hu; simp at hu
      have hsp := (List.dropLast_concat_getLast hne).symm
      obtain ⟨v, z, e⟩ : ∃ v z, u = v ++ [z] := ⟨_, _, hsp⟩
      subst e
      have hv : v.length = n := by simpa using hu
      obtain ⟨p, hp, e1, e2⟩ := ih v hv (fun y hy => hb y (by simp [hy]))
      have hz := hb z (by simp)
      obtain ⟨i, hi⟩ := List.mem_iff_getElem?.1 hp
      obtain ⟨q, hq, e3, e4⟩ := h.cl i p hi z.toNat (by omega) (.inl (List.getElem?_eq_some_iff.1 hi).1)
      refine ⟨q, hq, by rw [e3, e1, runF_snoc], ?_⟩
      have hc : ((z.toNat : Nat) : Int) = z := by omega
      rw [hc] at e4
      exact leW_trans e4 (leW_snoc z e2)
  exact fun u hb => key u.length u rfl hb
end

end Go.Proofs.YtmlkpdeidpcidaaDoor
namespace Go.Proofs.YtmlkpdeidpcidaaDoor
open Go.RowKit
set_option linter.unusedVariables false

theorem bfGo_next {σ : Type} [DecidableEq σ] {δ : σ → Nat → σ} {ev f k : Nat} {l : List (σ × List Int)} {x : σ × List Int} (h : l[k]? = some x) : bfGo δ ev (f + 1) k l = bfGo δ ev f (k + 1) (bfRow δ x l ev) := by rw [bfGo, h]
theorem bfGo_stop {σ : Type} [DecidableEq σ] {δ : σ → Nat → σ} {ev f k : Nat} {l : List (σ × List Int)} (h : ¬ k < l.length) : bfGo δ ev f k l = l := by
  cases f with
  | zero => rfl
  | succ f =>
    have : l[k]? = none := List.getElem?_eq_none_iff.2 (by omega)
    unfold bfGo; rw [this]

end Go.Proofs.YtmlkpdeidpcidaaDoor
namespace Go.Proofs.YtmlkpdeidpcidaaDoor
open Go.RowKit
set_option linter.unusedVariables false

/-- A set's place; as many as there are: it is new. -/
def findL : List (List Int) → List Int → Nat
  | [], _ => 0
  | a :: r, s => if a = s then 0 else findL r s + 1
theorem findL_le : ∀ (L : List (List Int)) (s : List Int), findL L s ≤ L.length
  | [], _ => Nat.le_refl _
  | a :: r, s => by
    have := findL_le r s
    unfold findL; split <;> simp <;> omega
theorem findL_get : ∀ {L : List (List Int)} {s : List Int}, findL L s < L.length → L[findL L s]? = some s
  | [], _, h => by simp [findL] at h
  | a :: r, s, h => by
    unfold findL at h ⊢
    by_cases e : a = s
    · rw [if_pos e]; simp [e]
    · rw [if_neg e] at h ⊢
      have : findL r s < r.length := by simp at h; omega
      simpa using findL_get this
theorem findL_new : ∀ {L : List (List Int)} {s : List Int}, findL L s = L.length ↔ s ∉ L
  | [], s => by simp [findL]
  | a :: r, s => by
    unfold findL
    by_cases e : a = s
    · rw [if_pos e]; simp [e]
    · rw [if_neg e]
      have := findL_new (L := r) (s := s)
      simp only [List.length_cons, Nat.add_right_cancel_iff, List.mem_cons, not_or]
      rw [this]
      exact ⟨fun h => ⟨fun h' => e h'.symm, h⟩, fun h => h.2⟩
theorem findL_at : ∀ {L : List (List Int)} {k : Nat} {s : List Int}, L.Nodup → L[k]? = some s → findL L s = k
  | [], k, s, _, h => by simp at h
  | a :: r, 0, s, _, h => by
    have : a = s := by simpa using h
    simp [findL, this]
  | a :: r, k + 1, s, hn, h => by
    have h : r[k]? = some s := by simpa using h
    have h1 : a ≠ s := fun e => (List.nodup_cons.1 hn).1 (by rw [e]; exact List.mem_of_getElem? h)
    unfold findL
    rw [if_neg h1, findL_at (List.nodup_cons.1 hn).2 h]

/-! What is found only grows. -/
/-! What holds of what is found. -/
theorem stepIn {m : Mach} (hm : mayB m = true) (ss : List Int) (e : Int) : Inc (stepL m.arrows ss e) ∧ ∀ x ∈ stepL m.arrows ss e, 0 ≤ x ∧ x < m.st := by
  refine ⟨inc_srt _, fun x hx => ?_⟩
  obtain ⟨a, ha, -, -, rfl⟩ := (mem_stepL _ _ _ _).1 hx
  have := may_arrs hm a ha
  exact ⟨this.2.2.1, this.2.2.2.1⟩
end Go.Proofs.YtmlkpdeidpcidaaDoor
namespace Go.Proofs.YtmlkpdeidpcidaaDoor
open Go.RowKit
set_option linter.unusedVariables false

/-- The same four words. -/
def eqS (S T : Nat → Nat) : Prop := S 0 = T 0 ∧ S 1 = T 1 ∧ S 2 = T 2 ∧ S 3 = T 3
theorem eqS_at {S T : Nat → Nat} (h : eqS S T) {k : Nat} (hk : k < 4) : S k = T k := by
  obtain ⟨h0, h1, h2, h3⟩ := h
  have : k = 0 ∨ k = 1 ∨ k = 2 ∨ k = 3 := by omega
  rcases this with rfl | rfl | rfl | rfl <;> assumption
theorem word_eq {a b : Nat} (ha : a < 18446744073709551616) (hb : b < 18446744073709551616) (h : ∀ j, j < 64 → a.testBit j = b.testBit j) : a = b := by
  apply Nat.eq_of_testBit_eq
  intro j
  by_cases hj : j < 64
  · exact h j hj
  · have hp : (2 : Nat) ^ 64 ≤ 2 ^ j := Nat.pow_le_pow_right (by omega) (by omega)
    rw [Nat.testBit_lt_two_pow (Nat.lt_of_lt_of_le ha hp), Nat.testBit_lt_two_pow (Nat.lt_of_lt_of_le hb hp)]
theorem eqS_iff {S T : Nat → Nat} {l k : List Int} (h : Rep S l) (h' : Rep T k) (hl : Inc l) (hk : Inc k) : eqS S T ↔ l = k := by
  constructor
  · intro he
    have hh : ∀ n, n < 256 → hasS S n = hasS T n := fun n hn => by unfold hasS; rw [eqS_at he (by omega)]
    refine inc_ext hl hk fun x => ⟨fun hx => ?_, fun hx => ?_⟩
    · obtain ⟨b0, b1⟩ := h.bd x hx
      have := (h.mem x.toNat (by omega)).2 (by rwa [Int.toNat_of_nonneg b0])
      rw [hh _ (by omega)] at this
      have := (h'.mem x.toNat (by omega)).1 this
      rwa [Int.toNat_of_nonneg b0] at this
    · obtain ⟨b0, b1⟩ := h'.bd x hx
      have := (h'.mem x.toNat (by omega)).2 (by rwa [Int.toNat_of_nonneg b0])
      rw [← hh _ (by omega)] at this
      have := (h.mem x.toNat (by omega)).1 this
      rwa [Int.toNat_of_nonneg b0] at this
  · rintro rfl
    have hh : ∀ n, n < 256 → hasS S n = hasS T n := fun n hn => by rw [Bool.eq_iff_iff, h.mem n hn, h'.mem n hn]
    have key : ∀ k, k < 4 → S k = T k := fun k hk => word_eq (h.ok k) (h'.ok k) fun j hj => by
      have := hh (64 * k + j) (by omega)
      unfold hasS at this
      rw [show (64 * k + j) / 64 = k by omega, show (64 * k + j) % 64 = j by omega] at this
      exact this
    exact ⟨key 0 (by omega), key 1 (by omega), key 2 (by omega), key 3 (by omega)⟩

/-- The sets stand for the lists, one by one, which rise. -/
structure RepL (SL : List (Nat → Nat)) (L : List (List Int)) : Prop where
  len : SL.length = L.length
  rep : ∀ (k : Nat) (S : Nat → Nat), SL[k]? = some S → ∃ l, L[k]? = some l ∧ Rep S l ∧ Inc l
theorem RepL.at {SL : List (Nat → Nat)} {L : List (List Int)} (h : RepL SL L) {k : Nat} {l : List Int} (hk : L[k]? = some l) : ∃ S, SL[k]? = some S ∧ Rep S l ∧ Inc l := by
  have hlt := (List.getElem?_eq_some_iff.1 hk).1
  have hlt' : k < SL.length := by rw [h.len]; exact hlt
  obtain ⟨l', h1, h2, h3⟩ := h.rep k _ (List.getElem?_eq_getElem hlt')
  rw [hk] at h1
  have h1 := Option.some.inj h1
  subst h1
  exact ⟨_, List.getElem?_eq_getElem hlt', h2, h3⟩
theorem RepL.snoc {SL : List (Nat → Nat)} {L : List (List Int)} (h : RepL SL L) {S : Nat → Nat} {l : List Int} (hr : Rep S l) (hi : Inc l) : RepL (SL ++ [S]) (L ++ [l]) := by
  refine ⟨by simp [h.len], fun k T hk => ?_⟩
  by_cases hlt : k < SL.length
  · rw [List.getElem?_append_left hlt] at hk
    obtain ⟨l', h1, h2⟩ := h.rep k T hk
    exact ⟨l', by rw [List.getElem?_append_left (by rw [← h.len]; exact hlt)]; exact h1, h2⟩
  · have hk' := (List.getElem?_eq_some_iff.1 hk).1
    simp at hk'
    have e : k = SL.length := by omega
    subst e
    rw [List.getElem?_append_right (Nat.le_refl _)] at hk
    have : S = T := by simpa using hk
    subst this
    exact ⟨l, by rw [h.len, List.getElem?_append_right (Nat.le_refl _)]; simp, hr, hi⟩
theorem RepL.one {S : Nat → Nat} {l : List Int} (hr : Rep S l) (hi : Inc l) : RepL [S] [l] := RepL.snoc (SL := []) (L := []) ⟨rfl, fun k S h => by simp at h⟩ hr hi
/-- Is one of the sets the same as S at place j, j is the list's place. -/
theorem RepL.find {SL : List (Nat → Nat)} {L : List (List Int)} (h : RepL SL L) (hn : L.Nodup) {S : Nat → Nat} {l : List Int} (hr : Rep S l) (hi : Inc l) {j : Nat} {T : Nat → Nat} (hj : SL[j]? = some T) (he : eqS T S) : findL L l = j := by
  obtain ⟨l', h1, h2, h3⟩ := h.rep j T hj
  have := (eqS_iff h2 hr h3 hi).1 he
  subst this
  exact findL_at hn h1
theorem RepL.new {SL : List (Nat → Nat)} {L : List (List Int)} (h : RepL SL L) {S : Nat → Nat} {l : List Int} (hr : Rep S l) (hi : Inc l) (hno : ∀ T ∈ SL, ¬ eqS T S) : findL L l = L.length := findL_new.2 fun hm => by
  obtain ⟨j, hj⟩ := List.mem_iff_getElem?.1 hm
  obtain ⟨T, h1, h2, h3⟩ := h.at hj
  exact hno T (List.mem_of_getElem? h1) ((eqS_iff h2 hr h3 hi).2 rfl)

end Go.Proofs.YtmlkpdeidpcidaaDoor
namespace Go.Proofs.YtmlkpdeidpcidaaDoor
open Go.RowKit
set_option linter.unusedVariables false

theorem laidOutS : laidOutB Tryd.prog = true := by kernel_rfl
theorem rowSet : (85 : TypeId) < Tryd.prog.types.size := of_decide_eq_true (by kernel_rfl)
theorem wideSet : (match Tryd.prog.underlying 85 with | some (.array _ _) | some (.struct _) => true | _ => false) = true := by kernel_rfl
set_option maxRecDepth 100000 in
theorem lawSet : WideMaps.KeyLaw Tryd.prog 85 := deep_law_laid laidOutS (m := 3) (by omega) rowSet (by kernel_rfl) wideSet
theorem wf_u64 {n : Nat} (h : n < 18446744073709551616) : (Lit.int .u64 (n : Int)).wf = true := by
  have h1 : IntKind.u64.min = 0 := rfl
  have h2 : IntKind.u64.max = 18446744073709551615 := rfl
  simp [Lit.wf, h1, h2]; omega
set_option maxRecDepth 100000 in
theorem keySet {S : Nat → Nat} (h : okS S) : ∃ l, keyOf Tryd.prog 85 (sval S) = some l := by
  have h0 := wf_u64 (h 0)
  have h1 := wf_u64 (h 1)
  have h2 := wf_u64 (h 2)
  have h3 := wf_u64 (h 3)
  have hk : Tryd.prog.keyType 85 = true := by kernel_rfl
  have hc : Tryd.prog.cellsOf 85 = 4 := by kernel_rfl
  have hci : Tryd.prog.cellsOf 83 = 1 := by kernel_rfl
  have hs : ∃ m, Tryd.prog.types.size = m + 1 := ⟨_, (Nat.succ_pred_eq_of_pos (Nat.lt_of_le_of_lt (Nat.zero_le _) rowSet)).symm⟩
  obtain ⟨m, hm⟩ := hs
  unfold keyOf
  simp only [Tryd.underlying85]
  rw [if_pos (by simp [hk, Value.formed, Tryd.underlying85, hc]), hm]
  unfold Program.keyLits
  simp only [Tryd.underlying85, Value.cells]
  have hr : List.range 4 = [0, 1, 2, 3] := rfl
  simp [hc, hci, Program.keyLits, Tryd.underlying83, hr, h0, h1, h2, h3]

theorem sval_eq {S T : Nat → Nat} (h : sval S = sval T) : eqS S T := by
  simp at h
  obtain ⟨h0, h1, h2, h3⟩ := h
  exact ⟨by omega, by omega, by omega, by omega⟩
theorem eqS_sval {S T : Nat → Nat} (h : eqS S T) : sval S = sval T := by
  obtain ⟨h0, h1, h2, h3⟩ := h
  show Value.agg #[_, _, _, _] = Value.agg #[_, _, _, _]
  rw [h0, h1, h2, h3]

end Go.Proofs.YtmlkpdeidpcidaaDoor
namespace Go.Proofs.YtmlkpdeidpcidaaDoor
open Go.RowKit
set_option linter.unusedVariables false

/-- An inner slice: it lies below block n, or in a block of integers. -/
def InnN (n : Nat) (W : World) (x : Value) (xs : List Int) : Prop := ∃ a c, x = .slice a xs.length c ∧ xs.length ≤ maxLen ∧ (xs = [] ∨ ∃ g o, a = some ⟨g, o, none⟩ ∧ g < W.heap.size ∧ Cells W g o xs ∧ (g < n ∨ ∃ cs, W.heap[g]? = some (.cells cs 3 (0, 0))))
theorem cells_block {W W' : World} {g o : Nat} {xs : List Int} (h : Cells W g o xs) (hb : W'.heap[g]? = W.heap[g]?) : Cells W' g o xs := fun j hj => by
  rw [World.cell?_of_block (w := W) hb]; exact h j hj
theorem InnN.kept {n : Nat} {W W' : World} {x : Value} {xs : List Int} (h : InnN n W x xs) (hz : W.heap.size ≤ W'.heap.size) (h1 : ∀ j, j < n → W'.heap[j]? = W.heap[j]?) (h2 : ∀ (g : Nat) (cs : Array Value), W.heap[g]? = some (.cells cs 3 (0, 0)) → W'.heap[g]? = W.heap[g]?) : InnN n W' x xs := by
  obtain ⟨a, c, e, l, h⟩ := h
  refine ⟨a, c, e, l, ?_⟩
  rcases h with h | ⟨g, o, e', hlt, hc, h⟩
  · exact .inl h
  · have hb : W'.heap[g]? = W.heap[g]? := by
      rcases h with h | ⟨cs, h⟩
      · exact h1 g h
      · exact h2 g cs h
    refine .inr ⟨g, o, e', Nat.lt_of_lt_of_le hlt hz, cells_block hc hb, ?_⟩
    rcases h with h | ⟨cs, h⟩
    · exact .inl h
    · exact .inr ⟨cs, hb.trans h⟩
theorem InnN.of_own {n : Nat} {W : World} {B : Nat} {v : Value} {xs : List Int} (h : Own W B v xs) : InnN n W v xs := by
  rcases h.2 with ⟨rfl, hn⟩ | ⟨g, cap, cur, rfl, hg, hh, hnc, hcm, hcs, ht⟩
  · have : xs = [] := List.eq_nil_of_length_eq_zero hn
    subst this
    exact ⟨none, 0, rfl, Nat.zero_le _, .inl rfl⟩
  · refine ⟨_, cap, rfl, Nat.le_trans hnc hcm, .inr ⟨g, 0, rfl, (Array.getElem?_eq_some_iff.1 hh).1, fun j hj => ?_, .inr ⟨cur, hh⟩⟩⟩
    have := h.cells (g := g) rfl j (.int .i64 (xs.getD j 0)) (by rw [List.getElem?_map, List.getElem?_eq_getElem hj]; simp [List.getElem?_eq_getElem hj])
    rwa [addr0_add] at this
theorem InnN.of_at {w W : World} {a : Option Addr} {c : Nat} {xs : List Int} (h : At w a xs) (hl : xs.length ≤ maxLen) (hb : Below w.heap.size w W) : InnN w.heap.size W (.slice a xs.length c) xs := by
  refine ⟨a, c, rfl, hl, ?_⟩
  rcases h with h | ⟨b, off, e, hlt, hc⟩
  · exact .inl h
  · exact .inr ⟨b, off, e, Nat.lt_of_lt_of_le hlt hb.size, cells_block hc (hb.block b hlt), .inl hlt⟩
theorem InnN.at {n : Nat} {W : World} {x : Value} {xs : List Int} (h : InnN n W x xs) : ∃ a c, x = .slice a xs.length c ∧ At W a xs ∧ xs.length ≤ maxLen := by
  obtain ⟨a, c, e, l, h⟩ := h
  refine ⟨a, c, e, ?_, l⟩
  rcases h with h | ⟨g, o, e', hlt, hc, h⟩
  · exact .inl h
  · exact .inr ⟨g, o, e', hlt, hc⟩
/-- A row of such slices. -/
def OwnN (n : Nat) (W : World) (B : Nat) (v : Value) (LL : List (List Int)) : Prop := ∃ vs : List Value, W.ownsRow B 22 1 v LL.length vs ∧ ∀ (j : Nat) (x : Value) (xs : List Int), vs[j]? = some x → LL[j]? = some xs → InnN n W x xs
theorem OwnN.get {n : Nat} {W : World} {B : Nat} {v : Value} {LL : List (List Int)} (h : OwnN n W B v LL) {k : Nat} {xs : List Int} (hk : LL[k]? = some xs) : ∃ g cap x, v = .slice (some ⟨g, 0, none⟩) LL.length cap ∧ B ≤ g ∧ g < W.heap.size ∧ W.cell? ⟨g, k, none⟩ = some x ∧ InnN n W x xs := by
  obtain ⟨vs, ho, hi⟩ := h
  rcases ho.2 with ⟨rfl, hn⟩ | ⟨g, cap, cur, rfl, hg, hh, hnc, hcm, hcs, ht⟩
  · have := (List.getElem?_eq_some_iff.1 hk).1; omega
  · have hlt : k < vs.length := by rw [ho.1, Nat.mul_one]; exact (List.getElem?_eq_some_iff.1 hk).1
    have hx := List.getElem?_eq_getElem hlt
    have hc := ho.cells (g := g) rfl k _ hx
    rw [addr0_add, Nat.zero_add] at hc
    exact ⟨g, cap, _, rfl, hg, (Array.getElem?_eq_some_iff.1 hh).1, hc, hi k _ xs hx hk⟩
theorem OwnN.at2 {n : Nat} {W : World} {B : Nat} {v : Value} {LL : List (List Int)} (h : OwnN n W B v LL) : ∃ a cap, v = .slice a LL.length cap ∧ At2 W a LL := by
  obtain ⟨vs, ho, hi⟩ := h
  rcases ho.2 with ⟨rfl, hn⟩ | ⟨g, cap, cur, rfl, hg, hh, hnc, hcm, hcs, ht⟩
  · have : LL = [] := List.eq_nil_of_length_eq_zero hn
    subst this
    exact ⟨none, 0, rfl, .inl rfl⟩
  · refine ⟨some ⟨g, 0, none⟩, cap, rfl, .inr ⟨g, 0, rfl, (Array.getElem?_eq_some_iff.1 hh).1, fun k xs hk => ?_⟩⟩
    have hlt : k < vs.length := by rw [ho.1, Nat.mul_one]; exact (List.getElem?_eq_some_iff.1 hk).1
    have hx := List.getElem?_eq_getElem hlt
    obtain ⟨a, c, e, h1, h2⟩ := (hi k _ xs hx hk).at
    have hc := ho.cells (g := g) rfl k _ hx
    rw [addr0_add, e] at hc
    exact ⟨a, c, hc, h1, h2⟩
theorem OwnN.kept {n : Nat} {W W' : World} {B : Nat} {v : Value} {LL : List (List Int)} (h : OwnN n W B v LL) (hz : W.heap.size ≤ W'.heap.size) (h0 : ∀ k, v.ownBlock = some k → W'.heap[k]? = W.heap[k]?) (h1 : ∀ j, j < n → W'.heap[j]? = W.heap[j]?) (h2 : ∀ (g : Nat) (cs : Array Value), W.heap[g]? = some (.cells cs 3 (0, 0)) → W'.heap[g]? = W.heap[g]?) : OwnN n W' B v LL := by
  obtain ⟨vs, ho, hi⟩ := h
  exact ⟨vs, own_same ho h0, fun j x xs a b => (hi j x xs a b).kept hz h1 h2⟩
theorem OwnN.below {n : Nat} {W W' : World} {B : Nat} {v : Value} {LL : List (List Int)} (h : OwnN n W B v LL) (hb : Below W.heap.size W W') (hn : n ≤ W.heap.size) : OwnN n W' B v LL :=
  h.kept hb.size (fun k hk => by obtain ⟨vs, ho, -⟩ := h; exact hb.block k (World.ownsRow.lt ho k hk).2) (fun j hj => hb.block j (by omega)) (fun g cs hg => hb.block g (Array.getElem?_eq_some_iff.1 hg).1)

end Go.Proofs.YtmlkpdeidpcidaaDoor
