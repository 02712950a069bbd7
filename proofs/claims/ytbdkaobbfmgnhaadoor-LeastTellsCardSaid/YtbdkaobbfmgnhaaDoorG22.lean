/-
  Plain: the places where two machines may be at once, and the least word that one accepts and the other one doesn't. No program, no model.
  Plain: a machine made of what is found from one beginning on, each thing once, in the order found (over any things and any step). No program, no model.
  Plain: the least machine, found by a determined machine's states and by which of them a word tells apart. No program, no model.
  Plain: states held together by signs, in rounds: a round's sign is the state's class and its followers' classes; when a round finds no more classes than there were, the classes are just the languages.
-/
import Derived.Test.YtbdkaobbfmgnhaaDoorG03
import Derived.Test.YtbdkaobbfmgnhaaDoorG15
namespace Go.Proofs.YtbdkaobbfmgnhaaDoor
open Go.RowKit
set_option linter.unusedVariables false
set_option linter.unusedSectionVars false

/-! How many increasing lists there are. -/
theorem nodup_sub {α : Type} [DecidableEq α] : ∀ {l m : List α}, l.Nodup → (∀ x ∈ l, x ∈ m) → l.length ≤ m.length
  | [], m, _, _ => Nat.zero_le _
  | x :: r, m, hn, hs => by
    rw [List.nodup_cons] at hn
    have hx := hs x (by simp)
    have ih := nodup_sub (l := r) (m := m.erase x) hn.2 (fun y hy => by
      have hne : y ≠ x := fun e => hn.1 (e ▸ hy)
      exact (List.mem_erase_of_ne hne).2 (hs y (by simp [hy])))
    rw [List.length_erase_of_mem hx] at ih
    have := List.length_pos_of_mem hx
    rw [List.length_cons]; omega
def subs : Nat → List (List Int)
  | 0 => [[]]
  | n + 1 => subs n ++ (subs n).map (· ++ [(n : Int)])
theorem subs_len : ∀ n, (subs n).length = 2 ^ n
  | 0 => rfl
  | n + 1 => by rw [subs, List.length_append, List.length_map, subs_len n, Nat.pow_succ]; omega
theorem mem_subs : ∀ (n : Nat) (l : List Int), Inc l → (∀ x ∈ l, 0 ≤ x ∧ x < (n : Int)) → l ∈ subs n
  | 0, l, _, h => by
    have : l = [] := by
      cases l with
      | nil => rfl
      | cons x r => have := h x (by simp); omega
    subst this; simp [subs]
  | n + 1, l, hi, h => by
    rw [subs, List.mem_append, List.mem_map]
    by_cases hn : (n : Int) ∈ l
    · right
      have hne : l ≠ [] := fun e => by rw [e] at hn; simp at hn
      obtain ⟨v, z, e⟩ : ∃ v z, l = v ++ [z] := ⟨_, _, (List.dropLast_concat_getLast hne).symm⟩
      subst e
      unfold Inc at hi
      rw [List.pairwise_append] at hi
      have hz := h z (by simp)
      have hzn : z = (n : Int) := by
        rcases List.mem_append.1 hn with h1 | h1
        · have := hi.2.2 _ h1 z (by simp); omega
        · have : (n : Int) = z := by simpa using h1
          exact this.symm
      subst hzn
      refine ⟨v, mem_subs n v hi.1 (fun x hx => ?_), rfl⟩
      have h1 := hi.2.2 x hx _ (by simp : (n : Int) ∈ [(n : Int)])
      have h2 := h x (by simp [hx])
      omega
    · left
      refine mem_subs n l hi (fun x hx => ?_)
      have h1 := h x hx
      have : x ≠ (n : Int) := fun e => hn (e ▸ hx)
      omega
def prodL {α β : Type} : List α → List β → List (α × β)
  | [], _ => []
  | x :: r, m => m.map (fun y => (x, y)) ++ prodL r m
theorem prodL_len {α β : Type} (m : List β) : ∀ l : List α, (prodL l m).length = l.length * m.length
  | [] => by simp [prodL]
  | x :: r => by rw [prodL, List.length_append, List.length_map, prodL_len m r, List.length_cons, Nat.add_mul]; omega
theorem mem_prodL {α β : Type} {x : α} {y : β} {m : List β} (hy : y ∈ m) : ∀ {l : List α}, x ∈ l → (x, y) ∈ prodL l m
  | [], h => by simp at h
  | z :: r, h => by
    rw [prodL, List.mem_append]
    rcases List.mem_cons.1 h with rfl | h
    · exact .inl (List.mem_map.2 ⟨y, hy, rfl⟩)
    · exact .inr (mem_prodL hy h)

/-! The search ends. -/
section
variable {σ : Type} [DecidableEq σ] {δ : σ → Nat → σ}
theorem bi_wlen {s0 : σ} {ev k n : Nat} {l : List (σ × List Int)} (h : BI δ s0 ev k n l) : ∀ (j : Nat) (p : σ × List Int), l[j]? = some p → p.2.length ≤ j := by
  intro j
  induction j using Nat.strongRecOn with
  | _ j ih =>
    intro p hp
    rcases h.top p (List.mem_of_getElem? hp) with h0 | ⟨i, x, e, hx, h1, -⟩
    · rw [h0]; simp
    · have hl : p.2.length = x.2.length + 1 := by rw [h1]; simp
      have hlt := (List.getElem?_eq_some_iff.1 hp).1
      have hlx := (List.getElem?_eq_some_iff.1 hx).1
      have hij : i < j := by
        rcases Nat.lt_trichotomy i j with h2 | h2 | h2
        · exact h2
        · subst h2; rw [hx] at hp; have := Option.some.inj hp; subst this; omega
        · have := List.pairwise_iff_getElem.1 h.inc j i hlt hlx h2
          rw [(List.getElem?_eq_some_iff.1 hx).2, (List.getElem?_eq_some_iff.1 hp).2] at this
          have := lessB_len this; omega
      have := ih i hij x hx
      omega
theorem bi_end {s0 : σ} {ev N : Nat} (hN : ∀ (k n : Nat) (l : List (σ × List Int)), BI δ s0 ev k n l → l.length ≤ N) : ∀ (f k : Nat) (l : List (σ × List Int)), BI δ s0 ev k 0 l → k ≤ l.length → N < f + k → BI δ s0 ev (bfGo δ ev f k l).length 0 (bfGo δ ev f k l)
  | 0, k, l, h, hk, hf => by have := hN _ _ _ h; omega
  | f + 1, k, l, h, hk, hf => by
    cases hx : l[k]? with
    | none =>
      have e : bfGo δ ev (f + 1) k l = l := by unfold bfGo; rw [hx]
      have : k = l.length := by have := List.getElem?_eq_none_iff.1 hx; omega
      rw [e]; rw [this] at h; exact h
    | some x =>
      have e : bfGo δ ev (f + 1) k l = bfGo δ ev f (k + 1) (bfRow δ x l ev) := by rw [bfGo, hx]
      rw [e]
      have hlt := (List.getElem?_eq_some_iff.1 hx).1
      obtain ⟨t, ht⟩ := bfRow_pre δ x l ev
      exact bi_end hN f (k + 1) _ (bi_next δ h hx) (by rw [ht, List.length_append]; omega) (by omega)
end

/-! Two machines at once. -/
/-- Where both lead. -/
def bothD (A B : List Arr) (s : List Int × List Int) (e : Nat) : List Int × List Int := (stepL A s.1 (e : Int), stepL B s.2 (e : Int))
theorem bothD_run (A B : List Arr) : ∀ (u : List Int) (x y : List Int), (∀ e ∈ u, 0 ≤ e) → runF (bothD A B) (x, y) u = (afterL A x u, afterL B y u)
  | [], x, y, _ => rfl
  | e :: u, x, y, h => by
    have he : ((e.toNat : Nat) : Int) = e := by have := h e (by simp); omega
    show runF (bothD A B) (bothD A B (x, y) e.toNat) u = _
    unfold bothD
    rw [he]
    exact bothD_run A B u _ _ (fun z hz => h z (by simp [hz]))
theorem afterIn {m : Mach} (hm : mayB m = true) : ∀ (u l : List Int), (Inc l ∧ ∀ x ∈ l, 0 ≤ x ∧ x < m.st) → Inc (afterL m.arrows l u) ∧ ∀ x ∈ afterL m.arrows l u, 0 ≤ x ∧ x < m.st
  | [], l, h => h
  | e :: u, l, _ => afterIn hm u _ (stepIn hm l e)
/-- The places, the lesser words ahead. -/
def plcAll (a b : Mach) : List ((List Int × List Int) × List Int) := bfGo (bothD a.arrows b.arrows) a.ev.toNat 4097 0 [((a.starts, b.starts), [])]
theorem plc_bound {a b : Mach} (ha : mayB a = true) (hb : mayB b = true) (za : a.st ≤ 6) (zb : b.st ≤ 6) {ev k n : Nat} {l : List ((List Int × List Int) × List Int)} (h : BI (bothD a.arrows b.arrows) (a.starts, b.starts) ev k n l) : l.length ≤ 4096 := by
  have h1 := nodup_sub (m := prodL (subs 6) (subs 6)) h.nd (fun s hs => by
    obtain ⟨p, hp, rfl⟩ := List.mem_map.1 hs
    obtain ⟨e1, e2⟩ := h.run p hp
    rw [bothD_run _ _ _ _ _ (fun e he => (e2 e he).1)] at e1
    have i1 := afterIn ha p.2 _ (may_starts ha)
    have i2 := afterIn hb p.2 _ (may_starts hb)
    rw [e1]
    exact mem_prodL (mem_subs 6 _ i2.1 (fun x hx => by have := i2.2 x hx; omega)) (mem_subs 6 _ i1.1 (fun x hx => by have := i1.2 x hx; omega)))
  rw [List.length_map, prodL_len, subs_len] at h1
  exact h1
theorem plc_all {a b : Mach} (ha : mayB a = true) (hb : mayB b = true) (za : a.st ≤ 6) (zb : b.st ≤ 6) : BI (bothD a.arrows b.arrows) (a.starts, b.starts) a.ev.toNat (plcAll a b).length 0 (plcAll a b) :=
  bi_end (N := 4096) (fun k n l h => plc_bound ha hb za zb h) 4097 0 _ (bi_start _ _ _) (Nat.zero_le _) (by omega)

/-- Is a place where the one may end, and the other one not? -/
def outP (a b : Mach) (p : (List Int × List Int) × List Int) : Bool := decide (0 < (p.1.1.filter fun n => hasB a.ends n == true).length) && decide ((p.1.2.filter fun n => hasB b.ends n == true).length = 0)
/-- The least word that a accepts and b does not. -/
def outW (a b : Mach) : Option (List Int) := ((plcAll a b).find? (outP a b)).map (·.2)
/-- Is a word of the one, and not of the other one? -/
def betw (a b : Mach) (u : List Int) : Bool := acceptsB a u && !acceptsB b u
theorem outP_run {a b : Mach} {p : (List Int × List Int) × List Int} (h : p.1 = runF (bothD a.arrows b.arrows) (a.starts, b.starts) p.2) (hu : ∀ e ∈ p.2, 0 ≤ e) (u : List Int) (hu' : ∀ e ∈ u, 0 ≤ e) (he : p.1 = runF (bothD a.arrows b.arrows) (a.starts, b.starts) u) : outP a b p = betw a b u := by
  rw [bothD_run _ _ _ _ _ hu'] at he
  unfold outP betw acceptsB acceptsL
  rw [he]
  dsimp only
  congr 1
  rw [← decide_not]
  exact decide_eq_decide.2 (by omega)
theorem outW_none {a b : Mach} (ha : mayB a = true) (hb : mayB b = true) (za : a.st ≤ 6) (zb : b.st ≤ 6) (h : outW a b = none) (u : List Int) (hu : ∀ e ∈ u, 0 ≤ e ∧ e < a.ev) : betw a b u = false := by
  have hI := plc_all ha hb za zb
  have hev : ((a.ev.toNat : Nat) : Int) = a.ev := by have := mayB_size ha; unfold sizeOk at this; omega
  obtain ⟨p, hp, e1, -⟩ := bi_all _ hI u (by rw [hev]; exact hu)
  unfold outW at h
  rw [Option.map_eq_none_iff, List.find?_eq_none] at h
  have h1 := h p hp
  have hr := hI.run p hp
  rw [outP_run hr.1 (fun e he => (hr.2 e he).1) u (fun e he => (hu e he).1) e1] at h1
  simpa using h1
theorem outW_some {a b : Mach} (ha : mayB a = true) (hb : mayB b = true) (za : a.st ≤ 6) (zb : b.st ≤ 6) {v : List Int} (h : outW a b = some v) : betw a b v = true ∧ (∀ e ∈ v, 0 ≤ e ∧ e < a.ev) ∧ v.length ≤ 4096 ∧ ∀ u : List Int, (∀ e ∈ u, 0 ≤ e ∧ e < a.ev) → betw a b u = true → lessB u v = false := by
  have hI := plc_all ha hb za zb
  have hev : ((a.ev.toNat : Nat) : Int) = a.ev := by have := mayB_size ha; unfold sizeOk at this; omega
  unfold outW at h
  rw [Option.map_eq_some_iff] at h
  obtain ⟨p, hp, rfl⟩ := h
  have hpo := List.find?_some hp
  rw [List.find?_eq_some_iff_getElem] at hp
  obtain ⟨-, i, hi, e0, hlow⟩ := hp
  have hpi : (plcAll a b)[i]? = some p := by rw [List.getElem?_eq_getElem hi, e0]
  have hpm := List.mem_of_getElem? hpi
  have hr := hI.run p hpm
  rw [hev] at hr
  have hbd := plc_bound ha hb za zb hI
  refine ⟨?_, hr.2, ?_, fun u hu hb' => ?_⟩
  · rw [← outP_run hr.1 (fun e he => (hr.2 e he).1) p.2 (fun e he => (hr.2 e he).1) hr.1]; exact hpo
  · have := bi_wlen hI i p hpi; omega
  · obtain ⟨q, hq, e1, e2⟩ := bi_all _ hI u (by rw [hev]; exact hu)
    have hrq := hI.run q hq
    have hqo : outP a b q = true := by rw [outP_run hrq.1 (fun e he => (hrq.2 e he).1) u (fun e he => (hu e he).1) e1]; exact hb'
    obtain ⟨j, hj⟩ := List.mem_iff_getElem?.1 hq
    have hjl := (List.getElem?_eq_some_iff.1 hj).1
    have hqe := (List.getElem?_eq_some_iff.1 hj).2
    have hij : i ≤ j := by
      rcases Nat.lt_or_ge j i with h1 | h1
      · have := hlow j h1
        rw [hqe, hqo] at this; simp at this
      · exact h1
    have hle : leW p.2 q.2 := by
      rcases Nat.lt_or_ge i j with h1 | h1
      · have := List.pairwise_iff_getElem.1 hI.inc i j hi hjl h1
        rw [hqe, e0] at this
        exact .inr this
      · have : i = j := by omega
        subst this
        rw [hpi] at hj
        have := Option.some.inj hj
        subst this
        exact leW_refl _
    exact leW_not (leW_trans hle e2)

end Go.Proofs.YtbdkaobbfmgnhaaDoor
namespace Go.Proofs.YtbdkaobbfmgnhaaDoor
open Go.RowKit
set_option linter.unusedVariables false
set_option linter.unusedSectionVars false

section
variable {σ : Type} [DecidableEq σ]
def findG : List σ → σ → Nat
  | [], _ => 0
  | a :: r, s => if a = s then 0 else findG r s + 1
theorem findG_le : ∀ (L : List σ) (s : σ), findG L s ≤ L.length
  | [], _ => Nat.le_refl _
  | a :: r, s => by
    have := findG_le r s
    unfold findG; split <;> simp <;> omega
theorem findG_get : ∀ {L : List σ} {s : σ}, findG L s < L.length → L[findG L s]? = some s
  | [], _, h => by simp [findG] at h
  | a :: r, s, h => by
    unfold findG at h ⊢
    by_cases e : a = s
    · rw [if_pos e]; simp [e]
    · rw [if_neg e] at h ⊢
      have : findG r s < r.length := by simp at h; omega
      simpa using findG_get this
theorem findG_new : ∀ {L : List σ} {s : σ}, findG L s = L.length ↔ s ∉ L
  | [], s => by simp [findG]
  | a :: r, s => by
    unfold findG
    by_cases e : a = s
    · rw [if_pos e]; simp [e]
    · rw [if_neg e]
      have := findG_new (L := r) (s := s)
      simp only [List.length_cons, Nat.add_right_cancel_iff, List.mem_cons, not_or]
      rw [this]
      exact ⟨fun h => ⟨fun h' => e h'.symm, h⟩, fun h => h.2⟩
end
/-- What has been found, and the arrows. -/
structure GS (σ : Type) where
  sets : List σ
  ar : List Arr
section
variable {σ : Type} [DecidableEq σ] (δ : σ → Nat → σ)
def gStep (k : Nat) (s : GS σ) (e : Nat) : GS σ := match s.sets[k]? with
  | none => s
  | some l => ⟨if findG s.sets (δ l e) = s.sets.length then s.sets ++ [δ l e] else s.sets, s.ar ++ [⟨(k : Int), (e : Int), (findG s.sets (δ l e) : Nat)⟩]⟩
def gRow (k : Nat) (s : GS σ) (n : Nat) : GS σ := (List.range n).foldl (gStep δ k) s
theorem gRow_succ (k : Nat) (s : GS σ) (n : Nat) : gRow δ k s (n + 1) = gStep δ k (gRow δ k s n) n := by
  unfold gRow; rw [List.range_succ, List.foldl_append]; rfl
def gGo (ev : Nat) : Nat → Nat → GS σ → GS σ
  | 0, _, s => s
  | f + 1, k, s => if k < s.sets.length then gGo ev f (k + 1) (gRow δ k s ev) else s
theorem gStep_pre (k : Nat) (s : GS σ) (e : Nat) : ∃ t, (gStep δ k s e).sets = s.sets ++ t := by
  unfold gStep
  split
  · exact ⟨[], by simp⟩
  · dsimp only
    split
    · exact ⟨_, rfl⟩
    · exact ⟨[], by simp⟩
theorem gRow_pre (k : Nat) (s : GS σ) : ∀ n, ∃ t, (gRow δ k s n).sets = s.sets ++ t
  | 0 => ⟨[], by simp [gRow]⟩
  | n + 1 => by
    obtain ⟨t, h1⟩ := gRow_pre k s n
    obtain ⟨u, h3⟩ := gStep_pre δ k (gRow δ k s n) n
    exact ⟨t ++ u, by rw [gRow_succ, h3, h1, List.append_assoc]⟩

structure GI (s0 : σ) (ev : Nat) (n : Nat) (s : GS σ) : Prop where
  nd : s.sets.Nodup
  hd : s.sets[0]? = some s0
  rch : ∀ l ∈ s.sets, ∃ u : List Int, (∀ e ∈ u, 0 ≤ e ∧ e < (ev : Int)) ∧ l = runF δ s0 u
  len : s.ar.length = n
  ar : ∀ i, i < n → ∃ f e t : Nat, ∃ l, s.ar[i]? = some ⟨(f : Int), (e : Int), (t : Int)⟩ ∧ f * ev + e = i ∧ e < ev ∧ s.sets[f]? = some l ∧ s.sets[t]? = some (δ l e)
theorem GI.pos {s0 : σ} {ev n : Nat} {s : GS σ} (h : GI δ s0 ev n s) : 0 < s.sets.length := (List.getElem?_eq_some_iff.1 h.hd).1
theorem gi_start (s0 : σ) (ev : Nat) : GI δ s0 ev (0 * ev) ⟨[s0], []⟩ := by
  refine ⟨by simp, rfl, fun l hl => ?_, by simp, fun i hi => by omega⟩
  have : l = s0 := by simpa using hl
  exact ⟨[], by simp, this⟩
theorem gi_step {s0 : σ} {ev k e : Nat} {s : GS σ} (h : GI δ s0 ev (k * ev + e) s) (hk : k < s.sets.length) (he : e < ev) : GI δ s0 ev (k * ev + (e + 1)) (gStep δ k s e) := by
  obtain ⟨l, hl⟩ : ∃ l, s.sets[k]? = some l := ⟨_, List.getElem?_eq_getElem hk⟩
  obtain ⟨to, hto⟩ : ∃ to, to = δ l e := ⟨_, rfl⟩
  have e1 : gStep δ k s e = ⟨if findG s.sets to = s.sets.length then s.sets ++ [to] else s.sets, s.ar ++ [⟨(k : Int), (e : Int), (findG s.sets to : Nat)⟩]⟩ := by
    unfold gStep; rw [hl, hto]
  have hin : ∃ u : List Int, (∀ e ∈ u, 0 ≤ e ∧ e < (ev : Int)) ∧ to = runF δ s0 u := by
    obtain ⟨u, hu, e2⟩ := h.rch l (List.mem_of_getElem? hl)
    refine ⟨u ++ [(e : Int)], fun x hx => ?_, by rw [hto, e2, runF_snoc]; rfl⟩
    rcases List.mem_append.1 hx with hx | hx
    · exact hu x hx
    · have : x = (e : Int) := by simpa using hx
      omega
  have hlk : ∀ (j : Nat) (x : σ), s.sets[j]? = some x → (if findG s.sets to = s.sets.length then s.sets ++ [to] else s.sets)[j]? = some x := by
    intro j x hj
    split
    · rw [List.getElem?_append_left (List.getElem?_eq_some_iff.1 hj).1]; exact hj
    · exact hj
  have hnew : (if findG s.sets to = s.sets.length then s.sets ++ [to] else s.sets)[findG s.sets to]? = some to := by
    have := findG_le s.sets to
    split
    · rename_i h1
      rw [h1, List.getElem?_append_right (Nat.le_refl _)]; simp
    · exact findG_get (by omega)
  rw [e1]
  refine ⟨?_, hlk 0 _ h.hd, ?_, ?_, ?_⟩
  · dsimp only
    split
    · rename_i h1
      rw [List.nodup_append]
      exact ⟨h.nd, by simp, fun x hx y hy e => by simp at hy; subst hy; subst e; exact findG_new.1 h1 hx⟩
    · exact h.nd
  · dsimp only
    intro x hx
    split at hx
    · rcases List.mem_append.1 hx with hx | hx
      · exact h.rch x hx
      · have : x = to := by simpa using hx
        rw [this]; exact hin
    · exact h.rch x hx
  · simp only [List.length_append, List.length_cons, List.length_nil, h.len]; omega
  · intro i hi
    by_cases hlt : i < k * ev + e
    · obtain ⟨f, e', t, l', h1, h2, h3, h4, h5⟩ := h.ar i hlt
      exact ⟨f, e', t, l', by rw [List.getElem?_append_left (by rw [h.len]; exact hlt)]; exact h1, h2, h3, hlk _ _ h4, hlk _ _ h5⟩
    · have hi' : i = k * ev + e := by omega
      refine ⟨k, e, findG s.sets to, l, ?_, hi'.symm, he, hlk _ _ hl, by rw [← hto]; exact hnew⟩
      rw [List.getElem?_append_right (by rw [h.len]; omega), h.len, hi']; simp
theorem gi_row {s0 : σ} {ev k : Nat} {s : GS σ} (h : GI δ s0 ev (k * ev) s) (hk : k < s.sets.length) : ∀ n, n ≤ ev → GI δ s0 ev (k * ev + n) (gRow δ k s n)
  | 0, _ => h
  | n + 1, hn => by
    rw [gRow_succ]
    obtain ⟨t, ht⟩ := gRow_pre δ k s n
    exact gi_step δ (gi_row h hk n (by omega)) (by rw [ht, List.length_append]; omega) (by omega)
theorem gi_go {s0 : σ} {ev N : Nat} (hN : ∀ (n : Nat) (s : GS σ), GI δ s0 ev n s → s.sets.length ≤ N) : ∀ (f k : Nat) (s : GS σ), GI δ s0 ev (k * ev) s → k ≤ s.sets.length → N < f + k → GI δ s0 ev ((gGo δ ev f k s).sets.length * ev) (gGo δ ev f k s)
  | 0, k, s, h, hk, hf => by have := hN _ _ h; omega
  | f + 1, k, s, h, hk, hf => by
    rw [gGo]
    by_cases hlt : k < s.sets.length
    · rw [if_pos hlt]
      obtain ⟨t, ht⟩ := gRow_pre δ k s ev
      refine gi_go hN f (k + 1) _ ?_ (by rw [ht, List.length_append]; omega) (by omega)
      have := gi_row δ h hlt ev (Nat.le_refl _)
      rw [Nat.succ_mul]; exact this
    · rw [if_neg hlt]
      have : k = s.sets.length := by omega
      rw [← this]; exact h

/-! The machine. -/
def endsG (fin : σ → Bool) : Nat → List σ → List Int
  | _, [] => []
  | k, a :: r => if fin a = true then (k : Int) :: endsG fin (k + 1) r else endsG fin (k + 1) r
theorem mem_endsG (fin : σ → Bool) : ∀ (L : List σ) (k : Nat) (x : Int), x ∈ endsG fin k L ↔ ∃ j a, L[j]? = some a ∧ x = ((k + j : Nat) : Int) ∧ fin a = true
  | [], k, x => by simp [endsG]
  | b :: r, k, x => by
    have ih := mem_endsG fin r (k + 1) x
    have hr : (∃ j a, (b :: r)[j]? = some a ∧ x = ((k + j : Nat) : Int) ∧ fin a = true) ↔ (x = (k : Int) ∧ fin b = true) ∨ (∃ j a, r[j]? = some a ∧ x = ((k + 1 + j : Nat) : Int) ∧ fin a = true) := by
      constructor
      · rintro ⟨j, a, h1, h2, h3⟩
        rcases j with _ | j
        · have e : b = a := by simpa using h1
          subst e
          exact .inl ⟨by simpa using h2, h3⟩
        · exact .inr ⟨j, a, by simpa using h1, by rw [h2]; congr 1; omega, h3⟩
      · rintro (⟨h1, h2⟩ | ⟨j, a, h1, h2, h3⟩)
        · exact ⟨0, b, rfl, by simpa using h1, h2⟩
        · exact ⟨j + 1, a, by simpa using h1, by rw [h2]; congr 1; omega, h3⟩
    rw [hr, ← ih, endsG]
    by_cases h : fin b = true
    · rw [if_pos h, List.mem_cons]
      constructor
      · rintro (h1 | h1)
        · exact .inl ⟨h1, h⟩
        · exact .inr h1
      · rintro (h1 | h1)
        · exact .inl h1.1
        · exact .inr h1
    · rw [if_neg h]
      constructor
      · exact .inr
      · rintro (h1 | h1)
        · exact absurd h1.2 h
        · exact h1
theorem inc_endsG (fin : σ → Bool) : ∀ (L : List σ) (k : Nat), Inc (endsG fin k L)
  | [], k => by simp [endsG, Inc]
  | b :: r, k => by
    unfold endsG
    split
    · rw [Inc, List.pairwise_cons]
      refine ⟨fun x hx => ?_, inc_endsG fin r (k + 1)⟩
      obtain ⟨j, a, -, h2, -⟩ := (mem_endsG fin r (k + 1) x).1 hx
      omega
    · exact inc_endsG fin r (k + 1)
def gM (ev : Int) (fin : σ → Bool) (s : GS σ) : Mach := ⟨s.sets.length, ev, [0], s.ar, endsG fin 0 s.sets⟩

variable {δ} {s0 : σ} {ev : Nat} {s : GS σ} {fin : σ → Bool}
theorem g_arr (h : GI δ s0 ev (s.sets.length * ev) s) {a : Arr} (ha : a ∈ s.ar) : ∃ (i f e t : Nat) (l : σ), s.ar[i]? = some a ∧ a = ⟨(f : Int), (e : Int), (t : Int)⟩ ∧ f * ev + e = i ∧ e < ev ∧ s.sets[f]? = some l ∧ s.sets[t]? = some (δ l e) := by
  obtain ⟨i, hi⟩ := List.mem_iff_getElem?.1 ha
  have hlt := (List.getElem?_eq_some_iff.1 hi).1
  rw [h.len] at hlt
  obtain ⟨f, e, t, l, h1, h2, h3, h4, h5⟩ := h.ar i hlt
  rw [hi] at h1
  exact ⟨i, f, e, t, l, hi, Option.some.inj h1, h2, h3, h4, h5⟩
theorem g_inc (h : GI δ s0 ev (s.sets.length * ev) s) : IncA s.ar := by
  rw [IncA, List.pairwise_iff_getElem]
  intro i j hi hj hij
  obtain ⟨f, e, t, l, h1, h2, h3, -, -⟩ := h.ar i (by rw [← h.len]; exact hi)
  obtain ⟨f', e', t', l', k1, k2, k3, -, -⟩ := h.ar j (by rw [← h.len]; exact hj)
  rw [List.getElem?_eq_getElem hi] at h1
  rw [List.getElem?_eq_getElem hj] at k1
  rw [Option.some.inj h1, Option.some.inj k1]
  refine (aheadB_iff _ _).2 ?_
  dsimp only
  rcases (code_lt h3 k3 (f := f) (f' := f')).1 (by omega) with h4 | ⟨h4, h5⟩
  · exact .inl (by omega)
  · exact .inr ⟨by omega, .inl (by omega)⟩
theorem g_may (h : GI δ s0 ev (s.sets.length * ev) s) (h256 : s.sets.length ≤ 256) (he8 : ev ≤ 8) : mayB (gM (ev : Int) fin s) = true := by
  have hp := h.pos
  have hlen : s.ar.length ≤ 256 * 8 := by rw [h.len]; exact Nat.mul_le_mul h256 he8
  rw [mayB_go (m := gM (ev : Int) fin s) ⟨by show (1 : Int) ≤ s.sets.length; omega, by show (s.sets.length : Int) ≤ 256; omega, by show (0 : Int) ≤ (ev : Int); omega, by show (ev : Int) ≤ 8; omega, by show s.ar.length ≤ 4096; omega⟩ ((rowB_iff _ (by show (s.sets.length : Int) ≤ _; omega) _).2 ⟨by show Inc [0]; simp [Inc], fun x hx => by have hx : x ∈ [(0 : Int)] := hx; have : x = 0 := List.mem_singleton.1 hx; show 0 ≤ x ∧ x < (s.sets.length : Int); omega⟩) ((rowB_iff _ (by show (s.sets.length : Int) ≤ _; omega) _).2 ⟨inc_endsG _ _ _, fun x hx => by
    obtain ⟨j, a, h1, h2, -⟩ := (mem_endsG _ _ _ _).1 hx
    have := (List.getElem?_eq_some_iff.1 h1).1
    show 0 ≤ x ∧ x < (s.sets.length : Int); omega⟩)]
  rw [arrsFrom_iff]
  refine ⟨fun a ha => ?_, g_inc h, fun _ _ => rfl⟩
  obtain ⟨i, f, e, t, l, -, rfl, -, h3, h4, h5⟩ := g_arr h ha
  have h4 := (List.getElem?_eq_some_iff.1 h4).1
  have h5 := (List.getElem?_eq_some_iff.1 h5).1
  exact ⟨by dsimp only; omega, by show (f : Int) < s.sets.length; omega, by dsimp only; omega, by show (t : Int) < s.sets.length; omega, by dsimp only; omega, by show (e : Int) < (ev : Int); omega⟩
theorem g_det (h : GI δ s0 ev (s.sets.length * ev) s) (h256 : s.sets.length ≤ 256) (he8 : ev ≤ 8) : detB (gM (ev : Int) fin s) = true := by
  unfold detB
  rw [g_may h h256 he8, Bool.true_and, Bool.and_eq_true, Bool.and_eq_true]
  refine ⟨rfl, ?_, ?_⟩
  · rw [decide_eq_true_eq]
    show (s.ar.length : Int) = (s.sets.length : Int) * (ev : Int)
    rw [h.len, Int.natCast_mul]
  · show goD (ev : Int) 0 s.ar = true
    rw [goD_iff ev s.ar 0 (fun a ha => by obtain ⟨i, f, e, t, l, -, rfl, -, h3, -, -⟩ := g_arr h ha; exact ⟨by dsimp only; omega, by dsimp only; omega⟩)]
    refine List.ext_getElem? fun i => ?_
    rw [List.getElem?_map]
    by_cases hi : i < s.ar.length
    · obtain ⟨f, e, t, l, h1, h2, h3, -, -⟩ := h.ar i (by rw [← h.len]; exact hi)
      rw [h1, List.getElem?_range' (by exact hi)]
      simp [codeN, h2]
    · rw [List.getElem?_eq_none (by omega), List.getElem?_eq_none (by simp; omega)]; rfl
theorem g_step (h : GI δ s0 ev (s.sets.length * ev) s) {k e : Nat} {l : σ} (hk : s.sets[k]? = some l) (he : e < ev) : ∃ t : Nat, stepL s.ar [(k : Int)] (e : Int) = [(t : Int)] ∧ s.sets[t]? = some (δ l e) := by
  have hlt := (List.getElem?_eq_some_iff.1 hk).1
  obtain ⟨f, e', t, l', h1, h2, h3, h4, h5⟩ := h.ar (k * ev + e) (code_bd hlt he)
  obtain ⟨q1, q2⟩ := code_inj h3 he h2
  rw [q1, q2] at h1 h2
  rw [q1, hk] at h4
  rw [q2] at h5
  have h4 := Option.some.inj h4
  subst h4
  refine ⟨t, inc_ext (inc_srt _) (by simp [Inc]) (fun x => ?_), h5⟩
  rw [mem_stepL]
  constructor
  · rintro ⟨a, ha, ha1, ha2, ha3⟩
    obtain ⟨i, f1, e1, t1, l1, k0, rfl, k2, k3, -, -⟩ := g_arr h ha
    dsimp only at ha1 ha2 ha3
    have q3 : e1 = e := by omega
    have q4 : f1 = k := by have : (f1 : Int) = (k : Int) := List.mem_singleton.1 ha2
                           omega
    rw [q3, q4] at k2
    rw [← k2, h1] at k0
    have q5 := Option.some.inj k0
    injection q5 with _ _ q6
    rw [← ha3, ← q6]; simp
  · intro hx
    have : x = (t : Int) := List.mem_singleton.1 hx
    rw [this]
    exact ⟨_, List.mem_of_getElem? h1, rfl, by simp, rfl⟩
theorem g_after (h : GI δ s0 ev (s.sets.length * ev) s) : ∀ (word : List Int) {k : Nat} {l : σ}, wordB (ev : Int) word = true → s.sets[k]? = some l → ∃ t : Nat, afterL s.ar [(k : Int)] word = [(t : Int)] ∧ s.sets[t]? = some (runF δ l word)
  | [], k, l, _, hk => ⟨k, rfl, hk⟩
  | x :: r, k, l, hw, hk => by
    obtain ⟨hx, hr⟩ := wordB_cons hw
    obtain ⟨e, rfl⟩ : ∃ e : Nat, x = (e : Int) := ⟨x.toNat, by omega⟩
    obtain ⟨t, h1, h2⟩ := g_step h hk (e := e) (by omega)
    obtain ⟨t', h3, h4⟩ := g_after h r hr h2
    exact ⟨t', by show afterL s.ar (stepL s.ar [(k : Int)] (e : Int)) r = _; rw [h1, h3], h4⟩
theorem g_accepts (h : GI δ s0 ev (s.sets.length * ev) s) {word : List Int} (hw : wordB (ev : Int) word = true) : acceptsB (gM (ev : Int) fin s) word = fin (runF δ s0 word) := by
  obtain ⟨t, h1, h2⟩ := g_after h word hw h.hd
  rw [Bool.eq_iff_iff, accepts_iff]
  have e1 : afterL (gM (ev : Int) fin s).arrows (gM (ev : Int) fin s).starts word = [(t : Int)] := h1
  rw [e1]
  constructor
  · rintro ⟨x, hx, he⟩
    have : x = (t : Int) := by simpa using hx
    subst this
    obtain ⟨j, a, k1, k2, k3⟩ := (mem_endsG _ _ _ _).1 he
    have : t = j := by omega
    subst this
    rw [h2] at k1
    rw [Option.some.inj k1]; exact k3
  · intro hf
    exact ⟨(t : Int), by simp, (mem_endsG _ _ _ _).2 ⟨t, _, h2, by simp, hf⟩⟩
end

/-! The least machine, by what a language goes on with. -/
/-- What is accepted behind a word. -/
abbrev Lang := List Int → Bool
def langD (f : Lang) (e : Nat) : Lang := fun u => f ((e : Int) :: u)
def langM (m : Mach) : Lang := fun u => wordB m.ev u && acceptsB m u
theorem langD_run : ∀ (u : List Int) (f : Lang), (∀ e ∈ u, 0 ≤ e) → runF langD f u = fun v => f (u ++ v)
  | [], f, _ => rfl
  | e :: u, f, h => by
    have he : ((e.toNat : Nat) : Int) = e := by have := h e (by simp); omega
    show runF langD (langD f e.toNat) u = _
    rw [langD_run u _ (fun z hz => h z (by simp [hz]))]
    funext v
    unfold langD
    rw [he]; rfl
/-- The search for the least machine. -/
def leastS [DecidableEq Lang] (L : Lang) (ev : Nat) : GS Lang := gGo langD ev 65 0 ⟨[L], []⟩
def leastM [DecidableEq Lang] (L : Lang) (ev : Nat) : Mach := gM (ev : Int) (fun f => f []) (leastS L ev)

theorem wordB_app (ev : Int) : ∀ a b : List Int, wordB ev (a ++ b) = (wordB ev a && wordB ev b)
  | [], b => by simp [wordB]
  | x :: r, b => by
    rw [List.cons_append, wordB, wordB]
    by_cases h : x < 0 ∨ ev ≤ x
    · rw [if_pos h, if_pos h]; rfl
    · rw [if_neg h, if_neg h]; exact wordB_app ev r b
theorem wordB_of {ev : Int} : ∀ {u : List Int}, (∀ e ∈ u, 0 ≤ e ∧ e < ev) → wordB ev u = true
  | [], _ => by simp [wordB]
  | x :: r, h => by
    have := h x (by simp)
    rw [wordB, if_neg (by omega)]
    exact wordB_of (fun e he => h e (by simp [he]))
theorem wordB_in {ev : Int} : ∀ {u : List Int}, wordB ev u = true → ∀ e ∈ u, 0 ≤ e ∧ e < ev
  | [], _, e, he => by simp at he
  | x :: r, h, e, he => by
    obtain ⟨h1, h2⟩ := wordB_cons h
    rcases List.mem_cons.1 he with rfl | he
    · exact h1
    · exact wordB_in h2 e he
/-- What is accepted from some states on. -/
def langS (m : Mach) (ss : List Int) : Lang := fun v => wordB m.ev v && decide (0 < ((afterL m.arrows ss v).filter fun n => hasB m.ends n == true).length)
theorem lang_after {m : Mach} {u : List Int} (hu : ∀ e ∈ u, 0 ≤ e ∧ e < m.ev) : runF langD (langM m) u = langS m (afterL m.arrows m.starts u) := by
  rw [langD_run u _ (fun e he => (hu e he).1)]
  funext v
  unfold langM langS acceptsB acceptsL
  rw [wordB_app, wordB_of hu, Bool.true_and, show afterL m.arrows m.starts (u ++ v) = afterL m.arrows (afterL m.arrows m.starts u) v from by unfold afterL; rw [List.foldl_append]]

/-! A determined machine's ways. -/
theorem det_one {d : Mach} (hd : detB d = true) {s e : Int} (h0 : 0 ≤ s) (h1 : s < d.st) (k0 : 0 ≤ e) (k1 : e < d.ev) : ∃ t, 0 ≤ t ∧ t < d.st ∧ stepL d.arrows [s] e = [t] := by
  unfold detB at hd
  rw [Bool.and_eq_true, Bool.and_eq_true] at hd
  obtain ⟨hm, -, hg⟩ := hd
  have hz := mayB_size hm
  unfold sizeOk at hz
  obtain ⟨st, hst⟩ : ∃ st : Nat, d.st = (st : Int) := ⟨d.st.toNat, by omega⟩
  obtain ⟨ev, hev⟩ : ∃ ev : Nat, d.ev = (ev : Int) := ⟨d.ev.toNat, by omega⟩
  rw [hst, hev, det_same (st := st) (ev := ev) (by rw [← hst, ← hev]; exact may_arrs hm) (may_inc hm)] at hg
  unfold allOne oneRow at hg
  simp only [List.all_eq_true, List.mem_range, decide_eq_true_eq] at hg
  have hc := hg s.toNat (by omega) e.toNat (by omega)
  rw [show ((s.toNat : Nat) : Int) = s by omega, show ((e.toNat : Nat) : Int) = e by omega] at hc
  unfold cntL at hc
  obtain ⟨a, ha⟩ := List.length_eq_one_iff.1 hc
  have hmem : ∀ b, b ∈ d.arrows ∧ b.f = s ∧ b.e = e ↔ b = a := by
    intro b
    have : b ∈ d.arrows.filter (fun a => decide (a.f = s) && decide (a.e = e)) ↔ b = a := by rw [ha]; simp
    rw [← this, List.mem_filter]; simp
  have h := (hmem a).2 rfl
  have hin := may_arrs hm a h.1
  unfold arrIn at hin
  refine ⟨a.t, by omega, by omega, inc_ext (inc_srt _) (by simp [Inc]) (fun x => ?_)⟩
  rw [mem_stepL]
  constructor
  · rintro ⟨b, b1, b2, b3, b4⟩
    have b3 : b.f = s := by simpa using b3
    rw [(hmem b).1 ⟨b1, b3, b2⟩] at b4
    rw [b4]; simp
  · intro hx
    have : x = a.t := by simpa using hx
    exact ⟨a, h.1, h.2.2, by rw [h.2.1]; simp, this.symm⟩
theorem det_run {d : Mach} (hd : detB d = true) : ∀ (u : List Int) (s : Int), 0 ≤ s → s < d.st → (∀ e ∈ u, 0 ≤ e ∧ e < d.ev) → ∃ t, 0 ≤ t ∧ t < d.st ∧ afterL d.arrows [s] u = [t]
  | [], s, h0, h1, _ => ⟨s, h0, h1, rfl⟩
  | e :: u, s, h0, h1, hu => by
    have he := hu e (by simp)
    obtain ⟨t, t0, t1, ht⟩ := det_one hd h0 h1 he.1 he.2
    obtain ⟨r, r0, r1, hr⟩ := det_run hd u t t0 t1 (fun z hz => hu z (by simp [hz]))
    exact ⟨r, r0, r1, by show afterL d.arrows (stepL d.arrows [s] e) u = _; rw [ht, hr]⟩
section
variable [DecidableEq Lang]
theorem least_bound {m : Mach} (hm : mayB m = true) (zm : m.st ≤ 6) {ev : Nat} (he : m.ev = (ev : Int)) {n : Nat} {s : GS Lang} (h : GI langD (langM m) ev n s) : s.sets.length ≤ 64 := by
  have h1 := nodup_sub (m := (subs 6).map (langS m)) h.nd (fun l hl => by
    obtain ⟨u, hu, e1⟩ := h.rch l hl
    rw [← he] at hu
    rw [e1, lang_after hu]
    have i1 := afterIn hm u _ (may_starts hm)
    exact List.mem_map.2 ⟨_, mem_subs 6 _ i1.1 (fun x hx => by have := i1.2 x hx; omega), rfl⟩)
  rw [List.length_map, subs_len] at h1
  exact h1
theorem least_gi {m : Mach} (hm : mayB m = true) (zm : m.st ≤ 6) {ev : Nat} (he : m.ev = (ev : Int)) : GI langD (langM m) ev ((leastS (langM m) ev).sets.length * ev) (leastS (langM m) ev) :=
  gi_go langD (N := 64) (fun n s h => least_bound hm zm he h) 65 0 _ (gi_start _ _ _) (by simp) (by omega)
/-- The least machine has the same language. -/
theorem least_acc {m : Mach} (hm : mayB m = true) (zm : m.st ≤ 6) {ev : Nat} (he : m.ev = (ev : Int)) {u : List Int} (hu : wordB m.ev u = true) : acceptsB (leastM (langM m) ev) u = acceptsB m u := by
  have h := g_accepts (fin := fun f => f []) (least_gi hm zm he) (word := u) (by rw [← he]; exact hu)
  unfold leastM
  rw [h, langD_run u _ (fun e h => (wordB_in hu e h).1)]
  unfold langM
  show (wordB m.ev (u ++ []) && acceptsB m (u ++ [])) = acceptsB m u
  rw [List.append_nil, hu, Bool.true_and]
theorem least_may {m : Mach} (hm : mayB m = true) (zm : m.st ≤ 6) {ev : Nat} (he : m.ev = (ev : Int)) : mayB (leastM (langM m) ev) = true ∧ detB (leastM (langM m) ev) = true ∧ (leastM (langM m) ev).st ≤ 64 := by
  have hz := mayB_size hm
  unfold sizeOk at hz
  have h := least_gi hm zm he
  have hb := least_bound hm zm he h
  exact ⟨g_may h (by omega) (by omega), g_det h (by omega) (by omega), by show ((leastS (langM m) ev).sets.length : Int) ≤ 64; omega⟩
/-- H2: the least machines are the same just when the languages are. -/
theorem least_same {a b : Mach} (ha : mayB a = true) (hb : mayB b = true) (za : a.st ≤ 6) (zb : b.st ≤ 6) {ev : Nat} (ea : a.ev = (ev : Int)) (eb : b.ev = (ev : Int)) : leastM (langM a) ev = leastM (langM b) ev ↔ ∀ u, wordB (ev : Int) u = true → acceptsB a u = acceptsB b u := by
  constructor
  · intro h u hu
    rw [← least_acc ha za ea (by rw [ea]; exact hu), ← least_acc hb zb eb (by rw [eb]; exact hu), h]
  · intro h
    have : langM a = langM b := by
      funext u
      unfold langM
      rw [ea, eb]
      cases hw : wordB (ev : Int) u with
      | false => rfl
      | true => rw [h u hw]
    rw [this]
theorem least_fewest {m d : Mach} (hm : mayB m = true) (zm : m.st ≤ 6) {ev : Nat} (he : m.ev = (ev : Int)) (hd : detB d = true) (ed : d.ev = (ev : Int)) (hl : ∀ u, wordB (ev : Int) u = true → acceptsB m u = acceptsB d u) : (leastM (langM m) ev).st ≤ d.st := by
  have h := least_gi hm zm he
  have hmd : mayB d = true := by unfold detB at hd; rw [Bool.and_eq_true] at hd; exact hd.1
  have hz := mayB_size hmd
  unfold sizeOk at hz
  have hsame : langM m = langM d := by
    funext u
    unfold langM
    rw [he, ed]
    cases hw : wordB (ev : Int) u with
    | false => rfl
    | true => rw [hl u hw]
  obtain ⟨s0, hs0⟩ : ∃ s0, d.starts = [s0] := by
    have hd' := hd
    unfold detB at hd'
    rw [Bool.and_eq_true, Bool.and_eq_true, decide_eq_true_eq] at hd'
    exact List.length_eq_one_iff.1 hd'.2.1
  have hs1 := (may_starts hmd).2 s0 (by rw [hs0]; simp)
  have h1 := nodup_sub (m := (rngI d.st.toNat).map fun t => langS d [t]) h.nd (fun l hl => by
    obtain ⟨u, hu, e1⟩ := h.rch l hl
    rw [← ed] at hu
    obtain ⟨t, t0, t1, ht⟩ := det_run hd u s0 hs1.1 hs1.2 hu
    rw [e1, hsame, lang_after hu, hs0, ht]
    exact List.mem_map.2 ⟨t, (mem_rngI _ _).2 ⟨t0, by omega⟩, rfl⟩)
  rw [List.length_map, rngI_len] at h1
  show ((leastS (langM m) ev).sets.length : Int) ≤ d.st
  omega
end

end Go.Proofs.YtbdkaobbfmgnhaaDoor
namespace Go.Proofs.YtbdkaobbfmgnhaaDoor
open Go.RowKit
set_option linter.unusedVariables false
set_option linter.unusedSectionVars false

/-- Where a state of a determined machine leads to. -/
def toI (D : List Arr) (s e : Int) : Int := (stepL D [s] e)[0]?.getD 0
/-- The first of some states that is not told apart from another one. -/
def lFind (ap : Int → Int → Bool) : List Int → Int → Nat
  | [], _ => 0
  | a :: r, t => if ap a t = true then lFind ap r t + 1 else 0
/-- States found, and arrows. -/
structure LS where
  fd : List Int
  ar : List Arr
def lStp (D : List Arr) (ap : Int → Int → Bool) (k : Nat) (s : LS) (e : Nat) : LS :=
  ⟨if lFind ap s.fd (toI D (s.fd[k]?.getD 0) (e : Int)) = s.fd.length then s.fd ++ [toI D (s.fd[k]?.getD 0) (e : Int)] else s.fd, s.ar ++ [⟨(k : Int), (e : Int), (lFind ap s.fd (toI D (s.fd[k]?.getD 0) (e : Int)) : Nat)⟩]⟩
def lRow (D : List Arr) (ap : Int → Int → Bool) (k : Nat) (s : LS) (n : Nat) : LS := (List.range n).foldl (lStp D ap k) s
theorem lRow_succ (D : List Arr) (ap : Int → Int → Bool) (k : Nat) (s : LS) (n : Nat) : lRow D ap k s (n + 1) = lStp D ap k (lRow D ap k s n) n := by
  unfold lRow; rw [List.range_succ, List.foldl_append]; rfl
def lGo (D : List Arr) (ap : Int → Int → Bool) (ev : Nat) : Nat → Nat → LS → LS
  | 0, _, s => s
  | f + 1, k, s => if k < s.fd.length then lGo D ap ev f (k + 1) (lRow D ap k s ev) else s
/-- The machine that is laid by states found. -/
def lM (d : Mach) (s : LS) : Mach := ⟨s.fd.length, d.ev, [0], s.ar, endsG (fun x => hasB d.ends x) 0 s.fd⟩
/-- The least machine, by a determined machine. -/
def leastR (d : Mach) (ap : Int → Int → Bool) : Mach := lM d (lGo d.arrows ap d.ev.toNat 65 0 ⟨[0], []⟩)

section
variable {d : Mach}
theorem toI_step (hd : detB d = true) {s e : Int} (h0 : 0 ≤ s) (h1 : s < d.st) (k0 : 0 ≤ e) (k1 : e < d.ev) : stepL d.arrows [s] e = [toI d.arrows s e] ∧ 0 ≤ toI d.arrows s e ∧ toI d.arrows s e < d.st := by
  obtain ⟨t, t0, t1, ht⟩ := det_one hd h0 h1 k0 k1
  have : toI d.arrows s e = t := by unfold toI; rw [ht]; rfl
  rw [this]; exact ⟨ht, t0, t1⟩
theorem langS_step (hd : detB d = true) {s : Int} {e : Nat} (h0 : 0 ≤ s) (h1 : s < d.st) (k1 : (e : Int) < d.ev) : langD (langS d [s]) e = langS d [toI d.arrows s (e : Int)] := by
  have h := (toI_step hd h0 h1 (by omega : (0 : Int) ≤ (e : Int)) k1).1
  funext v
  unfold langD langS
  rw [show afterL d.arrows [s] ((e : Int) :: v) = afterL d.arrows (stepL d.arrows [s] (e : Int)) v from rfl, h, wordB, if_neg (by omega)]
theorem endsG_map {σ τ : Type} (g : τ → σ) (fin : σ → Bool) (fin' : τ → Bool) (h : ∀ x, fin (g x) = fin' x) : ∀ (L : List τ) (k : Nat), endsG fin k (L.map g) = endsG fin' k L
  | [], k => rfl
  | a :: r, k => by rw [List.map_cons, endsG, endsG, h a, endsG_map g fin fin' h r (k + 1)]

variable [DecidableEq Lang] {ap : Int → Int → Bool}
theorem lFind_eq (hap : ∀ s t : Int, 0 ≤ s → s < d.st → 0 ≤ t → t < d.st → (ap s t = true ↔ langS d [s] ≠ langS d [t])) {t : Int} (t0 : 0 ≤ t) (t1 : t < d.st) : ∀ {L : List Int}, (∀ x ∈ L, 0 ≤ x ∧ x < d.st) → lFind ap L t = findG (L.map fun s => langS d [s]) (langS d [t])
  | [], _ => rfl
  | a :: r, h => by
    have ha := h a (by simp)
    have ih := lFind_eq hap t0 t1 (L := r) (fun x hx => h x (by simp [hx]))
    rw [List.map_cons, lFind, findG, ih]
    by_cases e : langS d [a] = langS d [t]
    · rw [if_pos e, if_neg (fun h' => (hap a t ha.1 ha.2 t0 t1).1 h' e)]
    · rw [if_neg e, if_pos ((hap a t ha.1 ha.2 t0 t1).2 e)]
/-- Found by states, and found by languages. -/
structure LR (d : Mach) (s : LS) (g : GS Lang) : Prop where
  st : g.sets = s.fd.map fun x => langS d [x]
  ar : g.ar = s.ar
  bd : ∀ x ∈ s.fd, 0 ≤ x ∧ x < d.st
theorem LR.len {s : LS} {g : GS Lang} (h : LR d s g) : g.sets.length = s.fd.length := by rw [h.st, List.length_map]
theorem lr_step (hd : detB d = true) (hap : ∀ s t : Int, 0 ≤ s → s < d.st → 0 ≤ t → t < d.st → (ap s t = true ↔ langS d [s] ≠ langS d [t])) {s : LS} {g : GS Lang} (h : LR d s g) {k e : Nat} (hk : k < s.fd.length) (he : (e : Int) < d.ev) : LR d (lStp d.arrows ap k s e) (gStep langD k g e) := by
  obtain ⟨x, hx⟩ : ∃ x, s.fd[k]? = some x := ⟨_, List.getElem?_eq_getElem hk⟩
  have hxb := h.bd x (List.mem_of_getElem? hx)
  obtain ⟨t, ht⟩ : ∃ t, t = toI d.arrows x (e : Int) := ⟨_, rfl⟩
  have htb := (toI_step hd hxb.1 hxb.2 (by omega : (0 : Int) ≤ (e : Int)) he).2
  rw [← ht] at htb
  have e1 : lStp d.arrows ap k s e = ⟨if lFind ap s.fd t = s.fd.length then s.fd ++ [t] else s.fd, s.ar ++ [⟨(k : Int), (e : Int), (lFind ap s.fd t : Nat)⟩]⟩ := by
    unfold lStp; rw [hx, Option.getD_some, ← ht]
  have e2 : g.sets[k]? = some (langS d [x]) := by rw [h.st, List.getElem?_map, hx]; rfl
  have e3 : findG g.sets (langS d [t]) = lFind ap s.fd t := by rw [h.st, lFind_eq hap htb.1 htb.2 h.bd]
  have e4 : gStep langD k g e = ⟨if lFind ap s.fd t = s.fd.length then g.sets ++ [langS d [t]] else g.sets, g.ar ++ [⟨(k : Int), (e : Int), (lFind ap s.fd t : Nat)⟩]⟩ := by
    unfold gStep
    rw [e2]
    dsimp only
    rw [langS_step hd hxb.1 hxb.2 he, ← ht, e3, h.len]
  rw [e1, e4]
  refine ⟨?_, by rw [h.ar], fun y hy => ?_⟩
  · dsimp only
    split
    · rw [List.map_append, h.st]; rfl
    · exact h.st
  · dsimp only at hy
    split at hy
    · rcases List.mem_append.1 hy with hy | hy
      · exact h.bd y hy
      · have : y = t := by simpa using hy
        rw [this]; exact htb
    · exact h.bd y hy
theorem lStp_pre (D : List Arr) (k : Nat) (s : LS) (e : Nat) : ∃ t, (lStp D ap k s e).fd = s.fd ++ t := by
  unfold lStp
  dsimp only
  split
  · exact ⟨_, rfl⟩
  · exact ⟨[], by simp⟩
theorem lRow_pre (D : List Arr) (k : Nat) (s : LS) : ∀ n, ∃ t, (lRow D ap k s n).fd = s.fd ++ t
  | 0 => ⟨[], by simp [lRow]⟩
  | n + 1 => by
    obtain ⟨t, h1⟩ := lRow_pre D k s n
    obtain ⟨u, h3⟩ := lStp_pre (ap := ap) D k (lRow D ap k s n) n
    exact ⟨t ++ u, by rw [lRow_succ, h3, h1, List.append_assoc]⟩
theorem lr_row (hd : detB d = true) (hap : ∀ s t : Int, 0 ≤ s → s < d.st → 0 ≤ t → t < d.st → (ap s t = true ↔ langS d [s] ≠ langS d [t])) {s : LS} {g : GS Lang} (h : LR d s g) {k : Nat} (hk : k < s.fd.length) : ∀ n : Nat, (n : Int) ≤ d.ev → LR d (lRow d.arrows ap k s n) (gRow langD k g n)
  | 0, _ => h
  | n + 1, hn => by
    rw [lRow_succ, gRow_succ]
    obtain ⟨t, ht⟩ := lRow_pre (ap := ap) d.arrows k s n
    exact lr_step hd hap (lr_row hd hap h hk n (by omega)) (by rw [ht, List.length_append]; omega) (by omega)
theorem lr_go (hd : detB d = true) (hap : ∀ s t : Int, 0 ≤ s → s < d.st → 0 ≤ t → t < d.st → (ap s t = true ↔ langS d [s] ≠ langS d [t])) {ev : Nat} (hev : (ev : Int) ≤ d.ev) : ∀ (f k : Nat) (s : LS) (g : GS Lang), LR d s g → LR d (lGo d.arrows ap ev f k s) (gGo langD ev f k g)
  | 0, k, s, g, h => h
  | f + 1, k, s, g, h => by
    rw [lGo, gGo, h.len]
    by_cases hlt : k < s.fd.length
    · rw [if_pos hlt, if_pos hlt]
      exact lr_go hd hap hev f (k + 1) _ _ (lr_row hd hap h hlt ev hev)
    · rw [if_neg hlt, if_neg hlt]; exact h
/-- By a determined machine that begins at 0, the least machine of its language is found. -/
theorem leastR_eq (hd : detB d = true) (h0 : d.starts = [0]) (hap : ∀ s t : Int, 0 ≤ s → s < d.st → 0 ≤ t → t < d.st → (ap s t = true ↔ langS d [s] ≠ langS d [t])) : leastR d ap = leastM (langM d) d.ev.toNat := by
  have hmd : mayB d = true := by unfold detB at hd; rw [Bool.and_eq_true] at hd; exact hd.1
  have hz := mayB_size hmd
  unfold sizeOk at hz
  have hL : langM d = langS d [0] := by
    funext u
    unfold langM langS acceptsB acceptsL
    rw [h0]
  have h := lr_go hd hap (ev := d.ev.toNat) (by omega) 65 0 ⟨[0], []⟩ ⟨[langM d], []⟩ ⟨by rw [hL]; rfl, rfl, fun x hx => (by rcases List.mem_singleton.1 hx with rfl; exact ⟨by omega, by omega⟩)⟩
  unfold leastR leastM leastS gM lM
  rw [h.len, h.ar, h.st, endsG_map (fun x => langS d [x]) (fun f => f []) (fun x => hasB d.ends x) (fun x => ?_)]
  · congr 1; omega
  · show (wordB d.ev [] && decide (0 < (([x] : List Int).filter fun n => hasB d.ends n == true).length)) = hasB d.ends x
    cases hx : hasB d.ends x <;> simp [wordB, hx]
end

/-! Which states a word tells apart. -/
section
variable {d : Mach}
theorem langS_nil (x : Int) : langS d [x] [] = hasB d.ends x := by
  show (wordB d.ev [] && decide (0 < (([x] : List Int).filter fun n => hasB d.ends n == true).length)) = hasB d.ends x
  cases hx : hasB d.ends x <;> simp [wordB, hx]
/-- What is told apart at an event on, is told apart. -/
theorem apart_on (hd : detB d = true) {s t : Int} {e : Nat} (s0 : 0 ≤ s) (s1 : s < d.st) (t0 : 0 ≤ t) (t1 : t < d.st) (he : (e : Int) < d.ev) (h : langS d [toI d.arrows s (e : Int)] ≠ langS d [toI d.arrows t (e : Int)]) : langS d [s] ≠ langS d [t] := fun e1 => h (by rw [← langS_step hd s0 s1 he, ← langS_step hd t0 t1 he, e1])
theorem apart_fin {s t : Int} (h : hasB d.ends s ≠ hasB d.ends t) : langS d [s] ≠ langS d [t] := fun e => h (by rw [← langS_nil, ← langS_nil, e])
/-- A table that has what ends tell apart, is closed backward, and has nothing else, is the right one. -/
theorem apart_iff (hd : detB d = true) {ap : Int → Int → Bool} (hb : ∀ s t : Int, 0 ≤ s → s < d.st → 0 ≤ t → t < d.st → hasB d.ends s ≠ hasB d.ends t → ap s t = true) (hc : ∀ (s t : Int) (e : Nat), 0 ≤ s → s < d.st → 0 ≤ t → t < d.st → (e : Int) < d.ev → ap (toI d.arrows s (e : Int)) (toI d.arrows t (e : Int)) = true → ap s t = true) (hs : ∀ s t : Int, 0 ≤ s → s < d.st → 0 ≤ t → t < d.st → ap s t = true → langS d [s] ≠ langS d [t]) :
    ∀ s t : Int, 0 ≤ s → s < d.st → 0 ≤ t → t < d.st → (ap s t = true ↔ langS d [s] ≠ langS d [t]) := by
  have key : ∀ (v : List Int) (s t : Int), 0 ≤ s → s < d.st → 0 ≤ t → t < d.st → ap s t = false → langS d [s] v = langS d [t] v := by
    intro v
    induction v with
    | nil =>
      intro s t s0 s1 t0 t1 h
      rw [langS_nil, langS_nil]
      by_cases e : hasB d.ends s = hasB d.ends t
      · exact e
      · rw [hb s t s0 s1 t0 t1 e] at h; cases h
    | cons e v ih =>
      intro s t s0 s1 t0 t1 h
      by_cases he : 0 ≤ e ∧ e < d.ev
      · obtain ⟨n, rfl⟩ : ∃ n : Nat, e = (n : Int) := ⟨e.toNat, by omega⟩
        have q1 := (toI_step hd s0 s1 he.1 he.2).2
        have q2 := (toI_step hd t0 t1 he.1 he.2).2
        have hn : ap (toI d.arrows s (n : Int)) (toI d.arrows t (n : Int)) = false := by
          cases hh : ap (toI d.arrows s (n : Int)) (toI d.arrows t (n : Int)) with
          | false => rfl
          | true => rw [hc s t n s0 s1 t0 t1 he.2 hh] at h; cases h
        have := ih _ _ q1.1 q1.2 q2.1 q2.2 hn
        rw [← langS_step hd s0 s1 he.2, ← langS_step hd t0 t1 he.2] at this
        exact this
      · unfold langS
        rw [wordB, if_pos (by omega)]; rfl
  intro s t s0 s1 t0 t1
  refine ⟨hs s t s0 s1 t0 t1, fun h => ?_⟩
  cases hh : ap s t with
  | true => rfl
  | false => exact absurd (funext fun v => key v s t s0 s1 t0 t1 hh) h
end

/-! A small machine's sets. -/
theorem di_small {m : Mach} (zm : m.st ≤ 6) {ev n : Nat} {s : DS} (h : DI m ev n s) : s.sets.length ≤ 64 := by
  have h1 := nodup_sub (m := subs 6) h.nd (fun l hl => by
    have := h.inc l hl
    exact mem_subs 6 l this.1 (fun x hx => by have := this.2 x hx; omega))
  rw [subs_len] at h1
  exact h1
theorem dGo_small {m : Mach} (hm : mayB m = true) (zm : m.st ≤ 6) {ev : Nat} : ∀ (f k : Nat) (s : DS), DI m ev (k * ev) s → ∃ s', dGo m.arrows ev f k s = some s'
  | 0, k, s, _ => ⟨s, rfl⟩
  | f + 1, k, s, h => by
    rw [dGo]
    by_cases hlt : k < s.sets.length
    · rw [if_pos hlt]
      have h' := di_row hm h hlt ev (Nat.le_refl _)
      have := di_small zm h'
      rw [if_neg (by omega)]
      exact dGo_small hm zm f (k + 1) _ (by rw [Nat.succ_mul]; exact h')
    · rw [if_neg hlt]; exact ⟨s, rfl⟩
theorem det_small {m : Mach} (hm : mayB m = true) (zm : m.st ≤ 6) : ∃ s, detS m = some s ∧ s.sets.length ≤ 64 := by
  obtain ⟨s, h⟩ := dGo_small hm zm 257 0 _ (di_start hm m.ev.toNat)
  exact ⟨s, h, di_small zm (detS_di hm h).1⟩
theorem det_lang {m : Mach} (hm : mayB m = true) {s : DS} (h : detS m = some s) : langM (detM m s) = langM m := by
  funext u
  unfold langM
  show (wordB m.ev u && acceptsB (detM m s) u) = _
  cases hw : wordB m.ev u with
  | false => rfl
  | true => rw [det_accepts hm h hw]
/-- The least machine of a small machine, by the states of its sets. -/
theorem leastR_det [DecidableEq Lang] {m : Mach} (hm : mayB m = true) {s : DS} (h : detS m = some s) {ap : Int → Int → Bool} (hap : ∀ x y : Int, 0 ≤ x → x < (detM m s).st → 0 ≤ y → y < (detM m s).st → (ap x y = true ↔ langS (detM m s) [x] ≠ langS (detM m s) [y])) : leastR (detM m s) ap = leastM (langM m) m.ev.toNat := by
  rw [leastR_eq (det_det hm h) rfl hap, det_lang hm h]; rfl

end Go.Proofs.YtbdkaobbfmgnhaaDoor
namespace Go.Proofs.YtbdkaobbfmgnhaaDoor
open Go.RowKit
set_option linter.unusedVariables false
set_option linter.unusedSectionVars false

/-! What is found among f 0, f 1, .. -/
section
variable {σ τ : Type} [DecidableEq σ] [DecidableEq τ]
/-- The things found, in their order. -/
def fnd (f : Nat → σ) : Nat → List σ
  | 0 => []
  | n + 1 => if f n ∈ fnd f n then fnd f n else fnd f n ++ [f n]
theorem mem_fnd (f : Nat → σ) : ∀ (n : Nat) (s : σ), s ∈ fnd f n ↔ ∃ x, x < n ∧ f x = s
  | 0, s => by simp [fnd]
  | n + 1, s => by
    have ih := mem_fnd f n s
    unfold fnd
    by_cases h : f n ∈ fnd f n
    · rw [if_pos h, ih]
      refine ⟨fun ⟨x, hx, e⟩ => ⟨x, by omega, e⟩, fun ⟨x, hx, e⟩ => ?_⟩
      by_cases hn : x = n
      · subst hn
        obtain ⟨y, hy, e2⟩ := (mem_fnd f x (f x)).1 h
        exact ⟨y, hy, e2.trans e⟩
      · exact ⟨x, by omega, e⟩
    · rw [if_neg h, List.mem_append, ih, List.mem_singleton]
      constructor
      · rintro (⟨x, hx, e⟩ | e)
        · exact ⟨x, by omega, e⟩
        · exact ⟨n, by omega, e.symm⟩
      · rintro ⟨x, hx, e⟩
        by_cases hn : x = n
        · subst hn; exact .inr e.symm
        · exact .inl ⟨x, by omega, e⟩
theorem nodup_fnd (f : Nat → σ) : ∀ n, (fnd f n).Nodup
  | 0 => by simp [fnd]
  | n + 1 => by
    unfold fnd
    by_cases h : f n ∈ fnd f n
    · rw [if_pos h]; exact nodup_fnd f n
    · rw [if_neg h, List.nodup_append]
      refine ⟨nodup_fnd f n, by simp, fun a ha b hb e => ?_⟩
      rw [List.mem_singleton] at hb
      subst hb; subst e; exact h ha
theorem fnd_len (f : Nat → σ) : ∀ n, (fnd f n).length ≤ n
  | 0 => by simp [fnd]
  | n + 1 => by
    have := fnd_len f n
    unfold fnd
    split
    · omega
    · rw [List.length_append, List.length_singleton]; omega
theorem fnd_pre (f : Nat → σ) (n : Nat) : ∀ k, ∃ t, fnd f (n + k) = fnd f n ++ t
  | 0 => ⟨[], by simp⟩
  | k + 1 => by
    obtain ⟨t, ht⟩ := fnd_pre f n k
    rw [← Nat.add_assoc, fnd]
    split
    · exact ⟨t, ht⟩
    · exact ⟨t ++ [f (n + k)], by rw [ht, List.append_assoc]⟩
/-- A finer sign finds no fewer; and where it finds as many, it is no finer. -/
theorem fnd_fine (f : Nat → σ) (g : Nat → τ) : ∀ n, (∀ x y, x < n → y < n → f x = f y → g x = g y) → (fnd g n).length ≤ (fnd f n).length ∧ ((fnd g n).length = (fnd f n).length → ∀ x y, x < n → y < n → g x = g y → f x = f y)
  | 0, _ => ⟨by simp [fnd], fun _ x y hx => by omega⟩
  | n + 1, h => by
    obtain ⟨ih1, ih2⟩ := fnd_fine f g n (fun x y hx hy => h x y (by omega) (by omega))
    unfold fnd
    by_cases hf : f n ∈ fnd f n
    · obtain ⟨z, hz, ez⟩ := (mem_fnd f n _).1 hf
      have egz := h z n (by omega) (by omega) ez
      have hg : g n ∈ fnd g n := (mem_fnd g n _).2 ⟨z, hz, egz⟩
      rw [if_pos hf, if_pos hg]
      refine ⟨ih1, fun hl => ?_⟩
      have key : ∀ x, x < n → g x = g n → f x = f n := fun x hx e => (ih2 hl x z hx hz (e.trans egz.symm)).trans ez
      intro x y hx hy e
      by_cases hxn : x = n
      · by_cases hyn : y = n
        · rw [hxn, hyn]
        · subst hxn; exact (key y (by omega) e.symm).symm
      · by_cases hyn : y = n
        · subst hyn; exact key x (by omega) e
        · exact ih2 hl x y (by omega) (by omega) e
    · rw [if_neg hf, List.length_append, List.length_singleton]
      by_cases hg : g n ∈ fnd g n
      · rw [if_pos hg]
        exact ⟨by omega, fun hl => by omega⟩
      · rw [if_neg hg, List.length_append, List.length_singleton]
        refine ⟨by omega, fun hl => ?_⟩
        have key : ∀ x, x < n → g x ≠ g n := fun x hx e => hg ((mem_fnd g n _).2 ⟨x, hx, e⟩)
        intro x y hx hy e
        by_cases hxn : x = n
        · by_cases hyn : y = n
          · rw [hxn, hyn]
          · subst hxn; exact absurd e.symm (key y (by omega))
        · by_cases hyn : y = n
          · subst hyn; exact absurd e (key x (by omega))
          · exact ih2 (by omega) x y (by omega) (by omega) e
/-- A thing's number among those found. -/
def cls (f : Nat → σ) (n x : Nat) : Nat := (fnd f n).idxOf (f x)
theorem cls_lt (f : Nat → σ) {n x : Nat} (hx : x < n) : cls f n x < (fnd f n).length := List.idxOf_lt_length_of_mem ((mem_fnd f n _).2 ⟨x, hx, rfl⟩)
theorem cls_at (f : Nat → σ) {n x : Nat} (hx : x < n) : (fnd f n)[cls f n x]? = some (f x) := by
  have h := cls_lt f hx
  rw [List.getElem?_eq_getElem h]
  exact congrArg some (List.getElem_idxOf h)
theorem cls_iff (f : Nat → σ) {n x y : Nat} (hx : x < n) (hy : y < n) : cls f n x = cls f n y ↔ f x = f y := by
  refine ⟨fun e => ?_, fun e => by unfold cls; rw [e]⟩
  have h1 := cls_at f hx
  rw [e, cls_at f hy] at h1
  exact (Option.some.inj h1).symm
/-- Numbers stay. -/
theorem cls_stays (f : Nat → σ) {n x : Nat} (hx : x < n) (k : Nat) : cls f (n + k) x = cls f n x := by
  obtain ⟨t, ht⟩ := fnd_pre f n k
  unfold cls
  rw [ht, List.idxOf_append, if_pos ((mem_fnd f n _).2 ⟨x, hx, rfl⟩)]
end

/-! Rounds. -/
/-- A state's sign: its class and its followers' classes. -/
def sgn (d : Mach) (c : Nat → Nat) (x : Nat) : Nat × List Nat := (c x, (List.range d.ev.toNat).map fun (e : Nat) => c (toI d.arrows (x : Int) (e : Int)).toNat)
/-- What a round's classes keep: ends are told, and nothing that no word tells. -/
structure SG (d : Mach) (c : Nat → Nat) : Prop where
  fin : ∀ x y : Nat, (x : Int) < d.st → (y : Int) < d.st → c x = c y → hasB d.ends x = hasB d.ends y
  snd : ∀ x y : Nat, (x : Int) < d.st → (y : Int) < d.st → langS d [(x : Int)] = langS d [(y : Int)] → c x = c y
section
variable {d : Mach}
theorem sgn_iff {c : Nat → Nat} {x y : Nat} : sgn d c x = sgn d c y ↔ c x = c y ∧ ∀ e : Nat, (e : Int) < d.ev → c (toI d.arrows (x : Int) (e : Int)).toNat = c (toI d.arrows (y : Int) (e : Int)).toNat := by
  unfold sgn
  rw [Prod.mk.injEq, List.map_inj_left]
  refine and_congr Iff.rfl ⟨fun h e he => h e (List.mem_range.2 (by omega)), fun h e he => h e (by have := List.mem_range.1 he; omega)⟩
/-- The first round: by the ends alone. -/
theorem sg_first {c : Nat → Nat} (h : ∀ x y : Nat, (x : Int) < d.st → (y : Int) < d.st → (c x = c y ↔ hasB d.ends x = hasB d.ends y)) : SG d c :=
  ⟨fun x y hx hy => (h x y hx hy).1, fun x y hx hy e => (h x y hx hy).2 (by rw [← langS_nil, ← langS_nil, e])⟩
/-- Another round, whatever numbers it gives. -/
theorem sg_next (hd : detB d = true) {c c' : Nat → Nat} (h : SG d c) (hc : ∀ x y : Nat, (x : Int) < d.st → (y : Int) < d.st → (c' x = c' y ↔ sgn d c x = sgn d c y)) : SG d c' := by
  refine ⟨fun x y hx hy e => h.fin x y hx hy (sgn_iff.1 ((hc x y hx hy).1 e)).1, fun x y hx hy e => (hc x y hx hy).2 (sgn_iff.2 ⟨h.snd x y hx hy e, fun ev hev => ?_⟩)⟩
  have q1 := toI_step hd (Int.natCast_nonneg x) hx (Int.natCast_nonneg ev) hev
  have q2 := toI_step hd (Int.natCast_nonneg y) hy (Int.natCast_nonneg ev) hev
  refine h.snd _ _ (by omega) (by omega) ?_
  rw [Int.toNat_of_nonneg q1.2.1, Int.toNat_of_nonneg q2.2.1, ← langS_step hd (Int.natCast_nonneg x) hx hev, ← langS_step hd (Int.natCast_nonneg y) hy hev, e]
/-- Where a round finds no more, the classes are the languages. -/
theorem sg_last (hd : detB d = true) {c : Nat → Nat} (h : SG d c) {n : Nat} (hn : (n : Int) = d.st) (hl : (fnd c n).length = (fnd (sgn d c) n).length) : ∀ s t : Int, 0 ≤ s → s < d.st → 0 ≤ t → t < d.st → (decide (c s.toNat ≠ c t.toNat) = true ↔ langS d [s] ≠ langS d [t]) := by
  have hst := (fnd_fine (sgn d c) c n (fun x y _ _ e => (sgn_iff.1 e).1)).2 hl
  refine apart_iff hd (ap := fun s t => decide (c s.toNat ≠ c t.toNat)) (fun s t s0 s1 t0 t1 he => decide_eq_true (fun e => he ?_)) (fun s t e s0 s1 t0 t1 hev ha => decide_eq_true (fun ec => ?_)) (fun s t s0 s1 t0 t1 ha e => of_decide_eq_true ha ?_)
  · have := h.fin s.toNat t.toNat (by omega) (by omega) e
    rwa [Int.toNat_of_nonneg s0, Int.toNat_of_nonneg t0] at this
  · have := (sgn_iff.1 (hst s.toNat t.toNat (by omega) (by omega) ec)).2 e hev
    rw [Int.toNat_of_nonneg s0, Int.toNat_of_nonneg t0] at this
    exact of_decide_eq_true ha this
  · exact h.snd _ _ (by omega) (by omega) (by rwa [Int.toNat_of_nonneg s0, Int.toNat_of_nonneg t0])
/-- Equal patterns find as many. -/
theorem fnd_same {σ τ : Type} [DecidableEq σ] [DecidableEq τ] (f : Nat → σ) (g : Nat → τ) (n : Nat) (h : ∀ x y, x < n → y < n → (f x = f y ↔ g x = g y)) : (fnd f n).length = (fnd g n).length :=
  Nat.le_antisymm (fnd_fine g f n (fun x y hx hy e => (h x y hx hy).2 e)).1 (fnd_fine f g n (fun x y hx hy e => (h x y hx hy).1 e)).1
end

end Go.Proofs.YtbdkaobbfmgnhaaDoor
