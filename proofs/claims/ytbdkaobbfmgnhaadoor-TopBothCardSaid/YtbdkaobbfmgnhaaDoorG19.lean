/-
  A machine's block that is written whole; results with a machine.
  Plain: the places where two machines may be at once, and the least word that one accepts and the other one doesn't. No program, no model.
-/
import Derived.Test.YtbdkaobbfmgnhaaDoorG17
import Derived.Test.YtbdkaobbfmgnhaaDoorG03
import Derived.Test.YtbdkaobbfmgnhaaDoorG15
namespace Go.Proofs.YtbdkaobbfmgnhaaDoor
open Go.RowKit
set_option linter.unusedVariables false

theorem zcell_at {W : World} {b : Nat} {t : TypeId} (h : Blk W b t zcells) : W.cell? ⟨b, 0, none⟩ = some (.int .i64 0) ∧ W.cell? ⟨b, 1, none⟩ = some (.int .i64 0) ∧ W.cell? ⟨b, 2, none⟩ = some (.slice none 0 0) ∧ W.cell? ⟨b, 3, none⟩ = some (.slice none 0 0) ∧ W.cell? ⟨b, 4, none⟩ = some (.slice none 0 0) :=
  ⟨h.cell 0 rfl, h.cell 1 rfl, h.cell 2 rfl, h.cell 3 rfl, h.cell 4 rfl⟩
theorem Blk.other5 {W : World} {b b' : Nat} {t : TypeId} {cs : Array Value} (h : Blk W b t cs) (hne : b ≠ b') (v0 v1 v2 v3 v4 : Value) : Blk (((((W.setCell ⟨b', 0, none⟩ v0).setCell ⟨b', 1, none⟩ v1).setCell ⟨b', 2, none⟩ v2).setCell ⟨b', 3, none⟩ v3).setCell ⟨b', 4, none⟩ v4) b t cs :=
  ((((h.other hne v0).other hne v1).other hne v2).other hne v3).other hne v4

theorem Blk.set5 {W : World} {b : Nat} {t : TypeId} (h : Blk W b t zcells) (v0 v1 v2 v3 v4 : Value) : Blk (((((W.setCell ⟨b, 0, none⟩ v0).setCell ⟨b, 1, none⟩ v1).setCell ⟨b, 2, none⟩ v2).setCell ⟨b, 3, none⟩ v3).setCell ⟨b, 4, none⟩ v4) b t #[v0, v1, v2, v3, v4] :=
  ((((h.set 0 v0).set 1 v1).set 2 v2).set 3 v3).set 4 v4
theorem below_set5 {W V : World} {B b' : Nat} (h : Below B V W) (hb : B ≤ b') (v0 v1 v2 v3 v4 : Value) : Below B V (((((W.setCell ⟨b', 0, none⟩ v0).setCell ⟨b', 1, none⟩ v1).setCell ⟨b', 2, none⟩ v2).setCell ⟨b', 3, none⟩ v3).setCell ⟨b', 4, none⟩ v4) :=
  ((((h.setCell (p := ⟨b', 0, none⟩) hb v0).setCell (p := ⟨b', 1, none⟩) hb v1).setCell (p := ⟨b', 2, none⟩) hb v2).setCell (p := ⟨b', 3, none⟩) hb v3).setCell (p := ⟨b', 4, none⟩) hb v4
theorem results_three {fn : Func} {p u v : Tmp} (h : fn.results = #[.cell p 25, .tmp u, .tmp v]) (tmps : Array Value) (w : World) (g : Nat) (m : Mach) (l : ML) (x y : Value) (hp : tmps.getD p undef = .pointer (some ⟨g, 0, none⟩)) (hu : tmps.getD u undef = x) (hv : tmps.getD v undef = y) (hB : Blk w g 25 (mcells m l)) :
    (results fn tmps).run Tryd.prog w = .ok (.tuple #[mval m l, x, y]) w := by
  obtain ⟨x0, x1, x2, x3, x4⟩ := mcell_at hB
  have e : (results fn tmps).run Tryd.prog w = ((asAddr (tmps.getD p undef)).run Tryd.prog w).andThen fun a w₁ => ((loadVar 25 a).run Tryd.prog w₁).andThen fun r w₂ => .ok (.tuple #[r, tmps.getD u undef, tmps.getD v undef]) w₂ := by
    simp only [results, h]
    simp [Sem.run_bind, Result.andThen]
  rw [e, hp, hu, hv]
  go_simp

abbrev m0 : Mach := ⟨0, 0, [], [], []⟩
abbrev ml0 : ML := ⟨none, 0, none, 0, none, 0⟩

end Go.Proofs.YtbdkaobbfmgnhaaDoor
namespace Go.Proofs.YtbdkaobbfmgnhaaDoor
open Go.RowKit
set_option linter.unusedVariables false
set_option linter.unusedSectionVars false

/-! How many increasing lists there are. -/
theorem nodup_sub {α : Type} [DecidableEq α] : ∀ {l m : List α}, l.Nodup → (∀ x ∈ l, x ∈ m) → l.length ≤ m.length
  | [], m, _, _ => Nat.zero_le _
  | x :: r, m, hn, hs => by
    rw [List.nodup_cons] at hn
    have hx := hs x (by simp)
    have ih := nodup_sub (l := r) (m := m.erase x) hn.2 (fun y hy => by
      have hne : y ≠ x := fun e => hn.1 (e ▸ hy)
      exact (List.mem_erase_of_ne hne).2 (hs y (by simp [hy])))
    rw [List.length_erase_of_mem hx] at ih
    have := List.length_pos_of_mem hx
    rw [List.length_cons]; omega
def subs : Nat → List (List Int)
  | 0 => [[]]
  | n + 1 => subs n ++ (subs n).map (· ++ [(n : Int)])
theorem subs_len : ∀ n, (subs n).length = 2 ^ n
  | 0 => rfl
  | n + 1 => by rw [subs, List.length_append, List.length_map, subs_len n, Nat.pow_succ]; omega
theorem mem_subs : ∀ (n : Nat) (l : List Int), Inc l → (∀ x ∈ l, 0 ≤ x ∧ x < (n : Int)) → l ∈ subs n
  | 0, l, _, h => by
    have : l = [] := by
      cases l with
      | nil => rfl
      | cons x r => have := h x (by simp); omega
    subst this; simp [subs]
  | n + 1, l, hi, h => by
    rw [subs, List.mem_append, List.mem_map]
    by_cases hn : (n : Int) ∈ l
    · right
      have hne : l ≠ [] := fun e => by rw [e] at hn; simp at hn
      obtain ⟨v, z, e⟩ : ∃ v z, l = v ++ [z] := ⟨_, _, (List.dropLast_concat_getLast hne).symm⟩
      subst e
      unfold Inc at hi
      rw [List.pairwise_append] at hi
      have hz := h z (by simp)
      have hzn : z = (n : Int) := by
        rcases List.mem_append.1 hn with h1 | h1
        · have := hi.2.2 _ h1 z (by simp); omega
        · have : (n : Int) = z := by simpa using h1
          exact this.symm
      subst hzn
      refine ⟨v, mem_subs n v hi.1 (fun x hx => ?_), rfl⟩
      have h1 := hi.2.2 x hx _ (by simp : (n : Int) ∈ [(n : Int)])
      have h2 := h x (by simp [hx])
      omega
    · left
      refine mem_subs n l hi (fun x hx => ?_)
      have h1 := h x hx
      have : x ≠ (n : Int) := fun e => hn (e ▸ hx)
      omega
def prodL {α β : Type} : List α → List β → List (α × β)
  | [], _ => []
  | x :: r, m => m.map (fun y => (x, y)) ++ prodL r m
theorem prodL_len {α β : Type} (m : List β) : ∀ l : List α, (prodL l m).length = l.length * m.length
  | [] => by simp [prodL]
  | x :: r => by rw [prodL, List.length_append, List.length_map, prodL_len m r, List.length_cons, Nat.add_mul]; omega
theorem mem_prodL {α β : Type} {x : α} {y : β} {m : List β} (hy : y ∈ m) : ∀ {l : List α}, x ∈ l → (x, y) ∈ prodL l m
  | [], h => by simp at h
  | z :: r, h => by
    rw [prodL, List.mem_append]
    rcases List.mem_cons.1 h with rfl | h
    · exact .inl (List.mem_map.2 ⟨y, hy, rfl⟩)
    · exact .inr (mem_prodL hy h)

/-! The search ends. -/
section
variable {σ : Type} [DecidableEq σ] {δ : σ → Nat → σ}
theorem bi_wlen {s0 : σ} {ev k n : Nat} {l : List (σ × List Int)} (h : BI δ s0 ev k n l) : ∀ (j : Nat) (p : σ × List Int), l[j]? = some p → p.2.length ≤ j := by
  intro j
  induction j using Nat.strongRecOn with
  | _ j ih =>
    intro p hp
    rcases h.top p (List.mem_of_getElem? hp) with h0 | ⟨i, x, e, hx, h1, -⟩
    · rw [h0]; simp
    · have hl : p.2.length = x.2.length + 1 := by rw [h1]; simp
      have hlt := (List.getElem?_eq_some_iff.1 hp).1
      have hlx := (List.getElem?_eq_some_iff.1 hx).1
      have hij : i < j := by
        rcases Nat.lt_trichotomy i j with h2 | h2 | h2
        · exact h2
        · subst h2; rw [hx] at hp; have := Option.some.inj hp; subst this; omega
        · have := List.pairwise_iff_getElem.1 h.inc j i hlt hlx h2
          rw [(List.getElem?_eq_some_iff.1 hx).2, (List.getElem?_eq_some_iff.1 hp).2] at this
          have := lessB_len this; omega
      have := ih i hij x hx
      omega
theorem bi_end {s0 : σ} {ev N : Nat} (hN : ∀ (k n : Nat) (l : List (σ × List Int)), BI δ s0 ev k n l → l.length ≤ N) : ∀ (f k : Nat) (l : List (σ × List Int)), BI δ s0 ev k 0 l → k ≤ l.length → N < f + k → BI δ s0 ev (bfGo δ ev f k l).length 0 (bfGo δ ev f k l)
  | 0, k, l, h, hk, hf => by have := hN _ _ _ h; omega
  | f + 1, k, l, h, hk, hf => by
    cases hx : l[k]? with
    | none =>
      have e : bfGo δ ev (f + 1) k l = l := by unfold bfGo; rw [hx]
      have : k = l.length := by have := List.getElem?_eq_none_iff.1 hx; omega
      rw [e]; rw [this] at h; exact h
    | some x =>
      have e : bfGo δ ev (f + 1) k l = bfGo δ ev f (k + 1) (bfRow δ x l ev) := by rw [bfGo, hx]
      rw [e]
      have hlt := (List.getElem?_eq_some_iff.1 hx).1
      obtain ⟨t, ht⟩ := bfRow_pre δ x l ev
      exact bi_end hN f (k + 1) _ (bi_next δ h hx) (by rw [ht, List.length_append]; omega) (by omega)
end

/-! Two machines at once. -/
/-- Where both lead. -/
def bothD (A B : List Arr) (s : List Int × List Int) (e : Nat) : List Int × List Int := (stepL A s.1 (e : Int), stepL B s.2 (e : Int))
theorem bothD_run (A B : List Arr) : ∀ (u : List Int) (x y : List Int), (∀ e ∈ u, 0 ≤ e) → runF (bothD A B) (x, y) u = (afterL A x u, afterL B y u)
  | [], x, y, _ => rfl
  | e :: u, x, y, h => by
    have he : ((e.toNat : Nat) : Int) = e := by have := h e (by simp); omega
    show runF (bothD A B) (bothD A B (x, y) e.toNat) u = _
    unfold bothD
    rw [he]
    exact bothD_run A B u _ _ (fun z hz => h z (by simp [hz]))
theorem afterIn {m : Mach} (hm : mayB m = true) : ∀ (u l : List Int), (Inc l ∧ ∀ x ∈ l, 0 ≤ x ∧ x < m.st) → Inc (afterL m.arrows l u) ∧ ∀ x ∈ afterL m.arrows l u, 0 ≤ x ∧ x < m.st
  | [], l, h => h
  | e :: u, l, _ => afterIn hm u _ (stepIn hm l e)
/-- The places, the lesser words ahead. -/
def plcAll (a b : Mach) : List ((List Int × List Int) × List Int) := bfGo (bothD a.arrows b.arrows) a.ev.toNat 4097 0 [((a.starts, b.starts), [])]
theorem plc_bound {a b : Mach} (ha : mayB a = true) (hb : mayB b = true) (za : a.st ≤ 6) (zb : b.st ≤ 6) {ev k n : Nat} {l : List ((List Int × List Int) × List Int)} (h : BI (bothD a.arrows b.arrows) (a.starts, b.starts) ev k n l) : l.length ≤ 4096 := by
  have h1 := nodup_sub (m := prodL (subs 6) (subs 6)) h.nd (fun s hs => by
    obtain ⟨p, hp, rfl⟩ := List.mem_map.1 hs
    obtain ⟨e1, e2⟩ := h.run p hp
    rw [bothD_run _ _ _ _ _ (fun e he => (e2 e he).1)] at e1
    have i1 := afterIn ha p.2 _ (may_starts ha)
    have i2 := afterIn hb p.2 _ (may_starts hb)
    rw [e1]
    exact mem_prodL (mem_subs 6 _ i2.1 (fun x hx => by have := i2.2 x hx; omega)) (mem_subs 6 _ i1.1 (fun x hx => by have := i1.2 x hx; omega)))
  rw [List.length_map, prodL_len, subs_len] at h1
  exact h1
theorem plc_all {a b : Mach} (ha : mayB a = true) (hb : mayB b = true) (za : a.st ≤ 6) (zb : b.st ≤ 6) : BI (bothD a.arrows b.arrows) (a.starts, b.starts) a.ev.toNat (plcAll a b).length 0 (plcAll a b) :=
  bi_end (N := 4096) (fun k n l h => plc_bound ha hb za zb h) 4097 0 _ (bi_start _ _ _) (Nat.zero_le _) (by omega)

/-- Is a place where the one may end, and the other one not? -/
def outP (a b : Mach) (p : (List Int × List Int) × List Int) : Bool := decide (0 < (p.1.1.filter fun n => hasB a.ends n == true).length) && decide ((p.1.2.filter fun n => hasB b.ends n == true).length = 0)
/-- The least word that a accepts and b does not. -/
def outW (a b : Mach) : Option (List Int) := ((plcAll a b).find? (outP a b)).map (·.2)
/-- Is a word of the one, and not of the other one? -/
def betw (a b : Mach) (u : List Int) : Bool := acceptsB a u && !acceptsB b u
theorem outP_run {a b : Mach} {p : (List Int × List Int) × List Int} (h : p.1 = runF (bothD a.arrows b.arrows) (a.starts, b.starts) p.2) (hu : ∀ e ∈ p.2, 0 ≤ e) (u : List Int) (hu' : ∀ e ∈ u, 0 ≤ e) (he : p.1 = runF (bothD a.arrows b.arrows) (a.starts, b.starts) u) : outP a b p = betw a b u := by
  rw [bothD_run _ _ _ _ _ hu'] at he
  unfold outP betw acceptsB acceptsL
  rw [he]
  dsimp only
  congr 1
  rw [← decide_not]
  exact decide_eq_decide.2 (by omega)
theorem outW_none {a b : Mach} (ha : mayB a = true) (hb : mayB b = true) (za : a.st ≤ 6) (zb : b.st ≤ 6) (h : outW a b = none) (u : List Int) (hu : ∀ e ∈ u, 0 ≤ e ∧ e < a.ev) : betw a b u = false := by
  have hI := plc_all ha hb za zb
  have hev : ((a.ev.toNat : Nat) : Int) = a.ev := by have := mayB_size ha; unfold sizeOk at this; omega
  obtain ⟨p, hp, e1, -⟩ := bi_all _ hI u (by rw [hev]; exact hu)
  unfold outW at h
  rw [Option.map_eq_none_iff, List.find?_eq_none] at h
  have h1 := h p hp
  have hr := hI.run p hp
  rw [outP_run hr.1 (fun e he => (hr.2 e he).1) u (fun e he => (hu e he).1) e1] at h1
  simpa using h1
theorem outW_some {a b : Mach} (ha : mayB a = true) (hb : mayB b = true) (za : a.st ≤ 6) (zb : b.st ≤ 6) {v : List Int} (h : outW a b = some v) : betw a b v = true ∧ (∀ e ∈ v, 0 ≤ e ∧ e < a.ev) ∧ v.length ≤ 4096 ∧ ∀ u : List Int, (∀ e ∈ u, 0 ≤ e ∧ e < a.ev) → betw a b u = true → lessB u v = false := by
  have hI := plc_all ha hb za zb
  have hev : ((a.ev.toNat : Nat) : Int) = a.ev := by have := mayB_size ha; unfold sizeOk at this; omega
  unfold outW at h
  rw [Option.map_eq_some_iff] at h
  obtain ⟨p, hp, rfl⟩ := h
  have hpo := List.find?_some hp
  rw [List.find?_eq_some_iff_getElem] at hp
  obtain ⟨-, i, hi, e0, hlow⟩ := hp
  have hpi : (plcAll a b)[i]? = some p := by rw [List.getElem?_eq_getElem hi, e0]
  have hpm := List.mem_of_getElem? hpi
  have hr := hI.run p hpm
  rw [hev] at hr
  have hbd := plc_bound ha hb za zb hI
  refine ⟨?_, hr.2, ?_, fun u hu hb' => ?_⟩
  · rw [← outP_run hr.1 (fun e he => (hr.2 e he).1) p.2 (fun e he => (hr.2 e he).1) hr.1]; exact hpo
  · have := bi_wlen hI i p hpi; omega
  · obtain ⟨q, hq, e1, e2⟩ := bi_all _ hI u (by rw [hev]; exact hu)
    have hrq := hI.run q hq
    have hqo : outP a b q = true := by rw [outP_run hrq.1 (fun e he => (hrq.2 e he).1) u (fun e he => (hu e he).1) e1]; exact hb'
    obtain ⟨j, hj⟩ := List.mem_iff_getElem?.1 hq
    have hjl := (List.getElem?_eq_some_iff.1 hj).1
    have hqe := (List.getElem?_eq_some_iff.1 hj).2
    have hij : i ≤ j := by
      rcases Nat.lt_or_ge j i with h1 | h1
      · have := hlow j h1
        rw [hqe, hqo] at this; simp at this
      · exact h1
    have hle : leW p.2 q.2 := by
      rcases Nat.lt_or_ge i j with h1 | h1
      · have := List.pairwise_iff_getElem.1 hI.inc i j hi hjl h1
        rw [hqe, e0] at this
        exact .inr this
      · have : i = j := by omega
        subst this
        rw [hpi] at hj
        have := Option.some.inj hj
        subst this
        exact leW_refl _
    exact leW_not (leW_trans hle e2)

end Go.Proofs.YtbdkaobbfmgnhaaDoor
