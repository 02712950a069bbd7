/-
  machine.Leader, of whatever machine may be.
  What a closure that leads two machines on knows; blocks of different types lie apart.
  Plain: the places where two machines may be at once, and the least word that one accepts and the other one doesn't. No program, no model.
-/
import Derived.Test.YtgebfkmfhpcdhaaDoorCLead
import Derived.Test.YtgebfkmfhpcdhaaDoorG14
import Derived.Test.YtgebfkmfhpcdhaaDoorG03
import Derived.Test.YtgebfkmfhpcdhaaDoorG15
namespace Go.Proofs.YtgebfkmfhpcdhaaDoor
open Go.RowKit
set_option linter.unusedVariables false

/-- What machine.Leader answers, of what may be. -/
theorem leader_any (m : Mach) (l : ML) (w : World) (hm : mayB m = true) (h : MAt w m l) :
    Calls Tryd.prog 107 #[mval m l] w fun e w' => ∃ L, e = .returned (leadV L) ∧ LD w' L m.ev.toNat (m.st.toNat * m.ev.toNat) (tabS m.ev.toNat m.arrows) ∧ L.all (w.heap.size ≤ ·) ∧ Below w.heap.size w w' := by
  have hz := mayB_size hm
  have ha := arrsFrom_in (mayB_arrs hm)
  obtain ⟨st, ev, starts, arrows, ends⟩ := m
  obtain ⟨z1, z2, z3, z4, z5⟩ := hz
  simp only at z1 z2 z3 z4 z5 ha
  obtain ⟨s, rfl⟩ : ∃ s : Nat, st = (s : Int) := ⟨st.toNat, by omega⟩
  obtain ⟨e, rfl⟩ : ∃ e : Nat, ev = (e : Int) := ⟨ev.toNat, by omega⟩
  obtain ⟨a1, c1, a2, c2, a3, c3⟩ := l
  simp only [Int.toNat_natCast]
  exact leader_go s e starts arrows ends a1 c1 a2 c2 a3 c3 w (Hid.of h) (Hid.of hm) (by omega) (by omega) z5 (Hid.of ha)

theorem LD.other4 {W : World} {L : LB} {b' ev N : Nat} {T : Nat → Nat → Nat} (h : LD W L ev N T) (hn : L.all (· ≠ b')) (v0 v1 v2 v3 : Value) : LD ((((W.setCell ⟨b', 0, none⟩ v0).setCell ⟨b', 1, none⟩ v1).setCell ⟨b', 2, none⟩ v2).setCell ⟨b', 3, none⟩ v3) L ev N T := by
  obtain ⟨cs, c1, c2, c3⟩ := h.tab
  exact ⟨Blk.other4' h.is 0 hn.1 v0 v1 v2 v3, Blk.other4' h.evb 0 hn.2.1 v0 v1 v2 v3, Blk.other4' h.to 0 hn.2.2.1 v0 v1 v2 v3, ⟨cs, Blk.other4' c1 0 hn.2.2.2.1 v0 v1 v2 v3, c2, c3⟩, Blk.other4' h.bd 0 hn.2.2.2.2 v0 v1 v2 v3⟩
end Go.Proofs.YtgebfkmfhpcdhaaDoor
namespace Go.Proofs.YtgebfkmfhpcdhaaDoor
open Go.RowKit
set_option linter.unusedVariables false

structure WL (W : World) (pA pB : Nat) (LA LC : LB) (ev sa sb : Nat) (TA TC : Nat → Nat → Nat) : Prop where
  ca : Blk W pA 111 #[leadV LA]
  cb : Blk W pB 111 #[leadV LC]
  la : LD W LA ev (sa * ev) TA
  lb : LD W LC ev (sb * ev) TC
theorem WL.kept {W W' : World} {pA pB : Nat} {LA LC : LB} {ev sa sb : Nat} {TA TC : Nat → Nat → Nat} (h : WL W pA pB LA LC ev sa sb TA TC) (hb : Below W.heap.size W W') : WL W' pA pB LA LC ev sa sb TA TC :=
  ⟨h.ca.below hb h.ca.lt, h.cb.below hb h.cb.lt, h.la.kept hb, h.lb.kept hb⟩
theorem blk_apart {W : World} {p q : Nat} {t t' : TypeId} {cs cs' : Array Value} (h : Blk W p t cs) (h' : Blk W q t' cs') (hn : t ≠ t') : p ≠ q := fun e => by
  have h1 : W.heap[p]? = some (.cells cs t (0, 0)) := h
  have h2 : W.heap[q]? = some (.cells cs' t' (0, 0)) := h'
  rw [e, h2] at h1
  cases h1; exact hn rfl
theorem LD.setF {W : World} {L : LB} {ev N p : Nat} {T : Nat → Nat → Nat} {v : Value} {cs : Array Value} (h : LD W L ev N T) (hp : Blk W p 111 cs) : LD (W.setCell ⟨p, 0, none⟩ v) L ev N T := by
  obtain ⟨cs', h1, h2, h3⟩ := h.tab
  exact ⟨Blk.other h.is (blk_apart h.is hp (by decide)) v, Blk.other h.evb (blk_apart h.evb hp (by decide)) v, Blk.other h.to (blk_apart h.to hp (by decide)) v, ⟨cs', h1.other (blk_apart h1 hp (by decide)) v, h2, h3⟩, Blk.other h.bd (blk_apart h.bd hp (by decide)) v⟩

end Go.Proofs.YtgebfkmfhpcdhaaDoor
namespace Go.Proofs.YtgebfkmfhpcdhaaDoor
open Go.RowKit
set_option linter.unusedVariables false
set_option linter.unusedSectionVars false

/-! How many increasing lists there are. -/
theorem nodup_sub {α : Type} [DecidableEq α] : ∀ {l m : List α}, l.Nodup → (∀ x ∈ l, x ∈ m) → l.length ≤ m.length
  | [], m, _, _ => Nat.zero_le _
  | x :: r, m, hn, hs => by
    rw [List.nodup_cons] at hn
    have hx := hs x (by simp)
    have ih := nodup_sub (l := r) (m := m.erase x) hn.2 (fun y hy => by
      have hne : y ≠ x := fun e => hn.1 (e ▸ hy)
      exact (List.mem_erase_of_ne hne).2 (hs y (by simp [hy])))
    rw [List.length_erase_of_mem hx] at ih
    have := List.length_pos_of_mem hx
    rw [List.length_cons]; omega
def subs : Nat → List (List Int)
  | 0 => [[]]
  | n + 1 => subs n ++ (subs n).map (· ++ [(n : Int)])
theorem subs_len : ∀ n, (subs n).length = 2 ^ n
  | 0 => rfl
  | n + 1 => by rw [subs, List.length_append, List.length_map, subs_len n, Nat.pow_succ]; omega
theorem mem_subs : ∀ (n : Nat) (l : List Int), Inc l → (∀ x ∈ l, 0 ≤ x ∧ x < (n : Int)) → l ∈ subs n
  | 0, l, _, h => by
    have : l = [] := by
      cases l with
      | nil => rfl
      | cons x r => have := h x (by simp); omega
    subst this; simp [subs]
  | n + 1, l, hi, h => by
    rw [subs, List.mem_append, List.mem_map]
    by_cases hn : (n : Int) ∈ l
    · right
      have hne : l ≠ [] := fun e => by rw [e] at hn; simp at hn
      obtain ⟨v, z, e⟩ : ∃ v z, l = v ++ [z] := ⟨_, _, (List.dropLast_concat_getLast hne).symm⟩
      subst e
      unfold Inc at hi
      rw [List.pairwise_append] at hi
      have hz := h z (by simp)
      have hzn : z = (n : Int) := by
        rcases List.mem_append.1 hn with h1 | h1
        · have := hi.2.2 _ h1 z (by simp); omega
        · have : (n : Int) = z := by simpa using h1
          exact this.symm
      subst hzn
      refine ⟨v, mem_subs n v hi.1 (fun x hx => ?_), rfl⟩
      have h1 := hi.2.2 x hx _ (by simp : (n : Int) ∈ [(n : Int)])
      have h2 := h x (by simp [hx])
      omega
    · left
      refine mem_subs n l hi (fun x hx => ?_)
      have h1 := h x hx
      have : x ≠ (n : Int) := fun e => hn (e ▸ hx)
      omega
def prodL {α β : Type} : List α → List β → List (α × β)
  | [], _ => []
  | x :: r, m => m.map (fun y => (x, y)) ++ prodL r m
theorem prodL_len {α β : Type} (m : List β) : ∀ l : List α, (prodL l m).length = l.length * m.length
  | [] => by simp [prodL]
  | x :: r => by rw [prodL, List.length_append, List.length_map, prodL_len m r, List.length_cons, Nat.add_mul]; omega
theorem mem_prodL {α β : Type} {x : α} {y : β} {m : List β} (hy : y ∈ m) : ∀ {l : List α}, x ∈ l → (x, y) ∈ prodL l m
  | [], h => by simp at h
  | z :: r, h => by
    rw [prodL, List.mem_append]
    rcases List.mem_cons.1 h with rfl | h
    · exact .inl (List.mem_map.2 ⟨y, hy, rfl⟩)
    · exact .inr (mem_prodL hy h)

/-! The search ends. -/
section
variable {σ : Type} [DecidableEq σ] {δ : σ → Nat → σ}
theorem bi_wlen {s0 : σ} {ev k n : Nat} {l : List (σ × List Int)} (h : BI δ s0 ev k n l) : ∀ (j : Nat) (p : σ × List Int), l[j]? = some p → p.2.length ≤ j := by
  intro j
  induction j using Nat.strongRecOn with
  | _ j ih =>
    intro p hp
    rcases h.top p (List.mem_of_getElem? hp) with h0 | ⟨i, x, e, hx, h1, -⟩
    · rw [h0]; simp
    · have hl : p.2.length = x.2.length + 1 := by rw [h1]; simp
      have hlt := (List.getElem?_eq_some_iff.1 hp).1
      have hlx := (List.getElem?_eq_some_iff.1 hx).1
      have hij : i < j := by
        rcases Nat.lt_trichotomy i j with h2 | h2 | h2
        · exact h2
        · subst h2; rw [hx] at hp; have := Option.some.inj hp; subst this; omega
        · have := List.pairwise_iff_getElem.1 h.inc j i hlt hlx h2
          rw [(List.getElem?_eq_some_iff.1 hx).2, (List.getElem?_eq_some_iff.1 hp).2] at this
          have := lessB_len this; omega
      have := ih i hij x hx
      omega
theorem bi_end {s0 : σ} {ev N : Nat} (hN : ∀ (k n : Nat) (l : List (σ × List Int)), BI δ s0 ev k n l → l.length ≤ N) : ∀ (f k : Nat) (l : List (σ × List Int)), BI δ s0 ev k 0 l → k ≤ l.length → N < f + k → BI δ s0 ev (bfGo δ ev f k l).length 0 (bfGo δ ev f k l)
  | 0, k, l, h, hk, hf => by have := hN _ _ _ h; omega
  | f + 1, k, l, h, hk, hf => by
    cases hx : l[k]? with
    | none =>
      have e : bfGo δ ev (f + 1) k l = l := by unfold bfGo; rw [hx]
      have : k = l.length := by have := List.getElem?_eq_none_iff.1 hx; omega
      rw [e]; rw [this] at h; exact h
    | some x =>
      have e : bfGo δ ev (f + 1) k l = bfGo δ ev f (k + 1) (bfRow δ x l ev) := by rw [bfGo, hx]
      rw [e]
      have hlt := (List.getElem?_eq_some_iff.1 hx).1
      obtain ⟨t, ht⟩ := bfRow_pre δ x l ev
      exact bi_end hN f (k + 1) _ (bi_next δ h hx) (by rw [ht, List.length_append]; omega) (by omega)
end

/-! Two machines at once. -/
/-- Where both lead. -/
def bothD (A B : List Arr) (s : List Int × List Int) (e : Nat) : List Int × List Int := (stepL A s.1 (e : Int), stepL B s.2 (e : Int))
theorem bothD_run (A B : List Arr) : ∀ (u : List Int) (x y : List Int), (∀ e ∈ u, 0 ≤ e) → runF (bothD A B) (x, y) u = (afterL A x u, afterL B y u)
  | [], x, y, _ => rfl
  | e :: u, x, y, h => by
    have he : ((e.toNat : Nat) : Int) = e := by have := h e (by simp); omega
    show runF (bothD A B) (bothD A B (x, y) e.toNat) u = _
    unfold bothD
    rw [he]
    exact bothD_run A B u _ _ (fun z hz => h z (by simp [hz]))
theorem afterIn {m : Mach} (hm : mayB m = true) : ∀ (u l : List Int), (Inc l ∧ ∀ x ∈ l, 0 ≤ x ∧ x < m.st) → Inc (afterL m.arrows l u) ∧ ∀ x ∈ afterL m.arrows l u, 0 ≤ x ∧ x < m.st
  | [], l, h => h
  | e :: u, l, _ => afterIn hm u _ (stepIn hm l e)
/-- The places, the lesser words ahead. -/
def plcAll (a b : Mach) : List ((List Int × List Int) × List Int) := bfGo (bothD a.arrows b.arrows) a.ev.toNat 4097 0 [((a.starts, b.starts), [])]
theorem plc_bound {a b : Mach} (ha : mayB a = true) (hb : mayB b = true) (za : a.st ≤ 6) (zb : b.st ≤ 6) {ev k n : Nat} {l : List ((List Int × List Int) × List Int)} (h : BI (bothD a.arrows b.arrows) (a.starts, b.starts) ev k n l) : l.length ≤ 4096 := by
  have h1 := nodup_sub (m := prodL (subs 6) (subs 6)) h.nd (fun s hs => by
    obtain ⟨p, hp, rfl⟩ := List.mem_map.1 hs
    obtain ⟨e1, e2⟩ := h.run p hp
    rw [bothD_run _ _ _ _ _ (fun e he => (e2 e he).1)] at e1
    have i1 := afterIn ha p.2 _ (may_starts ha)
    have i2 := afterIn hb p.2 _ (may_starts hb)
    rw [e1]
    exact mem_prodL (mem_subs 6 _ i2.1 (fun x hx => by have := i2.2 x hx; omega)) (mem_subs 6 _ i1.1 (fun x hx => by have := i1.2 x hx; omega)))
  rw [List.length_map, prodL_len, subs_len] at h1
  exact h1
theorem plc_all {a b : Mach} (ha : mayB a = true) (hb : mayB b = true) (za : a.st ≤ 6) (zb : b.st ≤ 6) : BI (bothD a.arrows b.arrows) (a.starts, b.starts) a.ev.toNat (plcAll a b).length 0 (plcAll a b) :=
  bi_end (N := 4096) (fun k n l h => plc_bound ha hb za zb h) 4097 0 _ (bi_start _ _ _) (Nat.zero_le _) (by omega)

/-- Is a place where the one may end, and the other one not? -/
def outP (a b : Mach) (p : (List Int × List Int) × List Int) : Bool := decide (0 < (p.1.1.filter fun n => hasB a.ends n == true).length) && decide ((p.1.2.filter fun n => hasB b.ends n == true).length = 0)
/-- The least word that a accepts and b does not. -/
def outW (a b : Mach) : Option (List Int) := ((plcAll a b).find? (outP a b)).map (·.2)
end Go.Proofs.YtgebfkmfhpcdhaaDoor
