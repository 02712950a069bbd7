/-
  What a closure that leads two machines on knows; blocks of different types lie apart.
  slices.Reverse at lists of integers, in our words.
  Plain: the places where two machines may be at once, and the least word that one accepts and the other one doesn't. No program, no model.
  The walk of jalousieref7.Within.
  A map keyed by pairs of sets of states, and rows of places, as the model runs them.
  The walks of the closures of package within.
-/
import Derived.Test.YtdnglodemkeooaaDoorG11
import Derived.Test.YtdnglodemkeooaaDoorG03
import Derived.Test.YtdnglodemkeooaaDoorG23
import Derived.Test.YtdnglodemkeooaaDoorG53
import Derived.Deep.RegionHeld3
import Derived.Deep.RegionWith
import Derived.BigQuiet
import Derived.Test.YtdnglodemkeooaaDoorG07
import Derived.Test.YtdnglodemkeooaaDoorCOwnMore
import Derived.Test.YtdnglodemkeooaaDoorG04
import Derived.Test.YtdnglodemkeooaaDoorCAppInts
import Derived.Test.YtdnglodemkeooaaDoorCTrimBase
import Derived.Test.YtdnglodemkeooaaDoorG18
import Derived.Test.YtdnglodemkeooaaDoorCRefMay
import Derived.Test.YtdnglodemkeooaaDoorG16
import Derived.Test.YtdnglodemkeooaaDoorCSetOps
namespace Go.Proofs.YtdnglodemkeooaaDoor
open Go.RowKit
set_option linter.unusedVariables false

structure WL (W : World) (pA pB : Nat) (LA LC : LB) (ev sa sb : Nat) (TA TC : Nat → Nat → Nat) : Prop where
  ca : Blk W pA 99 #[leadV LA]
  cb : Blk W pB 99 #[leadV LC]
  la : LD W LA ev (sa * ev) TA
  lb : LD W LC ev (sb * ev) TC
theorem WL.kept {W W' : World} {pA pB : Nat} {LA LC : LB} {ev sa sb : Nat} {TA TC : Nat → Nat → Nat} (h : WL W pA pB LA LC ev sa sb TA TC) (hb : Below W.heap.size W W') : WL W' pA pB LA LC ev sa sb TA TC :=
  ⟨h.ca.below hb h.ca.lt, h.cb.below hb h.cb.lt, h.la.kept hb, h.lb.kept hb⟩
theorem blk_apart {W : World} {p q : Nat} {t t' : TypeId} {cs cs' : Array Value} (h : Blk W p t cs) (h' : Blk W q t' cs') (hn : t ≠ t') : p ≠ q := fun e => by
  have h1 : W.heap[p]? = some (.cells cs t (0, 0)) := h
  have h2 : W.heap[q]? = some (.cells cs' t' (0, 0)) := h'
  rw [e, h2] at h1
  cases h1; exact hn rfl
theorem LD.setF {W : World} {L : LB} {ev N p : Nat} {T : Nat → Nat → Nat} {v : Value} {cs : Array Value} (h : LD W L ev N T) (hp : Blk W p 99 cs) : LD (W.setCell ⟨p, 0, none⟩ v) L ev N T := by
  obtain ⟨cs', h1, h2, h3⟩ := h.tab
  exact ⟨Blk.other h.is (blk_apart h.is hp (by decide)) v, Blk.other h.evb (blk_apart h.evb hp (by decide)) v, Blk.other h.to (blk_apart h.to hp (by decide)) v, ⟨cs', h1.other (blk_apart h1 hp (by decide)) v, h2, h3⟩, Blk.other h.bd (blk_apart h.bd hp (by decide)) v⟩

end Go.Proofs.YtdnglodemkeooaaDoor
namespace Go.Proofs.YtdnglodemkeooaaDoor
open Go.RowKit Go.Shelf Go.Lib Go.Sort
set_option linter.unusedVariables false

/-- A list of the call's own, reversed in place. -/
theorem revI_any (W : World) (B : Nat) (v : Value) (xs : List Int) (h : Own W B v xs) (hl : xs.length ≤ 17592186044416) :
    Calls Tryd.prog 143 #[v] W fun e W' => e = .returned (.tuple #[]) ∧ Own W' B v xs.reverse ∧ ∀ B0 w0, B0 ≤ B → Below B0 w0 W → Below B0 w0 W' := by
  have h' := h
  rcases h.2 with ⟨h0, h1⟩ | ⟨g, cap, cur, rfl, hg, hh, hnc, hcm, hcs, ht⟩
  · subst h0
    have hx : xs = [] := List.eq_nil_of_length_eq_zero h1
    subst hx
    refine (Any.slices_Reverse_int_empty Tryd.revI none 0 W).mono ?_
    rintro e W' ⟨rfl, rfl⟩
    exact ⟨rfl, h', fun _ _ _ h => h⟩
  · have hbk : g < W.heap.size := (Array.getElem?_eq_some_iff.1 hh).1
    have hH : Holds (Value.int .i64) W g 0 xs.toArray := fun j hj => by
      have hj' : j < xs.length := by simpa using hj
      have e1 : (cur.toList.take (xs.length * 1))[j]? = (xs.map (Value.int .i64))[j]? := by rw [ht]
      rw [List.getElem?_take_of_lt (by omega), Array.getElem?_toList, List.getElem?_map, List.getElem?_eq_getElem hj'] at e1
      refine ⟨?_, ?_⟩
      · simp [World.cell?, hh, e1, hj']
      · simp [World.frozen?, hh]
    refine (Any.slices_Reverse_int Tryd.revI g 0 cap xs W hH (by omega)).mono ?_
    rintro e W' ⟨rfl, n, rfl⟩
    have hSl : xs.reverse.length = xs.length := List.length_reverse
    refine ⟨rfl, ?_, ?_⟩
    · unfold Own
      rw [hSl]
      refine ⟨by simp, .inr ⟨g, cap, putCells (Value.int .i64) 0 xs.reverse.toArray cur, rfl, hg, ?_, hnc, hcm, by simp [putCells, hcs], ?_⟩⟩
      · rw [putRowI_heap, if_pos rfl]
        show Option.map _ (W.heap[g]?) = _
        rw [hh]; rfl
      · rw [Nat.mul_one, ← hSl]
        exact putI_take cur _ (by omega)
    · intro B0 w0 hB hb
      refine ⟨hb.os, hb.tape, hb.output, ?_, fun k hk => ?_⟩
      · refine Nat.le_trans hb.size ?_
        rw [size_putRow]; exact Nat.le_refl _
      · have hkg : g ≠ k := by omega
        rw [putRowI_heap, if_neg hkg]
        exact hb.block k hk

end Go.Proofs.YtdnglodemkeooaaDoor
namespace Go.Proofs.YtdnglodemkeooaaDoor
open Go.RowKit
set_option linter.unusedVariables false
set_option linter.unusedSectionVars false

/-! How many increasing lists there are. -/
theorem nodup_sub {α : Type} [DecidableEq α] : ∀ {l m : List α}, l.Nodup → (∀ x ∈ l, x ∈ m) → l.length ≤ m.length
  | [], m, _, _ => Nat.zero_le _
  | x :: r, m, hn, hs => by
    rw [List.nodup_cons] at hn
    have hx := hs x (by simp)
    have ih := nodup_sub (l := r) (m := m.erase x) hn.2 (fun y hy => by
      have hne : y ≠ x := fun e => hn.1 (e ▸ hy)
      exact (List.mem_erase_of_ne hne).2 (hs y (by simp [hy])))
    rw [List.length_erase_of_mem hx] at ih
    have := List.length_pos_of_mem hx
    rw [List.length_cons]; omega
def subs : Nat → List (List Int)
  | 0 => [[]]
  | n + 1 => subs n ++ (subs n).map (· ++ [(n : Int)])
theorem subs_len : ∀ n, (subs n).length = 2 ^ n
  | 0 => rfl
  | n + 1 => by rw [subs, List.length_append, List.length_map, subs_len n, Nat.pow_succ]; omega
theorem mem_subs : ∀ (n : Nat) (l : List Int), Inc l → (∀ x ∈ l, 0 ≤ x ∧ x < (n : Int)) → l ∈ subs n
  | 0, l, _, h => by
    have : l = [] := by
      cases l with
      | nil => rfl
      | cons x r => have := h x (by simp); omega
    subst this; simp [subs]
  | n + 1, l, hi, h => by
    rw [subs, List.mem_append, List.mem_map]
    by_cases hn : (n : Int) ∈ l
    · right
      have hne : l ≠ [] := fun e => by rw [e] at hn; simp at hn
      obtain ⟨v, z, e⟩ : ∃ v z, l = v ++ [z] := ⟨_, _, (List.dropLast_concat_getLast hne).symm⟩
      subst e
      unfold Inc at hi
      rw [List.pairwise_append] at hi
      have hz := h z (by simp)
      have hzn : z = (n : Int) := by
        rcases List.mem_append.1 hn with h1 | h1
        · have := hi.2.2 _ h1 z (by simp); omega
        · have : (n : Int) = z := by simpa using h1
          exact this.symm
      subst hzn
      refine ⟨v, mem_subs n v hi.1 (fun x hx => ?_), rfl⟩
      have h1 := hi.2.2 x hx _ (by simp : (n : Int) ∈ [(n : Int)])
      have h2 := h x (by simp [hx])
      omega
    · left
      refine mem_subs n l hi (fun x hx => ?_)
      have h1 := h x hx
      have : x ≠ (n : Int) := fun e => hn (e ▸ hx)
      omega
def prodL {α β : Type} : List α → List β → List (α × β)
  | [], _ => []
  | x :: r, m => m.map (fun y => (x, y)) ++ prodL r m
theorem prodL_len {α β : Type} (m : List β) : ∀ l : List α, (prodL l m).length = l.length * m.length
  | [] => by simp [prodL]
  | x :: r => by rw [prodL, List.length_append, List.length_map, prodL_len m r, List.length_cons, Nat.add_mul]; omega
theorem mem_prodL {α β : Type} {x : α} {y : β} {m : List β} (hy : y ∈ m) : ∀ {l : List α}, x ∈ l → (x, y) ∈ prodL l m
  | [], h => by simp at h
  | z :: r, h => by
    rw [prodL, List.mem_append]
    rcases List.mem_cons.1 h with rfl | h
    · exact .inl (List.mem_map.2 ⟨y, hy, rfl⟩)
    · exact .inr (mem_prodL hy h)

/-! The search ends. -/
section
variable {σ : Type} [DecidableEq σ] {δ : σ → Nat → σ}
theorem bi_wlen {s0 : σ} {ev k n : Nat} {l : List (σ × List Int)} (h : BI δ s0 ev k n l) : ∀ (j : Nat) (p : σ × List Int), l[j]? = some p → p.2.length ≤ j := by
  intro j
  induction j using Nat.strongRecOn with
  | _ j ih =>
    intro p hp
    rcases h.top p (List.mem_of_getElem? hp) with h0 | ⟨i, x, e, hx, h1, -⟩
    · rw [h0]; simp
    · have hl : p.2.length = x.2.length + 1 := by rw [h1]; simp
      have hlt := (List.getElem?_eq_some_iff.1 hp).1
      have hlx := (List.getElem?_eq_some_iff.1 hx).1
      have hij : i < j := by
        rcases Nat.lt_trichotomy i j with h2 | h2 | h2
        · exact h2
        · subst h2; rw [hx] at hp; have := Option.some.inj hp; subst this; omega
        · have := List.pairwise_iff_getElem.1 h.inc j i hlt hlx h2
          rw [(List.getElem?_eq_some_iff.1 hx).2, (List.getElem?_eq_some_iff.1 hp).2] at this
          have := lessB_len this; omega
      have := ih i hij x hx
      omega
theorem bi_end {s0 : σ} {ev N : Nat} (hN : ∀ (k n : Nat) (l : List (σ × List Int)), BI δ s0 ev k n l → l.length ≤ N) : ∀ (f k : Nat) (l : List (σ × List Int)), BI δ s0 ev k 0 l → k ≤ l.length → N < f + k → BI δ s0 ev (bfGo δ ev f k l).length 0 (bfGo δ ev f k l)
  | 0, k, l, h, hk, hf => by have := hN _ _ _ h; omega
  | f + 1, k, l, h, hk, hf => by
    cases hx : l[k]? with
    | none =>
      have e : bfGo δ ev (f + 1) k l = l := by unfold bfGo; rw [hx]
      have : k = l.length := by have := List.getElem?_eq_none_iff.1 hx; omega
      rw [e]; rw [this] at h; exact h
    | some x =>
      have e : bfGo δ ev (f + 1) k l = bfGo δ ev f (k + 1) (bfRow δ x l ev) := by rw [bfGo, hx]
      rw [e]
      have hlt := (List.getElem?_eq_some_iff.1 hx).1
      obtain ⟨t, ht⟩ := bfRow_pre δ x l ev
      exact bi_end hN f (k + 1) _ (bi_next δ h hx) (by rw [ht, List.length_append]; omega) (by omega)
end

/-! Two machines at once. -/
/-- Where both lead. -/
def bothD (A B : List Arr) (s : List Int × List Int) (e : Nat) : List Int × List Int := (stepL A s.1 (e : Int), stepL B s.2 (e : Int))
theorem bothD_run (A B : List Arr) : ∀ (u : List Int) (x y : List Int), (∀ e ∈ u, 0 ≤ e) → runF (bothD A B) (x, y) u = (afterL A x u, afterL B y u)
  | [], x, y, _ => rfl
  | e :: u, x, y, h => by
    have he : ((e.toNat : Nat) : Int) = e := by have := h e (by simp); omega
    show runF (bothD A B) (bothD A B (x, y) e.toNat) u = _
    unfold bothD
    rw [he]
    exact bothD_run A B u _ _ (fun z hz => h z (by simp [hz]))
theorem afterIn {m : Mach} (hm : mayB m = true) : ∀ (u l : List Int), (Inc l ∧ ∀ x ∈ l, 0 ≤ x ∧ x < m.st) → Inc (afterL m.arrows l u) ∧ ∀ x ∈ afterL m.arrows l u, 0 ≤ x ∧ x < m.st
  | [], l, h => h
  | e :: u, l, _ => afterIn hm u _ (stepIn hm l e)
/-- The places, the lesser words ahead. -/
def plcAll (a b : Mach) : List ((List Int × List Int) × List Int) := bfGo (bothD a.arrows b.arrows) a.ev.toNat 4097 0 [((a.starts, b.starts), [])]
theorem plc_bound {a b : Mach} (ha : mayB a = true) (hb : mayB b = true) (za : a.st ≤ 6) (zb : b.st ≤ 6) {ev k n : Nat} {l : List ((List Int × List Int) × List Int)} (h : BI (bothD a.arrows b.arrows) (a.starts, b.starts) ev k n l) : l.length ≤ 4096 := by
  have h1 := nodup_sub (m := prodL (subs 6) (subs 6)) h.nd (fun s hs => by
    obtain ⟨p, hp, rfl⟩ := List.mem_map.1 hs
    obtain ⟨e1, e2⟩ := h.run p hp
    rw [bothD_run _ _ _ _ _ (fun e he => (e2 e he).1)] at e1
    have i1 := afterIn ha p.2 _ (may_starts ha)
    have i2 := afterIn hb p.2 _ (may_starts hb)
    rw [e1]
    exact mem_prodL (mem_subs 6 _ i2.1 (fun x hx => by have := i2.2 x hx; omega)) (mem_subs 6 _ i1.1 (fun x hx => by have := i1.2 x hx; omega)))
  rw [List.length_map, prodL_len, subs_len] at h1
  exact h1
theorem plc_all {a b : Mach} (ha : mayB a = true) (hb : mayB b = true) (za : a.st ≤ 6) (zb : b.st ≤ 6) : BI (bothD a.arrows b.arrows) (a.starts, b.starts) a.ev.toNat (plcAll a b).length 0 (plcAll a b) :=
  bi_end (N := 4096) (fun k n l h => plc_bound ha hb za zb h) 4097 0 _ (bi_start _ _ _) (Nat.zero_le _) (by omega)

/-- Is a place where the one may end, and the other one not? -/
def outP (a b : Mach) (p : (List Int × List Int) × List Int) : Bool := decide (0 < (p.1.1.filter fun n => hasB a.ends n == true).length) && decide ((p.1.2.filter fun n => hasB b.ends n == true).length = 0)
/-- The least word that a accepts and b does not. -/
def outW (a b : Mach) : Option (List Int) := ((plcAll a b).find? (outP a b)).map (·.2)
/-- Is a word of the one, and not of the other one? -/
def betw (a b : Mach) (u : List Int) : Bool := acceptsB a u && !acceptsB b u
theorem outP_run {a b : Mach} {p : (List Int × List Int) × List Int} (h : p.1 = runF (bothD a.arrows b.arrows) (a.starts, b.starts) p.2) (hu : ∀ e ∈ p.2, 0 ≤ e) (u : List Int) (hu' : ∀ e ∈ u, 0 ≤ e) (he : p.1 = runF (bothD a.arrows b.arrows) (a.starts, b.starts) u) : outP a b p = betw a b u := by
  rw [bothD_run _ _ _ _ _ hu'] at he
  unfold outP betw acceptsB acceptsL
  rw [he]
  dsimp only
  congr 1
  rw [← decide_not]
  exact decide_eq_decide.2 (by omega)
theorem outW_none {a b : Mach} (ha : mayB a = true) (hb : mayB b = true) (za : a.st ≤ 6) (zb : b.st ≤ 6) (h : outW a b = none) (u : List Int) (hu : ∀ e ∈ u, 0 ≤ e ∧ e < a.ev) : betw a b u = false := by
  have hI := plc_all ha hb za zb
  have hev : ((a.ev.toNat : Nat) : Int) = a.ev := by have := mayB_size ha; unfold sizeOk at this; omega
  obtain ⟨p, hp, e1, -⟩ := bi_all _ hI u (by rw [hev]; exact hu)
  unfold outW at h
  rw [Option.map_eq_none_iff, List.find?_eq_none] at h
  have h1 := h p hp
  have hr := hI.run p hp
  rw [outP_run hr.1 (fun e he => (hr.2 e he).1) u (fun e he => (hu e he).1) e1] at h1
  simpa using h1
theorem outW_some {a b : Mach} (ha : mayB a = true) (hb : mayB b = true) (za : a.st ≤ 6) (zb : b.st ≤ 6) {v : List Int} (h : outW a b = some v) : betw a b v = true ∧ (∀ e ∈ v, 0 ≤ e ∧ e < a.ev) ∧ v.length ≤ 4096 ∧ ∀ u : List Int, (∀ e ∈ u, 0 ≤ e ∧ e < a.ev) → betw a b u = true → lessB u v = false := by
  have hI := plc_all ha hb za zb
  have hev : ((a.ev.toNat : Nat) : Int) = a.ev := by have := mayB_size ha; unfold sizeOk at this; omega
  unfold outW at h
  rw [Option.map_eq_some_iff] at h
  obtain ⟨p, hp, rfl⟩ := h
  have hpo := List.find?_some hp
  rw [List.find?_eq_some_iff_getElem] at hp
  obtain ⟨-, i, hi, e0, hlow⟩ := hp
  have hpi : (plcAll a b)[i]? = some p := by rw [List.getElem?_eq_getElem hi, e0]
  have hpm := List.mem_of_getElem? hpi
  have hr := hI.run p hpm
  rw [hev] at hr
  have hbd := plc_bound ha hb za zb hI
  refine ⟨?_, hr.2, ?_, fun u hu hb' => ?_⟩
  · rw [← outP_run hr.1 (fun e he => (hr.2 e he).1) p.2 (fun e he => (hr.2 e he).1) hr.1]; exact hpo
  · have := bi_wlen hI i p hpi; omega
  · obtain ⟨q, hq, e1, e2⟩ := bi_all _ hI u (by rw [hev]; exact hu)
    have hrq := hI.run q hq
    have hqo : outP a b q = true := by rw [outP_run hrq.1 (fun e he => (hrq.2 e he).1) u (fun e he => (hu e he).1) e1]; exact hb'
    obtain ⟨j, hj⟩ := List.mem_iff_getElem?.1 hq
    have hjl := (List.getElem?_eq_some_iff.1 hj).1
    have hqe := (List.getElem?_eq_some_iff.1 hj).2
    have hij : i ≤ j := by
      rcases Nat.lt_or_ge j i with h1 | h1
      · have := hlow j h1
        rw [hqe, hqo] at this; simp at this
      · exact h1
    have hle : leW p.2 q.2 := by
      rcases Nat.lt_or_ge i j with h1 | h1
      · have := List.pairwise_iff_getElem.1 hI.inc i j hi hjl h1
        rw [hqe, e0] at this
        exact .inr this
      · have : i = j := by omega
        subst this
        rw [hpi] at hj
        have := Option.some.inj hj
        subst this
        exact leW_refl _
    exact leW_not (leW_trans hle e2)

end Go.Proofs.YtdnglodemkeooaaDoor
namespace Go.Proofs.YtdnglodemkeooaaDoor
open Go.RowKit
set_option linter.unusedVariables false

/-- What Within tells (G2). -/
def withOut (a b : Mach) : Bool × List Int × Int :=
  if mayB a = true ∧ mayB b = true then
    if a.ev = b.ev then
      if a.st ≤ 6 ∧ b.st ≤ 6 then ((outW a b).isNone, (outW a b).getD [], 0) else (false, [], 1)
    else (false, [], 3)
  else (false, [], 2)
/-- What Within leaves. -/
def WithPost (w : World) (a b : Mach) (e : Ending) (w' : World) : Prop := ∃ va vc, e = .returned (.tuple #[.bool (withOut a b).1, .slice va (withOut a b).2.1.length vc, .int .i64 (withOut a b).2.2]) ∧ At w' va (withOut a b).2.1 ∧ (withOut a b).2.1.length ≤ maxLen ∧ Below w.heap.size w w'
theorem withPost_err {w w' : World} {a b : Mach} {c : Int} (h : withOut a b = (false, [], c)) (hb : Below w.heap.size w w') : WithPost w a b (.returned (.tuple #[.bool false, .slice none 0 0, .int .i64 c])) w' := by
  unfold WithPost; rw [h]; exact ⟨none, 0, rfl, .inl rfl, Nat.zero_le _, hb⟩
theorem withPost_ok {w w' : World} {a b : Mach} {o : Option (List Int)} {va : Option Addr} {vc : Nat} (h : withOut a b = (o.isNone, o.getD [], 0)) (hv : At w' va (o.getD [])) (hl : (o.getD []).length ≤ maxLen) (hb : Below w.heap.size w w') : WithPost w a b (.returned (.tuple #[.bool o.isNone, .slice va (o.getD []).length vc, .int .i64 0])) w' := by
  unfold WithPost; rw [h]
  exact ⟨va, vc, rfl, hv, hl, hb⟩

end Go.Proofs.YtdnglodemkeooaaDoor
namespace Go.Proofs.YtdnglodemkeooaaDoor
open Go.RowKit
set_option linter.unusedVariables false

/-- A pair of sets. -/
structure SP where
  a : Nat → Nat
  b : Nat → Nat
abbrev spcells (P : SP) : Array Value := #[.int .u64 (P.a 0), .int .u64 (P.a 1), .int .u64 (P.a 2), .int .u64 (P.a 3), .int .u64 (P.b 0), .int .u64 (P.b 1), .int .u64 (P.b 2), .int .u64 (P.b 3)]
abbrev spval (P : SP) : Value := .agg (spcells P)
def eqSP (P Q : SP) : Prop := eqS P.a Q.a ∧ eqS P.b Q.b
/-- The pair stands for two lists, which rise. -/
structure RepSP (P : SP) (s : List Int × List Int) : Prop where
  ra : Rep P.a s.1
  rb : Rep P.b s.2
  ia : Inc s.1
  ib : Inc s.2
theorem eqSP_iff {P Q : SP} {s t : List Int × List Int} (h : RepSP P s) (h' : RepSP Q t) : eqSP P Q ↔ s = t := by
  unfold eqSP
  rw [eqS_iff h.ra h'.ra h.ia h'.ia, eqS_iff h.rb h'.rb h.ib h'.ib]
  constructor
  · rintro ⟨h1, h2⟩; exact Prod.ext h1 h2
  · rintro rfl; exact ⟨rfl, rfl⟩
/-- A place: its pair, from where it was found, at which event. -/
structure PlW where
  sp : SP
  fr : Nat
  ev : Nat

theorem rowSP : (106 : TypeId) < Tryd.prog.types.size := of_decide_eq_true (by kernel_rfl)
theorem wideSP : (match Tryd.prog.underlying 106 with | some (.array _ _) | some (.struct _) => true | _ => false) = true := by kernel_rfl
set_option maxRecDepth 100000 in
theorem lawSP : WideMaps.KeyLaw Tryd.prog 106 := deep_law_laid laidOutS (m := 5) (by omega) rowSP (by kernel_rfl) wideSP
set_option maxRecDepth 100000 in
theorem keySP {P : SP} (h : okS P.a) (h' : okS P.b) : ∃ l, keyOf Tryd.prog 106 (spval P) = some l := by
  have h0 := wf_u64 (h 0)
  have h1 := wf_u64 (h 1)
  have h2 := wf_u64 (h 2)
  have h3 := wf_u64 (h 3)
  have k0 := wf_u64 (h' 0)
  have k1 := wf_u64 (h' 1)
  have k2 := wf_u64 (h' 2)
  have k3 := wf_u64 (h' 3)
  have hk : Tryd.prog.keyType 106 = true := by kernel_rfl
  have hp : Tryd.prog.cellsOf 106 = 8 := by kernel_rfl
  have hc : Tryd.prog.cellsOf 62 = 4 := by kernel_rfl
  have hci : Tryd.prog.cellsOf 60 = 1 := by kernel_rfl
  have hs : ∃ m, Tryd.prog.types.size = m + 1 + 1 := ⟨Tryd.prog.types.size - 2, by have : 2 ≤ Tryd.prog.types.size := of_decide_eq_true (by kernel_rfl); omega⟩
  obtain ⟨m, hm⟩ := hs
  unfold keyOf
  simp only [Tryd.underlying106]
  rw [if_pos (by simp [hk, Value.formed, Tryd.underlying106, hp]), hm]
  unfold Program.keyLits
  simp only [Tryd.underlying106, Value.cells]
  have hr : List.range 4 = [0, 1, 2, 3] := rfl
  simp [hp, hc, hci, Program.keyLits, Tryd.underlying62, Tryd.underlying60, hr, h0, h1, h2, h3, k0, k1, k2, k3]
theorem spval_eq {P Q : SP} (h : spval P = spval Q) : eqSP P Q := by
  simp at h
  obtain ⟨h0, h1, h2, h3, h4, h5, h6, h7⟩ := h
  exact ⟨⟨by omega, by omega, by omega, by omega⟩, ⟨by omega, by omega, by omega, by omega⟩⟩
theorem eqSP_val {P Q : SP} (h : eqSP P Q) : spval P = spval Q := by
  obtain ⟨⟨h0, h1, h2, h3⟩, ⟨h4, h5, h6, h7⟩⟩ := h
  show Value.agg #[_, _, _, _, _, _, _, _] = Value.agg #[_, _, _, _, _, _, _, _]
  rw [h0, h1, h2, h3, h4, h5, h6, h7]
def entW (k : Nat) (p : PlW) : MapEntry := { key := spval p.sp, val := .agg #[], born := k }
def entsW (L : List PlW) : Array MapEntry := (L.mapIdx entW).toArray
theorem entsW_snoc (L : List PlW) (p : PlW) : entsW (L ++ [p]) = (entsW L).push (entW L.length p) := by
  unfold entsW; rw [List.mapIdx_concat]; simp
/-- The places stand for what has been found, one by one. -/
structure RepPL (L : List PlW) (l : List ((List Int × List Int) × List Int)) : Prop where
  len : L.length = l.length
  rep : ∀ (k : Nat) (p : PlW), L[k]? = some p → ∃ x, l[k]? = some x ∧ RepSP p.sp x.1
theorem RepPL.at {L : List PlW} {l : List ((List Int × List Int) × List Int)} (h : RepPL L l) {k : Nat} {x : (List Int × List Int) × List Int} (hk : l[k]? = some x) : ∃ p, L[k]? = some p ∧ RepSP p.sp x.1 := by
  have hlt := (List.getElem?_eq_some_iff.1 hk).1
  have hlt' : k < L.length := by rw [h.len]; exact hlt
  obtain ⟨y, h1, h2⟩ := h.rep k _ (List.getElem?_eq_getElem hlt')
  rw [hk] at h1
  have h1 := Option.some.inj h1
  subst h1
  exact ⟨_, List.getElem?_eq_getElem hlt', h2⟩
theorem RepPL.snoc {L : List PlW} {l : List ((List Int × List Int) × List Int)} (h : RepPL L l) {p : PlW} {x : (List Int × List Int) × List Int} (hr : RepSP p.sp x.1) : RepPL (L ++ [p]) (l ++ [x]) := by
  refine ⟨by simp [h.len], fun k q hk => ?_⟩
  by_cases hlt : k < L.length
  · rw [List.getElem?_append_left hlt] at hk
    obtain ⟨y, h1, h2⟩ := h.rep k q hk
    exact ⟨y, by rw [List.getElem?_append_left (by rw [← h.len]; exact hlt)]; exact h1, h2⟩
  · have hk' := (List.getElem?_eq_some_iff.1 hk).1
    simp at hk'
    have e : k = L.length := by omega
    subst e
    rw [List.getElem?_append_right (Nat.le_refl _)] at hk
    have : p = q := by simpa using hk
    subst this
    exact ⟨x, by rw [h.len, List.getElem?_append_right (Nat.le_refl _)]; simp, hr⟩
theorem RepPL.one {p : PlW} {x : (List Int × List Int) × List Int} (hr : RepSP p.sp x.1) : RepPL [p] [x] := RepPL.snoc (L := []) (l := []) ⟨rfl, fun k S h => by simp at h⟩ hr
theorem find_sp {L : List PlW} {l : List ((List Int × List Int) × List Int)} (hR : RepPL L l) {P : SP} {s : List Int × List Int} (hr : RepSP P s) (w : World) :
    (knownB l s = true ∧ ∃ j, (Instr.findKey 106 (spval P) (entsW L).toList).run Tryd.prog w = .ok (some (j, .agg #[])) w) ∨ (knownB l s = false ∧ (Instr.findKey 106 (spval P) (entsW L).toList).run Tryd.prog w = .ok none w) := by
  obtain ⟨kl, hl⟩ := keySP hr.ra.ok hr.rb.ok
  have hget : ∀ (j : Nat) e, (entsW L).toList[j]? = some e → ∃ p, L[j]? = some p ∧ e = entW j p := by
    intro j e h
    simp only [entsW] at h
    rw [List.getElem?_mapIdx] at h
    cases hq : L[j]? with
    | none => rw [hq] at h; cases h
    | some q => rw [hq] at h; exact ⟨q, rfl, (Option.some.inj h).symm⟩
  have hes : ∀ e ∈ (entsW L).toList, ∃ l, keyOf Tryd.prog 106 e.key = some l := by
    intro e he
    obtain ⟨j, hj⟩ := List.mem_iff_getElem?.1 he
    obtain ⟨p, hp, rfl⟩ := hget j e hj
    obtain ⟨x, -, h2⟩ := hR.rep j p hp
    exact keySP h2.ra.ok h2.rb.ok
  rcases lawSP.find w hl (entsW L).toList hes with ⟨h1, h2⟩ | ⟨j, e, h1, h2, h3⟩
  · refine .inr ⟨?_, h1⟩
    cases hk : knownB l s with
    | false => rfl
    | true =>
      obtain ⟨x, hx, e1⟩ := (knownB_iff _ _).1 hk
      obtain ⟨j, hj⟩ := List.mem_iff_getElem?.1 hx
      obtain ⟨p, hp, hrp⟩ := hR.at hj
      refine absurd (eqSP_val ((eqSP_iff hrp hr).2 e1)) (h2 (entW j p) (List.mem_of_getElem? (i := j) ?_))
      simp only [entsW]
      rw [List.getElem?_mapIdx, hp]; rfl
  · obtain ⟨p, hp, rfl⟩ := hget j e h2
    obtain ⟨x, hx, hrx⟩ := hR.rep j p hp
    exact .inl ⟨(knownB_iff _ _).2 ⟨x, List.mem_of_getElem? hx, (eqSP_iff hrx hr).1 (spval_eq h3)⟩, j, h1⟩
theorem mapSP : Tryd.prog.underlying 141 = some (.map 106 140) := by kernel_rfl
theorem lookW_known {L : List PlW} {l : List ((List Int × List Int) × List Int)} (hR : RepPL L l) {P : SP} {s : List Int × List Int} (hr : RepSP P s) {w : World} {r c : Nat} (hm : w.heap[r]? = some (.map (entsW L) c)) (h : knownB l s = true) :
    (Instr.lookup 141 (.map (some r)) (spval P) true).run Tryd.prog w = .ok (.tuple #[.agg #[], .bool true]) w := by
  obtain ⟨kl, hl⟩ := keySP hr.ra.ok hr.rb.ok
  rcases find_sp hR hr w with ⟨-, j, h1⟩ | ⟨h1, -⟩
  · simp [Instr.lookup, run_underlying mapSP, MapKept.run_getObj_map hm, lawSP.check w _ hl, h1, Result.andThen]
  · rw [h] at h1; cases h1
theorem lookW_new {L : List PlW} {l : List ((List Int × List Int) × List Int)} (hR : RepPL L l) {P : SP} {s : List Int × List Int} (hr : RepSP P s) {w : World} {r c : Nat} (hm : w.heap[r]? = some (.map (entsW L) c)) (h : knownB l s = false) :
    (Instr.lookup 141 (.map (some r)) (spval P) true).run Tryd.prog w = .ok (.tuple #[.agg #[], .bool false]) w := by
  obtain ⟨kl, hl⟩ := keySP hr.ra.ok hr.rb.ok
  rcases find_sp hR hr w with ⟨h1, -⟩ | ⟨-, h1⟩
  · rw [h] at h1; cases h1
  · simp [Instr.lookup, run_underlying mapSP, MapKept.run_getObj_map hm, lawSP.check w _ hl, h1, Result.andThen]
theorem updW_new {L : List PlW} {l : List ((List Int × List Int) × List Int)} (hR : RepPL L l) {p : PlW} {s : List Int × List Int} (hr : RepSP p.sp s) {w : World} {r : Nat} (hm : w.heap[r]? = some (.map (entsW L) L.length)) (h : knownB l s = false) :
    (Instr.mapUpdate 141 (.map (some r)) (spval p.sp) (.agg #[])).run Tryd.prog w = .ok () (setMap w r (.map (entsW (L ++ [p])) (L.length + 1))) := by
  obtain ⟨kl, hl⟩ := keySP hr.ra.ok hr.rb.ok
  rcases find_sp hR hr w with ⟨h1, -⟩ | ⟨-, h1⟩
  · rw [h] at h1; cases h1
  · simp [Instr.mapUpdate, run_underlying mapSP, MapKept.run_getObj_map hm, lawSP.check w _ hl, h1, MapKept.run_setObj_map _ hm, Result.andThen, setMap, entsW_snoc, entW]
theorem updW_first {p : PlW} {s : List Int × List Int} (hr : RepSP p.sp s) {w : World} {r : Nat} (hm : w.heap[r]? = some (.map #[] 0)) :
    (Instr.mapUpdate 141 (.map (some r)) (spval p.sp) (.agg #[])).run Tryd.prog w = .ok () (setMap w r (.map (entsW [p]) 1)) := by
  have := updW_new (L := []) (l := []) ⟨rfl, fun k S h => by simp at h⟩ hr (w := w) (r := r) hm rfl
  simpa using this

/-! Rows of places. -/
def plcells (p : PlW) : List Value := [.int .u64 (p.sp.a 0), .int .u64 (p.sp.a 1), .int .u64 (p.sp.a 2), .int .u64 (p.sp.a 3), .int .u64 (p.sp.b 0), .int .u64 (p.sp.b 1), .int .u64 (p.sp.b 2), .int .u64 (p.sp.b 3), .int .i64 (p.fr : Nat), .int .i64 (p.ev : Nat)]
def plflat : List PlW → List Value
  | [] => []
  | p :: r => plcells p ++ plflat r
theorem plflat_append : ∀ L M : List PlW, plflat (L ++ M) = plflat L ++ plflat M
  | [], M => rfl
  | a :: r, M => by simp only [List.cons_append, plflat, plflat_append r M, List.append_assoc]
theorem plflat_at : ∀ {L : List PlW} {k : Nat} {p : PlW}, L[k]? = some p → ∀ j, j < 10 → (plflat L)[k * 10 + j]? = (plcells p)[j]?
  | [], k, p, h => by simp at h
  | a :: r, 0, p, h => by
    have e : a = p := by simpa using h
    subst e
    intro j hj
    rw [plflat, Nat.zero_mul, Nat.zero_add, List.getElem?_append_left (by simp [plcells]; omega)]
  | a :: r, k + 1, p, h => by
    intro j hj
    have := plflat_at (L := r) (k := k) (p := p) (by simpa using h) j hj
    rw [plflat, List.getElem?_append_right (by simp [plcells]; omega)]
    have e : (k + 1) * 10 + j - (plcells a).length = k * 10 + j := by simp [plcells]; omega
    rw [e]; exact this
abbrev OwnW (W : World) (B : Nat) (v : Value) (L : List PlW) : Prop := W.ownsRow B 138 10 v L.length (plflat L)
theorem OwnW.cell {W : World} {B : Nat} {v : Value} {L : List PlW} (h : OwnW W B v L) {k : Nat} {p : PlW} (hk : L[k]? = some p) : ∃ g cap, v = .slice (some ⟨g, 0, none⟩) L.length cap ∧ B ≤ g ∧ g < W.heap.size ∧ ∀ j u, (plcells p)[j]? = some u → W.cell? ⟨g, k * 10 + j, none⟩ = some u := by
  rcases h.2 with ⟨rfl, hn⟩ | ⟨g, cap, cur, rfl, hg, hh, hnc, hcm, hcs, ht⟩
  · have := (List.getElem?_eq_some_iff.1 hk).1; omega
  · refine ⟨g, cap, rfl, hg, (Array.getElem?_eq_some_iff.1 hh).1, fun j u hu => ?_⟩
    have hj : j < 10 := by have := (List.getElem?_eq_some_iff.1 hu).1; simpa [plcells] using this
    have c1 := h.cells (g := g) rfl _ _ ((plflat_at hk j hj).trans hu)
    rwa [addr0_add, Nat.zero_add] at c1
theorem cells_list (W W' : World) (hW : W'.heap = W.heap) (t : TypeId) (xs : Array Value) : ∀ j v, xs.toList[j]? = some v → (W'.alloc (.cells xs t)).cell? ((⟨W.heap.size, 0, none⟩ : Addr).add j) = some v := by
  intro j v hv
  rw [addr0_add, Nat.zero_add, ← hW]
  exact (Blk.new W' t xs).cell j (by rw [← Array.getElem?_toList]; exact hv)
theorem own_plc {W : World} {B : Nat} {v : Value} {L : List PlW} {p : PlW} (h : W.ownsRow B 138 10 v (L.length + 1) (plflat L ++ plcells p)) : OwnW W B v (L ++ [p]) := by
  show W.ownsRow B 138 10 v (L ++ [p]).length (plflat (L ++ [p]))
  rw [List.length_append, plflat_append]
  have e : plflat [p] = plcells p := by simp [plflat]
  rw [e]; exact h
theorem ownW_one (W : World) (p : PlW) (B : Nat) (hB : B ≤ W.heap.size) : OwnW (W.alloc (.cells (plcells p).toArray 138)) B (.slice (some ⟨W.heap.size, 0, none⟩) 1 1) [p] := by
  have : World.ownsRow (W.alloc (.cells (plcells p).toArray 138)) B 138 10 (.slice (some ⟨W.heap.size, 0, none⟩) 1 1) 1 (plcells p) := World.ownsRow_lit W (plcells p).toArray 1 hB (by decide) rfl
  have e : plflat [p] = plcells p := by simp [plflat]
  show World.ownsRow _ B 138 10 _ 1 (plflat [p])
  rw [e]; exact this

/-- What least knows: its row of places, made from block B on, and its map. -/
structure LWI (B : Nat) (W : World) (br : Nat) (vs : Value) (L : List PlW) : Prop where
  ss : OwnW W B vs L
  mp : W.heap[br]? = some (.map (entsW L) L.length)
  lr : B ≤ br
section
variable {B : Nat} {W : World} {br : Nat} {vs : Value} {L : List PlW}
theorem LWI.below {W' : World} (h : LWI B W br vs L) (hb : Below W.heap.size W W') : LWI B W' br vs L :=
  ⟨own_same h.ss (fun k hk => hb.block k (World.ownsRow.lt h.ss k hk).2), (hb.block br (Array.getElem?_eq_some_iff.1 h.mp).1).trans h.mp, h.lr⟩
theorem LWI.apart (h : LWI B W br vs L) : vs.ownBlock ≠ some br := by
  have hm := h.mp
  exact fun e => (by obtain ⟨cs, hc⟩ := own_type h.ss e; rw [hm] at hc; cases hc)
theorem LWI.push {w0 : World} {W2 W3 : World} {vs' : Value} {p : PlW} (h : LWI B W br vs L) (h0 : Below B w0 W) (hW3 : Below (setMap W br (.map (entsW (L ++ [p])) (L.length + 1))).heap.size (setMap W br (.map (entsW (L ++ [p])) (L.length + 1))) W3) (o1 : OwnW W2 B vs' (L ++ [p])) (g : W3.grownBy W2 vs.ownBlock) (hBW : B ≤ W.heap.size) :
    LWI B W2 br vs' (L ++ [p]) ∧ Below B w0 W2 := by
  have a1 := h.apart
  have hbr := (Array.getElem?_eq_some_iff.1 h.mp).1
  have hz : W.heap.size ≤ W3.heap.size := by have := hW3.size; rwa [size_setMap] at this
  have k3 : ∀ j, j < W.heap.size → W3.heap[j]? = (setMap W br (.map (entsW (L ++ [p])) (L.length + 1))).heap[j]? := fun j hj => hW3.block j (by rw [size_setMap]; exact hj)
  have k2 : ∀ j, j < W.heap.size → vs.ownBlock ≠ some j → W2.heap[j]? = (setMap W br (.map (entsW (L ++ [p])) (L.length + 1))).heap[j]? := fun j hj hne => (g.block j (Nat.lt_of_lt_of_le hj hz) (fun e => hne e.symm)).trans (k3 j hj)
  refine ⟨⟨o1, ?_, h.lr⟩, ?_⟩
  · rw [k2 br hbr a1, heap_setMap _ _ hbr, List.length_append]; rfl
  · have b1 : Below B w0 (setMap W br (.map (entsW (L ++ [p])) (L.length + 1))) :=
      h0.trans ⟨rfl, rfl, rfl, by rw [size_setMap]; exact Nat.le_refl _, fun j hj => heap_setMap_ne _ _ _ (by have := h.lr; omega)⟩
    exact (b1.trans (hW3.mono (by rw [size_setMap]; exact hBW))).grown g (Nat.le_trans hBW hz) (fun j hj => (World.ownsRow.lt h.ss j hj).1)
end

end Go.Proofs.YtdnglodemkeooaaDoor
namespace Go.Proofs.YtdnglodemkeooaaDoor
open Go.RowKit
set_option linter.unusedVariables false

/-- A pair's block. -/
abbrev PBk (W : World) (b : Nat) (P : SP) : Prop := Blk W b 106 (spcells P)
theorem PBk.cells {W : World} {b : Nat} {P : SP} (h : PBk W b P) : W.cell? ⟨b, 0, none⟩ = some (.int .u64 (P.a 0)) ∧ W.cell? ⟨b, 1, none⟩ = some (.int .u64 (P.a 1)) ∧ W.cell? ⟨b, 2, none⟩ = some (.int .u64 (P.a 2)) ∧ W.cell? ⟨b, 3, none⟩ = some (.int .u64 (P.a 3)) ∧ W.cell? ⟨b, 4, none⟩ = some (.int .u64 (P.b 0)) ∧ W.cell? ⟨b, 5, none⟩ = some (.int .u64 (P.b 1)) ∧ W.cell? ⟨b, 6, none⟩ = some (.int .u64 (P.b 2)) ∧ W.cell? ⟨b, 7, none⟩ = some (.int .u64 (P.b 3)) :=
  ⟨h.cell 0 rfl, h.cell 1 rfl, h.cell 2 rfl, h.cell 3 rfl, h.cell 4 rfl, h.cell 5 rfl, h.cell 6 rfl, h.cell 7 rfl⟩

/-- Is a the set of a pair at an end of the one, and b the other one's at none? -/
def outSP (P : SP) (EA EB : Nat → Nat) : Bool := meetB P.a EA && !meetB P.b EB

set_option maxRecDepth 100000 in
set_option maxHeartbeats 4000000 in
theorem apart1_any (P : SP) (EA EB : Nat → Nat) (pA pB : Nat) (w : World) (hA : Hid (SB w pA EA)) (hB : Hid (SB w pB EB)) (o1 : okS P.a) (o2 : okS P.b) (o3 : okS EA) (o4 : okS EB) :
    Calls Tryd.prog 115 #[spval P, .pointer (some ⟨pA, 0, none⟩), .pointer (some ⟨pB, 0, none⟩)] w fun e w' => e = .returned (.bool (outSP P EA EB)) ∧ Below w.heap.size w w' := by
  have B0 : Hid (Below w.heap.size w (w.alloc (.cells (spcells P) 106))) := (Below.refl _ _).alloc (Nat.le_refl _) _
  have K0 : Hid (PBk (w.alloc (.cells (spcells P) 106)) w.heap.size P) := Blk.new w _ _
  have A0 := Hid.of (Blk.alloc hA.out (.cells (spcells P) 106))
  have E0 := Hid.of (Blk.alloc hB.out (.cells (spcells P) 106))
  obtain ⟨x0, x1, x2, x3, x4, x5, x6, x7⟩ := PBk.cells K0.out
  obtain ⟨y0, y1, y2, y3⟩ := SB.cells A0.out
  go_enter Tryd.func115, Tryd.ntmps115
  go_wp2_with fail
  clear x0 x1 x2 x3 x4 x5 x6 x7 y0 y1 y2 y3
  revert B0 K0 A0 E0
  generalize w.alloc (.cells (spcells P) 106) = V0
  intro B0 K0 A0 E0
  refine (meets_any P.a EA _ o1 o3).mono ?_
  rintro e V ⟨rfl, hb1⟩
  have B1 := Hid.of (B0.out.trans (hb1.mono B0.out.size))
  have K1 := Hid.of (K0.out.below hb1 K0.out.lt)
  have E1 := Hid.of (E0.out.below hb1 E0.out.lt)
  clear hb1 B0 K0 E0 A0
  cases hm : meetB P.a EA with
  | false =>
    have HO : Hid (outSP P EA EB = false) := by show _ = _; unfold outSP; rw [hm]; rfl
    go_wp2_with fail
    exact bodyPost_ret (v := .bool false) (by simp [results, go_sem]) rfl ⟨by rw [HO.out], B1.out⟩
  | true =>
    obtain ⟨x0, x1, x2, x3, x4, x5, x6, x7⟩ := PBk.cells K1.out
    obtain ⟨y0, y1, y2, y3⟩ := SB.cells E1.out
    go_wp2_with fail
    refine (meets_any P.b EB _ o2 o4).mono ?_
    rintro e V2 ⟨rfl, hb1⟩
    have B2 := Hid.of (B1.out.trans (hb1.mono B1.out.size))
    have HO : Hid (outSP P EA EB = !meetB P.b EB) := by show _ = _; unfold outSP; rw [hm]; rfl
    clear hb1 hm
    go_wp2_with fail
    exact bodyPost_ret (v := .bool (!meetB P.b EB)) (by simp [results, go_sem]) rfl ⟨by rw [HO.out], B2.out⟩

/-- The closure that tells where a pair leads to, and what it knows. -/
abbrev wleadV (pA pB : Nat) : Value := .func (.func 114) #[] #[.pointer (some ⟨pA, 0, none⟩), .pointer (some ⟨pB, 0, none⟩)]
def leadSP (P : SP) (TA TC : Nat → Nat → Nat) (ev e : Nat) : SP := ⟨leadF TA ev e (allS P.a), leadF TC ev e (allS P.b)⟩
abbrev spzero : Array Value := #[.int .u64 0, .int .u64 0, .int .u64 0, .int .u64 0, .int .u64 0, .int .u64 0, .int .u64 0, .int .u64 0]
theorem PBk.set8 {W : World} {b : Nat} (h : Blk W b 106 spzero) (P : SP) : PBk ((((((((W.setCell ⟨b, 0, none⟩ (.int .u64 (P.a 0))).setCell ⟨b, 1, none⟩ (.int .u64 (P.a 1))).setCell ⟨b, 2, none⟩ (.int .u64 (P.a 2))).setCell ⟨b, 3, none⟩ (.int .u64 (P.a 3))).setCell ⟨b, 4, none⟩ (.int .u64 (P.b 0))).setCell ⟨b, 5, none⟩ (.int .u64 (P.b 1))).setCell ⟨b, 6, none⟩ (.int .u64 (P.b 2))).setCell ⟨b, 7, none⟩ (.int .u64 (P.b 3))) b P := by
  have := (((((((h.set 0 (.int .u64 (P.a 0))).set 1 (.int .u64 (P.a 1))).set 2 (.int .u64 (P.a 2))).set 3 (.int .u64 (P.a 3))).set 4 (.int .u64 (P.b 0))).set 5 (.int .u64 (P.b 1))).set 6 (.int .u64 (P.b 2))).set 7 (.int .u64 (P.b 3))
  simp only [spzero, List.setIfInBounds_toArray, List.set_cons_succ, List.set_cons_zero] at this
  exact this
theorem below_set8 {W V : World} {B b' : Nat} (h : Below B V W) (hb : B ≤ b') (v0 v1 v2 v3 v4 v5 v6 v7 : Value) : Below B V ((((((((W.setCell ⟨b', 0, none⟩ v0).setCell ⟨b', 1, none⟩ v1).setCell ⟨b', 2, none⟩ v2).setCell ⟨b', 3, none⟩ v3).setCell ⟨b', 4, none⟩ v4).setCell ⟨b', 5, none⟩ v5).setCell ⟨b', 6, none⟩ v6).setCell ⟨b', 7, none⟩ v7) := by
  have := below_set4' (below_set4' h 0 hb v0 v1 v2 v3) 4 hb v4 v5 v6 v7
  exact this

set_option maxRecDepth 100000 in
set_option maxHeartbeats 8000000 in
theorem leadW1_any (P : SP) (e : Nat) (pA pB : Nat) (LA LC : LB) (ev sa sb : Nat) (TA TC : Nat → Nat → Nat) (hTA : Hid (∀ p, okS (TA p))) (hTC : Hid (∀ p, okS (TC p))) (o1 : Hid (okS P.a)) (o2 : Hid (okS P.b)) (ha : Hid (∀ k ∈ allS P.a, k < sa)) (hb : Hid (∀ k ∈ allS P.b, k < sb)) (he : e < ev) (hev8 : ev ≤ 8) (hsa : sa ≤ 256) (hsb : sb ≤ 256) (w : World) (hT : Hid (Tab w)) (hW : Hid (WL w pA pB LA LC ev sa sb TA TC)) :
    Calls Tryd.prog 114 #[spval P, .int .i64 e, .pointer (some ⟨pA, 0, none⟩), .pointer (some ⟨pB, 0, none⟩)] w fun e' w' => e' = .returned (spval (leadSP P TA TC ev e)) ∧ Below w.heap.size w w' := by
  have B0 : Hid (Below w.heap.size w ((w.alloc (.cells (spcells P) 106)).alloc (.cells spzero 106))) := ((Below.refl _ _).alloc (Nat.le_refl _) _).alloc (by simp) _
  have K0 : Hid (PBk ((w.alloc (.cells (spcells P) 106)).alloc (.cells spzero 106)) w.heap.size P) := (Blk.new w _ _).alloc _
  have R0 : Hid (Blk ((w.alloc (.cells (spcells P) 106)).alloc (.cells spzero 106)) (w.heap.size + 1) 106 spzero) := by
    have := Blk.new (w.alloc (.cells (spcells P) 106)) 106 spzero
    rwa [World.size_alloc] at this
  go_enter Tryd.func114, Tryd.ntmps114
  go_wp2_with fail
  revert B0 K0 R0
  generalize (w.alloc (.cells (spcells P) 106)).alloc (.cells spzero 106) = V0
  intro B0 K0 R0
  have cellsAt : Hid (∀ W, Below w.heap.size w W → PBk W w.heap.size P → W.cell? ⟨w.heap.size, 0, none⟩ = some (.int .u64 (P.a 0)) ∧ W.cell? ⟨w.heap.size, 1, none⟩ = some (.int .u64 (P.a 1)) ∧ W.cell? ⟨w.heap.size, 2, none⟩ = some (.int .u64 (P.a 2)) ∧ W.cell? ⟨w.heap.size, 3, none⟩ = some (.int .u64 (P.a 3)) ∧ W.cell? ⟨w.heap.size, 4, none⟩ = some (.int .u64 (P.b 0)) ∧ W.cell? ⟨w.heap.size, 5, none⟩ = some (.int .u64 (P.b 1)) ∧ W.cell? ⟨w.heap.size, 6, none⟩ = some (.int .u64 (P.b 2)) ∧ W.cell? ⟨w.heap.size, 7, none⟩ = some (.int .u64 (P.b 3)) ∧ W.cell? ⟨pA, 0, none⟩ = some (leadV LA) ∧ W.cell? ⟨pB, 0, none⟩ = some (leadV LC)) := fun W hb hp => by
    obtain ⟨x0, x1, x2, x3, x4, x5, x6, x7⟩ := PBk.cells hp
    exact ⟨x0, x1, x2, x3, x4, x5, x6, x7, (hW.out.ca.below hb hW.out.ca.lt).cell 0 rfl, (hW.out.cb.below hb hW.out.cb.lt).cell 0 rfl⟩
  refine wp_region_held_drew (S := fun w' => w'.cell? ⟨w.heap.size, 0, none⟩ = some (.int .u64 (P.a 0)) ∧ w'.cell? ⟨w.heap.size, 1, none⟩ = some (.int .u64 (P.a 1)) ∧ w'.cell? ⟨w.heap.size, 2, none⟩ = some (.int .u64 (P.a 2)) ∧ w'.cell? ⟨w.heap.size, 3, none⟩ = some (.int .u64 (P.a 3)) ∧ w'.cell? ⟨w.heap.size, 4, none⟩ = some (.int .u64 (P.b 0)) ∧ w'.cell? ⟨w.heap.size, 5, none⟩ = some (.int .u64 (P.b 1)) ∧ w'.cell? ⟨w.heap.size, 6, none⟩ = some (.int .u64 (P.b 2)) ∧ w'.cell? ⟨w.heap.size, 7, none⟩ = some (.int .u64 (P.b 3)) ∧ w'.cell? ⟨pA, 0, none⟩ = some (leadV LA) ∧ w'.cell? ⟨pB, 0, none⟩ = some (leadV LC)) (by kernel_rfl) (cellsAt.out _ B0.out.drew (Blk.drew K0.out)) (fun hS0 => ?_)
  have B1 : Hid (Below w.heap.size w V0.drew) := B0.out.drew
  have K1 : Hid (PBk V0.drew w.heap.size P) := Blk.drew K0.out
  have R1 : Hid (Blk V0.drew (w.heap.size + 1) 106 spzero) := Blk.drew R0.out
  clear B0 K0 R0
  revert B1 K1 R1 hS0
  generalize V0.drew = Y0
  intro hS0 B1 K1 R1
  refine wpAnyH_take (i := 0) (v := leadV LA) rfl (by kernel_rfl) (by kernel_rfl) (by kernel_rfl) (fun _ _ _ h => h) (Or.inl ⟨by kernel_rfl, fun w' hw' => by obtain ⟨q0, q1, q2, q3, q4, q5, q6, q7, q8, q9⟩ := hw'; go_simp⟩) hS0 ?_
  refine wpAnyH_take (i := 1) (v := .pointer (some ⟨w.heap.size, 0, none⟩)) rfl (by kernel_rfl) (by kernel_rfl) (by kernel_rfl) (fun _ _ _ h => h) (Or.inl ⟨by kernel_rfl, fun w' hw' => by obtain ⟨q0, q1, q2, q3, q4, q5, q6, q7, q8, q9⟩ := hw'; go_simp⟩) hS0 ?_
  refine wpAnyH_take (i := 2) (v := sval P.a) rfl (by kernel_rfl) (by kernel_rfl) (by kernel_rfl) (fun _ _ _ h => h) (Or.inl ⟨by kernel_rfl, fun w' hw' => by obtain ⟨q0, q1, q2, q3, q4, q5, q6, q7, q8, q9⟩ := hw'; go_simp⟩) hS0 ?_
  refine wpAnyH_take (i := 3) (v := .int .i64 e) rfl (by kernel_rfl) (by kernel_rfl) (by kernel_rfl) (fun _ _ _ h => h) (Or.inl ⟨by kernel_rfl, fun w' hw' => by obtain ⟨q0, q1, q2, q3, q4, q5, q6, q7, q8, q9⟩ := hw'; go_simp⟩) hS0 ?_
  refine wpAnyH_take (i := 5) (v := leadV LC) rfl (by kernel_rfl) (by kernel_rfl) (by kernel_rfl) (fun _ _ _ h => h) (Or.inl ⟨by kernel_rfl, fun w' hw' => by obtain ⟨q0, q1, q2, q3, q4, q5, q6, q7, q8, q9⟩ := hw'; go_simp⟩) hS0 ?_
  refine wpAnyH_take (i := 6) (v := .pointer (some ⟨w.heap.size, 4, none⟩)) rfl (by kernel_rfl) (by kernel_rfl) (by kernel_rfl) (fun _ _ _ h => h) (Or.inl ⟨by kernel_rfl, fun w' hw' => by obtain ⟨q0, q1, q2, q3, q4, q5, q6, q7, q8, q9⟩ := hw'; go_simp⟩) hS0 ?_
  refine wpAnyH_take (i := 7) (v := sval P.b) rfl (by kernel_rfl) (by kernel_rfl) (by kernel_rfl) (fun _ _ _ h => h) (Or.inl ⟨by kernel_rfl, fun w' hw' => by obtain ⟨q0, q1, q2, q3, q4, q5, q6, q7, q8, q9⟩ := hw'; go_simp⟩) hS0 ?_
  refine wpAnyH_take (i := 8) (v := .int .i64 e) rfl (by kernel_rfl) (by kernel_rfl) (by kernel_rfl) (fun _ _ _ h => h) (Or.inl ⟨by kernel_rfl, fun w' hw' => by obtain ⟨q0, q1, q2, q3, q4, q5, q6, q7, q8, q9⟩ := hw'; go_simp⟩) hS0 ?_
  simp only [Act.put, List.setIfInBounds_toArray]
  refine wpAnyH_ready (rs := [4]) (by kernel_rfl) (by simp) ?_
  refine AllReadyH.cons rfl (fun K' hK' => ?_) AllReadyH.nil
  go_simp
  refine (lead1_any sa ev e LA TA hTA.out P.a o1.out ha.out he hev8 hsa _ (hT.out.below B1.out hT.out.lt) (hW.out.la.below B1.out hW.out.la.lt)).mono ?_
  rintro e1 Y1 ⟨rfl, hb1⟩
  have B2 := Hid.of (B1.out.trans (hb1.mono B1.out.size))
  have K2 := Hid.of (K1.out.below hb1 K1.out.lt)
  have R2 := Hid.of (R1.out.below hb1 R1.out.lt)
  refine hK'.out _ _ (cellsAt.out _ B2.out K2.out) (fun hS1 => ?_)
  clear hK' K' hb1 B1 K1 R1 hS0
  refine wpAnyH_ready (rs := [9]) (by kernel_rfl) (by simp) ?_
  refine AllReadyH.cons rfl (fun K' hK' => ?_) AllReadyH.nil
  go_simp
  refine (lead1_any sb ev e LC TC hTC.out P.b o2.out hb.out he hev8 hsb _ (hT.out.below B2.out hT.out.lt) (hW.out.lb.below B2.out hW.out.lb.lt)).mono ?_
  rintro e1 Y2 ⟨rfl, hb1⟩
  have B3 := Hid.of (B2.out.trans (hb1.mono B2.out.size))
  have K3 := Hid.of (K2.out.below hb1 K2.out.lt)
  have R3 := Hid.of (R2.out.below hb1 R2.out.lt)
  refine hK'.out _ _ (cellsAt.out _ B3.out K3.out) (fun hS2 => ?_)
  clear hK' K' hb1 B2 K2 R2 hS1
  obtain ⟨QA, HQA⟩ : ∃ Q, Hid (Q = leadF TA ev e (allS P.a)) := ⟨_, rfl⟩
  obtain ⟨QB, HQB⟩ : ∃ Q, Hid (Q = leadF TC ev e (allS P.b)) := ⟨_, rfl⟩
  rw [← HQA.out, ← HQB.out]
  have HR : Hid (leadSP P TA TC ev e = ⟨QA, QB⟩) := by show _ = _; unfold leadSP; rw [HQA.out, HQB.out]
  refine wpAnyH_take (i := 10) (v := spval ⟨QA, QB⟩) rfl (by kernel_rfl) (by kernel_rfl) (by kernel_rfl) (fun _ _ _ h => h) (Or.inl ⟨by kernel_rfl, fun w' hw' => by obtain ⟨q0, q1, q2, q3, q4, q5, q6, q7, q8, q9⟩ := hw'; go_simp⟩) hS2 ?_
  refine wpAnyH_ready (rs := [11]) (by kernel_rfl) (by simp) ?_
  refine AllReadyH.cons rfl (fun K' hK' => ?_) AllReadyH.nil
  have rz := R3.out.frozen
  have r0 := R3.out.cell 0 rfl
  have r1 := R3.out.cell 1 rfl
  have r2 := R3.out.cell 2 rfl
  have r3 := R3.out.cell 3 rfl
  have r4 := R3.out.cell 4 rfl
  have r5 := R3.out.cell 5 rfl
  have r6 := R3.out.cell 6 rfl
  have r7 := R3.out.cell 7 rfl
  have RR := Hid.of (PBk.set8 R3.out ⟨QA, QB⟩)
  have BB := Hid.of (below_set8 B3.out (b' := w.heap.size + 1) (by omega) (.int .u64 (QA 0)) (.int .u64 (QA 1)) (.int .u64 (QA 2)) (.int .u64 (QA 3)) (.int .u64 (QB 0)) (.int .u64 (QB 1)) (.int .u64 (QB 2)) (.int .u64 (QB 3)))
  have KK : Hid (PBk _ w.heap.size P) := Blk.other4' (Blk.other4' K3.out 0 (Nat.ne_of_lt (Nat.lt_succ_self _)) (.int .u64 (QA 0)) (.int .u64 (QA 1)) (.int .u64 (QA 2)) (.int .u64 (QA 3))) 4 (Nat.ne_of_lt (Nat.lt_succ_self _)) (.int .u64 (QB 0)) (.int .u64 (QB 1)) (.int .u64 (QB 2)) (.int .u64 (QB 3))
  go_simp
  refine hK'.out _ _ (cellsAt.out _ BB.out KK.out) (fun hS3 => ?_)
  clear hK' K' r0 r1 r2 r3 r4 r5 r6 r7 rz hS2 hS3
  refine wpAnyH_done (by kernel_rfl) ?_ _
  obtain ⟨r0, r1, r2, r3, r4, r5, r6, r7⟩ := PBk.cells RR.out
  go_wp2
  refine bodyPost_ret (v := spval ⟨QA, QB⟩) ?_ rfl ⟨by rw [HR.out], BB.out⟩
  simp [results, go_sem, r0, r1, r2, r3, r4, r5, r6, r7]

end Go.Proofs.YtdnglodemkeooaaDoor
