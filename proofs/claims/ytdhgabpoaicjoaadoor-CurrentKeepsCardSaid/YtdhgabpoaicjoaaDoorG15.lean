/-
  Small facts on rows that a call has made: their blocks are apart by their types; a block that is another object.
  Sets of states as keys of a map.
  Plain: what package hide finds by sets: where unseen events lead to, by middle states; where seen ones lead to; that it is the machine of what is seen. No program, no model.
  Plain: the estimates of a plant, by the machine of what is seen of it and its sets; the search for the least list that leaks. No program, no model.
  A map keyed by sets of states, and rows of places of package current, as the model runs them.
-/
import Derived.Test.YtdhgabpoaicjoaaDoorG14
import Derived.Test.YtdhgabpoaicjoaaDoorG04
import Derived.Test.YtdhgabpoaicjoaaDoorCSBase
import Derived.DeepKeys4
import Derived.Maps.Keyed
import Derived.Carry
import Derived.Test.YtdhgabpoaicjoaaDoorG07
import Derived.Test.YtdhgabpoaicjoaaDoorG10
namespace Go.Proofs.YtdhgabpoaicjoaaDoor
open Go.RowKit
set_option linter.unusedVariables false

theorem own_type {W : World} {B s n k : Nat} {e : TypeId} {v : Value} {xs : List Value} (h : W.ownsRow B e s v n xs) (hk : v.ownBlock = some k) : ∃ cs, W.heap[k]? = some (.cells cs e (0, 0)) := by
  rcases h.2 with ⟨rfl, -⟩ | ⟨g, cap, cur, rfl, hg, hh, -⟩
  · cases hk
  · cases hk; exact ⟨cur, hh⟩
theorem own_apart {W : World} {B B' s s' n n' : Nat} {e e' : TypeId} {v v' : Value} {xs xs' : List Value} (h : W.ownsRow B e s v n xs) (h' : W.ownsRow B' e' s' v' n' xs') (hne : e ≠ e') : v.ownBlock = none ∨ v.ownBlock ≠ v'.ownBlock := by
  cases hk : v.ownBlock with
  | none => exact .inl rfl
  | some k =>
    refine .inr fun e1 => ?_
    obtain ⟨c1, h1⟩ := own_type h hk
    obtain ⟨c2, h2⟩ := own_type h' e1.symm
    rw [h1] at h2; cases h2; exact hne rfl
theorem own_form2 {W : World} {B s n : Nat} {e : TypeId} {v : Value} {xs : List Value} (h : W.ownsRow B e s v n xs) : ∃ a c, v = .slice a n c ∧ n ≤ c ∧ c ≤ maxLen ∧ (a = none → c = 0) := by
  rcases h.2 with ⟨rfl, rfl⟩ | ⟨g, cap, cur, rfl, -, -, h1, h2, -⟩
  · exact ⟨none, 0, rfl, Nat.le_refl _, Nat.zero_le _, fun _ => rfl⟩
  · exact ⟨_, cap, rfl, h1, h2, fun h => by cases h⟩
theorem own_same {W W' : World} {B s n : Nat} {e : TypeId} {v : Value} {xs : List Value} (h : W.ownsRow B e s v n xs) (hb : ∀ k, v.ownBlock = some k → W'.heap[k]? = W.heap[k]?) : W'.ownsRow B e s v n xs := by
  refine ⟨h.1, ?_⟩
  rcases h.2 with hn | ⟨g, cap, cur, rfl, hg, hgg, rest⟩
  · exact .inl hn
  · exact .inr ⟨g, cap, cur, rfl, hg, (hb g rfl).trans hgg, rest⟩
theorem cells_three (W W' : World) (hW : W'.heap = W.heap) (t : TypeId) (x y z : Value) : ∀ j u, ([x, y, z] : List Value)[j]? = some u → (W'.alloc (.cells #[x, y, z] t)).cell? ((⟨W.heap.size, 0, none⟩ : Addr).add j) = some u := by
  intro j u hu
  rw [addr0_add, Nat.zero_add, ← hW]
  exact (Blk.new W' t #[x, y, z]).cell j (by rw [← Array.getElem?_toList]; exact hu)
theorem own_arr {W : World} {B : Nat} {v : Value} {A : List Arr} {x : Arr} (h : W.ownsRow B 61 3 v (A.length + 1) (aflat A ++ [.int .i64 x.f, .int .i64 x.e, .int .i64 x.t])) : OwnA W B v (A ++ [x]) := by
  unfold OwnA
  rw [List.length_append, aflat_append]
  exact h
/-- A block is another object. -/
def setMap (w : World) (b : Nat) (o : Obj) : World := { w with heap := w.heap.setIfInBounds b o }
theorem heap_setMap_ne (W : World) (b : Nat) (o : Obj) {j : Nat} (h : j ≠ b) : (setMap W b o).heap[j]? = W.heap[j]? := by
  simp [setMap, Ne.symm h]
theorem heap_setMap (W : World) {b : Nat} (o : Obj) (h : b < W.heap.size) : (setMap W b o).heap[b]? = some o := by
  simp [setMap, h]
theorem size_setMap (W : World) (b : Nat) (o : Obj) : (setMap W b o).heap.size = W.heap.size := by simp [setMap]
theorem ownsRow_set {W : World} {B b j s n : Nat} {e : TypeId} {v : Value} {xs : List Value} (h : W.ownsRow B e s v n xs) (hb : b < B) (x : Value) : (W.setCell ⟨b, j, none⟩ x).ownsRow B e s v n xs := by
  refine ⟨h.1, ?_⟩
  rcases h.2 with hn | ⟨g, cap, cur, rfl, hg, hgg, rest⟩
  · exact .inl hn
  · exact .inr ⟨g, cap, cur, rfl, hg, (Below.heap_setCell W ⟨b, j, none⟩ x g (by show g ≠ b; omega)).trans hgg, rest⟩

end Go.Proofs.YtdhgabpoaicjoaaDoor
namespace Go.Proofs.YtdhgabpoaicjoaaDoor
open Go.RowKit
set_option linter.unusedVariables false

theorem laidOutS : laidOutB Tryd.prog = true := by kernel_rfl
theorem rowSet : (65 : TypeId) < Tryd.prog.types.size := of_decide_eq_true (by kernel_rfl)
theorem wideSet : (match Tryd.prog.underlying 65 with | some (.array _ _) | some (.struct _) => true | _ => false) = true := by kernel_rfl
set_option maxRecDepth 100000 in
theorem lawSet : WideMaps.KeyLaw Tryd.prog 65 := deep_law_laid laidOutS (m := 3) (by omega) rowSet (by kernel_rfl) wideSet
theorem wf_u64 {n : Nat} (h : n < 18446744073709551616) : (Lit.int .u64 (n : Int)).wf = true := by
  have h1 : IntKind.u64.min = 0 := rfl
  have h2 : IntKind.u64.max = 18446744073709551615 := rfl
  simp [Lit.wf, h1, h2]; omega
set_option maxRecDepth 100000 in
theorem keySet {S : Nat → Nat} (h : okS S) : ∃ l, keyOf Tryd.prog 65 (sval S) = some l := by
  have h0 := wf_u64 (h 0)
  have h1 := wf_u64 (h 1)
  have h2 := wf_u64 (h 2)
  have h3 := wf_u64 (h 3)
  have hk : Tryd.prog.keyType 65 = true := by kernel_rfl
  have hc : Tryd.prog.cellsOf 65 = 4 := by kernel_rfl
  have hci : Tryd.prog.cellsOf 63 = 1 := by kernel_rfl
  have hs : ∃ m, Tryd.prog.types.size = m + 1 := ⟨_, (Nat.succ_pred_eq_of_pos (Nat.lt_of_le_of_lt (Nat.zero_le _) rowSet)).symm⟩
  obtain ⟨m, hm⟩ := hs
  unfold keyOf
  simp only [Tryd.underlying65]
  rw [if_pos (by simp [hk, Value.formed, Tryd.underlying65, hc]), hm]
  unfold Program.keyLits
  simp only [Tryd.underlying65, Value.cells]
  have hr : List.range 4 = [0, 1, 2, 3] := rfl
  simp [hc, hci, Program.keyLits, Tryd.underlying63, hr, h0, h1, h2, h3]

theorem sval_eq {S T : Nat → Nat} (h : sval S = sval T) : eqS S T := by
  simp at h
  obtain ⟨h0, h1, h2, h3⟩ := h
  exact ⟨by omega, by omega, by omega, by omega⟩
theorem eqS_sval {S T : Nat → Nat} (h : eqS S T) : sval S = sval T := by
  obtain ⟨h0, h1, h2, h3⟩ := h
  show Value.agg #[_, _, _, _] = Value.agg #[_, _, _, _]
  rw [h0, h1, h2, h3]

end Go.Proofs.YtdhgabpoaicjoaaDoor
namespace Go.Proofs.YtdhgabpoaicjoaaDoor
open Go.RowKit
set_option linter.unusedVariables false

/-- Each state by itself, the first n of them. -/
def iniT (n : Nat) : Nat → Nat → Nat := fun p => if p < n then withS zeroS p else zeroS
theorem okS_ini (n p : Nat) : okS (iniT n p) := by
  unfold iniT; split
  · exact okS_with okS_zero _
  · exact okS_zero
theorem has_ini {n p k : Nat} (h : p < n) : hasS (iniT n p) k = decide (k = p) := by
  unfold iniT; rw [if_pos h, hasS_with, hasS_zero]; rfl

/-- One arrow more. -/
def qStep (seen : List Int) (T : Nat → Nat → Nat) (a : Arr) : Nat → Nat → Nat := if hasB seen a.e = true then T else tabKStep (·.f) (·.t) T a
def qTab (seen : List Int) (N : Nat) (ars : List Arr) : Nat → Nat → Nat := ars.foldl (qStep seen) (iniT N)
theorem qTab_take {seen : List Int} {N : Nat} {ars : List Arr} {k : Nat} {a : Arr} (h : k < ars.length) (ha : Hid (a = ars[k]?.getD arr0)) : qTab seen N (ars.take (k + 1)) = qStep seen (qTab seen N (ars.take k)) a := by
  have ha := ha.out
  rw [List.getElem?_eq_getElem h, Option.getD_some] at ha
  unfold qTab
  rw [List.take_add_one, List.getElem?_eq_getElem h, ← ha]
  simp [List.foldl_append]
theorem okS_qStep {seen : List Int} {T : Nat → Nat → Nat} (h : ∀ p, okS (T p)) (a : Arr) : ∀ p, okS (qStep seen T a p) := fun p => by
  unfold qStep; split
  · exact h p
  · exact okS_tabKStep h a p
theorem okS_qFold {seen : List Int} : ∀ (ars : List Arr) (T : Nat → Nat → Nat), (∀ p, okS (T p)) → ∀ p, okS (ars.foldl (qStep seen) T p)
  | [], _, h => h
  | a :: r, T, h => okS_qFold r _ (okS_qStep h a)
theorem okS_qTab (seen : List Int) (N : Nat) (ars : List Arr) (p : Nat) : okS (qTab seen N ars p) := okS_qFold ars _ (okS_ini N) p
theorem has_qFold {seen : List Int} {p n : Nat} : ∀ (ars : List Arr) (T : Nat → Nat → Nat), hasS (ars.foldl (qStep seen) T p) n = true ↔ hasS (T p) n = true ∨ ∃ a ∈ unseenA ars seen, p = a.f.toNat ∧ n = a.t.toNat
  | [], T => by simp [unseenA]
  | a :: r, T => by
    rw [List.foldl_cons, has_qFold r]
    have e : hasS (qStep seen T a p) n = true ↔ hasS (T p) n = true ∨ (hasB seen a.e = false ∧ p = a.f.toNat ∧ n = a.t.toNat) := by
      unfold qStep
      split
      · rename_i h; simp [h]
      · rename_i h
        have h : hasB seen a.e = false := by simpa using h
        unfold tabKStep
        by_cases hp : p = a.f.toNat
        · rw [if_pos hp, hasS_with, Bool.or_eq_true, decide_eq_true_eq]; simp [h, hp]
        · rw [if_neg hp]; simp [hp]
    rw [e, or_assoc]
    refine or_congr Iff.rfl ?_
    constructor
    · rintro (⟨h1, h2⟩ | ⟨c, hc, h2⟩)
      · exact ⟨a, (mem_unseen _ _ _).2 ⟨by simp, h1⟩, h2⟩
      · exact ⟨c, (mem_unseen _ _ _).2 ⟨by simp [((mem_unseen _ _ _).1 hc).1], ((mem_unseen _ _ _).1 hc).2⟩, h2⟩
    · rintro ⟨c, hc, h2⟩
      obtain ⟨h1, h3⟩ := (mem_unseen _ _ _).1 hc
      rcases List.mem_cons.1 h1 with rfl | h1
      · exact .inl ⟨h3, h2⟩
      · exact .inr ⟨c, (mem_unseen _ _ _).2 ⟨h1, h3⟩, h2⟩
theorem has_qTab {seen : List Int} {N p n : Nat} (ars : List Arr) (hp : p < N) : hasS (qTab seen N ars p) n = true ↔ n = p ∨ ∃ a ∈ unseenA ars seen, p = a.f.toNat ∧ n = a.t.toNat := by
  unfold qTab; rw [has_qFold, has_ini hp, decide_eq_true_eq]

/-- One middle state more: the first j rows are done. -/
def fIn (T : Nat → Nat → Nat) (k j : Nat) : Nat → Nat → Nat := fun p => if p < j ∧ hasS (T p) k = true then joinS (T p) (T k) else T p
def fOut (T : Nat → Nat → Nat) (N : Nat) : Nat → Nat → Nat → Nat
  | 0 => T
  | k + 1 => fIn (fOut T N k) k N
theorem joinS_self (S : Nat → Nat) : joinS S S = S := by funext k; simp [joinS]
theorem fIn_zero (T : Nat → Nat → Nat) (k : Nat) : fIn T k 0 = T := by funext p; simp [fIn]
theorem fIn_at (T : Nat → Nat → Nat) (k j : Nat) : fIn T k j j = T j := by simp [fIn]
theorem fIn_mid (T : Nat → Nat → Nat) (k j : Nat) : fIn T k j k = T k := by
  unfold fIn; split
  · exact joinS_self _
  · rfl
theorem fIn_yes {T : Nat → Nat → Nat} {k j : Nat} (h : hasS (T j) k = true) : fIn T k (j + 1) = fun p => if p = j then joinS (T j) (T k) else fIn T k j p := by
  funext p
  unfold fIn
  by_cases hp : p = j
  · subst hp; simp [h]
  · have : (p < j + 1) ↔ p < j := by omega
    simp [hp, this]
theorem fIn_no {T : Nat → Nat → Nat} {k j : Nat} (h : hasS (T j) k = false) : fIn T k (j + 1) = fIn T k j := by
  funext p
  unfold fIn
  by_cases hp : p = j
  · subst hp; simp [h]
  · have : (p < j + 1) ↔ p < j := by omega
    simp [this]
theorem okS_fIn {T : Nat → Nat → Nat} (h : ∀ p, okS (T p)) (k j p : Nat) : okS (fIn T k j p) := by
  unfold fIn; split
  · exact okS_join (h p) (h k)
  · exact h p
theorem okS_fOut {T : Nat → Nat → Nat} (h : ∀ p, okS (T p)) (N : Nat) : ∀ k p, okS (fOut T N k p)
  | 0, p => h p
  | k + 1, p => okS_fIn (okS_fOut h N k) k N p
theorem has_fIn {T : Nat → Nat → Nat} {k N p n : Nat} (hp : p < N) : hasS (fIn T k N p) n = true ↔ hasS (T p) n = true ∨ (hasS (T p) k = true ∧ hasS (T k) n = true) := by
  unfold fIn
  cases h : hasS (T p) k with
  | true => simp [hp, hasS_join]
  | false => simp
/-- By the first k states as middle ones all ways are known. -/
structure Mid (T : Nat → Nat → Nat) (N k : Nat) (U : Nat → Nat → Nat) : Prop where
  sub : ∀ p n, p < N → hasS (T p) n = true → hasS (U p) n = true
  tr : ∀ p q n, p < N → q < k → hasS (U p) q = true → hasS (U q) n = true → hasS (U p) n = true
theorem mid_out (T : Nat → Nat → Nat) (N : Nat) : ∀ k, k ≤ N → Mid T N k (fOut T N k)
  | 0, _ => ⟨fun _ _ _ h => h, fun _ q _ _ h => absurd h (Nat.not_lt_zero q)⟩
  | k + 1, hk => by
    have h := mid_out T N k (by omega)
    refine ⟨fun p n hp hx => (has_fIn hp).2 (.inl (h.sub p n hp hx)), fun p q n hp hq h1 h2 => ?_⟩
    have hqN : q < N := by omega
    have h1 := (has_fIn hp).1 h1
    have h2 := (has_fIn hqN).1 h2
    refine (has_fIn hp).2 ?_
    by_cases e : q = k
    · subst e
      have h1' : hasS (fOut T N q p) q = true := by
        rcases h1 with h1 | h1
        · exact h1
        · exact h1.1
      have h2' : hasS (fOut T N q q) n = true := by
        rcases h2 with h2 | h2
        · exact h2
        · exact h2.2
      exact .inr ⟨h1', h2'⟩
    · have hq : q < k := by omega
      rcases h1 with h1 | ⟨h1, h3⟩
      · rcases h2 with h2 | ⟨h2, h4⟩
        · exact .inl (h.tr p q n hp hq h1 h2)
        · exact .inr ⟨h.tr p q k hp hq h1 h2, h4⟩
      · rcases h2 with h2 | ⟨h2, h4⟩
        · exact .inr ⟨h1, h.tr k q n (by omega) hq h3 h2⟩
        · exact .inr ⟨h1, h4⟩
theorem sound_out {T : Nat → Nat → Nat} {N : Nat} (G : Nat → Nat → Prop) (h0 : ∀ p n, p < N → hasS (T p) n = true → G p n) (ht : ∀ p q n, p < N → q < N → G p q → G q n → G p n) : ∀ k, k ≤ N → ∀ p n, p < N → hasS (fOut T N k p) n = true → G p n
  | 0, _, p, n, hp, h => h0 p n hp h
  | k + 1, hk, p, n, hp, h => by
    rcases (has_fIn hp).1 h with h | ⟨h1, h2⟩
    · exact sound_out G h0 ht k (by omega) p n hp h
    · exact ht p k n hp (by omega) (sound_out G h0 ht k (by omega) p k hp h1) (sound_out G h0 ht k (by omega) k n (by omega) h2)

/-- Of each state, where unseen events lead to. -/
def stillT (seen : List Int) (N : Nat) (ars : List Arr) : Nat → Nat → Nat := fOut (qTab seen N ars) N N
theorem okS_still (seen : List Int) (N : Nat) (ars : List Arr) (p : Nat) : okS (stillT seen N ars p) := okS_fOut (okS_qTab seen N ars) N N p
theorem rch_trans {fr to : Arr → Int} {ars : List Arr} {l l' : List Int} {x : Int} (h : ∀ y ∈ l', Rch fr to ars l y) (hx : Rch fr to ars l' x) : Rch fr to ars l x :=
  fun P hP => hx P ⟨fun y hy => h y hy P hP, hP.step⟩
theorem rch_one {fr to : Arr → Int} {ars : List Arr} {l : List Int} {x : Int} : Rch fr to ars l x ↔ ∃ y ∈ l, Rch fr to ars [y] x := by
  constructor
  · intro h
    refine h (fun x => ∃ y ∈ l, Rch fr to ars [y] x) ⟨fun y hy => ⟨y, hy, rch_start (by simp)⟩, fun a ha ⟨y, hy, h⟩ => ⟨y, hy, rch_step ha h⟩⟩
  · rintro ⟨y, hy, h⟩
    exact rch_trans (fun z hz => by have : z = y := by simpa using hz
                                    rw [this]; exact rch_start hy) h
theorem has_still {m : Mach} (hm : mayB m = true) (seen : List Int) {N : Nat} (hN : m.st = (N : Int)) {p n : Nat} (hp : p < N) : hasS (stillT seen N m.arrows p) n = true ↔ Rch (·.f) (·.t) (unseenA m.arrows seen) [(p : Int)] (n : Int) := by
  have hb : ∀ a ∈ unseenA m.arrows seen, (0 ≤ a.f ∧ a.f < (N : Int)) ∧ 0 ≤ a.t ∧ a.t < (N : Int) := fun a ha => by
    have := may_arrs hm a ((mem_unseen _ _ _).1 ha).1
    rw [hN] at this
    exact ⟨⟨this.1, this.2.1⟩, this.2.2.1, this.2.2.2.1⟩
  constructor
  · refine fun h => sound_out (fun p n => Rch (·.f) (·.t) (unseenA m.arrows seen) [(p : Int)] (n : Int)) (fun p n hp h => ?_) (fun p q n hp hq h1 h2 => ?_) N (Nat.le_refl _) p n hp h
    · rcases (has_qTab _ hp).1 h with rfl | ⟨a, ha, rfl, rfl⟩
      · exact rch_start (by simp)
      · have h1 := hb a ha
        have : Rch (·.f) (·.t) (unseenA m.arrows seen) [((a.f.toNat : Nat) : Int)] a.f := rch_start (by simp; omega)
        have := rch_step (fr := (·.f)) (to := (·.t)) ha this
        rwa [show ((a.t.toNat : Nat) : Int) = a.t by omega]
    · exact rch_trans (fun y hy => by have : y = (q : Int) := by simpa using hy
                                      rw [this]; exact h1) h2
  · intro h
    have hM := mid_out (qTab seen N m.arrows) N N (Nat.le_refl _)
    have := h (fun x => 0 ≤ x ∧ x < (N : Int) ∧ hasS (stillT seen N m.arrows p) x.toNat = true) ⟨fun y hy => ?_, fun a ha h => ?_⟩
    · simpa using this.2.2
    · have : y = (p : Int) := by simpa using hy
      subst this
      exact ⟨by omega, by omega, by rw [Int.toNat_natCast]; exact hM.sub p p hp ((has_qTab _ hp).2 (.inl rfl))⟩
    · have h1 := hb a ha
      refine ⟨h1.2.1, h1.2.2, hM.tr p a.f.toNat a.t.toNat hp (by omega) h.2.2 (hM.sub _ _ (by omega) ((has_qTab _ (by omega)).2 (.inr ⟨a, ha, rfl, rfl⟩)))⟩

/-- Of each seen event and each state, where it leads to. -/
def lStep (seen : List Int) (S : Nat → Nat → Nat) (U : Nat → Nat → Nat → Nat) (a : Arr) : Nat → Nat → Nat → Nat := if hasB seen a.e = true then (fun k => if k = (placeI seen a.e).toNat then (fun p => if p = a.f.toNat then joinS (U k p) (S a.t.toNat) else U k p) else U k) else U
def lTab (seen : List Int) (S : Nat → Nat → Nat) (ars : List Arr) : Nat → Nat → Nat → Nat := ars.foldl (lStep seen S) (fun _ _ => zeroS)
theorem lTab_take {seen : List Int} {S : Nat → Nat → Nat} {ars : List Arr} {k : Nat} {a : Arr} (h : k < ars.length) (ha : Hid (a = ars[k]?.getD arr0)) : lTab seen S (ars.take (k + 1)) = lStep seen S (lTab seen S (ars.take k)) a := by
  have ha := ha.out
  rw [List.getElem?_eq_getElem h, Option.getD_some] at ha
  unfold lTab
  rw [List.take_add_one, List.getElem?_eq_getElem h, ← ha]
  simp [List.foldl_append]
theorem okS_lStep {seen : List Int} {S : Nat → Nat → Nat} (hS : ∀ p, okS (S p)) {U : Nat → Nat → Nat → Nat} (h : ∀ k p, okS (U k p)) (a : Arr) : ∀ k p, okS (lStep seen S U a k p) := fun k p => by
  unfold lStep; split
  · dsimp only
    split
    · show okS (if p = a.f.toNat then joinS (U k p) (S a.t.toNat) else U k p)
      split
      · exact okS_join (h k p) (hS _)
      · exact h k p
    · exact h k p
  · exact h k p
theorem okS_lFold {seen : List Int} {S : Nat → Nat → Nat} (hS : ∀ p, okS (S p)) : ∀ (ars : List Arr) (U : Nat → Nat → Nat → Nat), (∀ k p, okS (U k p)) → ∀ k p, okS (ars.foldl (lStep seen S) U k p)
  | [], _, h => h
  | a :: r, U, h => okS_lFold hS r _ (okS_lStep hS h a)
theorem okS_lTab {seen : List Int} {S : Nat → Nat → Nat} (hS : ∀ p, okS (S p)) (ars : List Arr) (k p : Nat) : okS (lTab seen S ars k p) := okS_lFold hS ars _ (fun _ _ => okS_zero) k p
theorem has_lFold {seen : List Int} {S : Nat → Nat → Nat} {k p n : Nat} : ∀ (ars : List Arr) (U : Nat → Nat → Nat → Nat), hasS (ars.foldl (lStep seen S) U k p) n = true ↔ hasS (U k p) n = true ∨ ∃ a ∈ ars, hasB seen a.e = true ∧ k = (placeI seen a.e).toNat ∧ p = a.f.toNat ∧ hasS (S a.t.toNat) n = true
  | [], U => by simp
  | a :: r, U => by
    rw [List.foldl_cons, has_lFold r]
    have e : hasS (lStep seen S U a k p) n = true ↔ hasS (U k p) n = true ∨ (hasB seen a.e = true ∧ k = (placeI seen a.e).toNat ∧ p = a.f.toNat ∧ hasS (S a.t.toNat) n = true) := by
      unfold lStep
      split
      · rename_i h
        dsimp only
        by_cases hk : k = (placeI seen a.e).toNat
        · rw [if_pos hk]
          by_cases hp : p = a.f.toNat
          · rw [if_pos hp, hasS_join, Bool.or_eq_true]; simp [h, hk, hp]
          · rw [if_neg hp]; simp [hp]
        · rw [if_neg hk]; simp [hk]
      · rename_i h; simp [h]
    rw [e, or_assoc]
    simp only [List.mem_cons, exists_eq_or_imp]
theorem has_lTab {seen : List Int} {S : Nat → Nat → Nat} {k p n : Nat} (ars : List Arr) : hasS (lTab seen S ars k p) n = true ↔ ∃ a ∈ ars, hasB seen a.e = true ∧ k = (placeI seen a.e).toNat ∧ p = a.f.toNat ∧ hasS (S a.t.toNat) n = true := by
  unfold lTab; rw [has_lFold]; simp [hasS_zero]

/-- What is laid from a state, at a seen event. -/
def layS (seen : List Int) (N : Nat) (ars : List Arr) (f k : Nat) : Nat → Nat := toF (lTab seen (stillT seen N ars) ars k) (allS (stillT seen N ars f))
def layR (seen : List Int) (N : Nat) (ars : List Arr) (f k : Nat) : List Arr := (allS (layS seen N ars f k)).map fun n : Nat => ⟨(f : Int), (k : Int), (n : Int)⟩
theorem layR_eq {m : Mach} (hm : mayB m = true) {seen : List Int} (hs : rowB m.ev seen = true) {N : Nat} (hN : m.st = (N : Int)) {f k : Nat} (hf : f < N) (hk : k < seen.length) : layR seen N m.arrows f k = hRow m seen f k := by
  have h0 := mayB_size hm
  unfold sizeOk at h0
  have hN2 : N ≤ 256 := by omega
  have hbS : ∀ p, p < N → ∀ n, hasS (stillT seen N m.arrows p) n = true → n < N := fun p hp n h => by
    have := rch_bd (n := (N : Int)) (fun x hx => by have : x = (p : Int) := by simpa using hx
                                                    omega) (fun a ha => by have := may_arrs hm a ((mem_unseen _ _ _).1 ha).1
                                                                           rw [hN] at this; exact ⟨this.2.2.1, this.2.2.2.1⟩) ((has_still hm seen hN hp).1 h)
    omega
  have e : rowS (layS seen N m.arrows f k) = wideL m.arrows seen (stepL m.arrows (wideL m.arrows seen [(f : Int)]) (seen[k]?.getD 0)) := by
    refine inc_ext (inc_rowS _) (inc_wide _ _ _) (fun x => ?_)
    rw [mem_rowS, mem_wide (may_to hm), rch_one]
    unfold layS
    have hkk : seen[k]? = some seen[k] := List.getElem?_eq_getElem hk
    have hI := ((rowB_iff _ (by omega) _).1 hs).1
    constructor
    · rintro ⟨hx0, hx1, hx⟩
      obtain ⟨q, hq, hx⟩ := (has_toF _ _ _).1 hx
      obtain ⟨-, hq⟩ := (mem_allS _ _).1 hq
      obtain ⟨a, ha, h1, h2, h3, h4⟩ := (has_lTab _).1 hx
      have hba := may_arrs hm a ha
      rw [hN] at hba
      obtain ⟨b1, b2, b3, b4, -⟩ := hba
      refine ⟨a.t, (mem_stepL _ _ _ _).2 ⟨a, ha, ?_, ?_, rfl⟩, ?_⟩
      · obtain ⟨j, hj⟩ := placeN_mem ((hasB_iff _ _).1 h1)
        rw [placeI_of hj] at h2
        have hk2 : k = j := by omega
        rw [hk2, placeN_some hj]; rfl
      · rw [mem_wide (may_to hm)]
        have := (has_still hm seen hN hf).1 hq
        rwa [show (q : Int) = a.f by omega] at this
      · have := (has_still hm seen hN (p := a.t.toNat) (by omega)).1 h4
        rwa [show ((a.t.toNat : Nat) : Int) = a.t by omega, Int.toNat_of_nonneg hx0] at this
    · rintro ⟨y, hy, hx⟩
      obtain ⟨a, ha, h1, h2, rfl⟩ := (mem_stepL _ _ _ _).1 hy
      rw [mem_wide (may_to hm)] at h2
      have hba := may_arrs hm a ha
      rw [hN] at hba
      obtain ⟨b1, b2, b3, b4, -⟩ := hba
      have hxb := rch_bd (n := (N : Int)) (fun x hx => by have : x = a.t := by simpa using hx
                                                          omega) (fun a ha => by have := may_arrs hm a ((mem_unseen _ _ _).1 ha).1
                                                                                 rw [hN] at this; exact ⟨this.2.2.1, this.2.2.2.1⟩) hx
      rw [hkk, Option.getD_some] at h1
      have hmem : a.e ∈ seen := by rw [h1]; exact List.getElem_mem hk
      refine ⟨hxb.1, by omega, (has_toF _ _ _).2 ⟨a.f.toNat, (mem_allS _ _).2 ⟨by omega, ?_⟩, (has_lTab _).2 ⟨a, ha, (hasB_iff _ _).2 hmem, ?_, rfl, ?_⟩⟩⟩
      · refine (has_still hm seen hN hf).2 ?_
        rwa [show ((a.f.toNat : Nat) : Int) = a.f by omega]
      · obtain ⟨j, hj⟩ := placeN_mem hmem
        rw [placeI_of hj]
        have h3 := placeN_some hj
        rw [h1] at h3
        have : k = j := by
          obtain ⟨hjl, h6⟩ := List.getElem?_eq_some_iff.1 h3
          rcases Nat.lt_trichotomy k j with h | h | h
          · have := List.pairwise_iff_getElem.1 hI k j hk hjl h; omega
          · exact h
          · have := List.pairwise_iff_getElem.1 hI j k hjl hk h; omega
        omega
      · refine (has_still hm seen hN (p := a.t.toNat) (by omega)).2 ?_
        rw [show ((a.t.toNat : Nat) : Int) = a.t by omega, Int.toNat_of_nonneg hxb.1]
        exact hx
  unfold layR hRow
  rw [← e]
  unfold rowS
  rw [List.map_map]; rfl
/-- Where the starts lead to, unseen. -/
theorem startS_eq {m : Mach} (hm : mayB m = true) (seen : List Int) {N : Nat} (hN : m.st = (N : Int)) : rowS (toF (stillT seen N m.arrows) (allS (ofS m.starts))) = wideL m.arrows seen m.starts := by
  have h0 := mayB_size hm
  unfold sizeOk at h0
  have hst := may_starts hm
  have hr : Rep (ofS m.starts) m.starts := by
    have := rep_of (l := m.starts) (fun x hx => by have := hst.2 x hx; omega) m.starts.length
    rwa [List.take_of_length_le (Nat.le_refl _)] at this
  refine inc_ext (inc_rowS _) (inc_wide _ _ _) (fun x => ?_)
  rw [mem_rowS, mem_wide (may_to hm), rch_one]
  constructor
  · rintro ⟨hx0, hx1, hx⟩
    obtain ⟨q, hq, hx⟩ := (has_toF _ _ _).1 hx
    obtain ⟨hq1, hq⟩ := (mem_allS _ _).1 hq
    have hq := (hr.mem q hq1).1 hq
    have := hst.2 _ hq
    refine ⟨(q : Int), hq, ?_⟩
    have := (has_still hm seen hN (p := q) (by omega)).1 hx
    rwa [Int.toNat_of_nonneg hx0] at this
  · rintro ⟨y, hy, hx⟩
    have hb := hst.2 y hy
    have hxb := rch_bd (n := (N : Int)) (fun x hx => by have : x = y := by simpa using hx
                                                        omega) (fun a ha => by have := may_arrs hm a ((mem_unseen _ _ _).1 ha).1
                                                                               rw [hN] at this; exact ⟨this.2.2.1, this.2.2.2.1⟩) hx
    refine ⟨hxb.1, by omega, (has_toF _ _ _).2 ⟨y.toNat, (mem_allS _ _).2 ⟨by omega, (hr.mem _ (by omega)).2 ?_⟩, (has_still hm seen hN (p := y.toNat) (by omega)).2 ?_⟩⟩
    · rwa [Int.toNat_of_nonneg hb.1]
    · rw [Int.toNat_of_nonneg hb.1, Int.toNat_of_nonneg hxb.1]; exact hx
/-- All that is laid from the first f states, and at the first k events from the next one. -/
def layA (seen : List Int) (N : Nat) (ars : List Arr) (K f k : Nat) : List Arr := ((List.range f).flatMap fun f => (List.range K).flatMap (layR seen N ars f)) ++ (List.range k).flatMap (layR seen N ars f)
theorem layA_zero (seen : List Int) (N : Nat) (ars : List Arr) (K : Nat) : layA seen N ars K 0 0 = [] := by simp [layA]
theorem layA_event (seen : List Int) (N : Nat) (ars : List Arr) (K f k : Nat) : layA seen N ars K f (k + 1) = layA seen N ars K f k ++ layR seen N ars f k := by
  unfold layA
  rw [List.range_succ, List.flatMap_append, ← List.append_assoc]; simp
theorem layA_from (seen : List Int) (N : Nat) (ars : List Arr) (K f : Nat) : layA seen N ars K (f + 1) 0 = layA seen N ars K f K := by
  unfold layA
  simp only [List.range_succ, List.flatMap_append, List.flatMap_cons, List.flatMap_nil, List.append_nil, List.range_zero]
theorem flatMap_congr' {α β : Type} {l : List α} {f g : α → List β} (h : ∀ x ∈ l, f x = g x) : l.flatMap f = l.flatMap g := by
  induction l with
  | nil => rfl
  | cons a r ih => rw [List.flatMap_cons, List.flatMap_cons, h a (by simp), ih (fun x hx => h x (by simp [hx]))]
theorem layA_all {m : Mach} (hm : mayB m = true) {seen : List Int} (hs : rowB m.ev seen = true) {N : Nat} (hN : m.st = (N : Int)) : layA seen N m.arrows seen.length N 0 = hAll m seen m.st.toNat := by
  unfold layA hAll hFrom
  rw [hN, Int.toNat_natCast]
  simp only [List.range_zero, List.flatMap_nil, List.append_nil]
  refine flatMap_congr' (fun f hf => flatMap_congr' (fun k hk => ?_))
  exact layR_eq hm hs hN (List.mem_range.1 hf) (List.mem_range.1 hk)
theorem layA_mono {seen : List Int} {N : Nat} {ars : List Arr} {K f k : Nat} (hk : k ≤ K) : (layA seen N ars K f k).length ≤ (layA seen N ars K f K).length := by
  obtain ⟨d, rfl⟩ : ∃ d, K = k + d := ⟨K - k, by omega⟩
  clear hk
  have : ∀ d, (layA seen N ars (k + d) f k).length ≤ (layA seen N ars (k + d) f (k + d)).length := by
    intro d
    unfold layA
    rw [List.length_append, List.length_append]
    have : ((List.range k).flatMap (layR seen N ars f)).length ≤ ((List.range (k + d)).flatMap (layR seen N ars f)).length := by
      rw [List.range_add, List.flatMap_append, List.length_append]; omega
    omega
  exact this d
theorem layA_monoF {seen : List Int} {N : Nat} {ars : List Arr} {K : Nat} : ∀ {f g : Nat}, f ≤ g → (layA seen N ars K f 0).length ≤ (layA seen N ars K g 0).length := by
  intro f g h
  unfold layA
  simp only [List.range_zero, List.flatMap_nil, List.append_nil]
  obtain ⟨d, rfl⟩ : ∃ d, g = f + d := ⟨g - f, by omega⟩
  rw [List.range_add, List.flatMap_append, List.length_append]; omega
theorem layA_le {seen : List Int} {N : Nat} {ars : List Arr} {K f k : Nat} (hf : f < N) (hk : k ≤ K) : (layA seen N ars K f k).length ≤ (layA seen N ars K N 0).length := by
  have h1 := layA_mono (seen := seen) (N := N) (ars := ars) (f := f) hk
  rw [← layA_from] at h1
  exact Nat.le_trans h1 (layA_monoF (by omega))
theorem layR_len (seen : List Int) (N : Nat) (ars : List Arr) (f k : Nat) : (layR seen N ars f k).length ≤ 256 := by
  unfold layR; rw [List.length_map]; exact allS_len _

end Go.Proofs.YtdhgabpoaicjoaaDoor
namespace Go.Proofs.YtdhgabpoaicjoaaDoor
open Go.RowKit
set_option linter.unusedVariables false

/-- A list of states that what is not seen does not leave. -/
def ClU (p : Plant) (s : List Int) : Prop := (∀ x ∈ s, 0 ≤ x ∧ x < p.m.st) ∧ ∀ a ∈ p.m.arrows, hasB p.seen a.e = false → a.f ∈ s → a.t ∈ s
theorem clU_wide {p : Plant} (hm : mayB p.m = true) {ss : List Int} (hs : ∀ x ∈ ss, 0 ≤ x ∧ x < p.m.st) : ClU p (wideL p.m.arrows p.seen ss) := ⟨wide_bd hm hs, fun a ha hu h => wide_cl (may_to hm) ha hu h⟩
theorem clU_see {p : Plant} (hm : mayB p.m = true) (s : List Int) (e : Int) : ClU p (seeL p s e) := clU_wide hm (step_bd hm)
theorem clU_fold {p : Plant} (hm : mayB p.m = true) : ∀ (word s : List Int), ClU p s → ClU p (word.foldl (seeL p) s)
  | [], s, h => h
  | e :: r, s, _ => clU_fold hm r (seeL p s e) (clU_see hm s e)
theorem clU_start {p : Plant} (hm : mayB p.m = true) : ClU p (wideL p.m.arrows p.seen p.m.starts) := clU_wide hm (may_starts hm).2
/-- In the machine of what is seen an estimate leads to the next one. -/
theorem hide_see {p : Plant} (hm : mayB p.m = true) {s : List Int} (hs : ClU p s) {k : Nat} (hk : k < p.seen.length) : stepL (hideM p.m p.seen).arrows s (k : Int) = seeD p s k := by
  refine inc_ext (inc_srt _) (inc_wide _ _ _) fun x => ?_
  rw [mem_stepL]
  unfold seeD seeL
  rw [mem_wide (may_to hm)]
  constructor
  · rintro ⟨a, ha, h1, h2, rfl⟩
    obtain ⟨f, j, hf, hj, hr⟩ := (mem_hAll _ _ _ _).1 (show a ∈ hAll p.m p.seen p.m.st.toNat from ha)
    obtain ⟨t, ht, rfl⟩ := (mem_hRow _ _ _ _ _).1 hr
    dsimp only at h1 h2 ⊢
    have : j = k := by omega
    subst this
    have h3 := (mem_wide (may_to hm) t).1 ht
    refine rch_trans (fun y hy => rch_start ?_) h3
    obtain ⟨b, hb, e1, e2, e3⟩ := (mem_stepL _ _ _ _).1 hy
    refine (mem_stepL _ _ _ _).2 ⟨b, hb, e1, ?_, e3⟩
    exact (mem_wide (may_to hm) b.f).1 e2 (· ∈ s) ⟨fun y hy => by
      have : y = (f : Int) := by simpa using hy
      rw [this]; exact h2, fun c hc hcs => hs.2 c ((mem_unseen _ _ _).1 hc).1 ((mem_unseen _ _ _).1 hc).2 hcs⟩
  · intro hx
    obtain ⟨y, hy, hyx⟩ := rch_one.1 hx
    obtain ⟨a, ha, e1, e2, rfl⟩ := (mem_stepL _ _ _ _).1 hy
    have bd := hs.1 _ e2
    refine ⟨⟨a.f, (k : Int), x⟩, ?_, rfl, e2, rfl⟩
    refine (mem_hAll _ _ _ _).2 ⟨a.f.toNat, k, by omega, hk, (mem_hRow _ _ _ _ _).2 ⟨x, ?_, by rw [Int.toNat_of_nonneg bd.1]⟩⟩
    rw [mem_wide (may_to hm)]
    refine rch_trans (fun z hz => rch_start ?_) hyx
    have : z = a.t := by simpa using hz
    subst this
    exact (mem_stepL _ _ _ _).2 ⟨a, ha, e1, wide_sub (may_to hm) _ (by simp [Int.toNat_of_nonneg bd.1]), rfl⟩
theorem see_nil {p : Plant} (hm : mayB p.m = true) (e : Int) : seeL p [] e = [] := by
  rw [List.eq_nil_iff_forall_not_mem]
  intro x hx
  unfold seeL at hx
  rw [mem_wide (may_to hm)] at hx
  obtain ⟨y, hy, -⟩ := rch_one.1 hx
  obtain ⟨a, -, -, h, -⟩ := (mem_stepL _ _ _ _).1 hy
  cases h
theorem fold_nil {p : Plant} (hm : mayB p.m = true) : ∀ word : List Int, word.foldl (seeL p) [] = []
  | [] => rfl
  | e :: r => by rw [List.foldl_cons, see_nil hm, fold_nil hm r]
/-- Does a set leak, as the program tells it? -/
def leakS (S T : Nat → Nat) : Bool := meetB S T && emptyB (lessS S T)
theorem leak_set {S T : Nat → Nat} {l k : List Int} (h : Rep S l) (h' : Rep T k) : leakS S T = leakB k l := by
  unfold leakS leakB
  rw [meet_iff h h']
  cases he : emptyB (lessS S T) with
  | true =>
    have hin : ∀ x ∈ l, x ∈ k := fun x hx => by
      obtain ⟨b0, b1⟩ := h.bd x hx
      have h1 := empty_has he x.toNat (by omega)
      rw [hasS_less h'.ok, (h.mem x.toNat (by omega)).2 (by rwa [Int.toNat_of_nonneg b0])] at h1
      have h2 : hasS T x.toNat = true := by simpa using h1
      have := (h'.mem x.toNat (by omega)).1 h2
      rwa [Int.toNat_of_nonneg b0] at this
    have e1 : (l.filter fun n => hasB k n == true) = l := by
      rw [List.filter_eq_self]
      intro a ha
      simpa [hasB] using hin a ha
    have e2 : (l.filter fun n => hasB k n == false) = [] := by
      rw [List.filter_eq_nil_iff]
      intro a ha
      simpa [hasB] using hin a ha
    rw [e1, e2]; simp
  | false =>
    obtain ⟨n, hn, h1⟩ := empty_not (okS_less h.ok) he
    rw [hasS_less h'.ok] at h1
    simp only [Bool.and_eq_true, Bool.not_eq_true'] at h1
    have m1 := (h.mem n hn).1 h1.1
    have m2 : ¬ (n : Int) ∈ k := fun hk => by
      have := (h'.mem n hn).2 hk
      rw [h1.2] at this; cases this
    have : 0 < (l.filter fun n => hasB k n == false).length := List.length_pos_of_mem (List.mem_filter.2 ⟨m1, by simpa [hasB] using m2⟩)
    rw [Bool.and_false]
    symm
    rw [Bool.and_eq_false_iff]
    exact .inr (decide_eq_false (by omega))

/-! The search. -/
/-- Nothing found so far leaks, and the search goes on so. -/
structure LC (p : Plant) (k : Nat) (l : List (List Int × List Int)) : Prop where
  bi : BI (seeD p) (wideL p.m.arrows p.seen p.m.starts) p.seen.length k 0 l
  no : ∀ (j : Nat) (x : List Int × List Int), j < k → l[j]? = some x → leakB p.secret x.1 = false
  go : fwdL p = bfGo (seeD p) p.seen.length (65 - k) k l
theorem LC.start (p : Plant) : LC p 0 [(wideL p.m.arrows p.seen p.m.starts, [])] := ⟨bi_start _ _ _, fun j x h => absurd h (Nat.not_lt_zero _), rfl⟩
theorem LC.found {p : Plant} {k : Nat} {l : List (List Int × List Int)} (h : LC p k l) {x : List Int × List Int} (hx : l[k]? = some x) (ho : leakB p.secret x.1 = true) : outC p = some (wordS p.seen x.2) := by
  unfold outC
  obtain ⟨t, ht⟩ := bfGo_pre (seeD p) p.seen.length (65 - k) k l
  have hf : (fwdL p).find? (fun x => leakB p.secret x.1) = some x := by
    rw [h.go, ht, List.find?_append]
    have : l.find? (fun x => leakB p.secret x.1) = some x := by
      rw [List.find?_eq_some_iff_getElem]
      have hk := (List.getElem?_eq_some_iff.1 hx).1
      refine ⟨ho, k, hk, (List.getElem?_eq_some_iff.1 hx).2, fun j hj => ?_⟩
      have := h.no j _ hj (List.getElem?_eq_getElem (Nat.lt_trans hj hk))
      rw [this]; rfl
    rw [this]; rfl
  rw [hf]; rfl
theorem LC.not {p : Plant} {k : Nat} {l : List (List Int × List Int)} (h : LC p k l) (hk : k = l.length) : outC p = none := by
  unfold outC
  have hg : fwdL p = l := by
    rw [h.go]
    have hx : l[k]? = none := List.getElem?_eq_none (by omega)
    cases 65 - k with
    | zero => rfl
    | succ f => unfold bfGo; rw [hx]
  rw [hg, Option.map_eq_none_iff, List.find?_eq_none]
  intro x hx
  obtain ⟨j, hj⟩ := List.mem_iff_getElem?.1 hx
  have := h.no j x (by have := (List.getElem?_eq_some_iff.1 hj).1; omega) hj
  rw [this]; simp
theorem LC.next {p : Plant} {k : Nat} {l : List (List Int × List Int)} (h : LC p k l) {x : List Int × List Int} (hx : l[k]? = some x) (ho : leakB p.secret x.1 = false) (hk : k < 65) : LC p (k + 1) (bfRow (seeD p) x l p.seen.length) := by
  refine ⟨bi_next _ h.bi hx, fun j y hj hy => ?_, ?_⟩
  · obtain ⟨t, ht⟩ := bfRow_pre (seeD p) x l p.seen.length
    have hkl := (List.getElem?_eq_some_iff.1 hx).1
    rw [ht, List.getElem?_append_left (by omega)] at hy
    by_cases e : j = k
    · subst e
      rw [hx] at hy
      have := Option.some.inj hy
      subst this; exact ho
    · exact h.no j y (by omega) hy
  · rw [h.go, show 65 - k = (65 - (k + 1)) + 1 by omega, bfGo, hx]
/-- What is found is what is known behind a list, and closed. -/
theorem fwd_cl {p : Plant} (hm : mayB p.m = true) {k n : Nat} {l : List (List Int × List Int)} (h : BI (seeD p) (wideL p.m.arrows p.seen p.m.starts) p.seen.length k n l) {x : List Int × List Int} (hx : x ∈ l) : ClU p x.1 ∧ Inc x.1 := by
  have e := (h.run x hx).1
  rw [see_run] at e
  rw [e]
  exact ⟨clU_fold hm _ _ (clU_start hm), (from_in hm _ _ (wide_in hm (may_starts hm).2)).1⟩

end Go.Proofs.YtdhgabpoaicjoaaDoor
namespace Go.Proofs.YtdhgabpoaicjoaaDoor
open Go.RowKit
set_option linter.unusedVariables false

/-- A place: its set, from where it was found, at which event. -/
structure PlC where
  s : Nat → Nat
  fr : Nat
  ev : Int
/-- The set stands for a list, which rises. -/
def RepI (S : Nat → Nat) (s : List Int) : Prop := Rep S s ∧ Inc s
def entC (k : Nat) (p : PlC) : MapEntry := { key := sval p.s, val := .agg #[], born := k }
def entsC (L : List PlC) : Array MapEntry := (L.mapIdx entC).toArray
theorem entsC_snoc (L : List PlC) (p : PlC) : entsC (L ++ [p]) = (entsC L).push (entC L.length p) := by
  unfold entsC; rw [List.mapIdx_concat]; simp
/-- The places stand for what has been found, one by one. -/
structure RepCL (L : List PlC) (l : List (List Int × List Int)) : Prop where
  len : L.length = l.length
  rep : ∀ (k : Nat) (p : PlC), L[k]? = some p → ∃ x, l[k]? = some x ∧ RepI p.s x.1
theorem RepCL.at {L : List PlC} {l : List (List Int × List Int)} (h : RepCL L l) {k : Nat} {x : List Int × List Int} (hk : l[k]? = some x) : ∃ p, L[k]? = some p ∧ RepI p.s x.1 := by
  have hlt := (List.getElem?_eq_some_iff.1 hk).1
  have hlt' : k < L.length := by rw [h.len]; exact hlt
  obtain ⟨y, h1, h2⟩ := h.rep k _ (List.getElem?_eq_getElem hlt')
  rw [hk] at h1
  have h1 := Option.some.inj h1
  subst h1
  exact ⟨_, List.getElem?_eq_getElem hlt', h2⟩
theorem RepCL.snoc {L : List PlC} {l : List (List Int × List Int)} (h : RepCL L l) {p : PlC} {x : List Int × List Int} (hr : RepI p.s x.1) : RepCL (L ++ [p]) (l ++ [x]) := by
  refine ⟨by simp [h.len], fun k q hk => ?_⟩
  by_cases hlt : k < L.length
  · rw [List.getElem?_append_left hlt] at hk
    obtain ⟨y, h1, h2⟩ := h.rep k q hk
    exact ⟨y, by rw [List.getElem?_append_left (by rw [← h.len]; exact hlt)]; exact h1, h2⟩
  · have hk' := (List.getElem?_eq_some_iff.1 hk).1
    simp at hk'
    have e : k = L.length := by omega
    subst e
    rw [List.getElem?_append_right (Nat.le_refl _)] at hk
    have : p = q := by simpa using hk
    subst this
    exact ⟨x, by rw [h.len, List.getElem?_append_right (Nat.le_refl _)]; simp, hr⟩
theorem RepCL.one {p : PlC} {x : List Int × List Int} (hr : RepI p.s x.1) : RepCL [p] [x] := RepCL.snoc (L := []) (l := []) ⟨rfl, fun k S h => by simp at h⟩ hr
theorem find_sc {L : List PlC} {l : List (List Int × List Int)} (hR : RepCL L l) {S : Nat → Nat} {s : List Int} (hr : RepI S s) (w : World) :
    (knownB l s = true ∧ ∃ j, (Instr.findKey 65 (sval S) (entsC L).toList).run Tryd.prog w = .ok (some (j, .agg #[])) w) ∨ (knownB l s = false ∧ (Instr.findKey 65 (sval S) (entsC L).toList).run Tryd.prog w = .ok none w) := by
  obtain ⟨kl, hl⟩ := keySet hr.1.ok
  have hget : ∀ (j : Nat) e, (entsC L).toList[j]? = some e → ∃ p, L[j]? = some p ∧ e = entC j p := by
    intro j e h
    simp only [entsC] at h
    rw [List.getElem?_mapIdx] at h
    cases hq : L[j]? with
    | none => rw [hq] at h; cases h
    | some q => rw [hq] at h; exact ⟨q, rfl, (Option.some.inj h).symm⟩
  have hes : ∀ e ∈ (entsC L).toList, ∃ l, keyOf Tryd.prog 65 e.key = some l := by
    intro e he
    obtain ⟨j, hj⟩ := List.mem_iff_getElem?.1 he
    obtain ⟨p, hp, rfl⟩ := hget j e hj
    obtain ⟨x, -, h2⟩ := hR.rep j p hp
    exact keySet h2.1.ok
  rcases lawSet.find w hl (entsC L).toList hes with ⟨h1, h2⟩ | ⟨j, e, h1, h2, h3⟩
  · refine .inr ⟨?_, h1⟩
    cases hk : knownB l s with
    | false => rfl
    | true =>
      obtain ⟨x, hx, e1⟩ := (knownB_iff _ _).1 hk
      obtain ⟨j, hj⟩ := List.mem_iff_getElem?.1 hx
      obtain ⟨p, hp, hrp⟩ := hR.at hj
      refine absurd (eqS_sval ((eqS_iff hrp.1 hr.1 hrp.2 hr.2).2 e1)) (h2 (entC j p) (List.mem_of_getElem? (i := j) ?_))
      simp only [entsC]
      rw [List.getElem?_mapIdx, hp]; rfl
  · obtain ⟨p, hp, rfl⟩ := hget j e h2
    obtain ⟨x, hx, hrx⟩ := hR.rep j p hp
    exact .inl ⟨(knownB_iff _ _).2 ⟨x, List.mem_of_getElem? hx, (eqS_iff hrx.1 hr.1 hrx.2 hr.2).1 (sval_eq h3)⟩, j, h1⟩
theorem mapSC : Tryd.prog.underlying 153 = some (.map 65 140) := by kernel_rfl
theorem lookC_known {L : List PlC} {l : List (List Int × List Int)} (hR : RepCL L l) {S : Nat → Nat} {s : List Int} (hr : RepI S s) {w : World} {r c : Nat} (hm : w.heap[r]? = some (.map (entsC L) c)) (h : knownB l s = true) :
    (Instr.lookup 153 (.map (some r)) (sval S) true).run Tryd.prog w = .ok (.tuple #[.agg #[], .bool true]) w := by
  obtain ⟨kl, hl⟩ := keySet hr.1.ok
  rcases find_sc hR hr w with ⟨-, j, h1⟩ | ⟨h1, -⟩
  · simp [Instr.lookup, run_underlying mapSC, MapKept.run_getObj_map hm, lawSet.check w _ hl, h1, Result.andThen]
  · rw [h] at h1; cases h1
theorem lookC_new {L : List PlC} {l : List (List Int × List Int)} (hR : RepCL L l) {S : Nat → Nat} {s : List Int} (hr : RepI S s) {w : World} {r c : Nat} (hm : w.heap[r]? = some (.map (entsC L) c)) (h : knownB l s = false) :
    (Instr.lookup 153 (.map (some r)) (sval S) true).run Tryd.prog w = .ok (.tuple #[.agg #[], .bool false]) w := by
  obtain ⟨kl, hl⟩ := keySet hr.1.ok
  rcases find_sc hR hr w with ⟨h1, -⟩ | ⟨-, h1⟩
  · rw [h] at h1; cases h1
  · simp [Instr.lookup, run_underlying mapSC, MapKept.run_getObj_map hm, lawSet.check w _ hl, h1, Result.andThen]
theorem updC_new {L : List PlC} {l : List (List Int × List Int)} (hR : RepCL L l) {p : PlC} {s : List Int} (hr : RepI p.s s) {w : World} {r : Nat} (hm : w.heap[r]? = some (.map (entsC L) L.length)) (h : knownB l s = false) :
    (Instr.mapUpdate 153 (.map (some r)) (sval p.s) (.agg #[])).run Tryd.prog w = .ok () (setMap w r (.map (entsC (L ++ [p])) (L.length + 1))) := by
  obtain ⟨kl, hl⟩ := keySet hr.1.ok
  rcases find_sc hR hr w with ⟨h1, -⟩ | ⟨-, h1⟩
  · rw [h] at h1; cases h1
  · simp [Instr.mapUpdate, run_underlying mapSC, MapKept.run_getObj_map hm, lawSet.check w _ hl, h1, MapKept.run_setObj_map _ hm, Result.andThen, setMap, entsC_snoc, entC]
theorem updC_first {p : PlC} {s : List Int} (hr : RepI p.s s) {w : World} {r : Nat} (hm : w.heap[r]? = some (.map #[] 0)) :
    (Instr.mapUpdate 153 (.map (some r)) (sval p.s) (.agg #[])).run Tryd.prog w = .ok () (setMap w r (.map (entsC [p]) 1)) := by
  have := updC_new (L := []) (l := []) ⟨rfl, fun k S h => by simp at h⟩ hr (w := w) (r := r) hm rfl
  simpa using this

/-! Rows of places. -/
def pccells (p : PlC) : List Value := [.int .u64 (p.s 0), .int .u64 (p.s 1), .int .u64 (p.s 2), .int .u64 (p.s 3), .int .i64 (p.fr : Nat), .int .i64 p.ev]
def pcflat : List PlC → List Value
  | [] => []
  | p :: r => pccells p ++ pcflat r
theorem pcflat_len : ∀ L : List PlC, (pcflat L).length = L.length * 6
  | [] => rfl
  | p :: r => by simp only [pcflat, pccells, List.length_append, List.length_cons, List.length_nil, pcflat_len r]; omega
theorem pcflat_append : ∀ L M : List PlC, pcflat (L ++ M) = pcflat L ++ pcflat M
  | [], M => rfl
  | a :: r, M => by simp only [List.cons_append, pcflat, pcflat_append r M, List.append_assoc]
theorem pcflat_at : ∀ {L : List PlC} {k : Nat} {p : PlC}, L[k]? = some p → ∀ j, j < 6 → (pcflat L)[k * 6 + j]? = (pccells p)[j]?
  | [], k, p, h => by simp at h
  | a :: r, 0, p, h => by
    have e : a = p := by simpa using h
    subst e
    intro j hj
    rw [pcflat, Nat.zero_mul, Nat.zero_add, List.getElem?_append_left (by simp [pccells]; omega)]
  | a :: r, k + 1, p, h => by
    intro j hj
    have := pcflat_at (L := r) (k := k) (p := p) (by simpa using h) j hj
    rw [pcflat, List.getElem?_append_right (by simp [pccells]; omega)]
    have e : (k + 1) * 6 + j - (pccells a).length = k * 6 + j := by simp [pccells]; omega
    rw [e]; exact this
abbrev OwnC (W : World) (B : Nat) (v : Value) (L : List PlC) : Prop := W.ownsRow B 151 6 v L.length (pcflat L)
theorem OwnC.cell {W : World} {B : Nat} {v : Value} {L : List PlC} (h : OwnC W B v L) {k : Nat} {p : PlC} (hk : L[k]? = some p) : ∃ g cap, v = .slice (some ⟨g, 0, none⟩) L.length cap ∧ B ≤ g ∧ g < W.heap.size ∧ ∀ j u, (pccells p)[j]? = some u → W.cell? ⟨g, k * 6 + j, none⟩ = some u := by
  rcases h.2 with ⟨rfl, hn⟩ | ⟨g, cap, cur, rfl, hg, hh, hnc, hcm, hcs, ht⟩
  · have := (List.getElem?_eq_some_iff.1 hk).1; omega
  · refine ⟨g, cap, rfl, hg, (Array.getElem?_eq_some_iff.1 hh).1, fun j u hu => ?_⟩
    have hj : j < 6 := by have := (List.getElem?_eq_some_iff.1 hu).1; simpa [pccells] using this
    have c1 := h.cells (g := g) rfl _ _ ((pcflat_at hk j hj).trans hu)
    rwa [addr0_add, Nat.zero_add] at c1
theorem cells_listC (W W' : World) (hW : W'.heap = W.heap) (t : TypeId) (xs : Array Value) : ∀ j v, xs.toList[j]? = some v → (W'.alloc (.cells xs t)).cell? ((⟨W.heap.size, 0, none⟩ : Addr).add j) = some v := by
  intro j v hv
  rw [addr0_add, Nat.zero_add, ← hW]
  exact (Blk.new W' t xs).cell j (by rw [← Array.getElem?_toList]; exact hv)
theorem own_plcC {W : World} {B : Nat} {v : Value} {L : List PlC} {p : PlC} (h : W.ownsRow B 151 6 v (L.length + 1) (pcflat L ++ pccells p)) : OwnC W B v (L ++ [p]) := by
  show W.ownsRow B 151 6 v (L ++ [p]).length (pcflat (L ++ [p]))
  rw [List.length_append, pcflat_append]
  have e : pcflat [p] = pccells p := by simp [pcflat]
  rw [e]; exact h
theorem ownC_one (W : World) (p : PlC) (B : Nat) (hB : B ≤ W.heap.size) : OwnC (W.alloc (.cells (pccells p).toArray 151)) B (.slice (some ⟨W.heap.size, 0, none⟩) 1 1) [p] := by
  have : World.ownsRow (W.alloc (.cells (pccells p).toArray 151)) B 151 6 (.slice (some ⟨W.heap.size, 0, none⟩) 1 1) 1 (pccells p) := World.ownsRow_lit W (pccells p).toArray 1 hB (by decide) rfl
  have e : pcflat [p] = pccells p := by simp [pcflat]
  show World.ownsRow _ B 151 6 _ 1 (pcflat [p])
  rw [e]; exact this

/-- What least knows: its row of places, made from block B on, and its map. -/
structure LCI (B : Nat) (W : World) (br : Nat) (vs : Value) (L : List PlC) : Prop where
  ss : OwnC W B vs L
  mp : W.heap[br]? = some (.map (entsC L) L.length)
  lr : B ≤ br
section
variable {B : Nat} {W : World} {br : Nat} {vs : Value} {L : List PlC}
theorem LCI.below {W' : World} (h : LCI B W br vs L) (hb : Below W.heap.size W W') : LCI B W' br vs L :=
  ⟨own_same h.ss (fun k hk => hb.block k (World.ownsRow.lt h.ss k hk).2), (hb.block br (Array.getElem?_eq_some_iff.1 h.mp).1).trans h.mp, h.lr⟩
theorem LCI.apart (h : LCI B W br vs L) : vs.ownBlock ≠ some br := by
  have hm := h.mp
  exact fun e => (by obtain ⟨cs, hc⟩ := own_type h.ss e; rw [hm] at hc; cases hc)
theorem LCI.push {w0 : World} {W2 W3 : World} {vs' : Value} {p : PlC} (h : LCI B W br vs L) (h0 : Below B w0 W) (hW3 : Below (setMap W br (.map (entsC (L ++ [p])) (L.length + 1))).heap.size (setMap W br (.map (entsC (L ++ [p])) (L.length + 1))) W3) (o1 : OwnC W2 B vs' (L ++ [p])) (g : W3.grownBy W2 vs.ownBlock) (hBW : B ≤ W.heap.size) :
    LCI B W2 br vs' (L ++ [p]) ∧ Below B w0 W2 := by
  have a1 := h.apart
  have hbr := (Array.getElem?_eq_some_iff.1 h.mp).1
  have hz : W.heap.size ≤ W3.heap.size := by have := hW3.size; rwa [size_setMap] at this
  have k3 : ∀ j, j < W.heap.size → W3.heap[j]? = (setMap W br (.map (entsC (L ++ [p])) (L.length + 1))).heap[j]? := fun j hj => hW3.block j (by rw [size_setMap]; exact hj)
  have k2 : ∀ j, j < W.heap.size → vs.ownBlock ≠ some j → W2.heap[j]? = (setMap W br (.map (entsC (L ++ [p])) (L.length + 1))).heap[j]? := fun j hj hne => (g.block j (Nat.lt_of_lt_of_le hj hz) (fun e => hne e.symm)).trans (k3 j hj)
  refine ⟨⟨o1, ?_, h.lr⟩, ?_⟩
  · rw [k2 br hbr a1, heap_setMap _ _ hbr, List.length_append]; rfl
  · have b1 : Below B w0 (setMap W br (.map (entsC (L ++ [p])) (L.length + 1))) :=
      h0.trans ⟨rfl, rfl, rfl, by rw [size_setMap]; exact Nat.le_refl _, fun j hj => heap_setMap_ne _ _ _ (by have := h.lr; omega)⟩
    exact (b1.trans (hW3.mono (by rw [size_setMap]; exact hBW))).grown g (Nat.le_trans hBW hz) (fun j hj => (World.ownsRow.lt h.ss j hj).1)
end
theorem lci_first {B : Nat} {W : World} {br : Nat} {v : Value} {p : PlC} (ho : OwnC W B v [p]) (hm : W.heap[br]? = some (.map #[] 0)) (hb : B ≤ br) : LCI B (setMap W br (.map (entsC [p]) 1)) br v [p] := by
  have hbr := (Array.getElem?_eq_some_iff.1 hm).1
  refine ⟨own_same ho (fun k hk => heap_setMap_ne _ _ _ (fun e => ?_)), heap_setMap _ _ hbr, hb⟩
  obtain ⟨cs, hc⟩ := own_type ho hk
  rw [e, hm] at hc; cases hc
theorem lci_first2 {B : Nat} {W : World} {br : Nat} {p : PlC} (hm : W.heap[br]? = some (.map (entsC [p]) 1)) (hb : B ≤ br) (hB : B ≤ W.heap.size) : LCI B (W.alloc (.cells (pccells p).toArray 151)) br (.slice (some ⟨W.heap.size, 0, none⟩) 1 1) [p] :=
  ⟨ownC_one W p B hB, (Below.heap_alloc W _ br (Array.getElem?_eq_some_iff.1 hm).1).trans hm, hb⟩
theorem LCI.keep {B : Nat} {W W2 W3 : World} {br hp : Nat} {vs : Value} {L L' : List PlC} {c : Nat} {t : TypeId} {cs : Array Value} (hne : vs.ownBlock ≠ some hp) (h : LCI B W br vs L) (hW3 : Below (setMap W br (.map (entsC L') c)).heap.size (setMap W br (.map (entsC L') c)) W3) (g : W3.grownBy W2 vs.ownBlock) (hh : Blk W hp t cs) : Blk W2 hp t cs := by
  have hbr := (Array.getElem?_eq_some_iff.1 h.mp).1
  have hz : W.heap.size ≤ W3.heap.size := by have := hW3.size; rwa [size_setMap] at this
  have n1 : hp ≠ br := fun e => by have hm := h.mp; rw [← e, show W.heap[hp]? = _ from hh] at hm; cases hm
  have hl := hh.lt
  exact (g.block hp (Nat.lt_of_lt_of_le hl hz) (fun e => hne e.symm)).trans ((hW3.block hp (by rw [size_setMap]; exact hl)).trans ((heap_setMap_ne _ _ _ n1).trans hh))
/-- A row that lies elsewhere, appended to, lies elsewhere still. -/
theorem ne_append {v v' : Value} {n hp : Nat} (h : v.ownBlock ≠ some hp) (hl : hp < n) (hn : v'.ownBlock = v.ownBlock ∨ v'.ownBlock = some n) : v'.ownBlock ≠ some hp := by
  rcases hn with e | e
  · rw [e]; exact h
  · rw [e]; intro h'; have := Option.some.inj h'; omega

/-- From where, and at which event, each place but the first was found. -/
def TrC (seen : List Int) (L : List PlC) (l : List (List Int × List Int)) : Prop := ∀ (j : Nat) (p : PlC), 0 < j → L[j]? = some p → p.fr < j ∧ ∃ x y, l[p.fr]? = some x ∧ l[j]? = some y ∧ wordS seen y.2 = wordS seen x.2 ++ [p.ev]
theorem TrC.one (seen : List Int) (p : PlC) (x : List Int × List Int) : TrC seen [p] [x] := fun j q hj h => by
  have := (List.getElem?_eq_some_iff.1 h).1
  simp at this; omega
theorem TrC.snoc {seen : List Int} {L : List PlC} {l : List (List Int × List Int)} (h : TrC seen L l) (hl : L.length = l.length) {S : Nat → Nat} {k e : Nat} {v : Int} (hv : v = seen[e]?.getD 0) {x : List Int × List Int} (hx : l[k]? = some x) (s : List Int) : TrC seen (L ++ [⟨S, k, v⟩]) (l ++ [(s, x.2 ++ [(e : Int)])]) := by
  intro j p hj hp
  have hk := (List.getElem?_eq_some_iff.1 hx).1
  have up : ∀ {i : Nat} {y : List Int × List Int}, l[i]? = some y → (l ++ [(s, x.2 ++ [(e : Int)])])[i]? = some y := fun {i y} hy => by
    rw [List.getElem?_append_left (List.getElem?_eq_some_iff.1 hy).1]; exact hy
  by_cases hlt : j < L.length
  · rw [List.getElem?_append_left hlt] at hp
    obtain ⟨h1, a, b, h2, h3, h4⟩ := h j p hj hp
    exact ⟨h1, a, b, up h2, up h3, h4⟩
  · have hk' := (List.getElem?_eq_some_iff.1 hp).1
    simp at hk'
    have e1 : j = L.length := by omega
    subst e1
    rw [List.getElem?_append_right (Nat.le_refl _)] at hp
    have : (⟨S, k, v⟩ : PlC) = p := by simpa using hp
    subst this
    exact ⟨by show k < L.length; omega, x, (s, x.2 ++ [(e : Int)]), up hx, by rw [hl, List.getElem?_append_right (Nat.le_refl _)]; simp, by rw [wordS_snoc, hv]⟩

end Go.Proofs.YtdhgabpoaicjoaaDoor
