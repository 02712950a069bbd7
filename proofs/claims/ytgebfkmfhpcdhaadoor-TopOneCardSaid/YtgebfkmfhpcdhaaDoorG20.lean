/-
  append(v, y...) of integers as one step of a region that draws.
  The walks of cmp.Less, slices.isNaN, cmp.isNaN and slices.BinarySearch: the place of a number in a row that rises.
  Plain: all that is come to from some things, each once, in the order found. No program, no model.
  The walk of hide.union: what the states of a set lead to.
  slices.Clone at lists of integers, as it lies in this program: the kit's laying.
  slices.Clone: a list copied into the call's own memory.
  Plain: which of two lists is the lesser one, number by number. No program, no model.
-/
import Derived.Test.YtgebfkmfhpcdhaaDoorG04
import Derived.Test.YtgebfkmfhpcdhaaDoorG05
import Derived.Test.YtgebfkmfhpcdhaaDoorG03
import Derived.Test.YtgebfkmfhpcdhaaDoorG14
import Derived.Test.YtgebfkmfhpcdhaaDoorG19
import Derived.Test.YtgebfkmfhpcdhaaDoorCSpread
import Derived.Test.YtgebfkmfhpcdhaaDoorProg
import Derived.Shelf.Slices.Clone
import Derived.Shelf.Slices.Empties
namespace Go.Proofs.YtgebfkmfhpcdhaaDoor
open Go.RowKit
set_option linter.unusedVariables false

theorem grown_refl (w : World) (row : Option Nat) : w.grownBy w row := ⟨rfl, rfl, rfl, Nat.le_refl _, fun j _ _ => rfl⟩
section
variable {P : Program} {ops : Array Oper} {o : Oper} {a : Act} {w : World} {K : Act → World → Prop} {Q : Exit → Act → World → Prop} {E : Prop}
theorem step_append_ints (hg : o.guard = none) (s x : Operand) (t : TypeId) (hop : o.op = Op.call { callee := Callee.builtin Builtin.append, args := #[s, x], argTypes := #[t, t] })
    (B : Nat) (i : TypeInfo) (ht : P.underlying t = some (.slice 3)) (hi : P.info? 3 = some i) (hz : i.zero = some (.int .i64 0)) (hsize : i.size = 1) (hby : i.bytes = 8)
    (v : Value) (L : List Int) (hs : a.eval s = v) (hown : Own w B v L)
    (ad : Option Addr) (c : Nat) (ys : List Int) (hx : a.eval x = .slice ad ys.length c) (hat : At w ad ys) (hnil : ad = none → c = 0)
    (hroom : (L.length + ys.length) * 8 ≤ 140737488355328) (hbase : B ≤ w.heap.size)
    (hK : ∀ v' w', Own w' B v' (L ++ ys) → w.grownBy w' v.ownBlock → K (a.put o.dst v') w') :
    if Region.wanted o (yielded ops a.tmps) = true then Oper.wp P o a w K Q else E := by
  cases ad with
  | none =>
    have hy : ys = [] := by
      rcases hat with h | ⟨b, off, h, _⟩
      · exact h
      · cases h
    subst hy
    rw [hnil rfl] at hx
    have hw : Region.wanted o (yielded ops a.tmps) = true := by simp [Region.wanted, hg]
    rw [if_pos hw]
    refine wp_append_nil w s x t hop B 3 i 1 ht hi v _ _ hs hown hx (hK v w ?_ (grown_refl _ _))
    rw [List.append_nil]; exact hown
  | some ad =>
    refine step_append_own hg s x t hop B 3 i (.int .i64 0) 1 8 ht hi hz hsize hby rfl (by decide) v _ _ hs hown ad ys.length c (ys.map (Value.int .i64)) hx (by simp) ?_ ?_ (by unfold maxLen; omega) hroom hbase ?_
    · intro j u hu
      rw [List.getElem?_map] at hu
      rcases hat with h0 | ⟨b, off, h0, _, hc⟩
      · subst h0; simp at hu
      · cases h0
        cases hj : ys[j]? with
        | none => rw [hj] at hu; simp at hu
        | some y =>
          rw [hj] at hu
          simp only [Option.map_some, Option.some.injEq] at hu
          subst hu
          have := hc j (List.getElem?_eq_some_iff.1 hj).1
          rw [List.getD_eq_getElem?_getD, hj, Option.getD_some] at this
          rw [show (⟨b, off, none⟩ : Addr).add j = ⟨b, off + j, none⟩ from by simp [Addr.add]]
          exact this
    · intro u hu
      obtain ⟨y, _, rfl⟩ := List.mem_map.1 hu
      rfl
    · intro v' w' ho' hg'
      refine hK v' w' ?_ hg'
      unfold Own
      rw [List.length_append, List.map_append]
      exact ho'
end

end Go.Proofs.YtgebfkmfhpcdhaaDoor
namespace Go.Proofs.YtgebfkmfhpcdhaaDoor
open Go.RowKit
set_option linter.unusedVariables false

set_option maxHeartbeats 400000 in
theorem cmpNaN_any (x : Int) (w : World) : Calls Tryd.prog 158 #[.int .i64 x] w fun e w' => e = .returned (.bool false) ∧ w' = w := by
  go_enter Tryd.func158, Tryd.ntmps158
  go_wp2
  go_ret
  exact ⟨rfl, rfl⟩

set_option maxHeartbeats 400000 in
theorem slNaN_any (x : Int) (w : World) : Calls Tryd.prog 116 #[.int .i64 x] w fun e w' => e = .returned (.bool false) ∧ w' = w := by
  go_enter Tryd.func116, Tryd.ntmps116
  go_wp2
  go_ret
  exact ⟨rfl, rfl⟩

def lessBS (x y : Int) : Bool := decide (x < y)

set_option maxHeartbeats 400000 in
theorem less2_any (x y : Int) (w : World) : Calls Tryd.prog 115 #[.int .i64 x, .int .i64 y] w fun e w' => e = .returned (.bool (lessBS x y)) ∧ w' = w := by
  go_enter Tryd.func115, Tryd.ntmps115
  go_wp2_with (go_at_call 158; refine (cmpNaN_any x _).mono ?_; rintro e w' ⟨rfl, rfl⟩)
  go_ret
  exact ⟨rfl, rfl⟩

theorem inc_at {xs : List Int} (h : Inc xs) {p q : Nat} {x y : Int} (hp : xs[p]? = some x) (hq : xs[q]? = some y) (hpq : p < q) : x < y := by
  obtain ⟨p1, p2⟩ := List.getElem?_eq_some_iff.1 hp
  obtain ⟨q1, q2⟩ := List.getElem?_eq_some_iff.1 hq
  have := List.pairwise_iff_getElem.1 h p q p1 q1 hpq
  rwa [p2, q2] at this
theorem at_of {xs : List Int} {k : Nat} {x : Int} (h : k < xs.length) (hx : Hid (x = xs[k]?.getD 0)) : xs[k]? = some x := by
  rw [hx.out, List.getElem?_eq_getElem h]; rfl
theorem bs_found {xs : List Int} {n : Int} {k : Nat} (hi : Inc xs) (hk : xs[k]? = some n) : placeI xs n = (k : Int) := by
  obtain ⟨k1, k2⟩ := List.getElem?_eq_some_iff.1 hk
  have hm : n ∈ xs := by rw [← k2]; exact List.getElem_mem k1
  obtain ⟨j, hj⟩ := placeN_mem hm
  rw [placeI_of hj]
  have h2 := placeN_some hj
  rcases Nat.lt_trichotomy j k with h | h | h
  · have := inc_at hi h2 hk h; omega
  · rw [h]
  · have := inc_at hi hk h2 h; omega
theorem bs_has {xs : List Int} {n : Int} {k : Nat} (hk : xs[k]? = some n) : hasB xs n = true := by
  obtain ⟨k1, k2⟩ := List.getElem?_eq_some_iff.1 hk
  exact (hasB_iff _ _).2 (by rw [← k2]; exact List.getElem_mem k1)
theorem bs_none {xs : List Int} {n : Int} {i j : Nat} (hij : i = j) (hl : ∀ p x, p < i → xs[p]? = some x → x < n) (hu : ∀ p x, j ≤ p → xs[p]? = some x → n ≤ x) (hi : Inc xs) (hn : xs[i]? ≠ some n) : hasB xs n = false := by
  cases h : hasB xs n with
  | false => rfl
  | true =>
    exfalso
    obtain ⟨p, hp⟩ := List.getElem?_of_mem ((hasB_iff _ _).1 h)
    rcases Nat.lt_trichotomy p i with c | c | c
    · have := hl p n c hp; omega
    · subst c; exact hn hp
    · have hlt : i < xs.length := Nat.lt_trans c (List.getElem?_eq_some_iff.1 hp).1
      have h1 := hu i _ (by omega) (List.getElem?_eq_getElem hlt)
      have h2 := inc_at hi (List.getElem?_eq_getElem hlt) hp c
      omega

set_option maxHeartbeats 1000000 in
theorem bs_some (b off cap : Nat) (xs : List Int) (n : Int) (w : World) (hl : xs.length ≤ 4611686018427387903) (hc : Cells w b off xs) (hi : Hid (Inc xs)) :
    Calls Tryd.prog 71 #[.slice (some ⟨b, off, none⟩) xs.length cap, .int .i64 n] w fun e w' => ∃ k : Nat, e = .returned (.tuple #[.int .i64 k, .bool (hasB xs n)]) ∧ (hasB xs n = true → placeI xs n = (k : Int)) ∧ w' = w := by
  go_enter Tryd.func71, Tryd.ntmps71
  go_wp2
  go_loop [7, 8] (fun vi vj => ∃ i j : Nat, i ≤ j ∧ j ≤ xs.length ∧ vi = .int .i64 i ∧ vj = .int .i64 j ∧ Hid (∀ p x, p < i → xs[p]? = some x → x < n) ∧ Hid (∀ p x, j ≤ p → xs[p]? = some x → n ≤ x)) (fun vi vj => (intOf vj).toNat - (intOf vi).toNat)
  case atStart => exact ⟨0, xs.length, Nat.zero_le _, Nat.le_refl _, rfl, rfl, fun p x h => by omega, fun p x h hx => by have := (List.getElem?_eq_some_iff.1 hx).1; omega⟩
  case round =>
    obtain ⟨i, j, hij, hj, rfl, rfl, HL, HU⟩ := hrel
    by_cases hlt : i < j
    · have hh : (i + j) / 2 < xs.length := by omega
      obtain ⟨x, HX, hcx⟩ := hc.at hh
      by_cases hx : x < n
      · have d : lessBS x n = true := by simpa [lessBS] using hx
        have HH : Hid (x < n) := hx
        clear hx
        go_wp2_with (go_at_call 115; refine (less2_any x n _).mono ?_; rintro e w' ⟨rfl, rfl⟩)
        go_round
        case rel =>
          refine ⟨(i + j) / 2 + 1, j, by omega, hj, by go_num, rfl, fun p y hp hy => ?_, HU⟩
          have e1 := at_of hh HX
          have e2 := HH.out
          by_cases hpq : p < (i + j) / 2
          · have := inc_at hi.out hy e1 hpq; omega
          · have : p = (i + j) / 2 := by omega
            subst this
            rw [e1] at hy; cases hy; exact e2
        case measure => simp [intOf]; omega
      · have d : lessBS x n = false := by simpa [lessBS] using hx
        have HH : Hid (¬ x < n) := hx
        clear hx
        go_wp2_with (go_at_call 115; refine (less2_any x n _).mono ?_; rintro e w' ⟨rfl, rfl⟩)
        go_round
        case rel =>
          refine ⟨i, (i + j) / 2, by omega, by omega, rfl, by go_num, HL, fun p y hp hy => ?_⟩
          have e1 := at_of hh HX
          have e2 := HH.out
          by_cases hpq : (i + j) / 2 < p
          · have := inc_at hi.out e1 hy hpq; omega
          · have : p = (i + j) / 2 := by omega
            subst this
            rw [e1] at hy; cases hy; omega
        case measure => simp [intOf]; omega
    · have hE : Hid (i = j) := show i = j by omega
      by_cases hil : i < xs.length
      · obtain ⟨x, HX, hcx⟩ := hc.at hil
        have HY := Hid.of (at_of hil HX)
        by_cases hx : x = n
        · subst hx
          go_wp2_with (go_at_call 116; refine (slNaN_any _ _).mono ?_; rintro e w' ⟨rfl, rfl⟩)
          go_ret2
          exact ⟨i, by rw [bs_has HY.out]; rfl, fun _ => bs_found hi.out HY.out, rfl⟩
        · have d : (x == n) = false := by simpa using hx
          have HH : Hid (¬ x = n) := hx
          clear hx
          go_wp2_with (go_at_call 116; refine (slNaN_any _ _).mono ?_; rintro e w' ⟨rfl, rfl⟩)
          go_ret2
          have hf := bs_none hE.out HL.out HU.out hi.out (by rw [HY.out]; intro h; exact HH.out (Option.some.inj h))
          exact ⟨i, by rw [hf]; rfl, fun h => (by rw [hf] at h; cases h), rfl⟩
      · have hf := Hid.of (bs_none hE.out HL.out HU.out hi.out (by rw [List.getElem?_eq_none (by omega)]; intro h; cases h))
        go_wp2
        go_ret2
        exact ⟨i, by rw [hf.out]; rfl, fun h => (by rw [hf.out] at h; cases h), rfl⟩

set_option maxHeartbeats 400000 in
theorem bs_nil (a : Option Addr) (cap : Nat) (n : Int) (w : World) :
    Calls Tryd.prog 71 #[.slice a 0 cap, .int .i64 n] w fun e w' => ∃ k : Nat, e = .returned (.tuple #[.int .i64 k, .bool (hasB [] n)]) ∧ (hasB [] n = true → placeI [] n = (k : Int)) ∧ w' = w := by
  go_enter Tryd.func71, Tryd.ntmps71
  go_wp2
  refine wp_loop_rounds 1 ?_
  rw [rounds_succ]
  go_wp2
  go_ret2
  exact ⟨0, rfl, fun h => (by cases h), rfl⟩

theorem bs_any (a : Option Addr) (cap : Nat) (xs : List Int) (n : Int) (w : World) (hs : At w a xs) (hl : xs.length ≤ 4611686018427387903) (hi : Inc xs) :
    Calls Tryd.prog 71 #[.slice a xs.length cap, .int .i64 n] w fun e w' => ∃ k : Nat, e = .returned (.tuple #[.int .i64 k, .bool (hasB xs n)]) ∧ (hasB xs n = true → placeI xs n = (k : Int)) ∧ w' = w := by
  rcases hs with rfl | ⟨b, off, rfl, -, hc⟩
  · exact bs_nil a cap n w
  · exact bs_some b off cap xs n w hl hc hi

end Go.Proofs.YtgebfkmfhpcdhaaDoor
namespace Go.Proofs.YtgebfkmfhpcdhaaDoor
open Go.RowKit
set_option linter.unusedVariables false
set_option linter.unusedSectionVars false

section
variable {σ : Type} [DecidableEq σ] (nx : σ → List σ)
def cAdd (l : List σ) (x : σ) : List σ := if x ∈ l then l else l ++ [x]
def cRow (l xs : List σ) : List σ := xs.foldl cAdd l
def cGo (d : σ) : Nat → Nat → List σ → List σ
  | 0, _, l => l
  | f + 1, k, l => if k < l.length then cGo d f (k + 1) (cRow l (nx (l[k]?.getD d))) else l
theorem mem_cAdd (l : List σ) (x y : σ) : y ∈ cAdd l x ↔ y ∈ l ∨ y = x := by
  unfold cAdd
  split
  · rename_i h
    exact ⟨.inl, fun q => q.elim id (fun e => by rw [e]; exact h)⟩
  · rw [List.mem_append, List.mem_singleton]
theorem nodup_cAdd {l : List σ} (h : l.Nodup) (x : σ) : (cAdd l x).Nodup := by
  unfold cAdd
  split
  · exact h
  · rename_i hx
    rw [List.nodup_append]
    refine ⟨h, by simp, fun a ha b hb e => ?_⟩
    rw [List.mem_singleton] at hb
    subst hb; subst e; exact hx ha
theorem cAdd_pre (l : List σ) (x : σ) : ∃ t, cAdd l x = l ++ t := by
  unfold cAdd
  split
  · exact ⟨[], by simp⟩
  · exact ⟨[x], rfl⟩
theorem mem_cRow : ∀ (xs l : List σ) (y : σ), y ∈ cRow l xs ↔ y ∈ l ∨ y ∈ xs
  | [], l, y => by simp [cRow]
  | x :: r, l, y => by
    have := mem_cRow r (cAdd l x) y
    unfold cRow at this ⊢
    rw [List.foldl_cons, this, mem_cAdd, List.mem_cons, or_assoc]
theorem nodup_cRow : ∀ (xs : List σ) {l : List σ}, l.Nodup → (cRow l xs).Nodup
  | [], l, h => h
  | x :: r, l, h => nodup_cRow r (nodup_cAdd h x)
theorem cRow_pre : ∀ (xs l : List σ), ∃ t, cRow l xs = l ++ t
  | [], l => ⟨[], by simp [cRow]⟩
  | x :: r, l => by
    obtain ⟨t, ht⟩ := cAdd_pre l x
    obtain ⟨u, hu⟩ := cRow_pre r (cAdd l x)
    refine ⟨t ++ u, ?_⟩
    unfold cRow at hu ⊢
    rw [List.foldl_cons, hu, ht, List.append_assoc]
/-- What the search leaves: closed, and nothing else. -/
theorem cGo_inv {d : σ} {U : List σ} (hU : ∀ y ∈ U, ∀ x ∈ nx y, x ∈ U) (S : σ → Prop) (hS : ∀ y, S y → ∀ x ∈ nx y, S x) : ∀ (f k : Nat) (l : List σ), l.Nodup → (∀ x ∈ l, x ∈ U) → (∀ x ∈ l, S x) → (∀ (j : Nat) (y : σ), j < k → l[j]? = some y → ∀ x ∈ nx y, x ∈ l) → k ≤ l.length → U.length < f + k →
    (cGo nx d f k l).Nodup ∧ (∀ x ∈ cGo nx d f k l, x ∈ U ∧ S x) ∧ (∀ y ∈ cGo nx d f k l, ∀ x ∈ nx y, x ∈ cGo nx d f k l) ∧ (∀ x ∈ l, x ∈ cGo nx d f k l)
  | 0, k, l, hn, hu, hs, hc, hk, hf => by
    have := nodup_sub hn hu
    omega
  | f + 1, k, l, hn, hu, hs, hc, hk, hf => by
    rw [cGo]
    by_cases hlt : k < l.length
    · rw [if_pos hlt]
      obtain ⟨y, hy⟩ : ∃ y, l[k]? = some y := ⟨_, List.getElem?_eq_getElem hlt⟩
      rw [hy, Option.getD_some]
      have hym := List.mem_of_getElem? hy
      obtain ⟨t, ht⟩ := cRow_pre (nx y) l
      have ih := cGo_inv (d := d) hU S hS f (k + 1) (cRow l (nx y)) (nodup_cRow _ hn) (fun x hx => by
        rcases (mem_cRow _ _ _).1 hx with q | q
        · exact hu x q
        · exact hU y (hu y hym) x q) (fun x hx => by
        rcases (mem_cRow _ _ _).1 hx with q | q
        · exact hs x q
        · exact hS y (hs y hym) x q) (fun j z hj hz x hx => by
        have hjl : j < l.length := by omega
        rw [ht, List.getElem?_append_left hjl] at hz
        by_cases e : j = k
        · subst e
          rw [hy] at hz
          have := Option.some.inj hz
          subst this
          exact (mem_cRow _ _ _).2 (.inr hx)
        · exact (mem_cRow _ _ _).2 (.inl (hc j z (by omega) hz x hx))) (by rw [ht, List.length_append]; omega) (by omega)
      exact ⟨ih.1, ih.2.1, ih.2.2.1, fun x hx => ih.2.2.2 x ((mem_cRow _ _ _).2 (.inl hx))⟩
    · rw [if_neg hlt]
      refine ⟨hn, fun x hx => ⟨hu x hx, hs x hx⟩, fun y hy x hx => ?_, fun x hx => hx⟩
      obtain ⟨j, hj⟩ := List.mem_iff_getElem?.1 hy
      have hjl := (List.getElem?_eq_some_iff.1 hj).1
      exact hc j y (by omega) hj x hx
theorem cGo_start {d : σ} {U l : List σ} (hU : ∀ y ∈ U, ∀ x ∈ nx y, x ∈ U) (hn : l.Nodup) (hu : ∀ x ∈ l, x ∈ U) {f : Nat} (hf : U.length < f) (S : σ → Prop) (hS : ∀ y, S y → ∀ x ∈ nx y, S x) (hs : ∀ x ∈ l, S x) :
    (cGo nx d f 0 l).Nodup ∧ (∀ x ∈ cGo nx d f 0 l, x ∈ U ∧ S x) ∧ (∀ y ∈ cGo nx d f 0 l, ∀ x ∈ nx y, x ∈ cGo nx d f 0 l) ∧ (∀ x ∈ l, x ∈ cGo nx d f 0 l) :=
  cGo_inv nx hU S hS f 0 l hn hu hs (fun j y hj => by omega) (Nat.zero_le _) (by omega)

/-! Lists as sets. -/
def canG (U l : List σ) : List σ := U.filter fun x => decide (x ∈ l)
theorem canG_iff {U l l' : List σ} (h : ∀ x ∈ l, x ∈ U) (h' : ∀ x ∈ l', x ∈ U) : canG U l = canG U l' ↔ ∀ x, x ∈ l ↔ x ∈ l' := by
  constructor
  · intro e x
    have hm : ∀ k : List σ, (∀ y ∈ k, y ∈ U) → (x ∈ canG U k ↔ x ∈ k) := fun k hk => by
      unfold canG
      rw [List.mem_filter, decide_eq_true_eq]
      exact ⟨fun q => q.2, fun q => ⟨hk x q, q⟩⟩
    rw [← hm l h, e, hm l' h']
  · intro e
    unfold canG
    exact List.filter_congr fun x _ => by rw [decide_eq_decide]; exact e x
theorem mem_canG {U l : List σ} (h : ∀ x ∈ l, x ∈ U) (x : σ) : x ∈ canG U l ↔ x ∈ l := by
  unfold canG
  rw [List.mem_filter, decide_eq_true_eq]
  exact ⟨fun q => q.2, fun q => ⟨h x q, q⟩⟩
end

end Go.Proofs.YtgebfkmfhpcdhaaDoor
namespace Go.Proofs.YtgebfkmfhpcdhaaDoor
open Go.RowKit Go.Shelf
set_option linter.unusedVariables false
attribute [local go_sem] Oper.semAt_some

set_option maxRecDepth 100000 in
set_option maxHeartbeats 4000000 in
theorem union_in (S : Nat → Nat) (hS : okS S) (N : Nat) (T : Nat → Nat → Nat) (hTok : Hid (∀ p, okS (T p))) (hall : ∀ k ∈ allS S, k < N) (hN : N ≤ 256) (pg : Nat) (w : World) (hT : Tab w) (hTB : TB w pg N T) :
    CallsIn Fence.wide 5 Tryd.prog 75 #[sval S, .slice (some ⟨pg, 0, none⟩) N N] w fun e W' => e = .returned (sval (toF T (allS S))) ∧ Below w.heap.size w W' := by
  obtain ⟨xs, hxs⟩ := nb_of (N := N) (allS S) hall
  clear hall
  refine callsIn_of_wp_marks Tryd.func75 rfl trivial ?_ rfl
  simp only [Tryd.ntmps75, List.size_toArray, List.length_cons, List.length_nil, Nat.reduceAdd, Nat.reduceSub, Array.replicate_succ, Array.replicate_zero, List.push_toArray, List.append_toArray, List.nil_append, List.cons_append]
  gi_wp2_with (refine ⟨trivial, ?_⟩; refine CallsIn.mono (callsIn_wide.2 (all_any S _)) ?_; rintro e w1 ⟨rfl, rfl⟩)
  have hB0 : Below w.heap.size w (((((w.alloc (.cells (scells S) 79)).alloc (.cells #[.slice (some ⟨pg, 0, none⟩) N N] 93)).alloc (.cells #[.int .u64 0, .int .u64 0, .int .u64 0, .int .u64 0] 79)).alloc (.cells #[.int .u64 0, .int .u64 0, .int .u64 0, .int .u64 0] 79)).alloc (.cells (scells S) 79)) := (((((Below.refl _ _).alloc (Nat.le_refl _) _).alloc (by simp) _).alloc (by simp; omega) _).alloc (by simp; omega) _).alloc (by simp; omega) _
  have bX : Boxed (((((w.alloc (.cells (scells S) 79)).alloc (.cells #[.slice (some ⟨pg, 0, none⟩) N N] 93)).alloc (.cells #[.int .u64 0, .int .u64 0, .int .u64 0, .int .u64 0] 79)).alloc (.cells #[.int .u64 0, .int .u64 0, .int .u64 0, .int .u64 0] 79)).alloc (.cells (scells S) 79)) (w.heap.size + 1) 93 (.slice (some ⟨pg, 0, none⟩) N N) := by
    have := (((Boxed.new (w.alloc (.cells (scells S) 79)) 93 (.slice (some ⟨pg, 0, none⟩) N N)).alloc (.cells #[.int .u64 0, .int .u64 0, .int .u64 0, .int .u64 0] 79)).alloc (.cells #[.int .u64 0, .int .u64 0, .int .u64 0, .int .u64 0] 79)).alloc (.cells (scells S) 79)
    rwa [World.size_alloc] at this
  have bR : SB (((((w.alloc (.cells (scells S) 79)).alloc (.cells #[.slice (some ⟨pg, 0, none⟩) N N] 93)).alloc (.cells #[.int .u64 0, .int .u64 0, .int .u64 0, .int .u64 0] 79)).alloc (.cells #[.int .u64 0, .int .u64 0, .int .u64 0, .int .u64 0] 79)).alloc (.cells (scells S) 79)) (w.heap.size + 1 + 1) zeroS := by
    have := ((Blk.new ((w.alloc (.cells (scells S) 79)).alloc (.cells #[.slice (some ⟨pg, 0, none⟩) N N] 93)) 79 #[.int .u64 0, .int .u64 0, .int .u64 0, .int .u64 0]).alloc (.cells #[.int .u64 0, .int .u64 0, .int .u64 0, .int .u64 0] 79)).alloc (.cells (scells S) 79)
    rwa [World.size_alloc, World.size_alloc] at this
  have bO : SB (((((w.alloc (.cells (scells S) 79)).alloc (.cells #[.slice (some ⟨pg, 0, none⟩) N N] 93)).alloc (.cells #[.int .u64 0, .int .u64 0, .int .u64 0, .int .u64 0] 79)).alloc (.cells #[.int .u64 0, .int .u64 0, .int .u64 0, .int .u64 0] 79)).alloc (.cells (scells S) 79)) (w.heap.size + 1 + 1 + 1) zeroS := by
    have := (Blk.new (((w.alloc (.cells (scells S) 79)).alloc (.cells #[.slice (some ⟨pg, 0, none⟩) N N] 93)).alloc (.cells #[.int .u64 0, .int .u64 0, .int .u64 0, .int .u64 0] 79)) 79 #[.int .u64 0, .int .u64 0, .int .u64 0, .int .u64 0]).alloc (.cells (scells S) 79)
    rwa [World.size_alloc, World.size_alloc, World.size_alloc] at this
  have bN : SB (((((w.alloc (.cells (scells S) 79)).alloc (.cells #[.slice (some ⟨pg, 0, none⟩) N N] 93)).alloc (.cells #[.int .u64 0, .int .u64 0, .int .u64 0, .int .u64 0] 79)).alloc (.cells #[.int .u64 0, .int .u64 0, .int .u64 0, .int .u64 0] 79)).alloc (.cells (scells S) 79)) (w.heap.size + 1 + 1 + 1 + 1) S := by
    have := Blk.new ((((w.alloc (.cells (scells S) 79)).alloc (.cells #[.slice (some ⟨pg, 0, none⟩) N N] 93)).alloc (.cells #[.int .u64 0, .int .u64 0, .int .u64 0, .int .u64 0] 79)).alloc (.cells #[.int .u64 0, .int .u64 0, .int .u64 0, .int .u64 0] 79)) 79 (scells S)
    rwa [World.size_alloc, World.size_alloc, World.size_alloc, World.size_alloc] at this
  have hsz0 : (((((w.alloc (.cells (scells S) 79)).alloc (.cells #[.slice (some ⟨pg, 0, none⟩) N N] 93)).alloc (.cells #[.int .u64 0, .int .u64 0, .int .u64 0, .int .u64 0] 79)).alloc (.cells #[.int .u64 0, .int .u64 0, .int .u64 0, .int .u64 0] 79)).alloc (.cells (scells S) 79)).heap.size = w.heap.size + 5 := by simp
  revert hB0 bX bR bO bN hsz0
  generalize ((((w.alloc (.cells (scells S) 79)).alloc (.cells #[.slice (some ⟨pg, 0, none⟩) N N] 93)).alloc (.cells #[.int .u64 0, .int .u64 0, .int .u64 0, .int .u64 0] 79)).alloc (.cells #[.int .u64 0, .int .u64 0, .int .u64 0, .int .u64 0] 79)).alloc (.cells (scells S) 79) = W0
  intro hB0 bX bR bO bN hsz0
  have hT0 := hT.below hB0 hT.lt
  have hw0 := hT.lt
  refine wpIn_rangeFunc_ownG rfl (by omega) (gf := 145) (lb := #[.pointer (some ⟨w.heap.size + 1 + 1 + 1 + 1, 0, none⟩)]) rfl trivial (enters_of Tryd.func145 (by kernel_rfl) rfl)
    (all_stops 4 (by omega) (w.heap.size + 1 + 1 + 1 + 1) (w.heap.size + 3) S hS xs hxs (by omega) W0 (by omega) bN hT0) belowK_t (belowK_b (by omega)) (Below.refl _ _) (fun _ => rfl)
    (fun pre W' => SB W' (w.heap.size + 1 + 1 + 1) (toF T (nbNats pre)) ∧ Below (w.heap.size + 3) W0 W')
    (fun _ _ _ => False)
    (OwnFrom.and (Go.Own.from (own_SB (w.heap.size + 1 + 1 + 1) (fun pre : List (NB N) => toF T (nbNats pre))) _) (ownFrom_below (by omega) (by omega)))
    (fun _ _ _ _ _ hs _ _ => hs)
    ⟨bO, Below.refl _ _⟩
    (fun x => { tmps := #[sval S, .slice (some ⟨pg, 0, none⟩) N N, .pointer (some ⟨w.heap.size, 0, none⟩), .pointer (some ⟨w.heap.size + 1, 0, none⟩), .pointer (some ⟨w.heap.size + 1 + 1, 0, none⟩), .pointer (some ⟨w.heap.size + 1 + 1 + 1, 0, none⟩), .int .i64 (x.1 : Int), sval S, .func (.func 145) #[] #[.pointer (some ⟨w.heap.size + 1 + 1 + 1 + 1, 0, none⟩)], .int .i64 (x.1 : Int), undef, undef, undef, undef, undef, undef, undef], defers := [] }) ?assign ?body ?done ?stop
  case assign =>
    intro l x W K hK
    gi_wp2
    exact hK
  case body =>
    rintro l' pre x W' ⟨hO, hB'⟩ hlt
    have hBW : Below w.heap.size w W' := hB0.trans (hB'.mono (by omega))
    have hTW := hTB.below hBW hTB.lt
    have c1 : W'.cell? ⟨w.heap.size + 1, 0, none⟩ = some (.slice (some ⟨pg, 0, none⟩) N N) := Boxed.cell ((hB'.block _ (by omega)).trans bX)
    have hx := x.2
    obtain ⟨n, hn⟩ : ∃ n, Hid (n = x.1) := ⟨_, rfl⟩
    rw [← hn.out] at hx ⊢
    obtain ⟨t0, t1, t2, t3⟩ := hTW.cells hx
    obtain ⟨o0, o1, o2, o3⟩ := hO.cells
    have fO := hO.frozen
    have mx : Tryd.prog.follows .mixedOrders = true := by kernel_rfl
    have hOk : Hid (okS (toF T (nbNats pre))) := ok_toF hTok.out _
    have hTp : Hid (okS (T n)) := hTok.out n
    have HX : Hid (toF T (nbNats (pre ++ [x])) = joinS (toF T (nbNats pre)) (T n)) := by show _ = _; rw [nbNats_snoc, toF_snoc, hn.out]
    have hn0 : (0 : Int) ≤ (n : Int) := by omega
    have hnI : (n : Int) < (N : Int) := by omega
    have hOd : Hid (SB W'.drew (w.heap.size + 1 + 1 + 1) (toF T (nbNats pre))) := hO
    have HB := Hid.of hB'
    have HO := Hid.of hO
    clear hTW hBW hB' hO
    generalize toF T (nbNats pre) = O at *
    gi_wp2
    gi_region_with_o (refine ⟨trivial, ?_⟩; refine CallsIn.mono (CallsIn.inRound l' (callsIn_wide.2 (join_any O (T n) _ hOk.out hTp.out))) ?_; rintro e' w1 ⟨rfl, hb1⟩; have hO1 := Blk.below hOd.out hb1 hOd.out.lt; obtain ⟨y0, y1, y2, y3⟩ := SB.cells hO1; have fO1 := Blk.frozen hO1)
    all_goals
      have k1 : KeepsOthers W' w1 := ⟨hb1.size, fun k o hk _ => (hb1.block k (Array.getElem?_eq_some_iff.1 hk).1).trans hk⟩
      have k2 : Below (w.heap.size + 3) W' w1 := ((Below.refl _ W').drew).trans (hb1.mono (Nat.le_of_lt HO.out.lt))
      have k3 := below_set4 k2 (b' := w.heap.size + 1 + 1 + 1) (Nat.le_refl _) (.int .u64 (joinS O (T n) 0)) (.int .u64 (joinS O (T n) 1)) (.int .u64 (joinS O (T n) 2)) (.int .u64 (joinS O (T n) 3))
      exact ⟨((((k1.trans (KeepsOthers.setCell _ _ _)).trans (KeepsOthers.setCell _ _ _)).trans (KeepsOthers.setCell _ _ _)).trans (KeepsOthers.setCell _ _ _)).from _, k3, by rw [HX.out]; exact SB.set4 hO1 _, HB.out.trans k3⟩
  case done =>
    rintro D ys W' hD rfl ⟨hO, hB'⟩ hK
    have hBW : Below w.heap.size w W' := hB0.trans (hB'.mono (by omega))
    obtain ⟨o0, o1, o2, o3⟩ := hO.cells
    have HQ : Hid (toF T (nbNats ys) = toF T (allS S)) := by show _ = _; rw [← hxs]; rfl
    have hres := bR.below hB' (by omega)
    obtain ⟨r0, r1, r2, r3⟩ := SB.cells hres
    have rz := hres.frozen
    have k2 := Hid.of (SB.set4 hres (toF T (nbNats ys)))
    have k3 := Hid.of (below_set4 hBW (b' := w.heap.size + 1 + 1) (by omega) (.int .u64 (toF T (nbNats ys) 0)) (.int .u64 (toF T (nbNats ys) 1)) (.int .u64 (toF T (nbNats ys) 2)) (.int .u64 (toF T (nbNats ys) 3)))
    have hMk : Marks w.heap.size [D] W' := by
      refine ⟨fun D' hD' => ?_, by simp⟩
      have e : D' = D := by simpa using hD'
      rw [e]
      exact ⟨by omega, hK⟩
    have k4 := Hid.of (hMk.other4 hres (toF T (nbNats ys)))
    clear hMk
    clear hO hBW hB' hres hK
    generalize toF T (nbNats ys) = O at *
    gi_wp2
    refine leaves_marks (B := w.heap.size) (fun W => SB W (w.heap.size + 1 + 1) O ∧ Below w.heap.size w W) ?hJ ?hfin [D] _ k4.out ⟨k2.out, k3.out⟩
    case hJ =>
      rintro W D ⟨h1, h2⟩ hD hk
      refine ⟨(World.putObj_heap_other (fun e => ?_)).trans h1, h2.trans (belowK_b (w := w) (Nat.le_refl _) W D _ _ hD hk rfl rfl)⟩
      have h3 : W.heap[w.heap.size + 1 + 1]? = _ := h1
      rw [e, hk] at h3
      cases h3
    case hfin =>
      rintro W ⟨h1, h2⟩
      exact ⟨_, results_cell_row (g := w.heap.size + 1 + 1) (p := 4) rfl _ _ _ _ _ _ rfl h1 Tryd.underlying79 rfl (by kernel_rfl), by rw [← HQ.out], h2⟩
  case stop =>
    rintro D c pre W _ _ h _
    exact h.elim

theorem union_any (S : Nat → Nat) (hS : okS S) (N : Nat) (T : Nat → Nat → Nat) (hTok : ∀ p, okS (T p)) (hall : ∀ k ∈ allS S, k < N) (hN : N ≤ 256) (pg : Nat) (w : World) (hT : Tab w) (hTB : TB w pg N T) :
    Calls Tryd.prog 75 #[sval S, .slice (some ⟨pg, 0, none⟩) N N] w fun e W' => e = .returned (sval (toF T (allS S))) ∧ Below w.heap.size w W' :=
  callsIn_wide.1 (union_in S hS N T hTok hall hN pg w hT hTB)

end Go.Proofs.YtgebfkmfhpcdhaaDoor
namespace Go.Proofs.YtgebfkmfhpcdhaaDoor
open Go.Shelf

def Tryd.cloneA_ren : Go.Shelf.Ren := ⟨fun | 15 => 69 | n => n, fun | 22 => 22 | 3 => 3 | 4 => 4 | n => n, fun | n => n⟩
theorem Tryd.cloneA : Go.Proofs.Lays2.n15 Tryd.prog Tryd.cloneA_ren := {
  mixed := by kernel_rfl
  f15 := Tryd.func69.trans (congrArg some (by kernel_rfl))
  t3 := Tryd.underlying3
  a3 := Tryd.isAgg3
  z3 := Tryd.sizeOf3
  v3 := Tryd.zeroValue3
  t4 := Tryd.underlying4
  a4 := Tryd.isAgg4
  z4 := Tryd.sizeOf4
  v4 := Tryd.zeroValue4
  t22 := Tryd.underlying22
  a22 := Tryd.isAgg22
  z22 := Tryd.sizeOf22
  v22 := Tryd.zeroValue22
  i3 := by kernel_rfl }

end Go.Proofs.YtgebfkmfhpcdhaaDoor
namespace Go.Proofs.YtgebfkmfhpcdhaaDoor
open Go.RowKit Go.Shelf Go.Lib Go.Sort
set_option linter.unusedVariables false

theorem clone_any (a : Option Addr) (c : Nat) (xs : List Int) (w : World) (h : At w a xs) (hl : xs.length ≤ 17592186044416) :
    Calls Tryd.prog 69 #[.slice a xs.length c] w fun e w' => ∃ v, e = .returned v ∧ Own w' w.heap.size v xs ∧ Below w.heap.size w w' := by
  rcases h with rfl | ⟨b, off, rfl, hb, hc⟩
  · cases a with
    | none =>
      refine (Any.slices_Clone_int_nil Tryd.cloneA 0 c w).mono ?_
      rintro e w' ⟨rfl, rfl⟩
      exact ⟨_, rfl, own_nil _ _, Below.refl _ _⟩
    | some p =>
      refine (Any.slices_Clone_int_zero Tryd.cloneA p c w).mono ?_
      rintro e w' ⟨v, rfl, h1, -, h2⟩
      exact ⟨v, rfl, h1, h2⟩
  · refine (Any.slices_Clone_int Tryd.cloneA b off xs.length c xs w (Nat.le_refl _) (by omega) hc).mono ?_
    rintro e w' ⟨v, rfl, h1, -, h2⟩
    rw [List.take_of_length_le (Nat.le_refl _)] at h1
    exact ⟨v, rfl, h1, h2⟩

end Go.Proofs.YtgebfkmfhpcdhaaDoor
namespace Go.Proofs.YtgebfkmfhpcdhaaDoor
open Go.RowKit
set_option linter.unusedVariables false

theorem lessB_len_ne {xs ys : List Int} (h : ¬ xs.length = ys.length) : lessB xs ys = decide (xs.length < ys.length) := by unfold lessB; rw [if_neg h]
theorem less_cast {xs ys : List Int} (h : ¬ xs.length = ys.length) : decide ((xs.length : Int) < (ys.length : Int)) = lessB xs ys := by
  rw [lessB_len_ne h]; exact decide_eq_decide.2 (by omega)
theorem dropG {l : List Int} {k : Nat} (h : k < l.length) : l.drop k = (l[k]?.getD 0) :: l.drop (k + 1) := by
  rw [List.drop_eq_getElem_cons h, List.getElem?_eq_getElem h, Option.getD_some]
theorem lex_no {xs ys : List Int} {k : Nat} {x y : Int} (hl : Hid (xs.length = ys.length)) (h1 : k < xs.length) (h2 : k < ys.length) (hx : Hid (x = xs[k]?.getD 0)) (hy : Hid (y = ys[k]?.getD 0)) (h : ¬ x = y) (e : Hid (lexB xs ys = lexB (xs.drop k) (ys.drop k))) : decide (x < y) = lessB xs ys := by
  unfold lessB; rw [if_pos hl.out, e.out, dropG h1, dropG h2, ← hx.out, ← hy.out, lexB, if_neg h]
theorem lex_yes {xs ys : List Int} {k : Nat} {x y : Int} (h1 : k < xs.length) (h2 : k < ys.length) (hx : Hid (x = xs[k]?.getD 0)) (hy : Hid (y = ys[k]?.getD 0)) (h : x = y) (e : Hid (lexB xs ys = lexB (xs.drop k) (ys.drop k))) : Hid (lexB xs ys = lexB (xs.drop (k + 1)) (ys.drop (k + 1))) := by
  show _ = _
  rw [e.out, dropG h1, dropG h2, ← hx.out, ← hy.out, lexB, if_pos h]
theorem lex_end {xs ys : List Int} {k : Nat} (hl : Hid (xs.length = ys.length)) (h : ¬ k < xs.length) (e : Hid (lexB xs ys = lexB (xs.drop k) (ys.drop k))) : false = lessB xs ys := by
  unfold lessB; rw [if_pos hl.out, e.out, List.drop_eq_nil_of_le (by omega)]; simp [lexB]

end Go.Proofs.YtgebfkmfhpcdhaaDoor
