/-
  Plain mathematics of a machine trimmed: the states that are in both, numbered anew; it accepts the same words. No program, no model.
  The walks of cmp.Less, slices.isNaN, cmp.isNaN and slices.BinarySearch: the place of a number in a row that rises.
  Plain: the machine of sets: how its sets are found, in the reference's order; what is determined. No program, no model.
  Plain: sets of bits beside the lists that they stand for. No program, no model.
  Sets of states as keys of a map.
  Plain mathematics of what a set of states leads to, in any number of steps. No program, no model.
-/
import Derived.Test.YtgebfkmfhpcdhaaDoorI04
import Derived.Test.YtgebfkmfhpcdhaaDoorI05
import Derived.Test.YtgebfkmfhpcdhaaDoorI03
import Derived.DeepKeys4
import Derived.Maps.Keyed
import Derived.Carry
import Derived.Test.YtgebfkmfhpcdhaaDoorI10
import Derived.Test.YtgebfkmfhpcdhaaDoorI06
namespace Go.Proofs.YtgebfkmfhpcdhaaDoor
open Go.RowKit
set_option linter.unusedVariables false

/-! Places. -/
theorem placeN_some : ∀ {l : List Int} {n : Int} {j : Nat}, placeN l n = some j → l[j]? = some n
  | [], _, _, h => by simp [placeN] at h
  | x :: r, n, j, h => by
    unfold placeN at h
    by_cases hx : x = n
    · rw [if_pos hx] at h; cases h; simp [hx]
    · rw [if_neg hx] at h
      cases hp : placeN r n with
      | none => rw [hp] at h; cases h
      | some i => rw [hp] at h; cases h; simpa using placeN_some hp
theorem placeN_mem : ∀ {l : List Int} {n : Int}, n ∈ l → ∃ j, placeN l n = some j
  | [], _, h => by simp at h
  | x :: r, n, h => by
    unfold placeN
    by_cases hx : x = n
    · exact ⟨0, by rw [if_pos hx]⟩
    · rw [if_neg hx]
      rcases List.mem_cons.1 h with h | h
      · exact absurd h.symm hx
      · obtain ⟨j, hj⟩ := placeN_mem h
        exact ⟨j + 1, by rw [hj]; rfl⟩
theorem placeI_of {l : List Int} {n : Int} {j : Nat} (h : placeN l n = some j) : placeI l n = j := by unfold placeI placeF; rw [h]; simp
theorem placeI_lt {l : List Int} {n : Int} (h : n ∈ l) : placeI l n < l.length := by
  obtain ⟨j, hj⟩ := placeN_mem h
  have := placeF_lt l n j hj
  rw [placeI_of hj]; omega
/-! Rows and arrows in order. -/
theorem rowB_iff (n : Int) (hn : n ≤ 2147483648) (l : List Int) : rowB n l = true ↔ Inc l ∧ ∀ x ∈ l, 0 ≤ x ∧ x < n := by
  unfold rowB
  rw [goIs_iff]
  constructor
  · rintro ⟨h1, h2⟩; exact ⟨h1, fun x hx => by have := h2 x hx; omega⟩
  · rintro ⟨h1, h2⟩; exact ⟨h1, fun x hx => by have := h2 x hx; omega⟩
abbrev IncA (l : List Arr) : Prop := l.Pairwise (fun a b => aheadB a b = true)
theorem aheadB_iff (a b : Arr) : aheadB a b = true ↔ a.f < b.f ∨ (a.f = b.f ∧ (a.e < b.e ∨ (a.e = b.e ∧ a.t < b.t))) := by
  unfold aheadB
  split
  · split
    · simp only [decide_eq_true_eq]; omega
    · simp only [decide_eq_true_eq]; omega
  · simp only [decide_eq_true_eq]; omega
theorem aheadB_trans {a b c : Arr} (h : aheadB a b = true) (k : aheadB b c = true) : aheadB a c = true := by
  rw [aheadB_iff] at *; omega
theorem arrsFrom_iff (st ev : Int) : ∀ (ars : List Arr) (p : Option Arr), arrsFrom st ev p ars = true ↔ (∀ a ∈ ars, arrIn st ev a) ∧ IncA ars ∧ ∀ a ∈ ars, behindB p a = true
  | [], p => by simp [arrsFrom]
  | b :: r, p => by
    unfold arrsFrom
    by_cases hc : arrIn st ev b ∧ behindB p b = true
    · rw [if_pos hc, arrsFrom_iff st ev r (some b)]
      constructor
      · rintro ⟨h1, h2, h3⟩
        refine ⟨?_, List.pairwise_cons.2 ⟨fun a ha => h3 a ha, h2⟩, ?_⟩
        · intro a ha
          rcases List.mem_cons.1 ha with rfl | ha
          · exact hc.1
          · exact h1 a ha
        · intro a ha
          rcases List.mem_cons.1 ha with rfl | ha
          · exact hc.2
          · cases p with
            | none => rfl
            | some q => exact aheadB_trans (b := b) hc.2 (h3 a ha)
      · rintro ⟨h1, h2, h3⟩
        obtain ⟨k1, k2⟩ := List.pairwise_cons.1 h2
        exact ⟨fun a ha => h1 a (by simp [ha]), k2, k1⟩
    · rw [if_neg hc]
      constructor
      · intro h; cases h
      · rintro ⟨h1, h2, h3⟩
        exact absurd ⟨h1 b (by simp), h3 b (by simp)⟩ hc
/-! What is come to, of a machine that may be. -/
theorem may_arrs {m : Mach} (hm : mayB m = true) : ∀ a ∈ m.arrows, arrIn m.st m.ev a := ((arrsFrom_iff _ _ _ _).1 (mayB_arrs hm)).1
theorem may_starts {m : Mach} (hm : mayB m = true) : Inc m.starts ∧ ∀ x ∈ m.starts, 0 ≤ x ∧ x < m.st := (rowB_iff _ (by have := mayB_size hm; unfold sizeOk at this; omega) _).1 (mayB_starts hm)
theorem may_ends {m : Mach} (hm : mayB m = true) : Inc m.ends ∧ ∀ x ∈ m.ends, 0 ≤ x ∧ x < m.st := (rowB_iff _ (by have := mayB_size hm; unfold sizeOk at this; omega) _).1 (mayB_ends hm)
theorem rch_bd {fr to : Arr → Int} {ars : List Arr} {l : List Int} {n x : Int} (hl : ∀ x ∈ l, 0 ≤ x ∧ x < n) (ha : ∀ a ∈ ars, 0 ≤ to a ∧ to a < n) (h : Rch fr to ars l x) : 0 ≤ x ∧ x < n :=
  h (fun x => 0 ≤ x ∧ x < n) ⟨hl, fun a h _ => ha a h⟩
/-! The trimmed machine may be. -/
/-! The trimmed machine accepts the same words. -/
end Go.Proofs.YtgebfkmfhpcdhaaDoor
namespace Go.Proofs.YtgebfkmfhpcdhaaDoor
open Go.RowKit
set_option linter.unusedVariables false

set_option maxHeartbeats 400000 in
theorem cmpNaN_any (x : Int) (w : World) : Calls Tryd.prog 158 #[.int .i64 x] w fun e w' => e = .returned (.bool false) ∧ w' = w := by
  go_enter Tryd.func158, Tryd.ntmps158
  go_wp2
  go_ret
  exact ⟨rfl, rfl⟩

set_option maxHeartbeats 400000 in
theorem slNaN_any (x : Int) (w : World) : Calls Tryd.prog 116 #[.int .i64 x] w fun e w' => e = .returned (.bool false) ∧ w' = w := by
  go_enter Tryd.func116, Tryd.ntmps116
  go_wp2
  go_ret
  exact ⟨rfl, rfl⟩

def lessBS (x y : Int) : Bool := decide (x < y)

set_option maxHeartbeats 400000 in
theorem less2_any (x y : Int) (w : World) : Calls Tryd.prog 115 #[.int .i64 x, .int .i64 y] w fun e w' => e = .returned (.bool (lessBS x y)) ∧ w' = w := by
  go_enter Tryd.func115, Tryd.ntmps115
  go_wp2_with (go_at_call 158; refine (cmpNaN_any x _).mono ?_; rintro e w' ⟨rfl, rfl⟩)
  go_ret
  exact ⟨rfl, rfl⟩

theorem inc_at {xs : List Int} (h : Inc xs) {p q : Nat} {x y : Int} (hp : xs[p]? = some x) (hq : xs[q]? = some y) (hpq : p < q) : x < y := by
  obtain ⟨p1, p2⟩ := List.getElem?_eq_some_iff.1 hp
  obtain ⟨q1, q2⟩ := List.getElem?_eq_some_iff.1 hq
  have := List.pairwise_iff_getElem.1 h p q p1 q1 hpq
  rwa [p2, q2] at this
theorem at_of {xs : List Int} {k : Nat} {x : Int} (h : k < xs.length) (hx : Hid (x = xs[k]?.getD 0)) : xs[k]? = some x := by
  rw [hx.out, List.getElem?_eq_getElem h]; rfl
theorem bs_found {xs : List Int} {n : Int} {k : Nat} (hi : Inc xs) (hk : xs[k]? = some n) : placeI xs n = (k : Int) := by
  obtain ⟨k1, k2⟩ := List.getElem?_eq_some_iff.1 hk
  have hm : n ∈ xs := by rw [← k2]; exact List.getElem_mem k1
  obtain ⟨j, hj⟩ := placeN_mem hm
  rw [placeI_of hj]
  have h2 := placeN_some hj
  rcases Nat.lt_trichotomy j k with h | h | h
  · have := inc_at hi h2 hk h; omega
  · rw [h]
  · have := inc_at hi hk h2 h; omega
theorem bs_has {xs : List Int} {n : Int} {k : Nat} (hk : xs[k]? = some n) : hasB xs n = true := by
  obtain ⟨k1, k2⟩ := List.getElem?_eq_some_iff.1 hk
  exact (hasB_iff _ _).2 (by rw [← k2]; exact List.getElem_mem k1)
theorem bs_none {xs : List Int} {n : Int} {i j : Nat} (hij : i = j) (hl : ∀ p x, p < i → xs[p]? = some x → x < n) (hu : ∀ p x, j ≤ p → xs[p]? = some x → n ≤ x) (hi : Inc xs) (hn : xs[i]? ≠ some n) : hasB xs n = false := by
  cases h : hasB xs n with
  | false => rfl
  | true =>
    exfalso
    obtain ⟨p, hp⟩ := List.getElem?_of_mem ((hasB_iff _ _).1 h)
    rcases Nat.lt_trichotomy p i with c | c | c
    · have := hl p n c hp; omega
    · subst c; exact hn hp
    · have hlt : i < xs.length := Nat.lt_trans c (List.getElem?_eq_some_iff.1 hp).1
      have h1 := hu i _ (by omega) (List.getElem?_eq_getElem hlt)
      have h2 := inc_at hi (List.getElem?_eq_getElem hlt) hp c
      omega

set_option maxHeartbeats 1000000 in
theorem bs_some (b off cap : Nat) (xs : List Int) (n : Int) (w : World) (hl : xs.length ≤ 4611686018427387903) (hc : Cells w b off xs) (hi : Hid (Inc xs)) :
    Calls Tryd.prog 71 #[.slice (some ⟨b, off, none⟩) xs.length cap, .int .i64 n] w fun e w' => ∃ k : Nat, e = .returned (.tuple #[.int .i64 k, .bool (hasB xs n)]) ∧ (hasB xs n = true → placeI xs n = (k : Int)) ∧ w' = w := by
  go_enter Tryd.func71, Tryd.ntmps71
  go_wp2
  go_loop [7, 8] (fun vi vj => ∃ i j : Nat, i ≤ j ∧ j ≤ xs.length ∧ vi = .int .i64 i ∧ vj = .int .i64 j ∧ Hid (∀ p x, p < i → xs[p]? = some x → x < n) ∧ Hid (∀ p x, j ≤ p → xs[p]? = some x → n ≤ x)) (fun vi vj => (intOf vj).toNat - (intOf vi).toNat)
  case atStart => exact ⟨0, xs.length, Nat.zero_le _, Nat.le_refl _, rfl, rfl, fun p x h => by omega, fun p x h hx => by have := (List.getElem?_eq_some_iff.1 hx).1; omega⟩
  case round =>
    obtain ⟨i, j, hij, hj, rfl, rfl, HL, HU⟩ := hrel
    by_cases hlt : i < j
    · have hh : (i + j) / 2 < xs.length := by omega
      obtain ⟨x, HX, hcx⟩ := hc.at hh
      by_cases hx : x < n
      · have d : lessBS x n = true := by simpa [lessBS] using hx
        have HH : Hid (x < n) := hx
        clear hx
        go_wp2_with (go_at_call 115; refine (less2_any x n _).mono ?_; rintro e w' ⟨rfl, rfl⟩)
        go_round
        case rel =>
          refine ⟨(i + j) / 2 + 1, j, by omega, hj, by go_num, rfl, fun p y hp hy => ?_, HU⟩
          have e1 := at_of hh HX
          have e2 := HH.out
          by_cases hpq : p < (i + j) / 2
          · have := inc_at hi.out hy e1 hpq; omega
          · have : p = (i + j) / 2 := by omega
            subst this
            rw [e1] at hy; cases hy; exact e2
        case measure => simp [intOf]; omega
      · have d : lessBS x n = false := by simpa [lessBS] using hx
        have HH : Hid (¬ x < n) := hx
        clear hx
        go_wp2_with (go_at_call 115; refine (less2_any x n _).mono ?_; rintro e w' ⟨rfl, rfl⟩)
        go_round
        case rel =>
          refine ⟨i, (i + j) / 2, by omega, by omega, rfl, by go_num, HL, fun p y hp hy => ?_⟩
          have e1 := at_of hh HX
          have e2 := HH.out
          by_cases hpq : (i + j) / 2 < p
          · have := inc_at hi.out e1 hy hpq; omega
          · have : p = (i + j) / 2 := by omega
            subst this
            rw [e1] at hy; cases hy; omega
        case measure => simp [intOf]; omega
    · have hE : Hid (i = j) := show i = j by omega
      by_cases hil : i < xs.length
      · obtain ⟨x, HX, hcx⟩ := hc.at hil
        have HY := Hid.of (at_of hil HX)
        by_cases hx : x = n
        · subst hx
          go_wp2_with (go_at_call 116; refine (slNaN_any _ _).mono ?_; rintro e w' ⟨rfl, rfl⟩)
          go_ret2
          exact ⟨i, by rw [bs_has HY.out]; rfl, fun _ => bs_found hi.out HY.out, rfl⟩
        · have d : (x == n) = false := by simpa using hx
          have HH : Hid (¬ x = n) := hx
          clear hx
          go_wp2_with (go_at_call 116; refine (slNaN_any _ _).mono ?_; rintro e w' ⟨rfl, rfl⟩)
          go_ret2
          have hf := bs_none hE.out HL.out HU.out hi.out (by rw [HY.out]; intro h; exact HH.out (Option.some.inj h))
          exact ⟨i, by rw [hf]; rfl, fun h => (by rw [hf] at h; cases h), rfl⟩
      · have hf := Hid.of (bs_none hE.out HL.out HU.out hi.out (by rw [List.getElem?_eq_none (by omega)]; intro h; cases h))
        go_wp2
        go_ret2
        exact ⟨i, by rw [hf.out]; rfl, fun h => (by rw [hf.out] at h; cases h), rfl⟩

set_option maxHeartbeats 400000 in
theorem bs_nil (a : Option Addr) (cap : Nat) (n : Int) (w : World) :
    Calls Tryd.prog 71 #[.slice a 0 cap, .int .i64 n] w fun e w' => ∃ k : Nat, e = .returned (.tuple #[.int .i64 k, .bool (hasB [] n)]) ∧ (hasB [] n = true → placeI [] n = (k : Int)) ∧ w' = w := by
  go_enter Tryd.func71, Tryd.ntmps71
  go_wp2
  refine wp_loop_rounds 1 ?_
  rw [rounds_succ]
  go_wp2
  go_ret2
  exact ⟨0, rfl, fun h => (by cases h), rfl⟩

theorem bs_any (a : Option Addr) (cap : Nat) (xs : List Int) (n : Int) (w : World) (hs : At w a xs) (hl : xs.length ≤ 4611686018427387903) (hi : Inc xs) :
    Calls Tryd.prog 71 #[.slice a xs.length cap, .int .i64 n] w fun e w' => ∃ k : Nat, e = .returned (.tuple #[.int .i64 k, .bool (hasB xs n)]) ∧ (hasB xs n = true → placeI xs n = (k : Int)) ∧ w' = w := by
  rcases hs with rfl | ⟨b, off, rfl, -, hc⟩
  · exact bs_nil a cap n w
  · exact bs_some b off cap xs n w hl hc hi

end Go.Proofs.YtgebfkmfhpcdhaaDoor
namespace Go.Proofs.YtgebfkmfhpcdhaaDoor
open Go.RowKit
set_option linter.unusedVariables false

/-! What is found only grows. -/
/-! What holds of what is found. -/
theorem stepIn {m : Mach} (hm : mayB m = true) (ss : List Int) (e : Int) : Inc (stepL m.arrows ss e) ∧ ∀ x ∈ stepL m.arrows ss e, 0 ≤ x ∧ x < m.st := by
  refine ⟨inc_srt _, fun x hx => ?_⟩
  obtain ⟨a, ha, -, -, rfl⟩ := (mem_stepL _ _ _ _).1 hx
  have := may_arrs hm a ha
  exact ⟨this.2.2.1, this.2.2.2.1⟩
end Go.Proofs.YtgebfkmfhpcdhaaDoor
namespace Go.Proofs.YtgebfkmfhpcdhaaDoor
open Go.RowKit
set_option linter.unusedVariables false

/-- The same four words. -/
def eqS (S T : Nat → Nat) : Prop := S 0 = T 0 ∧ S 1 = T 1 ∧ S 2 = T 2 ∧ S 3 = T 3
theorem eqS_at {S T : Nat → Nat} (h : eqS S T) {k : Nat} (hk : k < 4) : S k = T k := by
  obtain ⟨h0, h1, h2, h3⟩ := h
  have : k = 0 ∨ k = 1 ∨ k = 2 ∨ k = 3 := by omega
  rcases this with rfl | rfl | rfl | rfl <;> assumption
theorem word_eq {a b : Nat} (ha : a < 18446744073709551616) (hb : b < 18446744073709551616) (h : ∀ j, j < 64 → a.testBit j = b.testBit j) : a = b := by
  apply Nat.eq_of_testBit_eq
  intro j
  by_cases hj : j < 64
  · exact h j hj
  · have hp : (2 : Nat) ^ 64 ≤ 2 ^ j := Nat.pow_le_pow_right (by omega) (by omega)
    rw [Nat.testBit_lt_two_pow (Nat.lt_of_lt_of_le ha hp), Nat.testBit_lt_two_pow (Nat.lt_of_lt_of_le hb hp)]
theorem eqS_iff {S T : Nat → Nat} {l k : List Int} (h : Rep S l) (h' : Rep T k) (hl : Inc l) (hk : Inc k) : eqS S T ↔ l = k := by
  constructor
  · intro he
    have hh : ∀ n, n < 256 → hasS S n = hasS T n := fun n hn => by unfold hasS; rw [eqS_at he (by omega)]
    refine inc_ext hl hk fun x => ⟨fun hx => ?_, fun hx => ?_⟩
    · obtain ⟨b0, b1⟩ := h.bd x hx
      have := (h.mem x.toNat (by omega)).2 (by rwa [Int.toNat_of_nonneg b0])
      rw [hh _ (by omega)] at this
      have := (h'.mem x.toNat (by omega)).1 this
      rwa [Int.toNat_of_nonneg b0] at this
    · obtain ⟨b0, b1⟩ := h'.bd x hx
      have := (h'.mem x.toNat (by omega)).2 (by rwa [Int.toNat_of_nonneg b0])
      rw [← hh _ (by omega)] at this
      have := (h.mem x.toNat (by omega)).1 this
      rwa [Int.toNat_of_nonneg b0] at this
  · rintro rfl
    have hh : ∀ n, n < 256 → hasS S n = hasS T n := fun n hn => by rw [Bool.eq_iff_iff, h.mem n hn, h'.mem n hn]
    have key : ∀ k, k < 4 → S k = T k := fun k hk => word_eq (h.ok k) (h'.ok k) fun j hj => by
      have := hh (64 * k + j) (by omega)
      unfold hasS at this
      rw [show (64 * k + j) / 64 = k by omega, show (64 * k + j) % 64 = j by omega] at this
      exact this
    exact ⟨key 0 (by omega), key 1 (by omega), key 2 (by omega), key 3 (by omega)⟩

end Go.Proofs.YtgebfkmfhpcdhaaDoor
namespace Go.Proofs.YtgebfkmfhpcdhaaDoor
open Go.RowKit
set_option linter.unusedVariables false

theorem laidOutS : laidOutB Tryd.prog = true := by kernel_rfl
theorem wf_u64 {n : Nat} (h : n < 18446744073709551616) : (Lit.int .u64 (n : Int)).wf = true := by
  have h1 : IntKind.u64.min = 0 := rfl
  have h2 : IntKind.u64.max = 18446744073709551615 := rfl
  simp [Lit.wf, h1, h2]; omega
end Go.Proofs.YtgebfkmfhpcdhaaDoor
namespace Go.Proofs.YtgebfkmfhpcdhaaDoor
open Go.RowKit
set_option linter.unusedVariables false

/-- The table: where each state leads in one step. -/
def tabKStep (fr to : Arr → Int) (T : Nat → Nat → Nat) (a : Arr) : Nat → Nat → Nat := fun p => if p = (fr a).toNat then withS (T p) (to a).toNat else T p
theorem okS_tabKStep {fr to : Arr → Int} {T : Nat → Nat → Nat} (h : ∀ p, okS (T p)) (a : Arr) : ∀ p, okS (tabKStep fr to T a p) := fun p => by
  unfold tabKStep; split
  · exact okS_with (h p) _
  · exact h p
/-- Where states lead to, by a table. -/
def toF (T : Nat → Nat → Nat) (ns : List Nat) : Nat → Nat := ns.foldl (fun o n => joinS o (T n)) zeroS
theorem toF_snoc (T : Nat → Nat → Nat) (ns : List Nat) (n : Nat) : toF T (ns ++ [n]) = joinS (toF T ns) (T n) := by simp [toF, List.foldl_append]
theorem ok_toG {T : Nat → Nat → Nat} (h : ∀ p, okS (T p)) : ∀ (ns : List Nat) (o : Nat → Nat), okS o → okS (ns.foldl (fun o n => joinS o (T n)) o)
  | [], _, ho => ho
  | n :: r, o, ho => ok_toG h r _ (okS_join ho (h _))
theorem ok_toF {T : Nat → Nat → Nat} (h : ∀ p, okS (T p)) (ns : List Nat) : okS (toF T ns) := ok_toG h ns _ okS_zero
theorem has_toG {T : Nat → Nat → Nat} {k : Nat} : ∀ (ns : List Nat) (o : Nat → Nat), hasS (ns.foldl (fun o n => joinS o (T n)) o) k = true ↔ hasS o k = true ∨ ∃ n ∈ ns, hasS (T n) k = true
  | [], o => by simp
  | n :: r, o => by
    rw [List.foldl_cons, has_toG r, hasS_join, Bool.or_eq_true]
    simp only [List.mem_cons, exists_eq_or_imp]
    rw [or_assoc]
theorem has_toF (T : Nat → Nat → Nat) (k : Nat) (ns : List Nat) : hasS (toF T ns) k = true ↔ ∃ n ∈ ns, hasS (T n) k = true := by
  unfold toF; rw [has_toG]; simp [hasS_zero]

end Go.Proofs.YtgebfkmfhpcdhaaDoor
