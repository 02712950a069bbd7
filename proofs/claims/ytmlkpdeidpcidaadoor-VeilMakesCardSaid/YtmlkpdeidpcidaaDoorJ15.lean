/-
  The walk of jalousieref2.Step.
  Plain mathematics of a machine trimmed: the states that are in both, numbered anew; it accepts the same words. No program, no model.
  The walks of cmp.Less, slices.isNaN, cmp.isNaN and slices.BinarySearch: the place of a number in a row that rises.
  Plain: the machine of sets: how its sets are found, in the reference's order; what is determined. No program, no model.
  Plain: sets of bits beside the lists that they stand for. No program, no model.
  Sets of states as keys of a map.
  A map from sets of states to numbers, as the model runs it: the numbers in the order in which the sets came.
-/
import Derived.Deep.RegionWith
import Derived.BigQuiet
import Derived.Test.YtmlkpdeidpcidaaDoorJ05
import Derived.Test.YtmlkpdeidpcidaaDoorJ14
import Derived.Test.YtmlkpdeidpcidaaDoorJ04
import Derived.Test.YtmlkpdeidpcidaaDoorJ03
import Derived.DeepKeys4
import Derived.Maps.Keyed
import Derived.Carry
import Derived.Test.YtmlkpdeidpcidaaDoorJ10
import Derived.Test.YtmlkpdeidpcidaaDoorJ06
namespace Go.Proofs.YtmlkpdeidpcidaaDoor
open Go.RowKit
set_option linter.unusedVariables false

set_option maxHeartbeats 2000000 in
set_option maxRecDepth 100000 in
theorem refStep_some (st ev : Int) (starts : List Int) (ars : List Arr) (ends : List Int) (a1 : Option Addr) (c1 b off c2 : Nat) (a3 : Option Addr) (c3 : Nat) (sa : Option Addr) (sc : Nat) (ss : List Int) (x : Int) (w : World) (hlen : ars.length ≤ 17592186044416) (hb : b < w.heap.size) (hca : CellsA w b off ars) (hs : At w sa ss) (hl : ss.length ≤ maxLen) :
    Calls Tryd.prog 60 #[mval ⟨st, ev, starts, ars, ends⟩ ⟨a1, c1, some ⟨b, off, none⟩, c2, a3, c3⟩, .slice sa ss.length sc, .int .i64 x] w fun e w' => GivesO w (stepL ars ss x) e w' := by
  obtain ⟨i0, hi, hz0, hz1, hz2⟩ := info_parts Tryd.infoInt
  go_enter Tryd.func60, Tryd.ntmps60
  go_wp2
  go_loopw [7, 8] (fun v i wr => ∃ k : Nat, k ≤ ars.length ∧ i = .int .i64 k ∧ Own wr (w.heap.size + 1) v (stepTo (ars.take k) ss x) ∧ Below (w.heap.size + 1) (w.alloc (.cells (mcells ⟨st, ev, starts, ars, ends⟩ ⟨a1, c1, some ⟨b, off, none⟩, c2, a3, c3⟩) 25)) wr) (fun _ i _ => ars.length - (intOf i).toNat)
  case atStart => exact ⟨0, Nat.zero_le _, rfl, own_nil _ _, Below.refl _ _⟩
  case round =>
    obtain ⟨k, hk, rfl, hown, hbel⟩ := hrel
    have hold := below_box hbel
    have hsz := hbel.size
    rw [World.size_alloc] at hsz
    have hbx : w.heap.size < wr.heap.size := by omega
    have hbr : b < wr.heap.size := by omega
    have hbox := (box_cells hbel).2.2.2.1
    dsimp only at hbox
    by_cases hlt : k < ars.length
    · obtain ⟨a, HA, y0, y1, y2⟩ := hca.at hlt
      have y0' := (hold.cell (p := ⟨b, off + k * 3, none⟩) hb).trans y0
      have y1' := (hold.cell (p := ⟨b, off + k * 3 + 1, none⟩) hb).trans y1
      have y2' := (hold.cell (p := ⟨b, off + k * 3 + 2, none⟩) hb).trans y2
      clear y0 y1 y2
      have hsr := hs.below hold (Nat.le_refl _)
      have hll := stepTo_len (ars.take k) ss x
      rw [List.length_take] at hll
      have HN := stepTo_take (ss := ss) (e := x) hlt HA
      by_cases c1' : a.e = x
      · have g1 : (a.e == x) = true := by simp [c1']
        have HC : Hid (a.e = x) := c1'
        clear c1'
        go_wp2_with fail
        refine (refHas_any sa sc ss a.f _ hsr hl).mono ?_
        rintro e w1 ⟨rfl, rfl⟩
        by_cases c2' : hasB ss a.f = true
        · rw [if_pos (by rw [g1, c2']; rfl)] at HN
          have HN' : Hid (stepTo (ars.take (k + 1)) ss x = stepTo (ars.take k) ss x ++ [a.t]) := HN
          clear HN
          go_wp2_with (at_builtin; refine wpList_append_own _ rfl _ _ 22 rfl (w.heap.size + 1) 3 i0 (.int .i64 0) 1 8 Tryd.underlying22 hi hz0 hz1 hz2 rfl (by decide) _ _ _ rfl (World.ownsRow.alloc hown _) ⟨w1.heap.size, 0, none⟩ 1 1 [.int .i64 a.t] rfl rfl (cell_one_new _ _ _) (by intro u hu; simp at hu; subst hu; rfl) (by unfold maxLen; omega) (by omega) (by simp; omega) ?_)
          intro v' w2 hown' hgrow _
          obtain ⟨r1, r2, -⟩ := own_snoc hown hbel (by omega) hown' hgrow
          rw [← HN'.out] at r1
          clear hown' hgrow hown
          go_wp2
          go_roundw
          case rel => exact ⟨k + 1, by omega, by go_num, r1, r2⟩
          case measure => simp [intOf]; omega
        · have c3' : hasB ss a.f = false := by simpa using c2'
          rw [if_neg (by rw [c3']; simp)] at HN
          have r1 := hown
          rw [← HN] at r1
          clear HN c2'
          go_wp2
          go_roundw
          case rel => exact ⟨k + 1, by omega, by go_num, r1, hbel⟩
          case measure => simp [intOf]; omega
      · have g1 : (a.e == x) = false := by simp [c1']
        rw [if_neg (by rw [g1]; simp)] at HN
        have r1 := hown
        rw [← HN] at r1
        clear HN
        go_wp2
        go_roundw
        case rel => exact ⟨k + 1, by omega, by go_num, r1, hbel⟩
        case measure => simp [intOf]; omega
    · have htk : Hid (ars.take k = ars) := List.take_of_length_le (by omega)
      rw [htk.out] at hown
      have hl2 := stepTo_len ars ss x
      obtain ⟨a', c', rfl, h3, l3⟩ := hown.at
      go_wp2_with fail
      refine (sorted_own a' c' (stepTo ars ss x) _ h3 (by omega)).mono ?_
      rintro e w1 ⟨v4, rfl, o4, b4⟩
      have bb : Below w.heap.size w w1 := hold.trans (b4.mono (by omega))
      go_wp2
      go_ret
      exact ⟨v4, rfl, o4.low (by omega), bb⟩

set_option maxHeartbeats 400000 in
theorem refStep_nil (st ev : Int) (starts : List Int) (ends : List Int) (l : ML) (sa : Option Addr) (sc : Nat) (ss : List Int) (x : Int) (w : World) :
    Calls Tryd.prog 60 #[mval ⟨st, ev, starts, [], ends⟩ l, .slice sa ss.length sc, .int .i64 x] w fun e w' => GivesO w [] e w' := by
  go_enter Tryd.func60, Tryd.ntmps60
  go_wp2_with fail
  refine wp_loop_rounds 1 ?_
  rw [rounds_succ]
  go_wp2_with fail
  refine (sorted_nil none 0 _).mono ?_
  rintro e w1 ⟨rfl, rfl⟩
  go_wp2
  go_ret
  exact ⟨_, rfl, own_nil _ _, (Below.refl _ _).alloc (Nat.le_refl _) _⟩

theorem refStep_own (m : Mach) (l : ML) (sa : Option Addr) (sc : Nat) (ss : List Int) (x : Int) (w : World) (ha : AtA w l.a2 m.arrows) (hlen : m.arrows.length ≤ 17592186044416) (hs : At w sa ss) (hl : ss.length ≤ maxLen) :
    Calls Tryd.prog 60 #[mval m l, .slice sa ss.length sc, .int .i64 x] w fun e w' => GivesO w (stepL m.arrows ss x) e w' := by
  obtain ⟨st, ev, starts, ars, ends⟩ := m
  obtain ⟨a1, c1, a2, c2, a3, c3⟩ := l
  rcases ha with h0 | ⟨b, off, h0, hb, hc⟩
  · have h0 : ars = [] := h0
    subst h0
    exact refStep_nil st ev starts ends _ sa sc ss x w
  · have h0 : a2 = some ⟨b, off, none⟩ := h0
    subst h0
    exact refStep_some st ev starts ars ends a1 c1 b off c2 a3 c3 sa sc ss x w hlen hb hc hs hl

end Go.Proofs.YtmlkpdeidpcidaaDoor
namespace Go.Proofs.YtmlkpdeidpcidaaDoor
open Go.RowKit
set_option linter.unusedVariables false

/-! Places. -/
theorem placeN_some : ∀ {l : List Int} {n : Int} {j : Nat}, placeN l n = some j → l[j]? = some n
  | [], _, _, h => by simp [placeN] at h
  | x :: r, n, j, h => by
    unfold placeN at h
    by_cases hx : x = n
    · rw [if_pos hx] at h; cases h; simp [hx]
    · rw [if_neg hx] at h
      cases hp : placeN r n with
      | none => rw [hp] at h; cases h
      | some i => rw [hp] at h; cases h; simpa using placeN_some hp
theorem placeN_mem : ∀ {l : List Int} {n : Int}, n ∈ l → ∃ j, placeN l n = some j
  | [], _, h => by simp at h
  | x :: r, n, h => by
    unfold placeN
    by_cases hx : x = n
    · exact ⟨0, by rw [if_pos hx]⟩
    · rw [if_neg hx]
      rcases List.mem_cons.1 h with h | h
      · exact absurd h.symm hx
      · obtain ⟨j, hj⟩ := placeN_mem h
        exact ⟨j + 1, by rw [hj]; rfl⟩
theorem placeI_of {l : List Int} {n : Int} {j : Nat} (h : placeN l n = some j) : placeI l n = j := by unfold placeI placeF; rw [h]; simp
theorem placeI_lt {l : List Int} {n : Int} (h : n ∈ l) : placeI l n < l.length := by
  obtain ⟨j, hj⟩ := placeN_mem h
  have := placeF_lt l n j hj
  rw [placeI_of hj]; omega
/-! Rows and arrows in order. -/
theorem rowB_iff (n : Int) (hn : n ≤ 2147483648) (l : List Int) : rowB n l = true ↔ Inc l ∧ ∀ x ∈ l, 0 ≤ x ∧ x < n := by
  unfold rowB
  rw [goIs_iff]
  constructor
  · rintro ⟨h1, h2⟩; exact ⟨h1, fun x hx => by have := h2 x hx; omega⟩
  · rintro ⟨h1, h2⟩; exact ⟨h1, fun x hx => by have := h2 x hx; omega⟩
abbrev IncA (l : List Arr) : Prop := l.Pairwise (fun a b => aheadB a b = true)
theorem aheadB_iff (a b : Arr) : aheadB a b = true ↔ a.f < b.f ∨ (a.f = b.f ∧ (a.e < b.e ∨ (a.e = b.e ∧ a.t < b.t))) := by
  unfold aheadB
  split
  · split
    · simp only [decide_eq_true_eq]; omega
    · simp only [decide_eq_true_eq]; omega
  · simp only [decide_eq_true_eq]; omega
theorem aheadB_trans {a b c : Arr} (h : aheadB a b = true) (k : aheadB b c = true) : aheadB a c = true := by
  rw [aheadB_iff] at *; omega
theorem arrsFrom_iff (st ev : Int) : ∀ (ars : List Arr) (p : Option Arr), arrsFrom st ev p ars = true ↔ (∀ a ∈ ars, arrIn st ev a) ∧ IncA ars ∧ ∀ a ∈ ars, behindB p a = true
  | [], p => by simp [arrsFrom]
  | b :: r, p => by
    unfold arrsFrom
    by_cases hc : arrIn st ev b ∧ behindB p b = true
    · rw [if_pos hc, arrsFrom_iff st ev r (some b)]
      constructor
      · rintro ⟨h1, h2, h3⟩
        refine ⟨?_, List.pairwise_cons.2 ⟨fun a ha => h3 a ha, h2⟩, ?_⟩
        · intro a ha
          rcases List.mem_cons.1 ha with rfl | ha
          · exact hc.1
          · exact h1 a ha
        · intro a ha
          rcases List.mem_cons.1 ha with rfl | ha
          · exact hc.2
          · cases p with
            | none => rfl
            | some q => exact aheadB_trans (b := b) hc.2 (h3 a ha)
      · rintro ⟨h1, h2, h3⟩
        obtain ⟨k1, k2⟩ := List.pairwise_cons.1 h2
        exact ⟨fun a ha => h1 a (by simp [ha]), k2, k1⟩
    · rw [if_neg hc]
      constructor
      · intro h; cases h
      · rintro ⟨h1, h2, h3⟩
        exact absurd ⟨h1 b (by simp), h3 b (by simp)⟩ hc
/-! What is come to, of a machine that may be. -/
theorem may_arrs {m : Mach} (hm : mayB m = true) : ∀ a ∈ m.arrows, arrIn m.st m.ev a := ((arrsFrom_iff _ _ _ _).1 (mayB_arrs hm)).1
theorem may_inc {m : Mach} (hm : mayB m = true) : IncA m.arrows := ((arrsFrom_iff _ _ _ _).1 (mayB_arrs hm)).2.1
theorem may_starts {m : Mach} (hm : mayB m = true) : Inc m.starts ∧ ∀ x ∈ m.starts, 0 ≤ x ∧ x < m.st := (rowB_iff _ (by have := mayB_size hm; unfold sizeOk at this; omega) _).1 (mayB_starts hm)
theorem may_ends {m : Mach} (hm : mayB m = true) : Inc m.ends ∧ ∀ x ∈ m.ends, 0 ≤ x ∧ x < m.st := (rowB_iff _ (by have := mayB_size hm; unfold sizeOk at this; omega) _).1 (mayB_ends hm)
theorem rch_bd {fr to : Arr → Int} {ars : List Arr} {l : List Int} {n x : Int} (hl : ∀ x ∈ l, 0 ≤ x ∧ x < n) (ha : ∀ a ∈ ars, 0 ≤ to a ∧ to a < n) (h : Rch fr to ars l x) : 0 ≤ x ∧ x < n :=
  h (fun x => 0 ≤ x ∧ x < n) ⟨hl, fun a h _ => ha a h⟩
/-! The trimmed machine may be. -/
/-! The trimmed machine accepts the same words. -/
end Go.Proofs.YtmlkpdeidpcidaaDoor
namespace Go.Proofs.YtmlkpdeidpcidaaDoor
open Go.RowKit
set_option linter.unusedVariables false

set_option maxHeartbeats 400000 in
theorem cmpNaN_any (x : Int) (w : World) : Calls Tryd.prog 177 #[.int .i64 x] w fun e w' => e = .returned (.bool false) ∧ w' = w := by
  go_enter Tryd.func177, Tryd.ntmps177
  go_wp2
  go_ret
  exact ⟨rfl, rfl⟩

set_option maxHeartbeats 400000 in
theorem slNaN_any (x : Int) (w : World) : Calls Tryd.prog 127 #[.int .i64 x] w fun e w' => e = .returned (.bool false) ∧ w' = w := by
  go_enter Tryd.func127, Tryd.ntmps127
  go_wp2
  go_ret
  exact ⟨rfl, rfl⟩

def lessBS (x y : Int) : Bool := decide (x < y)

set_option maxHeartbeats 400000 in
theorem less2_any (x y : Int) (w : World) : Calls Tryd.prog 126 #[.int .i64 x, .int .i64 y] w fun e w' => e = .returned (.bool (lessBS x y)) ∧ w' = w := by
  go_enter Tryd.func126, Tryd.ntmps126
  go_wp2_with (go_at_call 177; refine (cmpNaN_any x _).mono ?_; rintro e w' ⟨rfl, rfl⟩)
  go_ret
  exact ⟨rfl, rfl⟩

theorem inc_at {xs : List Int} (h : Inc xs) {p q : Nat} {x y : Int} (hp : xs[p]? = some x) (hq : xs[q]? = some y) (hpq : p < q) : x < y := by
  obtain ⟨p1, p2⟩ := List.getElem?_eq_some_iff.1 hp
  obtain ⟨q1, q2⟩ := List.getElem?_eq_some_iff.1 hq
  have := List.pairwise_iff_getElem.1 h p q p1 q1 hpq
  rwa [p2, q2] at this
theorem at_of {xs : List Int} {k : Nat} {x : Int} (h : k < xs.length) (hx : Hid (x = xs[k]?.getD 0)) : xs[k]? = some x := by
  rw [hx.out, List.getElem?_eq_getElem h]; rfl
theorem bs_found {xs : List Int} {n : Int} {k : Nat} (hi : Inc xs) (hk : xs[k]? = some n) : placeI xs n = (k : Int) := by
  obtain ⟨k1, k2⟩ := List.getElem?_eq_some_iff.1 hk
  have hm : n ∈ xs := by rw [← k2]; exact List.getElem_mem k1
  obtain ⟨j, hj⟩ := placeN_mem hm
  rw [placeI_of hj]
  have h2 := placeN_some hj
  rcases Nat.lt_trichotomy j k with h | h | h
  · have := inc_at hi h2 hk h; omega
  · rw [h]
  · have := inc_at hi hk h2 h; omega
theorem bs_has {xs : List Int} {n : Int} {k : Nat} (hk : xs[k]? = some n) : hasB xs n = true := by
  obtain ⟨k1, k2⟩ := List.getElem?_eq_some_iff.1 hk
  exact (hasB_iff _ _).2 (by rw [← k2]; exact List.getElem_mem k1)
theorem bs_none {xs : List Int} {n : Int} {i j : Nat} (hij : i = j) (hl : ∀ p x, p < i → xs[p]? = some x → x < n) (hu : ∀ p x, j ≤ p → xs[p]? = some x → n ≤ x) (hi : Inc xs) (hn : xs[i]? ≠ some n) : hasB xs n = false := by
  cases h : hasB xs n with
  | false => rfl
  | true =>
    exfalso
    obtain ⟨p, hp⟩ := List.getElem?_of_mem ((hasB_iff _ _).1 h)
    rcases Nat.lt_trichotomy p i with c | c | c
    · have := hl p n c hp; omega
    · subst c; exact hn hp
    · have hlt : i < xs.length := Nat.lt_trans c (List.getElem?_eq_some_iff.1 hp).1
      have h1 := hu i _ (by omega) (List.getElem?_eq_getElem hlt)
      have h2 := inc_at hi (List.getElem?_eq_getElem hlt) hp c
      omega

set_option maxHeartbeats 1000000 in
theorem bs_some (b off cap : Nat) (xs : List Int) (n : Int) (w : World) (hl : xs.length ≤ 4611686018427387903) (hc : Cells w b off xs) (hi : Hid (Inc xs)) :
    Calls Tryd.prog 68 #[.slice (some ⟨b, off, none⟩) xs.length cap, .int .i64 n] w fun e w' => ∃ k : Nat, e = .returned (.tuple #[.int .i64 k, .bool (hasB xs n)]) ∧ (hasB xs n = true → placeI xs n = (k : Int)) ∧ w' = w := by
  go_enter Tryd.func68, Tryd.ntmps68
  go_wp2
  go_loop [7, 8] (fun vi vj => ∃ i j : Nat, i ≤ j ∧ j ≤ xs.length ∧ vi = .int .i64 i ∧ vj = .int .i64 j ∧ Hid (∀ p x, p < i → xs[p]? = some x → x < n) ∧ Hid (∀ p x, j ≤ p → xs[p]? = some x → n ≤ x)) (fun vi vj => (intOf vj).toNat - (intOf vi).toNat)
  case atStart => exact ⟨0, xs.length, Nat.zero_le _, Nat.le_refl _, rfl, rfl, fun p x h => by omega, fun p x h hx => by have := (List.getElem?_eq_some_iff.1 hx).1; omega⟩
  case round =>
    obtain ⟨i, j, hij, hj, rfl, rfl, HL, HU⟩ := hrel
    by_cases hlt : i < j
    · have hh : (i + j) / 2 < xs.length := by omega
      obtain ⟨x, HX, hcx⟩ := hc.at hh
      by_cases hx : x < n
      · have d : lessBS x n = true := by simpa [lessBS] using hx
        have HH : Hid (x < n) := hx
        clear hx
        go_wp2_with (go_at_call 126; refine (less2_any x n _).mono ?_; rintro e w' ⟨rfl, rfl⟩)
        go_round
        case rel =>
          refine ⟨(i + j) / 2 + 1, j, by omega, hj, by go_num, rfl, fun p y hp hy => ?_, HU⟩
          have e1 := at_of hh HX
          have e2 := HH.out
          by_cases hpq : p < (i + j) / 2
          · have := inc_at hi.out hy e1 hpq; omega
          · have : p = (i + j) / 2 := by omega
            subst this
            rw [e1] at hy; cases hy; exact e2
        case measure => simp [intOf]; omega
      · have d : lessBS x n = false := by simpa [lessBS] using hx
        have HH : Hid (¬ x < n) := hx
        clear hx
        go_wp2_with (go_at_call 126; refine (less2_any x n _).mono ?_; rintro e w' ⟨rfl, rfl⟩)
        go_round
        case rel =>
          refine ⟨i, (i + j) / 2, by omega, by omega, rfl, by go_num, HL, fun p y hp hy => ?_⟩
          have e1 := at_of hh HX
          have e2 := HH.out
          by_cases hpq : (i + j) / 2 < p
          · have := inc_at hi.out e1 hy hpq; omega
          · have : p = (i + j) / 2 := by omega
            subst this
            rw [e1] at hy; cases hy; omega
        case measure => simp [intOf]; omega
    · have hE : Hid (i = j) := show i = j by omega
      by_cases hil : i < xs.length
      · obtain ⟨x, HX, hcx⟩ := hc.at hil
        have HY := Hid.of (at_of hil HX)
        by_cases hx : x = n
        · subst hx
          go_wp2_with (go_at_call 127; refine (slNaN_any _ _).mono ?_; rintro e w' ⟨rfl, rfl⟩)
          go_ret2
          exact ⟨i, by rw [bs_has HY.out]; rfl, fun _ => bs_found hi.out HY.out, rfl⟩
        · have d : (x == n) = false := by simpa using hx
          have HH : Hid (¬ x = n) := hx
          clear hx
          go_wp2_with (go_at_call 127; refine (slNaN_any _ _).mono ?_; rintro e w' ⟨rfl, rfl⟩)
          go_ret2
          have hf := bs_none hE.out HL.out HU.out hi.out (by rw [HY.out]; intro h; exact HH.out (Option.some.inj h))
          exact ⟨i, by rw [hf]; rfl, fun h => (by rw [hf] at h; cases h), rfl⟩
      · have hf := Hid.of (bs_none hE.out HL.out HU.out hi.out (by rw [List.getElem?_eq_none (by omega)]; intro h; cases h))
        go_wp2
        go_ret2
        exact ⟨i, by rw [hf.out]; rfl, fun h => (by rw [hf.out] at h; cases h), rfl⟩

set_option maxHeartbeats 400000 in
theorem bs_nil (a : Option Addr) (cap : Nat) (n : Int) (w : World) :
    Calls Tryd.prog 68 #[.slice a 0 cap, .int .i64 n] w fun e w' => ∃ k : Nat, e = .returned (.tuple #[.int .i64 k, .bool (hasB [] n)]) ∧ (hasB [] n = true → placeI [] n = (k : Int)) ∧ w' = w := by
  go_enter Tryd.func68, Tryd.ntmps68
  go_wp2
  refine wp_loop_rounds 1 ?_
  rw [rounds_succ]
  go_wp2
  go_ret2
  exact ⟨0, rfl, fun h => (by cases h), rfl⟩

theorem bs_any (a : Option Addr) (cap : Nat) (xs : List Int) (n : Int) (w : World) (hs : At w a xs) (hl : xs.length ≤ 4611686018427387903) (hi : Inc xs) :
    Calls Tryd.prog 68 #[.slice a xs.length cap, .int .i64 n] w fun e w' => ∃ k : Nat, e = .returned (.tuple #[.int .i64 k, .bool (hasB xs n)]) ∧ (hasB xs n = true → placeI xs n = (k : Int)) ∧ w' = w := by
  rcases hs with rfl | ⟨b, off, rfl, -, hc⟩
  · exact bs_nil a cap n w
  · exact bs_some b off cap xs n w hl hc hi

end Go.Proofs.YtmlkpdeidpcidaaDoor
namespace Go.Proofs.YtmlkpdeidpcidaaDoor
open Go.RowKit
set_option linter.unusedVariables false

/-- A set's place; as many as there are: it is new. -/
def findL : List (List Int) → List Int → Nat
  | [], _ => 0
  | a :: r, s => if a = s then 0 else findL r s + 1
theorem findL_le : ∀ (L : List (List Int)) (s : List Int), findL L s ≤ L.length
  | [], _ => Nat.le_refl _
  | a :: r, s => by
    have := findL_le r s
    unfold findL; split <;> simp <;> omega
theorem findL_get : ∀ {L : List (List Int)} {s : List Int}, findL L s < L.length → L[findL L s]? = some s
  | [], _, h => by simp [findL] at h
  | a :: r, s, h => by
    unfold findL at h ⊢
    by_cases e : a = s
    · rw [if_pos e]; simp [e]
    · rw [if_neg e] at h ⊢
      have : findL r s < r.length := by simp at h; omega
      simpa using findL_get this
theorem findL_new : ∀ {L : List (List Int)} {s : List Int}, findL L s = L.length ↔ s ∉ L
  | [], s => by simp [findL]
  | a :: r, s => by
    unfold findL
    by_cases e : a = s
    · rw [if_pos e]; simp [e]
    · rw [if_neg e]
      have := findL_new (L := r) (s := s)
      simp only [List.length_cons, Nat.add_right_cancel_iff, List.mem_cons, not_or]
      rw [this]
      exact ⟨fun h => ⟨fun h' => e h'.symm, h⟩, fun h => h.2⟩
theorem findL_at : ∀ {L : List (List Int)} {k : Nat} {s : List Int}, L.Nodup → L[k]? = some s → findL L s = k
  | [], k, s, _, h => by simp at h
  | a :: r, 0, s, _, h => by
    have : a = s := by simpa using h
    simp [findL, this]
  | a :: r, k + 1, s, hn, h => by
    have h : r[k]? = some s := by simpa using h
    have h1 : a ≠ s := fun e => (List.nodup_cons.1 hn).1 (by rw [e]; exact List.mem_of_getElem? h)
    unfold findL
    rw [if_neg h1, findL_at (List.nodup_cons.1 hn).2 h]

/-! What is found only grows. -/
/-! What holds of what is found. -/
end Go.Proofs.YtmlkpdeidpcidaaDoor
namespace Go.Proofs.YtmlkpdeidpcidaaDoor
open Go.RowKit
set_option linter.unusedVariables false

/-- The same four words. -/
def eqS (S T : Nat → Nat) : Prop := S 0 = T 0 ∧ S 1 = T 1 ∧ S 2 = T 2 ∧ S 3 = T 3
theorem eqS_at {S T : Nat → Nat} (h : eqS S T) {k : Nat} (hk : k < 4) : S k = T k := by
  obtain ⟨h0, h1, h2, h3⟩ := h
  have : k = 0 ∨ k = 1 ∨ k = 2 ∨ k = 3 := by omega
  rcases this with rfl | rfl | rfl | rfl <;> assumption
theorem word_eq {a b : Nat} (ha : a < 18446744073709551616) (hb : b < 18446744073709551616) (h : ∀ j, j < 64 → a.testBit j = b.testBit j) : a = b := by
  apply Nat.eq_of_testBit_eq
  intro j
  by_cases hj : j < 64
  · exact h j hj
  · have hp : (2 : Nat) ^ 64 ≤ 2 ^ j := Nat.pow_le_pow_right (by omega) (by omega)
    rw [Nat.testBit_lt_two_pow (Nat.lt_of_lt_of_le ha hp), Nat.testBit_lt_two_pow (Nat.lt_of_lt_of_le hb hp)]
theorem eqS_iff {S T : Nat → Nat} {l k : List Int} (h : Rep S l) (h' : Rep T k) (hl : Inc l) (hk : Inc k) : eqS S T ↔ l = k := by
  constructor
  · intro he
    have hh : ∀ n, n < 256 → hasS S n = hasS T n := fun n hn => by unfold hasS; rw [eqS_at he (by omega)]
    refine inc_ext hl hk fun x => ⟨fun hx => ?_, fun hx => ?_⟩
    · obtain ⟨b0, b1⟩ := h.bd x hx
      have := (h.mem x.toNat (by omega)).2 (by rwa [Int.toNat_of_nonneg b0])
      rw [hh _ (by omega)] at this
      have := (h'.mem x.toNat (by omega)).1 this
      rwa [Int.toNat_of_nonneg b0] at this
    · obtain ⟨b0, b1⟩ := h'.bd x hx
      have := (h'.mem x.toNat (by omega)).2 (by rwa [Int.toNat_of_nonneg b0])
      rw [← hh _ (by omega)] at this
      have := (h.mem x.toNat (by omega)).1 this
      rwa [Int.toNat_of_nonneg b0] at this
  · rintro rfl
    have hh : ∀ n, n < 256 → hasS S n = hasS T n := fun n hn => by rw [Bool.eq_iff_iff, h.mem n hn, h'.mem n hn]
    have key : ∀ k, k < 4 → S k = T k := fun k hk => word_eq (h.ok k) (h'.ok k) fun j hj => by
      have := hh (64 * k + j) (by omega)
      unfold hasS at this
      rw [show (64 * k + j) / 64 = k by omega, show (64 * k + j) % 64 = j by omega] at this
      exact this
    exact ⟨key 0 (by omega), key 1 (by omega), key 2 (by omega), key 3 (by omega)⟩

/-- The sets stand for the lists, one by one, which rise. -/
structure RepL (SL : List (Nat → Nat)) (L : List (List Int)) : Prop where
  len : SL.length = L.length
  rep : ∀ (k : Nat) (S : Nat → Nat), SL[k]? = some S → ∃ l, L[k]? = some l ∧ Rep S l ∧ Inc l
theorem RepL.at {SL : List (Nat → Nat)} {L : List (List Int)} (h : RepL SL L) {k : Nat} {l : List Int} (hk : L[k]? = some l) : ∃ S, SL[k]? = some S ∧ Rep S l ∧ Inc l := by
  have hlt := (List.getElem?_eq_some_iff.1 hk).1
  have hlt' : k < SL.length := by rw [h.len]; exact hlt
  obtain ⟨l', h1, h2, h3⟩ := h.rep k _ (List.getElem?_eq_getElem hlt')
  rw [hk] at h1
  have h1 := Option.some.inj h1
  subst h1
  exact ⟨_, List.getElem?_eq_getElem hlt', h2, h3⟩
theorem RepL.snoc {SL : List (Nat → Nat)} {L : List (List Int)} (h : RepL SL L) {S : Nat → Nat} {l : List Int} (hr : Rep S l) (hi : Inc l) : RepL (SL ++ [S]) (L ++ [l]) := by
  refine ⟨by simp [h.len], fun k T hk => ?_⟩
  by_cases hlt : k < SL.length
  · rw [List.getElem?_append_left hlt] at hk
    obtain ⟨l', h1, h2⟩ := h.rep k T hk
    exact ⟨l', by rw [List.getElem?_append_left (by rw [← h.len]; exact hlt)]; exact h1, h2⟩
  · have hk' := (List.getElem?_eq_some_iff.1 hk).1
    simp at hk'
    have e : k = SL.length := by omega
    subst e
    rw [List.getElem?_append_right (Nat.le_refl _)] at hk
    have : S = T := by simpa using hk
    subst this
    exact ⟨l, by rw [h.len, List.getElem?_append_right (Nat.le_refl _)]; simp, hr, hi⟩
theorem RepL.one {S : Nat → Nat} {l : List Int} (hr : Rep S l) (hi : Inc l) : RepL [S] [l] := RepL.snoc (SL := []) (L := []) ⟨rfl, fun k S h => by simp at h⟩ hr hi
/-- Is one of the sets the same as S at place j, j is the list's place. -/
theorem RepL.find {SL : List (Nat → Nat)} {L : List (List Int)} (h : RepL SL L) (hn : L.Nodup) {S : Nat → Nat} {l : List Int} (hr : Rep S l) (hi : Inc l) {j : Nat} {T : Nat → Nat} (hj : SL[j]? = some T) (he : eqS T S) : findL L l = j := by
  obtain ⟨l', h1, h2, h3⟩ := h.rep j T hj
  have := (eqS_iff h2 hr h3 hi).1 he
  subst this
  exact findL_at hn h1
theorem RepL.new {SL : List (Nat → Nat)} {L : List (List Int)} (h : RepL SL L) {S : Nat → Nat} {l : List Int} (hr : Rep S l) (hi : Inc l) (hno : ∀ T ∈ SL, ¬ eqS T S) : findL L l = L.length := findL_new.2 fun hm => by
  obtain ⟨j, hj⟩ := List.mem_iff_getElem?.1 hm
  obtain ⟨T, h1, h2, h3⟩ := h.at hj
  exact hno T (List.mem_of_getElem? h1) ((eqS_iff h2 hr h3 hi).2 rfl)

end Go.Proofs.YtmlkpdeidpcidaaDoor
namespace Go.Proofs.YtmlkpdeidpcidaaDoor
open Go.RowKit
set_option linter.unusedVariables false

theorem laidOutS : laidOutB Tryd.prog = true := by kernel_rfl
theorem rowSet : (85 : TypeId) < Tryd.prog.types.size := of_decide_eq_true (by kernel_rfl)
theorem wideSet : (match Tryd.prog.underlying 85 with | some (.array _ _) | some (.struct _) => true | _ => false) = true := by kernel_rfl
set_option maxRecDepth 100000 in
theorem lawSet : WideMaps.KeyLaw Tryd.prog 85 := deep_law_laid laidOutS (m := 3) (by omega) rowSet (by kernel_rfl) wideSet
theorem wf_u64 {n : Nat} (h : n < 18446744073709551616) : (Lit.int .u64 (n : Int)).wf = true := by
  have h1 : IntKind.u64.min = 0 := rfl
  have h2 : IntKind.u64.max = 18446744073709551615 := rfl
  simp [Lit.wf, h1, h2]; omega
set_option maxRecDepth 100000 in
theorem keySet {S : Nat → Nat} (h : okS S) : ∃ l, keyOf Tryd.prog 85 (sval S) = some l := by
  have h0 := wf_u64 (h 0)
  have h1 := wf_u64 (h 1)
  have h2 := wf_u64 (h 2)
  have h3 := wf_u64 (h 3)
  have hk : Tryd.prog.keyType 85 = true := by kernel_rfl
  have hc : Tryd.prog.cellsOf 85 = 4 := by kernel_rfl
  have hci : Tryd.prog.cellsOf 83 = 1 := by kernel_rfl
  have hs : ∃ m, Tryd.prog.types.size = m + 1 := ⟨_, (Nat.succ_pred_eq_of_pos (Nat.lt_of_le_of_lt (Nat.zero_le _) rowSet)).symm⟩
  obtain ⟨m, hm⟩ := hs
  unfold keyOf
  simp only [Tryd.underlying85]
  rw [if_pos (by simp [hk, Value.formed, Tryd.underlying85, hc]), hm]
  unfold Program.keyLits
  simp only [Tryd.underlying85, Value.cells]
  have hr : List.range 4 = [0, 1, 2, 3] := rfl
  simp [hc, hci, Program.keyLits, Tryd.underlying83, hr, h0, h1, h2, h3]

theorem sval_eq {S T : Nat → Nat} (h : sval S = sval T) : eqS S T := by
  simp at h
  obtain ⟨h0, h1, h2, h3⟩ := h
  exact ⟨by omega, by omega, by omega, by omega⟩
theorem eqS_sval {S T : Nat → Nat} (h : eqS S T) : sval S = sval T := by
  obtain ⟨h0, h1, h2, h3⟩ := h
  show Value.agg #[_, _, _, _] = Value.agg #[_, _, _, _]
  rw [h0, h1, h2, h3]

end Go.Proofs.YtmlkpdeidpcidaaDoor
namespace Go.Proofs.YtmlkpdeidpcidaaDoor
open Go.RowKit
set_option linter.unusedVariables false

def entS (k : Nat) (S : Nat → Nat) : MapEntry := { key := sval S, val := .int .i64 k, born := k }
def entsS (SL : List (Nat → Nat)) : Array MapEntry := (SL.mapIdx entS).toArray
theorem entsS_snoc (SL : List (Nat → Nat)) (S : Nat → Nat) : entsS (SL ++ [S]) = (entsS SL).push (entS SL.length S) := by
  unfold entsS; rw [List.mapIdx_concat]; simp
theorem find_set {SL : List (Nat → Nat)} {L : List (List Int)} (hR : RepL SL L) (hnd : L.Nodup) {S : Nat → Nat} {l : List Int} (hr : Rep S l) (hi : Inc l) (w : World) :
    (Instr.findKey 85 (sval S) (entsS SL).toList).run Tryd.prog w = .ok (if findL L l = L.length then none else some (findL L l, .int .i64 (findL L l : Nat))) w := by
  obtain ⟨kl, hl⟩ := keySet hr.ok
  have hget : ∀ (j : Nat) e, (entsS SL).toList[j]? = some e → ∃ T, SL[j]? = some T ∧ e = entS j T := by
    intro j e h
    simp only [entsS] at h
    rw [List.getElem?_mapIdx] at h
    cases hq : SL[j]? with
    | none => rw [hq] at h; cases h
    | some q => rw [hq] at h; exact ⟨q, rfl, (Option.some.inj h).symm⟩
  have hes : ∀ e ∈ (entsS SL).toList, ∃ l, keyOf Tryd.prog 85 e.key = some l := by
    intro e he
    obtain ⟨j, hj⟩ := List.mem_iff_getElem?.1 he
    obtain ⟨T, hT, rfl⟩ := hget j e hj
    obtain ⟨l', -, h2, -⟩ := hR.rep j T hT
    exact keySet h2.ok
  rcases lawSet.find w hl (entsS SL).toList hes with ⟨h1, h2⟩ | ⟨j, e, h1, h2, h3⟩
  · have hn : findL L l = L.length := hR.new hr hi fun T hT he => by
      obtain ⟨j, hj⟩ := List.mem_iff_getElem?.1 hT
      refine h2 (entS j T) (List.mem_of_getElem? (i := j) ?_) (eqS_sval he)
      simp only [entsS]
      rw [List.getElem?_mapIdx, hj]; rfl
    rw [h1, if_pos hn]
  · obtain ⟨T, hT, rfl⟩ := hget j e h2
    have hj := hR.find hnd hr hi hT (sval_eq h3)
    have hlt := (List.getElem?_eq_some_iff.1 hT).1
    rw [h1, hj, if_neg (by rw [← hR.len]; omega)]; rfl
theorem mapSet : Tryd.prog.underlying 222 = some (.map 85 3) := by kernel_rfl
theorem lookS_known {SL : List (Nat → Nat)} {L : List (List Int)} (hR : RepL SL L) (hnd : L.Nodup) {S : Nat → Nat} {l : List Int} (hr : Rep S l) (hi : Inc l) {w : World} {r c : Nat} (hm : w.heap[r]? = some (.map (entsS SL) c)) (h : ¬ findL L l = L.length) :
    (Instr.lookup 222 (.map (some r)) (sval S) true).run Tryd.prog w = .ok (.tuple #[.int .i64 (findL L l : Nat), .bool true]) w := by
  obtain ⟨kl, hl⟩ := keySet hr.ok
  have h1 := find_set hR hnd hr hi w
  rw [if_neg h] at h1
  simp [Instr.lookup, run_underlying mapSet, MapKept.run_getObj_map hm, lawSet.check w _ hl, h1, Result.andThen]
theorem lookS_new {SL : List (Nat → Nat)} {L : List (List Int)} (hR : RepL SL L) (hnd : L.Nodup) {S : Nat → Nat} {l : List Int} (hr : Rep S l) (hi : Inc l) {w : World} {r c : Nat} (hm : w.heap[r]? = some (.map (entsS SL) c)) (h : findL L l = L.length) :
    (Instr.lookup 222 (.map (some r)) (sval S) true).run Tryd.prog w = .ok (.tuple #[.int .i64 0, .bool false]) w := by
  obtain ⟨kl, hl⟩ := keySet hr.ok
  have h1 := find_set hR hnd hr hi w
  rw [if_pos h] at h1
  simp [Instr.lookup, run_underlying mapSet, MapKept.run_getObj_map hm, lawSet.check w _ hl, h1, Result.andThen]
theorem updS_new {SL : List (Nat → Nat)} {L : List (List Int)} (hR : RepL SL L) (hnd : L.Nodup) {S : Nat → Nat} {l : List Int} (hr : Rep S l) (hi : Inc l) {w : World} {r : Nat} (hm : w.heap[r]? = some (.map (entsS SL) SL.length)) (h : findL L l = L.length) :
    (Instr.mapUpdate 222 (.map (some r)) (sval S) (.int .i64 (SL.length : Nat))).run Tryd.prog w = .ok () (setMap w r (.map (entsS (SL ++ [S])) (SL.length + 1))) := by
  obtain ⟨kl, hl⟩ := keySet hr.ok
  have h1 := find_set hR hnd hr hi w
  rw [if_pos h] at h1
  simp [Instr.mapUpdate, run_underlying mapSet, MapKept.run_getObj_map hm, lawSet.check w _ hl, h1, MapKept.run_setObj_map _ hm, Result.andThen, setMap, entsS_snoc, entS]

/-! Rows of sets. -/
def sflat : List (Nat → Nat) → List Value
  | [] => []
  | S :: r => .int .u64 (S 0) :: .int .u64 (S 1) :: .int .u64 (S 2) :: .int .u64 (S 3) :: sflat r
theorem sflat_append : ∀ L M : List (Nat → Nat), sflat (L ++ M) = sflat L ++ sflat M
  | [], M => rfl
  | a :: r, M => by simp only [List.cons_append, sflat, sflat_append r M]
theorem sflat_at : ∀ {L : List (Nat → Nat)} {k : Nat} {S : Nat → Nat}, L[k]? = some S → (sflat L)[k * 4]? = some (.int .u64 (S 0)) ∧ (sflat L)[k * 4 + 1]? = some (.int .u64 (S 1)) ∧ (sflat L)[k * 4 + 2]? = some (.int .u64 (S 2)) ∧ (sflat L)[k * 4 + 3]? = some (.int .u64 (S 3))
  | [], k, S, h => by simp at h
  | a :: r, 0, S, h => by
    have e : a = S := by simpa using h
    subst e; simp [sflat]
  | a :: r, k + 1, S, h => by
    have := sflat_at (L := r) (k := k) (S := S) (by simpa using h)
    rw [show (k + 1) * 4 = k * 4 + 1 + 1 + 1 + 1 by omega]
    simpa [sflat] using this
abbrev OwnS (W : World) (B : Nat) (v : Value) (L : List (Nat → Nat)) : Prop := W.ownsRow B 85 4 v L.length (sflat L)
theorem OwnS.cell {W : World} {B : Nat} {v : Value} {L : List (Nat → Nat)} (h : OwnS W B v L) {k : Nat} {S : Nat → Nat} (hk : L[k]? = some S) : ∃ g cap, v = .slice (some ⟨g, 0, none⟩) L.length cap ∧ B ≤ g ∧ g < W.heap.size ∧ W.cell? ⟨g, k * 4, none⟩ = some (.int .u64 (S 0)) ∧ W.cell? ⟨g, k * 4 + 1, none⟩ = some (.int .u64 (S 1)) ∧ W.cell? ⟨g, k * 4 + 2, none⟩ = some (.int .u64 (S 2)) ∧ W.cell? ⟨g, k * 4 + 3, none⟩ = some (.int .u64 (S 3)) := by
  rcases h.2 with ⟨rfl, hn⟩ | ⟨g, cap, cur, rfl, hg, hh, hnc, hcm, hcs, ht⟩
  · have := (List.getElem?_eq_some_iff.1 hk).1; omega
  · obtain ⟨h1, h2, h3, h4⟩ := sflat_at hk
    have c1 := h.cells (g := g) rfl _ _ h1
    have c2 := h.cells (g := g) rfl _ _ h2
    have c3 := h.cells (g := g) rfl _ _ h3
    have c4 := h.cells (g := g) rfl _ _ h4
    rw [addr0_add, Nat.zero_add] at c1 c2 c3 c4
    exact ⟨g, cap, rfl, hg, (Array.getElem?_eq_some_iff.1 hh).1, c1, c2, c3, c4⟩
theorem cells_four (W W' : World) (hW : W'.heap = W.heap) (t : TypeId) (x y z u : Value) : ∀ j v, ([x, y, z, u] : List Value)[j]? = some v → (W'.alloc (.cells #[x, y, z, u] t)).cell? ((⟨W.heap.size, 0, none⟩ : Addr).add j) = some v := by
  intro j v hv
  rw [addr0_add, Nat.zero_add, ← hW]
  exact (Blk.new W' t #[x, y, z, u]).cell j (by rw [← Array.getElem?_toList]; exact hv)
theorem own_set {W : World} {B : Nat} {v : Value} {L : List (Nat → Nat)} {S : Nat → Nat} (h : W.ownsRow B 85 4 v (L.length + 1) (sflat L ++ [.int .u64 (S 0), .int .u64 (S 1), .int .u64 (S 2), .int .u64 (S 3)])) : OwnS W B v (L ++ [S]) := by
  show W.ownsRow B 85 4 v (L ++ [S]).length (sflat (L ++ [S]))
  rw [List.length_append, sflat_append]
  exact h
theorem ownS_one (W : World) (S : Nat → Nat) (B : Nat) (hB : B ≤ W.heap.size) : OwnS (W.alloc (.cells (scells S) 85)) B (.slice (some ⟨W.heap.size, 0, none⟩) 1 1) [S] := World.ownsRow_lit W (scells S) 1 hB (by decide) rfl


end Go.Proofs.YtmlkpdeidpcidaaDoor
