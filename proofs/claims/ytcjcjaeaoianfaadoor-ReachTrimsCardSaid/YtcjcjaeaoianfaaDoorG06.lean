/-
  What is said of a slice of integers that a call has made: 'Own'; what an append of one number does to it.
  What a call leaves that hands back a slice of its own.
  The walks of reach.renumber, of the closure that it answers, and of reach.rowAnew.
  What is said of a slice of arrows that a call has made ('OwnA'): its cells, a piece of it from the front, one arrow more, another slice behind it.
  What is said of a machine's block, and of slices that lie elsewhere.
-/
import Derived.Test.YtcjcjaeaoianfaaDoorG03
import Derived.Test.YtcjcjaeaoianfaaDoorG05
import Derived.RangeFuncBox
import Derived.Test.YtcjcjaeaoianfaaDoorG04
import Derived.Deep.RegionLaw
import Derived.Laws.ResultCell
namespace Go.Proofs.YtcjcjaeaoianfaaDoor
open Go.RowKit

theorem Tryd.infoInt : (Tryd.prog.info? 3).map (fun i => (i.zero, i.size, i.bytes)) = some (some (.int .i64 0), 1, 8) := by kernel_rfl

/-- The slice v is in memory made from block B on, and holds xs. -/
def Own (w : World) (B : Nat) (v : Value) (xs : List Int) : Prop := w.ownsRow B 3 1 v xs.length (xs.map (Value.int .i64))

theorem own_nil (w : World) (B : Nat) : Own w B (.slice none 0 0) [] := World.ownsRow_nil _ _ _ _

theorem Own.at {w : World} {B : Nat} {v : Value} {xs : List Int} (h : Own w B v xs) : ∃ a cap, v = .slice a xs.length cap ∧ At w a xs ∧ xs.length ≤ maxLen := by
  rcases h.2 with ⟨rfl, hn⟩ | ⟨g, cap, cur, rfl, hg, hh, hnc, hcm, hcs, ht⟩
  · have : xs = [] := List.eq_nil_of_length_eq_zero hn
    subst this
    exact ⟨none, 0, rfl, .inl rfl, Nat.zero_le _⟩
  · refine ⟨some ⟨g, 0, none⟩, cap, rfl, .inr ⟨g, 0, rfl, (Array.getElem?_eq_some_iff.1 hh).1, fun j hj => ?_⟩, Nat.le_trans hnc hcm⟩
    have := h.cells (g := g) rfl j (.int .i64 (xs.getD j 0)) (by rw [List.getElem?_map, List.getElem?_eq_getElem hj]; simp [List.getElem?_eq_getElem hj])
    rw [show (⟨g, 0, none⟩ : Addr).add j = ⟨g, 0 + j, none⟩ from by unfold Addr.add; split <;> simp_all] at this
    exact this

/-- What a call that hands back a slice leaves: the slice reads as xs, and nothing old has turned. -/
def Gives (w : World) (xs : List Int) (e : Ending) (w' : World) : Prop := ∃ a cap, e = .returned (.slice a xs.length cap) ∧ At w' a xs ∧ xs.length ≤ maxLen ∧ Below w.heap.size w w'

theorem gives_of_own {w w' : World} {B : Nat} {v : Value} {xs : List Int} (h : Own w' B v xs) (hb : Below w.heap.size w w') : Gives w xs (.returned v) w' := by
  obtain ⟨a, cap, rfl, h1, h2⟩ := h.at
  exact ⟨a, cap, rfl, h1, h2, hb⟩

theorem own_snoc {w wr w1 : World} {B : Nat} {v v' : Value} {L : List Int} {x : Int} {o : Obj} (hown : Own wr B v L) (hb : Below B w wr) (hB : B ≤ wr.heap.size)
    (hown' : w1.ownsRow B 3 1 v' (L.length + 1) (L.map (Value.int .i64) ++ [.int .i64 x])) (hgrow : (wr.alloc o).grownBy w1 v.ownBlock) :
    Own w1 B v' (L ++ [x]) ∧ Below B w w1 ∧ B ≤ w1.heap.size := by
  refine ⟨by unfold Own; rw [List.length_append, List.map_append]; exact hown', (hb.alloc hB o).grown hgrow (by simp; omega) (fun j hj => (hown.lt j hj).1), ?_⟩
  have := hgrow.size
  simp at this
  omega

theorem Own.drewN {w : World} {B : Nat} {v : Value} {xs : List Int} (h : Own w B v xs) (m : Nat) : Own (w.drewN m) B v xs := h

/-- An owned slice, as its value and its cells. -/
theorem Own.cells_of {w : World} {B : Nat} {v : Value} {xs : List Int} (h : Own w B v xs) : (v = .slice none 0 0 ∧ xs = []) ∨ ∃ g cap, v = .slice (some ⟨g, 0, none⟩) xs.length cap ∧ B ≤ g ∧ g < w.heap.size ∧ Cells w g 0 xs ∧ (∀ j, w.frozen? ⟨g, j, none⟩ = false) := by
  rcases h.2 with ⟨rfl, hn⟩ | ⟨g, cap, cur, rfl, hg, hh, hnc, hcm, hcs, ht⟩
  · exact .inl ⟨rfl, List.eq_nil_of_length_eq_zero hn⟩
  · refine .inr ⟨g, cap, rfl, hg, (Array.getElem?_eq_some_iff.1 hh).1, fun j hj => ?_, fun j => ?_⟩
    · have := h.cells (g := g) rfl j (.int .i64 (xs.getD j 0)) (by rw [List.getElem?_map, List.getElem?_eq_getElem hj]; simp [List.getElem?_eq_getElem hj])
      rw [show (⟨g, 0, none⟩ : Addr).add j = ⟨g, 0 + j, none⟩ from by unfold Addr.add; split <;> simp_all] at this
      exact this
    · simp [World.frozen?, hh]

end Go.Proofs.YtcjcjaeaoianfaaDoor
namespace Go.Proofs.YtcjcjaeaoianfaaDoor
open Go.RowKit
set_option linter.unusedVariables false

/-- What a call leaves that hands back a slice of its own. -/
def GivesO (w : World) (xs : List Int) (e : Ending) (w' : World) : Prop := ∃ v, e = .returned v ∧ Own w' w.heap.size v xs ∧ Below w.heap.size w w'
theorem Own.at2 {w : World} {B : Nat} {v : Value} {xs : List Int} (h : Own w B v xs) : ∃ a cap, v = .slice a xs.length cap ∧ At w a xs ∧ xs.length ≤ cap ∧ cap ≤ maxLen ∧ (a = none → cap = 0) := by
  obtain ⟨a, cap, e, h1, -⟩ := h.at
  rcases h.2 with ⟨rfl, hn⟩ | ⟨g, cap', cur, rfl, hg, hh, hnc, hcm, hcs, ht⟩
  · have : xs = [] := List.eq_nil_of_length_eq_zero hn
    subst this
    exact ⟨none, 0, rfl, .inl rfl, Nat.le_refl _, Nat.zero_le _, fun _ => rfl⟩
  · cases e
    exact ⟨_, _, rfl, h1, hnc, hcm, fun h => by cases h⟩

end Go.Proofs.YtcjcjaeaoianfaaDoor
namespace Go.Proofs.YtcjcjaeaoianfaaDoor
open Go.RowKit
set_option linter.unusedVariables false

set_option maxHeartbeats 400000 in
theorem renumber_any (a : Option Addr) (len cap : Nat) (w : World) :
    Calls Tryd.prog 78 #[.slice a len cap] w fun e w' => e = .returned (.func (.func 102) #[] #[.pointer (some ⟨w.heap.size, 0, none⟩)]) ∧ w' = w.alloc (.cells #[.slice a len cap] 22) := by
  have hmf : ∀ (fn : Fn) (first cap : Array Value) (w : World), (Instr.makeFunc fn first cap).run Tryd.prog w = .ok (.func fn first cap) w := fun _ _ _ _ => rfl
  go_enter Tryd.func78, Tryd.ntmps78
  go_wp2
  go_ret
  exact ⟨rfl, rfl⟩

set_option maxHeartbeats 400000 in
theorem anew_any (B : Nat) (a : Option Addr) (cap : Nat) (xs : List Int) (n : Int) (w : World) (hb : w.cell? ⟨B, 0, none⟩ = some (.slice a xs.length cap)) (hs : Hid (At w a xs)) (hl : Hid (xs.length ≤ 4611686018427387903)) (hi : Hid (Inc xs)) :
    Calls Tryd.prog 102 #[.int .i64 n, .pointer (some ⟨B, 0, none⟩)] w fun e w' => ∃ k : Nat, e = .returned (.tuple #[.int .i64 k, .bool (hasB xs n)]) ∧ (hasB xs n = true → placeI xs n = (k : Int)) ∧ w' = w := by
  go_enter Tryd.func102, Tryd.ntmps102
  go_wp2_with (go_at_call 57; refine (bs_any a cap xs n _ hs.out hl.out hi.out).mono ?_; rintro e w' ⟨k, rfl, hk, rfl⟩)
  go_ret2
  exact ⟨k, rfl, hk, rfl⟩

theorem anew_in {xs : List Int} {n : Int} {k : Nat} (h : hasB xs n = true) (hk : hasB xs n = true → placeI xs n = (k : Int)) : 0 ≤ placeI xs n ∧ placeI xs n = (k : Int) := by
  have := hk h; omega
theorem anew_out {xs : List Int} {n : Int} (h : hasB xs n = false) : ¬ 0 ≤ placeI xs n := fun h0 => by
  have := (hasB_iff xs n).2 ((placeI_nn _ _).1 h0)
  rw [h] at this; cases this

set_option maxRecDepth 100000 in
set_option maxHeartbeats 2000000 in
theorem rowAnew_some (B : Nat) (la : Option Addr) (lc b off cap : Nat) (l ss : List Int) (w : World) (hB : B < w.heap.size) (hbx : w.cell? ⟨B, 0, none⟩ = some (.slice la l.length lc)) (hat : At w la l) (hll : l.length ≤ 4611686018427387903) (hinc : Inc l) (hl : ss.length ≤ 17592186044416) (hb : b < w.heap.size) (hc : Cells w b off ss) :
    Calls Tryd.prog 79 #[.slice (some ⟨b, off, none⟩) ss.length cap, .func (.func 102) #[] #[.pointer (some ⟨B, 0, none⟩)]] w fun e w' => GivesO w (placesL l ss) e w' := by
  obtain ⟨i0, hi, hz0, hz1, hz2⟩ := info_parts Tryd.infoInt
  have HL : Hid (l.length ≤ 4611686018427387903) := hll
  have HI : Hid (Inc l) := hinc
  have HA0 : Hid (At w la l) := hat
  clear hll hat hinc
  go_enter Tryd.func79, Tryd.ntmps79
  go_wp2
  go_loopw [5, 12] (fun v i wr => ∃ k : Nat, k ≤ ss.length ∧ i = .int .i64 k ∧ Own wr w.heap.size v (placesL l (ss.take k)) ∧ Below w.heap.size w wr) (fun _ i _ => ss.length - (intOf i).toNat)
  case atStart => exact ⟨0, Nat.zero_le _, rfl, own_nil _ _, Below.refl _ _⟩
  case round =>
    obtain ⟨k, hk, rfl, hown, hbel⟩ := hrel
    have hsz := hbel.size
    by_cases hlt : k < ss.length
    · obtain ⟨x, HX, y0⟩ := hc.at hlt
      have y0' := (hbel.cell (p := ⟨b, off + k, none⟩) hb).trans y0
      have hbx' := (hbel.cell (p := ⟨B, 0, none⟩) hB).trans hbx
      clear y0
      have hlw := placesL_len l (ss.take k)
      rw [List.length_take] at hlw
      have HN : Hid (placesL l (ss.take (k + 1)) = if 0 ≤ placeI l x then placesL l (ss.take k) ++ [placeI l x] else placesL l (ss.take k)) := placesL_take hlt HX
      have HAT : Hid (At wr la l) := HA0.out.below hbel (Nat.le_refl _)
      go_wp2_with fail
      refine (anew_any B la lc l x _ hbx' HAT HL HI).mono ?_
      rintro e w1 ⟨q, rfl, hq, rfl⟩
      by_cases d : hasB l x = true
      · obtain ⟨d1, d2⟩ := anew_in d hq
        have HR : Hid (placesL l (ss.take (k + 1)) = placesL l (ss.take k) ++ [(q : Int)]) := by show _ = _; rw [HN.out, if_pos d1, d2]
        clear HN hq d1 d2
        rw [d]
        go_wp2_with (at_builtin; refine wpList_append_own _ rfl _ _ 22 rfl w.heap.size 3 i0 (.int .i64 0) 1 8 Tryd.underlying22 hi hz0 hz1 hz2 rfl (by decide) _ _ _ rfl (World.ownsRow.alloc hown _) ⟨_, 0, none⟩ 1 1 [.int .i64 (q : Int)] rfl rfl (cell_one_new _ _ _) (by intro u hu; simp at hu; subst hu; rfl) (by unfold maxLen; omega) (by omega) (by simp; omega) ?_)
        intro v' w2 hown' hgrow _
        obtain ⟨r1, r2, -⟩ := own_snoc hown hbel (by omega) hown' hgrow
        rw [← HR.out] at r1
        clear hown' hgrow hown
        go_wp2
        go_roundw
        case rel => exact ⟨k + 1, by omega, by go_num, r1, r2⟩
        case measure => simp [intOf]; omega
      · have d : hasB l x = false := by simpa using d
        have HR : Hid (placesL l (ss.take (k + 1)) = placesL l (ss.take k)) := by show _ = _; rw [HN.out, if_neg (anew_out d)]
        clear HN hq
        have r1 := hown
        rw [← HR.out] at r1
        rw [d]
        go_wp2
        go_roundw
        case rel => exact ⟨k + 1, by omega, by go_num, r1, hbel⟩
        case measure => simp [intOf]; omega
    · rw [List.take_of_length_le (by omega)] at hown
      go_wp2
      go_ret
      exact ⟨_, rfl, hown, hbel⟩

set_option maxHeartbeats 400000 in
theorem rowAnew_nil (B : Nat) (a : Option Addr) (cap : Nat) (l : List Int) (w : World) :
    Calls Tryd.prog 79 #[.slice a 0 cap, .func (.func 102) #[] #[.pointer (some ⟨B, 0, none⟩)]] w fun e w' => GivesO w (placesL l []) e w' := by
  go_enter Tryd.func79, Tryd.ntmps79
  go_wp2
  refine wp_loop_rounds 1 ?_
  rw [rounds_succ]
  go_wp2
  go_ret
  exact ⟨_, rfl, own_nil _ _, Below.refl _ _⟩

theorem rowAnew_any (B : Nat) (la a : Option Addr) (lc cap : Nat) (l ss : List Int) (w : World) (hB : B < w.heap.size) (hbx : w.cell? ⟨B, 0, none⟩ = some (.slice la l.length lc)) (hat : At w la l) (hll : l.length ≤ 4611686018427387903) (hinc : Inc l) (hs : At w a ss) (hl : ss.length ≤ 17592186044416) :
    Calls Tryd.prog 79 #[.slice a ss.length cap, .func (.func 102) #[] #[.pointer (some ⟨B, 0, none⟩)]] w fun e w' => GivesO w (placesL l ss) e w' := by
  rcases hs with rfl | ⟨b, off, rfl, hb, hc⟩
  · exact rowAnew_nil B a cap l w
  · exact rowAnew_some B la lc b off cap l ss w hB hbx hat hll hinc hl hb hc

end Go.Proofs.YtcjcjaeaoianfaaDoor
namespace Go.Proofs.YtcjcjaeaoianfaaDoor
open Go.RowKit
set_option linter.unusedVariables false

theorem Tryd.infoArrow : (Tryd.prog.info? 51).map (fun i => (i.zero, i.size, i.bytes)) = some (some (aval arr0), 3, 24) := by kernel_rfl

def aflat : List Arr → List Value
  | [] => []
  | a :: r => .int .i64 a.f :: .int .i64 a.e :: .int .i64 a.t :: aflat r

theorem aflat_len : ∀ L : List Arr, (aflat L).length = L.length * 3
  | [] => rfl
  | a :: r => by simp only [aflat, List.length_cons, aflat_len r]; omega
theorem aflat_append : ∀ L M : List Arr, aflat (L ++ M) = aflat L ++ aflat M
  | [], M => rfl
  | a :: r, M => by simp only [List.cons_append, aflat, aflat_append r M]
theorem aflat_take : ∀ (L : List Arr) (p : Nat), (aflat L).take (p * 3) = aflat (L.take p)
  | [], p => by simp [aflat]
  | a :: r, 0 => by simp [aflat]
  | a :: r, p + 1 => by rw [show (p + 1) * 3 = p * 3 + 1 + 1 + 1 by omega]; simp only [aflat, List.take_succ_cons, aflat_take r p]
theorem aflat_at : ∀ {L : List Arr} {k : Nat}, k < L.length → (aflat L)[k * 3]? = some (.int .i64 (L[k]?.getD arr0).f) ∧ (aflat L)[k * 3 + 1]? = some (.int .i64 (L[k]?.getD arr0).e) ∧ (aflat L)[k * 3 + 2]? = some (.int .i64 (L[k]?.getD arr0).t)
  | [], k, h => by simp at h
  | a :: r, 0, _ => by simp [aflat]
  | a :: r, k + 1, h => by
    have := aflat_at (L := r) (k := k) (by simpa using h)
    rw [show (k + 1) * 3 = k * 3 + 1 + 1 + 1 by omega]
    simpa [aflat] using this

/-- The slice v is in memory made from block B on, and holds the arrows L. -/
def OwnA (w : World) (B : Nat) (v : Value) (L : List Arr) : Prop := w.ownsRow B 51 3 v L.length (aflat L)

theorem ownA_nil (w : World) (B : Nat) : OwnA w B (.slice none 0 0) [] := World.ownsRow_nil _ _ _ _
theorem ownA_empty (w : World) (B : Nat) (h : B ≤ w.heap.size) : OwnA (w.alloc (.cells #[] 51)) B (.slice (some ⟨w.heap.size, 0, none⟩) 0 0) [] := World.ownsRow_lit w #[] 0 h (Nat.zero_le _) rfl

theorem addr0_add (g j : Nat) : (⟨g, 0, none⟩ : Addr).add j = ⟨g, 0 + j, none⟩ := by unfold Addr.add; split <;> simp_all

theorem OwnA.forms {w : World} {B : Nat} {v : Value} {L : List Arr} (h : OwnA w B v L) : (v = .slice none 0 0 ∧ L = []) ∨ ∃ g cap, v = .slice (some ⟨g, 0, none⟩) L.length cap ∧ B ≤ g ∧ g < w.heap.size ∧ CellsA w g 0 L ∧ L.length ≤ cap ∧ cap ≤ maxLen := by
  rcases h.2 with ⟨rfl, hn⟩ | ⟨g, cap, cur, rfl, hg, hh, hnc, hcm, hcs, ht⟩
  · exact .inl ⟨rfl, List.eq_nil_of_length_eq_zero hn⟩
  · refine .inr ⟨g, cap, rfl, hg, (Array.getElem?_eq_some_iff.1 hh).1, fun j hj => ?_, hnc, hcm⟩
    obtain ⟨h1, h2, h3⟩ := aflat_at hj
    have c1 := h.cells (g := g) rfl _ _ h1
    have c2 := h.cells (g := g) rfl _ _ h2
    have c3 := h.cells (g := g) rfl _ _ h3
    rw [addr0_add] at c1 c2 c3
    exact ⟨c1, c2, c3⟩

theorem OwnA.at {w : World} {B : Nat} {v : Value} {L : List Arr} (h : OwnA w B v L) : ∃ a cap, v = .slice a L.length cap ∧ AtA w a L ∧ L.length ≤ cap ∧ cap ≤ maxLen ∧ (a = none → cap = 0) := by
  rcases h.forms with ⟨rfl, rfl⟩ | ⟨g, cap, rfl, _, hg, hc, h1, h2⟩
  · exact ⟨none, 0, rfl, .inl rfl, Nat.le_refl _, Nat.zero_le _, fun _ => rfl⟩
  · exact ⟨some ⟨g, 0, none⟩, cap, rfl, .inr ⟨g, 0, rfl, hg, hc⟩, h1, h2, fun h => by cases h⟩

theorem OwnA.take {w : World} {B g n cap : Nat} {L : List Arr} (h : OwnA w B (.slice (some ⟨g, 0, none⟩) n cap) L) {p : Nat} (hp : p ≤ L.length) : OwnA w B (.slice (some ⟨g, 0, none⟩) p cap) (L.take p) := by
  have hl : (L.take p).length = p := by rw [List.length_take]; omega
  rcases h.2 with ⟨h0, _⟩ | ⟨g', cap', cur, h0, hg, hh, hnc, hcm, hcs, ht⟩
  · simp at h0
  · simp only [Value.slice.injEq, Option.some.injEq, Addr.mk.injEq, and_true] at h0
    obtain ⟨rfl, rfl, rfl⟩ := h0
    refine ⟨by rw [aflat_len], .inr ⟨g, cap, cur, by rw [hl], hg, hh, by omega, hcm, hcs, ?_⟩⟩
    rw [hl, ← aflat_take, ← ht, List.take_take]
    congr 1
    omega

theorem OwnA.kept {w w' : World} {B B' : Nat} {v : Value} {L : List Arr} (h : OwnA w B v L) (hb : Below B' w w') (hB : w.heap.size ≤ B') : OwnA w' B v L := by
  refine ⟨h.1, ?_⟩
  rcases h.2 with hn | ⟨g, cap, cur, rfl, hg, hgg, rest⟩
  · exact .inl hn
  · exact .inr ⟨g, cap, cur, rfl, hg, (hb.block g (Nat.lt_of_lt_of_le (Array.getElem?_eq_some_iff.1 hgg).1 hB)).trans hgg, rest⟩

theorem cells_news {w : World} {b off : Nat} {M : List Arr} (hc : CellsA w b off M) : ∀ j u, (aflat M)[j]? = some u → w.cell? ((⟨b, off, none⟩ : Addr).add j) = some u := by
  intro j u hu
  have hj : j < M.length * 3 := by rw [← aflat_len]; exact (List.getElem?_eq_some_iff.1 hu).1
  have hk : j / 3 < M.length := by omega
  obtain ⟨h1, h2, h3⟩ := aflat_at hk
  obtain ⟨c1, c2, c3⟩ := hc _ hk
  have ha : (⟨b, off, none⟩ : Addr).add j = ⟨b, off + j, none⟩ := by unfold Addr.add; split <;> simp_all
  rw [ha]
  have hm : j % 3 = 0 ∨ j % 3 = 1 ∨ j % 3 = 2 := by omega
  rcases hm with hm | hm | hm
  · have e : j / 3 * 3 = j := by omega
    rw [e] at h1 c1
    rw [hu] at h1
    rw [c1, h1]
  · have e : j / 3 * 3 + 1 = j := by omega
    rw [e] at h2
    rw [show off + j / 3 * 3 + 1 = off + j by omega] at c2
    rw [hu] at h2
    rw [c2, h2]
  · have e : j / 3 * 3 + 2 = j := by omega
    rw [e] at h3
    rw [show off + j / 3 * 3 + 2 = off + j by omega] at c3
    rw [hu] at h3
    rw [c3, h3]
theorem aflat_one : ∀ (M : List Arr), ∀ u ∈ aflat M, u.oneCell' = true
  | [], u, h => by simp [aflat] at h
  | a :: r, u, h => by
    simp only [aflat, List.mem_cons] at h
    rcases h with rfl | rfl | rfl | h
    · rfl
    · rfl
    · rfl
    · exact aflat_one r u h

section
variable {P : Program} {ops : Array Oper} {o : Oper} {a : Act} {w : World} {K : Act → World → Prop} {Q : Exit → Act → World → Prop} {E : Prop}

/-- append onto a row of the call's own, as one step of a region that draws. -/
theorem step_append_own (hg : o.guard = none) (s x : Operand) (t : TypeId) (hop : o.op = Op.call { callee := Callee.builtin Builtin.append, args := #[s, x], argTypes := #[t, t] })
    (base : Nat) (e : TypeId) (i : TypeInfo) (z : Value) (size bytes : Nat) (h1 : P.underlying t = some (.slice e)) (h2 : P.info? e = some i) (h3 : i.zero = some z) (h4 : i.size = size) (h5 : i.bytes = bytes) (h6 : z.cells.size = size) (h7 : 0 < size)
    (v : Value) (n : Nat) (xs : List Value) (hs : a.eval s = v) (hown : w.ownsRow base e size v n xs)
    (ad : Addr) (m c : Nat) (news : List Value) (hx : a.eval x = .slice (some ad) m c) (hn : news.length = m * size) (hc : ∀ j u, news[j]? = some u → w.cell? (ad.add j) = some u) (h1c : ∀ u ∈ news, u.oneCell' = true)
    (b1 : n + m ≤ maxLen) (b2 : (n + m) * bytes ≤ 140737488355328) (hbase : base ≤ w.heap.size)
    (hK : ∀ v' w', w'.ownsRow base e size v' (n + m) (xs ++ news) → w.grownBy w' v.ownBlock → K (a.put o.dst v') w') :
    if Region.wanted o (yielded ops a.tmps) = true then Oper.wp P o a w K Q else E := by
  have hw : Region.wanted o (yielded ops a.tmps) = true := by simp [Region.wanted, hg]
  rw [if_pos hw]
  obtain ⟨v', w', hrun, r1, r2, _⟩ := run_append_own (P := P) w base t o.type e i z size bytes h1 h2 h3 h4 h5 h6 h7 v n xs hown ad m c news hn hc h1c b1 b2 hbase
  unfold Oper.wp
  simp [execOp, hop, resolve, invoke, builtin, hs, hx, hrun, Result.andThen]
  exact hK v' w' r1 r2
end

theorem cell_three_new (w : World) (a b c : Value) (T : TypeId) : ∀ j u, [a, b, c][j]? = some u → (w.alloc (.cells #[a, b, c] T)).cell? ((⟨w.heap.size, 0, none⟩ : Addr).add j) = some u := by
  intro j u hu
  rw [addr0_add, Nat.zero_add, World.cell?_alloc_at _ _ _ _ rfl]
  match j, hu with
  | 0, hu => simpa using hu
  | 1, hu => simpa using hu
  | 2, hu => simpa using hu
  | j + 3, hu => simp at hu

section
variable {P : Program} (w : World)
theorem wp_append_nilA {o : Oper} {a : Act} {K : Act → World → Prop} {Q : Exit → Act → World → Prop} (s x : Operand) (t : TypeId)
    (ho : o.op = .call { callee := .builtin .append, args := #[s, x], argTypes := #[t, t] })
    (base : Nat) (e : TypeId) (i : TypeInfo) (size : Nat) (ht : P.underlying t = some (.slice e)) (hi : P.info? e = some i)
    (v : Value) (n : Nat) (xs : List Value) (hs : a.eval s = v) (hown : w.ownsRow base e size v n xs) (hx : a.eval x = .slice none 0 0)
    (h : K (a.put o.dst v) w) : o.wp P a w K Q := by
  have hr := run_append_owned_none (P := P) w base t o.type e i size ht hi v n xs hown
  unfold Oper.wp execOp
  simp only [ho, resolve, invoke, builtin, Sem.run_bind, Sem.run_pure, Result.andThen_ok, List.map_toArray, List.map_cons, List.map_nil, hs, hx, hr]
  exact h

/-- append(v, y...): v is a row of arrows of the call's own, y any slice of arrows (nil among them). -/
theorem wpList_append_arrs {ops : Array Oper} {rest : List Oper} {o : Oper} {a : Act} {Q : Exit → Act → World → Prop} (hgd : o.guard = none) (s x : Operand) (t : TypeId)
    (ho : o.op = .call { callee := .builtin .append, args := #[s, x], argTypes := #[t, t] })
    (B : Nat) (i : TypeInfo) (ht : P.underlying t = some (.slice 51)) (hi : P.info? 51 = some i) (hz : i.zero = some (aval arr0)) (hsize : i.size = 3) (hby : i.bytes = 24)
    (v : Value) (L : List Arr) (hs : a.eval s = v) (hown : OwnA w B v L)
    (ad : Option Addr) (c : Nat) (ys : List Arr) (hx : a.eval x = .slice ad ys.length c) (hat : AtA w ad ys) (hnil : ad = none → c = 0)
    (hroom : (L.length + ys.length) * 24 ≤ 140737488355328) (hbase : B ≤ w.heap.size)
    (h : ∀ v' w', OwnA w' B v' (L ++ ys) → w.grownBy w' v.ownBlock → (v ≠ .slice none 0 0 → v' ≠ .slice none 0 0) → wpList P ops Q rest (a.put o.dst v') w') : wpList P ops Q (o :: rest) a w := by
  cases ad with
  | none =>
    have hy : ys = [] := by
      rcases hat with h | ⟨b, off, h, _⟩
      · exact h
      · cases h
    subst hy
    rw [hnil rfl] at hx
    refine wpList_plain hgd fun _ hK => wp_append_nilA w s x t ho B 51 i 3 ht hi v _ _ hs hown hx (hK _ _ (h v w ?_ ⟨rfl, rfl, rfl, Nat.le_refl _, fun _ _ _ => rfl⟩ (fun h => h)))
    rw [List.append_nil]; exact hown
  | some ad =>
    refine wpList_append_own w hgd s x t ho B 51 i (aval arr0) 3 24 ht hi hz hsize hby rfl (by decide) v _ _ hs hown ad ys.length c (aflat ys) hx (aflat_len ys) ?_ (aflat_one ys) (by unfold maxLen; omega) hroom hbase ?_
    · rcases hat with h0 | ⟨b, off, h0, _, hc⟩
      · subst h0; intro j u hu; simp [aflat] at hu
      · cases h0; exact cells_news hc
    · intro v' w' ho' hg hnn
      refine h v' w' ?_ hg (fun hv hv' => hv (hnn.1 hv').1)
      unfold OwnA
      rw [List.length_append, aflat_append]
      exact ho'
end

end Go.Proofs.YtcjcjaeaoianfaaDoor
namespace Go.Proofs.YtcjcjaeaoianfaaDoor
open Go.RowKit
set_option linter.unusedVariables false

abbrev zcells : Array Value := #[.int .i64 0, .int .i64 0, .slice none 0 0, .slice none 0 0, .slice none 0 0]
theorem mcell_at {W : World} {b : Nat} {m : Mach} {l : ML} (h : Blk W b 25 (mcells m l)) : W.cell? ⟨b, 0, none⟩ = some (.int .i64 m.st) ∧ W.cell? ⟨b, 1, none⟩ = some (.int .i64 m.ev) ∧ W.cell? ⟨b, 2, none⟩ = some (.slice l.a1 m.starts.length l.c1) ∧ W.cell? ⟨b, 3, none⟩ = some (.slice l.a2 m.arrows.length l.c2) ∧ W.cell? ⟨b, 4, none⟩ = some (.slice l.a3 m.ends.length l.c3) :=
  ⟨h.cell 0 rfl, h.cell 1 rfl, h.cell 2 rfl, h.cell 3 rfl, h.cell 4 rfl⟩

/-- A slice that lies neither in block bn nor up to block r. -/
def AtX (w : World) (r bn : Nat) (a : Option Addr) (xs : List Int) : Prop := xs = [] ∨ ∃ b off, a = some ⟨b, off, none⟩ ∧ (b ≠ bn ∧ b ≠ r) ∧ b < w.heap.size ∧ Cells w b off xs
theorem AtX.at {w : World} {r B : Nat} {a : Option Addr} {xs : List Int} (h : AtX w r B a xs) : At w a xs := by
  rcases h with h | ⟨b, off, h1, -, h2, h3⟩
  · exact .inl h
  · exact .inr ⟨b, off, h1, h2, h3⟩
theorem AtX.below {w w' : World} {r B : Nat} {a : Option Addr} {xs : List Int} (h : AtX w r B a xs) (hb : Below w.heap.size w w') : AtX w' r B a xs := by
  rcases h with h | ⟨b, off, h1, h0, h2, h3⟩
  · exact .inl h
  · exact .inr ⟨b, off, h1, h0, Nat.lt_of_lt_of_le h2 hb.size, fun j hj => (hb.cell (p := ⟨b, off + j, none⟩) h2).trans (h3 j hj)⟩
theorem AtX.set0 {w : World} {r bn g j : Nat} {a : Option Addr} {xs : List Int} (h : AtX w r bn a xs) (v : Value) (hg : g = bn ∨ g = r) : AtX (w.setCell ⟨g, j, none⟩ v) r bn a xs := by
  rcases h with h | ⟨b, off, h1, h0, h2, h3⟩
  · exact .inl h
  · refine .inr ⟨b, off, h1, h0, by simpa [World.setCell] using h2, fun i hi => ?_⟩
    rw [← h3 i hi]
    exact World.cell?_of_block (w := w) (Below.heap_setCell w ⟨g, j, none⟩ v b (by show b ≠ g; omega))
theorem AtX.set {w : World} {r bn j : Nat} {a : Option Addr} {xs : List Int} (h : AtX w r bn a xs) (v : Value) : AtX (w.setCell ⟨bn, j, none⟩ v) r bn a xs := h.set0 v (.inl rfl)
theorem AtX.setr {w : World} {r bn j : Nat} {a : Option Addr} {xs : List Int} (h : AtX w r bn a xs) (v : Value) : AtX (w.setCell ⟨r, j, none⟩ v) r bn a xs := h.set0 v (.inr rfl)
theorem own_atX {w : World} {B : Nat} {v : Value} {xs : List Int} (h : Own w B v xs) (r bn : Nat) (hr : r < B) (hn : bn < B ∨ w.heap.size ≤ bn) : ∃ a cap, v = .slice a xs.length cap ∧ AtX w r bn a xs ∧ xs.length ≤ cap ∧ cap ≤ maxLen ∧ (a = none → cap = 0) := by
  rcases h.cells_of with ⟨rfl, rfl⟩ | ⟨g, cap, rfl, h1, h2, h3, -⟩
  · exact ⟨none, 0, rfl, .inl rfl, Nat.le_refl _, Nat.zero_le _, fun _ => rfl⟩
  · obtain ⟨a, c, e, -, k1, k2, k3⟩ := h.at2
    cases e
    exact ⟨_, _, rfl, .inr ⟨g, 0, rfl, by omega, h2, h3⟩, k1, k2, k3⟩
theorem size_set (w : World) (a : Addr) (v : Value) : (w.setCell a v).heap.size = w.heap.size := by simp [World.setCell]
/-- Arrows that do not lie in block g. -/
def AtXA (w : World) (g : Nat) (a : Option Addr) (ars : List Arr) : Prop := ars = [] ∨ ∃ b off, a = some ⟨b, off, none⟩ ∧ b ≠ g ∧ b < w.heap.size ∧ CellsA w b off ars
theorem AtXA.at {w : World} {g : Nat} {a : Option Addr} {ars : List Arr} (h : AtXA w g a ars) : AtA w a ars := by
  rcases h with h | ⟨b, off, h1, -, h2, h3⟩
  · exact .inl h
  · exact .inr ⟨b, off, h1, h2, h3⟩
theorem AtXA.set {w : World} {g j : Nat} {a : Option Addr} {ars : List Arr} (h : AtXA w g a ars) (v : Value) : AtXA (w.setCell ⟨g, j, none⟩ v) g a ars := by
  rcases h with h | ⟨b, off, h1, hne, h2, h3⟩
  · exact .inl h
  · refine .inr ⟨b, off, h1, hne, by simpa [World.setCell] using h2, fun i hi => ?_⟩
    obtain ⟨k1, k2, k3⟩ := h3 i hi
    exact ⟨(World.cell?_of_block (w := w) (Below.heap_setCell w ⟨g, j, none⟩ v b hne)).trans k1, (World.cell?_of_block (w := w) (Below.heap_setCell w ⟨g, j, none⟩ v b hne)).trans k2, (World.cell?_of_block (w := w) (Below.heap_setCell w ⟨g, j, none⟩ v b hne)).trans k3⟩
/-- Arrows do not lie in a machine's block. -/
theorem AtA.apart {w : World} {bn : Nat} {t : TypeId} {a : Option Addr} {ars : List Arr} {x y : Int} {a1 a2 a3 : Option Addr} {n1 n2 n3 c1 c2 c3 : Nat} (h : AtA w a ars) (hB : Blk w bn t #[.int .i64 x, .int .i64 y, .slice a1 n1 c1, .slice a2 n2 c2, .slice a3 n3 c3]) : AtXA w bn a ars := by
  rcases h with h | ⟨b, off, h1, h2, h3⟩
  · exact .inl h
  · by_cases he : ars = []
    · exact .inl he
    · have hlen : 0 < ars.length := List.length_pos_iff.2 he
      have hne : b ≠ bn := by
        rintro rfl
        obtain ⟨k1, k2, k3⟩ := h3 0 hlen
        have hf : ∀ i v, w.cell? ⟨b, i, none⟩ = some v → (#[Value.int .i64 x, .int .i64 y, .slice a1 n1 c1, .slice a2 n2 c2, .slice a3 n3 c3] : Array Value)[i]? = some v := fun i v hv => by
          have := hv
          simp only [World.cell?, show w.heap[b]? = _ from hB] at this
          simpa using this
        have q := hf _ _ k3
        have hi : off + 0 * 3 + 2 = 2 ∨ off + 0 * 3 + 2 = 3 ∨ off + 0 * 3 + 2 = 4 ∨ 5 ≤ off + 0 * 3 + 2 := by omega
        rcases hi with hi | hi | hi | hi
        · rw [hi] at q; simp at q
        · rw [hi] at q; simp at q
        · rw [hi] at q; simp at q
        · rw [Array.getElem?_eq_none (by simpa using hi)] at q; cases q
      exact .inr ⟨b, off, h1, hne, h2, h3⟩
theorem atA_new (W : World) (t : TypeId) (x : Arr) (b : Nat) (hb : b = W.heap.size) : AtA (W.alloc (.cells #[.int .i64 x.f, .int .i64 x.e, .int .i64 x.t] t)) (some ⟨b, 0, none⟩) [x] := by
  subst hb
  refine .inr ⟨_, 0, rfl, by simp, fun j hj => ?_⟩
  have : j = 0 := by simp at hj; omega
  subst this
  exact ⟨(Blk.new W t #[.int .i64 x.f, .int .i64 x.e, .int .i64 x.t]).cell 0 rfl, (Blk.new W t #[.int .i64 x.f, .int .i64 x.e, .int .i64 x.t]).cell 1 rfl, (Blk.new W t #[.int .i64 x.f, .int .i64 x.e, .int .i64 x.t]).cell 2 rfl⟩
theorem ownA_snoc2 {w wr w1 : World} {B : Nat} {v : Value} {L : List Arr} {o o' : Obj} (hown : OwnA wr B v L) (hb : Below B w wr) (hB : B ≤ wr.heap.size) (hgrow : ((wr.alloc o).alloc o').grownBy w1 v.ownBlock) : Below B w w1 :=
  ((hb.alloc hB o).alloc (by simp; omega) o').grown hgrow (by simp; omega) (fun j hj => (World.ownsRow.lt hown j hj).1)
theorem startsLen {m : Mach} (hm : mayB m = true) : m.starts.length ≤ 4096 := by
  have hz := mayB_size hm
  have hr := mayB_starts hm
  unfold sizeOk at hz
  unfold rowB at hr
  have := goIs_len _ _ _ (by omega) hr
  omega
theorem endsLen {m : Mach} (hm : mayB m = true) : m.ends.length ≤ 4096 := by
  have hz := mayB_size hm
  have hr := mayB_ends hm
  unfold sizeOk at hz
  unfold rowB at hr
  have := goIs_len _ _ _ (by omega) hr
  omega

end Go.Proofs.YtcjcjaeaoianfaaDoor
