/-
  What is said of a slice of integers that a call has made: 'Own'; what an append of one number does to it.
  What a call leaves that hands back a slice of its own.
  Plain mathematics of places in a list. No program, no model.
  The walk of jalousieref1.Has: whether a list has a number.
  The walk of jalousieref1.Is: it answers 'rowB n xs'.
  What is said of a machine that lies in memory: its value and its three slices.
  '==' and '!=' on two arrows, as the model runs them.
-/
import Derived.Test.YtdnglodemkeooaaDoorG03
import Derived.Deep.QuietTactic
import Derived.BigQuiet
import Derived.Laws.StructEq
namespace Go.Proofs.YtdnglodemkeooaaDoor
open Go.RowKit

theorem Tryd.infoInt : (Tryd.prog.info? 3).map (fun i => (i.zero, i.size, i.bytes)) = some (some (.int .i64 0), 1, 8) := by kernel_rfl

/-- The slice v is in memory made from block B on, and holds xs. -/
def Own (w : World) (B : Nat) (v : Value) (xs : List Int) : Prop := w.ownsRow B 3 1 v xs.length (xs.map (Value.int .i64))

theorem own_nil (w : World) (B : Nat) : Own w B (.slice none 0 0) [] := World.ownsRow_nil _ _ _ _

theorem Own.at {w : World} {B : Nat} {v : Value} {xs : List Int} (h : Own w B v xs) : ∃ a cap, v = .slice a xs.length cap ∧ At w a xs ∧ xs.length ≤ maxLen := by
  rcases h.2 with ⟨rfl, hn⟩ | ⟨g, cap, cur, rfl, hg, hh, hnc, hcm, hcs, ht⟩
  · have : xs = [] := List.eq_nil_of_length_eq_zero hn
    subst this
    exact ⟨none, 0, rfl, .inl rfl, Nat.zero_le _⟩
  · refine ⟨some ⟨g, 0, none⟩, cap, rfl, .inr ⟨g, 0, rfl, (Array.getElem?_eq_some_iff.1 hh).1, fun j hj => ?_⟩, Nat.le_trans hnc hcm⟩
    have := h.cells (g := g) rfl j (.int .i64 (xs.getD j 0)) (by rw [List.getElem?_map, List.getElem?_eq_getElem hj]; simp [List.getElem?_eq_getElem hj])
    rw [show (⟨g, 0, none⟩ : Addr).add j = ⟨g, 0 + j, none⟩ from by unfold Addr.add; split <;> simp_all] at this
    exact this

/-- What a call that hands back a slice leaves: the slice reads as xs, and nothing old has turned. -/
def Gives (w : World) (xs : List Int) (e : Ending) (w' : World) : Prop := ∃ a cap, e = .returned (.slice a xs.length cap) ∧ At w' a xs ∧ xs.length ≤ maxLen ∧ Below w.heap.size w w'

theorem gives_of_own {w w' : World} {B : Nat} {v : Value} {xs : List Int} (h : Own w' B v xs) (hb : Below w.heap.size w w') : Gives w xs (.returned v) w' := by
  obtain ⟨a, cap, rfl, h1, h2⟩ := h.at
  exact ⟨a, cap, rfl, h1, h2, hb⟩

theorem own_snoc {w wr w1 : World} {B : Nat} {v v' : Value} {L : List Int} {x : Int} {o : Obj} (hown : Own wr B v L) (hb : Below B w wr) (hB : B ≤ wr.heap.size)
    (hown' : w1.ownsRow B 3 1 v' (L.length + 1) (L.map (Value.int .i64) ++ [.int .i64 x])) (hgrow : (wr.alloc o).grownBy w1 v.ownBlock) :
    Own w1 B v' (L ++ [x]) ∧ Below B w w1 ∧ B ≤ w1.heap.size := by
  refine ⟨by unfold Own; rw [List.length_append, List.map_append]; exact hown', (hb.alloc hB o).grown hgrow (by simp; omega) (fun j hj => (hown.lt j hj).1), ?_⟩
  have := hgrow.size
  simp at this
  omega

theorem Own.drewN {w : World} {B : Nat} {v : Value} {xs : List Int} (h : Own w B v xs) (m : Nat) : Own (w.drewN m) B v xs := h

/-- An owned slice, as its value and its cells. -/
theorem Own.cells_of {w : World} {B : Nat} {v : Value} {xs : List Int} (h : Own w B v xs) : (v = .slice none 0 0 ∧ xs = []) ∨ ∃ g cap, v = .slice (some ⟨g, 0, none⟩) xs.length cap ∧ B ≤ g ∧ g < w.heap.size ∧ Cells w g 0 xs ∧ (∀ j, w.frozen? ⟨g, j, none⟩ = false) := by
  rcases h.2 with ⟨rfl, hn⟩ | ⟨g, cap, cur, rfl, hg, hh, hnc, hcm, hcs, ht⟩
  · exact .inl ⟨rfl, List.eq_nil_of_length_eq_zero hn⟩
  · refine .inr ⟨g, cap, rfl, hg, (Array.getElem?_eq_some_iff.1 hh).1, fun j hj => ?_, fun j => ?_⟩
    · have := h.cells (g := g) rfl j (.int .i64 (xs.getD j 0)) (by rw [List.getElem?_map, List.getElem?_eq_getElem hj]; simp [List.getElem?_eq_getElem hj])
      rw [show (⟨g, 0, none⟩ : Addr).add j = ⟨g, 0 + j, none⟩ from by unfold Addr.add; split <;> simp_all] at this
      exact this
    · simp [World.frozen?, hh]

end Go.Proofs.YtdnglodemkeooaaDoor
namespace Go.Proofs.YtdnglodemkeooaaDoor
open Go.RowKit
set_option linter.unusedVariables false

/-- What a call leaves that hands back a slice of its own. -/
def GivesO (w : World) (xs : List Int) (e : Ending) (w' : World) : Prop := ∃ v, e = .returned v ∧ Own w' w.heap.size v xs ∧ Below w.heap.size w w'
theorem Own.at2 {w : World} {B : Nat} {v : Value} {xs : List Int} (h : Own w B v xs) : ∃ a cap, v = .slice a xs.length cap ∧ At w a xs ∧ xs.length ≤ cap ∧ cap ≤ maxLen ∧ (a = none → cap = 0) := by
  obtain ⟨a, cap, e, h1, -⟩ := h.at
  rcases h.2 with ⟨rfl, hn⟩ | ⟨g, cap', cur, rfl, hg, hh, hnc, hcm, hcs, ht⟩
  · have : xs = [] := List.eq_nil_of_length_eq_zero hn
    subst this
    exact ⟨none, 0, rfl, .inl rfl, Nat.le_refl _, Nat.zero_le _, fun _ => rfl⟩
  · cases e
    exact ⟨_, _, rfl, h1, hnc, hcm, fun h => by cases h⟩

end Go.Proofs.YtdnglodemkeooaaDoor
namespace Go.Proofs.YtdnglodemkeooaaDoor
open Go.RowKit
set_option linter.unusedVariables false

/-- A number's place in a list. -/
def placeN : List Int → Int → Option Nat
  | [], _ => none
  | x :: r, n => if x = n then some 0 else (placeN r n).map (· + 1)
def placeF (k : Nat) (l : List Int) (n : Int) : Int := match placeN l n with
  | some j => ((k + j : Nat) : Int)
  | none => -1
/-- .. or -1. -/
def placeI (l : List Int) (n : Int) : Int := placeF 0 l n

theorem place_hit {xs : List Int} {k : Nat} {n x : Int} (h : k < xs.length) (hx : Hid (x = xs[k]?.getD 0)) (e : Hid (placeI xs n = placeF k (xs.drop k) n)) (hn : x = n) : (k : Int) = placeI xs n := by
  rw [e.out, drop_cons h, ← hx.out, placeF, placeN, if_pos hn]; simp
theorem place_miss {xs : List Int} {k : Nat} {n x : Int} (h : k < xs.length) (hx : Hid (x = xs[k]?.getD 0)) (e : Hid (placeI xs n = placeF k (xs.drop k) n)) (hn : ¬ x = n) : Hid (placeI xs n = placeF (k + 1) (xs.drop (k + 1)) n) := by
  show _ = _
  rw [e.out, drop_cons h, ← hx.out, placeF, placeN, if_neg hn, placeF]
  cases placeN (xs.drop (k + 1)) n with
  | none => rfl
  | some j => simp only [Option.map_some]; omega
theorem place_end {xs : List Int} {k : Nat} {n : Int} (h : ¬ k < xs.length) (e : Hid (placeI xs n = placeF k (xs.drop k) n)) : (-1 : Int) = placeI xs n := by
  rw [e.out, List.drop_eq_nil_of_le (by omega)]; rfl
theorem placeF_lt : ∀ (l : List Int) (n : Int) (j : Nat), placeN l n = some j → j < l.length
  | [], _, _, h => by simp [placeN] at h
  | x :: r, n, j, h => by
    unfold placeN at h
    by_cases hx : x = n
    · rw [if_pos hx] at h; cases h; simp
    · rw [if_neg hx] at h
      cases hp : placeN r n with
      | none => rw [hp] at h; cases h
      | some i => rw [hp] at h; cases h; have := placeF_lt r n i hp; simp only [List.length_cons]; omega
/-- The places of those numbers that are there. -/
def placesL (l ss : List Int) : List Int := (ss.map (placeI l)).filter fun k => decide (0 ≤ k)
theorem placesL_take {l ss : List Int} {k : Nat} {x : Int} (h : k < ss.length) (hx : Hid (x = ss[k]?.getD 0)) : placesL l (ss.take (k + 1)) = if 0 ≤ placeI l x then placesL l (ss.take k) ++ [placeI l x] else placesL l (ss.take k) := by
  have hx := hx.out
  rw [List.getElem?_eq_getElem h, Option.getD_some] at hx
  unfold placesL
  rw [List.take_add_one, List.getElem?_eq_getElem h, List.map_append, List.filter_append, ← hx]
  by_cases c : 0 ≤ placeI l x
  · rw [if_pos c]; simp [c]
  · rw [if_neg c]; simp [c]
theorem placesL_len (l ss : List Int) : (placesL l ss).length ≤ ss.length := by
  unfold placesL; exact Nat.le_trans (List.length_filter_le _ _) (by simp)

end Go.Proofs.YtdnglodemkeooaaDoor
namespace Go.Proofs.YtdnglodemkeooaaDoor
open Go.RowKit

set_option maxHeartbeats 400000 in
theorem refHas_some (b off cap : Nat) (xs : List Int) (n : Int) (w : World) (hl : xs.length ≤ 9223372036854775807) (hc : Cells w b off xs) :
    Calls Tryd.prog 60 #[.slice (some ⟨b, off, none⟩) xs.length cap, .int .i64 n] w fun e w' => e = .returned (.bool (hasB xs n)) ∧ w' = w := by
  go_enter Tryd.func60, Tryd.ntmps60
  go_wp2
  go_loop [5] (fun i => ∃ k : Nat, k ≤ xs.length ∧ i = .int .i64 k ∧ Hid (hasB xs n = hasB (xs.drop k) n)) (fun i => xs.length - (intOf i).toNat)
  case atStart => exact ⟨0, Nat.zero_le _, rfl, rfl⟩
  case round =>
    obtain ⟨k, hk, rfl, he⟩ := hrel
    by_cases hlt : k < xs.length
    · obtain ⟨x, HX, hcell⟩ := hc.at hlt
      go_wp2
      · go_ret
        exact ⟨ret_bool (has_hit hlt he HX (by assumption)), rfl⟩
      · go_round
        case rel => exact ⟨k + 1, by omega, by go_num, has_miss hlt he HX (by assumption)⟩
        case measure => simp [intOf]; omega
    · go_wp2
      go_ret
      exact ⟨ret_bool (has_end hlt he), rfl⟩

set_option maxHeartbeats 400000 in
theorem refHas_nil (a : Option Addr) (cap : Nat) (n : Int) (w : World) :
    Calls Tryd.prog 60 #[.slice a 0 cap, .int .i64 n] w fun e w' => e = .returned (.bool false) ∧ w' = w := by
  go_enter Tryd.func60, Tryd.ntmps60
  go_wp2
  refine wp_loop_rounds 1 ?_
  rw [rounds_succ]
  go_wp2
  go_ret
  exact ⟨rfl, rfl⟩

theorem refHas_any (a : Option Addr) (cap : Nat) (xs : List Int) (n : Int) (w : World) (hs : At w a xs) (hl : xs.length ≤ maxLen) :
    Calls Tryd.prog 60 #[.slice a xs.length cap, .int .i64 n] w fun e w' => e = .returned (.bool (hasB xs n)) ∧ w' = w := by
  rcases hs with rfl | ⟨b, off, rfl, -, hc⟩
  · exact refHas_nil a cap n w
  · exact refHas_some b off cap xs n w hl hc

end Go.Proofs.YtdnglodemkeooaaDoor
namespace Go.Proofs.YtdnglodemkeooaaDoor
open Go.RowKit

/-- The number ahead of place k, or -1. -/
def lastOf (xs : List Int) (k : Nat) : Int := if k = 0 then -1 else xs[k - 1]?.getD 0

theorem lastOf_succ (xs : List Int) (k : Nat) : lastOf xs (k + 1) = xs[k]?.getD 0 := by simp [lastOf]

theorem ris_no {xs : List Int} {k : Nat} {n x : Int} (h : k < xs.length) (e : Hid (-1 ≤ lastOf xs k ∧ rowB n xs = goIs (lastOf xs k) (min n 2147483648) (xs.drop k))) (hv : Hid (x = xs[k]?.getD 0)) (hx : x ≤ lastOf xs k ∨ n ≤ x ∨ 2147483648 ≤ x) : false = rowB n xs := by
  rw [e.out.2, drop_cons h, ← hv.out, goIs, if_pos (by omega)]
theorem ris_yes {xs : List Int} {k : Nat} {n x : Int} (h : k < xs.length) (e : Hid (-1 ≤ lastOf xs k ∧ rowB n xs = goIs (lastOf xs k) (min n 2147483648) (xs.drop k))) (hv : Hid (x = xs[k]?.getD 0)) (hx : ¬ (x ≤ lastOf xs k ∨ n ≤ x ∨ 2147483648 ≤ x)) : Hid (-1 ≤ lastOf xs (k + 1) ∧ rowB n xs = goIs (lastOf xs (k + 1)) (min n 2147483648) (xs.drop (k + 1))) := by
  have := e.out.1
  refine ⟨?_, ?_⟩ <;> rw [lastOf_succ, ← hv.out]
  · omega
  · rw [e.out.2, drop_cons h, ← hv.out, goIs, if_neg (by omega)]
theorem ris_end {xs : List Int} {k : Nat} {n : Int} (h : ¬ k < xs.length) (e : Hid (-1 ≤ lastOf xs k ∧ rowB n xs = goIs (lastOf xs k) (min n 2147483648) (xs.drop k))) : true = rowB n xs := by
  rw [e.out.2, List.drop_eq_nil_of_le (by omega)]; rfl

set_option maxHeartbeats 1000000 in
theorem refIs_some (b off cap : Nat) (xs : List Int) (n : Int) (w : World) (hl : xs.length ≤ 9223372036854775807) (hc : Cells w b off xs) :
    Calls Tryd.prog 19 #[.slice (some ⟨b, off, none⟩) xs.length cap, .int .i64 n] w fun e w' => e = .returned (.bool (rowB n xs)) ∧ ∃ m, w' = w.drewN m := by
  go_enter Tryd.func19, Tryd.ntmps19
  go_wp2
  go_loopw [5] (fun i wr => ∃ k q : Nat, k ≤ xs.length ∧ i = .int .i64 k ∧ wr = w.drewN q ∧ Hid (-1 ≤ lastOf xs k ∧ rowB n xs = goIs (lastOf xs k) (min n 2147483648) (xs.drop k))) (fun i _ => xs.length - (intOf i).toNat)
  case atStart => exact ⟨0, 0, Nat.zero_le _, rfl, rfl, ⟨by simp [lastOf], rfl⟩⟩
  case round =>
    obtain ⟨k, q, hk, rfl, rfl, he⟩ := hrel
    by_cases hlt : k < xs.length
    · obtain ⟨x, HX, hcell⟩ := hc.at hlt
      by_cases c1 : x < 0
      · have hlo := he.out.1
        go_wp2
        go_quiet (fail)
        go_wp2
        go_ret
        exact ⟨ret_bool (ris_no hlt he HX (.inl (by omega))), _, World.drewN_drewN _ _ _⟩
      · have d1 : decide (x < 0) = false := by simpa using c1
        by_cases c2 : n ≤ x
        · have d2 : decide (n ≤ x) = true := by simpa using c2
          go_wp2
          go_quiet (fail)
          go_wp2
          go_ret
          exact ⟨ret_bool (ris_no hlt he HX (.inr (.inl c2))), _, World.drewN_drewN _ _ _⟩
        · have d2 : decide (n ≤ x) = false := by simpa using c2
          by_cases c3 : 2147483648 ≤ x
          · go_wp2
            go_quiet (fail)
            go_wp2
            go_ret
            exact ⟨ret_bool (ris_no hlt he HX (.inr (.inr c3))), _, World.drewN_drewN _ _ _⟩
          · have d3 : decide (2147483648 ≤ x) = false := by simpa using c3
            by_cases c4 : k = 0
            · subst c4
              have hl0 : Hid (lastOf xs 0 = -1) := rfl
              rw [Nat.add_zero] at hcell
              go_wp2
              go_quiet (fail)
              go_wp2
              go_roundw
              case rel => exact ⟨1, _, by omega, by go_num, rfl, ris_yes hlt he HX (by have := hl0.out; omega)⟩
              case measure => simp [intOf]; omega
            · obtain ⟨j, rfl⟩ : ∃ j, k = j + 1 := ⟨k - 1, by omega⟩
              obtain ⟨y, HY, hcy⟩ := hc.at (k := j) (by omega)
              have HL : Hid (lastOf xs (j + 1) = y) := by show _ = _; rw [lastOf_succ, HY.out]
              have d4 : decide (0 < (j : Int) + 1) = true := by simp
              by_cases c5 : x ≤ y
              · have d5 : decide (x ≤ y) = true := by simpa using c5
                go_wp2
                go_quiet (fail)
                go_wp2
                go_ret
                exact ⟨ret_bool (ris_no hlt he HX (.inl (by have := HL.out; omega))), _, World.drewN_drewN _ _ _⟩
              · have d5 : decide (x ≤ y) = false := by simpa using c5
                go_wp2
                go_quiet (fail)
                go_wp2
                go_roundw
                case rel => exact ⟨j + 1 + 1, _, by omega, by go_num, rfl, ris_yes hlt he HX (by have := HL.out; omega)⟩
                case measure => simp [intOf]; omega
    · go_wp2
      go_ret
      exact ⟨ret_bool (ris_end hlt he), q, rfl⟩

set_option maxHeartbeats 400000 in
theorem refIs_nil (a : Option Addr) (cap : Nat) (n : Int) (w : World) :
    Calls Tryd.prog 19 #[.slice a 0 cap, .int .i64 n] w fun e w' => e = .returned (.bool true) ∧ ∃ m, w' = w.drewN m := by
  go_enter Tryd.func19, Tryd.ntmps19
  go_wp2
  refine wp_loop_rounds 1 ?_
  rw [rounds_succ]
  go_wp2
  go_ret
  exact ⟨rfl, 0, rfl⟩

theorem refIs_any (a : Option Addr) (cap : Nat) (xs : List Int) (n : Int) (w : World) (hs : At w a xs) (hl : xs.length ≤ maxLen) :
    Calls Tryd.prog 19 #[.slice a xs.length cap, .int .i64 n] w fun e w' => e = .returned (.bool (rowB n xs)) ∧ ∃ m, w' = w.drewN m := by
  rcases hs with rfl | ⟨b, off, rfl, -, hc⟩
  · exact refIs_nil a cap n w
  · exact refIs_some b off cap xs n w hl hc

end Go.Proofs.YtdnglodemkeooaaDoor
namespace Go.Proofs.YtdnglodemkeooaaDoor
open Go.RowKit
set_option linter.unusedVariables false

/-- The cells from place 'off' of block 'b' on hold the arrows. -/
def CellsA (w : World) (b off : Nat) (ars : List Arr) : Prop := ∀ j, j < ars.length →
  w.cell? ⟨b, off + j * 3, none⟩ = some (.int .i64 (ars[j]?.getD arr0).f) ∧ w.cell? ⟨b, off + j * 3 + 1, none⟩ = some (.int .i64 (ars[j]?.getD arr0).e) ∧ w.cell? ⟨b, off + j * 3 + 2, none⟩ = some (.int .i64 (ars[j]?.getD arr0).t)

theorem CellsA.at {w : World} {b off k : Nat} {ars : List Arr} (hc : CellsA w b off ars) (h : k < ars.length) : ∃ a, Hid (a = ars[k]?.getD arr0) ∧ w.cell? ⟨b, off + k * 3, none⟩ = some (.int .i64 a.f) ∧ w.cell? ⟨b, off + k * 3 + 1, none⟩ = some (.int .i64 a.e) ∧ w.cell? ⟨b, off + k * 3 + 2, none⟩ = some (.int .i64 a.t) :=
  ⟨_, rfl, hc k h⟩

def AtA (w : World) (a : Option Addr) (ars : List Arr) : Prop := ars = [] ∨ ∃ b off, a = some ⟨b, off, none⟩ ∧ b < w.heap.size ∧ CellsA w b off ars

theorem AtA.below {w w' : World} {a : Option Addr} {ars : List Arr} {B : Nat} (h : AtA w a ars) (hb : Below B w w') (hB : w.heap.size ≤ B) : AtA w' a ars := by
  rcases h with h | ⟨b, off, rfl, hlt, hc⟩
  · exact .inl h
  · refine .inr ⟨b, off, rfl, Nat.lt_of_lt_of_le hlt hb.size, fun j hj => ?_⟩
    obtain ⟨h1, h2, h3⟩ := hc j hj
    have hlt' := Nat.lt_of_lt_of_le hlt hB
    exact ⟨(hb.cell (p := ⟨b, off + j * 3, none⟩) hlt').trans h1, (hb.cell (p := ⟨b, off + j * 3 + 1, none⟩) hlt').trans h2, (hb.cell (p := ⟨b, off + j * 3 + 2, none⟩) hlt').trans h3⟩

/-- Where a machine's three slices lie. -/
structure ML where
  a1 : Option Addr
  c1 : Nat
  a2 : Option Addr
  c2 : Nat
  a3 : Option Addr
  c3 : Nat

/-- A machine's five cells. -/
abbrev mcells (m : Mach) (l : ML) : Array Value := #[.int .i64 m.st, .int .i64 m.ev, .slice l.a1 m.starts.length l.c1, .slice l.a2 m.arrows.length l.c2, .slice l.a3 m.ends.length l.c3]
/-- A machine's value. -/
abbrev mval (m : Mach) (l : ML) : Value := .agg (mcells m l)

/-- A machine lies in memory. -/
structure MAt (w : World) (m : Mach) (l : ML) : Prop where
  s : At w l.a1 m.starts
  a : AtA w l.a2 m.arrows
  e : At w l.a3 m.ends
  s1 : m.starts.length ≤ l.c1
  s2 : l.c1 ≤ maxLen
  s3 : l.a1 = none → l.c1 = 0
  a1 : m.arrows.length ≤ l.c2
  a2 : l.c2 ≤ maxLen
  a3 : l.a2 = none → l.c2 = 0
  e1 : m.ends.length ≤ l.c3
  e2 : l.c3 ≤ maxLen
  e3 : l.a3 = none → l.c3 = 0

theorem MAt.below {w w' : World} {m : Mach} {l : ML} {B : Nat} (h : MAt w m l) (hb : Below B w w') (hB : w.heap.size ≤ B) : MAt w' m l :=
  ⟨h.s.below hb hB, h.a.below hb hB, h.e.below hb hB, h.s1, h.s2, h.s3, h.a1, h.a2, h.a3, h.e1, h.e2, h.e3⟩

theorem cell_box {w wr : World} {cs : Array Value} {T : TypeId} (hb : Below (w.heap.size + 1) (w.alloc (.cells cs T)) wr) (j : Nat) (v : Value) (h : cs[j]? = some v) : wr.cell? ⟨w.heap.size, j, none⟩ = some v := by
  rw [hb.cell (p := ⟨w.heap.size, j, none⟩) (by show w.heap.size < w.heap.size + 1; omega), World.cell?_alloc_at _ _ _ _ rfl]
  simp [h]

/-- The five cells of a machine that lies in a block of its own. -/
theorem box_cells {w wr : World} {m : Mach} {l : ML} {T : TypeId} (hb : Below (w.heap.size + 1) (w.alloc (.cells (mcells m l) T)) wr) :
    wr.cell? ⟨w.heap.size, 0, none⟩ = some (.int .i64 m.st) ∧ wr.cell? ⟨w.heap.size, 1, none⟩ = some (.int .i64 m.ev) ∧ wr.cell? ⟨w.heap.size, 2, none⟩ = some (.slice l.a1 m.starts.length l.c1) ∧
    wr.cell? ⟨w.heap.size, 3, none⟩ = some (.slice l.a2 m.arrows.length l.c2) ∧ wr.cell? ⟨w.heap.size, 4, none⟩ = some (.slice l.a3 m.ends.length l.c3) :=
  ⟨cell_box hb 0 _ rfl, cell_box hb 1 _ rfl, cell_box hb 2 _ rfl, cell_box hb 3 _ rfl, cell_box hb 4 _ rfl⟩

theorem below_box {w wr : World} {o : Obj} (hb : Below (w.heap.size + 1) (w.alloc o) wr) : Below w.heap.size w wr :=
  ((Below.refl _ _).alloc (Nat.le_refl _) o).trans (hb.mono (by omega))

end Go.Proofs.YtdnglodemkeooaaDoor
namespace Go.Proofs.YtdnglodemkeooaaDoor
open Go.RowKit
set_option linter.unusedVariables false

abbrev arrEq (a b : Arr) : Prop := a.f = b.f ∧ a.e = b.e ∧ a.t = b.t
def arrEqB (a b : Arr) : Bool := decide (arrEq a b)

abbrev aval (a : Arr) : Value := .agg #[.int .i64 a.f, .int .i64 a.e, .int .i64 a.t]

theorem Tryd.fieldsArrow : Tryd.prog.underlying 58 = some (.struct (Tryd.prog.fieldsOf 58)) := by unfold Program.fieldsOf; rw [Tryd.underlying58]
theorem Tryd.stoodArrow : Tryd.prog.stoodInHeld 58 = false := by kernel_rfl
theorem Tryd.guardArrow : Tryd.prog.eqGuardType Tryd.prog.depth 58 = false := by kernel_rfl

theorem run_equalIn_arrow (a b : Arr) (w : World) : (Op.equalIn 10000 58 (aval a) (aval b)).run Tryd.prog w = .ok (arrEqB a b) w := by
  rw [run_equalIn_agg w 9999 58 _ _ Tryd.fieldsArrow Tryd.stoodArrow]
  have hf : (Tryd.prog.fieldsOf 58).toList = [{ name := "From", type := 3, offset := 0, embedded := false, tag := "", pkgPath := "", byteOffset := 0 }, { name := "Event", type := 3, offset := 1, embedded := false, tag := "", pkgPath := "", byteOffset := 8 }, { name := "To", type := 3, offset := 2, embedded := false, tag := "", pkgPath := "", byteOffset := 16 }] := by unfold Program.fieldsOf; rw [Tryd.underlying58]
  rw [hf]
  obtain ⟨a1, a2, a3⟩ := a
  obtain ⟨b1, b2, b3⟩ := b
  by_cases h1 : a1 = b1 <;> by_cases h2 : a2 = b2 <;> by_cases h3 : a3 = b3 <;> simp [Op.eqFields, go_sem, arrEqB, arrEq, h1, h2, h3]

theorem run_guard_arrow (op : BinOp) (x y : Operand) (xs ys : Array Value) (w : World) : (eqGuard op 58 x y (.agg xs) (.agg ys)).run Tryd.prog w = .ok () w := run_eqGuard_agg w op 58 x y xs ys Tryd.guardArrow

/-- Are two lists of arrows one? -/
def sameA : List Arr → List Arr → Bool
  | [], [] => true
  | a :: r, b :: s => if arrEq a b then sameA r s else false
  | _, _ => false

end Go.Proofs.YtdnglodemkeooaaDoor
