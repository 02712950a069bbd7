/-
  The walk of row.Is: it answers 'rowB n xs'.
  The walk of machine.May: it answers 'mayB'.
  The walk of hide.Hide.
  hide.Hide, whatever comes in.
  What the walk of jalousieref5.Hide knows of the memory; how many arrows there may be.
-/
import Derived.Test.YtdhgabpoaicjoaaDoorG03
import Derived.Deep.QuietTactic
import Derived.BigQuiet
import Derived.Test.YtdhgabpoaicjoaaDoorCArrMay
import Derived.Test.YtdhgabpoaicjoaaDoorG25
import Derived.Test.YtdhgabpoaicjoaaDoorG27
import Derived.Test.YtdhgabpoaicjoaaDoorG10
import Derived.Test.YtdhgabpoaicjoaaDoorG20
import Derived.Test.YtdhgabpoaicjoaaDoorG26
import Derived.Test.YtdhgabpoaicjoaaDoorG07
import Derived.Test.YtdhgabpoaicjoaaDoorG15
import Derived.Test.YtdhgabpoaicjoaaDoorG14
namespace Go.Proofs.YtdhgabpoaicjoaaDoor
open Go.RowKit

theorem rowB_start1 {n : Int} (h : n ≤ 2147483648) (xs : List Int) : rowB n xs = goIs (-1) n xs := by unfold rowB; rw [show min n 2147483648 = n by omega]
theorem rowB_start2 {n : Int} (h : 2147483648 < n) (xs : List Int) : rowB n xs = goIs (-1) 2147483648 xs := by unfold rowB; rw [show min n 2147483648 = 2147483648 by omega]

set_option maxHeartbeats 400000 in
theorem rowIs_some (b off cap : Nat) (xs : List Int) (n : Int) (w : World) (hl : xs.length ≤ 9223372036854775807) (hc : Cells w b off xs) :
    Calls Tryd.prog 50 #[.slice (some ⟨b, off, none⟩) xs.length cap, .int .i64 n] w fun e w' => e = .returned (.bool (rowB n xs)) ∧ w' = w := by
  by_cases hn : n ≤ 2147483648
  · have HS : Hid (rowB n xs = goIs (-1) n (xs.drop 0)) := rowB_start1 hn xs
    go_enter Tryd.func50, Tryd.ntmps50
    go_wp2
    go_loop [5, 12] (fun l i => ∃ (k : Nat) (last : Int), k ≤ xs.length ∧ i = .int .i64 k ∧ l = .int .i64 last ∧ Hid (rowB n xs = goIs last n (xs.drop k))) (fun _ i => xs.length - (intOf i).toNat)
    case atStart => exact ⟨0, -1, Nat.zero_le _, rfl, rfl, HS⟩
    case round =>
      obtain ⟨k, last, hk, rfl, rfl, he⟩ := hrel
      by_cases hlt : k < xs.length
      · obtain ⟨x, HX, hcell⟩ := hc.at hlt
        by_cases h1 : x ≤ last
        · go_wp2
          go_ret
          exact ⟨ret_bool (is_no hlt he HX (.inl h1)), rfl⟩
        · by_cases h2 : n ≤ x
          · go_wp2
            go_ret
            exact ⟨ret_bool (is_no hlt he HX (.inr h2)), rfl⟩
          · go_wp2
            go_round
            case rel => exact ⟨k + 1, x, by omega, by go_num, rfl, is_yes hlt he HX (by omega)⟩
            case measure => simp [intOf]; omega
      · go_wp2
        go_ret
        exact ⟨ret_bool (is_end hlt he), rfl⟩
  · have HS : Hid (rowB n xs = goIs (-1) 2147483648 (xs.drop 0)) := rowB_start2 (by omega) xs
    go_enter Tryd.func50, Tryd.ntmps50
    go_wp2
    go_loop [5, 12] (fun l i => ∃ (k : Nat) (last : Int), k ≤ xs.length ∧ i = .int .i64 k ∧ l = .int .i64 last ∧ Hid (rowB n xs = goIs last 2147483648 (xs.drop k))) (fun _ i => xs.length - (intOf i).toNat)
    case atStart => exact ⟨0, -1, Nat.zero_le _, rfl, rfl, HS⟩
    case round =>
      obtain ⟨k, last, hk, rfl, rfl, he⟩ := hrel
      by_cases hlt : k < xs.length
      · obtain ⟨x, HX, hcell⟩ := hc.at hlt
        by_cases h1 : x ≤ last
        · go_wp2
          go_ret
          exact ⟨ret_bool (is_no hlt he HX (.inl h1)), rfl⟩
        · by_cases h2 : 2147483648 ≤ x
          · go_wp2
            go_ret
            exact ⟨ret_bool (is_no hlt he HX (.inr h2)), rfl⟩
          · go_wp2
            go_round
            case rel => exact ⟨k + 1, x, by omega, by go_num, rfl, is_yes hlt he HX (by omega)⟩
            case measure => simp [intOf]; omega
      · go_wp2
        go_ret
        exact ⟨ret_bool (is_end hlt he), rfl⟩

set_option maxHeartbeats 400000 in
theorem rowIs_nil (a : Option Addr) (cap : Nat) (n : Int) (w : World) :
    Calls Tryd.prog 50 #[.slice a 0 cap, .int .i64 n] w fun e w' => e = .returned (.bool true) ∧ w' = w := by
  go_enter Tryd.func50, Tryd.ntmps50
  go_wp2
  all_goals
    refine wp_loop_rounds 1 ?_
    rw [rounds_succ]
    go_wp2
    go_ret
    exact ⟨rfl, rfl⟩

theorem rowIs_any (a : Option Addr) (cap : Nat) (xs : List Int) (n : Int) (w : World) (hs : At w a xs) (hl : xs.length ≤ maxLen) :
    Calls Tryd.prog 50 #[.slice a xs.length cap, .int .i64 n] w fun e w' => e = .returned (.bool (rowB n xs)) ∧ w' = w := by
  rcases hs with rfl | ⟨b, off, rfl, -, hc⟩
  · exact rowIs_nil a cap n w
  · exact rowIs_some b off cap xs n w hl hc

end Go.Proofs.YtdhgabpoaicjoaaDoor
namespace Go.Proofs.YtdhgabpoaicjoaaDoor
open Go.RowKit
set_option linter.unusedVariables false

theorem may_split (m : Mach) : mayB m = (decide (1 ≤ m.st) && (decide (m.st ≤ 256) && (decide (0 ≤ m.ev) && (decide (m.ev ≤ 8) && (rowB m.st m.starts && (rowB m.st m.ends && arrsB m)))))) := by
  unfold mayB arrsB sizeOk
  by_cases h1 : 1 ≤ m.st <;> by_cases h2 : m.st ≤ 256 <;> by_cases h3 : 0 ≤ m.ev <;> by_cases h4 : m.ev ≤ 8 <;> by_cases h5 : m.arrows.length ≤ 4096 <;> simp [h1, h2, h3, h4, h5]

theorem may_no1 {m : Mach} (h : decide (1 ≤ m.st) = false) : false = mayB m := by rw [may_split, h]; rfl
theorem may_no2 {m : Mach} (h : decide (m.st ≤ 256) = false) : false = mayB m := by rw [may_split, h]; simp
theorem may_no3 {m : Mach} (h : decide (0 ≤ m.ev) = false) : false = mayB m := by rw [may_split, h]; simp
theorem may_no4 {m : Mach} (h : decide (m.ev ≤ 8) = false) : false = mayB m := by rw [may_split, h]; simp
theorem may_no5 {m : Mach} (h : rowB m.st m.starts = false) : false = mayB m := by rw [may_split, h]; simp
theorem may_no6 {m : Mach} (h : rowB m.st m.ends = false) : false = mayB m := by rw [may_split, h]; simp
theorem may_yes {m : Mach} (h1 : decide (1 ≤ m.st) = true) (h2 : decide (m.st ≤ 256) = true) (h3 : decide (0 ≤ m.ev) = true) (h4 : decide (m.ev ≤ 8) = true) (h5 : rowB m.st m.starts = true) (h6 : rowB m.st m.ends = true) : arrsB m = mayB m := by
  rw [may_split, h1, h2, h3, h4, h5, h6]; simp

set_option maxRecDepth 100000 in
set_option maxHeartbeats 4000000 in
theorem pMay_any (m : Mach) (l : ML) (w : World) (h : MAt w m l) :
    Calls Tryd.prog 12 #[mval m l] w fun e w' => e = .returned (.bool (mayB m)) ∧ Below w.heap.size w w' := by
  have b0 : Below w.heap.size w (w.alloc (.cells (mcells m l) 25)) := (Below.refl _ _).alloc (Nat.le_refl _) _
  have h' := Hid.of (h.below b0 (Nat.le_refl _))
  have l1 : Hid (m.starts.length ≤ maxLen) := Nat.le_trans h.s1 h.s2
  have l3 : Hid (m.ends.length ≤ maxLen) := Nat.le_trans h.e1 h.e2
  have B0 := Hid.of b0
  clear b0
  by_cases e1 : 1 ≤ m.st
  · have d1 : decide (1 ≤ m.st) = true := by simpa using e1
    by_cases e2 : m.st ≤ 256
    · have d2 : decide (m.st ≤ 256) = true := by simpa using e2
      by_cases e3 : 0 ≤ m.ev
      · have d3 : decide (0 ≤ m.ev) = true := by simpa using e3
        by_cases e4 : m.ev ≤ 8
        · have d4 : decide (m.ev ≤ 8) = true := by simpa using e4
          cases e5 : rowB m.st m.starts with
          | true =>
            cases e6 : rowB m.st m.ends with
            | true =>
              go_enter Tryd.func12, Tryd.ntmps12
              go_wp2_with fail
              refine (rowIs_any l.a1 l.c1 m.starts m.st _ h'.out.s l1.out).mono ?_
              rintro e w1 ⟨rfl, rfl⟩
              rw [e5]
              go_wp2_with fail
              refine (rowIs_any l.a3 l.c3 m.ends m.st _ h'.out.e l3.out).mono ?_
              rintro e w1 ⟨rfl, rfl⟩
              rw [e6]
              go_wp2_with fail
              refine (arrowsMay_any m l _ h'.out).mono ?_
              rintro e w1 ⟨rfl, hb1⟩
              go_wp2
              go_ret
              exact ⟨ret_bool (may_yes d1 d2 d3 d4 e5 e6), B0.out.trans (hb1.mono B0.out.size)⟩
            | false =>
              go_enter Tryd.func12, Tryd.ntmps12
              go_wp2_with fail
              refine (rowIs_any l.a1 l.c1 m.starts m.st _ h'.out.s l1.out).mono ?_
              rintro e w1 ⟨rfl, rfl⟩
              rw [e5]
              go_wp2_with fail
              refine (rowIs_any l.a3 l.c3 m.ends m.st _ h'.out.e l3.out).mono ?_
              rintro e w1 ⟨rfl, rfl⟩
              rw [e6]
              go_wp2
              go_ret
              exact ⟨ret_bool (may_no6 e6), B0.out⟩
          | false =>
            go_enter Tryd.func12, Tryd.ntmps12
            go_wp2_with (go_at_call 50; refine (rowIs_any l.a1 l.c1 m.starts m.st _ h'.out.s l1.out).mono ?_; rintro e w1 ⟨rfl, rfl⟩)
            go_ret
            exact ⟨ret_bool (may_no5 e5), B0.out⟩
        · have d4 : decide (m.ev ≤ 8) = false := by simpa using e4
          go_enter Tryd.func12, Tryd.ntmps12
          go_wp2
          go_ret
          exact ⟨ret_bool (may_no4 d4), B0.out⟩
      · have d3 : decide (0 ≤ m.ev) = false := by simpa using e3
        go_enter Tryd.func12, Tryd.ntmps12
        go_wp2
        go_ret
        exact ⟨ret_bool (may_no3 d3), B0.out⟩
    · have d2 : decide (m.st ≤ 256) = false := by simpa using e2
      go_enter Tryd.func12, Tryd.ntmps12
      go_wp2
      go_ret
      exact ⟨ret_bool (may_no2 d2), B0.out⟩
  · have d1 : decide (1 ≤ m.st) = false := by simpa using e1
    go_enter Tryd.func12, Tryd.ntmps12
    go_wp2
    go_ret
    exact ⟨ret_bool (may_no1 d1), B0.out⟩

end Go.Proofs.YtdhgabpoaicjoaaDoor
namespace Go.Proofs.YtdhgabpoaicjoaaDoor
open Go.RowKit
set_option linter.unusedVariables false

set_option maxRecDepth 100000 in
set_option maxHeartbeats 4000000 in
theorem hide_err (m : Mach) (l : ML) (sa : Option Addr) (sc : Nat) (seen : List Int) (w : World) (h : Hid (MAt w m l)) (hs : Hid (At w sa seen)) (hsl : Hid (seen.length ≤ maxLen)) (hbad : Hid (mayB m = false ∨ rowB m.ev seen = false)) :
    Calls Tryd.prog 25 #[mval m l, .slice sa seen.length sc] w fun e w' => HErr 2 w e w' := by
  have B0 : Hid (Below w.heap.size w ((w.alloc (.cells (mcells m l) 25)).alloc (.cells zcells 25))) := ((Below.refl _ _).alloc (Nat.le_refl _) _).alloc (by simp) _
  have K0 : Hid (Blk ((w.alloc (.cells (mcells m l) 25)).alloc (.cells zcells 25)) w.heap.size 25 (mcells m l)) := (Blk.new w _ _).alloc _
  have R0 : Hid (Blk ((w.alloc (.cells (mcells m l) 25)).alloc (.cells zcells 25)) (w.heap.size + 1) 25 zcells) := by
    have := Blk.new (w.alloc (.cells (mcells m l) 25)) 25 zcells
    rwa [World.size_alloc] at this
  go_enter Tryd.func25, Tryd.ntmps25
  go_wp2_with fail
  revert B0 K0 R0
  generalize (w.alloc (.cells (mcells m l) 25)).alloc (.cells zcells 25) = V0
  intro B0 K0 R0
  refine (pMay_any m l _ (h.out.below B0.out (Nat.le_refl _))).mono ?_
  rintro e V ⟨rfl, hb1⟩
  have B1 := Hid.of (B0.out.trans (hb1.mono B0.out.size))
  have K1 := Hid.of (K0.out.below hb1 K0.out.lt)
  have R1 := Hid.of (R0.out.below hb1 R0.out.lt)
  clear hb1 B0 K0 R0
  obtain ⟨r0, r1, r2, r3, r4⟩ := zcell_at R1.out
  have rz := R1.out.frozen
  have RR : Hid (Blk _ (w.heap.size + 1) 25 (mcells m0 ml0)) := R1.out.set5 (.int .i64 0) (.int .i64 0) (.slice none 0 0) (.slice none 0 0) (.slice none 0 0)
  cases hm : mayB m with
  | false =>
    clear hbad hm
    go_wp2
    refine bodyPost_ret (v := .tuple #[mval m0 ml0, .int .i64 2]) ?_ rfl ?_
    · exact results_twoM (p := 4) (u := 5) rfl _ _ (w.heap.size + 1) m0 ml0 _ rfl rfl RR.out
    · exact ⟨rfl, below_set5 B1.out (b' := w.heap.size + 1) (by omega) _ _ _ _ _⟩
  | true =>
    have hr : rowB m.ev seen = false := by
      rcases hbad.out with h | h
      · rw [hm] at h; cases h
      · exact h
    have x1 : V.cell? ⟨w.heap.size, 1, none⟩ = some (.int .i64 m.ev) := K1.out.cell 1 rfl
    clear hbad hm
    go_wp2_with fail
    refine (rowIs_any sa sc seen m.ev _ (hs.out.below B1.out (Nat.le_refl _)) hsl.out).mono ?_
    rintro e V' ⟨rfl, rfl⟩
    rw [hr]
    clear hr
    go_wp2
    refine bodyPost_ret (v := .tuple #[mval m0 ml0, .int .i64 2]) ?_ rfl ?_
    · exact results_twoM (p := 4) (u := 5) rfl _ _ (w.heap.size + 1) m0 ml0 _ rfl rfl RR.out
    · exact ⟨rfl, below_set5 B1.out (b' := w.heap.size + 1) (by omega) _ _ _ _ _⟩

theorem still_bd {m : Mach} (hm : mayB m = true) (seen : List Int) {N : Nat} (hN : m.st = (N : Int)) {p : Nat} (hp : p < N) : ∀ n ∈ allS (stillT seen N m.arrows p), n < N := fun n hn => by
  have := rch_bd (n := (N : Int)) (fun x hx => by have : x = (p : Int) := by simpa using hx
                                                  omega) (fun a ha => by have := may_arrs hm a ((mem_unseen _ _ _).1 ha).1
                                                                         rw [hN] at this; exact ⟨this.2.2.1, this.2.2.2.1⟩) ((has_still hm seen hN hp).1 ((mem_allS _ _).1 hn).2)
  omega
theorem fr_low {α : Type} {B B' : Nat} {a : Option Addr} {xs : List α} (h : xs = [] ∨ ∃ b off, a = some ⟨b, off, none⟩ ∧ B ≤ b) (hB : B' ≤ B) : xs = [] ∨ ∃ b off, a = some ⟨b, off, none⟩ ∧ B' ≤ b := by
  rcases h with h | ⟨b, off, h, h'⟩
  · exact .inl h
  · exact .inr ⟨b, off, h, Nat.le_trans hB h'⟩
/-- What Hide knows of the memory behind lay. -/
structure HIB (w W : World) (m : Mach) (l : ML) (pg N : Nat) (T : Nat → Nat → Nat) (va : Option Addr) (A : List Arr) : Prop where
  bel : Below w.heap.size w W
  kb : Blk W w.heap.size 25 (mcells m l)
  rb : Blk W (w.heap.size + 1) 25 zcells
  tb : TB W pg N T
  ar : AtA W va A
  tab : Tab W
theorem HIB.below {w W W' : World} {m : Mach} {l : ML} {pg N : Nat} {T : Nat → Nat → Nat} {va : Option Addr} {A : List Arr} (h : HIB w W m l pg N T va A) (hb : Below W.heap.size W W') : HIB w W' m l pg N T va A :=
  ⟨h.bel.trans (hb.mono h.bel.size), h.kb.below hb h.kb.lt, h.rb.below hb h.rb.lt, h.tb.below hb h.tb.lt, h.ar.below hb (Nat.le_refl _), h.tab.below hb h.tab.lt⟩
theorem HIB.cells {w W : World} {m : Mach} {l : ML} {pg N : Nat} {T : Nat → Nat → Nat} {va : Option Addr} {A : List Arr} (h : HIB w W m l pg N T va A) : W.cell? ⟨w.heap.size, 0, none⟩ = some (.int .i64 m.st) ∧ W.cell? ⟨w.heap.size, 2, none⟩ = some (.slice l.a1 m.starts.length l.c1) ∧ W.cell? ⟨w.heap.size, 4, none⟩ = some (.slice l.a3 m.ends.length l.c3) :=
  ⟨h.kb.cell 0 rfl, h.kb.cell 2 rfl, h.kb.cell 4 rfl⟩

set_option maxRecDepth 100000 in
set_option maxHeartbeats 8000000 in
theorem hide_ok (st : Nat) (ev : Int) (starts : List Int) (ars : List Arr) (ends : List Int) (a1 : Option Addr) (c1 : Nat) (a2 : Option Addr) (c2 : Nat) (a3 : Option Addr) (c3 : Nat) (sa : Option Addr) (sc : Nat) (seen : List Int) (w : World) (h : Hid (MAt w ⟨(st : Int), ev, starts, ars, ends⟩ ⟨a1, c1, a2, c2, a3, c3⟩)) (hs : Hid (At w sa seen)) (hsl : Hid (seen.length ≤ maxLen)) (hm : Hid (mayB ⟨(st : Int), ev, starts, ars, ends⟩ = true)) (hr : Hid (rowB ev seen = true)) (hT : Hid (Tab w)) :
    Calls Tryd.prog 25 #[mval ⟨(st : Int), ev, starts, ars, ends⟩ ⟨a1, c1, a2, c2, a3, c3⟩, .slice sa seen.length sc] w fun e w' => if (hAll ⟨(st : Int), ev, starts, ars, ends⟩ seen st).length ≤ 4096 then ∃ L, e = .returned (.tuple #[mval (hideM ⟨(st : Int), ev, starts, ars, ends⟩ seen) L, .int .i64 0]) ∧ MAt w' (hideM ⟨(st : Int), ev, starts, ars, ends⟩ seen) L ∧ Below w.heap.size w w' else HErr 1 w e w' := by
  have hsz := mayB_size hm.out
  unfold sizeOk at hsz
  dsimp only at hsz
  have hst : st ≤ 256 := by omega
  have hlen : ars.length ≤ 4096 := by omega
  have hK8 : seen.length ≤ 8 := by have := row_short (by omega) (by omega) hr.out; omega
  have hin : Hid (∀ a ∈ ars, (0 ≤ a.f ∧ a.f < (st : Int)) ∧ 0 ≤ a.t ∧ a.t < (st : Int)) := fun a ha => by
    have := may_arrs hm.out a ha
    exact ⟨⟨this.1, this.2.1⟩, this.2.2.1, this.2.2.2.1⟩
  have hbd : Hid (∀ p, p < st → ∀ n ∈ allS ((stillT seen st ars) p), n < st) := fun p hp => still_bd hm.out seen rfl hp
  have hinc : Hid (Inc seen) := ((rowB_iff _ (by omega) _).1 hr.out).1
  have HALL : Hid (layA seen st ars seen.length st 0 = hAll ⟨(st : Int), ev, starts, ars, ends⟩ seen st) := layA_all (m := ⟨(st : Int), ev, starts, ars, ends⟩) hm.out hr.out rfl
  clear hsz
  have B0 : Hid (Below w.heap.size w ((w.alloc (.cells (mcells ⟨(st : Int), ev, starts, ars, ends⟩ ⟨a1, c1, a2, c2, a3, c3⟩) 25)).alloc (.cells zcells 25))) := ((Below.refl _ _).alloc (Nat.le_refl _) _).alloc (by simp) _
  have K0 : Hid (Blk ((w.alloc (.cells (mcells ⟨(st : Int), ev, starts, ars, ends⟩ ⟨a1, c1, a2, c2, a3, c3⟩) 25)).alloc (.cells zcells 25)) w.heap.size 25 (mcells ⟨(st : Int), ev, starts, ars, ends⟩ ⟨a1, c1, a2, c2, a3, c3⟩)) := (Blk.new w _ _).alloc _
  have R0 : Hid (Blk ((w.alloc (.cells (mcells ⟨(st : Int), ev, starts, ars, ends⟩ ⟨a1, c1, a2, c2, a3, c3⟩) 25)).alloc (.cells zcells 25)) (w.heap.size + 1) 25 zcells) := by
    have := Blk.new (w.alloc (.cells (mcells ⟨(st : Int), ev, starts, ars, ends⟩ ⟨a1, c1, a2, c2, a3, c3⟩) 25)) 25 zcells
    rwa [World.size_alloc] at this
  go_enter Tryd.func25, Tryd.ntmps25
  go_wp2_with fail
  revert B0 K0 R0
  generalize (w.alloc (.cells (mcells ⟨(st : Int), ev, starts, ars, ends⟩ ⟨a1, c1, a2, c2, a3, c3⟩) 25)).alloc (.cells zcells 25) = V0
  intro B0 K0 R0
  refine (pMay_any ⟨(st : Int), ev, starts, ars, ends⟩ ⟨a1, c1, a2, c2, a3, c3⟩ _ (h.out.below B0.out (Nat.le_refl _))).mono ?_
  rintro e V ⟨rfl, hb1⟩
  have B1 := Hid.of (B0.out.trans (hb1.mono B0.out.size))
  have K1 := Hid.of (K0.out.below hb1 K0.out.lt)
  have R1 := Hid.of (R0.out.below hb1 R0.out.lt)
  clear hb1 B0 K0 R0
  rw [hm.out]
  obtain ⟨x0, x1, x2, x3, x4⟩ := mcell_at K1.out
  go_wp2_with fail
  refine (rowIs_any sa sc seen ev _ (hs.out.below B1.out (Nat.le_refl _)) hsl.out).mono ?_
  rintro e V ⟨rfl, rfl⟩
  rw [hr.out]
  go_wp2_with fail
  refine (quiet_any st ev starts ars ends a1 c1 a2 c2 a3 c3 sa sc seen V hst hlen (Hid.of ((h.out.a).below B1.out (Nat.le_refl _))) hin (Hid.of (hs.out.below B1.out (Nat.le_refl _))) hsl).mono ?_
  rintro e w2 ⟨rfl, tb2, hb2⟩
  have B2 := Hid.of (B1.out.trans (hb2.mono B1.out.size))
  have K2 := Hid.of (K1.out.below hb2 K1.out.lt)
  have R2 := Hid.of (R1.out.below hb2 R1.out.lt)
  have T2' := Hid.of tb2
  clear tb2 hb2 x0 x1 x2 x3 x4 B1 K1 R1
  obtain ⟨x0, x1, x2, x3, x4⟩ := mcell_at K2.out
  go_wp2_with fail
  refine (loud_any st ev starts ars ends a1 c1 a2 c2 a3 c3 sa sc seen (V.heap.size + 1) (stillT seen st ars) w2 hst hlen (Hid.of ((h.out.a).below B2.out (Nat.le_refl _))) hin (Hid.of (hs.out.below B2.out (Nat.le_refl _))) hK8 hinc T2' (Hid.of (okS_still seen st ars))).mono ?_
  rintro e w3 ⟨rfl, tt3, hb3⟩
  have B3 := Hid.of (B2.out.trans (hb3.mono B2.out.size))
  have K3 := Hid.of (K2.out.below hb3 K2.out.lt)
  have R3 := Hid.of (R2.out.below hb3 R2.out.lt)
  have T3 := Hid.of (T2'.out.below hb3 T2'.out.lt)
  have TT3 := Hid.of tt3
  clear tt3 hb3 x0 x1 x2 x3 x4 B2 K2 R2 T2'
  go_wp2_with fail
  refine (lay_any seen st ars seen.length hst hK8 (V.heap.size + 1) (w2.heap.size + 1) w3 (hT.out.below B3.out hT.out.lt) T3.out TT3.out hbd.out).mono ?_
  rintro e w4 ⟨hb4, hlay⟩
  rw [HALL.out] at hlay
  have B4 := Hid.of (B3.out.trans (hb4.mono B3.out.size))
  have K4 := Hid.of (K3.out.below hb4 K3.out.lt)
  have R4 := Hid.of (R3.out.below hb4 R3.out.lt)
  have T4 := Hid.of (T3.out.below hb4 T3.out.lt)
  have R3' : Hid (w.heap.size + 1 < w3.heap.size) := R3.out.lt
  clear hb4 B3 K3 R3 T3 TT3
  rcases hlay with ⟨hfit, v, rfl, hov⟩ | ⟨hfit, rfl⟩
  · have HFIT := Hid.of hfit
    obtain ⟨va, vc, rfl, va1, va2, va3, va4⟩ := hov.at
    have hst1 := Hid.of h.out.s
    have hst2 : Hid (starts.length ≤ maxLen) := Nat.le_trans h.out.s1 h.out.s2
    have hst3 : Hid (∀ x ∈ starts, 0 ≤ x ∧ x < 256) := fun x hx => by have := (may_starts hm.out).2 x hx; dsimp only at this; omega
    have hen1 := Hid.of h.out.e
    have hen2 : Hid (ends.length ≤ maxLen) := Nat.le_trans h.out.e1 h.out.e2
    have hen3 : Hid (∀ x ∈ ends, 0 ≤ x ∧ x < 256) := fun x hx => by have := (may_ends hm.out).2 x hx; dsimp only at this; omega
    have rp1 : Rep (ofS starts) starts := by
      have := rep_of hst3.out starts.length
      rwa [List.take_of_length_le (Nat.le_refl _)] at this
    have rp2 : Rep (ofS ends) ends := by
      have := rep_of hen3.out ends.length
      rwa [List.take_of_length_le (Nat.le_refl _)] at this
    have hok1 := Hid.of rp1.ok
    have hok3 := Hid.of rp2.ok
    have hok2 : Hid (okS (toF (stillT seen st ars) (allS (ofS starts)))) := ok_toF (okS_still seen st ars) _
    have hall : Hid (∀ k ∈ allS (ofS starts), k < st) := fun k hk => by
      obtain ⟨k1, k2⟩ := (mem_allS _ _).1 hk
      have := (may_starts hm.out).2 _ ((rp1.mem k k1).1 k2)
      dsimp only at this; omega
    have HSS : Hid (rowS (toF (stillT seen st ars) (allS (ofS starts))) = wideL ars seen starts) := startS_eq (m := ⟨(st : Int), ev, starts, ars, ends⟩) hm.out seen rfl
    have HEE : Hid (rowS (ofS ends) = ends) := rep_row rp2 (may_ends hm.out).1
    have hne : w.heap.size ≠ w.heap.size + 1 := by omega
    have HB0 : HIB w w4.drew ⟨(st : Int), ev, starts, ars, ends⟩ ⟨a1, c1, a2, c2, a3, c3⟩ (V.heap.size + 1) st (stillT seen st ars) va (hAll ⟨(st : Int), ev, starts, ars, ends⟩ seen st) := ⟨B4.out.drew, K4.out, R4.out, T4.out, va1, hT.out.below B4.out.drew hT.out.lt⟩
    have vf := fr_low (B' := w.heap.size + 2) hov.fr R3'.out
    clear rp1 rp2 hov va1
    go_wp2
    refine wp_region_held_drew (S := fun w' => w'.cell? ⟨w.heap.size, 0, none⟩ = some (.int .i64 st) ∧ w'.cell? ⟨w.heap.size, 2, none⟩ = some (.slice a1 starts.length c1) ∧ w'.cell? ⟨w.heap.size, 4, none⟩ = some (.slice a3 ends.length c3)) (by kernel_rfl) HB0.cells (fun hS0 => ?_)
    refine wpAnyH_take (i := 0) (v := .pointer (some ⟨w.heap.size, 0, none⟩)) rfl (by kernel_rfl) (by kernel_rfl) (by kernel_rfl) (fun _ _ _ h => h) (Or.inl ⟨by kernel_rfl, fun w' hw' => by obtain ⟨q0, q1, q2⟩ := hw'; go_simp⟩) hS0 ?_
    refine wpAnyH_take (i := 1) (v := .int .i64 st) rfl (by kernel_rfl) (by kernel_rfl) (by kernel_rfl) (fun _ _ _ h => h) (Or.inl ⟨by kernel_rfl, fun w' hw' => by obtain ⟨q0, q1, q2⟩ := hw'; go_simp⟩) hS0 ?_
    refine wpAnyH_take (i := 2) (v := .slice sa seen.length sc) rfl (by kernel_rfl) (by kernel_rfl) (by kernel_rfl) (fun _ _ _ h => h) (Or.inl ⟨by kernel_rfl, fun w' hw' => by obtain ⟨q0, q1, q2⟩ := hw'; go_simp⟩) hS0 ?_
    refine wpAnyH_take (i := 3) (v := .int .i64 seen.length) rfl (by kernel_rfl) (by kernel_rfl) (by kernel_rfl) (fun _ _ _ h => h) (Or.inl ⟨by kernel_rfl, fun w' hw' => by obtain ⟨q0, q1, q2⟩ := hw'; go_simp⟩) hS0 ?_
    refine wpAnyH_take (i := 4) (v := .pointer (some ⟨w.heap.size, 2, none⟩)) rfl (by kernel_rfl) (by kernel_rfl) (by kernel_rfl) (fun _ _ _ h => h) (Or.inl ⟨by kernel_rfl, fun w' hw' => by obtain ⟨q0, q1, q2⟩ := hw'; go_simp⟩) hS0 ?_
    refine wpAnyH_take (i := 5) (v := .slice a1 starts.length c1) rfl (by kernel_rfl) (by kernel_rfl) (by kernel_rfl) (fun _ _ _ h => h) (Or.inl ⟨by kernel_rfl, fun w' hw' => by obtain ⟨q0, q1, q2⟩ := hw'; go_simp⟩) hS0 ?_
    refine wpAnyH_take (i := 7) (v := .slice (some ⟨V.heap.size + 1, 0, none⟩) st st) rfl (by kernel_rfl) (by kernel_rfl) (by kernel_rfl) (fun _ _ _ h => h) (Or.inl ⟨by kernel_rfl, fun w' hw' => by obtain ⟨q0, q1, q2⟩ := hw'; go_simp⟩) hS0 ?_
    refine wpAnyH_take (i := 10) (v := .slice va (hAll ⟨(st : Int), ev, starts, ars, ends⟩ seen st).length vc) rfl (by kernel_rfl) (by kernel_rfl) (by kernel_rfl) (fun _ _ _ h => h) (Or.inl ⟨by kernel_rfl, fun w' hw' => by obtain ⟨q0, q1, q2⟩ := hw'; go_simp⟩) hS0 ?_
    refine wpAnyH_take (i := 11) (v := .pointer (some ⟨w.heap.size, 4, none⟩)) rfl (by kernel_rfl) (by kernel_rfl) (by kernel_rfl) (fun _ _ _ h => h) (Or.inl ⟨by kernel_rfl, fun w' hw' => by obtain ⟨q0, q1, q2⟩ := hw'; go_simp⟩) hS0 ?_
    refine wpAnyH_take (i := 12) (v := .slice a3 ends.length c3) rfl (by kernel_rfl) (by kernel_rfl) (by kernel_rfl) (fun _ _ _ h => h) (Or.inl ⟨by kernel_rfl, fun w' hw' => by obtain ⟨q0, q1, q2⟩ := hw'; go_simp⟩) hS0 ?_
    simp only [Act.put, List.setIfInBounds_toArray]
    refine wpAnyH_ready (rs := [6]) (by kernel_rfl) (by simp) ?_
    refine AllReadyH.cons rfl (fun K' hK' => ?_) AllReadyH.nil
    · go_simp
      refine (of_any a1 c1 starts _ (hst1.out.below HB0.bel (Nat.le_refl _)) hst2.out hst3.out).mono ?_
      rintro e X1 ⟨rfl, hb1⟩
      have HB1 := HB0.below hb1
      refine hK'.out _ _ HB1.cells (fun hS1 => ?_)
      clear hK' K' hb1
      refine wpAnyH_ready (rs := [8]) (by kernel_rfl) (by simp) ?_
      refine AllReadyH.cons rfl (fun K' hK' => ?_) AllReadyH.nil
      · go_simp
        refine (union_any (ofS starts) hok1.out st (stillT seen st ars) (okS_still seen st ars) hall.out hst (V.heap.size + 1) _ HB1.tab HB1.tb).mono ?_
        rintro e X2 ⟨rfl, hb2⟩
        have HB2 := HB1.below hb2
        refine hK'.out _ _ HB2.cells (fun hS2 => ?_)
        clear hK' K' hb2
        refine wpAnyH_ready (rs := [9]) (by kernel_rfl) (by simp) ?_
        refine AllReadyH.cons rfl (fun K' hK' => ?_) AllReadyH.nil
        · go_simp
          refine (rowO_any (toF (stillT seen st ars) (allS (ofS starts))) _ hok2.out HB2.tab).mono ?_
          rintro e X3 ⟨sv, rfl, so, hb3⟩
          rw [HSS.out] at so
          obtain ⟨sx, sy, rfl, s1, s2, s3, s4⟩ := so.at2
          have sf := fr_low (B' := w.heap.size + 2) so.fr HB2.rb.lt
          have HB3 := HB2.below hb3
          refine hK'.out _ _ HB3.cells (fun hS3 => ?_)
          clear hK' K' hb3
          refine wpAnyH_ready (rs := [13]) (by kernel_rfl) (by simp) ?_
          refine AllReadyH.cons rfl (fun K' hK' => ?_) AllReadyH.nil
          · go_simp
            refine (of_any a3 c3 ends _ (hen1.out.below HB3.bel (Nat.le_refl _)) hen2.out hen3.out).mono ?_
            rintro e X4 ⟨rfl, hb4⟩
            have HB4 := HB3.below hb4
            replace s1 := s1.below hb4 (Nat.le_refl _)
            refine hK'.out _ _ HB4.cells (fun hS4 => ?_)
            clear hK' K' hb4
            refine wpAnyH_ready (rs := [14]) (by kernel_rfl) (by simp) ?_
            refine AllReadyH.cons rfl (fun K' hK' => ?_) AllReadyH.nil
            · go_simp
              refine (rowO_any (ofS ends) _ hok3.out HB4.tab).mono ?_
              rintro e X5 ⟨ev', rfl, eo, hb5⟩
              rw [HEE.out] at eo
              obtain ⟨ex, ey, rfl, e1, e2, e3, e4⟩ := eo.at2
              have ef := fr_low (B' := w.heap.size + 2) eo.fr HB4.rb.lt
              have HB5 := HB4.below hb5
              replace s1 := s1.below hb5 (Nat.le_refl _)
              refine hK'.out _ _ HB5.cells (fun hS5 => ?_)
              clear hK' K' hb5
              refine wpAnyH_take (i := 15) (v := .agg #[.int .i64 st, .int .i64 seen.length, .slice sx (wideL ars seen starts).length sy, .slice va (hAll ⟨(st : Int), ev, starts, ars, ends⟩ seen st).length vc, .slice ex ends.length ey]) rfl (by kernel_rfl) (by kernel_rfl) (by kernel_rfl) (fun _ _ _ h => h) (Or.inl ⟨by kernel_rfl, fun w' hw' => by obtain ⟨q0, q1, q2⟩ := hw'; go_simp⟩) hS5 ?_
              refine wpAnyH_ready (rs := [16]) (by kernel_rfl) (by simp) ?_
              refine AllReadyH.cons rfl (fun K' hK' => ?_) AllReadyH.nil
              obtain ⟨r0, r1, r2, r3, r4⟩ := zcell_at HB5.rb
              have rz := HB5.rb.frozen
              go_simp
              have KK := ((((HB5.kb.other hne (j := 0) (.int .i64 st)).other hne (j := 1) (.int .i64 seen.length)).other hne (j := 2) (.slice sx (wideL ars seen starts).length sy)).other hne (j := 3) (.slice va (hAll ⟨(st : Int), ev, starts, ars, ends⟩ seen st).length vc)).other hne (j := 4) (.slice ex ends.length ey)
              refine hK'.out _ _ ⟨KK.cell 0 rfl, KK.cell 2 rfl, KK.cell 4 rfl⟩ (fun hSZ => ?_)
              clear hK' K' r0 r1 r2 r3 r4 rz
              refine wpAnyH_take (i := 17) (v := .int .i64 0) rfl (by kernel_rfl) (by kernel_rfl) (by kernel_rfl) (fun _ _ _ h => h) (Or.inl ⟨by kernel_rfl, fun w' hw' => by obtain ⟨q0, q1, q2⟩ := hw'; go_simp⟩) hSZ ?_
              refine wpAnyH_done (by kernel_rfl) ?_ _
              have RR : Hid (Blk _ (w.heap.size + 1) 25 (mcells (hideM ⟨(st : Int), ev, starts, ars, ends⟩ seen) ⟨sx, sy, va, vc, ex, ey⟩)) := HB5.rb.set5 (.int .i64 st) (.int .i64 seen.length) (.slice sx (wideL ars seen starts).length sy) (.slice va (hAll ⟨(st : Int), ev, starts, ars, ends⟩ seen st).length vc) (.slice ex ends.length ey)
              have BF := Hid.of (below_set5 HB5.bel (b' := w.heap.size + 1) (by omega) (.int .i64 st) (.int .i64 seen.length) (.slice sx (wideL ars seen starts).length sy) (.slice va (hAll ⟨(st : Int), ev, starts, ars, ends⟩ seen st).length vc) (.slice ex ends.length ey))
              have MX : MAt X5 (hideM ⟨(st : Int), ev, starts, ars, ends⟩ seen) ⟨sx, sy, va, vc, ex, ey⟩ := ⟨s1, HB5.ar, e1, s2, s3, s4, va2, va3, va4, e2, e3, e4⟩
              have FX : FrM (w.heap.size + 2) (hideM ⟨(st : Int), ev, starts, ars, ends⟩ seen) ⟨sx, sy, va, vc, ex, ey⟩ := ⟨sf, vf, ef⟩
              have MF := Hid.of (MX.set5 (b := w.heap.size + 1) FX (by omega) (.int .i64 st) (.int .i64 seen.length) (.slice sx (wideL ars seen starts).length sy) (.slice va (hAll ⟨(st : Int), ev, starts, ars, ends⟩ seen st).length vc) (.slice ex ends.length ey))
              clear MX FX
              clear KK hSZ
              go_wp2
              refine bodyPost_ret (v := .tuple #[mval (hideM ⟨(st : Int), ev, starts, ars, ends⟩ seen) ⟨sx, sy, va, vc, ex, ey⟩, .int .i64 0]) ?_ rfl ?_
              · exact results_twoM (p := 4) (u := 5) rfl _ _ (w.heap.size + 1) (hideM ⟨(st : Int), ev, starts, ars, ends⟩ seen) ⟨sx, sy, va, vc, ex, ey⟩ _ rfl rfl RR.out
              · first | exact ⟨_, rfl, MF.out, BF.out⟩ | (rw [if_pos HFIT.out]; exact ⟨_, rfl, MF.out, BF.out⟩)
  · have HFIT := Hid.of hfit
    obtain ⟨r0, r1, r2, r3, r4⟩ := zcell_at R4.out
    have rz := R4.out.frozen
    have RR : Hid (Blk _ (w.heap.size + 1) 25 (mcells m0 ml0)) := R4.out.set5 (.int .i64 0) (.int .i64 0) (.slice none 0 0) (.slice none 0 0) (.slice none 0 0)
    go_wp2
    refine bodyPost_ret (v := .tuple #[mval m0 ml0, .int .i64 1]) ?_ rfl ?_
    · exact results_twoM (p := 4) (u := 5) rfl _ _ (w.heap.size + 1) m0 ml0 _ rfl rfl RR.out
    · exact ⟨rfl, below_set5 B4.out (b' := w.heap.size + 1) (by omega) _ _ _ _ _⟩

end Go.Proofs.YtdhgabpoaicjoaaDoor
namespace Go.Proofs.YtdhgabpoaicjoaaDoor
open Go.RowKit
set_option linter.unusedVariables false

theorem pHide_any (m : Mach) (l : ML) (sa : Option Addr) (sc : Nat) (seen : List Int) (w : World) (h : MAt w m l) (hs : At w sa seen) (hsl : seen.length ≤ maxLen) (hT : Tab w) :
    Calls Tryd.prog 25 #[mval m l, .slice sa seen.length sc] w fun e w' => HidePost w m seen e w' := by
  by_cases hbad : mayB m = false ∨ rowB m.ev seen = false
  · refine (hide_err m l sa sc seen w (Hid.of h) (Hid.of hs) (Hid.of hsl) (Hid.of hbad)).mono fun e w' h => ?_
    unfold HidePost; rw [if_pos hbad]; exact h
  · have hm : mayB m = true := by cases e : mayB m with
      | true => rfl
      | false => exact absurd (.inl e) hbad
    have hr : rowB m.ev seen = true := by cases e : rowB m.ev seen with
      | true => rfl
      | false => exact absurd (.inr e) hbad
    obtain ⟨mst, ev, starts, ars, ends⟩ := m
    obtain ⟨a1, c1, a2, c2, a3, c3⟩ := l
    obtain ⟨st, rfl⟩ : ∃ st : Nat, mst = (st : Int) := by
      have := mayB_size hm
      unfold sizeOk at this
      exact ⟨mst.toNat, by dsimp only at this; omega⟩
    refine (hide_ok st ev starts ars ends a1 c1 a2 c2 a3 c3 sa sc seen w (Hid.of h) (Hid.of hs) (Hid.of hsl) (Hid.of hm) (Hid.of hr) (Hid.of hT)).mono fun e w' h => ?_
    unfold HidePost; rw [if_neg hbad]; exact h

end Go.Proofs.YtdhgabpoaicjoaaDoor
namespace Go.Proofs.YtdhgabpoaicjoaaDoor
open Go.RowKit
set_option linter.unusedVariables false

theorem wide_len {m : Mach} (hm : mayB m = true) {seen ss : List Int} (hs : ∀ x ∈ ss, 0 ≤ x ∧ x < m.st) : (wideL m.arrows seen ss).length ≤ 256 := by
  have h2 := mayB_size hm
  unfold sizeOk at h2
  refine nodup_len 256 _ (inc_nodup (inc_wide _ _ _)) (fun x hx => ?_)
  have := wide_bd hm hs x hx
  omega
theorem hRow_len {m : Mach} (hm : mayB m = true) (seen : List Int) (f k : Nat) : (hRow m seen f k).length ≤ 256 := by
  unfold hRow; rw [List.length_map]; exact wide_len hm (step_bd hm)
theorem hFrom_succ (m : Mach) (seen : List Int) (f k : Nat) : hFrom m seen f (k + 1) = hFrom m seen f k ++ hRow m seen f k := by
  unfold hFrom; rw [List.range_succ, List.flatMap_append]; simp
theorem hAll_succ (m : Mach) (seen : List Int) (f : Nat) : hAll m seen (f + 1) = hAll m seen f ++ hFrom m seen f seen.length := by
  unfold hAll; rw [List.range_succ, List.flatMap_append]; simp
theorem hFrom_len {m : Mach} (hm : mayB m = true) (seen : List Int) (f : Nat) : ∀ k, (hFrom m seen f k).length ≤ k * 256
  | 0 => by simp [hFrom]
  | k + 1 => by
    rw [hFrom_succ, List.length_append]
    have := hFrom_len hm seen f k
    have := hRow_len hm seen f k
    omega
theorem hAll_len {m : Mach} (hm : mayB m = true) (seen : List Int) (h8 : seen.length ≤ 8) : ∀ f, (hAll m seen f).length ≤ f * 2048
  | 0 => by simp [hAll]
  | f + 1 => by
    rw [hAll_succ, List.length_append]
    have := hAll_len hm seen h8 f
    have := hFrom_len hm seen f seen.length
    omega

/-- The cells of the machine that is being made. -/
abbrev ncells (st : Int) (K : Nat) (vs va : Value) (a3 : Option Addr) (n c3 : Nat) : Array Value := #[.int .i64 st, .int .i64 K, vs, va, .slice a3 n c3]
/-- What Hide knows of the memory. -/
structure HN (w W : World) (B bm : Nat) (m : Mach) (l : ML) (K : Nat) (vs va : Value) (S : List Int) (A : List Arr) : Prop where
  bel : Below w.heap.size w W
  kb : Blk W w.heap.size 25 (mcells m l)
  rb : Blk W (w.heap.size + 1) 25 zcells
  nb : Blk W bm 25 (ncells m.st K vs va l.a3 m.ends.length l.c3)
  st : Own W B vs S
  ar : OwnA W B va A
  lo : w.heap.size + 1 < bm
  lB : bm < B
  hB : B ≤ W.heap.size
section
variable {w W : World} {B bm : Nat} {m : Mach} {l : ML} {K : Nat} {vs va : Value} {S : List Int} {A : List Arr}
theorem Own.keep {w w' : World} {B B' : Nat} {v : Value} {L : List Int} (h : Own w B v L) (hb : Below B' w w') (hB : w.heap.size ≤ B') : Own w' B v L :=
  own_same h (fun k hk => hb.block k (Nat.lt_of_lt_of_le (World.ownsRow.lt h k hk).2 hB))
theorem HN.below {W' : World} (h : HN w W B bm m l K vs va S A) (hb : Below W.heap.size W W') : HN w W' B bm m l K vs va S A :=
  ⟨h.bel.trans (hb.mono h.bel.size), h.kb.below hb h.kb.lt, h.rb.below hb h.rb.lt, h.nb.below hb h.nb.lt, h.st.keep hb (Nat.le_refl _), h.ar.kept hb (Nat.le_refl _), h.lo, h.lB, Nat.le_trans h.hB hb.size⟩
theorem HN.push {W2 W3 : World} {va' : Value} {x : Arr} (h : HN w W B bm m l K vs va S A) (hW3 : Below W.heap.size W W3) (o1 : OwnA W2 B va' (A ++ [x])) (g : W3.grownBy W2 va.ownBlock) :
    Blk W2 bm 25 (ncells m.st K vs va l.a3 m.ends.length l.c3) ∧ HN w (W2.setCell ⟨bm, 3, none⟩ va') B bm m l K vs va' S (A ++ [x]) ∧ ∀ vl L, Own W B vl L → Own (W2.setCell ⟨bm, 3, none⟩ va') B vl L := by
  have h3 := h.below hW3
  have lo := h.lo
  have lB := h.lB
  have low : ∀ j, j < B → W2.heap[j]? = W3.heap[j]? := fun j hj => g.block j (Nat.lt_of_lt_of_le hj h3.hB) (fun e => by have := (World.ownsRow.lt h3.ar j e.symm).1; omega)
  have nb2 : Blk W2 bm 25 (ncells m.st K vs va l.a3 m.ends.length l.c3) := (low bm lB).trans h3.nb
  have ints : ∀ vl L, Own W B vl L → Own (W2.setCell ⟨bm, 3, none⟩ va') B vl L := fun vl L hl => by
    have hl3 := hl.keep hW3 (Nat.le_refl _)
    refine own_same hl3 (fun k hk => ?_)
    have hk1 := World.ownsRow.lt hl3 k hk
    rw [Below.heap_setCell _ _ _ _ (show k ≠ bm by omega), g.block k hk1.2 (fun e => ?_)]
    rcases own_apart h3.ar hl3 (by decide) with r | r
    · rw [r] at e; cases e
    · exact r (e.symm.trans hk.symm)
  refine ⟨nb2, ⟨?_, ?_, ?_, nb2.set 3 va', ints vs S h.st, ownsRow_set o1 lB va', lo, lB, ?_⟩, ints⟩
  · exact (h3.bel.grown g h3.bel.size (fun j hj => Nat.le_trans (by omega) (World.ownsRow.lt h3.ar j hj).1)).setCell (p := ⟨bm, 3, none⟩) (show w.heap.size ≤ bm by omega) _
  · exact Blk.other ((low _ (by omega)).trans h3.kb) (by omega) _
  · exact Blk.other ((low _ (by omega)).trans h3.rb) (by omega) _
  · have := g.size
    have := h3.hB
    simp [World.setCell]; omega
theorem HN.mcells (h : HN w W B bm m l K vs va S A) : W.cell? ⟨w.heap.size, 0, none⟩ = some (.int .i64 m.st) ∧ W.cell? ⟨w.heap.size, 1, none⟩ = some (.int .i64 m.ev) ∧ W.cell? ⟨w.heap.size, 2, none⟩ = some (.slice l.a1 m.starts.length l.c1) ∧ W.cell? ⟨w.heap.size, 3, none⟩ = some (.slice l.a2 m.arrows.length l.c2) ∧ W.cell? ⟨w.heap.size, 4, none⟩ = some (.slice l.a3 m.ends.length l.c3) :=
  ⟨h.kb.cell 0 rfl, h.kb.cell 1 rfl, h.kb.cell 2 rfl, h.kb.cell 3 rfl, h.kb.cell 4 rfl⟩
end

end Go.Proofs.YtdhgabpoaicjoaaDoor
