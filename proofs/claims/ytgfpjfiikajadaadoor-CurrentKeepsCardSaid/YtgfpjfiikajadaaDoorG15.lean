/-
  The walk of row.Is: it answers 'rowB n xs'.
  The walk of machine.May: it answers 'mayB'.
  The walk of current.May.
  The walk of machine.Of: a set of a list's numbers.
  The walks of math/bits.TrailingZeros64 (where its table lies as laid), of Set.All and of the iterator that it answers.
-/
import Derived.Test.YtgfpjfiikajadaaDoorG03
import Derived.Deep.QuietTactic
import Derived.BigQuiet
import Derived.Test.YtgfpjfiikajadaaDoorCArrMay
import Derived.Test.YtgfpjfiikajadaaDoorG07
import Derived.Test.YtgfpjfiikajadaaDoorCSetOps
import Derived.Shelf.Spec.TrailingZeros
import Derived.RangeFuncNested
import Derived.RangeFuncBound
import Derived.RangeFuncCalls
import Derived.RangeFuncLeaves
import Derived.Shelf.Abstract
import Derived.Shelf.RegionOpen
import Derived.OwnWalkIn
import Derived.TacticsInMore
import Derived.LoopNIn
import Derived.LoopIn
import Derived.Maps.AppendAt
namespace Go.Proofs.YtgfpjfiikajadaaDoor
open Go.RowKit

theorem rowB_start1 {n : Int} (h : n ≤ 2147483648) (xs : List Int) : rowB n xs = goIs (-1) n xs := by unfold rowB; rw [show min n 2147483648 = n by omega]
theorem rowB_start2 {n : Int} (h : 2147483648 < n) (xs : List Int) : rowB n xs = goIs (-1) 2147483648 xs := by unfold rowB; rw [show min n 2147483648 = 2147483648 by omega]

set_option maxHeartbeats 400000 in
theorem rowIs_some (b off cap : Nat) (xs : List Int) (n : Int) (w : World) (hl : xs.length ≤ 9223372036854775807) (hc : Cells w b off xs) :
    Calls Tryd.prog 44 #[.slice (some ⟨b, off, none⟩) xs.length cap, .int .i64 n] w fun e w' => e = .returned (.bool (rowB n xs)) ∧ w' = w := by
  by_cases hn : n ≤ 2147483648
  · have HS : Hid (rowB n xs = goIs (-1) n (xs.drop 0)) := rowB_start1 hn xs
    go_enter Tryd.func44, Tryd.ntmps44
    go_wp2
    go_loop [5, 12] (fun l i => ∃ (k : Nat) (last : Int), k ≤ xs.length ∧ i = .int .i64 k ∧ l = .int .i64 last ∧ Hid (rowB n xs = goIs last n (xs.drop k))) (fun _ i => xs.length - (intOf i).toNat)
    case atStart => exact ⟨0, -1, Nat.zero_le _, rfl, rfl, HS⟩
    case round =>
      obtain ⟨k, last, hk, rfl, rfl, he⟩ := hrel
      by_cases hlt : k < xs.length
      · obtain ⟨x, HX, hcell⟩ := hc.at hlt
        by_cases h1 : x ≤ last
        · go_wp2
          go_ret
          exact ⟨ret_bool (is_no hlt he HX (.inl h1)), rfl⟩
        · by_cases h2 : n ≤ x
          · go_wp2
            go_ret
            exact ⟨ret_bool (is_no hlt he HX (.inr h2)), rfl⟩
          · go_wp2
            go_round
            case rel => exact ⟨k + 1, x, by omega, by go_num, rfl, is_yes hlt he HX (by omega)⟩
            case measure => simp [intOf]; omega
      · go_wp2
        go_ret
        exact ⟨ret_bool (is_end hlt he), rfl⟩
  · have HS : Hid (rowB n xs = goIs (-1) 2147483648 (xs.drop 0)) := rowB_start2 (by omega) xs
    go_enter Tryd.func44, Tryd.ntmps44
    go_wp2
    go_loop [5, 12] (fun l i => ∃ (k : Nat) (last : Int), k ≤ xs.length ∧ i = .int .i64 k ∧ l = .int .i64 last ∧ Hid (rowB n xs = goIs last 2147483648 (xs.drop k))) (fun _ i => xs.length - (intOf i).toNat)
    case atStart => exact ⟨0, -1, Nat.zero_le _, rfl, rfl, HS⟩
    case round =>
      obtain ⟨k, last, hk, rfl, rfl, he⟩ := hrel
      by_cases hlt : k < xs.length
      · obtain ⟨x, HX, hcell⟩ := hc.at hlt
        by_cases h1 : x ≤ last
        · go_wp2
          go_ret
          exact ⟨ret_bool (is_no hlt he HX (.inl h1)), rfl⟩
        · by_cases h2 : 2147483648 ≤ x
          · go_wp2
            go_ret
            exact ⟨ret_bool (is_no hlt he HX (.inr h2)), rfl⟩
          · go_wp2
            go_round
            case rel => exact ⟨k + 1, x, by omega, by go_num, rfl, is_yes hlt he HX (by omega)⟩
            case measure => simp [intOf]; omega
      · go_wp2
        go_ret
        exact ⟨ret_bool (is_end hlt he), rfl⟩

set_option maxHeartbeats 400000 in
theorem rowIs_nil (a : Option Addr) (cap : Nat) (n : Int) (w : World) :
    Calls Tryd.prog 44 #[.slice a 0 cap, .int .i64 n] w fun e w' => e = .returned (.bool true) ∧ w' = w := by
  go_enter Tryd.func44, Tryd.ntmps44
  go_wp2
  all_goals
    refine wp_loop_rounds 1 ?_
    rw [rounds_succ]
    go_wp2
    go_ret
    exact ⟨rfl, rfl⟩

theorem rowIs_any (a : Option Addr) (cap : Nat) (xs : List Int) (n : Int) (w : World) (hs : At w a xs) (hl : xs.length ≤ maxLen) :
    Calls Tryd.prog 44 #[.slice a xs.length cap, .int .i64 n] w fun e w' => e = .returned (.bool (rowB n xs)) ∧ w' = w := by
  rcases hs with rfl | ⟨b, off, rfl, -, hc⟩
  · exact rowIs_nil a cap n w
  · exact rowIs_some b off cap xs n w hl hc

end Go.Proofs.YtgfpjfiikajadaaDoor
namespace Go.Proofs.YtgfpjfiikajadaaDoor
open Go.RowKit
set_option linter.unusedVariables false

theorem may_split (m : Mach) : mayB m = (decide (1 ≤ m.st) && (decide (m.st ≤ 256) && (decide (0 ≤ m.ev) && (decide (m.ev ≤ 8) && (rowB m.st m.starts && (rowB m.st m.ends && arrsB m)))))) := by
  unfold mayB arrsB sizeOk
  by_cases h1 : 1 ≤ m.st <;> by_cases h2 : m.st ≤ 256 <;> by_cases h3 : 0 ≤ m.ev <;> by_cases h4 : m.ev ≤ 8 <;> by_cases h5 : m.arrows.length ≤ 4096 <;> simp [h1, h2, h3, h4, h5]

theorem may_no1 {m : Mach} (h : decide (1 ≤ m.st) = false) : false = mayB m := by rw [may_split, h]; rfl
theorem may_no2 {m : Mach} (h : decide (m.st ≤ 256) = false) : false = mayB m := by rw [may_split, h]; simp
theorem may_no3 {m : Mach} (h : decide (0 ≤ m.ev) = false) : false = mayB m := by rw [may_split, h]; simp
theorem may_no4 {m : Mach} (h : decide (m.ev ≤ 8) = false) : false = mayB m := by rw [may_split, h]; simp
theorem may_no5 {m : Mach} (h : rowB m.st m.starts = false) : false = mayB m := by rw [may_split, h]; simp
theorem may_no6 {m : Mach} (h : rowB m.st m.ends = false) : false = mayB m := by rw [may_split, h]; simp
theorem may_yes {m : Mach} (h1 : decide (1 ≤ m.st) = true) (h2 : decide (m.st ≤ 256) = true) (h3 : decide (0 ≤ m.ev) = true) (h4 : decide (m.ev ≤ 8) = true) (h5 : rowB m.st m.starts = true) (h6 : rowB m.st m.ends = true) : arrsB m = mayB m := by
  rw [may_split, h1, h2, h3, h4, h5, h6]; simp

set_option maxRecDepth 100000 in
set_option maxHeartbeats 4000000 in
theorem pMay_any (m : Mach) (l : ML) (w : World) (h : MAt w m l) :
    Calls Tryd.prog 10 #[mval m l] w fun e w' => e = .returned (.bool (mayB m)) ∧ Below w.heap.size w w' := by
  have b0 : Below w.heap.size w (w.alloc (.cells (mcells m l) 25)) := (Below.refl _ _).alloc (Nat.le_refl _) _
  have h' := Hid.of (h.below b0 (Nat.le_refl _))
  have l1 : Hid (m.starts.length ≤ maxLen) := Nat.le_trans h.s1 h.s2
  have l3 : Hid (m.ends.length ≤ maxLen) := Nat.le_trans h.e1 h.e2
  have B0 := Hid.of b0
  clear b0
  by_cases e1 : 1 ≤ m.st
  · have d1 : decide (1 ≤ m.st) = true := by simpa using e1
    by_cases e2 : m.st ≤ 256
    · have d2 : decide (m.st ≤ 256) = true := by simpa using e2
      by_cases e3 : 0 ≤ m.ev
      · have d3 : decide (0 ≤ m.ev) = true := by simpa using e3
        by_cases e4 : m.ev ≤ 8
        · have d4 : decide (m.ev ≤ 8) = true := by simpa using e4
          cases e5 : rowB m.st m.starts with
          | true =>
            cases e6 : rowB m.st m.ends with
            | true =>
              go_enter Tryd.func10, Tryd.ntmps10
              go_wp2_with fail
              refine (rowIs_any l.a1 l.c1 m.starts m.st _ h'.out.s l1.out).mono ?_
              rintro e w1 ⟨rfl, rfl⟩
              rw [e5]
              go_wp2_with fail
              refine (rowIs_any l.a3 l.c3 m.ends m.st _ h'.out.e l3.out).mono ?_
              rintro e w1 ⟨rfl, rfl⟩
              rw [e6]
              go_wp2_with fail
              refine (arrowsMay_any m l _ h'.out).mono ?_
              rintro e w1 ⟨rfl, hb1⟩
              go_wp2
              go_ret
              exact ⟨ret_bool (may_yes d1 d2 d3 d4 e5 e6), B0.out.trans (hb1.mono B0.out.size)⟩
            | false =>
              go_enter Tryd.func10, Tryd.ntmps10
              go_wp2_with fail
              refine (rowIs_any l.a1 l.c1 m.starts m.st _ h'.out.s l1.out).mono ?_
              rintro e w1 ⟨rfl, rfl⟩
              rw [e5]
              go_wp2_with fail
              refine (rowIs_any l.a3 l.c3 m.ends m.st _ h'.out.e l3.out).mono ?_
              rintro e w1 ⟨rfl, rfl⟩
              rw [e6]
              go_wp2
              go_ret
              exact ⟨ret_bool (may_no6 e6), B0.out⟩
          | false =>
            go_enter Tryd.func10, Tryd.ntmps10
            go_wp2_with (go_at_call 44; refine (rowIs_any l.a1 l.c1 m.starts m.st _ h'.out.s l1.out).mono ?_; rintro e w1 ⟨rfl, rfl⟩)
            go_ret
            exact ⟨ret_bool (may_no5 e5), B0.out⟩
        · have d4 : decide (m.ev ≤ 8) = false := by simpa using e4
          go_enter Tryd.func10, Tryd.ntmps10
          go_wp2
          go_ret
          exact ⟨ret_bool (may_no4 d4), B0.out⟩
      · have d3 : decide (0 ≤ m.ev) = false := by simpa using e3
        go_enter Tryd.func10, Tryd.ntmps10
        go_wp2
        go_ret
        exact ⟨ret_bool (may_no3 d3), B0.out⟩
    · have d2 : decide (m.st ≤ 256) = false := by simpa using e2
      go_enter Tryd.func10, Tryd.ntmps10
      go_wp2
      go_ret
      exact ⟨ret_bool (may_no2 d2), B0.out⟩
  · have d1 : decide (1 ≤ m.st) = false := by simpa using e1
    go_enter Tryd.func10, Tryd.ntmps10
    go_wp2
    go_ret
    exact ⟨ret_bool (may_no1 d1), B0.out⟩

end Go.Proofs.YtgfpjfiikajadaaDoor
namespace Go.Proofs.YtgfpjfiikajadaaDoor
open Go.RowKit
set_option linter.unusedVariables false

set_option maxRecDepth 100000 in
set_option maxHeartbeats 4000000 in
theorem pCurMay_any (p : Plant) (P : PTL) (w : World) (h : PAt w p P) :
    Calls Tryd.prog 33 #[ptval p P] w fun e w' => e = .returned (.bool (mayP p)) ∧ Below w.heap.size w w' := by
  have B : Hid (Below w.heap.size w (w.alloc (.cells (ptcells p P) 50))) := (Below.refl _ _).alloc (Nat.le_refl _) _
  have KP : Hid (Blk (w.alloc (.cells (ptcells p P) 50)) w.heap.size 50 (ptcells p P)) := Blk.new w _ _
  have H := Hid.of h
  clear h
  go_enter Tryd.func33, Tryd.ntmps33
  obtain ⟨x0, x1, x2, x3, x4, x5, x6⟩ := ptcell_at KP.out
  go_wp2_with fail
  clear x0 x1 x2 x3 x4 x5 x6
  revert B KP
  generalize (w.alloc (.cells (ptcells p P) 50)) = V0
  intro B KP
  refine (pMay_any p.m P.l V0 (H.out.m.below B.out (Nat.le_refl _))).mono ?_
  rintro e W1 ⟨rfl, hb⟩
  replace B := Hid.of (B.out.trans (hb.mono B.out.size))
  replace KP := Hid.of (KP.out.below hb KP.out.lt)
  clear hb
  cases hm : mayB p.m with
  | false =>
    have HO : Hid (false = mayP p) := by show _ = _; unfold mayP; rw [hm]; rfl
    clear hm
    go_wp2_with fail
    go_ret
    exact ⟨ret_bool HO.out, B.out⟩
  | true =>
    have HM := Hid.of hm
    clear hm
    obtain ⟨x0, x1, x2, x3, x4, x5, x6⟩ := ptcell_at KP.out
    by_cases hs6 : p.m.st ≤ 6
    · have d1 : decide (p.m.st ≤ (6 : Int)) = true := by simpa using hs6
      have H6 := Hid.of hs6
      clear hs6
      go_wp2_with fail
      refine (rowIs_any P.sa P.sc p.seen p.m.ev W1 (H.out.s.at_.below B.out (Nat.le_refl _)) H.out.s.len).mono ?_
      rintro e W2 ⟨rfl, rfl⟩
      cases hr : rowB p.m.ev p.seen with
      | false =>
        have HO : Hid (false = mayP p) := by show _ = _; unfold mayP; rw [hr]; simp
        clear hr
        go_wp2_with fail
        go_ret
        exact ⟨ret_bool HO.out, B.out⟩
      | true =>
        have HO : Hid (rowB p.m.st p.secret = mayP p) := by show _ = _; unfold mayP; rw [HM.out, hr, decide_eq_true H6.out]; rfl
        clear hr
        go_wp2_with fail
        refine (rowIs_any P.ta P.tc p.secret p.m.st W2 (H.out.t.at_.below B.out (Nat.le_refl _)) H.out.t.len).mono ?_
        rintro e W3 ⟨rfl, rfl⟩
        go_wp2_with fail
        go_ret
        exact ⟨ret_bool HO.out, B.out⟩
    · have d1 : decide (p.m.st ≤ (6 : Int)) = false := by simpa using hs6
      have HO : Hid (false = mayP p) := by show _ = _; unfold mayP; rw [d1]; simp
      clear hs6
      go_wp2_with fail
      go_ret
      exact ⟨ret_bool HO.out, B.out⟩

end Go.Proofs.YtgfpjfiikajadaaDoor
namespace Go.Proofs.YtgfpjfiikajadaaDoor
open Go.RowKit
set_option linter.unusedVariables false

theorem ofS_take {xs : List Int} {k : Nat} {x : Int} (h : k < xs.length) (hx : Hid (x = xs[k]?.getD 0)) : ofS (xs.take (k + 1)) = withS (ofS (xs.take k)) x.toNat := by
  have hx := hx.out
  rw [List.getElem?_eq_getElem h, Option.getD_some] at hx
  rw [List.take_add_one, List.getElem?_eq_getElem h, ← hx]
  exact ofS_snoc _ _

theorem SB.set4 {W : World} {b : Nat} {S : Nat → Nat} (h : SB W b S) (T : Nat → Nat) : SB ((((W.setCell ⟨b, 0, none⟩ (.int .u64 (T 0))).setCell ⟨b, 1, none⟩ (.int .u64 (T 1))).setCell ⟨b, 2, none⟩ (.int .u64 (T 2))).setCell ⟨b, 3, none⟩ (.int .u64 (T 3))) b T :=
  (((h.set 0 (.int .u64 (T 0))).set 1 (.int .u64 (T 1))).set 2 (.int .u64 (T 2))).set 3 (.int .u64 (T 3))
theorem Blk.other4 {W : World} {b b' : Nat} {t : TypeId} {cs : Array Value} (h : Blk W b t cs) (hne : b ≠ b') (v0 v1 v2 v3 : Value) : Blk ((((W.setCell ⟨b', 0, none⟩ v0).setCell ⟨b', 1, none⟩ v1).setCell ⟨b', 2, none⟩ v2).setCell ⟨b', 3, none⟩ v3) b t cs :=
  (((h.other hne v0).other hne v1).other hne v2).other hne v3
theorem below_set4 {W V : World} {B b' : Nat} (h : Below B V W) (hb : B ≤ b') (v0 v1 v2 v3 : Value) : Below B V ((((W.setCell ⟨b', 0, none⟩ v0).setCell ⟨b', 1, none⟩ v1).setCell ⟨b', 2, none⟩ v2).setCell ⟨b', 3, none⟩ v3) :=
  (((h.setCell (p := ⟨b', 0, none⟩) hb v0).setCell (p := ⟨b', 1, none⟩) hb v1).setCell (p := ⟨b', 2, none⟩) hb v2).setCell (p := ⟨b', 3, none⟩) hb v3

set_option maxHeartbeats 2000000 in
theorem of_some (b off cap : Nat) (xs : List Int) (w : World) (hl : xs.length ≤ 9223372036854775807) (hb : b < w.heap.size) (hc : Cells w b off xs) (hbd : ∀ x ∈ xs, 0 ≤ x ∧ x < 256) :
    Calls Tryd.prog 50 #[.slice (some ⟨b, off, none⟩) xs.length cap] w fun e w' => e = .returned (sval (ofS xs)) ∧ Below w.heap.size w w' := by
  have HR : Hid (∀ k, Rep (ofS (xs.take k)) (xs.take k)) := fun k => rep_of hbd k
  have HB := Hid.of hbd
  clear hbd
  go_enter Tryd.func50, Tryd.ntmps50
  go_wp2
  go_loopw [8] (fun i wr => ∃ k : Nat, k ≤ xs.length ∧ i = .int .i64 k ∧ SB wr (w.heap.size + 1) (ofS (xs.take k)) ∧ SB wr w.heap.size zeroS ∧ Below w.heap.size w wr) (fun i _ => xs.length - (intOf i).toNat)
  case atStart =>
    refine ⟨0, by omega, rfl, ?_, (Blk.new w _ _).alloc _, ((Below.refl _ _).alloc (Nat.le_refl _) _).alloc (by simp) _⟩
    have := (Blk.new (w.alloc (.cells (scells zeroS) 65)) 65 (scells zeroS))
    rwa [World.size_alloc] at this
  case round =>
    obtain ⟨k, hk, rfl, s1, s2, hB⟩ := hrel
    by_cases hlt : k < xs.length
    · obtain ⟨x, HX, hcx0⟩ := hc.at hlt
      have hcx := (hB.cell (p := ⟨b, off + k, none⟩) hb).trans hcx0
      clear hcx0
      have hx2 : 0 ≤ x ∧ x < 256 := by
        have hx := HX.out
        rw [List.getElem?_eq_getElem hlt, Option.getD_some] at hx
        rw [hx]; exact HB.out _ (List.getElem_mem hlt)
      have hok := Hid.of (HR.out k).ok
      obtain ⟨T, hT⟩ : ∃ T, T = ofS (xs.take k) := ⟨_, rfl⟩
      have HT := Hid.of hT
      rw [← hT] at s1 hok
      clear hT
      obtain ⟨p0, p1, p2, p3⟩ := s1.cells
      have hl1 := s1.lt
      go_wp2_with (go_at_call 88; refine (with_any T x _ hok.out hx2.1 hx2.2).mono ?_; rintro e w1 ⟨rfl, hb1⟩; have s3 := s1.below hb1 s1.lt; have s4 := s2.below hb1 s2.lt; have fz := s3.frozen; obtain ⟨q0, q1, q2, q3⟩ := SB.cells s3)
      go_roundw
      case rel =>
        refine ⟨k + 1, by omega, by go_num, ?_, s4.other4 (by omega) _ _ _ _, below_set4 (hB.trans (hb1.mono hB.size)) (by omega) _ _ _ _⟩
        rw [ofS_take hlt HX, ← HT.out]
        exact SB.set4 s3 _
      case measure => simp [intOf]; omega
    · rw [List.take_of_length_le (by omega)] at s1
      obtain ⟨p0, p1, p2, p3⟩ := s1.cells
      obtain ⟨r0, r1, r2, r3⟩ := s2.cells
      have fz := s2.frozen
      have k2 := Hid.of (SB.set4 s2 (ofS xs))
      go_wp2
      refine bodyPost_ret (v := sval (ofS xs)) ?_ rfl ⟨rfl, below_set4 hB (by omega) _ _ _ _⟩
      exact results_cell_row (g := w.heap.size) (p := 2) rfl _ _ _ _ _ _ rfl k2.out Tryd.underlying65 rfl (by kernel_rfl)

set_option maxHeartbeats 400000 in
theorem of_nil (a : Option Addr) (cap : Nat) (w : World) :
    Calls Tryd.prog 50 #[.slice a 0 cap] w fun e w' => e = .returned (sval (ofS [])) ∧ Below w.heap.size w w' := by
  go_enter Tryd.func50, Tryd.ntmps50
  go_wp2
  refine wp_loop_rounds 1 ?_
  rw [rounds_succ]
  have s1 : SB ((w.alloc (.cells (scells zeroS) 65)).alloc (.cells (scells zeroS) 65)) w.heap.size zeroS := (Blk.new w _ _).alloc _
  have s2 : SB ((w.alloc (.cells (scells zeroS) 65)).alloc (.cells (scells zeroS) 65)) (w.heap.size + 1) zeroS := by
    have := (Blk.new (w.alloc (.cells (scells zeroS) 65)) 65 (scells zeroS))
    rwa [World.size_alloc] at this
  have hB : Below w.heap.size w ((w.alloc (.cells (scells zeroS) 65)).alloc (.cells (scells zeroS) 65)) := ((Below.refl _ _).alloc (Nat.le_refl _) _).alloc (by simp) _
  revert s1 s2 hB
  show SB ((w.alloc (.cells #[.int .u64 0, .int .u64 0, .int .u64 0, .int .u64 0] 65)).alloc (.cells #[.int .u64 0, .int .u64 0, .int .u64 0, .int .u64 0] 65)) w.heap.size zeroS → SB ((w.alloc (.cells #[.int .u64 0, .int .u64 0, .int .u64 0, .int .u64 0] 65)).alloc (.cells #[.int .u64 0, .int .u64 0, .int .u64 0, .int .u64 0] 65)) (w.heap.size + 1) zeroS → Below w.heap.size w ((w.alloc (.cells #[.int .u64 0, .int .u64 0, .int .u64 0, .int .u64 0] 65)).alloc (.cells #[.int .u64 0, .int .u64 0, .int .u64 0, .int .u64 0] 65)) → _
  generalize (w.alloc (.cells #[.int .u64 0, .int .u64 0, .int .u64 0, .int .u64 0] 65)).alloc (.cells #[.int .u64 0, .int .u64 0, .int .u64 0, .int .u64 0] 65) = W
  intro s2 s1 hB
  obtain ⟨p0, p1, p2, p3⟩ := s1.cells
  obtain ⟨r0, r1, r2, r3⟩ := s2.cells
  have fz := s2.frozen
  have k2 := Hid.of (SB.set4 s2 zeroS)
  go_wp2
  refine bodyPost_ret (v := sval (ofS [])) ?_ rfl ⟨rfl, below_set4 hB (by omega) _ _ _ _⟩
  exact results_cell_row (g := w.heap.size) (p := 2) rfl _ _ _ _ _ _ rfl k2.out Tryd.underlying65 rfl (by kernel_rfl)

theorem of_any (a : Option Addr) (cap : Nat) (xs : List Int) (w : World) (hs : At w a xs) (hl : xs.length ≤ maxLen) (hbd : ∀ x ∈ xs, 0 ≤ x ∧ x < 256) :
    Calls Tryd.prog 50 #[.slice a xs.length cap] w fun e w' => e = .returned (sval (ofS xs)) ∧ Below w.heap.size w w' := by
  rcases hs with rfl | ⟨b, off, rfl, hb, hc⟩
  · exact of_nil a cap w
  · exact of_some b off cap xs w hl hb hc hbd

end Go.Proofs.YtgfpjfiikajadaaDoor
namespace Go.Proofs.YtgfpjfiikajadaaDoor
open Go.RowKit Go.Shelf
set_option linter.unusedVariables false
attribute [local go_sem] Oper.semAt_some

/-- The table of math/bits lies in its variable. -/
structure Tab (w : World) : Prop where
  lt : 0 < w.heap.size
  at' : ∀ j, j < 64 → w.cell? ⟨0, j, none⟩ = some (.int .u8 (Lib.deBruijn64tab.getD j 0))

theorem Tab.below {w w' : World} {B : Nat} (h : Tab w) (hb : Below B w w') (hB : 0 < B) : Tab w' :=
  ⟨Nat.lt_of_lt_of_le h.lt hb.size, fun j hj => (hb.cell (p := ⟨0, j, none⟩) hB).trans (h.at' j hj)⟩

set_option maxHeartbeats 1000000 in
theorem tz_core (x k idx : Nat) (w : World) (hx0 : ((x : Int) == 0) = false)
    (key : IntKind.u64.wrap (bits BinOp.and IntKind.u64 (x : Int) (IntKind.u64.wrap (-(x : Int))) * 285870213051353865) / 288230376151711744 = (idx : Int))
    (hi : idx < 64) (hk : k < 64) (hcell : w.cell? ⟨0, idx, none⟩ = some (.int .u8 k)) :
    Calls Tryd.prog 119 #[.int .u64 x] w fun e w' => e = .returned (.int .i64 k) ∧ w' = w := by
  go_enter Tryd.func119, Tryd.ntmps119
  go_wp2_with (simp only [key])
  go_ret
  exact ⟨rfl, rfl⟩

theorem tz_any (x : Nat) (w : World) (hx0 : x ≠ 0) (hx : x < 18446744073709551616) (hT : Tab w) :
    Calls Tryd.prog 119 #[.int .u64 x] w fun e w' => e = .returned (.int .i64 (Lib.ctz 64 x)) ∧ w' = w := by
  obtain ⟨hlow, hk⟩ := Lib.lowest_bit 64 x hx0 hx
  obtain ⟨hi, htab⟩ := Lib.deBruijn64_at _ hk
  have hcell := hT.at' _ hi
  rw [htab] at hcell
  exact tz_core x _ _ w (by simp; omega) (tz64_key x _ hx hx0 hlow) hi hk hcell

set_option maxHeartbeats 400000 in
theorem all_any (S : Nat → Nat) (w : World) :
    Calls Tryd.prog 87 #[sval S] w fun e w' => e = .returned (.func (.func 118) #[] #[.pointer (some ⟨w.heap.size, 0, none⟩)]) ∧ w' = w.alloc (.cells (scells S) 65) := by
  have hmf : ∀ (fn : Fn) (first cap : Array Value) (w : World), (Instr.makeFunc fn first cap).run Tryd.prog w = .ok (.func fn first cap) w := fun _ _ _ _ => rfl
  go_enter Tryd.func87, Tryd.ntmps87
  go_wp2
  go_ret
  exact ⟨rfl, rfl⟩

/-- Numbers below N. -/
abbrev NB (N : Nat) : Type := { n : Nat // n < N }
abbrev nbval {N : Nat} (x : NB N) : Array Value := #[.int .i64 (x.1 : Int)]

end Go.Proofs.YtgfpjfiikajadaaDoor
