/-
  The walk of row.Is: it answers 'rowB n xs'.
  The walk of machine.May: it answers 'mayB'.
  Set.Row once more: the row is in memory of its own.
  The walk of reach.Trim.
-/
import Derived.Test.YtcjcjaeaoianfaaDoorG03
import Derived.Deep.QuietTactic
import Derived.BigQuiet
import Derived.Test.YtcjcjaeaoianfaaDoorCArrMay
import Derived.Test.YtcjcjaeaoianfaaDoorG11
import Derived.Test.YtcjcjaeaoianfaaDoorG06
import Derived.Test.YtcjcjaeaoianfaaDoorCPart
import Derived.Test.YtcjcjaeaoianfaaDoorG17
namespace Go.Proofs.YtcjcjaeaoianfaaDoor
open Go.RowKit

theorem rowB_start1 {n : Int} (h : n ≤ 2147483648) (xs : List Int) : rowB n xs = goIs (-1) n xs := by unfold rowB; rw [show min n 2147483648 = n by omega]
theorem rowB_start2 {n : Int} (h : 2147483648 < n) (xs : List Int) : rowB n xs = goIs (-1) 2147483648 xs := by unfold rowB; rw [show min n 2147483648 = 2147483648 by omega]

set_option maxHeartbeats 400000 in
theorem rowIs_some (b off cap : Nat) (xs : List Int) (n : Int) (w : World) (hl : xs.length ≤ 9223372036854775807) (hc : Cells w b off xs) :
    Calls Tryd.prog 20 #[.slice (some ⟨b, off, none⟩) xs.length cap, .int .i64 n] w fun e w' => e = .returned (.bool (rowB n xs)) ∧ w' = w := by
  by_cases hn : n ≤ 2147483648
  · have HS : Hid (rowB n xs = goIs (-1) n (xs.drop 0)) := rowB_start1 hn xs
    go_enter Tryd.func20, Tryd.ntmps20
    go_wp2
    go_loop [5, 12] (fun l i => ∃ (k : Nat) (last : Int), k ≤ xs.length ∧ i = .int .i64 k ∧ l = .int .i64 last ∧ Hid (rowB n xs = goIs last n (xs.drop k))) (fun _ i => xs.length - (intOf i).toNat)
    case atStart => exact ⟨0, -1, Nat.zero_le _, rfl, rfl, HS⟩
    case round =>
      obtain ⟨k, last, hk, rfl, rfl, he⟩ := hrel
      by_cases hlt : k < xs.length
      · obtain ⟨x, HX, hcell⟩ := hc.at hlt
        by_cases h1 : x ≤ last
        · go_wp2
          go_ret
          exact ⟨ret_bool (is_no hlt he HX (.inl h1)), rfl⟩
        · by_cases h2 : n ≤ x
          · go_wp2
            go_ret
            exact ⟨ret_bool (is_no hlt he HX (.inr h2)), rfl⟩
          · go_wp2
            go_round
            case rel => exact ⟨k + 1, x, by omega, by go_num, rfl, is_yes hlt he HX (by omega)⟩
            case measure => simp [intOf]; omega
      · go_wp2
        go_ret
        exact ⟨ret_bool (is_end hlt he), rfl⟩
  · have HS : Hid (rowB n xs = goIs (-1) 2147483648 (xs.drop 0)) := rowB_start2 (by omega) xs
    go_enter Tryd.func20, Tryd.ntmps20
    go_wp2
    go_loop [5, 12] (fun l i => ∃ (k : Nat) (last : Int), k ≤ xs.length ∧ i = .int .i64 k ∧ l = .int .i64 last ∧ Hid (rowB n xs = goIs last 2147483648 (xs.drop k))) (fun _ i => xs.length - (intOf i).toNat)
    case atStart => exact ⟨0, -1, Nat.zero_le _, rfl, rfl, HS⟩
    case round =>
      obtain ⟨k, last, hk, rfl, rfl, he⟩ := hrel
      by_cases hlt : k < xs.length
      · obtain ⟨x, HX, hcell⟩ := hc.at hlt
        by_cases h1 : x ≤ last
        · go_wp2
          go_ret
          exact ⟨ret_bool (is_no hlt he HX (.inl h1)), rfl⟩
        · by_cases h2 : 2147483648 ≤ x
          · go_wp2
            go_ret
            exact ⟨ret_bool (is_no hlt he HX (.inr h2)), rfl⟩
          · go_wp2
            go_round
            case rel => exact ⟨k + 1, x, by omega, by go_num, rfl, is_yes hlt he HX (by omega)⟩
            case measure => simp [intOf]; omega
      · go_wp2
        go_ret
        exact ⟨ret_bool (is_end hlt he), rfl⟩

set_option maxHeartbeats 400000 in
theorem rowIs_nil (a : Option Addr) (cap : Nat) (n : Int) (w : World) :
    Calls Tryd.prog 20 #[.slice a 0 cap, .int .i64 n] w fun e w' => e = .returned (.bool true) ∧ w' = w := by
  go_enter Tryd.func20, Tryd.ntmps20
  go_wp2
  all_goals
    refine wp_loop_rounds 1 ?_
    rw [rounds_succ]
    go_wp2
    go_ret
    exact ⟨rfl, rfl⟩

theorem rowIs_any (a : Option Addr) (cap : Nat) (xs : List Int) (n : Int) (w : World) (hs : At w a xs) (hl : xs.length ≤ maxLen) :
    Calls Tryd.prog 20 #[.slice a xs.length cap, .int .i64 n] w fun e w' => e = .returned (.bool (rowB n xs)) ∧ w' = w := by
  rcases hs with rfl | ⟨b, off, rfl, -, hc⟩
  · exact rowIs_nil a cap n w
  · exact rowIs_some b off cap xs n w hl hc

end Go.Proofs.YtcjcjaeaoianfaaDoor
namespace Go.Proofs.YtcjcjaeaoianfaaDoor
open Go.RowKit
set_option linter.unusedVariables false

theorem may_split (m : Mach) : mayB m = (decide (1 ≤ m.st) && (decide (m.st ≤ 256) && (decide (0 ≤ m.ev) && (decide (m.ev ≤ 8) && (rowB m.st m.starts && (rowB m.st m.ends && arrsB m)))))) := by
  unfold mayB arrsB sizeOk
  by_cases h1 : 1 ≤ m.st <;> by_cases h2 : m.st ≤ 256 <;> by_cases h3 : 0 ≤ m.ev <;> by_cases h4 : m.ev ≤ 8 <;> by_cases h5 : m.arrows.length ≤ 4096 <;> simp [h1, h2, h3, h4, h5]

theorem may_no1 {m : Mach} (h : decide (1 ≤ m.st) = false) : false = mayB m := by rw [may_split, h]; rfl
theorem may_no2 {m : Mach} (h : decide (m.st ≤ 256) = false) : false = mayB m := by rw [may_split, h]; simp
theorem may_no3 {m : Mach} (h : decide (0 ≤ m.ev) = false) : false = mayB m := by rw [may_split, h]; simp
theorem may_no4 {m : Mach} (h : decide (m.ev ≤ 8) = false) : false = mayB m := by rw [may_split, h]; simp
theorem may_no5 {m : Mach} (h : rowB m.st m.starts = false) : false = mayB m := by rw [may_split, h]; simp
theorem may_no6 {m : Mach} (h : rowB m.st m.ends = false) : false = mayB m := by rw [may_split, h]; simp
theorem may_yes {m : Mach} (h1 : decide (1 ≤ m.st) = true) (h2 : decide (m.st ≤ 256) = true) (h3 : decide (0 ≤ m.ev) = true) (h4 : decide (m.ev ≤ 8) = true) (h5 : rowB m.st m.starts = true) (h6 : rowB m.st m.ends = true) : arrsB m = mayB m := by
  rw [may_split, h1, h2, h3, h4, h5, h6]; simp

set_option maxRecDepth 100000 in
set_option maxHeartbeats 4000000 in
theorem pMay_any (m : Mach) (l : ML) (w : World) (h : MAt w m l) :
    Calls Tryd.prog 11 #[mval m l] w fun e w' => e = .returned (.bool (mayB m)) ∧ Below w.heap.size w w' := by
  have b0 : Below w.heap.size w (w.alloc (.cells (mcells m l) 25)) := (Below.refl _ _).alloc (Nat.le_refl _) _
  have h' := Hid.of (h.below b0 (Nat.le_refl _))
  have l1 : Hid (m.starts.length ≤ maxLen) := Nat.le_trans h.s1 h.s2
  have l3 : Hid (m.ends.length ≤ maxLen) := Nat.le_trans h.e1 h.e2
  have B0 := Hid.of b0
  clear b0
  by_cases e1 : 1 ≤ m.st
  · have d1 : decide (1 ≤ m.st) = true := by simpa using e1
    by_cases e2 : m.st ≤ 256
    · have d2 : decide (m.st ≤ 256) = true := by simpa using e2
      by_cases e3 : 0 ≤ m.ev
      · have d3 : decide (0 ≤ m.ev) = true := by simpa using e3
        by_cases e4 : m.ev ≤ 8
        · have d4 : decide (m.ev ≤ 8) = true := by simpa using e4
          cases e5 : rowB m.st m.starts with
          | true =>
            cases e6 : rowB m.st m.ends with
            | true =>
              go_enter Tryd.func11, Tryd.ntmps11
              go_wp2_with fail
              refine (rowIs_any l.a1 l.c1 m.starts m.st _ h'.out.s l1.out).mono ?_
              rintro e w1 ⟨rfl, rfl⟩
              rw [e5]
              go_wp2_with fail
              refine (rowIs_any l.a3 l.c3 m.ends m.st _ h'.out.e l3.out).mono ?_
              rintro e w1 ⟨rfl, rfl⟩
              rw [e6]
              go_wp2_with fail
              refine (arrowsMay_any m l _ h'.out).mono ?_
              rintro e w1 ⟨rfl, hb1⟩
              go_wp2
              go_ret
              exact ⟨ret_bool (may_yes d1 d2 d3 d4 e5 e6), B0.out.trans (hb1.mono B0.out.size)⟩
            | false =>
              go_enter Tryd.func11, Tryd.ntmps11
              go_wp2_with fail
              refine (rowIs_any l.a1 l.c1 m.starts m.st _ h'.out.s l1.out).mono ?_
              rintro e w1 ⟨rfl, rfl⟩
              rw [e5]
              go_wp2_with fail
              refine (rowIs_any l.a3 l.c3 m.ends m.st _ h'.out.e l3.out).mono ?_
              rintro e w1 ⟨rfl, rfl⟩
              rw [e6]
              go_wp2
              go_ret
              exact ⟨ret_bool (may_no6 e6), B0.out⟩
          | false =>
            go_enter Tryd.func11, Tryd.ntmps11
            go_wp2_with (go_at_call 20; refine (rowIs_any l.a1 l.c1 m.starts m.st _ h'.out.s l1.out).mono ?_; rintro e w1 ⟨rfl, rfl⟩)
            go_ret
            exact ⟨ret_bool (may_no5 e5), B0.out⟩
        · have d4 : decide (m.ev ≤ 8) = false := by simpa using e4
          go_enter Tryd.func11, Tryd.ntmps11
          go_wp2
          go_ret
          exact ⟨ret_bool (may_no4 d4), B0.out⟩
      · have d3 : decide (0 ≤ m.ev) = false := by simpa using e3
        go_enter Tryd.func11, Tryd.ntmps11
        go_wp2
        go_ret
        exact ⟨ret_bool (may_no3 d3), B0.out⟩
    · have d2 : decide (m.st ≤ 256) = false := by simpa using e2
      go_enter Tryd.func11, Tryd.ntmps11
      go_wp2
      go_ret
      exact ⟨ret_bool (may_no2 d2), B0.out⟩
  · have d1 : decide (1 ≤ m.st) = false := by simpa using e1
    go_enter Tryd.func11, Tryd.ntmps11
    go_wp2
    go_ret
    exact ⟨ret_bool (may_no1 d1), B0.out⟩

end Go.Proofs.YtcjcjaeaoianfaaDoor
namespace Go.Proofs.YtcjcjaeaoianfaaDoor
open Go.RowKit Go.Shelf
set_option linter.unusedVariables false
attribute [local go_sem] Oper.semAt_some

set_option maxRecDepth 100000 in
set_option maxHeartbeats 4000000 in
theorem rowO_in (S : Nat → Nat) (hS : okS S) (w : World) (hT : Tab w) :
    CallsIn Fence.wide 5 Tryd.prog 39 #[sval S] w fun e W' => GivesO w (rowS S) e W' := by
  obtain ⟨i0, hi, hz0, hz1, hz2⟩ := info_parts Tryd.infoInt
  obtain ⟨xs, hxs⟩ := nb_of (N := 256) (allS S) (fun k hk => ((mem_allS S k).1 hk).1)
  have hlen : xs.length ≤ 256 := by have := allS_len S; rw [← hxs, List.length_map] at this; exact this
  have hrow : nbInts xs = rowS S := by unfold nbInts rowS; rw [← hxs, List.map_map]; rfl
  refine callsIn_of_wp_marks Tryd.func39 rfl trivial ?_ rfl
  simp only [Tryd.ntmps39, List.size_toArray, List.length_cons, List.length_nil, Nat.reduceAdd, Nat.reduceSub, Array.replicate_succ, Array.replicate_zero, List.push_toArray, List.append_toArray, List.nil_append, List.cons_append]
  gi_wp2_with (refine ⟨trivial, ?_⟩; refine CallsIn.mono (callsIn_wide.2 (all_any S _)) ?_; rintro e w1 ⟨rfl, rfl⟩)
  have bO : Boxed (((w.alloc (.cells (scells S) 55)).alloc (.cells #[.slice none 0 0] 22)).alloc (.cells (scells S) 55)) (w.heap.size + 1) 22 (.slice none 0 0) := by
    have := (Boxed.new (w.alloc (.cells (scells S) 55)) 22 (.slice none 0 0)).alloc (.cells (scells S) 55)
    rwa [World.size_alloc] at this
  have bN : SB (((w.alloc (.cells (scells S) 55)).alloc (.cells #[.slice none 0 0] 22)).alloc (.cells (scells S) 55)) (w.heap.size + 1 + 1) S := by
    have := Blk.new ((w.alloc (.cells (scells S) 55)).alloc (.cells #[.slice none 0 0] 22)) 55 (scells S)
    rwa [World.size_alloc, World.size_alloc] at this
  have hB0 : Below w.heap.size w (((w.alloc (.cells (scells S) 55)).alloc (.cells #[.slice none 0 0] 22)).alloc (.cells (scells S) 55)) := (((Below.refl _ w).alloc (Nat.le_refl _) _).alloc (by simp) _).alloc (by simp; omega) _
  have hsz : (((w.alloc (.cells (scells S) 55)).alloc (.cells #[.slice none 0 0] 22)).alloc (.cells (scells S) 55)).heap.size = w.heap.size + 3 := by simp
  have hT0 := hT.below hB0 hT.lt
  revert bO bN hB0 hsz hT0
  generalize ((w.alloc (.cells (scells S) 55)).alloc (.cells #[.slice none 0 0] 22)).alloc (.cells (scells S) 55) = W0
  intro bO bN hB0 hsz hT0
  refine wpIn_rangeFunc_ownG rfl (by omega) (gf := 99) (lb := #[.pointer (some ⟨w.heap.size + 1 + 1, 0, none⟩)]) rfl trivial (enters_of Tryd.func99 (by kernel_rfl) rfl)
    (all_stops 4 (by omega) (w.heap.size + 1 + 1) w.heap.size S hS xs hxs hT.lt W0 (by omega) bN hT0) belowK_t (belowK_b (by omega)) (Below.refl _ _) (fun _ => rfl)
    (fun pre W => (∃ v, Boxed W (w.heap.size + 1) 22 v ∧ W.ownsRow w.heap.size 3 1 v (nbInts pre).length ((nbInts pre).map (Value.int .i64)) ∧ True) ∧ Below w.heap.size w W)
    (fun _ _ _ => False)
    (OwnFrom.and (Go.Own.from (holdsRow_own w.heap.size (w.heap.size + 1) 22 3 1 (fun pre : List (NB 256) => (nbInts pre).length) (fun pre => (nbInts pre).map (Value.int .i64)) (fun _ _ => True)) _) (ownFrom_below (Nat.le_refl _) (by omega)))
    (fun _ _ _ _ _ hs _ _ => hs)
    ⟨⟨_, bO, World.ownsRow_nil _ _ _ _, trivial⟩, hB0⟩
    (fun x => { tmps := #[sval S, .pointer (some ⟨w.heap.size, 0, none⟩), .slice none 0 0, .pointer (some ⟨w.heap.size + 1, 0, none⟩), .int .i64 (x.1 : Int), sval S, .func (.func 99) #[] #[.pointer (some ⟨w.heap.size + 1 + 1, 0, none⟩)], .int .i64 (x.1 : Int), undef, undef, undef, undef, undef], defers := [] }) ?assign ?body ?done ?stop
  case assign =>
    intro l x W K hK
    gi_wp2
    exact hK
  case body =>
    rintro l pre x W ⟨⟨v, hv, hrw, -⟩, hB⟩ hlt
    have hc := hv.cell
    have hpl := nbInts_len pre
    have HL := Hid.of hpl
    have hl2 : (nbInts pre).length ≤ 256 := by omega
    clear hpl
    gi_wp2_with (gi_at_builtin; refine wpListIn_append_own _ rfl _ _ 22 rfl w.heap.size 3 i0 (.int .i64 0) 1 8 Tryd.underlying22 hi hz0 hz1 hz2 rfl (by decide) _ _ _ rfl (hrw.alloc _) ⟨W.heap.size, 0, none⟩ 1 1 [.int .i64 (x.1 : Int)] rfl rfl (cell_one_new _ _ _) (by simp [Value.oneCell']) (by unfold maxLen; omega) (by omega) (by have := hB.size; simp; omega) ?_; intro v' w1 hown' hgrow _; obtain ⟨g', cap', rfl⟩ := ownsRow_succ hown'; obtain ⟨hv1, hv2, hr2, hk2, hb2⟩ := hv.appended (by decide) hrw hB.size (by omega) hown' hgrow; have hc1 := hv1.cell; have hf1 := hv1.frozen)
    exact ⟨hk2.from _, hb2, ⟨_, hv2, by rw [nbInts_snoc]; simpa using hr2, trivial⟩, hB.trans hb2⟩
  case done =>
    rintro D ys W hD rfl ⟨⟨v, hv, hrw, -⟩, hB⟩ hK
    have hc := hv.cell
    rw [hrow] at hrw
    gi_wp2
    refine ⟨by simp, .inl ⟨_, _, rfl, run_takeDeferred hK, ?_⟩⟩
    refine ⟨_, results_tmp rfl _ _ _, ?_⟩
    exact ⟨v, rfl, (show Own _ _ v (rowS S) from ownsRow_putObj hrw _ hK rfl), hB.trans (belowK_b (w := w) (Nat.le_refl _) W D _ _ (by omega) hK rfl rfl)⟩
  case stop =>
    rintro D c pre W _ _ h _
    exact h.elim

theorem rowO_any (S : Nat → Nat) (w : World) (hS : okS S) (hT : Tab w) : Calls Tryd.prog 39 #[sval S] w fun e W' => GivesO w (rowS S) e W' :=
  callsIn_wide.1 (rowO_in S hS w hT)

end Go.Proofs.YtcjcjaeaoianfaaDoor
namespace Go.Proofs.YtcjcjaeaoianfaaDoor
open Go.RowKit
set_option linter.unusedVariables false

theorem part_any (m : Mach) (l : ML) (ta : Option Addr) (tc : Nat) (w : World) (hm : mayB m = true) (h : MAt w m l) (hat : At w ta (trimL m)) :
    Calls Tryd.prog 47 #[mval m l, .slice ta (trimL m).length tc] w fun e w' => ∃ L, e = .returned (mval (trimM m) L) ∧ MAt w' (trimM m) L ∧ FrM w.heap.size (trimM m) L ∧ Below w.heap.size w w' := by
  have hz := mayB_size hm
  unfold sizeOk at hz
  have hl := trim_le hm
  obtain ⟨M, hM⟩ : ∃ M : Int, (if ((trimL m).length : Int) < 1 then (1 : Int) else ((trimL m).length : Int)) = M := ⟨_, rfl⟩
  have e : partM m (trimL m) M = trimM m := by
    unfold partM trimM
    rw [srt_trimA hm, ← hM]
    by_cases c : (trimL m).length = 0
    · rw [if_pos c, if_pos (by omega)]
    · rw [if_neg c, if_neg (by omega)]
  rw [← e]
  exact part_go m l ta tc (trimL m) w hm h hat (inc_trim m) (by omega) M hM

set_option maxRecDepth 100000 in
set_option maxHeartbeats 1000000 in
theorem pTrim_err (m : Mach) (l : ML) (w : World) (h : MAt w m l) (hm : mayB m = false) :
    Calls Tryd.prog 22 #[mval m l] w fun e w' => e = .returned (.tuple #[mval m0 ml0, .slice none 0 0, .int .i64 2]) ∧ Below w.heap.size w w' := by
  have B0 : Hid (Below w.heap.size w ((w.alloc (.cells (mcells m l) 25)).alloc (.cells zcells 25))) := ((Below.refl _ _).alloc (Nat.le_refl _) _).alloc (by simp) _
  have h' := Hid.of (h.below B0.out (Nat.le_refl _))
  have R0 : Hid (Blk ((w.alloc (.cells (mcells m l) 25)).alloc (.cells zcells 25)) (w.heap.size + 1) 25 zcells) := by
    have := Blk.new (w.alloc (.cells (mcells m l) 25)) 25 zcells
    rwa [World.size_alloc] at this
  clear h
  go_enter Tryd.func22, Tryd.ntmps22
  go_wp2_with fail
  refine (pMay_any m l _ h'.out).mono ?_
  rintro e w1 ⟨rfl, hb1⟩
  have HB := Hid.of (B0.out.trans (hb1.mono B0.out.size))
  have R1 := Hid.of (R0.out.below hb1 R0.out.lt)
  obtain ⟨r0, r1, r2, r3, r4⟩ := zcell_at R1.out
  have rz := R1.out.frozen
  have R2 : Hid (Blk _ (w.heap.size + 1) 25 (mcells m0 ml0)) := R1.out.set5 (.int .i64 0) (.int .i64 0) (.slice none 0 0) (.slice none 0 0) (.slice none 0 0)
  clear hb1
  rw [hm]
  go_wp2_with fail
  refine bodyPost_ret (v := .tuple #[mval m0 ml0, .slice none 0 0, .int .i64 2]) ?_ rfl ⟨rfl, below_set5 HB.out (b' := w.heap.size + 1) (by omega) _ _ _ _ _⟩
  exact results_three (p := 2) (u := 3) (v := 4) rfl _ _ (w.heap.size + 1) m0 ml0 _ _ rfl rfl rfl R2.out

/-- What Trim leaves where the machine may be. -/
def PTrimGives (w : World) (m : Mach) (e : Ending) (w' : World) : Prop := ∃ (L : ML) (ba : Option Addr) (bc : Nat), e = .returned (.tuple #[mval (trimM m) L, .slice ba (trimL m).length bc, .int .i64 0]) ∧ MAt w' (trimM m) L ∧ At w' ba (trimL m) ∧ (trimL m).length ≤ maxLen ∧ Below w.heap.size w w'

set_option maxRecDepth 100000 in
set_option maxHeartbeats 4000000 in
theorem pTrim_ok (m : Mach) (l : ML) (w : World) (h : MAt w m l) (hm : mayB m = true) (hT : Tab w) :
    Calls Tryd.prog 22 #[mval m l] w fun e w' => PTrimGives w m e w' := by
  have B0 : Hid (Below w.heap.size w ((w.alloc (.cells (mcells m l) 25)).alloc (.cells zcells 25))) := ((Below.refl _ _).alloc (Nat.le_refl _) _).alloc (by simp) _
  have h' := Hid.of (h.below B0.out (Nat.le_refl _))
  have K0 : Hid (Blk ((w.alloc (.cells (mcells m l) 25)).alloc (.cells zcells 25)) w.heap.size 25 (mcells m l)) := (Blk.new w _ _).alloc _
  have R0 : Hid (Blk ((w.alloc (.cells (mcells m l) 25)).alloc (.cells zcells 25)) (w.heap.size + 1) 25 zcells) := by
    have := Blk.new (w.alloc (.cells (mcells m l) 25)) 25 zcells
    rwa [World.size_alloc] at this
  have HT := Hid.of hT
  have HM := Hid.of h
  clear h hT
  go_enter Tryd.func22, Tryd.ntmps22
  go_wp2_with fail
  refine (pMay_any m l _ h'.out).mono ?_
  rintro e V ⟨rfl, hb1⟩
  have HB := Hid.of (B0.out.trans (hb1.mono B0.out.size))
  have K1 := Hid.of (K0.out.below hb1 K0.out.lt)
  have R1 := Hid.of (R0.out.below hb1 R0.out.lt)
  obtain ⟨x0, x1, x2, x3, x4⟩ := mcell_at K1.out
  clear hb1 K0 R0 B0 h'
  rw [hm]
  go_wp2_with fail
  have KEY1 : Hid (∀ W, Below V.heap.size V W → Calls Tryd.prog 44 #[mval m l] W fun e w' => RchGives W (·.f) (·.t) m.arrows m.starts e w') := fun W hW => reached_any m l W hm (HM.out.below (HB.out.trans (hW.mono HB.out.size)) (Nat.le_refl _)) (HT.out.below (HB.out.trans (hW.mono HB.out.size)) HT.out.lt)
  have KEY2 : Hid (∀ W, Below V.heap.size V W → Calls Tryd.prog 46 #[mval m l] W fun e w' => RchGives W (·.t) (·.f) m.arrows m.ends e w') := fun W hW => alive_any m l W hm (HM.out.below (HB.out.trans (hW.mono HB.out.size)) (Nat.le_refl _)) (HT.out.below (HB.out.trans (hW.mono HB.out.size)) HT.out.lt)
  refine Code.wp_mono (Q := regQ fun a' W' => ∃ (F G : Nat → Nat) (ba : Option Addr) (bc : Nat), a' = { tmps := #[mval m l, .pointer (some ⟨w.heap.size, 0, none⟩), .pointer (some ⟨w.heap.size + 1, 0, none⟩), .slice none 0 0, .int .i64 0, .slice ba (trimL m).length bc, mval m l, .bool true, .bool false, undef, mval m l, sval F, mval m l, sval G, sval (meetS F G), .slice ba (trimL m).length bc, undef, undef, undef, undef], defers := [] } ∧ Hid (At W' ba (trimL m)) ∧ Hid ((trimL m).length ≤ maxLen) ∧ Hid (trimL m = [] ∨ ∃ b off, ba = some ⟨b, off, none⟩ ∧ V.heap.size ≤ b) ∧ Hid (Below V.heap.size V W')) ?aft ?reg
  case reg =>
    go_region_held3 (fun w' => w'.cell? ⟨w.heap.size, 0, none⟩ = some (.int .i64 m.st) ∧ w'.cell? ⟨w.heap.size, 1, none⟩ = some (.int .i64 m.ev) ∧ w'.cell? ⟨w.heap.size, 2, none⟩ = some (.slice l.a1 m.starts.length l.c1) ∧ w'.cell? ⟨w.heap.size, 3, none⟩ = some (.slice l.a2 m.arrows.length l.c2) ∧ w'.cell? ⟨w.heap.size, 4, none⟩ = some (.slice l.a3 m.ends.length l.c3)) (go_keep) (first | (go_at_call 44; refine (KEY1.out _ ((Below.refl _ V).drew)).mono ?_; rintro e wA ⟨F, hF, rfl, hrF, hbA⟩; have GA : Hid (Below V.heap.size V wA) := ((Below.refl _ V).drew).trans hbA; have HF := Hid.of hF; have RF := Hid.of (row_reach hm hrF); obtain ⟨y0, y1, y2, y3, y4⟩ := mcell_at (K1.out.below GA.out K1.out.lt); clear hbA hF hrF) | (go_at_call 46; refine (KEY2.out _ GA.out).mono ?_; rintro e wL ⟨G, hG, rfl, hrG, hbL⟩; have GL : Hid (Below V.heap.size V wL) := GA.out.trans (hbL.mono GA.out.size); have HG := Hid.of hG; have RG := Hid.of (row_live hm hrG); obtain ⟨z0, z1, z2, z3, z4⟩ := mcell_at (K1.out.below GL.out K1.out.lt); clear hbL hG hrG) | (go_at_call 45; refine (meet_any F G _ HF.out HG.out).mono ?_; rintro e wM ⟨rfl, hbM⟩; have GM : Hid (Below V.heap.size V wM) := GL.out.trans (hbM.mono GL.out.size); obtain ⟨g0, g1, g2, g3, g4⟩ := mcell_at (K1.out.below GM.out K1.out.lt); clear hbM) | (go_at_call 39; refine (rowO_any (meetS F G) _ (okS_meet HF.out) (HT.out.below (HB.out.trans (GM.out.mono HB.out.size)) HT.out.lt)).mono ?_; rintro e wR ⟨v, rfl, own, hbR⟩; rw [row_trim RF.out RG.out] at own; obtain ⟨ba, bc, rfl, hat, c1, c2, c3⟩ := own.at2; have HFR := Hid.of (fr_mono own.fr GM.out.size); have hln := Nat.le_trans c1 c2; have GR : Hid (Below V.heap.size V wR) := GM.out.trans (hbR.mono GM.out.size); have HA := Hid.of hat; have HLN := Hid.of hln; obtain ⟨q0, q1, q2, q3, q4⟩ := mcell_at (K1.out.below GR.out K1.out.lt); clear hbR hat hln own c1 c2 c3))
    all_goals exact ⟨F, G, ba, bc, rfl, HA, HLN, HFR, GR⟩
  case aft =>
    clear x0 x1 x2 x3 x4 KEY1 KEY2
    refine regQ_imp ?_
    rintro a' X ⟨F, G, ba, bc, rfl, HA, HLN, HFR, HX⟩
    obtain ⟨x0, x1, x2, x3, x4⟩ := mcell_at (K1.out.below HX.out K1.out.lt)
    have HBX := Hid.of (HB.out.trans (HX.out.mono HB.out.size))
    have RX := Hid.of (R1.out.below HX.out R1.out.lt)
    go_wp2_with fail
    refine (part_any m l ba bc _ hm (HM.out.below HBX.out (Nat.le_refl _)) HA.out).mono ?_
    rintro e w2 ⟨L, rfl, hML, hFM, hb2⟩
    have HB2 := Hid.of (HBX.out.trans (hb2.mono HBX.out.size))
    have R2 := Hid.of (RX.out.below hb2 RX.out.lt)
    have A2 := Hid.of (HA.out.below hb2 (Nat.le_refl _))
    have HML := Hid.of hML
    obtain ⟨r0, r1, r2, r3, r4⟩ := zcell_at R2.out
    have rz := R2.out.frozen
    have HFM := Hid.of hFM
    have lR := Hid.of RX.out.lt
    have lV := Hid.of R1.out.lt
    have R3 := Hid.of (R2.out.set5 (.int .i64 (trimM m).st) (.int .i64 (trimM m).ev) (.slice L.a1 (trimM m).starts.length L.c1) (.slice L.a2 (trimM m).arrows.length L.c2) (.slice L.a3 (trimM m).ends.length L.c3))
    have B3 := Hid.of (below_set5 HB2.out (b' := w.heap.size + 1) (by omega) (.int .i64 (trimM m).st) (.int .i64 (trimM m).ev) (.slice L.a1 (trimM m).starts.length L.c1) (.slice L.a2 (trimM m).arrows.length L.c2) (.slice L.a3 (trimM m).ends.length L.c3))
    have M3 := Hid.of (HML.out.set5 (b := w.heap.size + 1) HFM.out lR.out (.int .i64 (trimM m).st) (.int .i64 (trimM m).ev) (.slice L.a1 (trimM m).starts.length L.c1) (.slice L.a2 (trimM m).arrows.length L.c2) (.slice L.a3 (trimM m).ends.length L.c3))
    have A3 := Hid.of (A2.out.set5 (b := w.heap.size + 1) HFR.out lV.out (.int .i64 (trimM m).st) (.int .i64 (trimM m).ev) (.slice L.a1 (trimM m).starts.length L.c1) (.slice L.a2 (trimM m).arrows.length L.c2) (.slice L.a3 (trimM m).ends.length L.c3))
    clear hb2 hML hFM x0 x1 x2 x3 x4
    go_wp2_with fail
    refine bodyPost_ret (v := .tuple #[mval (trimM m) L, .slice ba (trimL m).length bc, .int .i64 0]) ?_ rfl ⟨L, ba, bc, rfl, M3.out, A3.out, HLN.out, B3.out⟩
    exact results_three (p := 2) (u := 3) (v := 4) rfl _ _ (w.heap.size + 1) (trimM m) L _ _ rfl rfl rfl R3.out

end Go.Proofs.YtcjcjaeaoianfaaDoor
