/-
  The walk of row.Is: it answers 'rowB n xs'.
  The walk of machine.May: it answers 'mayB'.
  The walk of within.refuse.
  Plain: sets of bits beside the lists that they stand for. No program, no model.
  What is said of a set of states (an array of four words) in a world. The walks of Set.With, Set.Join and Set.Meets.
-/
import Derived.Test.YtcbdjjkebpncmaaDoorG03
import Derived.Deep.QuietTactic
import Derived.BigQuiet
import Derived.Test.YtcbdjjkebpncmaaDoorCArrMay
import Derived.Test.YtcbdjjkebpncmaaDoorG13
import Derived.Test.YtcbdjjkebpncmaaDoorG07
import Derived.Test.YtcbdjjkebpncmaaDoorG05
import Derived.Laws.EntriesVeiled
import Derived.Laws.Bits64b
import Derived.BigRegion
import Derived.Test.YtcbdjjkebpncmaaDoorG08
import Derived.Deep.RegionHeld3
namespace Go.Proofs.YtcbdjjkebpncmaaDoor
open Go.RowKit

theorem rowB_start1 {n : Int} (h : n ≤ 2147483648) (xs : List Int) : rowB n xs = goIs (-1) n xs := by unfold rowB; rw [show min n 2147483648 = n by omega]
theorem rowB_start2 {n : Int} (h : 2147483648 < n) (xs : List Int) : rowB n xs = goIs (-1) 2147483648 xs := by unfold rowB; rw [show min n 2147483648 = 2147483648 by omega]

set_option maxHeartbeats 400000 in
theorem rowIs_some (b off cap : Nat) (xs : List Int) (n : Int) (w : World) (hl : xs.length ≤ 9223372036854775807) (hc : Cells w b off xs) :
    Calls Tryd.prog 30 #[.slice (some ⟨b, off, none⟩) xs.length cap, .int .i64 n] w fun e w' => e = .returned (.bool (rowB n xs)) ∧ w' = w := by
  by_cases hn : n ≤ 2147483648
  · have HS : Hid (rowB n xs = goIs (-1) n (xs.drop 0)) := rowB_start1 hn xs
    go_enter Tryd.func30, Tryd.ntmps30
    go_wp2
    go_loop [5, 12] (fun l i => ∃ (k : Nat) (last : Int), k ≤ xs.length ∧ i = .int .i64 k ∧ l = .int .i64 last ∧ Hid (rowB n xs = goIs last n (xs.drop k))) (fun _ i => xs.length - (intOf i).toNat)
    case atStart => exact ⟨0, -1, Nat.zero_le _, rfl, rfl, HS⟩
    case round =>
      obtain ⟨k, last, hk, rfl, rfl, he⟩ := hrel
      by_cases hlt : k < xs.length
      · obtain ⟨x, HX, hcell⟩ := hc.at hlt
        by_cases h1 : x ≤ last
        · go_wp2
          go_ret
          exact ⟨ret_bool (is_no hlt he HX (.inl h1)), rfl⟩
        · by_cases h2 : n ≤ x
          · go_wp2
            go_ret
            exact ⟨ret_bool (is_no hlt he HX (.inr h2)), rfl⟩
          · go_wp2
            go_round
            case rel => exact ⟨k + 1, x, by omega, by go_num, rfl, is_yes hlt he HX (by omega)⟩
            case measure => simp [intOf]; omega
      · go_wp2
        go_ret
        exact ⟨ret_bool (is_end hlt he), rfl⟩
  · have HS : Hid (rowB n xs = goIs (-1) 2147483648 (xs.drop 0)) := rowB_start2 (by omega) xs
    go_enter Tryd.func30, Tryd.ntmps30
    go_wp2
    go_loop [5, 12] (fun l i => ∃ (k : Nat) (last : Int), k ≤ xs.length ∧ i = .int .i64 k ∧ l = .int .i64 last ∧ Hid (rowB n xs = goIs last 2147483648 (xs.drop k))) (fun _ i => xs.length - (intOf i).toNat)
    case atStart => exact ⟨0, -1, Nat.zero_le _, rfl, rfl, HS⟩
    case round =>
      obtain ⟨k, last, hk, rfl, rfl, he⟩ := hrel
      by_cases hlt : k < xs.length
      · obtain ⟨x, HX, hcell⟩ := hc.at hlt
        by_cases h1 : x ≤ last
        · go_wp2
          go_ret
          exact ⟨ret_bool (is_no hlt he HX (.inl h1)), rfl⟩
        · by_cases h2 : 2147483648 ≤ x
          · go_wp2
            go_ret
            exact ⟨ret_bool (is_no hlt he HX (.inr h2)), rfl⟩
          · go_wp2
            go_round
            case rel => exact ⟨k + 1, x, by omega, by go_num, rfl, is_yes hlt he HX (by omega)⟩
            case measure => simp [intOf]; omega
      · go_wp2
        go_ret
        exact ⟨ret_bool (is_end hlt he), rfl⟩

set_option maxHeartbeats 400000 in
theorem rowIs_nil (a : Option Addr) (cap : Nat) (n : Int) (w : World) :
    Calls Tryd.prog 30 #[.slice a 0 cap, .int .i64 n] w fun e w' => e = .returned (.bool true) ∧ w' = w := by
  go_enter Tryd.func30, Tryd.ntmps30
  go_wp2
  all_goals
    refine wp_loop_rounds 1 ?_
    rw [rounds_succ]
    go_wp2
    go_ret
    exact ⟨rfl, rfl⟩

theorem rowIs_any (a : Option Addr) (cap : Nat) (xs : List Int) (n : Int) (w : World) (hs : At w a xs) (hl : xs.length ≤ maxLen) :
    Calls Tryd.prog 30 #[.slice a xs.length cap, .int .i64 n] w fun e w' => e = .returned (.bool (rowB n xs)) ∧ w' = w := by
  rcases hs with rfl | ⟨b, off, rfl, -, hc⟩
  · exact rowIs_nil a cap n w
  · exact rowIs_some b off cap xs n w hl hc

end Go.Proofs.YtcbdjjkebpncmaaDoor
namespace Go.Proofs.YtcbdjjkebpncmaaDoor
open Go.RowKit
set_option linter.unusedVariables false

theorem may_split (m : Mach) : mayB m = (decide (1 ≤ m.st) && (decide (m.st ≤ 256) && (decide (0 ≤ m.ev) && (decide (m.ev ≤ 8) && (rowB m.st m.starts && (rowB m.st m.ends && arrsB m)))))) := by
  unfold mayB arrsB sizeOk
  by_cases h1 : 1 ≤ m.st <;> by_cases h2 : m.st ≤ 256 <;> by_cases h3 : 0 ≤ m.ev <;> by_cases h4 : m.ev ≤ 8 <;> by_cases h5 : m.arrows.length ≤ 4096 <;> simp [h1, h2, h3, h4, h5]

theorem may_no1 {m : Mach} (h : decide (1 ≤ m.st) = false) : false = mayB m := by rw [may_split, h]; rfl
theorem may_no2 {m : Mach} (h : decide (m.st ≤ 256) = false) : false = mayB m := by rw [may_split, h]; simp
theorem may_no3 {m : Mach} (h : decide (0 ≤ m.ev) = false) : false = mayB m := by rw [may_split, h]; simp
theorem may_no4 {m : Mach} (h : decide (m.ev ≤ 8) = false) : false = mayB m := by rw [may_split, h]; simp
theorem may_no5 {m : Mach} (h : rowB m.st m.starts = false) : false = mayB m := by rw [may_split, h]; simp
theorem may_no6 {m : Mach} (h : rowB m.st m.ends = false) : false = mayB m := by rw [may_split, h]; simp
theorem may_yes {m : Mach} (h1 : decide (1 ≤ m.st) = true) (h2 : decide (m.st ≤ 256) = true) (h3 : decide (0 ≤ m.ev) = true) (h4 : decide (m.ev ≤ 8) = true) (h5 : rowB m.st m.starts = true) (h6 : rowB m.st m.ends = true) : arrsB m = mayB m := by
  rw [may_split, h1, h2, h3, h4, h5, h6]; simp

set_option maxRecDepth 100000 in
set_option maxHeartbeats 4000000 in
theorem pMay_any (m : Mach) (l : ML) (w : World) (h : MAt w m l) :
    Calls Tryd.prog 10 #[mval m l] w fun e w' => e = .returned (.bool (mayB m)) ∧ Below w.heap.size w w' := by
  have b0 : Below w.heap.size w (w.alloc (.cells (mcells m l) 25)) := (Below.refl _ _).alloc (Nat.le_refl _) _
  have h' := Hid.of (h.below b0 (Nat.le_refl _))
  have l1 : Hid (m.starts.length ≤ maxLen) := Nat.le_trans h.s1 h.s2
  have l3 : Hid (m.ends.length ≤ maxLen) := Nat.le_trans h.e1 h.e2
  have B0 := Hid.of b0
  clear b0
  by_cases e1 : 1 ≤ m.st
  · have d1 : decide (1 ≤ m.st) = true := by simpa using e1
    by_cases e2 : m.st ≤ 256
    · have d2 : decide (m.st ≤ 256) = true := by simpa using e2
      by_cases e3 : 0 ≤ m.ev
      · have d3 : decide (0 ≤ m.ev) = true := by simpa using e3
        by_cases e4 : m.ev ≤ 8
        · have d4 : decide (m.ev ≤ 8) = true := by simpa using e4
          cases e5 : rowB m.st m.starts with
          | true =>
            cases e6 : rowB m.st m.ends with
            | true =>
              go_enter Tryd.func10, Tryd.ntmps10
              go_wp2_with fail
              refine (rowIs_any l.a1 l.c1 m.starts m.st _ h'.out.s l1.out).mono ?_
              rintro e w1 ⟨rfl, rfl⟩
              rw [e5]
              go_wp2_with fail
              refine (rowIs_any l.a3 l.c3 m.ends m.st _ h'.out.e l3.out).mono ?_
              rintro e w1 ⟨rfl, rfl⟩
              rw [e6]
              go_wp2_with fail
              refine (arrowsMay_any m l _ h'.out).mono ?_
              rintro e w1 ⟨rfl, hb1⟩
              go_wp2
              go_ret
              exact ⟨ret_bool (may_yes d1 d2 d3 d4 e5 e6), B0.out.trans (hb1.mono B0.out.size)⟩
            | false =>
              go_enter Tryd.func10, Tryd.ntmps10
              go_wp2_with fail
              refine (rowIs_any l.a1 l.c1 m.starts m.st _ h'.out.s l1.out).mono ?_
              rintro e w1 ⟨rfl, rfl⟩
              rw [e5]
              go_wp2_with fail
              refine (rowIs_any l.a3 l.c3 m.ends m.st _ h'.out.e l3.out).mono ?_
              rintro e w1 ⟨rfl, rfl⟩
              rw [e6]
              go_wp2
              go_ret
              exact ⟨ret_bool (may_no6 e6), B0.out⟩
          | false =>
            go_enter Tryd.func10, Tryd.ntmps10
            go_wp2_with (go_at_call 30; refine (rowIs_any l.a1 l.c1 m.starts m.st _ h'.out.s l1.out).mono ?_; rintro e w1 ⟨rfl, rfl⟩)
            go_ret
            exact ⟨ret_bool (may_no5 e5), B0.out⟩
        · have d4 : decide (m.ev ≤ 8) = false := by simpa using e4
          go_enter Tryd.func10, Tryd.ntmps10
          go_wp2
          go_ret
          exact ⟨ret_bool (may_no4 d4), B0.out⟩
      · have d3 : decide (0 ≤ m.ev) = false := by simpa using e3
        go_enter Tryd.func10, Tryd.ntmps10
        go_wp2
        go_ret
        exact ⟨ret_bool (may_no3 d3), B0.out⟩
    · have d2 : decide (m.st ≤ 256) = false := by simpa using e2
      go_enter Tryd.func10, Tryd.ntmps10
      go_wp2
      go_ret
      exact ⟨ret_bool (may_no2 d2), B0.out⟩
  · have d1 : decide (1 ≤ m.st) = false := by simpa using e1
    go_enter Tryd.func10, Tryd.ntmps10
    go_wp2
    go_ret
    exact ⟨ret_bool (may_no1 d1), B0.out⟩

end Go.Proofs.YtcbdjjkebpncmaaDoor
namespace Go.Proofs.YtcbdjjkebpncmaaDoor
open Go.RowKit
set_option linter.unusedVariables false

/-- What refuse tells. -/
def refB (a b : Mach) : Int := (withOut a b).2.2

set_option maxRecDepth 100000 in
set_option maxHeartbeats 8000000 in
theorem wrefuse_any (a b : Mach) (la lb : ML) (w : World) (h : Hid (MAt w a la)) (h' : Hid (MAt w b lb)) :
    Calls Tryd.prog 57 #[mval a la, mval b lb] w fun e w' => e = .returned (.int .i64 (refB a b)) ∧ Below w.heap.size w w' := by
  have B0 : Hid (Below w.heap.size w ((w.alloc (.cells (mcells a la) 25)).alloc (.cells (mcells b lb) 25))) := ((Below.refl _ _).alloc (Nat.le_refl _) _).alloc (by simp) _
  have KA0 : Hid (Blk ((w.alloc (.cells (mcells a la) 25)).alloc (.cells (mcells b lb) 25)) w.heap.size 25 (mcells a la)) := (Blk.new w _ _).alloc _
  have KB0 : Hid (Blk ((w.alloc (.cells (mcells a la) 25)).alloc (.cells (mcells b lb) 25)) (w.heap.size + 1) 25 (mcells b lb)) := by
    have := Blk.new (w.alloc (.cells (mcells a la) 25)) 25 (mcells b lb)
    rwa [World.size_alloc] at this
  go_enter Tryd.func57, Tryd.ntmps57
  go_wp2_with fail
  revert B0 KA0 KB0
  generalize (w.alloc (.cells (mcells a la) 25)).alloc (.cells (mcells b lb) 25) = V0
  intro B0 KA0 KB0
  refine (pMay_any a la _ (h.out.below B0.out (Nat.le_refl _))).mono ?_
  rintro e V ⟨rfl, hb1⟩
  have B1 := Hid.of (B0.out.trans (hb1.mono B0.out.size))
  have KA1 := Hid.of (KA0.out.below hb1 KA0.out.lt)
  have KB1 := Hid.of (KB0.out.below hb1 KB0.out.lt)
  clear hb1 B0 KA0 KB0
  cases hma : mayB a with
  | false =>
    have HW : Hid (refB a b = 2) := by show _ = _; unfold refB withOut; rw [if_neg (by rw [hma]; simp)]
    clear hma
    go_wp2_with fail
    exact bodyPost_ret (v := .int .i64 2) (by simp [results, go_sem]) rfl ⟨by rw [HW.out], B1.out⟩
  | true =>
    have HA := Hid.of hma
    clear hma
    obtain ⟨y0, y1, y2, y3, y4⟩ := mcell_at KB1.out
    go_wp2_with fail
    refine (pMay_any b lb _ (h'.out.below B1.out (Nat.le_refl _))).mono ?_
    rintro e V2 ⟨rfl, hb1⟩
    have B2 := Hid.of (B1.out.trans (hb1.mono B1.out.size))
    have KA2 := Hid.of (KA1.out.below hb1 KA1.out.lt)
    have KB2 := Hid.of (KB1.out.below hb1 KB1.out.lt)
    clear hb1 B1 KA1 KB1 y0 y1 y2 y3 y4
    cases hmb : mayB b with
    | false =>
      have HW : Hid (refB a b = 2) := by show _ = _; unfold refB withOut; rw [if_neg (by rw [hmb]; simp)]
      clear hmb
      go_wp2_with fail
      exact bodyPost_ret (v := .int .i64 2) (by simp [results, go_sem]) rfl ⟨by rw [HW.out], B2.out⟩
    | true =>
      have HB := Hid.of hmb
      clear hmb
      have HW : Hid (withOut a b = if a.ev = b.ev then if a.st ≤ 6 ∧ b.st ≤ 6 then ((outW a b).isNone, (outW a b).getD [], 0) else (false, [], 1) else (false, [], 3)) := by show _ = _; unfold withOut; rw [if_pos ⟨HA.out, HB.out⟩]
      obtain ⟨st, ev, starts, ars, ends⟩ := a
      obtain ⟨sb, eb, startsB, arsB, endsB⟩ := b
      obtain ⟨a1, c1, a2, c2, a3, c3⟩ := la
      obtain ⟨b1, d1, b2, d2, b3, d3⟩ := lb
      obtain ⟨x0, x1, x2, x3, x4⟩ := mcell_at KA2.out
      obtain ⟨y0, y1, y2, y3, y4⟩ := mcell_at KB2.out
      dsimp only at x0 x1 x2 x3 x4 y0 y1 y2 y3 y4 HW
      by_cases he : ev = eb
      · have de : (ev != eb) = false := by rw [he]; simp
        by_cases h6 : st ≤ 6
        · have d6 : decide ((6 : Int) < st) = false := by simp; omega
          by_cases h6' : sb ≤ 6
          · have d6' : decide ((6 : Int) < sb) = false := by simp; omega
            have HE : Hid (refB ⟨st, ev, starts, ars, ends⟩ ⟨sb, eb, startsB, arsB, endsB⟩ = 0) := by show _ = _; unfold refB; rw [HW.out, if_pos he, if_pos ⟨h6, h6'⟩]
            clear he
            go_wp2_with fail
            exact bodyPost_ret (v := .int .i64 0) (by simp [results, go_sem]) rfl ⟨by rw [HE.out], B2.out⟩
          · have d6' : decide ((6 : Int) < sb) = true := by simp; omega
            have HE : Hid (refB ⟨st, ev, starts, ars, ends⟩ ⟨sb, eb, startsB, arsB, endsB⟩ = 1) := by show _ = _; unfold refB; rw [HW.out, if_pos he, if_neg (fun h => h6' h.2)]
            clear he
            go_wp2_with fail
            exact bodyPost_ret (v := .int .i64 1) (by simp [results, go_sem]) rfl ⟨by rw [HE.out], B2.out⟩
        · have d6 : decide ((6 : Int) < st) = true := by simp; omega
          have HE : Hid (refB ⟨st, ev, starts, ars, ends⟩ ⟨sb, eb, startsB, arsB, endsB⟩ = 1) := by show _ = _; unfold refB; rw [HW.out, if_pos he, if_neg (fun h => h6 h.1)]
          clear he
          go_wp2_with fail
          exact bodyPost_ret (v := .int .i64 1) (by simp [results, go_sem]) rfl ⟨by rw [HE.out], B2.out⟩
      · have de : (ev != eb) = true := by simp [he]
        have HE : Hid (refB ⟨st, ev, starts, ars, ends⟩ ⟨sb, eb, startsB, arsB, endsB⟩ = 3) := by show _ = _; unfold refB; rw [HW.out, if_neg he]
        clear he
        go_wp2_with fail
        exact bodyPost_ret (v := .int .i64 3) (by simp [results, go_sem]) rfl ⟨by rw [HE.out], B2.out⟩

end Go.Proofs.YtcbdjjkebpncmaaDoor
namespace Go.Proofs.YtcbdjjkebpncmaaDoor
open Go.RowKit
set_option linter.unusedVariables false

/-- The same four words. -/
def eqS (S T : Nat → Nat) : Prop := S 0 = T 0 ∧ S 1 = T 1 ∧ S 2 = T 2 ∧ S 3 = T 3
theorem eqS_at {S T : Nat → Nat} (h : eqS S T) {k : Nat} (hk : k < 4) : S k = T k := by
  obtain ⟨h0, h1, h2, h3⟩ := h
  have : k = 0 ∨ k = 1 ∨ k = 2 ∨ k = 3 := by omega
  rcases this with rfl | rfl | rfl | rfl <;> assumption
theorem word_eq {a b : Nat} (ha : a < 18446744073709551616) (hb : b < 18446744073709551616) (h : ∀ j, j < 64 → a.testBit j = b.testBit j) : a = b := by
  apply Nat.eq_of_testBit_eq
  intro j
  by_cases hj : j < 64
  · exact h j hj
  · have hp : (2 : Nat) ^ 64 ≤ 2 ^ j := Nat.pow_le_pow_right (by omega) (by omega)
    rw [Nat.testBit_lt_two_pow (Nat.lt_of_lt_of_le ha hp), Nat.testBit_lt_two_pow (Nat.lt_of_lt_of_le hb hp)]
theorem eqS_iff {S T : Nat → Nat} {l k : List Int} (h : Rep S l) (h' : Rep T k) (hl : Inc l) (hk : Inc k) : eqS S T ↔ l = k := by
  constructor
  · intro he
    have hh : ∀ n, n < 256 → hasS S n = hasS T n := fun n hn => by unfold hasS; rw [eqS_at he (by omega)]
    refine inc_ext hl hk fun x => ⟨fun hx => ?_, fun hx => ?_⟩
    · obtain ⟨b0, b1⟩ := h.bd x hx
      have := (h.mem x.toNat (by omega)).2 (by rwa [Int.toNat_of_nonneg b0])
      rw [hh _ (by omega)] at this
      have := (h'.mem x.toNat (by omega)).1 this
      rwa [Int.toNat_of_nonneg b0] at this
    · obtain ⟨b0, b1⟩ := h'.bd x hx
      have := (h'.mem x.toNat (by omega)).2 (by rwa [Int.toNat_of_nonneg b0])
      rw [← hh _ (by omega)] at this
      have := (h.mem x.toNat (by omega)).1 this
      rwa [Int.toNat_of_nonneg b0] at this
  · rintro rfl
    have hh : ∀ n, n < 256 → hasS S n = hasS T n := fun n hn => by rw [Bool.eq_iff_iff, h.mem n hn, h'.mem n hn]
    have key : ∀ k, k < 4 → S k = T k := fun k hk => word_eq (h.ok k) (h'.ok k) fun j hj => by
      have := hh (64 * k + j) (by omega)
      unfold hasS at this
      rw [show (64 * k + j) / 64 = k by omega, show (64 * k + j) % 64 = j by omega] at this
      exact this
    exact ⟨key 0 (by omega), key 1 (by omega), key 2 (by omega), key 3 (by omega)⟩

/-- The sets stand for the lists, one by one, which rise. -/
structure RepL (SL : List (Nat → Nat)) (L : List (List Int)) : Prop where
  len : SL.length = L.length
  rep : ∀ (k : Nat) (S : Nat → Nat), SL[k]? = some S → ∃ l, L[k]? = some l ∧ Rep S l ∧ Inc l
theorem RepL.at {SL : List (Nat → Nat)} {L : List (List Int)} (h : RepL SL L) {k : Nat} {l : List Int} (hk : L[k]? = some l) : ∃ S, SL[k]? = some S ∧ Rep S l ∧ Inc l := by
  have hlt := (List.getElem?_eq_some_iff.1 hk).1
  have hlt' : k < SL.length := by rw [h.len]; exact hlt
  obtain ⟨l', h1, h2, h3⟩ := h.rep k _ (List.getElem?_eq_getElem hlt')
  rw [hk] at h1
  have h1 := Option.some.inj h1
  subst h1
  exact ⟨_, List.getElem?_eq_getElem hlt', h2, h3⟩
theorem RepL.snoc {SL : List (Nat → Nat)} {L : List (List Int)} (h : RepL SL L) {S : Nat → Nat} {l : List Int} (hr : Rep S l) (hi : Inc l) : RepL (SL ++ [S]) (L ++ [l]) := by
  refine ⟨by simp [h.len], fun k T hk => ?_⟩
  by_cases hlt : k < SL.length
  · rw [List.getElem?_append_left hlt] at hk
    obtain ⟨l', h1, h2⟩ := h.rep k T hk
    exact ⟨l', by rw [List.getElem?_append_left (by rw [← h.len]; exact hlt)]; exact h1, h2⟩
  · have hk' := (List.getElem?_eq_some_iff.1 hk).1
    simp at hk'
    have e : k = SL.length := by omega
    subst e
    rw [List.getElem?_append_right (Nat.le_refl _)] at hk
    have : S = T := by simpa using hk
    subst this
    exact ⟨l, by rw [h.len, List.getElem?_append_right (Nat.le_refl _)]; simp, hr, hi⟩
theorem RepL.one {S : Nat → Nat} {l : List Int} (hr : Rep S l) (hi : Inc l) : RepL [S] [l] := RepL.snoc (SL := []) (L := []) ⟨rfl, fun k S h => by simp at h⟩ hr hi
theorem RepL.map {SL : List (Nat → Nat)} {L : List (List Int)} (h : RepL SL L) : SL.map rowS = L := by
  refine List.ext_getElem? fun k => ?_
  rw [List.getElem?_map]
  cases hk : SL[k]? with
  | none =>
    have := List.getElem?_eq_none_iff.1 hk
    rw [List.getElem?_eq_none (by rw [← h.len]; exact this)]; rfl
  | some S =>
    obtain ⟨l, h1, h2, h3⟩ := h.rep k S hk
    rw [h1, Option.map_some, rep_row h2 h3]
/-- Is one of the sets the same as S at place j, j is the list's place. -/
theorem RepL.find {SL : List (Nat → Nat)} {L : List (List Int)} (h : RepL SL L) (hn : L.Nodup) {S : Nat → Nat} {l : List Int} (hr : Rep S l) (hi : Inc l) {j : Nat} {T : Nat → Nat} (hj : SL[j]? = some T) (he : eqS T S) : findL L l = j := by
  obtain ⟨l', h1, h2, h3⟩ := h.rep j T hj
  have := (eqS_iff h2 hr h3 hi).1 he
  subst this
  exact findL_at hn h1
theorem RepL.new {SL : List (Nat → Nat)} {L : List (List Int)} (h : RepL SL L) {S : Nat → Nat} {l : List Int} (hr : Rep S l) (hi : Inc l) (hno : ∀ T ∈ SL, ¬ eqS T S) : findL L l = L.length := findL_new.2 fun hm => by
  obtain ⟨j, hj⟩ := List.mem_iff_getElem?.1 hm
  obtain ⟨T, h1, h2, h3⟩ := h.at hj
  exact hno T (List.mem_of_getElem? h1) ((eqS_iff h2 hr h3 hi).2 rfl)

end Go.Proofs.YtcbdjjkebpncmaaDoor
namespace Go.Proofs.YtcbdjjkebpncmaaDoor
open Go.RowKit
set_option linter.unusedVariables false

/-- A set's cells, and its value. -/
abbrev scells (S : Nat → Nat) : Array Value := #[.int .u64 (S 0), .int .u64 (S 1), .int .u64 (S 2), .int .u64 (S 3)]
abbrev sval (S : Nat → Nat) : Value := .agg (scells S)

/-- The first k words joined. -/
def mixS (k : Nat) (S T : Nat → Nat) : Nat → Nat := fun j => if j < k then S j ||| T j else S j

theorem or_words {S T : Nat → Nat} (h : okS S) (h' : okS T) (k : Nat) : bits .or .u64 (S k : Int) (T k : Int) = ((S k ||| T k : Nat) : Int) := bits_or_u64_nat _ _ (h k) (h' k)

/-- A set's block. -/
abbrev SB (W : World) (b : Nat) (S : Nat → Nat) : Prop := Blk W b 56 (scells S)

theorem SB.cells {W : World} {b : Nat} {S : Nat → Nat} (h : SB W b S) : W.cell? ⟨b, 0, none⟩ = some (.int .u64 (S 0)) ∧ W.cell? ⟨b, 1, none⟩ = some (.int .u64 (S 1)) ∧ W.cell? ⟨b, 2, none⟩ = some (.int .u64 (S 2)) ∧ W.cell? ⟨b, 3, none⟩ = some (.int .u64 (S 3)) :=
  ⟨h.cell 0 rfl, h.cell 1 rfl, h.cell 2 rfl, h.cell 3 rfl⟩

theorem mix_step0 {S T : Nat → Nat} (h : okS S) (h' : okS T) : (scells (mixS 0 S T)).setIfInBounds 0 (.int .u64 (bits .or .u64 (mixS 0 S T 0) (T 0))) = scells (mixS 1 S T) := by
  show (#[.int .u64 (bits .or .u64 (S 0) (T 0)), .int .u64 (S 1), .int .u64 (S 2), .int .u64 (S 3)] : Array Value) = _
  rw [or_words h h']; rfl
theorem mix_step1 {S T : Nat → Nat} (h : okS S) (h' : okS T) : (scells (mixS 1 S T)).setIfInBounds 1 (.int .u64 (bits .or .u64 (mixS 1 S T 1) (T 1))) = scells (mixS 2 S T) := by
  show (#[.int .u64 (mixS 1 S T 0), .int .u64 (bits .or .u64 (S 1) (T 1)), .int .u64 (S 2), .int .u64 (S 3)] : Array Value) = _
  rw [or_words h h']; rfl
theorem mix_step2 {S T : Nat → Nat} (h : okS S) (h' : okS T) : (scells (mixS 2 S T)).setIfInBounds 2 (.int .u64 (bits .or .u64 (mixS 2 S T 2) (T 2))) = scells (mixS 3 S T) := by
  show (#[.int .u64 (mixS 2 S T 0), .int .u64 (mixS 2 S T 1), .int .u64 (bits .or .u64 (S 2) (T 2)), .int .u64 (S 3)] : Array Value) = _
  rw [or_words h h']; rfl
theorem mix_step3 {S T : Nat → Nat} (h : okS S) (h' : okS T) : (scells (mixS 3 S T)).setIfInBounds 3 (.int .u64 (bits .or .u64 (mixS 3 S T 3) (T 3))) = scells (mixS 4 S T) := by
  show (#[.int .u64 (mixS 3 S T 0), .int .u64 (mixS 3 S T 1), .int .u64 (mixS 3 S T 2), .int .u64 (bits .or .u64 (S 3) (T 3))] : Array Value) = _
  rw [or_words h h']; rfl

set_option maxHeartbeats 2000000 in
theorem join_any (S T : Nat → Nat) (w : World) (h : okS S) (h' : okS T) :
    Calls Tryd.prog 85 #[sval S, sval T] w fun e w' => e = .returned (sval (joinS S T)) ∧ Below w.heap.size w w' := by
  go_enter Tryd.func85, Tryd.ntmps85
  go_wp2
  go_loopw [6] (fun i wr => ∃ k : Nat, k ≤ 4 ∧ i = .int .i64 k ∧ SB wr w.heap.size (mixS k S T) ∧ SB wr (w.heap.size + 1) T ∧ SB wr (w.heap.size + 2) zeroS ∧ Below w.heap.size w wr) (fun i _ => 4 - (intOf i).toNat)
  case atStart =>
    refine ⟨0, by omega, rfl, ((Blk.new w _ _).alloc _).alloc _, ?_, ?_, (((Below.refl _ _).alloc (Nat.le_refl _) _).alloc (by simp) _).alloc (by simp; omega) _⟩
    · have := (Blk.new (w.alloc (.cells (scells S) 56)) 56 (scells T)).alloc (.cells (scells zeroS) 56)
      rwa [World.size_alloc] at this
    · have := (Blk.new ((w.alloc (.cells (scells S) 56)).alloc (.cells (scells T) 56)) 56 (scells zeroS))
      rwa [World.size_alloc, World.size_alloc] at this
  case round =>
    obtain ⟨k, hk, rfl, s1, s2, s3, hB⟩ := hrel
    have hk' : k = 4 ∨ k = 0 ∨ k = 1 ∨ k = 2 ∨ k = 3 := by omega
    obtain ⟨p0, p1, p2, p3⟩ := s1.cells
    obtain ⟨q0, q1, q2, q3⟩ := s2.cells
    have fz := s1.frozen
    rcases hk' with rfl | rfl | rfl | rfl | rfl
    · obtain ⟨r0, r1, r2, r3⟩ := s3.cells
      have fz3 := s3.frozen
      have e4 : Hid (scells (mixS 4 S T) = scells (joinS S T)) := rfl
      have k1 := (((s3.set 0 (.int .u64 (mixS 4 S T 0))).set 1 (.int .u64 (mixS 4 S T 1))).set 2 (.int .u64 (mixS 4 S T 2))).set 3 (.int .u64 (mixS 4 S T 3))
      have k2 := Hid.of k1
      clear k1
      go_wp2
      have k1 := k2.out
      refine bodyPost_ret (v := sval (joinS S T)) ?_ rfl ⟨rfl, (((hB.setCell (p := ⟨w.heap.size + 1 + 1, 0, none⟩) (by simp; omega) _).setCell (p := ⟨w.heap.size + 1 + 1, 1, none⟩) (by simp; omega) _).setCell (p := ⟨w.heap.size + 1 + 1, 2, none⟩) (by simp; omega) _).setCell (p := ⟨w.heap.size + 1 + 1, 3, none⟩) (by simp; omega) _⟩
      exact results_cell_row (g := w.heap.size + 2) (p := 4) rfl _ _ _ _ _ _ rfl k1 Tryd.underlying56 rfl (by kernel_rfl)
    · go_wp2
      go_region
      go_wp2
      exact ⟨⟨1, by omega, rfl, (by have := s1.set 0 (.int .u64 (bits .or .u64 (mixS 0 S T 0) (T 0))); rwa [mix_step0 h h'] at this), s2.other (by omega) _, s3.other (by omega) _, (hB.setCell (p := ⟨w.heap.size, 0, none⟩) (by simp) _).drew⟩, by simp [intOf]⟩
    · go_wp2
      go_region
      go_wp2
      exact ⟨⟨2, by omega, rfl, (by have := s1.set 1 (.int .u64 (bits .or .u64 (mixS 1 S T 1) (T 1))); rwa [mix_step1 h h'] at this), s2.other (by omega) _, s3.other (by omega) _, (hB.setCell (p := ⟨w.heap.size, 1, none⟩) (by simp) _).drew⟩, by simp [intOf]⟩
    · go_wp2
      go_region
      go_wp2
      exact ⟨⟨3, by omega, rfl, (by have := s1.set 2 (.int .u64 (bits .or .u64 (mixS 2 S T 2) (T 2))); rwa [mix_step2 h h'] at this), s2.other (by omega) _, s3.other (by omega) _, (hB.setCell (p := ⟨w.heap.size, 2, none⟩) (by simp) _).drew⟩, by simp [intOf]⟩
    · go_wp2
      go_region
      go_wp2
      exact ⟨⟨4, by omega, rfl, (by have := s1.set 3 (.int .u64 (bits .or .u64 (mixS 3 S T 3) (T 3))); rwa [mix_step3 h h'] at this), s2.other (by omega) _, s3.other (by omega) _, (hB.setCell (p := ⟨w.heap.size, 3, none⟩) (by simp) _).drew⟩, by simp [intOf]⟩

end Go.Proofs.YtcbdjjkebpncmaaDoor
