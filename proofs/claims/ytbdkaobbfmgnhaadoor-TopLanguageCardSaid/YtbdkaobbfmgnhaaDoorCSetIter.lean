/-
  The iterator that Set.All answers: each number of the set in turn, rising.
-/
import Derived.Test.YtbdkaobbfmgnhaaDoorG12
namespace Go.Proofs.YtbdkaobbfmgnhaaDoor
open Go.RowKit Go.Shelf
set_option linter.unusedVariables false
attribute [local go_sem] Oper.semAt_some

theorem nb_cons {N : Nat} {rest : List (NB N)} {a : Nat} {l : List Nat} (h : rest.map (·.1) = a :: l) : ∃ x r, rest = x :: r ∧ x.1 = a ∧ r.map (·.1) = l := by
  cases rest with
  | nil => simp at h
  | cons x r => exact ⟨x, r, rfl, by simpa using (List.cons.inj (by simpa using h)).1, by simpa using (List.cons.inj (by simpa using h)).2⟩

theorem and_pred {v : Nat} (h : v ≠ 0) : v &&& (v - 1) < v := Nat.lt_of_le_of_lt Nat.and_le_right (by omega)

theorem clear_word {v : Nat} (h0 : v ≠ 0) (h : v < 18446744073709551616) : bits .and .u64 (v : Int) ((v : Int) - 1) = ((v &&& (v - 1) : Nat) : Int) := by
  have e : (v : Int) - 1 = ((v - 1 : Nat) : Int) := by omega
  rw [e]
  exact bits_and_u64_nat _ _ h (by omega)

set_option maxRecDepth 100000 in
set_option maxHeartbeats 4000000 in
theorem all1_in {N : Nat} (n : Nat) (hn : 2 ≤ n) (l Bn n₀ : Nat) (S : Nat → Nat) (hS : okS S) (xs : List (NB N)) (hxs : xs.map (·.1) = allS S) (h0n : 0 < n₀) (J Jx : List (NB N) → World → Prop)
    (hY : ∀ pre x W, J pre W → pre.length < xs.length → YieldAt Fence.wide (n - 1) Tryd.prog l (nbval x) W fun e W' =>
      (e = .returned (.bool true) ∧ J (pre ++ [x]) W' ∧ Below n₀ W W') ∨ (e = .returned (.bool false) ∧ Jx (pre ++ [x]) W'))
    (W : World) (hBn : SB W Bn S) (hT : Tab W) (h0 : J [] W) :
    CallsIn Fence.wide n Tryd.prog 126 #[.func (.yield l) #[] #[], .pointer (some ⟨Bn, 0, none⟩)] W fun e W' => (∃ v, e = .returned v) ∧
      ((∃ ys, ys = xs ∧ J ys W') ∨ (∃ pre, pre <+: xs ∧ Jx pre W')) := by
  obtain ⟨p0, p1, p2, p3⟩ := hBn.cells
  have HS := Hid.of hS
  clear hS
  have ix0 : ∀ w : World, (Instr.index 62 (.agg #[.int .u64 (S 0), .int .u64 (S 1), .int .u64 (S 2), .int .u64 (S 3)]) (.int .i64 0)).run Tryd.prog w = .ok (.int .u64 (S 0)) w := fun _ => by kernel_rfl
  have ix1 : ∀ w : World, (Instr.index 62 (.agg #[.int .u64 (S 0), .int .u64 (S 1), .int .u64 (S 2), .int .u64 (S 3)]) (.int .i64 1)).run Tryd.prog w = .ok (.int .u64 (S 1)) w := fun _ => by kernel_rfl
  have ix2 : ∀ w : World, (Instr.index 62 (.agg #[.int .u64 (S 0), .int .u64 (S 1), .int .u64 (S 2), .int .u64 (S 3)]) (.int .i64 2)).run Tryd.prog w = .ok (.int .u64 (S 2)) w := fun _ => by kernel_rfl
  have ix3 : ∀ w : World, (Instr.index 62 (.agg #[.int .u64 (S 0), .int .u64 (S 1), .int .u64 (S 2), .int .u64 (S 3)]) (.int .i64 3)).run Tryd.prog w = .ok (.int .u64 (S 3)) w := fun _ => by kernel_rfl
  refine callsIn_of_wp Tryd.func126 rfl trivial ?_ rfl
  simp only [Tryd.ntmps126, List.size_toArray, List.length_cons, List.length_nil, Nat.reduceAdd, Nat.reduceSub, Array.replicate_succ, Array.replicate_zero, List.push_toArray, List.append_toArray, List.nil_append, List.cons_append]
  gi_wp2
  gi_loopw [6] (fun i wr => ∃ (k : Nat) (pre rest : List (NB N)), k ≤ 4 ∧ i = .int .i64 k ∧ Hid (xs = pre ++ rest) ∧ Hid (rest.map (·.1) = fromS S (4 - k) k) ∧ J pre wr ∧ Below n₀ W wr) (fun i _ => 4 - (intOf i).toNat)
  case atStart => exact ⟨0, [], xs, by omega, rfl, rfl, hxs, h0, Below.refl _ _⟩
  case round =>
    obtain ⟨k, pre, rest, hk, rfl, hx, hr, hJ, hB⟩ := hrel
    have hk' : k = 4 ∨ k = 0 ∨ k = 1 ∨ k = 2 ∨ k = 3 := by omega
    rcases hk' with rfl | rfl | rfl | rfl | rfl
    · gi_wp2
      go_end0
      have hnil : rest.map (·.1) = fromS S 0 4 := hr.out
      have hnil' : rest = [] := List.map_eq_nil_iff.1 hnil
      exact ⟨⟨_, rfl⟩, .inl ⟨pre, by rw [hx.out, hnil']; simp, hJ⟩⟩
    · have e0 : ((0 : Nat) : Int) = 0 := rfl
      simp only [e0]
      gi_wp2
      gi_loopw [4] (fun lv wr' => ∃ (v : Nat) (pre' rest' : List (NB N)), lv = .int .u64 v ∧ v < 18446744073709551616 ∧ Hid (xs = pre' ++ rest') ∧ Hid (rest'.map (·.1) = bitsAt 0 v ++ fromS S 3 1) ∧ J pre' wr' ∧ Below n₀ W wr') (fun lv _ => (intOf lv).toNat)
      case atStart => exact ⟨S 0, pre, rest, rfl, HS.out 0, hx, hr, hJ, hB⟩
      case round =>
        clear hx hr hJ hB pre rest
        obtain ⟨v, pre, rest, rfl, hv, hx, hr, hJ, hB⟩ := hrel
        by_cases hz : v = 0
        · subst hz
          gi_wp2
          exact ⟨⟨1, pre, rest, by omega, by go_num, hx, (by have := hr.out; rw [bitsAt_zero] at this; exact this), hJ, hB⟩, by simp [intOf]⟩
        · obtain ⟨c, hc⟩ : ∃ c, c = Lib.ctz 64 v := ⟨_, rfl⟩
          have hclt : c < 64 := by rw [hc]; exact ctz_lt hz hv
          have hr0 := hr.out
          rw [bitsAt_cons hz hv, List.cons_append] at hr0
          obtain ⟨x, r, e1, e2, e3⟩ := nb_cons hr0
          have HR := Hid.of e3
          have HX : Hid (xs = (pre ++ [x]) ++ r) := by show _ = _; rw [hx.out, e1]; simp
          have hT' : Tab wr := hT.below hB h0n
          have htz := tz_any v wr hz hv hT'
          rw [← hc] at htz
          obtain ⟨fn, tmps, assign, body, hy, hR⟩ := hY pre x wr hJ (by rw [hx.out, e1]; simp)
          have e4 : ((x.1 : Nat) : Int) = (c : Int) := by rw [e2, ← hc]; omega
          simp only [nbval, e4] at hy
          have hcl := clear_word hz hv
          have hz1 : ((v : Int) == 0) = false := by simp; omega
          have hz2 : ¬ (v : Int) = 0 := by omega
          have hlt2 := clear_lt hv
          have HA := Hid.of (and_pred hz)
          clear hr hr0 hx e1 e2 e3 e4 hc
          gi_wp2_with (refine ⟨trivial, (fun _ => by omega), ?_⟩; refine CallsIn.mono (callsIn_wide.2 htz) ?_; rintro e w1 ⟨rfl, hw1⟩; subst hw1)
          refine ⟨fun _ => by omega, hR.mono ?_⟩
          rintro e W3 (⟨rfl, hJ3, hk3⟩ | ⟨rfl, hJx3⟩)
          · gi_wp2
            go_roundw
            case rel => exact ⟨v &&& (v - 1), pre ++ [x], r, rfl, hlt2, HX, HR, hJ3, hB.trans hk3⟩
            case measure => simp only [intOf, Int.toNat_natCast]; exact HA.out
          · gi_wp2
            refine bodyPost_ret (results_none rfl _ _ _) rfl ?_
            exact ⟨⟨_, rfl⟩, .inr ⟨pre ++ [x], ⟨r, HX.out.symm⟩, hJx3⟩⟩
    · have e0 : ((1 : Nat) : Int) = 1 := rfl
      simp only [e0]
      gi_wp2
      gi_loopw [4] (fun lv wr' => ∃ (v : Nat) (pre' rest' : List (NB N)), lv = .int .u64 v ∧ v < 18446744073709551616 ∧ Hid (xs = pre' ++ rest') ∧ Hid (rest'.map (·.1) = bitsAt 1 v ++ fromS S 2 2) ∧ J pre' wr' ∧ Below n₀ W wr') (fun lv _ => (intOf lv).toNat)
      case atStart => exact ⟨S 1, pre, rest, rfl, HS.out 1, hx, hr, hJ, hB⟩
      case round =>
        clear hx hr hJ hB pre rest
        obtain ⟨v, pre, rest, rfl, hv, hx, hr, hJ, hB⟩ := hrel
        by_cases hz : v = 0
        · subst hz
          gi_wp2
          exact ⟨⟨2, pre, rest, by omega, by go_num, hx, (by have := hr.out; rw [bitsAt_zero] at this; exact this), hJ, hB⟩, by simp [intOf]⟩
        · obtain ⟨c, hc⟩ : ∃ c, c = Lib.ctz 64 v := ⟨_, rfl⟩
          have hclt : c < 64 := by rw [hc]; exact ctz_lt hz hv
          have hr0 := hr.out
          rw [bitsAt_cons hz hv, List.cons_append] at hr0
          obtain ⟨x, r, e1, e2, e3⟩ := nb_cons hr0
          have HR := Hid.of e3
          have HX : Hid (xs = (pre ++ [x]) ++ r) := by show _ = _; rw [hx.out, e1]; simp
          have hT' : Tab wr := hT.below hB h0n
          have htz := tz_any v wr hz hv hT'
          rw [← hc] at htz
          obtain ⟨fn, tmps, assign, body, hy, hR⟩ := hY pre x wr hJ (by rw [hx.out, e1]; simp)
          have e4 : ((x.1 : Nat) : Int) = 64 + (c : Int) := by rw [e2, ← hc]; omega
          simp only [nbval, e4] at hy
          have hcl := clear_word hz hv
          have hz1 : ((v : Int) == 0) = false := by simp; omega
          have hz2 : ¬ (v : Int) = 0 := by omega
          have hlt2 := clear_lt hv
          have HA := Hid.of (and_pred hz)
          clear hr hr0 hx e1 e2 e3 e4 hc
          gi_wp2_with (refine ⟨trivial, (fun _ => by omega), ?_⟩; refine CallsIn.mono (callsIn_wide.2 htz) ?_; rintro e w1 ⟨rfl, hw1⟩; subst hw1)
          refine ⟨fun _ => by omega, hR.mono ?_⟩
          rintro e W3 (⟨rfl, hJ3, hk3⟩ | ⟨rfl, hJx3⟩)
          · gi_wp2
            go_roundw
            case rel => exact ⟨v &&& (v - 1), pre ++ [x], r, rfl, hlt2, HX, HR, hJ3, hB.trans hk3⟩
            case measure => simp only [intOf, Int.toNat_natCast]; exact HA.out
          · gi_wp2
            refine bodyPost_ret (results_none rfl _ _ _) rfl ?_
            exact ⟨⟨_, rfl⟩, .inr ⟨pre ++ [x], ⟨r, HX.out.symm⟩, hJx3⟩⟩
    · have e0 : ((2 : Nat) : Int) = 2 := rfl
      simp only [e0]
      gi_wp2
      gi_loopw [4] (fun lv wr' => ∃ (v : Nat) (pre' rest' : List (NB N)), lv = .int .u64 v ∧ v < 18446744073709551616 ∧ Hid (xs = pre' ++ rest') ∧ Hid (rest'.map (·.1) = bitsAt 2 v ++ fromS S 1 3) ∧ J pre' wr' ∧ Below n₀ W wr') (fun lv _ => (intOf lv).toNat)
      case atStart => exact ⟨S 2, pre, rest, rfl, HS.out 2, hx, hr, hJ, hB⟩
      case round =>
        clear hx hr hJ hB pre rest
        obtain ⟨v, pre, rest, rfl, hv, hx, hr, hJ, hB⟩ := hrel
        by_cases hz : v = 0
        · subst hz
          gi_wp2
          exact ⟨⟨3, pre, rest, by omega, by go_num, hx, (by have := hr.out; rw [bitsAt_zero] at this; exact this), hJ, hB⟩, by simp [intOf]⟩
        · obtain ⟨c, hc⟩ : ∃ c, c = Lib.ctz 64 v := ⟨_, rfl⟩
          have hclt : c < 64 := by rw [hc]; exact ctz_lt hz hv
          have hr0 := hr.out
          rw [bitsAt_cons hz hv, List.cons_append] at hr0
          obtain ⟨x, r, e1, e2, e3⟩ := nb_cons hr0
          have HR := Hid.of e3
          have HX : Hid (xs = (pre ++ [x]) ++ r) := by show _ = _; rw [hx.out, e1]; simp
          have hT' : Tab wr := hT.below hB h0n
          have htz := tz_any v wr hz hv hT'
          rw [← hc] at htz
          obtain ⟨fn, tmps, assign, body, hy, hR⟩ := hY pre x wr hJ (by rw [hx.out, e1]; simp)
          have e4 : ((x.1 : Nat) : Int) = 128 + (c : Int) := by rw [e2, ← hc]; omega
          simp only [nbval, e4] at hy
          have hcl := clear_word hz hv
          have hz1 : ((v : Int) == 0) = false := by simp; omega
          have hz2 : ¬ (v : Int) = 0 := by omega
          have hlt2 := clear_lt hv
          have HA := Hid.of (and_pred hz)
          clear hr hr0 hx e1 e2 e3 e4 hc
          gi_wp2_with (refine ⟨trivial, (fun _ => by omega), ?_⟩; refine CallsIn.mono (callsIn_wide.2 htz) ?_; rintro e w1 ⟨rfl, hw1⟩; subst hw1)
          refine ⟨fun _ => by omega, hR.mono ?_⟩
          rintro e W3 (⟨rfl, hJ3, hk3⟩ | ⟨rfl, hJx3⟩)
          · gi_wp2
            go_roundw
            case rel => exact ⟨v &&& (v - 1), pre ++ [x], r, rfl, hlt2, HX, HR, hJ3, hB.trans hk3⟩
            case measure => simp only [intOf, Int.toNat_natCast]; exact HA.out
          · gi_wp2
            refine bodyPost_ret (results_none rfl _ _ _) rfl ?_
            exact ⟨⟨_, rfl⟩, .inr ⟨pre ++ [x], ⟨r, HX.out.symm⟩, hJx3⟩⟩
    · have e0 : ((3 : Nat) : Int) = 3 := rfl
      simp only [e0]
      gi_wp2
      gi_loopw [4] (fun lv wr' => ∃ (v : Nat) (pre' rest' : List (NB N)), lv = .int .u64 v ∧ v < 18446744073709551616 ∧ Hid (xs = pre' ++ rest') ∧ Hid (rest'.map (·.1) = bitsAt 3 v ++ fromS S 0 4) ∧ J pre' wr' ∧ Below n₀ W wr') (fun lv _ => (intOf lv).toNat)
      case atStart => exact ⟨S 3, pre, rest, rfl, HS.out 3, hx, hr, hJ, hB⟩
      case round =>
        clear hx hr hJ hB pre rest
        obtain ⟨v, pre, rest, rfl, hv, hx, hr, hJ, hB⟩ := hrel
        by_cases hz : v = 0
        · subst hz
          gi_wp2
          exact ⟨⟨4, pre, rest, by omega, by go_num, hx, (by have := hr.out; rw [bitsAt_zero] at this; exact this), hJ, hB⟩, by simp [intOf]⟩
        · obtain ⟨c, hc⟩ : ∃ c, c = Lib.ctz 64 v := ⟨_, rfl⟩
          have hclt : c < 64 := by rw [hc]; exact ctz_lt hz hv
          have hr0 := hr.out
          rw [bitsAt_cons hz hv, List.cons_append] at hr0
          obtain ⟨x, r, e1, e2, e3⟩ := nb_cons hr0
          have HR := Hid.of e3
          have HX : Hid (xs = (pre ++ [x]) ++ r) := by show _ = _; rw [hx.out, e1]; simp
          have hT' : Tab wr := hT.below hB h0n
          have htz := tz_any v wr hz hv hT'
          rw [← hc] at htz
          obtain ⟨fn, tmps, assign, body, hy, hR⟩ := hY pre x wr hJ (by rw [hx.out, e1]; simp)
          have e4 : ((x.1 : Nat) : Int) = 192 + (c : Int) := by rw [e2, ← hc]; omega
          simp only [nbval, e4] at hy
          have hcl := clear_word hz hv
          have hz1 : ((v : Int) == 0) = false := by simp; omega
          have hz2 : ¬ (v : Int) = 0 := by omega
          have hlt2 := clear_lt hv
          have HA := Hid.of (and_pred hz)
          clear hr hr0 hx e1 e2 e3 e4 hc
          gi_wp2_with (refine ⟨trivial, (fun _ => by omega), ?_⟩; refine CallsIn.mono (callsIn_wide.2 htz) ?_; rintro e w1 ⟨rfl, hw1⟩; subst hw1)
          refine ⟨fun _ => by omega, hR.mono ?_⟩
          rintro e W3 (⟨rfl, hJ3, hk3⟩ | ⟨rfl, hJx3⟩)
          · gi_wp2
            go_roundw
            case rel => exact ⟨v &&& (v - 1), pre ++ [x], r, rfl, hlt2, HX, HR, hJ3, hB.trans hk3⟩
            case measure => simp only [intOf, Int.toNat_natCast]; exact HA.out
          · gi_wp2
            refine bodyPost_ret (results_none rfl _ _ _) rfl ?_
            exact ⟨⟨_, rfl⟩, .inr ⟨pre ++ [x], ⟨r, HX.out.symm⟩, hJx3⟩⟩

theorem all_stops {N : Nat} (n : Nat) (hn : 2 ≤ n) (Bn n₀ : Nat) (S : Nat → Nat) (hS : okS S) (xs : List (NB N)) (hxs : xs.map (·.1) = allS S) (h0n : 0 < n₀) (w : World) (hn₀ : n₀ ≤ w.heap.size) (hBn : SB w Bn S) (hT : Tab w) :
    SeqStopsK Fence.wide n Tryd.prog 126 #[.pointer (some ⟨Bn, 0, none⟩)] (fun x : NB N => nbval x) (Below n₀) (fun ys => ys = xs) (fun pre => pre <+: xs) xs.length w := fun l J Jx W hW _ _ hY h0 =>
  all1_in n hn l Bn n₀ S hS xs hxs h0n J Jx hY W (hBn.below hW hBn.lt) (hT.below hW (Nat.lt_of_lt_of_le h0n hn₀)) h0

end Go.Proofs.YtbdkaobbfmgnhaaDoor
