/-
  The iterator that slices.Backward answers: a list's numbers with their places, from the last one on.
  The walk of jalousieref1.Has: whether a list has a number.
  The walks of jalousieref1.Same (two lists are one) and of jalousieref1.Only (the numbers of a list that are, or are not, in another).
  What is said of slices of integers that lie below some block, or in a block of integers; rows of them.
  Inner slices of integers of which nil has no room.
-/
import Derived.Test.YtdhgabpoaicjoaaDoorCSpread
import Derived.Test.YtdhgabpoaicjoaaDoorG15
import Derived.Test.YtdhgabpoaicjoaaDoorG03
import Derived.Test.YtdhgabpoaicjoaaDoorG07
import Derived.Deep.QuietTactic
import Derived.BigQuiet
import Derived.Test.YtdhgabpoaicjoaaDoorG14
namespace Go.Proofs.YtdhgabpoaicjoaaDoor
open Go.RowKit Go.Shelf
set_option linter.unusedVariables false
attribute [local go_sem] Oper.semAt_some

/-- A place and a number that is among some. -/
abbrev SE (seen : List Int) : Type := { x : Int × Int // x.2 ∈ seen }
abbrev seval {seen : List Int} (x : SE seen) : Array Value := #[.int .i64 x.1.1, .int .i64 x.1.2]
/-- What comes of the first k, the last one first. -/
def rvK (word : List Int) : Nat → List (Int × Int)
  | 0 => []
  | k + 1 => ((k : Int), word[k]?.getD 0) :: rvK word k
theorem se_of {seen : List Int} : ∀ (l : List (Int × Int)), (∀ x ∈ l, x.2 ∈ seen) → ∃ xs : List (SE seen), xs.map (·.1) = l
  | [], _ => ⟨[], rfl⟩
  | a :: r, h => by
    obtain ⟨xs, hx⟩ := se_of r (fun k hk => h k (by simp [hk]))
    exact ⟨⟨a, h a (by simp)⟩ :: xs, by simp [hx]⟩
theorem se_cons {seen : List Int} {rest : List (SE seen)} {a : Int × Int} {l : List (Int × Int)} (h : rest.map (·.1) = a :: l) : ∃ x r, rest = x :: r ∧ x.1 = a ∧ r.map (·.1) = l := by
  cases rest with
  | nil => simp at h
  | cons x r => exact ⟨x, r, rfl, by simpa using (List.cons.inj (by simpa using h)).1, by simpa using (List.cons.inj (by simpa using h)).2⟩
theorem rvK_in {seen word : List Int} (h : ∀ e ∈ word, e ∈ seen) : ∀ k, k ≤ word.length → ∀ x ∈ rvK word k, x.2 ∈ seen
  | 0, _ => by simp [rvK]
  | k + 1, hk => fun x hx => by
    rcases List.mem_cons.1 (show x ∈ ((k : Int), word[k]?.getD 0) :: rvK word k from hx) with rfl | hx
    · show word[k]?.getD 0 ∈ seen
      rw [List.getElem?_eq_getElem (by omega), Option.getD_some]
      exact h _ (List.getElem_mem _)
    · exact rvK_in h k (by omega) x hx
theorem rvK_len (word : List Int) : ∀ k, (rvK word k).length = k
  | 0 => rfl
  | k + 1 => by simp [rvK, rvK_len word k]
/-- The numbers that come, put the other way round, are the list's first ones. -/
theorem rvK_take (word : List Int) : ∀ k, k ≤ word.length → ((rvK word k).map (·.2)).reverse = word.take k
  | 0, _ => rfl
  | k + 1, hk => by
    rw [rvK, List.map_cons, List.reverse_cons, rvK_take word k (by omega), List.take_add_one, List.getElem?_eq_getElem (by omega)]
    rfl
/-- What a round must keep: what lies below n₀, and block Bn. -/
def KpB (n₀ Bn : Nat) (W W' : World) : Prop := Below n₀ W W' ∧ W'.heap[Bn]? = W.heap[Bn]?
theorem KpB.trans {n₀ Bn : Nat} {A B C : World} (h : KpB n₀ Bn A B) (k : KpB n₀ Bn B C) : KpB n₀ Bn A C := ⟨h.1.trans k.1, k.2.trans h.2⟩
theorem KpB.put {n₀ Bn : Nat} {w : World} (hn : n₀ ≤ w.heap.size) (hb : Bn < w.heap.size) (W : World) (l : Nat) (o o' : Obj) (hl : w.heap.size ≤ l) (h : W.heap[l]? = some o) (h1 : o.isCells = false) (h2 : o.isWalk = false) : KpB n₀ Bn W (W.putObj l o') :=
  ⟨belowK_b hn W l o o' hl h h1 h2, World.putObj_heap_other (by omega)⟩

set_option maxRecDepth 100000 in
set_option maxHeartbeats 4000000 in
theorem bkw1_in {seen : List Int} (n : Nat) (hn : 2 ≤ n) (l Bn n₀ : Nat) (a : Option Addr) (cap : Nat) (word : List Int) (hlen : word.length ≤ 9223372036854775807) (xs : List (SE seen)) (hxs : xs.map (·.1) = rvK word word.length) (J Jx : List (SE seen) → World → Prop)
    (hY : ∀ pre x W, J pre W → pre.length < xs.length → YieldAt Fence.wide (n - 1) Tryd.prog l (seval x) W fun e W' =>
      (e = .returned (.bool true) ∧ J (pre ++ [x]) W' ∧ KpB n₀ Bn W W') ∨ (e = .returned (.bool false) ∧ Jx (pre ++ [x]) W'))
    (W : World) (hBn : Boxed W Bn 22 (.slice a word.length cap)) (hA : word = [] ∨ ∃ b off, a = some ⟨b, off, none⟩ ∧ b < n₀ ∧ Cells W b off word) (h0 : J [] W) :
    CallsIn Fence.wide n Tryd.prog 127 #[.func (.yield l) #[] #[], .pointer (some ⟨Bn, 0, none⟩)] W fun e W' => (∃ v, e = .returned v) ∧
      ((∃ ys, ys = xs ∧ J ys W') ∨ (∃ pre, pre <+: xs ∧ Jx pre W')) := by
  have p0 := hBn.cell
  refine callsIn_of_wp Tryd.func127 rfl trivial ?_ rfl
  simp only [Tryd.ntmps127, List.size_toArray, List.length_cons, List.length_nil, Nat.reduceAdd, Nat.reduceSub, Array.replicate_succ, Array.replicate_zero, List.push_toArray, List.append_toArray, List.nil_append, List.cons_append]
  gi_wp2
  gi_loopw [3] (fun i wr => ∃ (k : Nat) (pre rest : List (SE seen)), i = .int .i64 ((k : Int) - 1) ∧ k ≤ word.length ∧ Hid (xs = pre ++ rest) ∧ Hid (rest.map (·.1) = rvK word k) ∧ J pre wr ∧ Hid (KpB n₀ Bn W wr)) (fun i _ => (intOf i + 1).toNat)
  case atStart => exact ⟨word.length, [], xs, by go_num, Nat.le_refl _, rfl, hxs, h0, ⟨Below.refl _ _, rfl⟩⟩
  case round =>
    obtain ⟨k, pre, rest, rfl, hk, hx, hr, hJ, hB⟩ := hrel
    cases k with
    | zero =>
      have e0 : ((0 : Nat) : Int) - 1 = -1 := rfl
      simp only [e0]
      gi_wp2
      go_end0
      have hnil' : rest = [] := List.map_eq_nil_iff.1 hr.out
      exact ⟨⟨_, rfl⟩, .inl ⟨pre, by rw [hx.out, hnil']; simp, hJ⟩⟩
    | succ m =>
      have e0 : ((m + 1 : Nat) : Int) - 1 = (m : Int) := by omega
      simp only [e0]
      have hmw : m < word.length := by omega
      obtain ⟨x, r, e1, e2, e3⟩ := se_cons (show rest.map (·.1) = ((m : Int), word[m]?.getD 0) :: rvK word m from hr.out)
      have HR := Hid.of e3
      have HX : Hid (xs = (pre ++ [x]) ++ r) := by show _ = _; rw [hx.out, e1]; simp
      obtain ⟨b, off, rfl, hb, hc⟩ : ∃ b off, a = some ⟨b, off, none⟩ ∧ b < n₀ ∧ Cells W b off word := by
        rcases hA with h | h
        · rw [h] at hmw; simp at hmw
        · exact h
      obtain ⟨v, HV, c1⟩ := hc.at hmw
      have c2 := (hB.out.1.cell (p := ⟨b, off + m, none⟩) hb).trans c1
      have c3 : wr.cell? ⟨Bn, 0, none⟩ = some (.slice (some ⟨b, off, none⟩) word.length cap) := Boxed.cell (hB.out.2.trans hBn)
      obtain ⟨fn, tmps, assign, body, hy, hR⟩ := hY pre x wr hJ (by rw [hx.out, e1]; simp)
      simp only [seval, e2, ← HV.out] at hy
      have hm0 : (0 : Int) ≤ (m : Int) := by omega
      have hmI : (m : Int) < (word.length : Int) := by omega
      clear hr hx e1 e2 e3 e0 hc c1 HV hxs
      gi_wp2
      refine ⟨fun _ => by omega, hR.mono ?_⟩
      rintro e W3 (⟨rfl, hJ3, hk3⟩ | ⟨rfl, hJx3⟩)
      · gi_wp2
        go_roundw
        case rel => exact ⟨m, pre ++ [x], r, by go_num, by omega, HX, HR, hJ3, hB.out.trans hk3⟩
        case measure => simp [intOf]
      · gi_wp2
        refine bodyPost_ret (results_none rfl _ _ _) rfl ?_
        exact ⟨⟨_, rfl⟩, .inr ⟨pre ++ [x], ⟨r, HX.out.symm⟩, hJx3⟩⟩

theorem bkw_stops {seen : List Int} (n : Nat) (hn : 2 ≤ n) (Bn n₀ : Nat) (a : Option Addr) (cap : Nat) (word : List Int) (hlen : word.length ≤ 9223372036854775807) (xs : List (SE seen)) (hxs : xs.map (·.1) = rvK word word.length) (w : World) (hBn : Boxed w Bn 22 (.slice a word.length cap)) (hn₀ : n₀ ≤ w.heap.size) (hA : word = [] ∨ ∃ b off, a = some ⟨b, off, none⟩ ∧ b < n₀ ∧ Cells w b off word) :
    SeqStopsK Fence.wide n Tryd.prog 127 #[.pointer (some ⟨Bn, 0, none⟩)] (fun x : SE seen => seval x) (KpB n₀ Bn) (fun ys => ys = xs) (fun pre => pre <+: xs) xs.length w := fun l J Jx W hW _ _ hY h0 =>
  bkw1_in n hn l Bn n₀ a cap word hlen xs hxs J Jx hY W ((hW.block Bn hBn.lt).trans hBn) (by
    rcases hA with h | ⟨b, off, h1, h2, h3⟩
    · exact .inl h
    · exact .inr ⟨b, off, h1, h2, fun j hj => (hW.cell (p := ⟨b, off + j, none⟩) (show b < w.heap.size by omega)).trans (h3 j hj)⟩) h0

end Go.Proofs.YtdhgabpoaicjoaaDoor
namespace Go.Proofs.YtdhgabpoaicjoaaDoor
open Go.RowKit

set_option maxHeartbeats 400000 in
theorem refHas_some (b off cap : Nat) (xs : List Int) (n : Int) (w : World) (hl : xs.length ≤ 9223372036854775807) (hc : Cells w b off xs) :
    Calls Tryd.prog 102 #[.slice (some ⟨b, off, none⟩) xs.length cap, .int .i64 n] w fun e w' => e = .returned (.bool (hasB xs n)) ∧ w' = w := by
  go_enter Tryd.func102, Tryd.ntmps102
  go_wp2
  go_loop [5] (fun i => ∃ k : Nat, k ≤ xs.length ∧ i = .int .i64 k ∧ Hid (hasB xs n = hasB (xs.drop k) n)) (fun i => xs.length - (intOf i).toNat)
  case atStart => exact ⟨0, Nat.zero_le _, rfl, rfl⟩
  case round =>
    obtain ⟨k, hk, rfl, he⟩ := hrel
    by_cases hlt : k < xs.length
    · obtain ⟨x, HX, hcell⟩ := hc.at hlt
      go_wp2
      · go_ret
        exact ⟨ret_bool (has_hit hlt he HX (by assumption)), rfl⟩
      · go_round
        case rel => exact ⟨k + 1, by omega, by go_num, has_miss hlt he HX (by assumption)⟩
        case measure => simp [intOf]; omega
    · go_wp2
      go_ret
      exact ⟨ret_bool (has_end hlt he), rfl⟩

set_option maxHeartbeats 400000 in
theorem refHas_nil (a : Option Addr) (cap : Nat) (n : Int) (w : World) :
    Calls Tryd.prog 102 #[.slice a 0 cap, .int .i64 n] w fun e w' => e = .returned (.bool false) ∧ w' = w := by
  go_enter Tryd.func102, Tryd.ntmps102
  go_wp2
  refine wp_loop_rounds 1 ?_
  rw [rounds_succ]
  go_wp2
  go_ret
  exact ⟨rfl, rfl⟩

theorem refHas_any (a : Option Addr) (cap : Nat) (xs : List Int) (n : Int) (w : World) (hs : At w a xs) (hl : xs.length ≤ maxLen) :
    Calls Tryd.prog 102 #[.slice a xs.length cap, .int .i64 n] w fun e w' => e = .returned (.bool (hasB xs n)) ∧ w' = w := by
  rcases hs with rfl | ⟨b, off, rfl, -, hc⟩
  · exact refHas_nil a cap n w
  · exact refHas_some b off cap xs n w hl hc

end Go.Proofs.YtdhgabpoaicjoaaDoor
namespace Go.Proofs.YtdhgabpoaicjoaaDoor
open Go.RowKit
set_option linter.unusedVariables false

/-- Are two lists one? (A function of our own, which the walk leaves as it stands.) -/
def sameB (xs ys : List Int) : Bool := xs == ys

theorem same_len {xs ys : List Int} (h : ¬ xs.length = ys.length) : false = sameB xs ys := by
  rw [sameB, eq_comm, beq_eq_false_iff_ne]; intro e; exact h (by rw [e])
theorem same_no {xs ys : List Int} {k : Nat} {x y : Int} (hx : Hid (x = xs[k]?.getD 0)) (hy : Hid (y = ys[k]?.getD 0)) (h : ¬ x = y) : false = sameB xs ys := by
  rw [sameB, eq_comm, beq_eq_false_iff_ne]; intro e; exact h (by rw [hx.out, hy.out, e])
theorem same_yes {xs ys : List Int} {k : Nat} {x y : Int} (h1 : k < xs.length) (h2 : k < ys.length) (hx : Hid (x = xs[k]?.getD 0)) (hy : Hid (y = ys[k]?.getD 0)) (h : x = y) (e : Hid (xs.take k = ys.take k)) : Hid (xs.take (k + 1) = ys.take (k + 1)) := by
  show xs.take (k + 1) = ys.take (k + 1)
  rw [List.take_add_one, List.take_add_one, e.out]
  have hx := hx.out; have hy := hy.out
  rw [List.getElem?_eq_getElem h1] at hx ⊢
  rw [List.getElem?_eq_getElem h2] at hy ⊢
  simp only [Option.getD_some] at hx hy
  rw [← hx, ← hy, h]
theorem same_end {xs ys : List Int} {k : Nat} (hl : xs.length = ys.length) (h : ¬ k < xs.length) (e : Hid (xs.take k = ys.take k)) : true = sameB xs ys := by
  have e := e.out
  rw [List.take_of_length_le (by omega), List.take_of_length_le (by omega)] at e
  subst e; simp [sameB]

set_option maxHeartbeats 400000 in
theorem same_ne (a b : Option Addr) (ca cb : Nat) (xs ys : List Int) (w : World) (hne : ¬ xs.length = ys.length) (hl : xs.length ≤ 9223372036854775807) (hm : ys.length ≤ 9223372036854775807) :
    Calls Tryd.prog 19 #[.slice a xs.length ca, .slice b ys.length cb] w fun e w' => e = .returned (.bool (sameB xs ys)) ∧ ∃ q, w' = w.drewN q := by
  have hb : ((xs.length : Int) != (ys.length : Int)) = true := by rw [bne_iff_ne]; omega
  go_enter Tryd.func19, Tryd.ntmps19
  go_wp2
  go_ret
  exact ⟨ret_bool (same_len hne), 0, rfl⟩

set_option maxHeartbeats 1000000 in
theorem same_eq (ba oa ca bb ob cb : Nat) (xs ys : List Int) (w : World) (hlen : Hid (xs.length = ys.length)) (hl : xs.length ≤ 9223372036854775807) (hca : Cells w ba oa xs) (hcb : Cells w bb ob ys) :
    Calls Tryd.prog 19 #[.slice (some ⟨ba, oa, none⟩) xs.length ca, .slice (some ⟨bb, ob, none⟩) ys.length cb] w fun e w' => e = .returned (.bool (sameB xs ys)) ∧ ∃ q, w' = w.drewN q := by
  have hm : ys.length ≤ 9223372036854775807 := by have := hlen.out; omega
  have hb : ((xs.length : Int) != (ys.length : Int)) = false := by have := hlen.out; simp; omega
  go_enter Tryd.func19, Tryd.ntmps19
  go_wp2
  go_loopw [5] (fun i wr => ∃ k q : Nat, k ≤ xs.length ∧ i = .int .i64 k ∧ wr = w.drewN q ∧ Hid (xs.take k = ys.take k)) (fun i _ => xs.length - (intOf i).toNat)
  case atStart => exact ⟨0, 0, Nat.zero_le _, rfl, rfl, rfl⟩
  case round =>
    obtain ⟨k, q, hk, rfl, rfl, he⟩ := hrel
    by_cases hlt : k < xs.length
    · have hlt2 : k < ys.length := by have := hlen.out; omega
      obtain ⟨x, HX, hcx⟩ := hca.at hlt
      obtain ⟨y, HY, hcy⟩ := hcb.at hlt2
      by_cases hxy : x = y
      · have HXY : Hid (x = y) := hxy
        have d : (x != y) = false := by simp [hxy]
        clear hxy
        go_wp2
        go_quiet (fail)
        go_wp2
        go_roundw
        case rel => exact ⟨k + 1, _, by omega, by go_num, rfl, same_yes hlt hlt2 HX HY HXY.out he⟩
        case measure => simp [intOf]; omega
      · have d : (x != y) = true := by simp [hxy]
        go_wp2
        go_quiet (fail)
        go_wp2
        go_ret
        exact ⟨ret_bool (same_no HX HY hxy), _, World.drewN_drewN _ _ _⟩
    · go_wp2
      go_ret
      exact ⟨ret_bool (same_end hlen.out hlt he), q, rfl⟩

set_option maxHeartbeats 400000 in
theorem same_nil (a b : Option Addr) (ca cb : Nat) (w : World) :
    Calls Tryd.prog 19 #[.slice a 0 ca, .slice b 0 cb] w fun e w' => e = .returned (.bool true) ∧ ∃ q, w' = w.drewN q := by
  go_enter Tryd.func19, Tryd.ntmps19
  go_wp2
  refine wp_loop_rounds 1 ?_
  rw [rounds_succ]
  go_wp2
  go_ret
  exact ⟨rfl, 0, rfl⟩

theorem same_any (a b : Option Addr) (ca cb : Nat) (xs ys : List Int) (w : World) (hs : At w a xs) (ht : At w b ys) (hl : xs.length ≤ maxLen) (hm : ys.length ≤ maxLen) :
    Calls Tryd.prog 19 #[.slice a xs.length ca, .slice b ys.length cb] w fun e w' => e = .returned (.bool (sameB xs ys)) ∧ ∃ q, w' = w.drewN q := by
  by_cases hne : xs.length = ys.length
  · rcases hs with rfl | ⟨ba, oa, rfl, -, hca⟩
    · have : ys = [] := List.eq_nil_of_length_eq_zero (by simpa using hne.symm)
      subst this
      exact same_nil a b ca cb w
    · rcases ht with rfl | ⟨bb, ob, rfl, -, hcb⟩
      · have : xs = [] := List.eq_nil_of_length_eq_zero (by simpa using hne)
        subst this
        exact same_nil _ b ca cb w
      · exact same_eq ba oa ca bb ob cb xs ys w hne hl hca hcb
  · exact same_ne a b ca cb xs ys w hne hl hm

end Go.Proofs.YtdhgabpoaicjoaaDoor
namespace Go.Proofs.YtdhgabpoaicjoaaDoor
open Go.RowKit
set_option linter.unusedVariables false

/-- An inner slice: it lies below block n, or in a block of integers. -/
def InnN (n : Nat) (W : World) (x : Value) (xs : List Int) : Prop := ∃ a c, x = .slice a xs.length c ∧ xs.length ≤ maxLen ∧ (xs = [] ∨ ∃ g o, a = some ⟨g, o, none⟩ ∧ g < W.heap.size ∧ Cells W g o xs ∧ (g < n ∨ ∃ cs, W.heap[g]? = some (.cells cs 3 (0, 0))))
theorem cells_block {W W' : World} {g o : Nat} {xs : List Int} (h : Cells W g o xs) (hb : W'.heap[g]? = W.heap[g]?) : Cells W' g o xs := fun j hj => by
  rw [World.cell?_of_block (w := W) hb]; exact h j hj
theorem InnN.kept {n : Nat} {W W' : World} {x : Value} {xs : List Int} (h : InnN n W x xs) (hz : W.heap.size ≤ W'.heap.size) (h1 : ∀ j, j < n → W'.heap[j]? = W.heap[j]?) (h2 : ∀ (g : Nat) (cs : Array Value), W.heap[g]? = some (.cells cs 3 (0, 0)) → W'.heap[g]? = W.heap[g]?) : InnN n W' x xs := by
  obtain ⟨a, c, e, l, h⟩ := h
  refine ⟨a, c, e, l, ?_⟩
  rcases h with h | ⟨g, o, e', hlt, hc, h⟩
  · exact .inl h
  · have hb : W'.heap[g]? = W.heap[g]? := by
      rcases h with h | ⟨cs, h⟩
      · exact h1 g h
      · exact h2 g cs h
    refine .inr ⟨g, o, e', Nat.lt_of_lt_of_le hlt hz, cells_block hc hb, ?_⟩
    rcases h with h | ⟨cs, h⟩
    · exact .inl h
    · exact .inr ⟨cs, hb.trans h⟩
theorem InnN.of_own {n : Nat} {W : World} {B : Nat} {v : Value} {xs : List Int} (h : Own W B v xs) : InnN n W v xs := by
  rcases h.2 with ⟨rfl, hn⟩ | ⟨g, cap, cur, rfl, hg, hh, hnc, hcm, hcs, ht⟩
  · have : xs = [] := List.eq_nil_of_length_eq_zero hn
    subst this
    exact ⟨none, 0, rfl, Nat.zero_le _, .inl rfl⟩
  · refine ⟨_, cap, rfl, Nat.le_trans hnc hcm, .inr ⟨g, 0, rfl, (Array.getElem?_eq_some_iff.1 hh).1, fun j hj => ?_, .inr ⟨cur, hh⟩⟩⟩
    have := h.cells (g := g) rfl j (.int .i64 (xs.getD j 0)) (by rw [List.getElem?_map, List.getElem?_eq_getElem hj]; simp [List.getElem?_eq_getElem hj])
    rwa [addr0_add] at this
theorem InnN.of_at {w W : World} {a : Option Addr} {c : Nat} {xs : List Int} (h : At w a xs) (hl : xs.length ≤ maxLen) (hb : Below w.heap.size w W) : InnN w.heap.size W (.slice a xs.length c) xs := by
  refine ⟨a, c, rfl, hl, ?_⟩
  rcases h with h | ⟨b, off, e, hlt, hc⟩
  · exact .inl h
  · exact .inr ⟨b, off, e, Nat.lt_of_lt_of_le hlt hb.size, cells_block hc (hb.block b hlt), .inl hlt⟩
theorem InnN.at {n : Nat} {W : World} {x : Value} {xs : List Int} (h : InnN n W x xs) : ∃ a c, x = .slice a xs.length c ∧ At W a xs ∧ xs.length ≤ maxLen := by
  obtain ⟨a, c, e, l, h⟩ := h
  refine ⟨a, c, e, ?_, l⟩
  rcases h with h | ⟨g, o, e', hlt, hc, h⟩
  · exact .inl h
  · exact .inr ⟨g, o, e', hlt, hc⟩
/-- A row of such slices. -/
def OwnN (n : Nat) (W : World) (B : Nat) (v : Value) (LL : List (List Int)) : Prop := ∃ vs : List Value, W.ownsRow B 22 1 v LL.length vs ∧ ∀ (j : Nat) (x : Value) (xs : List Int), vs[j]? = some x → LL[j]? = some xs → InnN n W x xs
theorem OwnN.get {n : Nat} {W : World} {B : Nat} {v : Value} {LL : List (List Int)} (h : OwnN n W B v LL) {k : Nat} {xs : List Int} (hk : LL[k]? = some xs) : ∃ g cap x, v = .slice (some ⟨g, 0, none⟩) LL.length cap ∧ B ≤ g ∧ g < W.heap.size ∧ W.cell? ⟨g, k, none⟩ = some x ∧ InnN n W x xs := by
  obtain ⟨vs, ho, hi⟩ := h
  rcases ho.2 with ⟨rfl, hn⟩ | ⟨g, cap, cur, rfl, hg, hh, hnc, hcm, hcs, ht⟩
  · have := (List.getElem?_eq_some_iff.1 hk).1; omega
  · have hlt : k < vs.length := by rw [ho.1, Nat.mul_one]; exact (List.getElem?_eq_some_iff.1 hk).1
    have hx := List.getElem?_eq_getElem hlt
    have hc := ho.cells (g := g) rfl k _ hx
    rw [addr0_add, Nat.zero_add] at hc
    exact ⟨g, cap, _, rfl, hg, (Array.getElem?_eq_some_iff.1 hh).1, hc, hi k _ xs hx hk⟩
theorem OwnN.at2 {n : Nat} {W : World} {B : Nat} {v : Value} {LL : List (List Int)} (h : OwnN n W B v LL) : ∃ a cap, v = .slice a LL.length cap ∧ At2 W a LL := by
  obtain ⟨vs, ho, hi⟩ := h
  rcases ho.2 with ⟨rfl, hn⟩ | ⟨g, cap, cur, rfl, hg, hh, hnc, hcm, hcs, ht⟩
  · have : LL = [] := List.eq_nil_of_length_eq_zero hn
    subst this
    exact ⟨none, 0, rfl, .inl rfl⟩
  · refine ⟨some ⟨g, 0, none⟩, cap, rfl, .inr ⟨g, 0, rfl, (Array.getElem?_eq_some_iff.1 hh).1, fun k xs hk => ?_⟩⟩
    have hlt : k < vs.length := by rw [ho.1, Nat.mul_one]; exact (List.getElem?_eq_some_iff.1 hk).1
    have hx := List.getElem?_eq_getElem hlt
    obtain ⟨a, c, e, h1, h2⟩ := (hi k _ xs hx hk).at
    have hc := ho.cells (g := g) rfl k _ hx
    rw [addr0_add, e] at hc
    exact ⟨a, c, hc, h1, h2⟩
theorem OwnN.kept {n : Nat} {W W' : World} {B : Nat} {v : Value} {LL : List (List Int)} (h : OwnN n W B v LL) (hz : W.heap.size ≤ W'.heap.size) (h0 : ∀ k, v.ownBlock = some k → W'.heap[k]? = W.heap[k]?) (h1 : ∀ j, j < n → W'.heap[j]? = W.heap[j]?) (h2 : ∀ (g : Nat) (cs : Array Value), W.heap[g]? = some (.cells cs 3 (0, 0)) → W'.heap[g]? = W.heap[g]?) : OwnN n W' B v LL := by
  obtain ⟨vs, ho, hi⟩ := h
  exact ⟨vs, own_same ho h0, fun j x xs a b => (hi j x xs a b).kept hz h1 h2⟩
theorem OwnN.below {n : Nat} {W W' : World} {B : Nat} {v : Value} {LL : List (List Int)} (h : OwnN n W B v LL) (hb : Below W.heap.size W W') (hn : n ≤ W.heap.size) : OwnN n W' B v LL :=
  h.kept hb.size (fun k hk => by obtain ⟨vs, ho, -⟩ := h; exact hb.block k (World.ownsRow.lt ho k hk).2) (fun j hj => hb.block j (by omega)) (fun g cs hg => hb.block g (Array.getElem?_eq_some_iff.1 hg).1)

end Go.Proofs.YtdhgabpoaicjoaaDoor
namespace Go.Proofs.YtdhgabpoaicjoaaDoor
open Go.RowKit
set_option linter.unusedVariables false

/-- An inner slice, and nil has no room. -/
def InnW (n : Nat) (W : World) (x : Value) (xs : List Int) : Prop := InnN n W x xs ∧ ∀ (m c : Nat), x = .slice none m c → c = 0
theorem InnW.kept {n : Nat} {W W' : World} {x : Value} {xs : List Int} (h : InnW n W x xs) (hz : W.heap.size ≤ W'.heap.size) (h1 : ∀ j, j < n → W'.heap[j]? = W.heap[j]?) (h2 : ∀ (g : Nat) (cs : Array Value), W.heap[g]? = some (.cells cs 3 (0, 0)) → W'.heap[g]? = W.heap[g]?) : InnW n W' x xs := ⟨h.1.kept hz h1 h2, h.2⟩
theorem InnW.below {n : Nat} {W W' : World} {x : Value} {xs : List Int} (h : InnW n W x xs) (hb : Below W.heap.size W W') (hn : n ≤ W.heap.size) : InnW n W' x xs :=
  h.kept hb.size (fun j hj => hb.block j (by omega)) (fun g cs hg => hb.block g (Array.getElem?_eq_some_iff.1 hg).1)
theorem InnW.of_own {n : Nat} {W : World} {B : Nat} {v : Value} {xs : List Int} (h : Own W B v xs) : InnW n W v xs := by
  refine ⟨InnN.of_own h, fun m c e => ?_⟩
  obtain ⟨a, cap, e1, -, -, -, e2⟩ := h.at2
  rw [e1] at e
  cases e
  exact e2 rfl
theorem InnW.at {n : Nat} {W : World} {x : Value} {xs : List Int} (h : InnW n W x xs) : ∃ a c, x = .slice a xs.length c ∧ At W a xs ∧ xs.length ≤ maxLen ∧ (a = none → c = 0) := by
  obtain ⟨a, c, e, h1, h2⟩ := h.1.at
  exact ⟨a, c, e, h1, h2, fun hn => h.2 _ c (by rw [e, hn])⟩
theorem InnW.one {n : Nat} {W : World} {x : Value} {xs : List Int} (h : InnW n W x xs) : x.oneCell' = true := by
  obtain ⟨a, c, rfl, -⟩ := h.at; rfl

theorem at_onew (W : World) (x : Int) : At (W.alloc (.cells #[.int .i64 x] 3)) (some ⟨W.heap.size, 0, none⟩) [x] := by
  refine .inr ⟨_, _, rfl, by simp, fun j hj => ?_⟩
  have : j = 0 := by simpa using hj
  subst this
  rw [World.cell?_alloc_at _ _ _ _ rfl]; rfl
theorem innW_at {w W : World} {a : Option Addr} {c : Nat} {xs : List Int} (h : At w a xs) (hl : xs.length ≤ maxLen) (hn : a = none → c = 0) (hb : Below w.heap.size w W) : InnW w.heap.size W (.slice a xs.length c) xs :=
  ⟨InnN.of_at h hl hb, fun m c' e => by cases e; exact hn rfl⟩
theorem innW_nil (n : Nat) (W : World) : InnW n W (.slice none 0 0) [] := ⟨⟨none, 0, rfl, Nat.zero_le _, .inl rfl⟩, fun m c e => by cases e; rfl⟩

end Go.Proofs.YtdhgabpoaicjoaaDoor
