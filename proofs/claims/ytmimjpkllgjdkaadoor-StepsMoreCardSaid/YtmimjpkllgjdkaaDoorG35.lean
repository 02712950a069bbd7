/-
  append onto a row of the call's own, as one step of a region that draws: besides, what lay in the row's block below its length lies there still.
  The walk of initial.all.
  The iterator that slices.Backward answers: a list's numbers with their places, from the last one on.
  The walk of the closure of initial.watch: what goes back from a set, at an event.
-/
import Derived.Test.YtmimjpkllgjdkaaDoorG05
import Derived.Test.YtmimjpkllgjdkaaDoorG06
import Derived.Deep.RegionHeld3
import Derived.Test.YtmimjpkllgjdkaaDoorG30
import Derived.Test.YtmimjpkllgjdkaaDoorG27
import Derived.Test.YtmimjpkllgjdkaaDoorG13
import Derived.Test.YtmimjpkllgjdkaaDoorCSetOps
import Derived.Test.YtmimjpkllgjdkaaDoorG16
import Derived.Test.YtmimjpkllgjdkaaDoorG11
import Derived.Test.YtmimjpkllgjdkaaDoorCSpread
import Derived.Test.YtmimjpkllgjdkaaDoorG26
namespace Go.Proofs.YtmimjpkllgjdkaaDoor
open Go.RowKit
set_option linter.unusedVariables false

section
variable {P : Program} (w : World)
theorem run_append_keep (base : Nat) (t ty e : TypeId) (i : TypeInfo) (z : Value) (size bytes : Nat) (ht : P.underlying t = some (.slice e)) (hi : P.info? e = some i) (hz : i.zero = some z)
    (hsize : i.size = size) (hby : i.bytes = bytes) (hzs : z.cells.size = size) (hsz : 0 < size)
    (v : Value) (n : Nat) (xs : List Value) (hown : w.ownsRow base e size v n xs)
    (a : Addr) (m c : Nat) (news : List Value) (hl : news.length = m * size) (hnews : ∀ j u, news[j]? = some u → w.cell? (a.add j) = some u) (h1 : ∀ u ∈ news, u.oneCell' = true)
    (hm : 0 < m) (h63 : n + m ≤ maxLen) (hbytes : (n + m) * bytes ≤ 140737488355328) (hbase : base ≤ w.heap.size) :
    ∃ v' w', (Builtin.append_ #[t, t] ty #[v, .slice (some a) m c]).run P w = .ok v' w' ∧ w'.ownsRow base e size v' (n + m) (xs ++ news) ∧ w.grownBy w' v.ownBlock ∧ (v'.ownBlock = v.ownBlock ∨ v'.ownBlock = some w.heap.size) ∧ (∀ g, v.ownBlock = some g → ∀ (j : Nat) (u : Value), xs[j]? = some u → w'.cell? ⟨g, j, none⟩ = some u) := by
  obtain ⟨v', w', hrun, h2, h3, h4⟩ := run_append_block (P := P) w base t ty e i z size bytes ht hi hz hsize hby hzs hsz v n xs hown a m c news hl hnews h1 hm h63 hbytes hbase
  refine ⟨v', w', hrun, h2, h3, h4, fun g' hg' j u hu => ?_⟩
  have h9 : n + m ≤ 9223372036854775807 := by simp only [maxLen] at h63; omega
  subst hsize
  subst hby
  rcases hown.2 with ⟨rfl, rfl⟩ | ⟨g, cap, cur, rfl, hbg, hg, hnc, hcm, hcs, htake⟩
  · cases hg'
  · have e0 : g = g' := by injection hg'
    subst e0
    by_cases hroom : n + m ≤ cap
    · have hr := run_append_room (P := P) w t ty e i ht hi g n cap cur hg a m c news hl hnews h1 hroom (by rw [hl, hcs, ← Nat.add_mul]; exact Nat.mul_le_mul_right _ hroom)
      rw [hrun] at hr
      injection hr with e1 e2
      subst e1
      have hj := (List.getElem?_eq_some_iff.1 hu).1
      have := h2.cells (g := g) rfl j u (by rw [List.getElem?_append_left hj]; exact hu)
      rwa [addr0_add, Nat.zero_add] at this
    · have hr := run_append_grow (P := P) w t ty e i z ht hi hz ⟨g, 0, none⟩ n cap xs hown.1 (hown.cells (g := g) rfl) a m c news hl hnews (by omega) (by omega) (growslice_fits (by omega) hbytes)
      rw [hrun] at hr
      injection hr with e1 e2
      have hc := hown.cells (g := g) rfl j u hu
      rw [addr0_add, Nat.zero_add] at hc
      rw [e2]
      have hlt : g < w.heap.size := (Array.getElem?_eq_some_iff.1 hg).1
      have hb : Below w.heap.size w (w.drew.alloc (.cells (xs.toArray ++ news.toArray ++ Builtin.zeroCells z.cells (grownCap w (n + m) cap e - (n + m))) e)) := ((Below.refl _ w).drew).alloc (Nat.le_refl _) _
      exact (hb.cell (p := ⟨g, j, none⟩) hlt).trans hc
end

section
variable {P : Program} {ops : Array Oper} {o : Oper} {a : Act} {w : World} {K : Act → World → Prop} {Q : Exit → Act → World → Prop} {E : Prop}
theorem step_append_keep (hg : o.guard = none) (s x : Operand) (t : TypeId) (hop : o.op = Op.call { callee := Callee.builtin Builtin.append, args := #[s, x], argTypes := #[t, t] })
    (base : Nat) (e : TypeId) (i : TypeInfo) (z : Value) (size bytes : Nat) (h1 : P.underlying t = some (.slice e)) (h2 : P.info? e = some i) (h3 : i.zero = some z) (h4 : i.size = size) (h5 : i.bytes = bytes) (h6 : z.cells.size = size) (h7 : 0 < size)
    (v : Value) (n : Nat) (xs : List Value) (hs : a.eval s = v) (hown : w.ownsRow base e size v n xs)
    (ad : Addr) (m c : Nat) (news : List Value) (hx : a.eval x = .slice (some ad) m c) (hn : news.length = m * size) (hc : ∀ j u, news[j]? = some u → w.cell? (ad.add j) = some u) (h1c : ∀ u ∈ news, u.oneCell' = true)
    (hm : 0 < m) (b1 : n + m ≤ maxLen) (b2 : (n + m) * bytes ≤ 140737488355328) (hbase : base ≤ w.heap.size)
    (hK : ∀ v' w', w'.ownsRow base e size v' (n + m) (xs ++ news) → w.grownBy w' v.ownBlock → (v'.ownBlock = v.ownBlock ∨ v'.ownBlock = some w.heap.size) → (∀ g, v.ownBlock = some g → ∀ (j : Nat) (u : Value), xs[j]? = some u → w'.cell? ⟨g, j, none⟩ = some u) → K (a.put o.dst v') w') :
    if Region.wanted o (yielded ops a.tmps) = true then Oper.wp P o a w K Q else E := by
  have hw : Region.wanted o (yielded ops a.tmps) = true := by simp [Region.wanted, hg]
  rw [if_pos hw]
  obtain ⟨v', w', hrun, r1, r2, r3, r4⟩ := run_append_keep (P := P) w base t o.type e i z size bytes h1 h2 h3 h4 h5 h6 h7 v n xs hown ad m c news hn hc h1c hm b1 b2 hbase
  unfold Oper.wp
  simp [execOp, hop, resolve, invoke, builtin, hs, hx, hrun, Result.andThen]
  exact hK v' w' r1 r2 r3 r4
end

end Go.Proofs.YtmimjpkllgjdkaaDoor
namespace Go.Proofs.YtmimjpkllgjdkaaDoor
open Go.RowKit
set_option linter.unusedVariables false

set_option maxRecDepth 100000 in
set_option maxHeartbeats 4000000 in
theorem iall_any (p : Plant) (P : PTL) (N : Nat) (hN : Hid (p.m.st = (N : Int))) (h256 : N ≤ 256) (w : World) :
    Calls Tryd.prog 83 #[ptval p P] w fun e w' => e = .returned (sval (allF N)) ∧ Below w.heap.size w w' := by
  have B : Hid (Below w.heap.size w (((w.alloc (.cells (ptcells p P) 44)).alloc (.cells zs4 69)).alloc (.cells zs4 69))) := (((Below.refl _ _).alloc (Nat.le_refl _) _).alloc (by simp) _).alloc (by simp; omega) _
  have KP : Hid (Blk (((w.alloc (.cells (ptcells p P) 44)).alloc (.cells zs4 69)).alloc (.cells zs4 69)) w.heap.size 44 (ptcells p P)) := ((Blk.new w _ _).alloc _).alloc _
  have KR : Hid (SB (((w.alloc (.cells (ptcells p P) 44)).alloc (.cells zs4 69)).alloc (.cells zs4 69)) (w.heap.size + 1) zeroS) := by
    have := (Blk.new (w.alloc (.cells (ptcells p P) 44)) 69 zs4).alloc (.cells zs4 69)
    rwa [World.size_alloc] at this
  have KS : Hid (SB (((w.alloc (.cells (ptcells p P) 44)).alloc (.cells zs4 69)).alloc (.cells zs4 69)) (w.heap.size + 1 + 1) (allF 0)) := by
    have := Blk.new ((w.alloc (.cells (ptcells p P) 44)).alloc (.cells zs4 69)) 69 zs4
    rwa [World.size_alloc, World.size_alloc] at this
  go_enter Tryd.func83, Tryd.ntmps83
  have x0 : (((w.alloc (.cells (ptcells p P) 44)).alloc (.cells zs4 69)).alloc (.cells zs4 69)).cell? ⟨w.heap.size, 0, none⟩ = some (.int .i64 (N : Int)) := by rw [← hN.out]; exact KP.out.cell 0 rfl
  go_wp2_with fail
  clear x0
  revert B KP KR KS
  generalize (((w.alloc (.cells (ptcells p P) 44)).alloc (.cells zs4 69)).alloc (.cells zs4 69)) = V0
  intro B KP KR KS
  go_loopw [8] (fun i wr => ∃ k : Nat, k ≤ N ∧ i = .int .i64 k ∧ Hid (SB wr (w.heap.size + 1 + 1) (allF k)) ∧ Hid (Below (w.heap.size + 1 + 1) V0 wr)) (fun i _ => N - (intOf i).toNat)
  case atStart => exact ⟨0, Nat.zero_le _, rfl, KS, Below.refl _ _⟩
  case round =>
    clear KS
    obtain ⟨k, hk, rfl, LS, LB⟩ := hrel
    obtain ⟨Q, HQ⟩ : ∃ Q, Hid (Q = allF k) := ⟨_, rfl⟩
    have hok : Hid (okS Q) := by show okS Q; rw [HQ.out]; exact ok_allF k
    rw [← HQ.out] at LS
    by_cases hlt : k < N
    · obtain ⟨s0, s1, s2, s3⟩ := SB.cells LS.out
      go_wp2_with fail
      refine (with_any Q (k : Int) _ hok.out (by omega) (by omega)).mono ?_
      rintro e w1 ⟨rfl, hb⟩
      rw [Int.toNat_natCast]
      have L1 := Hid.of (LS.out.below hb LS.out.lt)
      have B1 := Hid.of (LB.out.trans (hb.mono (Nat.le_trans (Nat.le_of_lt LS.out.lt) (Nat.le_refl _))))
      clear s0 s1 s2 s3 hb
      have fz := L1.out.frozen
      obtain ⟨s0, s1, s2, s3⟩ := SB.cells L1.out
      have L2 := Hid.of (SB.set4 L1.out (withS Q k))
      have B2 := Hid.of (below_set4 B1.out (b' := w.heap.size + 1 + 1) (Nat.le_refl _) (.int .u64 (withS Q k 0)) (.int .u64 (withS Q k 1)) (.int .u64 (withS Q k 2)) (.int .u64 (withS Q k 3)))
      go_wp2_with fail
      go_roundw
      case rel => exact ⟨k + 1, by omega, by go_num, by rw [allF_succ, ← HQ.out]; exact L2, B2⟩
      case measure => simp [intOf]; omega
    · have hk2 : N ≤ k := by omega
      have HK : Hid (k = N) := by show k = N; omega
      clear hlt
      have BW := Hid.of (B.out.trans (LB.out.mono (by omega)))
      have RW := Hid.of (KR.out.below LB.out (by omega))
      obtain ⟨s0, s1, s2, s3⟩ := SB.cells LS.out
      obtain ⟨r0, r1, r2, r3⟩ := SB.cells RW.out
      have rz := RW.out.frozen
      have RR := Hid.of (SB.set4 RW.out Q)
      have BB := Hid.of (below_set4 BW.out (b' := w.heap.size + 1) (by omega) (.int .u64 (Q 0)) (.int .u64 (Q 1)) (.int .u64 (Q 2)) (.int .u64 (Q 3)))
      go_wp2_with fail
      clear r0 r1 r2 r3 s0 s1 s2 s3
      obtain ⟨r0, r1, r2, r3⟩ := SB.cells RR.out
      refine bodyPost_ret (v := sval Q) ?_ rfl ⟨by rw [HQ.out, HK.out], BB.out⟩
      simp [results, go_sem, r0, r1, r2, r3]

end Go.Proofs.YtmimjpkllgjdkaaDoor
namespace Go.Proofs.YtmimjpkllgjdkaaDoor
open Go.RowKit Go.Shelf
set_option linter.unusedVariables false
attribute [local go_sem] Oper.semAt_some

/-- A place and a number that is among some. -/
abbrev SE (seen : List Int) : Type := { x : Int × Int // x.2 ∈ seen }
abbrev seval {seen : List Int} (x : SE seen) : Array Value := #[.int .i64 x.1.1, .int .i64 x.1.2]
/-- What comes of the first k, the last one first. -/
def rvK (word : List Int) : Nat → List (Int × Int)
  | 0 => []
  | k + 1 => ((k : Int), word[k]?.getD 0) :: rvK word k
theorem se_of {seen : List Int} : ∀ (l : List (Int × Int)), (∀ x ∈ l, x.2 ∈ seen) → ∃ xs : List (SE seen), xs.map (·.1) = l
  | [], _ => ⟨[], rfl⟩
  | a :: r, h => by
    obtain ⟨xs, hx⟩ := se_of r (fun k hk => h k (by simp [hk]))
    exact ⟨⟨a, h a (by simp)⟩ :: xs, by simp [hx]⟩
theorem se_cons {seen : List Int} {rest : List (SE seen)} {a : Int × Int} {l : List (Int × Int)} (h : rest.map (·.1) = a :: l) : ∃ x r, rest = x :: r ∧ x.1 = a ∧ r.map (·.1) = l := by
  cases rest with
  | nil => simp at h
  | cons x r => exact ⟨x, r, rfl, by simpa using (List.cons.inj (by simpa using h)).1, by simpa using (List.cons.inj (by simpa using h)).2⟩
theorem rvK_in {seen word : List Int} (h : ∀ e ∈ word, e ∈ seen) : ∀ k, k ≤ word.length → ∀ x ∈ rvK word k, x.2 ∈ seen
  | 0, _ => by simp [rvK]
  | k + 1, hk => fun x hx => by
    rcases List.mem_cons.1 (show x ∈ ((k : Int), word[k]?.getD 0) :: rvK word k from hx) with rfl | hx
    · show word[k]?.getD 0 ∈ seen
      rw [List.getElem?_eq_getElem (by omega), Option.getD_some]
      exact h _ (List.getElem_mem _)
    · exact rvK_in h k (by omega) x hx
/-- The numbers that come, put the other way round, are the list's first ones. -/
theorem rvK_take (word : List Int) : ∀ k, k ≤ word.length → ((rvK word k).map (·.2)).reverse = word.take k
  | 0, _ => rfl
  | k + 1, hk => by
    rw [rvK, List.map_cons, List.reverse_cons, rvK_take word k (by omega), List.take_add_one, List.getElem?_eq_getElem (by omega)]
    rfl
/-- What a round must keep: what lies below n₀, and block Bn. -/
def KpB (n₀ Bn : Nat) (W W' : World) : Prop := Below n₀ W W' ∧ W'.heap[Bn]? = W.heap[Bn]?
theorem KpB.trans {n₀ Bn : Nat} {A B C : World} (h : KpB n₀ Bn A B) (k : KpB n₀ Bn B C) : KpB n₀ Bn A C := ⟨h.1.trans k.1, k.2.trans h.2⟩
theorem KpB.put {n₀ Bn : Nat} {w : World} (hn : n₀ ≤ w.heap.size) (hb : Bn < w.heap.size) (W : World) (l : Nat) (o o' : Obj) (hl : w.heap.size ≤ l) (h : W.heap[l]? = some o) (h1 : o.isCells = false) (h2 : o.isWalk = false) : KpB n₀ Bn W (W.putObj l o') :=
  ⟨belowK_b hn W l o o' hl h h1 h2, World.putObj_heap_other (by omega)⟩

set_option maxRecDepth 100000 in
set_option maxHeartbeats 4000000 in
theorem bkw1_in {seen : List Int} (n : Nat) (hn : 2 ≤ n) (l Bn n₀ : Nat) (a : Option Addr) (cap : Nat) (word : List Int) (hlen : word.length ≤ 9223372036854775807) (xs : List (SE seen)) (hxs : xs.map (·.1) = rvK word word.length) (J Jx : List (SE seen) → World → Prop)
    (hY : ∀ pre x W, J pre W → pre.length < xs.length → YieldAt Fence.wide (n - 1) Tryd.prog l (seval x) W fun e W' =>
      (e = .returned (.bool true) ∧ J (pre ++ [x]) W' ∧ KpB n₀ Bn W W') ∨ (e = .returned (.bool false) ∧ Jx (pre ++ [x]) W'))
    (W : World) (hBn : Boxed W Bn 22 (.slice a word.length cap)) (hA : word = [] ∨ ∃ b off, a = some ⟨b, off, none⟩ ∧ b < n₀ ∧ Cells W b off word) (h0 : J [] W) :
    CallsIn Fence.wide n Tryd.prog 115 #[.func (.yield l) #[] #[], .pointer (some ⟨Bn, 0, none⟩)] W fun e W' => (∃ v, e = .returned v) ∧
      ((∃ ys, ys = xs ∧ J ys W') ∨ (∃ pre, pre <+: xs ∧ Jx pre W')) := by
  have p0 := hBn.cell
  refine callsIn_of_wp Tryd.func115 rfl trivial ?_ rfl
  simp only [Tryd.ntmps115, List.size_toArray, List.length_cons, List.length_nil, Nat.reduceAdd, Nat.reduceSub, Array.replicate_succ, Array.replicate_zero, List.push_toArray, List.append_toArray, List.nil_append, List.cons_append]
  gi_wp2
  gi_loopw [3] (fun i wr => ∃ (k : Nat) (pre rest : List (SE seen)), i = .int .i64 ((k : Int) - 1) ∧ k ≤ word.length ∧ Hid (xs = pre ++ rest) ∧ Hid (rest.map (·.1) = rvK word k) ∧ J pre wr ∧ Hid (KpB n₀ Bn W wr)) (fun i _ => (intOf i + 1).toNat)
  case atStart => exact ⟨word.length, [], xs, by go_num, Nat.le_refl _, rfl, hxs, h0, ⟨Below.refl _ _, rfl⟩⟩
  case round =>
    obtain ⟨k, pre, rest, rfl, hk, hx, hr, hJ, hB⟩ := hrel
    cases k with
    | zero =>
      have e0 : ((0 : Nat) : Int) - 1 = -1 := rfl
      simp only [e0]
      gi_wp2
      go_end0
      have hnil' : rest = [] := List.map_eq_nil_iff.1 hr.out
      exact ⟨⟨_, rfl⟩, .inl ⟨pre, by rw [hx.out, hnil']; simp, hJ⟩⟩
    | succ m =>
      have e0 : ((m + 1 : Nat) : Int) - 1 = (m : Int) := by omega
      simp only [e0]
      have hmw : m < word.length := by omega
      obtain ⟨x, r, e1, e2, e3⟩ := se_cons (show rest.map (·.1) = ((m : Int), word[m]?.getD 0) :: rvK word m from hr.out)
      have HR := Hid.of e3
      have HX : Hid (xs = (pre ++ [x]) ++ r) := by show _ = _; rw [hx.out, e1]; simp
      obtain ⟨b, off, rfl, hb, hc⟩ : ∃ b off, a = some ⟨b, off, none⟩ ∧ b < n₀ ∧ Cells W b off word := by
        rcases hA with h | h
        · rw [h] at hmw; simp at hmw
        · exact h
      obtain ⟨v, HV, c1⟩ := hc.at hmw
      have c2 := (hB.out.1.cell (p := ⟨b, off + m, none⟩) hb).trans c1
      have c3 : wr.cell? ⟨Bn, 0, none⟩ = some (.slice (some ⟨b, off, none⟩) word.length cap) := Boxed.cell (hB.out.2.trans hBn)
      obtain ⟨fn, tmps, assign, body, hy, hR⟩ := hY pre x wr hJ (by rw [hx.out, e1]; simp)
      simp only [seval, e2, ← HV.out] at hy
      have hm0 : (0 : Int) ≤ (m : Int) := by omega
      have hmI : (m : Int) < (word.length : Int) := by omega
      clear hr hx e1 e2 e3 e0 hc c1 HV hxs
      gi_wp2
      refine ⟨fun _ => by omega, hR.mono ?_⟩
      rintro e W3 (⟨rfl, hJ3, hk3⟩ | ⟨rfl, hJx3⟩)
      · gi_wp2
        go_roundw
        case rel => exact ⟨m, pre ++ [x], r, by go_num, by omega, HX, HR, hJ3, hB.out.trans hk3⟩
        case measure => simp [intOf]
      · gi_wp2
        refine bodyPost_ret (results_none rfl _ _ _) rfl ?_
        exact ⟨⟨_, rfl⟩, .inr ⟨pre ++ [x], ⟨r, HX.out.symm⟩, hJx3⟩⟩

theorem bkw_stops {seen : List Int} (n : Nat) (hn : 2 ≤ n) (Bn n₀ : Nat) (a : Option Addr) (cap : Nat) (word : List Int) (hlen : word.length ≤ 9223372036854775807) (xs : List (SE seen)) (hxs : xs.map (·.1) = rvK word word.length) (w : World) (hBn : Boxed w Bn 22 (.slice a word.length cap)) (hn₀ : n₀ ≤ w.heap.size) (hA : word = [] ∨ ∃ b off, a = some ⟨b, off, none⟩ ∧ b < n₀ ∧ Cells w b off word) :
    SeqStopsK Fence.wide n Tryd.prog 115 #[.pointer (some ⟨Bn, 0, none⟩)] (fun x : SE seen => seval x) (KpB n₀ Bn) (fun ys => ys = xs) (fun pre => pre <+: xs) xs.length w := fun l J Jx W hW _ _ hY h0 =>
  bkw1_in n hn l Bn n₀ a cap word hlen xs hxs J Jx hY W ((hW.block Bn hBn.lt).trans hBn) (by
    rcases hA with h | ⟨b, off, h1, h2, h3⟩
    · exact .inl h
    · exact .inr ⟨b, off, h1, h2, fun j hj => (hW.cell (p := ⟨b, off + j, none⟩) (show b < w.heap.size by omega)).trans (h3 j hj)⟩) h0

end Go.Proofs.YtmimjpkllgjdkaaDoor
namespace Go.Proofs.YtmimjpkllgjdkaaDoor
open Go.RowKit Go.Shelf
set_option linter.unusedVariables false
attribute [local go_sem] Oper.semAt_some

/-- The table of initial.watch lies in block g: 8 rows of 6 sets. -/
def TI (W : World) (g : Nat) (T : Nat → Nat → Nat) : Prop := ∃ cs, Blk W g 138 cs ∧ cs.size = 192 ∧ ∀ e n j, e < 8 → n < 6 → j < 4 → cs[e * 24 + n * 4 + j]? = some (.int .u64 (T (e * 6 + n) j))
theorem TI.cells {W : World} {g : Nat} {T : Nat → Nat → Nat} (h : TI W g T) {e n : Nat} (he : e < 8) (hn : n < 6) : W.cell? ⟨g, e * 24 + n * 4, none⟩ = some (.int .u64 (T (e * 6 + n) 0)) ∧ W.cell? ⟨g, e * 24 + n * 4 + 1, none⟩ = some (.int .u64 (T (e * 6 + n) 1)) ∧ W.cell? ⟨g, e * 24 + n * 4 + 2, none⟩ = some (.int .u64 (T (e * 6 + n) 2)) ∧ W.cell? ⟨g, e * 24 + n * 4 + 3, none⟩ = some (.int .u64 (T (e * 6 + n) 3)) := by
  obtain ⟨cs, hb, hs, hc⟩ := h
  exact ⟨hb.cell _ (hc e n 0 he hn (by omega)), hb.cell _ (hc e n 1 he hn (by omega)), hb.cell _ (hc e n 2 he hn (by omega)), hb.cell _ (hc e n 3 he hn (by omega))⟩
theorem TI.below {W W' : World} {g B : Nat} {T : Nat → Nat → Nat} (h : TI W g T) (hb : Below B W W') (hB : g < B) : TI W' g T := by
  obtain ⟨cs, h1, h2, h3⟩ := h
  exact ⟨cs, h1.below hb hB, h2, h3⟩
theorem TI.lt {W : World} {g : Nat} {T : Nat → Nat → Nat} (h : TI W g T) : g < W.heap.size := by
  obtain ⟨cs, h1, h2, h3⟩ := h
  exact h1.lt
theorem TI.frozen {W : World} {g : Nat} {T : Nat → Nat → Nat} (h : TI W g T) (j : Nat) : W.frozen? ⟨g, j, none⟩ = false := by
  obtain ⟨cs, h1, h2, h3⟩ := h
  exact h1.frozen j
/-- One set of the table stored anew. -/
theorem TI.store {W : World} {g e n : Nat} {T : Nat → Nat → Nat} (h : TI W g T) (he : e < 8) (hn : n < 6) (U : Nat → Nat) :
    TI ((((W.setCell ⟨g, e * 24 + n * 4, none⟩ (.int .u64 (U 0))).setCell ⟨g, e * 24 + n * 4 + 1, none⟩ (.int .u64 (U 1))).setCell ⟨g, e * 24 + n * 4 + 2, none⟩ (.int .u64 (U 2))).setCell ⟨g, e * 24 + n * 4 + 3, none⟩ (.int .u64 (U 3))) g (fun q => if q = e * 6 + n then U else T q) := by
  obtain ⟨cs, h1, h2, h3⟩ := h
  refine ⟨_, (((h1.set (e * 24 + n * 4) _).set (e * 24 + n * 4 + 1) _).set (e * 24 + n * 4 + 2) _).set (e * 24 + n * 4 + 3) _, by simp [h2], fun e' n' j he' hn' hj => ?_⟩
  simp only [Array.getElem?_setIfInBounds, Array.size_setIfInBounds]
  by_cases q : e' * 6 + n' = e * 6 + n
  · have q1 : e' = e := by omega
    have q2 : n' = n := by omega
    subst q1; subst q2
    have hj' : j = 0 ∨ j = 1 ∨ j = 2 ∨ j = 3 := by omega
    rcases hj' with rfl | rfl | rfl | rfl
    · simp [show e' * 24 + n' * 4 < cs.size by omega]
    · simp [show e' * 24 + n' * 4 + 1 < cs.size by omega]
    · simp [show e' * 24 + n' * 4 + 2 < cs.size by omega]
    · simp [show e' * 24 + n' * 4 + 3 < cs.size by omega]
  · have a0 : ¬ e * 24 + n * 4 = e' * 24 + n' * 4 + j := by omega
    have a1 : ¬ e * 24 + n * 4 + 1 = e' * 24 + n' * 4 + j := by omega
    have a2 : ¬ e * 24 + n * 4 + 2 = e' * 24 + n' * 4 + j := by omega
    have a3 : ¬ e * 24 + n * 4 + 3 = e' * 24 + n' * 4 + j := by omega
    rw [if_neg a3, if_neg a2, if_neg a1, if_neg a0, h3 e' n' j he' hn' hj, if_neg q]

set_option maxRecDepth 100000 in
set_option maxHeartbeats 4000000 in
theorem iwatch1_in (S : Nat → Nat) (hS : okS S) (e : Nat) (he8 : e < 8) (T : Nat → Nat → Nat) (hTok : Hid (∀ p, okS (T p))) (hall : ∀ k ∈ allS S, k < 6) (pg : Nat) (w : World) (hT : Tab w) (hTB : TI w pg T) :
    CallsIn Fence.wide 5 Tryd.prog 114 #[sval S, .int .i64 e, .pointer (some ⟨pg, 0, none⟩)] w fun e' W' => e' = .returned (sval (toF (fun n => T (e * 6 + n)) (allS S))) ∧ Below w.heap.size w W' := by
  obtain ⟨xs, hxs⟩ := nb_of (N := 6) (allS S) hall
  clear hall
  refine callsIn_of_wp_marks Tryd.func114 rfl trivial ?_ rfl
  simp only [Tryd.ntmps114, List.size_toArray, List.length_cons, List.length_nil, Nat.reduceAdd, Nat.reduceSub, Array.replicate_succ, Array.replicate_zero, List.push_toArray, List.append_toArray, List.nil_append, List.cons_append]
  gi_wp2_with (refine ⟨trivial, ?_⟩; refine CallsIn.mono (callsIn_wide.2 (all_any S _)) ?_; rintro e1 w1 ⟨rfl, rfl⟩)
  have hB0 : Below w.heap.size w (((((w.alloc (.cells (scells S) 69)).alloc (.cells #[.int .i64 e] 3)).alloc (.cells #[.int .u64 0, .int .u64 0, .int .u64 0, .int .u64 0] 69)).alloc (.cells #[.int .u64 0, .int .u64 0, .int .u64 0, .int .u64 0] 69)).alloc (.cells (scells S) 69)) := (((((Below.refl _ _).alloc (Nat.le_refl _) _).alloc (by simp) _).alloc (by simp; omega) _).alloc (by simp; omega) _).alloc (by simp; omega) _
  have bX : Boxed (((((w.alloc (.cells (scells S) 69)).alloc (.cells #[.int .i64 e] 3)).alloc (.cells #[.int .u64 0, .int .u64 0, .int .u64 0, .int .u64 0] 69)).alloc (.cells #[.int .u64 0, .int .u64 0, .int .u64 0, .int .u64 0] 69)).alloc (.cells (scells S) 69)) (w.heap.size + 1) 3 (.int .i64 e) := by
    have := (((Boxed.new (w.alloc (.cells (scells S) 69)) 3 (.int .i64 e)).alloc (.cells #[.int .u64 0, .int .u64 0, .int .u64 0, .int .u64 0] 69)).alloc (.cells #[.int .u64 0, .int .u64 0, .int .u64 0, .int .u64 0] 69)).alloc (.cells (scells S) 69)
    rwa [World.size_alloc] at this
  have bR : SB (((((w.alloc (.cells (scells S) 69)).alloc (.cells #[.int .i64 e] 3)).alloc (.cells #[.int .u64 0, .int .u64 0, .int .u64 0, .int .u64 0] 69)).alloc (.cells #[.int .u64 0, .int .u64 0, .int .u64 0, .int .u64 0] 69)).alloc (.cells (scells S) 69)) (w.heap.size + 1 + 1) zeroS := by
    have := ((Blk.new ((w.alloc (.cells (scells S) 69)).alloc (.cells #[.int .i64 e] 3)) 69 #[.int .u64 0, .int .u64 0, .int .u64 0, .int .u64 0]).alloc (.cells #[.int .u64 0, .int .u64 0, .int .u64 0, .int .u64 0] 69)).alloc (.cells (scells S) 69)
    rwa [World.size_alloc, World.size_alloc] at this
  have bO : SB (((((w.alloc (.cells (scells S) 69)).alloc (.cells #[.int .i64 e] 3)).alloc (.cells #[.int .u64 0, .int .u64 0, .int .u64 0, .int .u64 0] 69)).alloc (.cells #[.int .u64 0, .int .u64 0, .int .u64 0, .int .u64 0] 69)).alloc (.cells (scells S) 69)) (w.heap.size + 1 + 1 + 1) zeroS := by
    have := (Blk.new (((w.alloc (.cells (scells S) 69)).alloc (.cells #[.int .i64 e] 3)).alloc (.cells #[.int .u64 0, .int .u64 0, .int .u64 0, .int .u64 0] 69)) 69 #[.int .u64 0, .int .u64 0, .int .u64 0, .int .u64 0]).alloc (.cells (scells S) 69)
    rwa [World.size_alloc, World.size_alloc, World.size_alloc] at this
  have bN : SB (((((w.alloc (.cells (scells S) 69)).alloc (.cells #[.int .i64 e] 3)).alloc (.cells #[.int .u64 0, .int .u64 0, .int .u64 0, .int .u64 0] 69)).alloc (.cells #[.int .u64 0, .int .u64 0, .int .u64 0, .int .u64 0] 69)).alloc (.cells (scells S) 69)) (w.heap.size + 1 + 1 + 1 + 1) S := by
    have := Blk.new ((((w.alloc (.cells (scells S) 69)).alloc (.cells #[.int .i64 e] 3)).alloc (.cells #[.int .u64 0, .int .u64 0, .int .u64 0, .int .u64 0] 69)).alloc (.cells #[.int .u64 0, .int .u64 0, .int .u64 0, .int .u64 0] 69)) 69 (scells S)
    rwa [World.size_alloc, World.size_alloc, World.size_alloc, World.size_alloc] at this
  have hsz0 : (((((w.alloc (.cells (scells S) 69)).alloc (.cells #[.int .i64 e] 3)).alloc (.cells #[.int .u64 0, .int .u64 0, .int .u64 0, .int .u64 0] 69)).alloc (.cells #[.int .u64 0, .int .u64 0, .int .u64 0, .int .u64 0] 69)).alloc (.cells (scells S) 69)).heap.size = w.heap.size + 5 := by simp
  revert hB0 bX bR bO bN hsz0
  generalize ((((w.alloc (.cells (scells S) 69)).alloc (.cells #[.int .i64 e] 3)).alloc (.cells #[.int .u64 0, .int .u64 0, .int .u64 0, .int .u64 0] 69)).alloc (.cells #[.int .u64 0, .int .u64 0, .int .u64 0, .int .u64 0] 69)).alloc (.cells (scells S) 69) = W0
  intro hB0 bX bR bO bN hsz0
  have hT0 := hT.below hB0 hT.lt
  have hw0 := hT.lt
  refine wpIn_rangeFunc_ownG rfl (by omega) (gf := 127) (lb := #[.pointer (some ⟨w.heap.size + 1 + 1 + 1 + 1, 0, none⟩)]) rfl trivial (enters_of Tryd.func127 (by kernel_rfl) rfl)
    (all_stops 4 (by omega) (w.heap.size + 1 + 1 + 1 + 1) (w.heap.size + 3) S hS xs hxs (by omega) W0 (by omega) bN hT0) belowK_t (belowK_b (by omega)) (Below.refl _ _) (fun _ => rfl)
    (fun pre W' => SB W' (w.heap.size + 1 + 1 + 1) (toF (fun n => T (e * 6 + n)) (nbNats pre)) ∧ Below (w.heap.size + 3) W0 W')
    (fun _ _ _ => False)
    (OwnFrom.and (Go.Own.from (own_SB (w.heap.size + 1 + 1 + 1) (fun pre : List (NB 6) => toF (fun n => T (e * 6 + n)) (nbNats pre))) _) (ownFrom_below (by omega) (by omega)))
    (fun _ _ _ _ _ hs _ _ => hs)
    ⟨bO, Below.refl _ _⟩
    (fun x => { tmps := #[sval S, .int .i64 e, .pointer (some ⟨pg, 0, none⟩), .pointer (some ⟨w.heap.size, 0, none⟩), .pointer (some ⟨w.heap.size + 1, 0, none⟩), .pointer (some ⟨w.heap.size + 1 + 1, 0, none⟩), .pointer (some ⟨w.heap.size + 1 + 1 + 1, 0, none⟩), .int .i64 (x.1 : Int), sval S, .func (.func 127) #[] #[.pointer (some ⟨w.heap.size + 1 + 1 + 1 + 1, 0, none⟩)], .int .i64 (x.1 : Int), undef, undef, undef, undef, undef, undef, undef, undef], defers := [] }) ?assign ?body ?done ?stop
  case assign =>
    intro l x W K hK
    gi_wp2
    exact hK
  case body =>
    rintro l' pre x W' ⟨hO, hB'⟩ hlt
    have hBW : Below w.heap.size w W' := hB0.trans (hB'.mono (by omega))
    have hTW := hTB.below hBW hTB.lt
    have c1 : W'.cell? ⟨w.heap.size + 1, 0, none⟩ = some (.int .i64 e) := Boxed.cell ((hB'.block _ (by omega)).trans bX)
    have hx := x.2
    obtain ⟨n, hn⟩ : ∃ n, Hid (n = x.1) := ⟨_, rfl⟩
    rw [← hn.out] at hx ⊢
    obtain ⟨t0, t1, t2, t3⟩ := hTW.cells he8 hx
    obtain ⟨o0, o1, o2, o3⟩ := hO.cells
    have fO := hO.frozen
    have mx : Tryd.prog.follows .mixedOrders = true := by kernel_rfl
    have hOk : Hid (okS (toF (fun n => T (e * 6 + n)) (nbNats pre))) := ok_toF (fun _ => hTok.out _) _
    have hTp : Hid (okS (T (e * 6 + n))) := hTok.out _
    have HX : Hid (toF (fun n => T (e * 6 + n)) (nbNats (pre ++ [x])) = joinS (toF (fun n => T (e * 6 + n)) (nbNats pre)) (T (e * 6 + n))) := by show _ = _; rw [nbNats_snoc, toF_snoc, hn.out]
    have hn0 : (0 : Int) ≤ (n : Int) := by omega
    have hnI : (n : Int) < 6 := by omega
    have he0 : (0 : Int) ≤ (e : Int) := by omega
    have heI : (e : Int) < 8 := by omega
    obtain ⟨U, HU⟩ : ∃ U, Hid (U = T (e * 6 + n)) := ⟨_, rfl⟩
    rw [← HU.out] at t0 t1 t2 t3 hTp HX
    have hOd : Hid (SB W'.drew (w.heap.size + 1 + 1 + 1) (toF (fun n => T (e * 6 + n)) (nbNats pre))) := hO
    have HB := Hid.of hB'
    have HO := Hid.of hO
    clear hTW hBW hB' hO
    generalize toF (fun n => T (e * 6 + n)) (nbNats pre) = O at *
    gi_wp2
    gi_region_with_o (refine ⟨trivial, ?_⟩; refine CallsIn.mono (CallsIn.inRound l' (callsIn_wide.2 (join_any O U _ hOk.out hTp.out))) ?_; rintro e' w1 ⟨rfl, hb1⟩; have hO1 := Blk.below hOd.out hb1 hOd.out.lt; obtain ⟨y0, y1, y2, y3⟩ := SB.cells hO1; have fO1 := Blk.frozen hO1)
    all_goals
      have k1 : KeepsOthers W' w1 := ⟨hb1.size, fun k o hk _ => (hb1.block k (Array.getElem?_eq_some_iff.1 hk).1).trans hk⟩
      have k2 : Below (w.heap.size + 3) W' w1 := ((Below.refl _ W').drew).trans (hb1.mono (Nat.le_of_lt HO.out.lt))
      have k3 := below_set4 k2 (b' := w.heap.size + 1 + 1 + 1) (Nat.le_refl _) (.int .u64 (joinS O U 0)) (.int .u64 (joinS O U 1)) (.int .u64 (joinS O U 2)) (.int .u64 (joinS O U 3))
      exact ⟨((((k1.trans (KeepsOthers.setCell _ _ _)).trans (KeepsOthers.setCell _ _ _)).trans (KeepsOthers.setCell _ _ _)).trans (KeepsOthers.setCell _ _ _)).from _, k3, by rw [HX.out]; exact SB.set4 hO1 _, HB.out.trans k3⟩
  case done =>
    rintro D ys W' hD rfl ⟨hO, hB'⟩ hK
    have hBW : Below w.heap.size w W' := hB0.trans (hB'.mono (by omega))
    obtain ⟨o0, o1, o2, o3⟩ := hO.cells
    have HQ : Hid (toF (fun n => T (e * 6 + n)) (nbNats ys) = toF (fun n => T (e * 6 + n)) (allS S)) := by show _ = _; rw [← hxs]; rfl
    have hres := bR.below hB' (by omega)
    obtain ⟨r0, r1, r2, r3⟩ := SB.cells hres
    have rz := hres.frozen
    have k2 := Hid.of (SB.set4 hres (toF (fun n => T (e * 6 + n)) (nbNats ys)))
    have k3 := Hid.of (below_set4 hBW (b' := w.heap.size + 1 + 1) (by omega) (.int .u64 (toF (fun n => T (e * 6 + n)) (nbNats ys) 0)) (.int .u64 (toF (fun n => T (e * 6 + n)) (nbNats ys) 1)) (.int .u64 (toF (fun n => T (e * 6 + n)) (nbNats ys) 2)) (.int .u64 (toF (fun n => T (e * 6 + n)) (nbNats ys) 3)))
    have hMk : Marks w.heap.size [D] W' := by
      refine ⟨fun D' hD' => ?_, by simp⟩
      have e : D' = D := by simpa using hD'
      rw [e]
      exact ⟨by omega, hK⟩
    have k4 := Hid.of (hMk.other4 hres (toF (fun n => T (e * 6 + n)) (nbNats ys)))
    clear hMk
    clear hO hBW hB' hres hK
    generalize toF (fun n => T (e * 6 + n)) (nbNats ys) = O at *
    gi_wp2
    refine leaves_marks (B := w.heap.size) (fun W => SB W (w.heap.size + 1 + 1) O ∧ Below w.heap.size w W) ?hJ ?hfin [D] _ k4.out ⟨k2.out, k3.out⟩
    case hJ =>
      rintro W D ⟨h1, h2⟩ hD hk
      refine ⟨(World.putObj_heap_other (fun e => ?_)).trans h1, h2.trans (belowK_b (w := w) (Nat.le_refl _) W D _ _ hD hk rfl rfl)⟩
      have h3 : W.heap[w.heap.size + 1 + 1]? = _ := h1
      rw [e, hk] at h3
      cases h3
    case hfin =>
      rintro W ⟨h1, h2⟩
      exact ⟨_, results_cell_row (g := w.heap.size + 1 + 1) (p := 5) rfl _ _ _ _ _ _ rfl h1 Tryd.underlying69 rfl (by kernel_rfl), by rw [← HQ.out], h2⟩
  case stop =>
    rintro D c pre W _ _ h _
    exact h.elim

theorem iwatch1_any (S : Nat → Nat) (hS : okS S) (e : Nat) (he8 : e < 8) (T : Nat → Nat → Nat) (hTok : ∀ p, okS (T p)) (hall : ∀ k ∈ allS S, k < 6) (pg : Nat) (w : World) (hT : Tab w) (hTB : TI w pg T) :
    Calls Tryd.prog 114 #[sval S, .int .i64 e, .pointer (some ⟨pg, 0, none⟩)] w fun e' W' => e' = .returned (sval (toF (fun n => T (e * 6 + n)) (allS S))) ∧ Below w.heap.size w W' :=
  callsIn_wide.1 (iwatch1_in S hS e he8 T hTok hall pg w hT hTB)

end Go.Proofs.YtmimjpkllgjdkaaDoor
