/-
  The iterator that slices.Backward answers, over places: they come with their numbers, from the last one on.
  A region that draws its order of evaluation, within a round of a range over a function.
  The walk of steps.compare: which of two pairs of lists comes first, as far as their lengths tell it.
  The closures of package steps, and slices.IndexFunc over places with each of them.
-/
import Derived.Test.YtmimjpkllgjdkaaDoorG35
import Derived.Test.YtmimjpkllgjdkaaDoorG26
import Derived.OrdersIn
import Derived.Deep.RegionHeld3
import Derived.RangeFuncNested
import Derived.Test.YtmimjpkllgjdkaaDoorCSpread
import Derived.Test.YtmimjpkllgjdkaaDoorG09
import Derived.Test.YtmimjpkllgjdkaaDoorG27
namespace Go.Proofs.YtmimjpkllgjdkaaDoor
open Go.RowKit Go.Shelf
set_option linter.unusedVariables false
attribute [local go_sem] Oper.semAt_some

/-- A place with its number, as it lies in memory. -/
structure EP (L : List PlC) where
  k : Nat
  s : Nat → Nat
  za : Option Addr
  zc : Nat
  wd : List Int
  at_ : L[k]? = some ⟨s, .slice za wd.length zc, wd⟩
abbrev EP.pl {L : List PlC} (x : EP L) : PlC := ⟨x.s, .slice x.za x.wd.length x.zc, x.wd⟩
abbrev epval {L : List PlC} (x : EP L) : Array Value := #[.int .i64 x.k, pcval x.pl]
/-- The numbers that come of the first k. -/
def dwN : Nat → List Nat
  | 0 => []
  | k + 1 => k :: dwN k
theorem dwN_len : ∀ k, (dwN k).length = k
  | 0 => rfl
  | k + 1 => by simp [dwN, dwN_len k]
theorem dwN_at : ∀ (k i : Nat), i < k → (dwN k)[i]? = some (k - 1 - i)
  | 0, i, h => absurd h (Nat.not_lt_zero _)
  | k + 1, 0, _ => by simp [dwN]
  | k + 1, i + 1, h => by
    rw [dwN, List.getElem?_cons_succ, dwN_at k i (by omega)]
    congr 1; omega
theorem ep_of {L : List PlC} (hf : ∀ q ∈ L, ∃ a c, q.v = .slice a q.word.length c) : ∀ k, k ≤ L.length → ∃ xs : List (EP L), xs.map (·.k) = dwN k
  | 0, _ => ⟨[], rfl⟩
  | k + 1, hk => by
    obtain ⟨xs, hx⟩ := ep_of hf k (by omega)
    have hq := List.getElem?_eq_getElem (l := L) (i := k) (by omega)
    obtain ⟨a, c, hv⟩ := hf _ (List.mem_of_getElem? hq)
    refine ⟨⟨k, L[k].s, a, c, L[k].word, ?_⟩ :: xs, by rw [List.map_cons, hx]; rfl⟩
    rw [hq, ← hv]
theorem ep_cons {L : List PlC} {rest : List (EP L)} {a : Nat} {l : List Nat} (h : rest.map (·.k) = a :: l) : ∃ x r, rest = x :: r ∧ x.k = a ∧ r.map (·.k) = l := by
  cases rest with
  | nil => simp at h
  | cons x r => exact ⟨x, r, rfl, by simpa using (List.cons.inj (by simpa using h)).1, by simpa using (List.cons.inj (by simpa using h)).2⟩

set_option maxRecDepth 100000 in
set_option maxHeartbeats 4000000 in
theorem bkp1_in {L : List PlC} (n : Nat) (hn : 2 ≤ n) (l Bn n₀ : Nat) (a : Option Addr) (cap : Nat) (hlen : L.length ≤ 64) (xs : List (EP L)) (hxs : xs.map (·.k) = dwN L.length) (J Jx : List (EP L) → World → Prop)
    (hY : ∀ pre x W, J pre W → pre.length < xs.length → YieldAt Fence.wide (n - 1) Tryd.prog l (epval x) W fun e W' =>
      (e = .returned (.bool true) ∧ J (pre ++ [x]) W' ∧ KpB n₀ Bn W W') ∨ (e = .returned (.bool false) ∧ Jx (pre ++ [x]) W'))
    (W : World) (hBn : Boxed W Bn 95 (.slice a L.length cap)) (hA : L = [] ∨ ∃ g o, a = some ⟨g, o, none⟩ ∧ g < n₀ ∧ ∀ (k : Nat) (q : PlC), L[k]? = some q → ∀ (j : Nat) (u : Value), (pccells q)[j]? = some u → W.cell? ⟨g, o + k * 5 + j, none⟩ = some u) (h0 : J [] W) :
    CallsIn Fence.wide n Tryd.prog 143 #[.func (.yield l) #[] #[], .pointer (some ⟨Bn, 0, none⟩)] W fun e W' => (∃ v, e = .returned v) ∧
      ((∃ ys, ys = xs ∧ J ys W') ∨ (∃ pre, pre <+: xs ∧ Jx pre W')) := by
  have p0 := hBn.cell
  refine callsIn_of_wp Tryd.func143 rfl trivial ?_ rfl
  simp only [Tryd.ntmps143, List.size_toArray, List.length_cons, List.length_nil, Nat.reduceAdd, Nat.reduceSub, Array.replicate_succ, Array.replicate_zero, List.push_toArray, List.append_toArray, List.nil_append, List.cons_append]
  gi_wp2
  gi_loopw [3] (fun i wr => ∃ (k : Nat) (pre rest : List (EP L)), i = .int .i64 ((k : Int) - 1) ∧ k ≤ L.length ∧ Hid (xs = pre ++ rest) ∧ Hid (rest.map (·.k) = dwN k) ∧ J pre wr ∧ Hid (KpB n₀ Bn W wr)) (fun i _ => (intOf i + 1).toNat)
  case atStart => exact ⟨L.length, [], xs, by go_num, Nat.le_refl _, rfl, hxs, h0, ⟨Below.refl _ _, rfl⟩⟩
  case round =>
    obtain ⟨k, pre, rest, rfl, hk, hx, hr, hJ, hB⟩ := hrel
    cases k with
    | zero =>
      have e0 : ((0 : Nat) : Int) - 1 = -1 := rfl
      simp only [e0]
      gi_wp2
      go_end0
      have hnil' : rest = [] := List.map_eq_nil_iff.1 hr.out
      exact ⟨⟨_, rfl⟩, .inl ⟨pre, by rw [hx.out, hnil']; simp, hJ⟩⟩
    | succ m =>
      have e0 : ((m + 1 : Nat) : Int) - 1 = (m : Int) := by omega
      simp only [e0]
      have hmw : m < L.length := by omega
      obtain ⟨x, r, e1, e2, e3⟩ := ep_cons (show rest.map (·.k) = m :: dwN m from hr.out)
      have HR := Hid.of e3
      have HX : Hid (xs = (pre ++ [x]) ++ r) := by show _ = _; rw [hx.out, e1]; simp
      obtain ⟨g, o, rfl, hg, hc⟩ : ∃ g o, a = some ⟨g, o, none⟩ ∧ g < n₀ ∧ ∀ (k : Nat) (q : PlC), L[k]? = some q → ∀ (j : Nat) (u : Value), (pccells q)[j]? = some u → W.cell? ⟨g, o + k * 5 + j, none⟩ = some u := by
        rcases hA with h | h
        · rw [h] at hmw; simp at hmw
        · exact h
      obtain ⟨fn, tmps, assign, body, hy, hR⟩ := hY pre x wr hJ (by rw [hx.out, e1]; simp)
      obtain ⟨xk, xs', xa, xc, xw, xat⟩ := x
      dsimp only at e2
      subst e2
      obtain ⟨d0, d1, d2, d3, d4⟩ := rdc_cells (hc xk _ xat)
      have c0 := (hB.out.1.cell (p := ⟨g, o + xk * 5, none⟩) hg).trans d0
      have c1 := (hB.out.1.cell (p := ⟨g, o + xk * 5 + 1, none⟩) hg).trans d1
      have c2 := (hB.out.1.cell (p := ⟨g, o + xk * 5 + 2, none⟩) hg).trans d2
      have c3 := (hB.out.1.cell (p := ⟨g, o + xk * 5 + 3, none⟩) hg).trans d3
      have c4 := (hB.out.1.cell (p := ⟨g, o + xk * 5 + 4, none⟩) hg).trans d4
      dsimp only at c0 c1 c2 c3 c4
      have cB : wr.cell? ⟨Bn, 0, none⟩ = some (.slice (some ⟨g, o, none⟩) L.length cap) := Boxed.cell (hB.out.2.trans hBn)
      simp only [epval, pcval, pcarr] at hy
      have hm0 : (0 : Int) ≤ (xk : Int) := by omega
      have hmI : (xk : Int) < (L.length : Int) := by omega
      clear hr hx e1 e3 e0 hc d0 d1 d2 d3 d4 hxs
      gi_wp2
      refine ⟨fun _ => by omega, hR.mono ?_⟩
      rintro e W3 (⟨rfl, hJ3, hk3⟩ | ⟨rfl, hJx3⟩)
      · gi_wp2
        go_roundw
        case rel => exact ⟨xk, _, r, by go_num, by omega, HX, HR, hJ3, hB.out.trans hk3⟩
        case measure => simp [intOf]
      · gi_wp2
        refine bodyPost_ret (results_none rfl _ _ _) rfl ?_
        exact ⟨⟨_, rfl⟩, .inr ⟨_, ⟨r, HX.out.symm⟩, hJx3⟩⟩

theorem bkp_stops {L : List PlC} (n : Nat) (hn : 2 ≤ n) (Bn n₀ : Nat) (a : Option Addr) (cap : Nat) (hlen : L.length ≤ 64) (xs : List (EP L)) (hxs : xs.map (·.k) = dwN L.length) (w : World) (hBn : Boxed w Bn 95 (.slice a L.length cap)) (hn₀ : n₀ ≤ w.heap.size) (hA : L = [] ∨ ∃ g o, a = some ⟨g, o, none⟩ ∧ g < n₀ ∧ ∀ (k : Nat) (q : PlC), L[k]? = some q → ∀ (j : Nat) (u : Value), (pccells q)[j]? = some u → w.cell? ⟨g, o + k * 5 + j, none⟩ = some u) :
    SeqStopsK Fence.wide n Tryd.prog 143 #[.pointer (some ⟨Bn, 0, none⟩)] (fun x : EP L => epval x) (KpB n₀ Bn) (fun ys => ys = xs) (fun pre => pre <+: xs) xs.length w := fun l J Jx W hW _ _ hY h0 =>
  bkp1_in n hn l Bn n₀ a cap hlen xs hxs J Jx hY W ((hW.block Bn hBn.lt).trans hBn) (by
    rcases hA with h | ⟨g, o, h1, h2, h3⟩
    · exact .inl h
    · exact .inr ⟨g, o, h1, h2, fun k q hq j u hu => (hW.cell (p := ⟨g, o + k * 5 + j, none⟩) (show g < w.heap.size by omega)).trans (h3 k q hq j u hu)⟩) h0

set_option maxRecDepth 100000 in
set_option maxHeartbeats 400000 in
theorem backwardP_any (a : Option Addr) (n c : Nat) (w : World) :
    Calls Tryd.prog 116 #[.slice a n c] w fun e w' => e = .returned (.func (.func 143) #[] #[.pointer (some ⟨w.heap.size, 0, none⟩)]) ∧ w' = w.alloc (.cells #[.slice a n c] 95) := by
  have hmf : ∀ (fn : Fn) (first cap : Array Value) (w : World), (Instr.makeFunc fn first cap).run Tryd.prog w = .ok (.func fn first cap) w := fun _ _ _ _ => rfl
  go_enter Tryd.func116, Tryd.ntmps116
  go_wp2_with fail
  go_ret
  exact ⟨rfl, rfl⟩

end Go.Proofs.YtmimjpkllgjdkaaDoor
namespace Go.Proofs.YtmimjpkllgjdkaaDoor
open Go.RowKit
set_option linter.unusedVariables false

section
variable {P : Program} {ops : Array Oper} {Q : Exit → Act → World → Prop} {md : Region.Mode} {l n : Nat}
theorem rowsIn_round {row : String} {args : Array Value} {w : World} {R : Value → World → Prop} (h : Rows P row args w R) : RowsIn (Fence.wide.inRound l) n P row args w R :=
  fun c cs _ => let ⟨v, w', r, s⟩ := h c cs; ⟨v, w', r, stepsIn_wide.2 s⟩
theorem operIn_round {o : Oper} (hd : ∀ c, o.op ≠ .defer c) {a : Act} {w : World} {K : Act → World → Prop} (h : o.wp P a w K Q) : o.wpIn (Fence.wide.inRound l) n P a w K Q := by
  refine ⟨fun f _ => trivial, ?_⟩
  rw [show (Fence.wide.inRound l).round = some l from rfl, Oper.semAt_some l _ _ hd]
  unfold Oper.wp at h
  generalize (execOp a.eval o).run P w = r at h
  cases r with
  | ok x w' =>
    cases x <;> simp only [Oper.upon, Oper.uponIn] at h ⊢ <;> first
      | exact h
      | exact ⟨fun hd => absurd hd (by simp [Fence.wide, Fence.inRound]), CallsIn.inRound l (callsIn_wide.2 h)⟩
      | exact ⟨fun hd => absurd hd (by simp [Fence.wide, Fence.inRound]), rowsIn_round h⟩
  | halt x w' =>
    cases x <;> simp only [Oper.upon, Oper.uponIn] at h ⊢ <;> exact h
theorem wpAnyIn_round (hd : ∀ (i : Nat) (o : Oper), ops[i]? = some o → ∀ c, o.op ≠ .defer c) (hQ : ¬ LetsOut Q) : ∀ (fuel : Nat) (listed : Array Bool) (a : Act) (w : World), wpAny P md ops Q fuel listed a w → wpAnyIn (Fence.wide.inRound l) n P md ops Q fuel listed a w := by
  intro fuel
  induction fuel with
  | zero => intro listed a w h; exact h
  | succ fuel ih =>
    intro listed a w h
    refine ⟨h.1, fun i hi => ?_⟩
    have h2 := h.2 i hi
    unfold wpOp at h2
    unfold wpOpIn
    cases ho : ops[i]? with
    | none => rw [ho] at h2; exact ih _ _ _ h2
    | some o =>
      rw [ho] at h2
      dsimp only at h2 ⊢
      split
      · rename_i hw
        rw [if_pos hw] at h2
        rcases h2 with h2 | ⟨-, h2⟩
        · exact Oper.wpIn_mono (fun a w h => ih _ a w h) (operIn_round (hd i o ho) h2)
        · exact absurd h2 hQ
      · rename_i hw
        rw [if_neg hw] at h2
        exact ⟨fun f _ => trivial, ih _ _ _ h2⟩
/-- No operation of it defers. -/
def noDefer (ops : Array Oper) : Bool := ops.toList.all fun o => match o.op with
  | .defer _ => false
  | _ => true
theorem noDefer_spec (h : noDefer ops = true) : ∀ (i : Nat) (o : Oper), ops[i]? = some o → ∀ c, o.op ≠ .defer c := fun i o hi c hc => by
  unfold noDefer at h
  rw [List.all_eq_true] at h
  have := h o (by rw [Array.mem_toList_iff]; exact Array.mem_of_getElem? hi)
  rw [hc] at this; cases this
/-- Its walk is that of the region outside of rounds. -/
theorem wpIn_region_round {S : World → Prop} {id : Nat} {a : Act} {w : World} (hm : P.follows .mixedOrders = true) (hd : ∀ (i : Nat) (o : Oper), ops[i]? = some o → ∀ c, o.op ≠ .defer c) (hQ : ¬ LetsOut Q) (hS : S w.drew)
    (h : S w.drew → wpAnyH P .any ops Q S ops.size (Array.replicate ops.size false) a w.drew) : (Code.region id ops true).wpIn (Fence.wide.inRound l) n P Q a w :=
  wpIn_region_any hm (wpAnyIn_round hd hQ _ _ _ _ (wpAny_of_held _ _ _ _ (h hS)))
end

end Go.Proofs.YtmimjpkllgjdkaaDoor
namespace Go.Proofs.YtmimjpkllgjdkaaDoor
open Go.RowKit
set_option linter.unusedVariables false
set_option maxRecDepth 100000

/-- The first of two that is not 0. -/
def orI2 (x y : Int) : Int := if x = 0 then y else x

set_option maxHeartbeats 1000000 in
theorem or2_any (x y : Int) (b : Nat) (w : World) (h0 : w.cell? ⟨b, 0, none⟩ = some (.int .i64 x)) (h1 : w.cell? ⟨b, 1, none⟩ = some (.int .i64 y)) :
    Calls Tryd.prog 122 #[.slice (some ⟨b, 0, none⟩) 2 2] w fun e w' => e = .returned (.int .i64 (orI2 x y)) ∧ w' = w := by
  by_cases e0 : x = 0
  · subst e0
    by_cases e1 : y = 0
    · subst e1
      go_enter Tryd.func122, Tryd.ntmps122
      go_wp2
      refine wp_loop_rounds 3 ?_
      rw [rounds_succ]
      go_wp2
      rw [rounds_succ]
      go_wp2
      rw [rounds_succ]
      go_wp2
      go_ret
      exact ⟨ret_i64 (by simp [orI2]), rfl⟩
    · have f1 : (y == 0) = false := by simpa using e1
      have f1' : (y != 0) = true := by simpa using e1
      have hr : Hid (y = orI2 0 y) := by show _ = _; simp [orI2]
      go_enter Tryd.func122, Tryd.ntmps122
      go_wp2
      refine wp_loop_rounds 3 ?_
      rw [rounds_succ]
      go_wp2
      rw [rounds_succ]
      go_wp2
      go_ret
      exact ⟨ret_i64 hr.out, rfl⟩
  · have f0 : (x == 0) = false := by simpa using e0
    have f0' : (x != 0) = true := by simpa using e0
    have hr : Hid (x = orI2 x y) := by show _ = _; simp [orI2, e0]
    go_enter Tryd.func122, Tryd.ntmps122
    go_wp2
    refine wp_loop_rounds 3 ?_
    rw [rounds_succ]
    go_wp2
    go_ret
    exact ⟨ret_i64 hr.out, rfl⟩

/-- A pair of lists as it lies in memory: where each lies, how long it is, and how much room it has. -/
structure PrV where
  a : Option Addr
  n : Nat
  c : Nat
  a' : Option Addr
  n' : Nat
  c' : Nat
abbrev prcells (q : PrV) : Array Value := #[.slice q.a q.n q.c, .slice q.a' q.n' q.c']
abbrev prval (q : PrV) : Value := .agg (prcells q)
def cmpP (p q : PrV) : Int := orI2 (cmpI ((p.n : Int) + (p.n' : Int)) ((q.n : Int) + (q.n' : Int))) (cmpI (p.n' : Int) (q.n' : Int))
theorem cmpP_le (p q : PrV) : decide (cmpP p q ≤ 0) = decide (p.n + p.n' < q.n + q.n' ∨ (p.n + p.n' = q.n + q.n' ∧ p.n' ≤ q.n')) := by
  rw [decide_eq_decide]
  unfold cmpP orI2 cmpI
  split <;> (repeat' split at *) <;> constructor <;> intro h <;> first | omega | (exfalso; omega)

set_option maxHeartbeats 4000000 in
theorem scompare_any (p q : PrV) (w : World) (h1 : p.n ≤ 64) (h2 : p.n' ≤ 64) (h3 : q.n ≤ 64) (h4 : q.n' ≤ 64) :
    Calls Tryd.prog 119 #[prval p, prval q] w fun e w' => e = .returned (.int .i64 (cmpP p q)) ∧ Below w.heap.size w w' := by
  obtain ⟨pa, pn, pc, pa', pn', pc'⟩ := p
  obtain ⟨qa, qn, qc, qa', qn', qc'⟩ := q
  dsimp only at h1 h2 h3 h4
  have k1 : Blk ((w.alloc (.cells (prcells ⟨pa, pn, pc, pa', pn', pc'⟩) 113)).alloc (.cells (prcells ⟨qa, qn, qc, qa', qn', qc'⟩) 113)) w.heap.size 113 (prcells ⟨pa, pn, pc, pa', pn', pc'⟩) := (Blk.new w _ _).alloc _
  have k2 : Blk ((w.alloc (.cells (prcells ⟨pa, pn, pc, pa', pn', pc'⟩) 113)).alloc (.cells (prcells ⟨qa, qn, qc, qa', qn', qc'⟩) 113)) (w.heap.size + 1) 113 (prcells ⟨qa, qn, qc, qa', qn', qc'⟩) := by
    have := Blk.new (w.alloc (.cells (prcells ⟨pa, pn, pc, pa', pn', pc'⟩) 113)) 113 (prcells ⟨qa, qn, qc, qa', qn', qc'⟩)
    rwa [World.size_alloc] at this
  have hB : Below w.heap.size w ((w.alloc (.cells (prcells ⟨pa, pn, pc, pa', pn', pc'⟩) 113)).alloc (.cells (prcells ⟨qa, qn, qc, qa', qn', qc'⟩) 113)) := ((Below.refl _ _).alloc (Nat.le_refl _) _).alloc (by simp) _
  have hsz : ((w.alloc (.cells (prcells ⟨pa, pn, pc, pa', pn', pc'⟩) 113)).alloc (.cells (prcells ⟨qa, qn, qc, qa', qn', qc'⟩) 113)).heap.size = w.heap.size + 2 := by simp
  have K1 := Hid.of k1
  have K2 := Hid.of k2
  have HB := Hid.of hB
  have HS := Hid.of hsz
  clear k1 k2 hB hsz
  have hw1 : IntKind.i64.wrap ((pn : Int) + (pn' : Int)) = (pn : Int) + (pn' : Int) := by rw [IntKind.wrap_i64]; omega
  have hw2 : IntKind.i64.wrap ((qn : Int) + (qn' : Int)) = (qn : Int) + (qn' : Int) := by rw [IntKind.wrap_i64]; omega
  go_enter Tryd.func119, Tryd.ntmps119
  go_wp2
  revert K1 K2 HB HS
  generalize (w.alloc (.cells (prcells ⟨pa, pn, pc, pa', pn', pc'⟩) 113)).alloc (.cells (prcells ⟨qa, qn, qc, qa', qn', qc'⟩) 113) = V
  intro K1 K2 HB HS
  have a0 : V.cell? ⟨w.heap.size, 0, none⟩ = some (.slice pa pn pc) := K1.out.cell 0 rfl
  have a1 : V.cell? ⟨w.heap.size, 1, none⟩ = some (.slice pa' pn' pc') := K1.out.cell 1 rfl
  have b0 : V.cell? ⟨w.heap.size + 1, 0, none⟩ = some (.slice qa qn qc) := K2.out.cell 0 rfl
  have b1 : V.cell? ⟨w.heap.size + 1, 1, none⟩ = some (.slice qa' qn' qc') := K2.out.cell 1 rfl
  have hs := HS.out
  have hn1 : w.heap.size < V.heap.size := by omega
  have hn2 : w.heap.size + 1 < V.heap.size := by omega
  have n1 := World.new_ne V _ a0
  have n2 := World.new_ne V _ b0
  go_region_held3 (fun w' => w'.cell? ⟨w.heap.size, 0, none⟩ = some (.slice pa pn pc) ∧ w'.cell? ⟨w.heap.size, 1, none⟩ = some (.slice pa' pn' pc') ∧ w'.cell? ⟨w.heap.size + 1, 0, none⟩ = some (.slice qa qn qc) ∧ w'.cell? ⟨w.heap.size + 1, 1, none⟩ = some (.slice qa' qn' qc')) (go_keep) (first | (go_at_call 123; refine (cmp_any _ _ _).mono ?_; rintro e w1 ⟨rfl, rfl⟩) | (go_at_call 122; refine (or2_any (cmpI ((pn : Int) + (pn' : Int)) ((qn : Int) + (qn' : Int))) (cmpI (pn' : Int) (qn' : Int)) _ _ (by go_simp) (by go_simp)).mono ?_; rintro e w1 ⟨rfl, rfl⟩))
  go_wp2
  go_ret
  exact ⟨rfl, (HB.out.alloc HB.out.size _).drew⟩

end Go.Proofs.YtmimjpkllgjdkaaDoor
namespace Go.Proofs.YtmimjpkllgjdkaaDoor
open Go.RowKit
set_option linter.unusedVariables false

set_option maxRecDepth 100000 in
set_option maxHeartbeats 2000000 in
theorem upTo1_any (qs : Nat → Nat) (za : Option Addr) (zc : Nat) (qw : List Int) (most : Int) (pm : Nat) (w : World) (hm : w.cell? ⟨pm, 0, none⟩ = some (.int .i64 most)) :
    Calls Tryd.prog 120 #[pcval ⟨qs, .slice za qw.length zc, qw⟩, .pointer (some ⟨pm, 0, none⟩)] w fun e w' => e = .returned (.bool (decide (most < (qw.length : Int)))) ∧ Below w.heap.size w w' := by
  have B : Hid (Below w.heap.size w (w.alloc (.cells (pcarr ⟨qs, .slice za qw.length zc, qw⟩) 99))) := (Below.refl _ _).alloc (Nat.le_refl _) _
  have KQ : Hid (Blk (w.alloc (.cells (pcarr ⟨qs, .slice za qw.length zc, qw⟩) 99)) w.heap.size 99 (pcarr ⟨qs, .slice za qw.length zc, qw⟩)) := Blk.new w _ _
  have hm2 : (w.alloc (.cells (pcarr ⟨qs, .slice za qw.length zc, qw⟩) 99)).cell? ⟨pm, 0, none⟩ = some (.int .i64 most) := (World.cell?_alloc_some w _ _ (by rw [hm]; rfl)).trans hm
  obtain ⟨n0, n1, n2, n3, n4⟩ := PCk.cells KQ.out
  go_enter Tryd.func120, Tryd.ntmps120
  go_wp2_with fail
  go_ret
  exact ⟨rfl, B.out⟩

set_option maxRecDepth 100000 in
set_option maxHeartbeats 4000000 in
theorem first1_any (b : PlC) (qs : Nat → Nat) (za : Option Addr) (zc : Nat) (qw : List Int) (R : Nat → Nat) (ob : okS b.s) (oq : okS qs) (oR : okS R) (pb pr : Nat) (w : World) (hb : Hid (Blk w pb 99 (pcarr b))) (hr : Hid (SB w pr R)) :
    Calls Tryd.prog 118 #[pcval ⟨qs, .slice za qw.length zc, qw⟩, .pointer (some ⟨pb, 0, none⟩), .pointer (some ⟨pr, 0, none⟩)] w fun e w' => e = .returned (.bool (onlyS (meetS b.s qs) R)) ∧ Below w.heap.size w w' := by
  have B : Hid (Below w.heap.size w (w.alloc (.cells (pcarr ⟨qs, .slice za qw.length zc, qw⟩) 99))) := (Below.refl _ _).alloc (Nat.le_refl _) _
  have KQ : Hid (Blk (w.alloc (.cells (pcarr ⟨qs, .slice za qw.length zc, qw⟩) 99)) w.heap.size 99 (pcarr ⟨qs, .slice za qw.length zc, qw⟩)) := Blk.new w _ _
  have SA : Hid (∀ W, Below w.heap.size w W → Blk W w.heap.size 99 (pcarr ⟨qs, .slice za qw.length zc, qw⟩) → W.cell? ⟨pb, 0, none⟩ = some (.int .u64 (b.s 0)) ∧ W.cell? ⟨pb, 1, none⟩ = some (.int .u64 (b.s 1)) ∧ W.cell? ⟨pb, 2, none⟩ = some (.int .u64 (b.s 2)) ∧ W.cell? ⟨pb, 3, none⟩ = some (.int .u64 (b.s 3)) ∧ W.cell? ⟨w.heap.size, 0, none⟩ = some (.int .u64 (qs 0)) ∧ W.cell? ⟨w.heap.size, 1, none⟩ = some (.int .u64 (qs 1)) ∧ W.cell? ⟨w.heap.size, 2, none⟩ = some (.int .u64 (qs 2)) ∧ W.cell? ⟨w.heap.size, 3, none⟩ = some (.int .u64 (qs 3)) ∧ W.cell? ⟨pr, 0, none⟩ = some (.int .u64 (R 0)) ∧ W.cell? ⟨pr, 1, none⟩ = some (.int .u64 (R 1)) ∧ W.cell? ⟨pr, 2, none⟩ = some (.int .u64 (R 2)) ∧ W.cell? ⟨pr, 3, none⟩ = some (.int .u64 (R 3))) := fun W h1 h2 => by
    obtain ⟨x0, x1, x2, x3, -⟩ := PCk.cells (hb.out.below h1 hb.out.lt)
    obtain ⟨n0, n1, n2, n3, -⟩ := PCk.cells h2
    obtain ⟨y0, y1, y2, y3⟩ := SB.cells (hr.out.below h1 hr.out.lt)
    exact ⟨x0, x1, x2, x3, n0, n1, n2, n3, y0, y1, y2, y3⟩
  go_enter Tryd.func118, Tryd.ntmps118
  go_wp2_with fail
  revert B KQ
  generalize w.alloc (.cells (pcarr ⟨qs, .slice za qw.length zc, qw⟩) 99) = V0
  intro B KQ
  refine wp_region_held_drew (S := fun w' => w'.cell? ⟨pb, 0, none⟩ = some (.int .u64 (b.s 0)) ∧ w'.cell? ⟨pb, 1, none⟩ = some (.int .u64 (b.s 1)) ∧ w'.cell? ⟨pb, 2, none⟩ = some (.int .u64 (b.s 2)) ∧ w'.cell? ⟨pb, 3, none⟩ = some (.int .u64 (b.s 3)) ∧ w'.cell? ⟨w.heap.size, 0, none⟩ = some (.int .u64 (qs 0)) ∧ w'.cell? ⟨w.heap.size, 1, none⟩ = some (.int .u64 (qs 1)) ∧ w'.cell? ⟨w.heap.size, 2, none⟩ = some (.int .u64 (qs 2)) ∧ w'.cell? ⟨w.heap.size, 3, none⟩ = some (.int .u64 (qs 3)) ∧ w'.cell? ⟨pr, 0, none⟩ = some (.int .u64 (R 0)) ∧ w'.cell? ⟨pr, 1, none⟩ = some (.int .u64 (R 1)) ∧ w'.cell? ⟨pr, 2, none⟩ = some (.int .u64 (R 2)) ∧ w'.cell? ⟨pr, 3, none⟩ = some (.int .u64 (R 3))) (by kernel_rfl) (SA.out _ B.out.drew (Blk.drew KQ.out)) (fun hS => ?_)
  replace B : Hid (Below w.heap.size w V0.drew) := B.out.drew
  replace KQ : Hid (Blk V0.drew w.heap.size 99 (pcarr ⟨qs, .slice za qw.length zc, qw⟩)) := Blk.drew KQ.out
  revert hS B KQ
  generalize V0.drew = Y0
  intro hS B KQ
  refine wpAnyH_take (i := 0) (v := .pointer (some ⟨pb, 0, none⟩)) rfl (by kernel_rfl) (by kernel_rfl) (by kernel_rfl) (fun _ _ _ h => h) (Or.inl ⟨by kernel_rfl, fun w' hw' => by obtain ⟨q0, q1, q2, q3, q4, q5, q6, q7, q8, q9, q10, q11⟩ := hw'; go_simp⟩) hS ?_
  refine wpAnyH_take (i := 1) (v := sval b.s) rfl (by kernel_rfl) (by kernel_rfl) (by kernel_rfl) (fun _ _ _ h => h) (Or.inl ⟨by kernel_rfl, fun w' hw' => by obtain ⟨q0, q1, q2, q3, q4, q5, q6, q7, q8, q9, q10, q11⟩ := hw'; go_simp⟩) hS ?_
  refine wpAnyH_take (i := 2) (v := .pointer (some ⟨w.heap.size, 0, none⟩)) rfl (by kernel_rfl) (by kernel_rfl) (by kernel_rfl) (fun _ _ _ h => h) (Or.inl ⟨by kernel_rfl, fun w' hw' => by obtain ⟨q0, q1, q2, q3, q4, q5, q6, q7, q8, q9, q10, q11⟩ := hw'; go_simp⟩) hS ?_
  refine wpAnyH_take (i := 3) (v := sval qs) rfl (by kernel_rfl) (by kernel_rfl) (by kernel_rfl) (fun _ _ _ h => h) (Or.inl ⟨by kernel_rfl, fun w' hw' => by obtain ⟨q0, q1, q2, q3, q4, q5, q6, q7, q8, q9, q10, q11⟩ := hw'; go_simp⟩) hS ?_
  refine wpAnyH_take (i := 5) (v := sval R) rfl (by kernel_rfl) (by kernel_rfl) (by kernel_rfl) (fun _ _ _ h => h) (Or.inl ⟨by kernel_rfl, fun w' hw' => by obtain ⟨q0, q1, q2, q3, q4, q5, q6, q7, q8, q9, q10, q11⟩ := hw'; go_simp⟩) hS ?_
  simp only [Act.put, List.setIfInBounds_toArray]
  refine wpAnyH_ready (rs := [4]) (by kernel_rfl) (by simp) ?_
  refine AllReadyH.cons rfl (fun K' hK' => ?_) AllReadyH.nil
  clear hS
  go_simp
  refine (meet_any b.s qs _ ob oq).mono ?_
  rintro e Y1 ⟨rfl, hb⟩
  replace B := Hid.of (B.out.trans (hb.mono B.out.size))
  replace KQ := Hid.of (KQ.out.below hb KQ.out.lt)
  refine hK'.out _ _ (SA.out _ B.out KQ.out) (fun hS => ?_)
  clear hK' K' hb
  refine wpAnyH_ready (rs := [6]) (by kernel_rfl) (by simp) ?_
  refine AllReadyH.cons rfl (fun K' hK' => ?_) AllReadyH.nil
  clear hS
  go_simp
  refine (onlyIn_any (meetS b.s qs) R (okS_meet ob) oR _).mono ?_
  rintro e Y2 ⟨rfl, hb⟩
  replace B := Hid.of (B.out.trans (hb.mono B.out.size))
  replace KQ := Hid.of (KQ.out.below hb KQ.out.lt)
  refine hK'.out _ _ (SA.out _ B.out KQ.out) (fun hS => ?_)
  clear hK' K' hb
  refine wpAnyH_take (i := 7) (v := .bool (onlyS (meetS b.s qs) R)) rfl (by kernel_rfl) (by kernel_rfl) (by kernel_rfl) (fun _ _ _ h => h) (Or.inl ⟨by kernel_rfl, fun w' hw' => by obtain ⟨q0, q1, q2, q3, q4, q5, q6, q7, q8, q9, q10, q11⟩ := hw'; go_simp⟩) hS ?_
  refine wpAnyH_done (by kernel_rfl) ?_ _
  clear hS
  go_wp2_with fail
  exact bodyPost_ret (v := .bool (onlyS (meetS b.s qs) R)) (by simp [results, go_sem]) rfl ⟨rfl, B.out⟩

/-- Is a place's list too long? -/
def longP (most : Int) (q : PlC) : Bool := decide (most < (q.word.length : Int))
/-- Does a place tell, with another one? -/
def tellsP (s R : Nat → Nat) (q : PlC) : Bool := onlyS (meetS s q.s) R

set_option maxRecDepth 100000 in
set_option maxHeartbeats 4000000 in
theorem idxU_any (L : List PlC) (a : Option Addr) (cap : Nat) (most : Int) (pm : Nat) (w : World) (hll : L.length ≤ 64) (hrd : Hid (RdC w a L)) (hin : Hid (∀ q ∈ L, InnW 0 w q.v q.word)) (hm : Hid (w.cell? ⟨pm, 0, none⟩ = some (.int .i64 most))) (hpm : pm < w.heap.size) :
    Calls Tryd.prog 117 #[.slice a L.length cap, .func (.func 120) #[] #[.pointer (some ⟨pm, 0, none⟩)]] w fun e w' => ∃ r : Int, e = .returned (.int .i64 r) ∧ IdxR (longP most) L r ∧ Below w.heap.size w w' := by
  go_enter Tryd.func117, Tryd.ntmps117
  go_wp2_with fail
  go_loopw [8] (fun i wr => ∃ k : Nat, i = .int .i64 k ∧ k ≤ L.length ∧ Hid (Below w.heap.size w wr) ∧ Hid (noneP (longP most) L k)) (fun i _ => L.length - (intOf i).toNat)
  case atStart => exact ⟨0, rfl, Nat.zero_le _, Below.refl _ _, noneP_zero _ _⟩
  case round =>
    obtain ⟨k, rfl, hk, HB, HN⟩ := hrel
    by_cases hlt : k < L.length
    · obtain ⟨q, HQ⟩ : ∃ q, Hid (L[k]? = some q) := ⟨_, List.getElem?_eq_getElem hlt⟩
      obtain ⟨za, zc, hzv, -, -, -⟩ := (hin.out q (List.mem_of_getElem? HQ.out)).at
      rcases hrd.out with h0 | ⟨g, o, hra, hg, hc⟩
      · rw [h0] at hlt; simp at hlt
      subst hra
      obtain ⟨qs, qv, qw⟩ := q
      dsimp only at hzv
      subst hzv
      obtain ⟨d0, d1, d2, d3, d4⟩ := rdc_cells (hc k _ HQ.out)
      have c0 := (HB.out.cell (p := ⟨g, o + k * 5, none⟩) hg).trans d0
      have c1 := (HB.out.cell (p := ⟨g, o + k * 5 + 1, none⟩) hg).trans d1
      have c2 := (HB.out.cell (p := ⟨g, o + k * 5 + 2, none⟩) hg).trans d2
      have c3 := (HB.out.cell (p := ⟨g, o + k * 5 + 3, none⟩) hg).trans d3
      have c4 := (HB.out.cell (p := ⟨g, o + k * 5 + 4, none⟩) hg).trans d4
      dsimp only at c0 c1 c2 c3 c4
      have hltI : (k : Int) < (L.length : Int) := by omega
      clear hc d0 d1 d2 d3 d4
      obtain ⟨bv, HBV⟩ : ∃ bv, Hid (bv = (longP most) ⟨qs, .slice za qw.length zc, qw⟩) := ⟨_, rfl⟩
      have CALL : Hid (Calls Tryd.prog 120 #[pcval ⟨qs, .slice za qw.length zc, qw⟩, .pointer (some ⟨pm, 0, none⟩)] wr fun e w' => e = .returned (.bool bv) ∧ Below wr.heap.size wr w') := by
        rw [HBV.out]; exact upTo1_any qs za zc qw most pm wr ((HB.out.cell (p := ⟨pm, 0, none⟩) hpm).trans hm.out)
      go_wp2_with fail
      clear c0 c1 c2 c3 c4 hltI
      refine CALL.out.mono ?_
      rintro e W1 ⟨rfl, hb⟩
      have B1 := Hid.of (HB.out.trans (hb.mono HB.out.size))
      clear hb CALL
      cases bv with
      | true =>
        go_wp2_with fail
        refine bodyPost_ret (v := .int .i64 k) (by simp [results, go_sem]) rfl ?_
        exact ⟨_, rfl, .inr ⟨k, _, rfl, HQ.out, HBV.out.symm, HN.out⟩, B1.out⟩
      | false =>
        have HN2 : Hid (noneP (longP most) L (k + 1)) := noneP_succ HN.out HQ.out HBV.out.symm
        go_wp2_with fail
        go_roundw
        case rel => exact ⟨k + 1, by go_num, by omega, B1, HN2⟩
        case measure => simp [intOf]; omega
    · have hkl : k = L.length := by omega
      subst hkl
      clear hlt
      go_wp2_with fail
      refine bodyPost_ret (v := .int .i64 (-1)) (by simp [results, go_sem]) rfl ?_
      exact ⟨_, rfl, .inl ⟨rfl, noneP_all HN.out (Nat.le_refl _)⟩, HB.out⟩

set_option maxRecDepth 100000 in
set_option maxHeartbeats 4000000 in
theorem idxF_any (L : List PlC) (a : Option Addr) (cap : Nat) (b : PlC) (R : Nat → Nat) (ob : okS b.s) (oR : okS R) (pb pr : Nat) (w : World) (hll : L.length ≤ 64) (hrd : Hid (RdC w a L)) (hin : Hid (∀ q ∈ L, InnW 0 w q.v q.word)) (hok : Hid (∀ q ∈ L, okS q.s)) (hpb : Hid (Blk w pb 99 (pcarr b))) (hpr : Hid (SB w pr R)) :
    Calls Tryd.prog 117 #[.slice a L.length cap, .func (.func 118) #[] #[.pointer (some ⟨pb, 0, none⟩), .pointer (some ⟨pr, 0, none⟩)]] w fun e w' => ∃ r : Int, e = .returned (.int .i64 r) ∧ IdxR (tellsP b.s R) L r ∧ Below w.heap.size w w' := by
  go_enter Tryd.func117, Tryd.ntmps117
  go_wp2_with fail
  go_loopw [8] (fun i wr => ∃ k : Nat, i = .int .i64 k ∧ k ≤ L.length ∧ Hid (Below w.heap.size w wr) ∧ Hid (noneP (tellsP b.s R) L k)) (fun i _ => L.length - (intOf i).toNat)
  case atStart => exact ⟨0, rfl, Nat.zero_le _, Below.refl _ _, noneP_zero _ _⟩
  case round =>
    obtain ⟨k, rfl, hk, HB, HN⟩ := hrel
    by_cases hlt : k < L.length
    · obtain ⟨q, HQ⟩ : ∃ q, Hid (L[k]? = some q) := ⟨_, List.getElem?_eq_getElem hlt⟩
      obtain ⟨za, zc, hzv, -, -, -⟩ := (hin.out q (List.mem_of_getElem? HQ.out)).at
      have OQ := Hid.of (hok.out q (List.mem_of_getElem? HQ.out))
      rcases hrd.out with h0 | ⟨g, o, hra, hg, hc⟩
      · rw [h0] at hlt; simp at hlt
      subst hra
      obtain ⟨qs, qv, qw⟩ := q
      dsimp only at hzv
      subst hzv
      obtain ⟨d0, d1, d2, d3, d4⟩ := rdc_cells (hc k _ HQ.out)
      have c0 := (HB.out.cell (p := ⟨g, o + k * 5, none⟩) hg).trans d0
      have c1 := (HB.out.cell (p := ⟨g, o + k * 5 + 1, none⟩) hg).trans d1
      have c2 := (HB.out.cell (p := ⟨g, o + k * 5 + 2, none⟩) hg).trans d2
      have c3 := (HB.out.cell (p := ⟨g, o + k * 5 + 3, none⟩) hg).trans d3
      have c4 := (HB.out.cell (p := ⟨g, o + k * 5 + 4, none⟩) hg).trans d4
      dsimp only at c0 c1 c2 c3 c4
      have hltI : (k : Int) < (L.length : Int) := by omega
      clear hc d0 d1 d2 d3 d4
      obtain ⟨bv, HBV⟩ : ∃ bv, Hid (bv = (tellsP b.s R) ⟨qs, .slice za qw.length zc, qw⟩) := ⟨_, rfl⟩
      have CALL : Hid (Calls Tryd.prog 118 #[pcval ⟨qs, .slice za qw.length zc, qw⟩, .pointer (some ⟨pb, 0, none⟩), .pointer (some ⟨pr, 0, none⟩)] wr fun e w' => e = .returned (.bool bv) ∧ Below wr.heap.size wr w') := by
        rw [HBV.out]; exact first1_any b qs za zc qw R ob OQ.out oR pb pr wr (Hid.of (hpb.out.below HB.out hpb.out.lt)) (Hid.of (hpr.out.below HB.out hpr.out.lt))
      go_wp2_with fail
      clear c0 c1 c2 c3 c4 hltI
      refine CALL.out.mono ?_
      rintro e W1 ⟨rfl, hb⟩
      have B1 := Hid.of (HB.out.trans (hb.mono HB.out.size))
      clear hb CALL
      cases bv with
      | true =>
        go_wp2_with fail
        refine bodyPost_ret (v := .int .i64 k) (by simp [results, go_sem]) rfl ?_
        exact ⟨_, rfl, .inr ⟨k, _, rfl, HQ.out, HBV.out.symm, HN.out⟩, B1.out⟩
      | false =>
        have HN2 : Hid (noneP (tellsP b.s R) L (k + 1)) := noneP_succ HN.out HQ.out HBV.out.symm
        go_wp2_with fail
        go_roundw
        case rel => exact ⟨k + 1, by go_num, by omega, B1, HN2⟩
        case measure => simp [intOf]; omega
    · have hkl : k = L.length := by omega
      subst hkl
      clear hlt
      go_wp2_with fail
      refine bodyPost_ret (v := .int .i64 (-1)) (by simp [results, go_sem]) rfl ?_
      exact ⟨_, rfl, .inl ⟨rfl, noneP_all HN.out (Nat.le_refl _)⟩, HB.out⟩

end Go.Proofs.YtmimjpkllgjdkaaDoor
