/-
  The walk of hide.union: what the states of a set lead to.
  The closure that machine.Leader answers: where the states of a set lead to, at an event.
  A region that draws its order of evaluation, within a round of a range over a function.
  What is said of a machine's block, and of slices that lie elsewhere.
-/
import Derived.Test.YtmlkpdeidpcidaaDoorFSpread
import Derived.Test.YtmlkpdeidpcidaaDoorJ14
import Derived.OrdersIn
import Derived.Deep.RegionHeld3
import Derived.RangeFuncNested
import Derived.Laws.ResultCell
import Derived.Test.YtmlkpdeidpcidaaDoorJ04
import Derived.Test.YtmlkpdeidpcidaaDoorJ05
import Derived.Test.YtmlkpdeidpcidaaDoorJ15
import Derived.Test.YtmlkpdeidpcidaaDoorJ03
namespace Go.Proofs.YtmlkpdeidpcidaaDoor
open Go.RowKit Go.Shelf
set_option linter.unusedVariables false
attribute [local go_sem] Oper.semAt_some

set_option maxRecDepth 100000 in
set_option maxHeartbeats 4000000 in
theorem union_in (S : Nat → Nat) (hS : okS S) (N : Nat) (T : Nat → Nat → Nat) (hTok : Hid (∀ p, okS (T p))) (hall : ∀ k ∈ allS S, k < N) (hN : N ≤ 256) (pg : Nat) (w : World) (hT : Tab w) (hTB : TB w pg N T) :
    CallsIn Fence.wide 5 Tryd.prog 72 #[sval S, .slice (some ⟨pg, 0, none⟩) N N] w fun e W' => e = .returned (sval (toF T (allS S))) ∧ Below w.heap.size w W' := by
  obtain ⟨xs, hxs⟩ := nb_of (N := N) (allS S) hall
  clear hall
  refine callsIn_of_wp_marks Tryd.func72 rfl trivial ?_ rfl
  simp only [Tryd.ntmps72, List.size_toArray, List.length_cons, List.length_nil, Nat.reduceAdd, Nat.reduceSub, Array.replicate_succ, Array.replicate_zero, List.push_toArray, List.append_toArray, List.nil_append, List.cons_append]
  gi_wp2_with (refine ⟨trivial, ?_⟩; refine CallsIn.mono (callsIn_wide.2 (all_any S _)) ?_; rintro e w1 ⟨rfl, rfl⟩)
  have hB0 : Below w.heap.size w (((((w.alloc (.cells (scells S) 85)).alloc (.cells #[.slice (some ⟨pg, 0, none⟩) N N] 100)).alloc (.cells #[.int .u64 0, .int .u64 0, .int .u64 0, .int .u64 0] 85)).alloc (.cells #[.int .u64 0, .int .u64 0, .int .u64 0, .int .u64 0] 85)).alloc (.cells (scells S) 85)) := (((((Below.refl _ _).alloc (Nat.le_refl _) _).alloc (by simp) _).alloc (by simp; omega) _).alloc (by simp; omega) _).alloc (by simp; omega) _
  have bX : Boxed (((((w.alloc (.cells (scells S) 85)).alloc (.cells #[.slice (some ⟨pg, 0, none⟩) N N] 100)).alloc (.cells #[.int .u64 0, .int .u64 0, .int .u64 0, .int .u64 0] 85)).alloc (.cells #[.int .u64 0, .int .u64 0, .int .u64 0, .int .u64 0] 85)).alloc (.cells (scells S) 85)) (w.heap.size + 1) 100 (.slice (some ⟨pg, 0, none⟩) N N) := by
    have := (((Boxed.new (w.alloc (.cells (scells S) 85)) 100 (.slice (some ⟨pg, 0, none⟩) N N)).alloc (.cells #[.int .u64 0, .int .u64 0, .int .u64 0, .int .u64 0] 85)).alloc (.cells #[.int .u64 0, .int .u64 0, .int .u64 0, .int .u64 0] 85)).alloc (.cells (scells S) 85)
    rwa [World.size_alloc] at this
  have bR : SB (((((w.alloc (.cells (scells S) 85)).alloc (.cells #[.slice (some ⟨pg, 0, none⟩) N N] 100)).alloc (.cells #[.int .u64 0, .int .u64 0, .int .u64 0, .int .u64 0] 85)).alloc (.cells #[.int .u64 0, .int .u64 0, .int .u64 0, .int .u64 0] 85)).alloc (.cells (scells S) 85)) (w.heap.size + 1 + 1) zeroS := by
    have := ((Blk.new ((w.alloc (.cells (scells S) 85)).alloc (.cells #[.slice (some ⟨pg, 0, none⟩) N N] 100)) 85 #[.int .u64 0, .int .u64 0, .int .u64 0, .int .u64 0]).alloc (.cells #[.int .u64 0, .int .u64 0, .int .u64 0, .int .u64 0] 85)).alloc (.cells (scells S) 85)
    rwa [World.size_alloc, World.size_alloc] at this
  have bO : SB (((((w.alloc (.cells (scells S) 85)).alloc (.cells #[.slice (some ⟨pg, 0, none⟩) N N] 100)).alloc (.cells #[.int .u64 0, .int .u64 0, .int .u64 0, .int .u64 0] 85)).alloc (.cells #[.int .u64 0, .int .u64 0, .int .u64 0, .int .u64 0] 85)).alloc (.cells (scells S) 85)) (w.heap.size + 1 + 1 + 1) zeroS := by
    have := (Blk.new (((w.alloc (.cells (scells S) 85)).alloc (.cells #[.slice (some ⟨pg, 0, none⟩) N N] 100)).alloc (.cells #[.int .u64 0, .int .u64 0, .int .u64 0, .int .u64 0] 85)) 85 #[.int .u64 0, .int .u64 0, .int .u64 0, .int .u64 0]).alloc (.cells (scells S) 85)
    rwa [World.size_alloc, World.size_alloc, World.size_alloc] at this
  have bN : SB (((((w.alloc (.cells (scells S) 85)).alloc (.cells #[.slice (some ⟨pg, 0, none⟩) N N] 100)).alloc (.cells #[.int .u64 0, .int .u64 0, .int .u64 0, .int .u64 0] 85)).alloc (.cells #[.int .u64 0, .int .u64 0, .int .u64 0, .int .u64 0] 85)).alloc (.cells (scells S) 85)) (w.heap.size + 1 + 1 + 1 + 1) S := by
    have := Blk.new ((((w.alloc (.cells (scells S) 85)).alloc (.cells #[.slice (some ⟨pg, 0, none⟩) N N] 100)).alloc (.cells #[.int .u64 0, .int .u64 0, .int .u64 0, .int .u64 0] 85)).alloc (.cells #[.int .u64 0, .int .u64 0, .int .u64 0, .int .u64 0] 85)) 85 (scells S)
    rwa [World.size_alloc, World.size_alloc, World.size_alloc, World.size_alloc] at this
  have hsz0 : (((((w.alloc (.cells (scells S) 85)).alloc (.cells #[.slice (some ⟨pg, 0, none⟩) N N] 100)).alloc (.cells #[.int .u64 0, .int .u64 0, .int .u64 0, .int .u64 0] 85)).alloc (.cells #[.int .u64 0, .int .u64 0, .int .u64 0, .int .u64 0] 85)).alloc (.cells (scells S) 85)).heap.size = w.heap.size + 5 := by simp
  revert hB0 bX bR bO bN hsz0
  generalize ((((w.alloc (.cells (scells S) 85)).alloc (.cells #[.slice (some ⟨pg, 0, none⟩) N N] 100)).alloc (.cells #[.int .u64 0, .int .u64 0, .int .u64 0, .int .u64 0] 85)).alloc (.cells #[.int .u64 0, .int .u64 0, .int .u64 0, .int .u64 0] 85)).alloc (.cells (scells S) 85) = W0
  intro hB0 bX bR bO bN hsz0
  have hT0 := hT.below hB0 hT.lt
  have hw0 := hT.lt
  refine wpIn_rangeFunc_ownG rfl (by omega) (gf := 164) (lb := #[.pointer (some ⟨w.heap.size + 1 + 1 + 1 + 1, 0, none⟩)]) rfl trivial (enters_of Tryd.func164 (by kernel_rfl) rfl)
    (all_stops 4 (by omega) (w.heap.size + 1 + 1 + 1 + 1) (w.heap.size + 3) S hS xs hxs (by omega) W0 (by omega) bN hT0) belowK_t (belowK_b (by omega)) (Below.refl _ _) (fun _ => rfl)
    (fun pre W' => SB W' (w.heap.size + 1 + 1 + 1) (toF T (nbNats pre)) ∧ Below (w.heap.size + 3) W0 W')
    (fun _ _ _ => False)
    (OwnFrom.and (Go.Own.from (own_SB (w.heap.size + 1 + 1 + 1) (fun pre : List (NB N) => toF T (nbNats pre))) _) (ownFrom_below (by omega) (by omega)))
    (fun _ _ _ _ _ hs _ _ => hs)
    ⟨bO, Below.refl _ _⟩
    (fun x => { tmps := #[sval S, .slice (some ⟨pg, 0, none⟩) N N, .pointer (some ⟨w.heap.size, 0, none⟩), .pointer (some ⟨w.heap.size + 1, 0, none⟩), .pointer (some ⟨w.heap.size + 1 + 1, 0, none⟩), .pointer (some ⟨w.heap.size + 1 + 1 + 1, 0, none⟩), .int .i64 (x.1 : Int), sval S, .func (.func 164) #[] #[.pointer (some ⟨w.heap.size + 1 + 1 + 1 + 1, 0, none⟩)], .int .i64 (x.1 : Int), undef, undef, undef, undef, undef, undef, undef], defers := [] }) ?assign ?body ?done ?stop
  case assign =>
    intro l x W K hK
    gi_wp2
    exact hK
  case body =>
    rintro l' pre x W' ⟨hO, hB'⟩ hlt
    have hBW : Below w.heap.size w W' := hB0.trans (hB'.mono (by omega))
    have hTW := hTB.below hBW hTB.lt
    have c1 : W'.cell? ⟨w.heap.size + 1, 0, none⟩ = some (.slice (some ⟨pg, 0, none⟩) N N) := Boxed.cell ((hB'.block _ (by omega)).trans bX)
    have hx := x.2
    obtain ⟨n, hn⟩ : ∃ n, Hid (n = x.1) := ⟨_, rfl⟩
    rw [← hn.out] at hx ⊢
    obtain ⟨t0, t1, t2, t3⟩ := hTW.cells hx
    obtain ⟨o0, o1, o2, o3⟩ := hO.cells
    have fO := hO.frozen
    have mx : Tryd.prog.follows .mixedOrders = true := by kernel_rfl
    have hOk : Hid (okS (toF T (nbNats pre))) := ok_toF hTok.out _
    have hTp : Hid (okS (T n)) := hTok.out n
    have HX : Hid (toF T (nbNats (pre ++ [x])) = joinS (toF T (nbNats pre)) (T n)) := by show _ = _; rw [nbNats_snoc, toF_snoc, hn.out]
    have hn0 : (0 : Int) ≤ (n : Int) := by omega
    have hnI : (n : Int) < (N : Int) := by omega
    have hOd : Hid (SB W'.drew (w.heap.size + 1 + 1 + 1) (toF T (nbNats pre))) := hO
    have HB := Hid.of hB'
    have HO := Hid.of hO
    clear hTW hBW hB' hO
    generalize toF T (nbNats pre) = O at *
    gi_wp2
    gi_region_with_o (refine ⟨trivial, ?_⟩; refine CallsIn.mono (CallsIn.inRound l' (callsIn_wide.2 (join_any O (T n) _ hOk.out hTp.out))) ?_; rintro e' w1 ⟨rfl, hb1⟩; have hO1 := Blk.below hOd.out hb1 hOd.out.lt; obtain ⟨y0, y1, y2, y3⟩ := SB.cells hO1; have fO1 := Blk.frozen hO1)
    all_goals
      have k1 : KeepsOthers W' w1 := ⟨hb1.size, fun k o hk _ => (hb1.block k (Array.getElem?_eq_some_iff.1 hk).1).trans hk⟩
      have k2 : Below (w.heap.size + 3) W' w1 := ((Below.refl _ W').drew).trans (hb1.mono (Nat.le_of_lt HO.out.lt))
      have k3 := below_set4 k2 (b' := w.heap.size + 1 + 1 + 1) (Nat.le_refl _) (.int .u64 (joinS O (T n) 0)) (.int .u64 (joinS O (T n) 1)) (.int .u64 (joinS O (T n) 2)) (.int .u64 (joinS O (T n) 3))
      exact ⟨((((k1.trans (KeepsOthers.setCell _ _ _)).trans (KeepsOthers.setCell _ _ _)).trans (KeepsOthers.setCell _ _ _)).trans (KeepsOthers.setCell _ _ _)).from _, k3, by rw [HX.out]; exact SB.set4 hO1 _, HB.out.trans k3⟩
  case done =>
    rintro D ys W' hD rfl ⟨hO, hB'⟩ hK
    have hBW : Below w.heap.size w W' := hB0.trans (hB'.mono (by omega))
    obtain ⟨o0, o1, o2, o3⟩ := hO.cells
    have HQ : Hid (toF T (nbNats ys) = toF T (allS S)) := by show _ = _; rw [← hxs]; rfl
    have hres := bR.below hB' (by omega)
    obtain ⟨r0, r1, r2, r3⟩ := SB.cells hres
    have rz := hres.frozen
    have k2 := Hid.of (SB.set4 hres (toF T (nbNats ys)))
    have k3 := Hid.of (below_set4 hBW (b' := w.heap.size + 1 + 1) (by omega) (.int .u64 (toF T (nbNats ys) 0)) (.int .u64 (toF T (nbNats ys) 1)) (.int .u64 (toF T (nbNats ys) 2)) (.int .u64 (toF T (nbNats ys) 3)))
    have hMk : Marks w.heap.size [D] W' := by
      refine ⟨fun D' hD' => ?_, by simp⟩
      have e : D' = D := by simpa using hD'
      rw [e]
      exact ⟨by omega, hK⟩
    have k4 := Hid.of (hMk.other4 hres (toF T (nbNats ys)))
    clear hMk
    clear hO hBW hB' hres hK
    generalize toF T (nbNats ys) = O at *
    gi_wp2
    refine leaves_marks (B := w.heap.size) (fun W => SB W (w.heap.size + 1 + 1) O ∧ Below w.heap.size w W) ?hJ ?hfin [D] _ k4.out ⟨k2.out, k3.out⟩
    case hJ =>
      rintro W D ⟨h1, h2⟩ hD hk
      refine ⟨(World.putObj_heap_other (fun e => ?_)).trans h1, h2.trans (belowK_b (w := w) (Nat.le_refl _) W D _ _ hD hk rfl rfl)⟩
      have h3 : W.heap[w.heap.size + 1 + 1]? = _ := h1
      rw [e, hk] at h3
      cases h3
    case hfin =>
      rintro W ⟨h1, h2⟩
      exact ⟨_, results_cell_row (g := w.heap.size + 1 + 1) (p := 4) rfl _ _ _ _ _ _ rfl h1 Tryd.underlying85 rfl (by kernel_rfl), by rw [← HQ.out], h2⟩
  case stop =>
    rintro D c pre W _ _ h _
    exact h.elim

theorem union_any (S : Nat → Nat) (hS : okS S) (N : Nat) (T : Nat → Nat → Nat) (hTok : ∀ p, okS (T p)) (hall : ∀ k ∈ allS S, k < N) (hN : N ≤ 256) (pg : Nat) (w : World) (hT : Tab w) (hTB : TB w pg N T) :
    Calls Tryd.prog 72 #[sval S, .slice (some ⟨pg, 0, none⟩) N N] w fun e W' => e = .returned (sval (toF T (allS S))) ∧ Below w.heap.size w W' :=
  callsIn_wide.1 (union_in S hS N T hTok hall hN pg w hT hTB)

end Go.Proofs.YtmlkpdeidpcidaaDoor
namespace Go.Proofs.YtmlkpdeidpcidaaDoor
open Go.RowKit Go.Shelf
set_option linter.unusedVariables false
attribute [local go_sem] Oper.semAt_some

set_option maxRecDepth 100000 in
set_option maxHeartbeats 4000000 in
theorem lead1_in (st ev e : Nat) (L : LB) (T : Nat → Nat → Nat) (hTok : ∀ p, okS (T p)) (S : Nat → Nat) (hS : okS S) (hall : ∀ k ∈ allS S, k < st) (he : e < ev) (hev8 : ev ≤ 8) (hst : st ≤ 256)
    (w : World) (hT : Tab w) (hL : LD w L ev (st * ev) T) :
    CallsIn Fence.wide 5 Tryd.prog 163 #[sval S, .int .i64 e, .pointer (some ⟨L.pi, 0, none⟩), .pointer (some ⟨L.pe, 0, none⟩), .pointer (some ⟨L.pt, 0, none⟩)] w fun e' W' => e' = .returned (sval (leadF T ev e (allS S))) ∧ Below w.heap.size w W' := by
  obtain ⟨xs, hxs⟩ := nb_of (N := st) (allS S) hall
  have hlen : xs.length ≤ 256 := by have := allS_len S; rw [← hxs, List.length_map] at this; exact this
  have hin : Hid (inB (ev : Int) (e : Int) = true) := by show _ = _; unfold inB; simp; omega
  obtain ⟨l1, l2, l3, l4, l5⟩ := hL.lt
  refine callsIn_of_wp_marks Tryd.func163 rfl trivial ?_ rfl
  simp only [Tryd.ntmps163, List.size_toArray, List.length_cons, List.length_nil, Nat.reduceAdd, Nat.reduceSub, Array.replicate_succ, Array.replicate_zero, List.push_toArray, List.append_toArray, List.nil_append, List.cons_append]
  have bE : Boxed ((((w.alloc (.cells (scells S) 85)).alloc (.cells #[.int .i64 e] 3)).alloc (.cells #[.int .u64 0, .int .u64 0, .int .u64 0, .int .u64 0] 85)).alloc (.cells #[.int .u64 0, .int .u64 0, .int .u64 0, .int .u64 0] 85)) (w.heap.size + 1) 3 (.int .i64 e) := by
    have := ((Boxed.new (w.alloc (.cells (scells S) 85)) 3 (.int .i64 e)).alloc (.cells (scells zeroS) 85)).alloc (.cells (scells zeroS) 85)
    rwa [World.size_alloc] at this
  have bS : SB ((((w.alloc (.cells (scells S) 85)).alloc (.cells #[.int .i64 e] 3)).alloc (.cells #[.int .u64 0, .int .u64 0, .int .u64 0, .int .u64 0] 85)).alloc (.cells #[.int .u64 0, .int .u64 0, .int .u64 0, .int .u64 0] 85)) w.heap.size S := (((Blk.new w 85 (scells S)).alloc _).alloc _).alloc _
  have bR : SB ((((w.alloc (.cells (scells S) 85)).alloc (.cells #[.int .i64 e] 3)).alloc (.cells #[.int .u64 0, .int .u64 0, .int .u64 0, .int .u64 0] 85)).alloc (.cells #[.int .u64 0, .int .u64 0, .int .u64 0, .int .u64 0] 85)) (w.heap.size + 1 + 1) zeroS := by
    have := (Blk.new ((w.alloc (.cells (scells S) 85)).alloc (.cells #[.int .i64 e] 3)) 85 (scells zeroS)).alloc (.cells (scells zeroS) 85)
    rwa [World.size_alloc, World.size_alloc] at this
  have bO : SB ((((w.alloc (.cells (scells S) 85)).alloc (.cells #[.int .i64 e] 3)).alloc (.cells #[.int .u64 0, .int .u64 0, .int .u64 0, .int .u64 0] 85)).alloc (.cells #[.int .u64 0, .int .u64 0, .int .u64 0, .int .u64 0] 85)) (w.heap.size + 1 + 1 + 1) zeroS := by
    have := Blk.new (((w.alloc (.cells (scells S) 85)).alloc (.cells #[.int .i64 e] 3)).alloc (.cells (scells zeroS) 85)) 85 (scells zeroS)
    rwa [World.size_alloc, World.size_alloc, World.size_alloc] at this
  have hB0 : Below w.heap.size w ((((w.alloc (.cells (scells S) 85)).alloc (.cells #[.int .i64 e] 3)).alloc (.cells #[.int .u64 0, .int .u64 0, .int .u64 0, .int .u64 0] 85)).alloc (.cells #[.int .u64 0, .int .u64 0, .int .u64 0, .int .u64 0] 85)) := ((((Below.refl _ w).alloc (Nat.le_refl _) _).alloc (by simp) _).alloc (by simp; omega) _).alloc (by simp; omega) _
  have hsz : ((((w.alloc (.cells (scells S) 85)).alloc (.cells #[.int .i64 e] 3)).alloc (.cells #[.int .u64 0, .int .u64 0, .int .u64 0, .int .u64 0] 85)).alloc (.cells #[.int .u64 0, .int .u64 0, .int .u64 0, .int .u64 0] 85)).heap.size = w.heap.size + 4 := by simp
  have c1 := (hL.below hB0 hL.lt).is.cell
  gi_wp2_with fail
  revert bE bS bR bO hB0 hsz c1
  generalize (((w.alloc (.cells (scells S) 85)).alloc (.cells #[.int .i64 e] 3)).alloc (.cells #[.int .u64 0, .int .u64 0, .int .u64 0, .int .u64 0] 85)).alloc (.cells #[.int .u64 0, .int .u64 0, .int .u64 0, .int .u64 0] 85) = V
  intro bE bS bR bO hB0 hsz c1
  have c5 : V.cell? ⟨L.pb, 0, none⟩ = some (.int .i64 ev) := (hL.below hB0 hL.lt).bd.cell
  refine ⟨trivial, ?_⟩
  refine CallsIn.mono (callsIn_wide.2 (within1_any (ev : Int) (e : Int) L.pb V c5)) ?_
  rintro e' w1 ⟨rfl, rfl⟩
  rw [hin.out]
  obtain ⟨s0, s1, s2, s3⟩ := bS.cells
  clear c1 c5
  gi_wp2_with (refine ⟨trivial, ?_⟩; refine CallsIn.mono (callsIn_wide.2 (all_any S _)) ?_; rintro e' w1 ⟨rfl, rfl⟩)
  have bE' := bE.alloc (.cells (scells S) 85)
  have bR' := bR.alloc (.cells (scells S) 85)
  have bO' := bO.alloc (.cells (scells S) 85)
  have bN : SB (w1.alloc (.cells (scells S) 85)) (w.heap.size + 4) S := by have := Blk.new w1 85 (scells S); rwa [hsz] at this
  have hB1 := hB0.alloc hB0.size (.cells (scells S) 85)
  have hsz1 : (w1.alloc (.cells (scells S) 85)).heap.size = w.heap.size + 5 := by rw [World.size_alloc, hsz]
  clear bE bR bO bS hB0 s0 s1 s2 s3
  revert bE' bR' bO' bN hB1 hsz1
  generalize w1.alloc (.cells (scells S) 85) = W0
  intro bE bR bO bN hB0 hsz0
  have hT0 := hT.below hB0 hT.lt
  have hL0 := hL.below hB0 hL.lt
  have hLl : L.all (· < w.heap.size + 3) := hL.lt.imp (fun n h => by omega)
  refine wpIn_rangeFunc_ownG rfl (by omega) (gf := 164) (lb := #[.pointer (some ⟨w.heap.size + 4, 0, none⟩)]) rfl trivial (enters_of Tryd.func164 (by kernel_rfl) rfl)
    (all_stops 4 (by omega) (w.heap.size + 4) (w.heap.size + 3) S hS xs hxs (by omega) W0 (by omega) bN hT0) belowK_t (belowK_b (by omega)) (Below.refl _ _) (fun _ => rfl)
    (fun pre W => SB W (w.heap.size + 1 + 1 + 1) (leadF T ev e (nbNats pre)) ∧ Below (w.heap.size + 3) W0 W)
    (fun _ _ _ => False)
    (OwnFrom.and (Go.Own.from (own_SB (w.heap.size + 1 + 1 + 1) (fun pre : List (NB st) => leadF T ev e (nbNats pre))) _) (ownFrom_below (by omega) (by omega)))
    (fun _ _ _ _ _ hs _ _ => hs)
    ⟨bO, Below.refl _ _⟩
    (fun x => { tmps := #[sval S, .int .i64 e, .pointer (some ⟨L.pi, 0, none⟩), .pointer (some ⟨L.pe, 0, none⟩), .pointer (some ⟨L.pt, 0, none⟩), .pointer (some ⟨w.heap.size, 0, none⟩), .pointer (some ⟨w.heap.size + 1, 0, none⟩), .pointer (some ⟨w.heap.size + 1 + 1, 0, none⟩), .pointer (some ⟨w.heap.size + 1 + 1 + 1, 0, none⟩), .int .i64 (x.1 : Int), undef, isV L.pb, .int .i64 e, .bool true, .bool false, undef, sval S, .func (.func 164) #[] #[.pointer (some ⟨w.heap.size + 4, 0, none⟩)], .int .i64 (x.1 : Int), undef, undef, undef, undef, undef, undef, undef, undef, undef, undef, undef, undef, undef, undef, undef, undef], defers := [] }) ?assign ?body ?done ?stop
  case assign =>
    intro l x W K hK
    gi_wp2
    exact hK
  case body =>
    rintro l' pre x W ⟨hO, hB⟩ hlt
    have hLW := hL0.below hB hLl
    have hEW : Boxed W (w.heap.size + 1) 3 (.int .i64 e) := (hB.block _ (by omega)).trans bE
    obtain ⟨p, hp⟩ : ∃ p, p = x.1 * ev + e := ⟨_, rfl⟩
    have hpN : p < st * ev := by rw [hp]; exact lead1_ix x.2 he
    obtain ⟨q, hq⟩ : ∃ q, q = x.1 * ev := ⟨_, rfl⟩
    have hN2 : st * ev ≤ 2048 := Nat.mul_le_mul hst hev8
    have hw1 : IntKind.i64.wrap ((x.1 : Int) * (ev : Int)) = (q : Int) := by
      rw [IntKind.wrap_i64, ← Int.natCast_mul, ← hq]; omega
    have hw2 : IntKind.i64.wrap ((q : Int) + (e : Int)) = (p : Int) := by rw [IntKind.wrap_i64]; omega
    have HP := Hid.of hp
    obtain ⟨N, HN⟩ : ∃ N, Hid (N = st * ev) := ⟨_, rfl⟩
    rw [← HN.out] at hpN hN2 hLW
    have hp0 : (0 : Int) ≤ (p : Int) := by omega
    have hpI : (p : Int) < (N : Int) := by omega
    have hpD : decide ((p : Int) < (N : Int)) = true := by simpa using hpI
    clear hp hq
    obtain ⟨t0, t1, t2, t3⟩ := hLW.tab.cells hpN
    obtain ⟨o0, o1, o2, o3⟩ := hO.cells
    have d1 := hLW.to.cell
    have d2 := hEW.cell
    have d3 := hLW.evb.cell
    have fO := hO.frozen
    have mx : Tryd.prog.follows .mixedOrders = true := by kernel_rfl
    have hOk : Hid (okS (leadF T ev e (nbNats pre))) := ok_leadF hTok _
    have hTp : Hid (okS (T p)) := hTok p
    have HX : Hid (leadF T ev e (nbNats (pre ++ [x])) = joinS (leadF T ev e (nbNats pre)) (T p)) := by show _ = _; rw [nbNats_snoc, leadF_snoc, HP.out]
    have hOd : Hid (SB W.drew (w.heap.size + 1 + 1 + 1) (leadF T ev e (nbNats pre))) := hO
    have HB := Hid.of hB
    have HO := Hid.of hO
    clear hLW hB hO hEW
    generalize leadF T ev e (nbNats pre) = O at *
    gi_wp2
    gi_region_with_o (refine ⟨trivial, ?_⟩; refine CallsIn.mono (CallsIn.inRound l' (callsIn_wide.2 (join_any O (T p) _ hOk.out hTp.out))) ?_; rintro e' w1 ⟨rfl, hb1⟩; have hO1 := Blk.below hOd.out hb1 hOd.out.lt; obtain ⟨y0, y1, y2, y3⟩ := SB.cells hO1; have fO1 := Blk.frozen hO1)
    all_goals
      have k1 : KeepsOthers W w1 := ⟨hb1.size, fun k o hk _ => (hb1.block k (Array.getElem?_eq_some_iff.1 hk).1).trans hk⟩
      have k2 : Below (w.heap.size + 3) W w1 := ((Below.refl _ W).drew).trans (hb1.mono (Nat.le_of_lt HO.out.lt))
      have k3 := below_set4 k2 (b' := w.heap.size + 1 + 1 + 1) (Nat.le_refl _) (.int .u64 (joinS O (T p) 0)) (.int .u64 (joinS O (T p) 1)) (.int .u64 (joinS O (T p) 2)) (.int .u64 (joinS O (T p) 3))
      exact ⟨((((k1.trans (KeepsOthers.setCell _ _ _)).trans (KeepsOthers.setCell _ _ _)).trans (KeepsOthers.setCell _ _ _)).trans (KeepsOthers.setCell _ _ _)).from _, k3, by rw [HX.out]; exact SB.set4 hO1 _, HB.out.trans k3⟩
  case done =>
    rintro D ys W hD rfl ⟨hO, hB⟩ hK
    have hBW : Below w.heap.size w W := hB0.trans (hB.mono (by omega))
    obtain ⟨o0, o1, o2, o3⟩ := hO.cells
    have HQ : Hid (leadF T ev e (nbNats ys) = leadF T ev e (allS S)) := by show _ = _; rw [← hxs]; rfl
    have hres := bR.below hB (by omega)
    obtain ⟨r0, r1, r2, r3⟩ := SB.cells hres
    have rz := hres.frozen
    have k2 := Hid.of (SB.set4 hres (leadF T ev e (nbNats ys)))
    have k3 := Hid.of (below_set4 hBW (b' := w.heap.size + 1 + 1) (by omega) (.int .u64 (leadF T ev e (nbNats ys) 0)) (.int .u64 (leadF T ev e (nbNats ys) 1)) (.int .u64 (leadF T ev e (nbNats ys) 2)) (.int .u64 (leadF T ev e (nbNats ys) 3)))
    have hMk : Marks w.heap.size [D] W := by
      refine ⟨fun D' hD' => ?_, by simp⟩
      have e : D' = D := by simpa using hD'
      rw [e]
      exact ⟨by omega, hK⟩
    have k4 := Hid.of (hMk.other4 hres (leadF T ev e (nbNats ys)))
    clear hMk
    clear hO hBW hB hres hK
    generalize leadF T ev e (nbNats ys) = O at *
    gi_wp2
    refine leaves_marks (B := w.heap.size) (fun W => SB W (w.heap.size + 1 + 1) O ∧ Below w.heap.size w W) ?hJ ?hfin [D] _ k4.out ⟨k2.out, k3.out⟩
    case hJ =>
      rintro W D ⟨h1, h2⟩ hD hk
      refine ⟨(World.putObj_heap_other (fun e => ?_)).trans h1, h2.trans (belowK_b (w := w) (Nat.le_refl _) W D _ _ hD hk rfl rfl)⟩
      have h3 : W.heap[w.heap.size + 1 + 1]? = _ := h1
      rw [e, hk] at h3
      cases h3
    case hfin =>
      rintro W ⟨h1, h2⟩
      exact ⟨_, results_cell_row (g := w.heap.size + 1 + 1) (p := 7) rfl _ _ _ _ _ _ rfl h1 Tryd.underlying85 rfl (by kernel_rfl), by rw [← HQ.out], h2⟩
  case stop =>
    rintro D c pre W _ _ h _
    exact h.elim

theorem lead1_any (st ev e : Nat) (L : LB) (T : Nat → Nat → Nat) (hTok : ∀ p, okS (T p)) (S : Nat → Nat) (hS : okS S) (hall : ∀ k ∈ allS S, k < st) (he : e < ev) (hev8 : ev ≤ 8) (hst : st ≤ 256)
    (w : World) (hT : Tab w) (hL : LD w L ev (st * ev) T) :
    Calls Tryd.prog 163 #[sval S, .int .i64 e, .pointer (some ⟨L.pi, 0, none⟩), .pointer (some ⟨L.pe, 0, none⟩), .pointer (some ⟨L.pt, 0, none⟩)] w fun e' W' => e' = .returned (sval (leadF T ev e (allS S))) ∧ Below w.heap.size w W' :=
  callsIn_wide.1 (lead1_in st ev e L T hTok S hS hall he hev8 hst w hT hL)

end Go.Proofs.YtmlkpdeidpcidaaDoor
namespace Go.Proofs.YtmlkpdeidpcidaaDoor
open Go.RowKit
set_option linter.unusedVariables false

section
variable {P : Program} {ops : Array Oper} {Q : Exit → Act → World → Prop} {md : Region.Mode} {l n : Nat}
theorem rowsIn_round {row : String} {args : Array Value} {w : World} {R : Value → World → Prop} (h : Rows P row args w R) : RowsIn (Fence.wide.inRound l) n P row args w R :=
  fun c cs _ => let ⟨v, w', r, s⟩ := h c cs; ⟨v, w', r, stepsIn_wide.2 s⟩
theorem operIn_round {o : Oper} (hd : ∀ c, o.op ≠ .defer c) {a : Act} {w : World} {K : Act → World → Prop} (h : o.wp P a w K Q) : o.wpIn (Fence.wide.inRound l) n P a w K Q := by
  refine ⟨fun f _ => trivial, ?_⟩
  rw [show (Fence.wide.inRound l).round = some l from rfl, Oper.semAt_some l _ _ hd]
  unfold Oper.wp at h
  generalize (execOp a.eval o).run P w = r at h
  cases r with
  | ok x w' =>
    cases x <;> simp only [Oper.upon, Oper.uponIn] at h ⊢ <;> first
      | exact h
      | exact ⟨fun hd => absurd hd (by simp [Fence.wide, Fence.inRound]), CallsIn.inRound l (callsIn_wide.2 h)⟩
      | exact ⟨fun hd => absurd hd (by simp [Fence.wide, Fence.inRound]), rowsIn_round h⟩
  | halt x w' =>
    cases x <;> simp only [Oper.upon, Oper.uponIn] at h ⊢ <;> exact h
theorem wpAnyIn_round (hd : ∀ (i : Nat) (o : Oper), ops[i]? = some o → ∀ c, o.op ≠ .defer c) (hQ : ¬ LetsOut Q) : ∀ (fuel : Nat) (listed : Array Bool) (a : Act) (w : World), wpAny P md ops Q fuel listed a w → wpAnyIn (Fence.wide.inRound l) n P md ops Q fuel listed a w := by
  intro fuel
  induction fuel with
  | zero => intro listed a w h; exact h
  | succ fuel ih =>
    intro listed a w h
    refine ⟨h.1, fun i hi => ?_⟩
    have h2 := h.2 i hi
    unfold wpOp at h2
    unfold wpOpIn
    cases ho : ops[i]? with
    | none => rw [ho] at h2; exact ih _ _ _ h2
    | some o =>
      rw [ho] at h2
      dsimp only at h2 ⊢
      split
      · rename_i hw
        rw [if_pos hw] at h2
        rcases h2 with h2 | ⟨-, h2⟩
        · exact Oper.wpIn_mono (fun a w h => ih _ a w h) (operIn_round (hd i o ho) h2)
        · exact absurd h2 hQ
      · rename_i hw
        rw [if_neg hw] at h2
        exact ⟨fun f _ => trivial, ih _ _ _ h2⟩
/-- No operation of it defers. -/
def noDefer (ops : Array Oper) : Bool := ops.toList.all fun o => match o.op with
  | .defer _ => false
  | _ => true
theorem noDefer_spec (h : noDefer ops = true) : ∀ (i : Nat) (o : Oper), ops[i]? = some o → ∀ c, o.op ≠ .defer c := fun i o hi c hc => by
  unfold noDefer at h
  rw [List.all_eq_true] at h
  have := h o (by rw [Array.mem_toList_iff]; exact Array.mem_of_getElem? hi)
  rw [hc] at this; cases this
/-- Its walk is that of the region outside of rounds. -/
theorem wpIn_region_round {S : World → Prop} {id : Nat} {a : Act} {w : World} (hm : P.follows .mixedOrders = true) (hd : ∀ (i : Nat) (o : Oper), ops[i]? = some o → ∀ c, o.op ≠ .defer c) (hQ : ¬ LetsOut Q) (hS : S w.drew)
    (h : S w.drew → wpAnyH P .any ops Q S ops.size (Array.replicate ops.size false) a w.drew) : (Code.region id ops true).wpIn (Fence.wide.inRound l) n P Q a w :=
  wpIn_region_any hm (wpAnyIn_round hd hQ _ _ _ _ (wpAny_of_held _ _ _ _ (h hS)))
end

end Go.Proofs.YtmlkpdeidpcidaaDoor
namespace Go.Proofs.YtmlkpdeidpcidaaDoor
open Go.RowKit
set_option linter.unusedVariables false

abbrev zcells : Array Value := #[.int .i64 0, .int .i64 0, .slice none 0 0, .slice none 0 0, .slice none 0 0]
theorem mcell_at {W : World} {b : Nat} {m : Mach} {l : ML} (h : Blk W b 25 (mcells m l)) : W.cell? ⟨b, 0, none⟩ = some (.int .i64 m.st) ∧ W.cell? ⟨b, 1, none⟩ = some (.int .i64 m.ev) ∧ W.cell? ⟨b, 2, none⟩ = some (.slice l.a1 m.starts.length l.c1) ∧ W.cell? ⟨b, 3, none⟩ = some (.slice l.a2 m.arrows.length l.c2) ∧ W.cell? ⟨b, 4, none⟩ = some (.slice l.a3 m.ends.length l.c3) :=
  ⟨h.cell 0 rfl, h.cell 1 rfl, h.cell 2 rfl, h.cell 3 rfl, h.cell 4 rfl⟩

theorem size_set (w : World) (a : Addr) (v : Value) : (w.setCell a v).heap.size = w.heap.size := by simp [World.setCell]
theorem atA_new (W : World) (t : TypeId) (x : Arr) (b : Nat) (hb : b = W.heap.size) : AtA (W.alloc (.cells #[.int .i64 x.f, .int .i64 x.e, .int .i64 x.t] t)) (some ⟨b, 0, none⟩) [x] := by
  subst hb
  refine .inr ⟨_, 0, rfl, by simp, fun j hj => ?_⟩
  have : j = 0 := by simp at hj; omega
  subst this
  exact ⟨(Blk.new W t #[.int .i64 x.f, .int .i64 x.e, .int .i64 x.t]).cell 0 rfl, (Blk.new W t #[.int .i64 x.f, .int .i64 x.e, .int .i64 x.t]).cell 1 rfl, (Blk.new W t #[.int .i64 x.f, .int .i64 x.e, .int .i64 x.t]).cell 2 rfl⟩
end Go.Proofs.YtmlkpdeidpcidaaDoor
