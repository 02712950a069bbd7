/-
  The closure that machine.Leader answers: where the states of a set lead to, at an event.
  What is said of a machine's block, and of slices that lie elsewhere.
-/
import Derived.Test.YtbdkaobbfmgnhaaDoorG14
import Derived.Test.YtbdkaobbfmgnhaaDoorCSpread
import Derived.Laws.ResultCell
import Derived.Test.YtbdkaobbfmgnhaaDoorG04
import Derived.Test.YtbdkaobbfmgnhaaDoorG05
import Derived.Test.YtbdkaobbfmgnhaaDoorG15
import Derived.Test.YtbdkaobbfmgnhaaDoorG03
namespace Go.Proofs.YtbdkaobbfmgnhaaDoor
open Go.RowKit Go.Shelf
set_option linter.unusedVariables false
attribute [local go_sem] Oper.semAt_some

set_option maxRecDepth 100000 in
set_option maxHeartbeats 4000000 in
theorem lead1_in (st ev e : Nat) (L : LB) (T : Nat → Nat → Nat) (hTok : ∀ p, okS (T p)) (S : Nat → Nat) (hS : okS S) (hall : ∀ k ∈ allS S, k < st) (he : e < ev) (hev8 : ev ≤ 8) (hst : st ≤ 256)
    (w : World) (hT : Tab w) (hL : LD w L ev (st * ev) T) :
    CallsIn Fence.wide 5 Tryd.prog 113 #[sval S, .int .i64 e, .pointer (some ⟨L.pi, 0, none⟩), .pointer (some ⟨L.pe, 0, none⟩), .pointer (some ⟨L.pt, 0, none⟩)] w fun e' W' => e' = .returned (sval (leadF T ev e (allS S))) ∧ Below w.heap.size w W' := by
  obtain ⟨xs, hxs⟩ := nb_of (N := st) (allS S) hall
  have hlen : xs.length ≤ 256 := by have := allS_len S; rw [← hxs, List.length_map] at this; exact this
  have hin : Hid (inB (ev : Int) (e : Int) = true) := by show _ = _; unfold inB; simp; omega
  obtain ⟨l1, l2, l3, l4, l5⟩ := hL.lt
  refine callsIn_of_wp_marks Tryd.func113 rfl trivial ?_ rfl
  simp only [Tryd.ntmps113, List.size_toArray, List.length_cons, List.length_nil, Nat.reduceAdd, Nat.reduceSub, Array.replicate_succ, Array.replicate_zero, List.push_toArray, List.append_toArray, List.nil_append, List.cons_append]
  have bE : Boxed ((((w.alloc (.cells (scells S) 62)).alloc (.cells #[.int .i64 e] 3)).alloc (.cells #[.int .u64 0, .int .u64 0, .int .u64 0, .int .u64 0] 62)).alloc (.cells #[.int .u64 0, .int .u64 0, .int .u64 0, .int .u64 0] 62)) (w.heap.size + 1) 3 (.int .i64 e) := by
    have := ((Boxed.new (w.alloc (.cells (scells S) 62)) 3 (.int .i64 e)).alloc (.cells (scells zeroS) 62)).alloc (.cells (scells zeroS) 62)
    rwa [World.size_alloc] at this
  have bS : SB ((((w.alloc (.cells (scells S) 62)).alloc (.cells #[.int .i64 e] 3)).alloc (.cells #[.int .u64 0, .int .u64 0, .int .u64 0, .int .u64 0] 62)).alloc (.cells #[.int .u64 0, .int .u64 0, .int .u64 0, .int .u64 0] 62)) w.heap.size S := (((Blk.new w 62 (scells S)).alloc _).alloc _).alloc _
  have bR : SB ((((w.alloc (.cells (scells S) 62)).alloc (.cells #[.int .i64 e] 3)).alloc (.cells #[.int .u64 0, .int .u64 0, .int .u64 0, .int .u64 0] 62)).alloc (.cells #[.int .u64 0, .int .u64 0, .int .u64 0, .int .u64 0] 62)) (w.heap.size + 1 + 1) zeroS := by
    have := (Blk.new ((w.alloc (.cells (scells S) 62)).alloc (.cells #[.int .i64 e] 3)) 62 (scells zeroS)).alloc (.cells (scells zeroS) 62)
    rwa [World.size_alloc, World.size_alloc] at this
  have bO : SB ((((w.alloc (.cells (scells S) 62)).alloc (.cells #[.int .i64 e] 3)).alloc (.cells #[.int .u64 0, .int .u64 0, .int .u64 0, .int .u64 0] 62)).alloc (.cells #[.int .u64 0, .int .u64 0, .int .u64 0, .int .u64 0] 62)) (w.heap.size + 1 + 1 + 1) zeroS := by
    have := Blk.new (((w.alloc (.cells (scells S) 62)).alloc (.cells #[.int .i64 e] 3)).alloc (.cells (scells zeroS) 62)) 62 (scells zeroS)
    rwa [World.size_alloc, World.size_alloc, World.size_alloc] at this
  have hB0 : Below w.heap.size w ((((w.alloc (.cells (scells S) 62)).alloc (.cells #[.int .i64 e] 3)).alloc (.cells #[.int .u64 0, .int .u64 0, .int .u64 0, .int .u64 0] 62)).alloc (.cells #[.int .u64 0, .int .u64 0, .int .u64 0, .int .u64 0] 62)) := ((((Below.refl _ w).alloc (Nat.le_refl _) _).alloc (by simp) _).alloc (by simp; omega) _).alloc (by simp; omega) _
  have hsz : ((((w.alloc (.cells (scells S) 62)).alloc (.cells #[.int .i64 e] 3)).alloc (.cells #[.int .u64 0, .int .u64 0, .int .u64 0, .int .u64 0] 62)).alloc (.cells #[.int .u64 0, .int .u64 0, .int .u64 0, .int .u64 0] 62)).heap.size = w.heap.size + 4 := by simp
  have c1 := (hL.below hB0 hL.lt).is.cell
  gi_wp2_with fail
  revert bE bS bR bO hB0 hsz c1
  generalize (((w.alloc (.cells (scells S) 62)).alloc (.cells #[.int .i64 e] 3)).alloc (.cells #[.int .u64 0, .int .u64 0, .int .u64 0, .int .u64 0] 62)).alloc (.cells #[.int .u64 0, .int .u64 0, .int .u64 0, .int .u64 0] 62) = V
  intro bE bS bR bO hB0 hsz c1
  have c5 : V.cell? ⟨L.pb, 0, none⟩ = some (.int .i64 ev) := (hL.below hB0 hL.lt).bd.cell
  refine ⟨trivial, ?_⟩
  refine CallsIn.mono (callsIn_wide.2 (within1_any (ev : Int) (e : Int) L.pb V c5)) ?_
  rintro e' w1 ⟨rfl, rfl⟩
  rw [hin.out]
  obtain ⟨s0, s1, s2, s3⟩ := bS.cells
  clear c1 c5
  gi_wp2_with (refine ⟨trivial, ?_⟩; refine CallsIn.mono (callsIn_wide.2 (all_any S _)) ?_; rintro e' w1 ⟨rfl, rfl⟩)
  have bE' := bE.alloc (.cells (scells S) 62)
  have bR' := bR.alloc (.cells (scells S) 62)
  have bO' := bO.alloc (.cells (scells S) 62)
  have bN : SB (w1.alloc (.cells (scells S) 62)) (w.heap.size + 4) S := by have := Blk.new w1 62 (scells S); rwa [hsz] at this
  have hB1 := hB0.alloc hB0.size (.cells (scells S) 62)
  have hsz1 : (w1.alloc (.cells (scells S) 62)).heap.size = w.heap.size + 5 := by rw [World.size_alloc, hsz]
  clear bE bR bO bS hB0 s0 s1 s2 s3
  revert bE' bR' bO' bN hB1 hsz1
  generalize w1.alloc (.cells (scells S) 62) = W0
  intro bE bR bO bN hB0 hsz0
  have hT0 := hT.below hB0 hT.lt
  have hL0 := hL.below hB0 hL.lt
  have hLl : L.all (· < w.heap.size + 3) := hL.lt.imp (fun n h => by omega)
  refine wpIn_rangeFunc_ownG rfl (by omega) (gf := 126) (lb := #[.pointer (some ⟨w.heap.size + 4, 0, none⟩)]) rfl trivial (enters_of Tryd.func126 (by kernel_rfl) rfl)
    (all_stops 4 (by omega) (w.heap.size + 4) (w.heap.size + 3) S hS xs hxs (by omega) W0 (by omega) bN hT0) belowK_t (belowK_b (by omega)) (Below.refl _ _) (fun _ => rfl)
    (fun pre W => SB W (w.heap.size + 1 + 1 + 1) (leadF T ev e (nbNats pre)) ∧ Below (w.heap.size + 3) W0 W)
    (fun _ _ _ => False)
    (OwnFrom.and (Go.Own.from (own_SB (w.heap.size + 1 + 1 + 1) (fun pre : List (NB st) => leadF T ev e (nbNats pre))) _) (ownFrom_below (by omega) (by omega)))
    (fun _ _ _ _ _ hs _ _ => hs)
    ⟨bO, Below.refl _ _⟩
    (fun x => { tmps := #[sval S, .int .i64 e, .pointer (some ⟨L.pi, 0, none⟩), .pointer (some ⟨L.pe, 0, none⟩), .pointer (some ⟨L.pt, 0, none⟩), .pointer (some ⟨w.heap.size, 0, none⟩), .pointer (some ⟨w.heap.size + 1, 0, none⟩), .pointer (some ⟨w.heap.size + 1 + 1, 0, none⟩), .pointer (some ⟨w.heap.size + 1 + 1 + 1, 0, none⟩), .int .i64 (x.1 : Int), undef, isV L.pb, .int .i64 e, .bool true, .bool false, undef, sval S, .func (.func 126) #[] #[.pointer (some ⟨w.heap.size + 4, 0, none⟩)], .int .i64 (x.1 : Int), undef, undef, undef, undef, undef, undef, undef, undef, undef, undef, undef, undef, undef, undef, undef, undef], defers := [] }) ?assign ?body ?done ?stop
  case assign =>
    intro l x W K hK
    gi_wp2
    exact hK
  case body =>
    rintro l' pre x W ⟨hO, hB⟩ hlt
    have hLW := hL0.below hB hLl
    have hEW : Boxed W (w.heap.size + 1) 3 (.int .i64 e) := (hB.block _ (by omega)).trans bE
    obtain ⟨p, hp⟩ : ∃ p, p = x.1 * ev + e := ⟨_, rfl⟩
    have hpN : p < st * ev := by rw [hp]; exact lead1_ix x.2 he
    obtain ⟨q, hq⟩ : ∃ q, q = x.1 * ev := ⟨_, rfl⟩
    have hN2 : st * ev ≤ 2048 := Nat.mul_le_mul hst hev8
    have hw1 : IntKind.i64.wrap ((x.1 : Int) * (ev : Int)) = (q : Int) := by
      rw [IntKind.wrap_i64, ← Int.natCast_mul, ← hq]; omega
    have hw2 : IntKind.i64.wrap ((q : Int) + (e : Int)) = (p : Int) := by rw [IntKind.wrap_i64]; omega
    have HP := Hid.of hp
    obtain ⟨N, HN⟩ : ∃ N, Hid (N = st * ev) := ⟨_, rfl⟩
    rw [← HN.out] at hpN hN2 hLW
    have hp0 : (0 : Int) ≤ (p : Int) := by omega
    have hpI : (p : Int) < (N : Int) := by omega
    have hpD : decide ((p : Int) < (N : Int)) = true := by simpa using hpI
    clear hp hq
    obtain ⟨t0, t1, t2, t3⟩ := hLW.tab.cells hpN
    obtain ⟨o0, o1, o2, o3⟩ := hO.cells
    have d1 := hLW.to.cell
    have d2 := hEW.cell
    have d3 := hLW.evb.cell
    have fO := hO.frozen
    have mx : Tryd.prog.follows .mixedOrders = true := by kernel_rfl
    have hOk : Hid (okS (leadF T ev e (nbNats pre))) := ok_leadF hTok _
    have hTp : Hid (okS (T p)) := hTok p
    have HX : Hid (leadF T ev e (nbNats (pre ++ [x])) = joinS (leadF T ev e (nbNats pre)) (T p)) := by show _ = _; rw [nbNats_snoc, leadF_snoc, HP.out]
    have hOd : Hid (SB W.drew (w.heap.size + 1 + 1 + 1) (leadF T ev e (nbNats pre))) := hO
    have HB := Hid.of hB
    have HO := Hid.of hO
    clear hLW hB hO hEW
    generalize leadF T ev e (nbNats pre) = O at *
    gi_wp2
    gi_region_with_o (refine ⟨trivial, ?_⟩; refine CallsIn.mono (CallsIn.inRound l' (callsIn_wide.2 (join_any O (T p) _ hOk.out hTp.out))) ?_; rintro e' w1 ⟨rfl, hb1⟩; have hO1 := Blk.below hOd.out hb1 hOd.out.lt; obtain ⟨y0, y1, y2, y3⟩ := SB.cells hO1; have fO1 := Blk.frozen hO1)
    all_goals
      have k1 : KeepsOthers W w1 := ⟨hb1.size, fun k o hk _ => (hb1.block k (Array.getElem?_eq_some_iff.1 hk).1).trans hk⟩
      have k2 : Below (w.heap.size + 3) W w1 := ((Below.refl _ W).drew).trans (hb1.mono (Nat.le_of_lt HO.out.lt))
      have k3 := below_set4 k2 (b' := w.heap.size + 1 + 1 + 1) (Nat.le_refl _) (.int .u64 (joinS O (T p) 0)) (.int .u64 (joinS O (T p) 1)) (.int .u64 (joinS O (T p) 2)) (.int .u64 (joinS O (T p) 3))
      exact ⟨((((k1.trans (KeepsOthers.setCell _ _ _)).trans (KeepsOthers.setCell _ _ _)).trans (KeepsOthers.setCell _ _ _)).trans (KeepsOthers.setCell _ _ _)).from _, k3, by rw [HX.out]; exact SB.set4 hO1 _, HB.out.trans k3⟩
  case done =>
    rintro D ys W hD rfl ⟨hO, hB⟩ hK
    have hBW : Below w.heap.size w W := hB0.trans (hB.mono (by omega))
    obtain ⟨o0, o1, o2, o3⟩ := hO.cells
    have HQ : Hid (leadF T ev e (nbNats ys) = leadF T ev e (allS S)) := by show _ = _; rw [← hxs]; rfl
    have hres := bR.below hB (by omega)
    obtain ⟨r0, r1, r2, r3⟩ := SB.cells hres
    have rz := hres.frozen
    have k2 := Hid.of (SB.set4 hres (leadF T ev e (nbNats ys)))
    have k3 := Hid.of (below_set4 hBW (b' := w.heap.size + 1 + 1) (by omega) (.int .u64 (leadF T ev e (nbNats ys) 0)) (.int .u64 (leadF T ev e (nbNats ys) 1)) (.int .u64 (leadF T ev e (nbNats ys) 2)) (.int .u64 (leadF T ev e (nbNats ys) 3)))
    have hMk : Marks w.heap.size [D] W := by
      refine ⟨fun D' hD' => ?_, by simp⟩
      have e : D' = D := by simpa using hD'
      rw [e]
      exact ⟨by omega, hK⟩
    have k4 := Hid.of (hMk.other4 hres (leadF T ev e (nbNats ys)))
    clear hMk
    clear hO hBW hB hres hK
    generalize leadF T ev e (nbNats ys) = O at *
    gi_wp2
    refine leaves_marks (B := w.heap.size) (fun W => SB W (w.heap.size + 1 + 1) O ∧ Below w.heap.size w W) ?hJ ?hfin [D] _ k4.out ⟨k2.out, k3.out⟩
    case hJ =>
      rintro W D ⟨h1, h2⟩ hD hk
      refine ⟨(World.putObj_heap_other (fun e => ?_)).trans h1, h2.trans (belowK_b (w := w) (Nat.le_refl _) W D _ _ hD hk rfl rfl)⟩
      have h3 : W.heap[w.heap.size + 1 + 1]? = _ := h1
      rw [e, hk] at h3
      cases h3
    case hfin =>
      rintro W ⟨h1, h2⟩
      exact ⟨_, results_cell_row (g := w.heap.size + 1 + 1) (p := 7) rfl _ _ _ _ _ _ rfl h1 Tryd.underlying62 rfl (by kernel_rfl), by rw [← HQ.out], h2⟩
  case stop =>
    rintro D c pre W _ _ h _
    exact h.elim

theorem lead1_any (st ev e : Nat) (L : LB) (T : Nat → Nat → Nat) (hTok : ∀ p, okS (T p)) (S : Nat → Nat) (hS : okS S) (hall : ∀ k ∈ allS S, k < st) (he : e < ev) (hev8 : ev ≤ 8) (hst : st ≤ 256)
    (w : World) (hT : Tab w) (hL : LD w L ev (st * ev) T) :
    Calls Tryd.prog 113 #[sval S, .int .i64 e, .pointer (some ⟨L.pi, 0, none⟩), .pointer (some ⟨L.pe, 0, none⟩), .pointer (some ⟨L.pt, 0, none⟩)] w fun e' W' => e' = .returned (sval (leadF T ev e (allS S))) ∧ Below w.heap.size w W' :=
  callsIn_wide.1 (lead1_in st ev e L T hTok S hS hall he hev8 hst w hT hL)

end Go.Proofs.YtbdkaobbfmgnhaaDoor
namespace Go.Proofs.YtbdkaobbfmgnhaaDoor
open Go.RowKit
set_option linter.unusedVariables false

abbrev zcells : Array Value := #[.int .i64 0, .int .i64 0, .slice none 0 0, .slice none 0 0, .slice none 0 0]
theorem mcell_at {W : World} {b : Nat} {m : Mach} {l : ML} (h : Blk W b 25 (mcells m l)) : W.cell? ⟨b, 0, none⟩ = some (.int .i64 m.st) ∧ W.cell? ⟨b, 1, none⟩ = some (.int .i64 m.ev) ∧ W.cell? ⟨b, 2, none⟩ = some (.slice l.a1 m.starts.length l.c1) ∧ W.cell? ⟨b, 3, none⟩ = some (.slice l.a2 m.arrows.length l.c2) ∧ W.cell? ⟨b, 4, none⟩ = some (.slice l.a3 m.ends.length l.c3) :=
  ⟨h.cell 0 rfl, h.cell 1 rfl, h.cell 2 rfl, h.cell 3 rfl, h.cell 4 rfl⟩

theorem size_set (w : World) (a : Addr) (v : Value) : (w.setCell a v).heap.size = w.heap.size := by simp [World.setCell]
theorem atA_new (W : World) (t : TypeId) (x : Arr) (b : Nat) (hb : b = W.heap.size) : AtA (W.alloc (.cells #[.int .i64 x.f, .int .i64 x.e, .int .i64 x.t] t)) (some ⟨b, 0, none⟩) [x] := by
  subst hb
  refine .inr ⟨_, 0, rfl, by simp, fun j hj => ?_⟩
  have : j = 0 := by simp at hj; omega
  subst this
  exact ⟨(Blk.new W t #[.int .i64 x.f, .int .i64 x.e, .int .i64 x.t]).cell 0 rfl, (Blk.new W t #[.int .i64 x.f, .int .i64 x.e, .int .i64 x.t]).cell 1 rfl, (Blk.new W t #[.int .i64 x.f, .int .i64 x.e, .int .i64 x.t]).cell 2 rfl⟩
end Go.Proofs.YtbdkaobbfmgnhaaDoor
