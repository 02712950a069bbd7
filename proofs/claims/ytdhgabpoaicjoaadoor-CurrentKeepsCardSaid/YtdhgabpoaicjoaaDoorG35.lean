/-
  The walk of the closure of initial.watch: what goes back from a set, at an event.
  The walk of initial.watch.
  The walks of current.IsSeen, of its closure, and of slices.ContainsFunc and slices.IndexFunc at it.
  The walk of place.leaks.
  A row of integers as the kit's words for sorting and reversing put it.
-/
import Derived.Test.YtdhgabpoaicjoaaDoorCSpread
import Derived.Test.YtdhgabpoaicjoaaDoorG30
import Derived.Test.YtdhgabpoaicjoaaDoorG12
import Derived.Deep.RegionHeld3
import Derived.Test.YtdhgabpoaicjoaaDoorG07
import Derived.Test.YtdhgabpoaicjoaaDoorG24
import Derived.Test.YtdhgabpoaicjoaaDoorCSBase
import Derived.Test.YtdhgabpoaicjoaaDoorG15
import Derived.Test.YtdhgabpoaicjoaaDoorCSetOps
import Derived.Test.YtdhgabpoaicjoaaDoorG10
import Derived.Shelf.Slices.Reverse
namespace Go.Proofs.YtdhgabpoaicjoaaDoor
open Go.RowKit Go.Shelf
set_option linter.unusedVariables false
attribute [local go_sem] Oper.semAt_some

/-- The table of initial.watch lies in block g: 8 rows of 6 sets. -/
def TI (W : World) (g : Nat) (T : Nat → Nat → Nat) : Prop := ∃ cs, Blk W g 156 cs ∧ cs.size = 192 ∧ ∀ e n j, e < 8 → n < 6 → j < 4 → cs[e * 24 + n * 4 + j]? = some (.int .u64 (T (e * 6 + n) j))
theorem TI.cells {W : World} {g : Nat} {T : Nat → Nat → Nat} (h : TI W g T) {e n : Nat} (he : e < 8) (hn : n < 6) : W.cell? ⟨g, e * 24 + n * 4, none⟩ = some (.int .u64 (T (e * 6 + n) 0)) ∧ W.cell? ⟨g, e * 24 + n * 4 + 1, none⟩ = some (.int .u64 (T (e * 6 + n) 1)) ∧ W.cell? ⟨g, e * 24 + n * 4 + 2, none⟩ = some (.int .u64 (T (e * 6 + n) 2)) ∧ W.cell? ⟨g, e * 24 + n * 4 + 3, none⟩ = some (.int .u64 (T (e * 6 + n) 3)) := by
  obtain ⟨cs, hb, hs, hc⟩ := h
  exact ⟨hb.cell _ (hc e n 0 he hn (by omega)), hb.cell _ (hc e n 1 he hn (by omega)), hb.cell _ (hc e n 2 he hn (by omega)), hb.cell _ (hc e n 3 he hn (by omega))⟩
theorem TI.below {W W' : World} {g B : Nat} {T : Nat → Nat → Nat} (h : TI W g T) (hb : Below B W W') (hB : g < B) : TI W' g T := by
  obtain ⟨cs, h1, h2, h3⟩ := h
  exact ⟨cs, h1.below hb hB, h2, h3⟩
theorem TI.lt {W : World} {g : Nat} {T : Nat → Nat → Nat} (h : TI W g T) : g < W.heap.size := by
  obtain ⟨cs, h1, h2, h3⟩ := h
  exact h1.lt
theorem TI.frozen {W : World} {g : Nat} {T : Nat → Nat → Nat} (h : TI W g T) (j : Nat) : W.frozen? ⟨g, j, none⟩ = false := by
  obtain ⟨cs, h1, h2, h3⟩ := h
  exact h1.frozen j
/-- One set of the table stored anew. -/
theorem TI.store {W : World} {g e n : Nat} {T : Nat → Nat → Nat} (h : TI W g T) (he : e < 8) (hn : n < 6) (U : Nat → Nat) :
    TI ((((W.setCell ⟨g, e * 24 + n * 4, none⟩ (.int .u64 (U 0))).setCell ⟨g, e * 24 + n * 4 + 1, none⟩ (.int .u64 (U 1))).setCell ⟨g, e * 24 + n * 4 + 2, none⟩ (.int .u64 (U 2))).setCell ⟨g, e * 24 + n * 4 + 3, none⟩ (.int .u64 (U 3))) g (fun q => if q = e * 6 + n then U else T q) := by
  obtain ⟨cs, h1, h2, h3⟩ := h
  refine ⟨_, (((h1.set (e * 24 + n * 4) _).set (e * 24 + n * 4 + 1) _).set (e * 24 + n * 4 + 2) _).set (e * 24 + n * 4 + 3) _, by simp [h2], fun e' n' j he' hn' hj => ?_⟩
  simp only [Array.getElem?_setIfInBounds, Array.size_setIfInBounds]
  by_cases q : e' * 6 + n' = e * 6 + n
  · have q1 : e' = e := by omega
    have q2 : n' = n := by omega
    subst q1; subst q2
    have hj' : j = 0 ∨ j = 1 ∨ j = 2 ∨ j = 3 := by omega
    rcases hj' with rfl | rfl | rfl | rfl
    · simp [show e' * 24 + n' * 4 < cs.size by omega]
    · simp [show e' * 24 + n' * 4 + 1 < cs.size by omega]
    · simp [show e' * 24 + n' * 4 + 2 < cs.size by omega]
    · simp [show e' * 24 + n' * 4 + 3 < cs.size by omega]
  · have a0 : ¬ e * 24 + n * 4 = e' * 24 + n' * 4 + j := by omega
    have a1 : ¬ e * 24 + n * 4 + 1 = e' * 24 + n' * 4 + j := by omega
    have a2 : ¬ e * 24 + n * 4 + 2 = e' * 24 + n' * 4 + j := by omega
    have a3 : ¬ e * 24 + n * 4 + 3 = e' * 24 + n' * 4 + j := by omega
    rw [if_neg a3, if_neg a2, if_neg a1, if_neg a0, h3 e' n' j he' hn' hj, if_neg q]

set_option maxRecDepth 100000 in
set_option maxHeartbeats 4000000 in
theorem iwatch1_in (S : Nat → Nat) (hS : okS S) (e : Nat) (he8 : e < 8) (T : Nat → Nat → Nat) (hTok : Hid (∀ p, okS (T p))) (hall : ∀ k ∈ allS S, k < 6) (pg : Nat) (w : World) (hT : Tab w) (hTB : TI w pg T) :
    CallsIn Fence.wide 5 Tryd.prog 126 #[sval S, .int .i64 e, .pointer (some ⟨pg, 0, none⟩)] w fun e' W' => e' = .returned (sval (toF (fun n => T (e * 6 + n)) (allS S))) ∧ Below w.heap.size w W' := by
  obtain ⟨xs, hxs⟩ := nb_of (N := 6) (allS S) hall
  clear hall
  refine callsIn_of_wp_marks Tryd.func126 rfl trivial ?_ rfl
  simp only [Tryd.ntmps126, List.size_toArray, List.length_cons, List.length_nil, Nat.reduceAdd, Nat.reduceSub, Array.replicate_succ, Array.replicate_zero, List.push_toArray, List.append_toArray, List.nil_append, List.cons_append]
  gi_wp2_with (refine ⟨trivial, ?_⟩; refine CallsIn.mono (callsIn_wide.2 (all_any S _)) ?_; rintro e1 w1 ⟨rfl, rfl⟩)
  have hB0 : Below w.heap.size w (((((w.alloc (.cells (scells S) 65)).alloc (.cells #[.int .i64 e] 3)).alloc (.cells #[.int .u64 0, .int .u64 0, .int .u64 0, .int .u64 0] 65)).alloc (.cells #[.int .u64 0, .int .u64 0, .int .u64 0, .int .u64 0] 65)).alloc (.cells (scells S) 65)) := (((((Below.refl _ _).alloc (Nat.le_refl _) _).alloc (by simp) _).alloc (by simp; omega) _).alloc (by simp; omega) _).alloc (by simp; omega) _
  have bX : Boxed (((((w.alloc (.cells (scells S) 65)).alloc (.cells #[.int .i64 e] 3)).alloc (.cells #[.int .u64 0, .int .u64 0, .int .u64 0, .int .u64 0] 65)).alloc (.cells #[.int .u64 0, .int .u64 0, .int .u64 0, .int .u64 0] 65)).alloc (.cells (scells S) 65)) (w.heap.size + 1) 3 (.int .i64 e) := by
    have := (((Boxed.new (w.alloc (.cells (scells S) 65)) 3 (.int .i64 e)).alloc (.cells #[.int .u64 0, .int .u64 0, .int .u64 0, .int .u64 0] 65)).alloc (.cells #[.int .u64 0, .int .u64 0, .int .u64 0, .int .u64 0] 65)).alloc (.cells (scells S) 65)
    rwa [World.size_alloc] at this
  have bR : SB (((((w.alloc (.cells (scells S) 65)).alloc (.cells #[.int .i64 e] 3)).alloc (.cells #[.int .u64 0, .int .u64 0, .int .u64 0, .int .u64 0] 65)).alloc (.cells #[.int .u64 0, .int .u64 0, .int .u64 0, .int .u64 0] 65)).alloc (.cells (scells S) 65)) (w.heap.size + 1 + 1) zeroS := by
    have := ((Blk.new ((w.alloc (.cells (scells S) 65)).alloc (.cells #[.int .i64 e] 3)) 65 #[.int .u64 0, .int .u64 0, .int .u64 0, .int .u64 0]).alloc (.cells #[.int .u64 0, .int .u64 0, .int .u64 0, .int .u64 0] 65)).alloc (.cells (scells S) 65)
    rwa [World.size_alloc, World.size_alloc] at this
  have bO : SB (((((w.alloc (.cells (scells S) 65)).alloc (.cells #[.int .i64 e] 3)).alloc (.cells #[.int .u64 0, .int .u64 0, .int .u64 0, .int .u64 0] 65)).alloc (.cells #[.int .u64 0, .int .u64 0, .int .u64 0, .int .u64 0] 65)).alloc (.cells (scells S) 65)) (w.heap.size + 1 + 1 + 1) zeroS := by
    have := (Blk.new (((w.alloc (.cells (scells S) 65)).alloc (.cells #[.int .i64 e] 3)).alloc (.cells #[.int .u64 0, .int .u64 0, .int .u64 0, .int .u64 0] 65)) 65 #[.int .u64 0, .int .u64 0, .int .u64 0, .int .u64 0]).alloc (.cells (scells S) 65)
    rwa [World.size_alloc, World.size_alloc, World.size_alloc] at this
  have bN : SB (((((w.alloc (.cells (scells S) 65)).alloc (.cells #[.int .i64 e] 3)).alloc (.cells #[.int .u64 0, .int .u64 0, .int .u64 0, .int .u64 0] 65)).alloc (.cells #[.int .u64 0, .int .u64 0, .int .u64 0, .int .u64 0] 65)).alloc (.cells (scells S) 65)) (w.heap.size + 1 + 1 + 1 + 1) S := by
    have := Blk.new ((((w.alloc (.cells (scells S) 65)).alloc (.cells #[.int .i64 e] 3)).alloc (.cells #[.int .u64 0, .int .u64 0, .int .u64 0, .int .u64 0] 65)).alloc (.cells #[.int .u64 0, .int .u64 0, .int .u64 0, .int .u64 0] 65)) 65 (scells S)
    rwa [World.size_alloc, World.size_alloc, World.size_alloc, World.size_alloc] at this
  have hsz0 : (((((w.alloc (.cells (scells S) 65)).alloc (.cells #[.int .i64 e] 3)).alloc (.cells #[.int .u64 0, .int .u64 0, .int .u64 0, .int .u64 0] 65)).alloc (.cells #[.int .u64 0, .int .u64 0, .int .u64 0, .int .u64 0] 65)).alloc (.cells (scells S) 65)).heap.size = w.heap.size + 5 := by simp
  revert hB0 bX bR bO bN hsz0
  generalize ((((w.alloc (.cells (scells S) 65)).alloc (.cells #[.int .i64 e] 3)).alloc (.cells #[.int .u64 0, .int .u64 0, .int .u64 0, .int .u64 0] 65)).alloc (.cells #[.int .u64 0, .int .u64 0, .int .u64 0, .int .u64 0] 65)).alloc (.cells (scells S) 65) = W0
  intro hB0 bX bR bO bN hsz0
  have hT0 := hT.below hB0 hT.lt
  have hw0 := hT.lt
  refine wpIn_rangeFunc_ownG rfl (by omega) (gf := 135) (lb := #[.pointer (some ⟨w.heap.size + 1 + 1 + 1 + 1, 0, none⟩)]) rfl trivial (enters_of Tryd.func135 (by kernel_rfl) rfl)
    (all_stops 4 (by omega) (w.heap.size + 1 + 1 + 1 + 1) (w.heap.size + 3) S hS xs hxs (by omega) W0 (by omega) bN hT0) belowK_t (belowK_b (by omega)) (Below.refl _ _) (fun _ => rfl)
    (fun pre W' => SB W' (w.heap.size + 1 + 1 + 1) (toF (fun n => T (e * 6 + n)) (nbNats pre)) ∧ Below (w.heap.size + 3) W0 W')
    (fun _ _ _ => False)
    (OwnFrom.and (Go.Own.from (own_SB (w.heap.size + 1 + 1 + 1) (fun pre : List (NB 6) => toF (fun n => T (e * 6 + n)) (nbNats pre))) _) (ownFrom_below (by omega) (by omega)))
    (fun _ _ _ _ _ hs _ _ => hs)
    ⟨bO, Below.refl _ _⟩
    (fun x => { tmps := #[sval S, .int .i64 e, .pointer (some ⟨pg, 0, none⟩), .pointer (some ⟨w.heap.size, 0, none⟩), .pointer (some ⟨w.heap.size + 1, 0, none⟩), .pointer (some ⟨w.heap.size + 1 + 1, 0, none⟩), .pointer (some ⟨w.heap.size + 1 + 1 + 1, 0, none⟩), .int .i64 (x.1 : Int), sval S, .func (.func 135) #[] #[.pointer (some ⟨w.heap.size + 1 + 1 + 1 + 1, 0, none⟩)], .int .i64 (x.1 : Int), undef, undef, undef, undef, undef, undef, undef, undef], defers := [] }) ?assign ?body ?done ?stop
  case assign =>
    intro l x W K hK
    gi_wp2
    exact hK
  case body =>
    rintro l' pre x W' ⟨hO, hB'⟩ hlt
    have hBW : Below w.heap.size w W' := hB0.trans (hB'.mono (by omega))
    have hTW := hTB.below hBW hTB.lt
    have c1 : W'.cell? ⟨w.heap.size + 1, 0, none⟩ = some (.int .i64 e) := Boxed.cell ((hB'.block _ (by omega)).trans bX)
    have hx := x.2
    obtain ⟨n, hn⟩ : ∃ n, Hid (n = x.1) := ⟨_, rfl⟩
    rw [← hn.out] at hx ⊢
    obtain ⟨t0, t1, t2, t3⟩ := hTW.cells he8 hx
    obtain ⟨o0, o1, o2, o3⟩ := hO.cells
    have fO := hO.frozen
    have mx : Tryd.prog.follows .mixedOrders = true := by kernel_rfl
    have hOk : Hid (okS (toF (fun n => T (e * 6 + n)) (nbNats pre))) := ok_toF (fun _ => hTok.out _) _
    have hTp : Hid (okS (T (e * 6 + n))) := hTok.out _
    have HX : Hid (toF (fun n => T (e * 6 + n)) (nbNats (pre ++ [x])) = joinS (toF (fun n => T (e * 6 + n)) (nbNats pre)) (T (e * 6 + n))) := by show _ = _; rw [nbNats_snoc, toF_snoc, hn.out]
    have hn0 : (0 : Int) ≤ (n : Int) := by omega
    have hnI : (n : Int) < 6 := by omega
    have he0 : (0 : Int) ≤ (e : Int) := by omega
    have heI : (e : Int) < 8 := by omega
    obtain ⟨U, HU⟩ : ∃ U, Hid (U = T (e * 6 + n)) := ⟨_, rfl⟩
    rw [← HU.out] at t0 t1 t2 t3 hTp HX
    have hOd : Hid (SB W'.drew (w.heap.size + 1 + 1 + 1) (toF (fun n => T (e * 6 + n)) (nbNats pre))) := hO
    have HB := Hid.of hB'
    have HO := Hid.of hO
    clear hTW hBW hB' hO
    generalize toF (fun n => T (e * 6 + n)) (nbNats pre) = O at *
    gi_wp2
    gi_region_with_o (refine ⟨trivial, ?_⟩; refine CallsIn.mono (CallsIn.inRound l' (callsIn_wide.2 (join_any O U _ hOk.out hTp.out))) ?_; rintro e' w1 ⟨rfl, hb1⟩; have hO1 := Blk.below hOd.out hb1 hOd.out.lt; obtain ⟨y0, y1, y2, y3⟩ := SB.cells hO1; have fO1 := Blk.frozen hO1)
    all_goals
      have k1 : KeepsOthers W' w1 := ⟨hb1.size, fun k o hk _ => (hb1.block k (Array.getElem?_eq_some_iff.1 hk).1).trans hk⟩
      have k2 : Below (w.heap.size + 3) W' w1 := ((Below.refl _ W').drew).trans (hb1.mono (Nat.le_of_lt HO.out.lt))
      have k3 := below_set4 k2 (b' := w.heap.size + 1 + 1 + 1) (Nat.le_refl _) (.int .u64 (joinS O U 0)) (.int .u64 (joinS O U 1)) (.int .u64 (joinS O U 2)) (.int .u64 (joinS O U 3))
      exact ⟨((((k1.trans (KeepsOthers.setCell _ _ _)).trans (KeepsOthers.setCell _ _ _)).trans (KeepsOthers.setCell _ _ _)).trans (KeepsOthers.setCell _ _ _)).from _, k3, by rw [HX.out]; exact SB.set4 hO1 _, HB.out.trans k3⟩
  case done =>
    rintro D ys W' hD rfl ⟨hO, hB'⟩ hK
    have hBW : Below w.heap.size w W' := hB0.trans (hB'.mono (by omega))
    obtain ⟨o0, o1, o2, o3⟩ := hO.cells
    have HQ : Hid (toF (fun n => T (e * 6 + n)) (nbNats ys) = toF (fun n => T (e * 6 + n)) (allS S)) := by show _ = _; rw [← hxs]; rfl
    have hres := bR.below hB' (by omega)
    obtain ⟨r0, r1, r2, r3⟩ := SB.cells hres
    have rz := hres.frozen
    have k2 := Hid.of (SB.set4 hres (toF (fun n => T (e * 6 + n)) (nbNats ys)))
    have k3 := Hid.of (below_set4 hBW (b' := w.heap.size + 1 + 1) (by omega) (.int .u64 (toF (fun n => T (e * 6 + n)) (nbNats ys) 0)) (.int .u64 (toF (fun n => T (e * 6 + n)) (nbNats ys) 1)) (.int .u64 (toF (fun n => T (e * 6 + n)) (nbNats ys) 2)) (.int .u64 (toF (fun n => T (e * 6 + n)) (nbNats ys) 3)))
    have hMk : Marks w.heap.size [D] W' := by
      refine ⟨fun D' hD' => ?_, by simp⟩
      have e : D' = D := by simpa using hD'
      rw [e]
      exact ⟨by omega, hK⟩
    have k4 := Hid.of (hMk.other4 hres (toF (fun n => T (e * 6 + n)) (nbNats ys)))
    clear hMk
    clear hO hBW hB' hres hK
    generalize toF (fun n => T (e * 6 + n)) (nbNats ys) = O at *
    gi_wp2
    refine leaves_marks (B := w.heap.size) (fun W => SB W (w.heap.size + 1 + 1) O ∧ Below w.heap.size w W) ?hJ ?hfin [D] _ k4.out ⟨k2.out, k3.out⟩
    case hJ =>
      rintro W D ⟨h1, h2⟩ hD hk
      refine ⟨(World.putObj_heap_other (fun e => ?_)).trans h1, h2.trans (belowK_b (w := w) (Nat.le_refl _) W D _ _ hD hk rfl rfl)⟩
      have h3 : W.heap[w.heap.size + 1 + 1]? = _ := h1
      rw [e, hk] at h3
      cases h3
    case hfin =>
      rintro W ⟨h1, h2⟩
      exact ⟨_, results_cell_row (g := w.heap.size + 1 + 1) (p := 5) rfl _ _ _ _ _ _ rfl h1 Tryd.underlying65 rfl (by kernel_rfl), by rw [← HQ.out], h2⟩
  case stop =>
    rintro D c pre W _ _ h _
    exact h.elim

theorem iwatch1_any (S : Nat → Nat) (hS : okS S) (e : Nat) (he8 : e < 8) (T : Nat → Nat → Nat) (hTok : ∀ p, okS (T p)) (hall : ∀ k ∈ allS S, k < 6) (pg : Nat) (w : World) (hT : Tab w) (hTB : TI w pg T) :
    Calls Tryd.prog 126 #[sval S, .int .i64 e, .pointer (some ⟨pg, 0, none⟩)] w fun e' W' => e' = .returned (sval (toF (fun n => T (e * 6 + n)) (allS S))) ∧ Below w.heap.size w W' :=
  callsIn_wide.1 (iwatch1_in S hS e he8 T hTok hall pg w hT hTB)

end Go.Proofs.YtdhgabpoaicjoaaDoor
namespace Go.Proofs.YtdhgabpoaicjoaaDoor
open Go.RowKit
set_option linter.unusedVariables false

/-- The closure that goes one event back. -/
abbrev backV (pa : Nat) : Value := .func (.func 126) #[] #[.pointer (some ⟨pa, 0, none⟩)]

set_option maxRecDepth 100000 in
theorem zero_ti : ∀ e n j, e < 8 → n < 6 → j < 4 → Tryd.zeroCells156[e * 24 + n * 4 + j]? = some (.int .u64 (zeroS j)) := by
  have hz : Tryd.zeroCells156 = Array.replicate 192 (Value.int .u64 0) := by kernel_rfl
  intro e n j he hn hj
  rw [hz, Array.getElem?_replicate, if_pos (by omega)]
  rfl

set_option maxRecDepth 100000 in
set_option maxHeartbeats 8000000 in
theorem iwatch_bad (p : Plant) (P : PTL) (w : World) (h : Hid (PAt w p P)) (hp : Hid (mayP p = false)) :
    Calls Tryd.prog 90 #[ptval p P] w fun e w' => e = .returned (.tuple #[.nilFunc, .int .i64 2]) ∧ Below w.heap.size w w' := by
  have B : Hid (Below w.heap.size w (w.alloc (.cells (ptcells p P) 50))) := (Below.refl _ _).alloc (Nat.le_refl _) _
  have KP : Hid (Blk (w.alloc (.cells (ptcells p P) 50)) w.heap.size 50 (ptcells p P)) := Blk.new w _ _
  go_enter Tryd.func90, Tryd.ntmps90
  obtain ⟨x0, x1, x2, x3, x4, x5, x6⟩ := ptcell_at KP.out
  go_wp2_with fail
  clear x0 x1 x2 x3 x4 x5 x6
  revert B KP
  generalize (w.alloc (.cells (ptcells p P) 50)) = V0
  intro B KP
  refine (pCurMay_any p P V0 (h.out.below B.out (Nat.le_refl _))).mono ?_
  rintro e W1 ⟨rfl, hb⟩
  replace B := Hid.of (B.out.trans (hb.mono B.out.size))
  clear hb
  rw [hp.out]
  go_wp2_with fail
  exact bodyPost_ret (v := .tuple #[.nilFunc, .int .i64 2]) (by simp [results, go_sem]) rfl ⟨rfl, B.out⟩

set_option maxRecDepth 100000 in
set_option maxHeartbeats 8000000 in
theorem iwatch_ok (p : Plant) (Pl : ML) (sa : Option Addr) (sc : Nat) (ta : Option Addr) (tc : Nat) (w : World) (h : Hid (PAt w p ⟨Pl, sa, sc, ta, tc⟩)) (hT : Hid (Tab w)) (hp : Hid (mayP p = true)) :
    Calls Tryd.prog 90 #[ptval p ⟨Pl, sa, sc, ta, tc⟩] w fun e w' => ∃ pa, e = .returned (.tuple #[backV pa, .int .i64 0]) ∧ TI w' pa (baT p) ∧ Below w.heap.size w w' := by
  have hmf : ∀ (fn : Fn) (first cap : Array Value) (w : World), (Instr.makeFunc fn first cap).run Tryd.prog w = .ok (.func fn first cap) w := fun _ _ _ _ => rfl
  obtain ⟨hm, z6, hr, -⟩ := (mayP_iff p).1 hp.out
  have hz := mayB_size hm
  unfold sizeOk at hz
  have hrow := (rowB_iff _ (by omega) _).1 hr
  have hft := hide_small hm z6 hr
  have HMH := Hid.of (may_hide hm hr hft)
  have HI : Hid (∀ a ∈ (hideM p.m p.seen).arrows, 0 ≤ a.f ∧ a.f < 6 ∧ 0 ≤ a.e ∧ a.e < (p.seen.length : Int) ∧ 0 ≤ a.t ∧ a.t < 6) := fun a ha => by
    have := may_arrs HMH.out a ha
    have e1 : (hideM p.m p.seen).st = p.m.st := rfl
    have e2 : (hideM p.m p.seen).ev = (p.seen.length : Int) := rfl
    unfold arrIn at this
    omega
  have HS : Hid (∀ k : Nat, k < p.seen.length → 0 ≤ p.seen[k]?.getD 0 ∧ p.seen[k]?.getD 0 < 8) := fun k hk => by
    rw [List.getElem?_eq_getElem hk, Option.getD_some]
    have := hrow.2 _ (List.getElem_mem hk)
    omega
  have HMM := Hid.of hm
  have HRR := Hid.of hr
  have HFT := Hid.of hft
  clear hm hr hft z6 hz hrow
  have B : Hid (Below w.heap.size w (w.alloc (.cells (ptcells p ⟨Pl, sa, sc, ta, tc⟩) 50))) := (Below.refl _ _).alloc (Nat.le_refl _) _
  have KP : Hid (Blk (w.alloc (.cells (ptcells p ⟨Pl, sa, sc, ta, tc⟩) 50)) w.heap.size 50 (ptcells p ⟨Pl, sa, sc, ta, tc⟩)) := Blk.new w _ _
  go_enter Tryd.func90, Tryd.ntmps90
  obtain ⟨x0, x1, x2, x3, x4, x5, x6⟩ := ptcell_at KP.out
  go_wp2_with fail
  clear x0 x1 x2 x3 x4 x5 x6
  revert B KP
  generalize (w.alloc (.cells (ptcells p ⟨Pl, sa, sc, ta, tc⟩) 50)) = V0
  intro B KP
  refine (pCurMay_any p ⟨Pl, sa, sc, ta, tc⟩ V0 (h.out.below B.out (Nat.le_refl _))).mono ?_
  rintro e W1 ⟨rfl, hb⟩
  replace B := Hid.of (B.out.trans (hb.mono B.out.size))
  replace KP := Hid.of (KP.out.below hb KP.out.lt)
  clear hb
  rw [hp.out]
  obtain ⟨x0, x1, x2, x3, x4, x5, x6⟩ := ptcell_at KP.out
  go_wp2_with fail
  clear x0 x1 x2 x3 x4 x5 x6
  refine (hide_okp p.m Pl sa sc p.seen W1 (h.out.m.below B.out (Nat.le_refl _)) (h.out.s.at_.below B.out (Nat.le_refl _)) h.out.s.len (hT.out.below B.out hT.out.lt) HMM.out HRR.out HFT.out).mono ?_
  rintro e W2 ⟨Lh, rfl, mt, hb⟩
  replace B := Hid.of (B.out.trans (hb.mono B.out.size))
  replace KP := Hid.of (KP.out.below hb KP.out.lt)
  clear hb
  have HBT : Hid (∀ T, T = tabK (frI p.seen) Arr.f (hideM p.m p.seen).arrows → T = baT p) := fun T hT => hT
  obtain ⟨M, HM⟩ : ∃ M, Hid (M = hideM p.m p.seen) := ⟨_, rfl⟩
  rw [← HM.out] at mt HMH HI HBT
  rw [← HM.out]
  obtain ⟨a1, c1, a2, c2, a3, c3⟩ := Lh
  have hb : Below W2.heap.size W2 (W2.alloc (.cells (mcells M ⟨a1, c1, a2, c2, a3, c3⟩) 25)) := (Below.refl _ _).alloc (Nat.le_refl _) _
  have MT := Hid.of (mt.below hb (Nat.le_refl _))
  have KM := Hid.of (Blk.new W2 25 (mcells M ⟨a1, c1, a2, c2, a3, c3⟩))
  have MT0 := mt
  clear hb mt
  have MT2 := Hid.of MT0
  have T0 : Hid (TI ((W2.alloc (.cells (mcells M ⟨a1, c1, a2, c2, a3, c3⟩) 25)).alloc (.cells Tryd.zeroCells156 156)) (W2.heap.size + 1) (tabK (frI p.seen) Arr.f (M.arrows.take 0))) := by
    have := Blk.new (W2.alloc (.cells (mcells M ⟨a1, c1, a2, c2, a3, c3⟩) 25)) 156 Tryd.zeroCells156
    rw [World.size_alloc] at this
    exact ⟨_, this, by kernel_rfl, zero_ti⟩
  have B2 : Hid (Below W2.heap.size W2 ((W2.alloc (.cells (mcells M ⟨a1, c1, a2, c2, a3, c3⟩) 25)).alloc (.cells Tryd.zeroCells156 156))) := ((Below.refl _ _).alloc (Nat.le_refl _) _).alloc (by simp) _
  obtain ⟨x0, x1, x2, x3, x4⟩ := mcell_at KM.out
  go_wp2_with fail
  clear x0 x1 x2 x3 x4 KM MT MT0
  revert T0 B2
  show Hid (TI ((W2.alloc (.cells #[.int .i64 M.st, .int .i64 M.ev, .slice a1 M.starts.length c1, .slice a2 M.arrows.length c2, .slice a3 M.ends.length c3] 25)).alloc (.cells Tryd.zeroCells156 156)) (W2.heap.size + 1) (tabK (frI p.seen) Arr.f (M.arrows.take 0))) → Hid (Below W2.heap.size W2 ((W2.alloc (.cells #[.int .i64 M.st, .int .i64 M.ev, .slice a1 M.starts.length c1, .slice a2 M.arrows.length c2, .slice a3 M.ends.length c3] 25)).alloc (.cells Tryd.zeroCells156 156))) → _
  generalize (W2.alloc (.cells #[.int .i64 M.st, .int .i64 M.ev, .slice a1 M.starts.length c1, .slice a2 M.arrows.length c2, .slice a3 M.ends.length c3] 25)).alloc (.cells Tryd.zeroCells156 156) = X0
  intro T0 B2
  have hpa : Hid (W2.heap.size ≤ W2.heap.size + 1) := Nat.le_succ _
  have hpl : Hid (w.heap.size < W2.heap.size) := KP.out.lt
  revert T0 hpa
  generalize W2.heap.size + 1 = pa
  intro T0 hpa
  have HML : Hid (M.arrows.length ≤ 9223372036854775807) := by
    have q1 := MT2.out.a1
    have q2 := MT2.out.a2
    show M.arrows.length ≤ _
    have q3 : maxLen ≤ 9223372036854775807 := by decide
    exact Nat.le_trans q1 (Nat.le_trans q2 q3)
  have hml := HML.out
  go_loopw [27] (fun i wr => ∃ k : Nat, k ≤ M.arrows.length ∧ i = .int .i64 k ∧ Hid (TI wr pa (tabK (frI p.seen) Arr.f (M.arrows.take k))) ∧ Hid (Below W2.heap.size W2 wr)) (fun i _ => M.arrows.length - (intOf i).toNat)
  case atStart => exact ⟨0, Nat.zero_le _, rfl, T0, B2⟩
  case round =>
    clear T0 B2
    obtain ⟨k, hk, rfl, LT, LB⟩ := hrel
    by_cases hlt : k < M.arrows.length
    · obtain ⟨b, off, rfl, hb, hca⟩ : ∃ b off, a2 = some ⟨b, off, none⟩ ∧ b < W2.heap.size ∧ CellsA W2 b off M.arrows := by
        rcases MT2.out.a with h0 | ⟨b, off, h0⟩
        · rw [h0] at hlt; simp at hlt
        · exact ⟨b, off, h0⟩
      obtain ⟨a, HA, x1, x2, x3⟩ := hca.at hlt
      have hia := HI.out a (by
        have h := HA.out
        rw [List.getElem?_eq_getElem hlt, Option.getD_some] at h
        rw [h]; exact List.getElem_mem hlt)
      obtain ⟨f, ef⟩ : ∃ f : Nat, a.f = (f : Int) := ⟨a.f.toNat, by omega⟩
      obtain ⟨e, ee⟩ : ∃ e : Nat, a.e = (e : Int) := ⟨a.e.toNat, by omega⟩
      obtain ⟨t, et⟩ : ∃ t : Nat, a.t = (t : Int) := ⟨a.t.toNat, by omega⟩
      rw [ef] at x1
      rw [ee] at x2
      rw [et] at x3
      have hf : f < 6 := by omega
      have he : e < p.seen.length := by omega
      have ht : t < 6 := by omega
      obtain ⟨sb, so, rfl, hsb, hcs⟩ : ∃ sb so, sa = some ⟨sb, so, none⟩ ∧ sb < w.heap.size ∧ Cells w sb so p.seen := by
        rcases h.out.s.at_ with h0 | ⟨b, off, h0⟩
        · rw [h0] at he; simp at he
        · exact ⟨b, off, h0⟩
      obtain ⟨sv, HSV, z1⟩ := hcs.at he
      have hsv := HS.out e he
      rw [← HSV.out] at hsv
      obtain ⟨se, ese⟩ : ∃ se : Nat, sv = (se : Int) := ⟨sv.toNat, by omega⟩
      rw [ese] at z1
      have hse : se < 8 := by omega
      have HT : Hid (tabK (frI p.seen) Arr.f (M.arrows.take (k + 1)) = fun r => if r = se * 6 + t then withS (tabK (frI p.seen) Arr.f (M.arrows.take k) r) f else tabK (frI p.seen) Arr.f (M.arrows.take k) r) := by
        show _ = _
        rw [tabK_take hlt HA]
        funext r
        have e1 : (frI p.seen a).toNat = se * 6 + t := by
          unfold frI
          rw [ee, et, Int.toNat_natCast, ← HSV.out, ese]; omega
        simp only [tabKStep, e1, ef, Int.toNat_natCast]
      clear hia ef ee et HA hsv ese HSV
      have lb := LB.out
      have y1 := (lb.cell (p := ⟨b, off + k * 3, none⟩) hb).trans x1
      have y2 := (lb.cell (p := ⟨b, off + k * 3 + 1, none⟩) hb).trans x2
      have y3 := (lb.cell (p := ⟨b, off + k * 3 + 2, none⟩) hb).trans x3
      clear x1 x2 x3 lb
      have hBV : Below wr.heap.size wr (wr.alloc (.cells #[.int .i64 f, .int .i64 e, .int .i64 t] 61)) := (Below.refl _ _).alloc (Nat.le_refl _) _
      have B3 := LB.out.trans (hBV.mono LB.out.size)
      have HT3 := Hid.of (LT.out.below hBV LT.out.lt)
      have HA3 := Hid.of (Blk.new wr 61 #[.int .i64 f, .int .i64 e, .int .i64 t])
      have x5 : (wr.alloc (.cells #[.int .i64 f, .int .i64 e, .int .i64 t] 61)).cell? ⟨w.heap.size, 5, none⟩ = some (.slice (some ⟨sb, so, none⟩) p.seen.length sc) := (KP.out.below B3 hpl.out).cell 5 rfl
      have z2 : (wr.alloc (.cells #[.int .i64 f, .int .i64 e, .int .i64 t] 61)).cell? ⟨sb, so + e, none⟩ = some (.int .i64 se) := (((B.out.trans (B3.mono B.out.size)).cell (p := ⟨sb, so + e, none⟩) hsb)).trans z1
      have LB3 := Hid.of B3
      have HPW : Hid (pa < wr.heap.size) := LT.out.lt
      clear B3 hBV z1
      go_wp2_with fail
      clear y1 y2 y3 x5 z2
      have hse0 : (0 : Int) ≤ (se : Int) := by omega
      have hse8 : (se : Int) < 8 := by omega
      have ht0 : (0 : Int) ≤ (t : Int) := by omega
      have ht6 : (t : Int) < 6 := by omega
      revert HT3 HA3 LB3
      generalize wr.alloc (.cells #[.int .i64 f, .int .i64 e, .int .i64 t] 61) = V
      intro HT3 HA3 LB3
      obtain ⟨R, HR⟩ : ∃ R, Hid (R = tabK (frI p.seen) Arr.f (M.arrows.take k) (se * 6 + t)) := ⟨_, rfl⟩
      have hok : Hid (okS R) := by show okS R; rw [HR.out]; exact okS_tabK _ _ _ _
      refine wp_region_held_drew (S := fun w' => w'.cell? ⟨wr.heap.size, 0, none⟩ = some (.int .i64 f) ∧ w'.cell? ⟨wr.heap.size, 2, none⟩ = some (.int .i64 t)) (by kernel_rfl) ⟨HA3.out.cell 0 rfl, HA3.out.cell 2 rfl⟩ (fun hSd => ?_)
      refine wpAnyH_take (i := 0) (v := .int .i64 se) rfl (by kernel_rfl) (by kernel_rfl) (by kernel_rfl) (fun _ _ _ h => h) (Or.inl ⟨by kernel_rfl, fun w' hw' => by obtain ⟨q0, q1⟩ := hw'; go_simp⟩) hSd ?_
      refine wpAnyH_take (i := 1) (v := .pointer (some ⟨wr.heap.size, 2, none⟩)) rfl (by kernel_rfl) (by kernel_rfl) (by kernel_rfl) (fun _ _ _ h => h) (Or.inl ⟨by kernel_rfl, fun w' hw' => by obtain ⟨q0, q1⟩ := hw'; go_simp⟩) hSd ?_
      refine wpAnyH_take (i := 2) (v := .int .i64 t) rfl (by kernel_rfl) (by kernel_rfl) (by kernel_rfl) (fun _ _ _ h => h) (Or.inl ⟨by kernel_rfl, fun w' hw' => by obtain ⟨q0, q1⟩ := hw'; go_simp⟩) hSd ?_
      refine wpAnyH_take (i := 3) (v := .int .i64 se) rfl (by kernel_rfl) (by kernel_rfl) (by kernel_rfl) (fun _ _ _ h => h) (Or.inl ⟨by kernel_rfl, fun w' hw' => by obtain ⟨q0, q1⟩ := hw'; go_simp⟩) hSd ?_
      refine wpAnyH_take (i := 4) (v := .pointer (some ⟨wr.heap.size, 2, none⟩)) rfl (by kernel_rfl) (by kernel_rfl) (by kernel_rfl) (fun _ _ _ h => h) (Or.inl ⟨by kernel_rfl, fun w' hw' => by obtain ⟨q0, q1⟩ := hw'; go_simp⟩) hSd ?_
      refine wpAnyH_take (i := 5) (v := .int .i64 t) rfl (by kernel_rfl) (by kernel_rfl) (by kernel_rfl) (fun _ _ _ h => h) (Or.inl ⟨by kernel_rfl, fun w' hw' => by obtain ⟨q0, q1⟩ := hw'; go_simp⟩) hSd ?_
      refine wpAnyH_take (i := 6) (v := .pointer (some ⟨pa, se * 24, none⟩)) rfl (by kernel_rfl) (by kernel_rfl) (by kernel_rfl) (fun _ _ _ h => h) (Or.inl ⟨by kernel_rfl, fun w' hw' => by obtain ⟨q0, q1⟩ := hw'; go_simp⟩) hSd ?_
      refine wpAnyH_take (i := 7) (v := .pointer (some ⟨pa, se * 24 + t * 4, none⟩)) rfl (by kernel_rfl) (by kernel_rfl) (by kernel_rfl) (fun _ _ _ h => h) (Or.inl ⟨by kernel_rfl, fun w' hw' => by obtain ⟨q0, q1⟩ := hw'; go_simp⟩) hSd ?_
      refine wpAnyH_take (i := 9) (v := .pointer (some ⟨wr.heap.size, 0, none⟩)) rfl (by kernel_rfl) (by kernel_rfl) (by kernel_rfl) (fun _ _ _ h => h) (Or.inl ⟨by kernel_rfl, fun w' hw' => by obtain ⟨q0, q1⟩ := hw'; go_simp⟩) hSd ?_
      refine wpAnyH_take (i := 10) (v := .int .i64 f) rfl (by kernel_rfl) (by kernel_rfl) (by kernel_rfl) (fun _ _ _ h => h) (Or.inl ⟨by kernel_rfl, fun w' hw' => by obtain ⟨q0, q1⟩ := hw'; go_simp⟩) hSd ?_
      refine wpAnyH_take (i := 12) (v := .pointer (some ⟨pa, se * 24, none⟩)) rfl (by kernel_rfl) (by kernel_rfl) (by kernel_rfl) (fun _ _ _ h => h) (Or.inl ⟨by kernel_rfl, fun w' hw' => by obtain ⟨q0, q1⟩ := hw'; go_simp⟩) hSd ?_
      have HT4 : Hid (TI V.drew pa (tabK (frI p.seen) Arr.f (M.arrows.take k))) := HT3.out
      have HA4 : Hid (Blk V.drew wr.heap.size 61 #[.int .i64 f, .int .i64 e, .int .i64 t]) := HA3.out.drew
      have LB4 : Hid (Below W2.heap.size W2 V.drew) := LB3.out.drew
      clear HT3 HA3 LB3
      revert HT4 HA4 LB4 hSd
      generalize V.drew = Y
      intro hSd HT4 HA4 LB4
      simp only [Act.put, List.setIfInBounds_toArray]
      obtain ⟨t0, t1, t2, t3⟩ := HT4.out.cells hse ht
      rw [← HR.out] at t0 t1 t2 t3
      refine wpAnyH_ready (rs := [8]) (by kernel_rfl) (by simp) ?_
      refine AllReadyH.cons rfl (fun K' hK' => ?_) AllReadyH.nil
      go_simp
      refine hK'.out _ _ hSd (fun _ => ?_)
      clear hK' K' t0 t1 t2 t3
      refine wpAnyH_ready (rs := [11]) (by kernel_rfl) (by simp) ?_
      refine AllReadyH.cons rfl (fun K' hK' => ?_) AllReadyH.nil
      go_simp
      refine (with_any R (f : Int) _ hok.out (by omega) (by omega)).mono ?_
      rintro e' w1 ⟨rfl, hb1⟩
      rw [Int.toNat_natCast]
      have T9 := HT4.out.below hb1 HT4.out.lt
      have A9 := HA4.out.below hb1 HA4.out.lt
      have L9 := LB4.out.trans (hb1.mono LB4.out.size)
      obtain ⟨v0, v1, v2, v3⟩ := T9.cells hse ht
      have fz := T9.frozen
      have T10 := Hid.of (T9.store hse ht (withS R f))
      have L10 := Hid.of (below_set4' L9 (se * 24 + t * 4) (b' := pa) hpa.out (.int .u64 (withS R f 0)) (.int .u64 (withS R f 1)) (.int .u64 (withS R f 2)) (.int .u64 (withS R f 3)))
      have A10 := Hid.of (Blk.other4' A9 (se * 24 + t * 4) (b' := pa) (by have := HPW.out; omega) (.int .u64 (withS R f 0)) (.int .u64 (withS R f 1)) (.int .u64 (withS R f 2)) (.int .u64 (withS R f 3)))
      refine hK'.out _ _ ⟨A9.cell 0 rfl, A9.cell 2 rfl⟩ (fun hS1 => ?_)
      clear hK' K'
      refine wpAnyH_take (i := 13) (v := .pointer (some ⟨pa, se * 24 + t * 4, none⟩)) rfl (by kernel_rfl) (by kernel_rfl) (by kernel_rfl) (fun _ _ _ h => h) (Or.inl ⟨by kernel_rfl, fun w' hw' => by obtain ⟨q0, q1⟩ := hw'; go_simp⟩) hS1 ?_
      refine wpAnyH_ready (rs := [14]) (by kernel_rfl) (by simp) ?_
      refine AllReadyH.cons rfl (fun K' hK' => ?_) AllReadyH.nil
      clear L9 A9 T9 hb1 hSd
      go_simp
      refine hK'.out _ _ ⟨A10.out.cell 0 rfl, A10.out.cell 2 rfl⟩ (fun _ => ?_)
      clear hK' K' v0 v1 v2 v3 fz hS1 A10
      refine wpAnyH_done (by kernel_rfl) ?_ _
      revert T10 L10
      generalize (((w1.setCell ⟨pa, se * 24 + t * 4, none⟩ (.int .u64 (withS R f 0))).setCell ⟨pa, se * 24 + t * 4 + 1, none⟩ (.int .u64 (withS R f 1))).setCell ⟨pa, se * 24 + t * 4 + 2, none⟩ (.int .u64 (withS R f 2))).setCell ⟨pa, se * 24 + t * 4 + 3, none⟩ (.int .u64 (withS R f 3)) = X
      intro T10 L10
      go_wp2
      go_roundw
      case rel =>
        refine ⟨k + 1, by omega, by go_num, ?_, L10⟩
        rw [HT.out]
        have e1 : (fun r => if r = se * 6 + t then withS (tabK (frI p.seen) Arr.f (M.arrows.take k) r) f else tabK (frI p.seen) Arr.f (M.arrows.take k) r) = (fun q => if q = se * 6 + t then withS R f else tabK (frI p.seen) Arr.f (M.arrows.take k) q) := by
          funext r
          by_cases e : r = se * 6 + t
          · subst e; simp only [if_true, HR.out]
          · rw [if_neg e, if_neg e]
        rw [e1]
        exact T10
      case measure => simp [intOf]; omega
    · have hk2 : M.arrows.length = k := by omega
      have LT2 : Hid (TI wr pa (tabK (frI p.seen) Arr.f M.arrows)) := by
        have := LT.out
        rw [List.take_of_length_le (by omega)] at this
        exact this
      clear LT
      go_wp2_with fail
      refine bodyPost_ret (v := .tuple #[backV pa, .int .i64 0]) (by simp [results, go_sem]) rfl ⟨pa, rfl, ?_, B.out.trans (LB.out.mono B.out.size)⟩
      rw [← HBT.out _ rfl]; exact LT2.out

end Go.Proofs.YtdhgabpoaicjoaaDoor
namespace Go.Proofs.YtdhgabpoaicjoaaDoor
open Go.RowKit
set_option linter.unusedVariables false

/-- Are all of a list seen? -/
def allIn (seen xs : List Int) : Bool := xs.all fun n => hasB seen n
theorem allIn_yes {seen xs : List Int} {k : Nat} {x : Int} (h : k < xs.length) (hx : Hid (x = xs[k]?.getD 0)) (he : Hid (allIn seen xs = allIn seen (xs.drop k))) (hy : hasB seen x = true) : Hid (allIn seen xs = allIn seen (xs.drop (k + 1))) := by
  show allIn seen xs = _
  rw [he.out, drop_cons h, ← hx.out]
  unfold allIn
  rw [List.all_cons, hy, Bool.true_and]
theorem allIn_no {seen xs : List Int} {k : Nat} {x : Int} (h : k < xs.length) (hx : Hid (x = xs[k]?.getD 0)) (he : Hid (allIn seen xs = allIn seen (xs.drop k))) (hy : hasB seen x = false) : allIn seen xs = false := by
  rw [he.out, drop_cons h, ← hx.out]
  unfold allIn
  rw [List.all_cons, hy, Bool.false_and]
theorem allIn_end {seen xs : List Int} {k : Nat} (h : ¬ k < xs.length) (he : Hid (allIn seen xs = allIn seen (xs.drop k))) : allIn seen xs = true := by
  rw [he.out, List.drop_eq_nil_of_le (by omega)]; rfl
theorem allIn_iff (seen xs : List Int) : allIn seen xs = true ↔ ∀ e ∈ xs, e ∈ seen := by
  unfold allIn
  rw [List.all_eq_true]
  exact ⟨fun h e he => (hasB_iff _ _).1 (h e he), fun h e he => (hasB_iff _ _).2 (h e he)⟩

set_option maxHeartbeats 400000 in
theorem isSeen1_any (sa : Option Addr) (sc : Nat) (seen : List Int) (n : Int) (pb : Nat) (w : World) (h5 : w.cell? ⟨pb, 5, none⟩ = some (.slice sa seen.length sc)) (hs : Hid (At w sa seen)) (hl : Hid (seen.length ≤ maxLen)) :
    Calls Tryd.prog 122 #[.int .i64 n, .pointer (some ⟨pb, 0, none⟩)] w fun e w' => e = .returned (.bool (!hasB seen n)) ∧ w' = w := by
  go_enter Tryd.func122, Tryd.ntmps122
  go_wp2_with (go_at_call 111; refine (rowHas_any sa sc seen n _ hs.out hl.out).mono ?_; rintro e w1 ⟨rfl, rfl⟩)
  go_ret
  exact ⟨rfl, rfl⟩

set_option maxHeartbeats 1000000 in
theorem cindexFunc_some (sa : Option Addr) (sc : Nat) (seen : List Int) (pb b off cap : Nat) (xs : List Int) (w : World) (hl : xs.length ≤ 9223372036854775807) (hc : Cells w b off xs) (h5 : Hid (w.cell? ⟨pb, 5, none⟩ = some (.slice sa seen.length sc))) (hs : Hid (At w sa seen)) (hsl : Hid (seen.length ≤ maxLen)) :
    Calls Tryd.prog 152 #[.slice (some ⟨b, off, none⟩) xs.length cap, .func (.func 122) #[] #[.pointer (some ⟨pb, 0, none⟩)]] w fun e w' => ∃ r : Int, e = .returned (.int .i64 r) ∧ decide (0 ≤ r) = !allIn seen xs ∧ w' = w := by
  go_enter Tryd.func152, Tryd.ntmps152
  go_wp2
  go_loop [8] (fun i => ∃ k : Nat, k ≤ xs.length ∧ i = .int .i64 k ∧ Hid (allIn seen xs = allIn seen (xs.drop k))) (fun i => xs.length - (intOf i).toNat)
  case atStart => exact ⟨0, Nat.zero_le _, rfl, rfl⟩
  case round =>
    obtain ⟨k, hk, rfl, he⟩ := hrel
    by_cases hlt : k < xs.length
    · obtain ⟨x, HX, hcx⟩ := hc.at hlt
      cases hi : hasB seen x with
      | true =>
        have HI := Hid.of hi
        go_wp2_with (go_at_call 122; refine (isSeen1_any sa sc seen x pb _ h5.out hs hsl).mono ?_; rintro e w1 ⟨rfl, rfl⟩)
        go_round
        case rel => exact ⟨k + 1, by omega, by go_num, allIn_yes hlt HX he HI.out⟩
        case measure => simp [intOf]; omega
      | false =>
        have HI := Hid.of hi
        go_wp2_with (go_at_call 122; refine (isSeen1_any sa sc seen x pb _ h5.out hs hsl).mono ?_; rintro e w1 ⟨rfl, rfl⟩)
        go_ret
        exact ⟨_, rfl, by rw [allIn_no hlt HX he HI.out]; simp, rfl⟩
    · go_wp2
      go_ret
      exact ⟨_, rfl, by rw [allIn_end hlt he]; simp, rfl⟩

set_option maxHeartbeats 400000 in
theorem cindexFunc_nil (seen : List Int) (a : Option Addr) (cap : Nat) (f : Value) (w : World) :
    Calls Tryd.prog 152 #[.slice a 0 cap, f] w fun e w' => ∃ r : Int, e = .returned (.int .i64 r) ∧ decide (0 ≤ r) = !allIn seen [] ∧ w' = w := by
  go_enter Tryd.func152, Tryd.ntmps152
  go_wp2
  refine wp_loop_rounds 1 ?_
  rw [rounds_succ]
  go_wp2
  go_ret
  exact ⟨_, rfl, rfl, rfl⟩

theorem cindexFunc_any (sa : Option Addr) (sc : Nat) (seen : List Int) (pb cap : Nat) (a : Option Addr) (xs : List Int) (w : World) (hx : At w a xs) (hl : xs.length ≤ maxLen) (h5 : Hid (w.cell? ⟨pb, 5, none⟩ = some (.slice sa seen.length sc))) (hs : Hid (At w sa seen)) (hsl : Hid (seen.length ≤ maxLen)) :
    Calls Tryd.prog 152 #[.slice a xs.length cap, .func (.func 122) #[] #[.pointer (some ⟨pb, 0, none⟩)]] w fun e w' => ∃ r : Int, e = .returned (.int .i64 r) ∧ decide (0 ≤ r) = !allIn seen xs ∧ w' = w := by
  rcases hx with rfl | ⟨b, off, rfl, hb, hc⟩
  · exact cindexFunc_nil seen a cap _ w
  · exact cindexFunc_some sa sc seen pb b off cap xs w hl hc h5 hs hsl

set_option maxHeartbeats 400000 in
theorem ccontainsFunc_any (sa : Option Addr) (sc : Nat) (seen : List Int) (pb cap : Nat) (a : Option Addr) (xs : List Int) (w : World) (hx : At w a xs) (hl : xs.length ≤ maxLen) (h5 : Hid (w.cell? ⟨pb, 5, none⟩ = some (.slice sa seen.length sc))) (hs : Hid (At w sa seen)) (hsl : Hid (seen.length ≤ maxLen)) :
    Calls Tryd.prog 121 #[.slice a xs.length cap, .func (.func 122) #[] #[.pointer (some ⟨pb, 0, none⟩)]] w fun e w' => e = .returned (.bool (!allIn seen xs)) ∧ w' = w := by
  have H := Hid.of (cindexFunc_any sa sc seen pb cap a xs w hx hl h5 hs hsl)
  clear h5 hs hsl hx hl
  go_enter Tryd.func121, Tryd.ntmps121
  go_wp2_with (go_at_call 152; refine H.out.mono ?_; rintro e w1 ⟨r, rfl, hr, rfl⟩; have HR := Hid.of hr; clear hr)
  go_ret
  exact ⟨ret_bool HR.out, rfl⟩

set_option maxRecDepth 100000 in
set_option maxHeartbeats 1000000 in
theorem cisSeen_any (p : Plant) (P : PTL) (a : Option Addr) (cap : Nat) (xs : List Int) (w : World) (hP : Hid (PAt w p P)) (hx : Hid (At w a xs)) (hl : Hid (xs.length ≤ maxLen)) :
    Calls Tryd.prog 84 #[ptval p P, .slice a xs.length cap] w fun e w' => e = .returned (.bool (allIn p.seen xs)) ∧ Below w.heap.size w w' := by
  have hmf : ∀ (fn : Fn) (first cap : Array Value) (w : World), (Instr.makeFunc fn first cap).run Tryd.prog w = .ok (.func fn first cap) w := fun _ _ _ _ => rfl
  have B : Hid (Below w.heap.size w (w.alloc (.cells (ptcells p P) 50))) := (Below.refl _ _).alloc (Nat.le_refl _) _
  have KP : Hid (Blk (w.alloc (.cells (ptcells p P) 50)) w.heap.size 50 (ptcells p P)) := Blk.new w _ _
  go_enter Tryd.func84, Tryd.ntmps84
  go_wp2_with fail
  revert B KP
  generalize (w.alloc (.cells (ptcells p P) 50)) = V0
  intro B KP
  refine (ccontainsFunc_any P.sa P.sc p.seen w.heap.size cap a xs V0 (hx.out.below B.out (Nat.le_refl _)) hl.out (Hid.of (ptcell_at KP.out).2.2.2.2.2.1) (Hid.of (hP.out.s.at_.below B.out (Nat.le_refl _))) (Hid.of hP.out.s.len)).mono ?_
  rintro e V1 ⟨rfl, rfl⟩
  go_wp2_with fail
  go_ret
  exact ⟨ret_bool (by simp), B.out⟩

end Go.Proofs.YtdhgabpoaicjoaaDoor
namespace Go.Proofs.YtdhgabpoaicjoaaDoor
open Go.RowKit
set_option linter.unusedVariables false

abbrev pcarr (p : PlC) : Array Value := #[.int .u64 (p.s 0), .int .u64 (p.s 1), .int .u64 (p.s 2), .int .u64 (p.s 3), .int .i64 (p.fr : Nat), .int .i64 p.ev]
abbrev pcval (p : PlC) : Value := .agg (pcarr p)
theorem PCk.cells {W : World} {b : Nat} {p : PlC} (h : Blk W b 151 (pcarr p)) : W.cell? ⟨b, 0, none⟩ = some (.int .u64 (p.s 0)) ∧ W.cell? ⟨b, 1, none⟩ = some (.int .u64 (p.s 1)) ∧ W.cell? ⟨b, 2, none⟩ = some (.int .u64 (p.s 2)) ∧ W.cell? ⟨b, 3, none⟩ = some (.int .u64 (p.s 3)) ∧ W.cell? ⟨b, 4, none⟩ = some (.int .i64 (p.fr : Nat)) ∧ W.cell? ⟨b, 5, none⟩ = some (.int .i64 p.ev) :=
  ⟨h.cell 0 rfl, h.cell 1 rfl, h.cell 2 rfl, h.cell 3 rfl, h.cell 4 rfl, h.cell 5 rfl⟩

set_option maxRecDepth 100000 in
set_option maxHeartbeats 4000000 in
theorem leaks_any (p : PlC) (T : Nat → Nat) (w : World) (o1 : okS p.s) (o2 : okS T) :
    Calls Tryd.prog 123 #[pcval p, sval T] w fun e w' => e = .returned (.bool (leakS p.s T)) ∧ Below w.heap.size w w' := by
  have B : Hid (Below w.heap.size w ((w.alloc (.cells (pcarr p) 151)).alloc (.cells (scells T) 65))) := ((Below.refl _ _).alloc (Nat.le_refl _) _).alloc (by simp) _
  have KP : Hid (Blk ((w.alloc (.cells (pcarr p) 151)).alloc (.cells (scells T) 65)) w.heap.size 151 (pcarr p)) := (Blk.new w _ _).alloc _
  have KT : Hid (SB ((w.alloc (.cells (pcarr p) 151)).alloc (.cells (scells T) 65)) (w.heap.size + 1) T) := by
    have := Blk.new (w.alloc (.cells (pcarr p) 151)) 65 (scells T)
    rwa [World.size_alloc] at this
  obtain ⟨x0, x1, x2, x3, x4, x5⟩ := PCk.cells KP.out
  obtain ⟨y0, y1, y2, y3⟩ := SB.cells KT.out
  go_enter Tryd.func123, Tryd.ntmps123
  go_wp2_with fail
  clear x0 x1 x2 x3 x4 x5 y0 y1 y2 y3
  revert B KP KT
  generalize (w.alloc (.cells (pcarr p) 151)).alloc (.cells (scells T) 65) = V0
  intro B KP KT
  refine (meets_any p.s T _ o1 o2).mono ?_
  rintro e V ⟨rfl, hb⟩
  replace B := Hid.of (B.out.trans (hb.mono B.out.size))
  replace KP := Hid.of (KP.out.below hb KP.out.lt)
  replace KT := Hid.of (KT.out.below hb KT.out.lt)
  clear hb
  cases hm : meetB p.s T with
  | false =>
    have HO : Hid (false = leakS p.s T) := by show _ = _; unfold leakS; rw [hm]; rfl
    clear hm
    go_wp2_with fail
    go_ret
    exact ⟨ret_bool HO.out, B.out⟩
  | true =>
    have HO : Hid (emptyB (lessS p.s T) = leakS p.s T) := by show _ = _; unfold leakS; rw [hm]; rfl
    clear hm
    obtain ⟨x0, x1, x2, x3, x4, x5⟩ := PCk.cells KP.out
    obtain ⟨y0, y1, y2, y3⟩ := SB.cells KT.out
    go_wp2_with fail
    refine (less_any p.s T _ o1 o2).mono ?_
    rintro e V2 ⟨rfl, hb⟩
    replace B := Hid.of (B.out.trans (hb.mono B.out.size))
    clear hb x0 x1 x2 x3 x4 x5 y0 y1 y2 y3 KP KT
    obtain ⟨Q, HQ⟩ : ∃ Q, Hid (Q = lessS p.s T) := ⟨_, rfl⟩
    rw [← HQ.out] at HO
    rw [← HQ.out]
    have heq : (Op.equalIn 10000 65 (.agg #[.int .u64 (Q 0), .int .u64 (Q 1), .int .u64 (Q 2), .int .u64 (Q 3)]) (.agg #[.int .u64 0, .int .u64 0, .int .u64 0, .int .u64 0])).run Tryd.prog V2 = .ok (emptyB Q) V2 := run_equalIn_set Q V2
    have hgd := run_guard_set
    go_wp2_with fail
    go_ret
    exact ⟨ret_bool HO.out, B.out⟩

end Go.Proofs.YtdhgabpoaicjoaaDoor
namespace Go.Proofs.YtdhgabpoaicjoaaDoor
open Go.RowKit Go.Shelf Go.Lib Go.Sort
set_option linter.unusedVariables false

theorem putRowI_heap (w : World) (blk off : Nat) (F : Array Int) (j : Nat) : (putRow (Value.int .i64) w blk off F).heap[j]? = if blk = j then (w.heap[j]?).map (fun o => match o with | .cells c e fr => .cells (putCells (Value.int .i64) off F c) e fr | o => o) else w.heap[j]? := by
  unfold putRow mapBlock
  simp only [Array.getElem?_modify]
  by_cases h : blk = j
  · simp only [h, if_true]
    cases w.heap[j]? with
    | none => rfl
    | some o => cases o <;> rfl
  · simp [h]
theorem putI_take (cur : Array Value) (S : List Int) (hl : S.length ≤ cur.size) : (putCells (Value.int .i64) 0 S.toArray cur).toList.take S.length = S.map (Value.int .i64) := by
  apply List.ext_getElem?
  intro t
  by_cases ht : t < S.length
  · rw [List.getElem?_take_of_lt ht, Array.getElem?_toList]
    simp only [putCells, Array.getElem?_mapIdx]
    have hlt : t < cur.size := by omega
    rw [Array.getElem?_eq_getElem hlt, Option.map_some, if_pos ⟨Nat.zero_le _, by simpa using ht⟩]
    simp [ht]
  · rw [List.getElem?_eq_none (by simp; omega), List.getElem?_eq_none (by simp; omega)]

end Go.Proofs.YtdhgabpoaicjoaaDoor
