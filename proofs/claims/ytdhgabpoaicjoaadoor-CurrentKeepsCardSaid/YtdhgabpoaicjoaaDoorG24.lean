/-
  The walk of hide.union: what the states of a set lead to.
  The walks of slices.Index, slices.Contains and row.Has: whether a list has a number.
  The walk of hide.quiet: of each state, where unseen events lead to.
  The walks of cmp.Less, slices.isNaN, cmp.isNaN and slices.BinarySearch: the place of a number in a row that rises.
-/
import Derived.Test.YtdhgabpoaicjoaaDoorCSpread
import Derived.Test.YtdhgabpoaicjoaaDoorG03
import Derived.Test.YtdhgabpoaicjoaaDoorG12
import Derived.Test.YtdhgabpoaicjoaaDoorCSetOps
import Derived.Test.YtdhgabpoaicjoaaDoorG15
import Derived.Test.YtdhgabpoaicjoaaDoorG06
import Derived.Test.YtdhgabpoaicjoaaDoorG04
namespace Go.Proofs.YtdhgabpoaicjoaaDoor
open Go.RowKit Go.Shelf
set_option linter.unusedVariables false
attribute [local go_sem] Oper.semAt_some

set_option maxRecDepth 100000 in
set_option maxHeartbeats 4000000 in
theorem union_in (S : Nat → Nat) (hS : okS S) (N : Nat) (T : Nat → Nat → Nat) (hTok : Hid (∀ p, okS (T p))) (hall : ∀ k ∈ allS S, k < N) (hN : N ≤ 256) (pg : Nat) (w : World) (hT : Tab w) (hTB : TB w pg N T) :
    CallsIn Fence.wide 5 Tryd.prog 69 #[sval S, .slice (some ⟨pg, 0, none⟩) N N] w fun e W' => e = .returned (sval (toF T (allS S))) ∧ Below w.heap.size w W' := by
  obtain ⟨xs, hxs⟩ := nb_of (N := N) (allS S) hall
  clear hall
  refine callsIn_of_wp_marks Tryd.func69 rfl trivial ?_ rfl
  simp only [Tryd.ntmps69, List.size_toArray, List.length_cons, List.length_nil, Nat.reduceAdd, Nat.reduceSub, Array.replicate_succ, Array.replicate_zero, List.push_toArray, List.append_toArray, List.nil_append, List.cons_append]
  gi_wp2_with (refine ⟨trivial, ?_⟩; refine CallsIn.mono (callsIn_wide.2 (all_any S _)) ?_; rintro e w1 ⟨rfl, rfl⟩)
  have hB0 : Below w.heap.size w (((((w.alloc (.cells (scells S) 65)).alloc (.cells #[.slice (some ⟨pg, 0, none⟩) N N] 80)).alloc (.cells #[.int .u64 0, .int .u64 0, .int .u64 0, .int .u64 0] 65)).alloc (.cells #[.int .u64 0, .int .u64 0, .int .u64 0, .int .u64 0] 65)).alloc (.cells (scells S) 65)) := (((((Below.refl _ _).alloc (Nat.le_refl _) _).alloc (by simp) _).alloc (by simp; omega) _).alloc (by simp; omega) _).alloc (by simp; omega) _
  have bX : Boxed (((((w.alloc (.cells (scells S) 65)).alloc (.cells #[.slice (some ⟨pg, 0, none⟩) N N] 80)).alloc (.cells #[.int .u64 0, .int .u64 0, .int .u64 0, .int .u64 0] 65)).alloc (.cells #[.int .u64 0, .int .u64 0, .int .u64 0, .int .u64 0] 65)).alloc (.cells (scells S) 65)) (w.heap.size + 1) 80 (.slice (some ⟨pg, 0, none⟩) N N) := by
    have := (((Boxed.new (w.alloc (.cells (scells S) 65)) 80 (.slice (some ⟨pg, 0, none⟩) N N)).alloc (.cells #[.int .u64 0, .int .u64 0, .int .u64 0, .int .u64 0] 65)).alloc (.cells #[.int .u64 0, .int .u64 0, .int .u64 0, .int .u64 0] 65)).alloc (.cells (scells S) 65)
    rwa [World.size_alloc] at this
  have bR : SB (((((w.alloc (.cells (scells S) 65)).alloc (.cells #[.slice (some ⟨pg, 0, none⟩) N N] 80)).alloc (.cells #[.int .u64 0, .int .u64 0, .int .u64 0, .int .u64 0] 65)).alloc (.cells #[.int .u64 0, .int .u64 0, .int .u64 0, .int .u64 0] 65)).alloc (.cells (scells S) 65)) (w.heap.size + 1 + 1) zeroS := by
    have := ((Blk.new ((w.alloc (.cells (scells S) 65)).alloc (.cells #[.slice (some ⟨pg, 0, none⟩) N N] 80)) 65 #[.int .u64 0, .int .u64 0, .int .u64 0, .int .u64 0]).alloc (.cells #[.int .u64 0, .int .u64 0, .int .u64 0, .int .u64 0] 65)).alloc (.cells (scells S) 65)
    rwa [World.size_alloc, World.size_alloc] at this
  have bO : SB (((((w.alloc (.cells (scells S) 65)).alloc (.cells #[.slice (some ⟨pg, 0, none⟩) N N] 80)).alloc (.cells #[.int .u64 0, .int .u64 0, .int .u64 0, .int .u64 0] 65)).alloc (.cells #[.int .u64 0, .int .u64 0, .int .u64 0, .int .u64 0] 65)).alloc (.cells (scells S) 65)) (w.heap.size + 1 + 1 + 1) zeroS := by
    have := (Blk.new (((w.alloc (.cells (scells S) 65)).alloc (.cells #[.slice (some ⟨pg, 0, none⟩) N N] 80)).alloc (.cells #[.int .u64 0, .int .u64 0, .int .u64 0, .int .u64 0] 65)) 65 #[.int .u64 0, .int .u64 0, .int .u64 0, .int .u64 0]).alloc (.cells (scells S) 65)
    rwa [World.size_alloc, World.size_alloc, World.size_alloc] at this
  have bN : SB (((((w.alloc (.cells (scells S) 65)).alloc (.cells #[.slice (some ⟨pg, 0, none⟩) N N] 80)).alloc (.cells #[.int .u64 0, .int .u64 0, .int .u64 0, .int .u64 0] 65)).alloc (.cells #[.int .u64 0, .int .u64 0, .int .u64 0, .int .u64 0] 65)).alloc (.cells (scells S) 65)) (w.heap.size + 1 + 1 + 1 + 1) S := by
    have := Blk.new ((((w.alloc (.cells (scells S) 65)).alloc (.cells #[.slice (some ⟨pg, 0, none⟩) N N] 80)).alloc (.cells #[.int .u64 0, .int .u64 0, .int .u64 0, .int .u64 0] 65)).alloc (.cells #[.int .u64 0, .int .u64 0, .int .u64 0, .int .u64 0] 65)) 65 (scells S)
    rwa [World.size_alloc, World.size_alloc, World.size_alloc, World.size_alloc] at this
  have hsz0 : (((((w.alloc (.cells (scells S) 65)).alloc (.cells #[.slice (some ⟨pg, 0, none⟩) N N] 80)).alloc (.cells #[.int .u64 0, .int .u64 0, .int .u64 0, .int .u64 0] 65)).alloc (.cells #[.int .u64 0, .int .u64 0, .int .u64 0, .int .u64 0] 65)).alloc (.cells (scells S) 65)).heap.size = w.heap.size + 5 := by simp
  revert hB0 bX bR bO bN hsz0
  generalize ((((w.alloc (.cells (scells S) 65)).alloc (.cells #[.slice (some ⟨pg, 0, none⟩) N N] 80)).alloc (.cells #[.int .u64 0, .int .u64 0, .int .u64 0, .int .u64 0] 65)).alloc (.cells #[.int .u64 0, .int .u64 0, .int .u64 0, .int .u64 0] 65)).alloc (.cells (scells S) 65) = W0
  intro hB0 bX bR bO bN hsz0
  have hT0 := hT.below hB0 hT.lt
  have hw0 := hT.lt
  refine wpIn_rangeFunc_ownG rfl (by omega) (gf := 135) (lb := #[.pointer (some ⟨w.heap.size + 1 + 1 + 1 + 1, 0, none⟩)]) rfl trivial (enters_of Tryd.func135 (by kernel_rfl) rfl)
    (all_stops 4 (by omega) (w.heap.size + 1 + 1 + 1 + 1) (w.heap.size + 3) S hS xs hxs (by omega) W0 (by omega) bN hT0) belowK_t (belowK_b (by omega)) (Below.refl _ _) (fun _ => rfl)
    (fun pre W' => SB W' (w.heap.size + 1 + 1 + 1) (toF T (nbNats pre)) ∧ Below (w.heap.size + 3) W0 W')
    (fun _ _ _ => False)
    (OwnFrom.and (Go.Own.from (own_SB (w.heap.size + 1 + 1 + 1) (fun pre : List (NB N) => toF T (nbNats pre))) _) (ownFrom_below (by omega) (by omega)))
    (fun _ _ _ _ _ hs _ _ => hs)
    ⟨bO, Below.refl _ _⟩
    (fun x => { tmps := #[sval S, .slice (some ⟨pg, 0, none⟩) N N, .pointer (some ⟨w.heap.size, 0, none⟩), .pointer (some ⟨w.heap.size + 1, 0, none⟩), .pointer (some ⟨w.heap.size + 1 + 1, 0, none⟩), .pointer (some ⟨w.heap.size + 1 + 1 + 1, 0, none⟩), .int .i64 (x.1 : Int), sval S, .func (.func 135) #[] #[.pointer (some ⟨w.heap.size + 1 + 1 + 1 + 1, 0, none⟩)], .int .i64 (x.1 : Int), undef, undef, undef, undef, undef, undef, undef], defers := [] }) ?assign ?body ?done ?stop
  case assign =>
    intro l x W K hK
    gi_wp2
    exact hK
  case body =>
    rintro l' pre x W' ⟨hO, hB'⟩ hlt
    have hBW : Below w.heap.size w W' := hB0.trans (hB'.mono (by omega))
    have hTW := hTB.below hBW hTB.lt
    have c1 : W'.cell? ⟨w.heap.size + 1, 0, none⟩ = some (.slice (some ⟨pg, 0, none⟩) N N) := Boxed.cell ((hB'.block _ (by omega)).trans bX)
    have hx := x.2
    obtain ⟨n, hn⟩ : ∃ n, Hid (n = x.1) := ⟨_, rfl⟩
    rw [← hn.out] at hx ⊢
    obtain ⟨t0, t1, t2, t3⟩ := hTW.cells hx
    obtain ⟨o0, o1, o2, o3⟩ := hO.cells
    have fO := hO.frozen
    have mx : Tryd.prog.follows .mixedOrders = true := by kernel_rfl
    have hOk : Hid (okS (toF T (nbNats pre))) := ok_toF hTok.out _
    have hTp : Hid (okS (T n)) := hTok.out n
    have HX : Hid (toF T (nbNats (pre ++ [x])) = joinS (toF T (nbNats pre)) (T n)) := by show _ = _; rw [nbNats_snoc, toF_snoc, hn.out]
    have hn0 : (0 : Int) ≤ (n : Int) := by omega
    have hnI : (n : Int) < (N : Int) := by omega
    have hOd : Hid (SB W'.drew (w.heap.size + 1 + 1 + 1) (toF T (nbNats pre))) := hO
    have HB := Hid.of hB'
    have HO := Hid.of hO
    clear hTW hBW hB' hO
    generalize toF T (nbNats pre) = O at *
    gi_wp2
    gi_region_with_o (refine ⟨trivial, ?_⟩; refine CallsIn.mono (CallsIn.inRound l' (callsIn_wide.2 (join_any O (T n) _ hOk.out hTp.out))) ?_; rintro e' w1 ⟨rfl, hb1⟩; have hO1 := Blk.below hOd.out hb1 hOd.out.lt; obtain ⟨y0, y1, y2, y3⟩ := SB.cells hO1; have fO1 := Blk.frozen hO1)
    all_goals
      have k1 : KeepsOthers W' w1 := ⟨hb1.size, fun k o hk _ => (hb1.block k (Array.getElem?_eq_some_iff.1 hk).1).trans hk⟩
      have k2 : Below (w.heap.size + 3) W' w1 := ((Below.refl _ W').drew).trans (hb1.mono (Nat.le_of_lt HO.out.lt))
      have k3 := below_set4 k2 (b' := w.heap.size + 1 + 1 + 1) (Nat.le_refl _) (.int .u64 (joinS O (T n) 0)) (.int .u64 (joinS O (T n) 1)) (.int .u64 (joinS O (T n) 2)) (.int .u64 (joinS O (T n) 3))
      exact ⟨((((k1.trans (KeepsOthers.setCell _ _ _)).trans (KeepsOthers.setCell _ _ _)).trans (KeepsOthers.setCell _ _ _)).trans (KeepsOthers.setCell _ _ _)).from _, k3, by rw [HX.out]; exact SB.set4 hO1 _, HB.out.trans k3⟩
  case done =>
    rintro D ys W' hD rfl ⟨hO, hB'⟩ hK
    have hBW : Below w.heap.size w W' := hB0.trans (hB'.mono (by omega))
    obtain ⟨o0, o1, o2, o3⟩ := hO.cells
    have HQ : Hid (toF T (nbNats ys) = toF T (allS S)) := by show _ = _; rw [← hxs]; rfl
    have hres := bR.below hB' (by omega)
    obtain ⟨r0, r1, r2, r3⟩ := SB.cells hres
    have rz := hres.frozen
    have k2 := Hid.of (SB.set4 hres (toF T (nbNats ys)))
    have k3 := Hid.of (below_set4 hBW (b' := w.heap.size + 1 + 1) (by omega) (.int .u64 (toF T (nbNats ys) 0)) (.int .u64 (toF T (nbNats ys) 1)) (.int .u64 (toF T (nbNats ys) 2)) (.int .u64 (toF T (nbNats ys) 3)))
    have hMk : Marks w.heap.size [D] W' := by
      refine ⟨fun D' hD' => ?_, by simp⟩
      have e : D' = D := by simpa using hD'
      rw [e]
      exact ⟨by omega, hK⟩
    have k4 := Hid.of (hMk.other4 hres (toF T (nbNats ys)))
    clear hMk
    clear hO hBW hB' hres hK
    generalize toF T (nbNats ys) = O at *
    gi_wp2
    refine leaves_marks (B := w.heap.size) (fun W => SB W (w.heap.size + 1 + 1) O ∧ Below w.heap.size w W) ?hJ ?hfin [D] _ k4.out ⟨k2.out, k3.out⟩
    case hJ =>
      rintro W D ⟨h1, h2⟩ hD hk
      refine ⟨(World.putObj_heap_other (fun e => ?_)).trans h1, h2.trans (belowK_b (w := w) (Nat.le_refl _) W D _ _ hD hk rfl rfl)⟩
      have h3 : W.heap[w.heap.size + 1 + 1]? = _ := h1
      rw [e, hk] at h3
      cases h3
    case hfin =>
      rintro W ⟨h1, h2⟩
      exact ⟨_, results_cell_row (g := w.heap.size + 1 + 1) (p := 4) rfl _ _ _ _ _ _ rfl h1 Tryd.underlying65 rfl (by kernel_rfl), by rw [← HQ.out], h2⟩
  case stop =>
    rintro D c pre W _ _ h _
    exact h.elim

theorem union_any (S : Nat → Nat) (hS : okS S) (N : Nat) (T : Nat → Nat → Nat) (hTok : ∀ p, okS (T p)) (hall : ∀ k ∈ allS S, k < N) (hN : N ≤ 256) (pg : Nat) (w : World) (hT : Tab w) (hTB : TB w pg N T) :
    Calls Tryd.prog 69 #[sval S, .slice (some ⟨pg, 0, none⟩) N N] w fun e W' => e = .returned (sval (toF T (allS S))) ∧ Below w.heap.size w W' :=
  callsIn_wide.1 (union_in S hS N T hTok hall hN pg w hT hTB)

end Go.Proofs.YtdhgabpoaicjoaaDoor
namespace Go.Proofs.YtdhgabpoaicjoaaDoor
open Go.RowKit

/-- What slices.Index answers: the first place, or -1. -/
def idxFrom (n : Int) : Nat → List Int → Int
  | _, [] => -1
  | k, x :: r => if n = x then k else idxFrom n (k + 1) r

theorem idx_has (n : Int) : ∀ (xs : List Int) (k : Nat), decide (0 ≤ idxFrom n k xs) = hasB xs n
  | [], _ => rfl
  | x :: r, k => by
    unfold idxFrom
    by_cases h : n = x
    · rw [if_pos h]; subst h; simp [hasB]
    · rw [if_neg h, idx_has n r (k + 1)]
      have h1 : (n == x) = false := by simp [h]
      simp only [hasB, List.contains_cons, h1, Bool.false_or]
theorem idx_bd (n : Int) : ∀ (xs : List Int) (k : Nat), -1 ≤ idxFrom n k xs ∧ idxFrom n k xs ≤ k + xs.length
  | [], _ => by simp [idxFrom]
  | x :: r, k => by
    unfold idxFrom
    have := idx_bd n r (k + 1)
    split
    · simp; omega
    · simp only [List.length_cons]; omega
theorem idx_hit {xs : List Int} {k : Nat} {n x : Int} (h : k < xs.length) (e : Hid (idxFrom n 0 xs = idxFrom n k (xs.drop k))) (hv : Hid (x = xs[k]?.getD 0)) (hx : (n == x) = true) : (k : Int) = idxFrom n 0 xs := by
  have hx : n = x := by simpa using hx
  rw [e.out, drop_cons h, ← hv.out, idxFrom, if_pos hx]
theorem idx_miss {xs : List Int} {k : Nat} {n x : Int} (h : k < xs.length) (e : Hid (idxFrom n 0 xs = idxFrom n k (xs.drop k))) (hv : Hid (x = xs[k]?.getD 0)) (hx : (n == x) = false) : Hid (idxFrom n 0 xs = idxFrom n (k + 1) (xs.drop (k + 1))) := by
  have hx : ¬ n = x := by simpa using hx
  show idxFrom n 0 xs = _
  rw [e.out, drop_cons h, ← hv.out, idxFrom, if_neg hx]
theorem idx_end {xs : List Int} {k : Nat} {n : Int} (h : ¬ k < xs.length) (e : Hid (idxFrom n 0 xs = idxFrom n k (xs.drop k))) : -1 = idxFrom n 0 xs := by
  rw [e.out, List.drop_eq_nil_of_le (by omega)]; rfl

set_option maxHeartbeats 400000 in
theorem index_some (b off cap : Nat) (xs : List Int) (n : Int) (w : World) (hl : xs.length ≤ 9223372036854775807) (hc : Cells w b off xs) :
    Calls Tryd.prog 120 #[.slice (some ⟨b, off, none⟩) xs.length cap, .int .i64 n] w fun e w' => e = .returned (.int .i64 (idxFrom n 0 xs)) ∧ w' = w := by
  go_enter Tryd.func120, Tryd.ntmps120
  go_wp2
  go_loop [8] (fun i => ∃ k : Nat, k ≤ xs.length ∧ i = .int .i64 k ∧ Hid (idxFrom n 0 xs = idxFrom n k (xs.drop k))) (fun i => xs.length - (intOf i).toNat)
  case atStart => exact ⟨0, Nat.zero_le _, rfl, rfl⟩
  case round =>
    obtain ⟨k, hk, rfl, he⟩ := hrel
    by_cases hlt : k < xs.length
    · obtain ⟨x, HX, hcell⟩ := hc.at hlt
      go_wp2
      · go_ret
        exact ⟨ret_int (idx_hit hlt he HX (by assumption)), rfl⟩
      · go_round
        case rel => exact ⟨k + 1, by omega, by go_num, idx_miss hlt he HX (by assumption)⟩
        case measure => simp [intOf]; omega
    · go_wp2
      go_ret
      exact ⟨ret_int (idx_end hlt he), rfl⟩

set_option maxHeartbeats 400000 in
theorem index_nil (a : Option Addr) (cap : Nat) (n : Int) (w : World) :
    Calls Tryd.prog 120 #[.slice a 0 cap, .int .i64 n] w fun e w' => e = .returned (.int .i64 (-1)) ∧ w' = w := by
  go_enter Tryd.func120, Tryd.ntmps120
  go_wp2
  refine wp_loop_rounds 1 ?_
  rw [rounds_succ]
  go_wp2
  go_ret
  exact ⟨rfl, rfl⟩

theorem index_any (a : Option Addr) (cap : Nat) (xs : List Int) (n : Int) (w : World) (hs : At w a xs) (hl : xs.length ≤ maxLen) :
    Calls Tryd.prog 120 #[.slice a xs.length cap, .int .i64 n] w fun e w' => e = .returned (.int .i64 (idxFrom n 0 xs)) ∧ w' = w := by
  rcases hs with rfl | ⟨b, off, rfl, -, hc⟩
  · exact index_nil a cap n w
  · exact index_some b off cap xs n w hl hc

set_option maxHeartbeats 400000 in
theorem contains_any (a : Option Addr) (cap : Nat) (xs : List Int) (n : Int) (w : World) (hs : At w a xs) (hl : xs.length ≤ maxLen) :
    Calls Tryd.prog 149 #[.slice a xs.length cap, .int .i64 n] w fun e w' => e = .returned (.bool (hasB xs n)) ∧ w' = w := by
  go_enter Tryd.func149, Tryd.ntmps149
  go_wp2_with fail
  refine (index_any a cap xs n _ hs hl).mono ?_
  rintro e w' ⟨rfl, rfl⟩
  go_wp2
  go_ret
  exact ⟨ret_bool (idx_has n xs 0), rfl⟩

set_option maxHeartbeats 400000 in
theorem rowHas_any (a : Option Addr) (cap : Nat) (xs : List Int) (n : Int) (w : World) (hs : At w a xs) (hl : xs.length ≤ maxLen) :
    Calls Tryd.prog 111 #[.slice a xs.length cap, .int .i64 n] w fun e w' => e = .returned (.bool (hasB xs n)) ∧ w' = w := by
  go_enter Tryd.func111, Tryd.ntmps111
  go_wp2_with fail
  refine (contains_any a cap xs n _ hs hl).mono ?_
  rintro e w' ⟨rfl, rfl⟩
  go_wp2
  go_ret
  exact ⟨rfl, rfl⟩

end Go.Proofs.YtdhgabpoaicjoaaDoor
namespace Go.Proofs.YtdhgabpoaicjoaaDoor
open Go.RowKit
set_option linter.unusedVariables false

/-- What quiet knows of the memory: the machine, the table, and that nothing else has turned. -/
structure QI (w W : World) (m : Mach) (l : ML) (N : Nat) (T : Nat → Nat → Nat) : Prop where
  blk : Blk W w.heap.size 25 (mcells m l)
  tb : TB W (w.heap.size + 1) N T
  bel : Below w.heap.size w W
theorem QI.below {w W W' : World} {m : Mach} {l : ML} {N : Nat} {T : Nat → Nat → Nat} (h : QI w W m l N T) (hb : Below W.heap.size W W') : QI w W' m l N T :=
  ⟨h.blk.below hb h.blk.lt, h.tb.below hb h.tb.lt, h.bel.trans (hb.mono h.bel.size)⟩
theorem QI.drew {w W : World} {m : Mach} {l : ML} {N : Nat} {T : Nat → Nat → Nat} (h : QI w W m l N T) : QI w W.drew m l N T := ⟨h.blk, h.tb, h.bel.drew⟩
theorem QI.alloc {w W : World} {m : Mach} {l : ML} {N : Nat} {T : Nat → Nat → Nat} (h : QI w W m l N T) (o : Obj) : QI w (W.alloc o) m l N T := h.below ((Below.refl _ _).alloc (Nat.le_refl _) o)
theorem QI.store {w W : World} {m : Mach} {l : ML} {N p : Nat} {T : Nat → Nat → Nat} (h : QI w W m l N T) (hp : p < N) (U : Nat → Nat) :
    QI w ((((W.setCell ⟨w.heap.size + 1, p * 4, none⟩ (.int .u64 (U 0))).setCell ⟨w.heap.size + 1, p * 4 + 1, none⟩ (.int .u64 (U 1))).setCell ⟨w.heap.size + 1, p * 4 + 2, none⟩ (.int .u64 (U 2))).setCell ⟨w.heap.size + 1, p * 4 + 3, none⟩ (.int .u64 (U 3))) m l N (fun q => if q = p then U else T q) :=
  ⟨Blk.other4' h.blk (p * 4) (by omega) _ _ _ _, TB.store h.tb hp U, below_set4' h.bel (p * 4) (by omega) _ _ _ _⟩
theorem QI.lt {w W : World} {m : Mach} {l : ML} {N : Nat} {T : Nat → Nat → Nat} (h : QI w W m l N T) : w.heap.size < W.heap.size ∧ w.heap.size + 1 < W.heap.size := ⟨h.blk.lt, h.tb.lt⟩
theorem ini_succ (k : Nat) : iniT (k + 1) = fun q => if q = k then withS zeroS k else iniT k q := by
  funext q
  unfold iniT
  by_cases h : q = k
  · subst h; simp
  · have : (q < k + 1) ↔ q < k := by omega
    simp [h, this]
theorem ini_zero : iniT 0 = fun _ => zeroS := by funext q; simp [iniT]
theorem ini_at (k : Nat) : iniT k k = zeroS := by simp [iniT]
theorem meet_one {S : Nat → Nat} (h : okS S) {k : Nat} (hk : k < 256) : meetB S (withS zeroS k) = hasS S k := by
  have h1 : ∀ j, j < 4 → (S j &&& withS zeroS k j = 0 ↔ ¬ (j = k / 64 ∧ hasS S k = true)) := by
    intro j hj
    rw [meet_word (h j)]
    constructor
    · rintro h2 ⟨rfl, h3⟩
      refine h2 (k % 64) (by omega) ⟨h3, ?_⟩
      simp [withS, zeroS]
    · intro h2 i hi h3
      have h4 := h3.2
      unfold withS at h4
      by_cases e : j = k / 64
      · rw [if_pos e] at h4
        have : i = k % 64 := by
          simp [zeroS, Nat.testBit_two_pow] at h4; omega
        subst this
        exact h2 ⟨e, by unfold hasS; rw [← e]; exact h3.1⟩
      · rw [if_neg e] at h4; simp [zeroS] at h4
  unfold meetB
  have h64 : k / 64 < 4 := by omega
  have e : (S 0 &&& withS zeroS k 0 = 0 ∧ S 1 &&& withS zeroS k 1 = 0 ∧ S 2 &&& withS zeroS k 2 = 0 ∧ S 3 &&& withS zeroS k 3 = 0) ↔ hasS S k = false := by
    rw [h1 0 (by omega), h1 1 (by omega), h1 2 (by omega), h1 3 (by omega)]
    have : k / 64 = 0 ∨ k / 64 = 1 ∨ k / 64 = 2 ∨ k / 64 = 3 := by omega
    cases hasS S k <;> rcases this with h | h | h | h <;> simp [h]
  cases hb : hasS S k with
  | true => exact decide_eq_true (fun h => by have := e.1 h; rw [hb] at this; cases this)
  | false => exact decide_eq_false (fun h => h (e.2 hb))

set_option maxRecDepth 100000 in
set_option maxHeartbeats 4000000 in
theorem quiet_any (st : Nat) (ev : Int) (starts : List Int) (ars : List Arr) (ends : List Int) (a1 : Option Addr) (c1 : Nat) (a2 : Option Addr) (c2 : Nat) (a3 : Option Addr) (c3 : Nat) (sa : Option Addr) (sc : Nat) (seen : List Int) (w : World) (hst : st ≤ 256) (hlen : ars.length ≤ 4096) (hA : Hid (AtA w a2 ars)) (hin : Hid (∀ a ∈ ars, (0 ≤ a.f ∧ a.f < st) ∧ 0 ≤ a.t ∧ a.t < st)) (hs : Hid (At w sa seen)) (hsl : Hid (seen.length ≤ maxLen)) :
    Calls Tryd.prog 66 #[mval ⟨st, ev, starts, ars, ends⟩ ⟨a1, c1, a2, c2, a3, c3⟩, .slice sa seen.length sc] w fun e w' => e = .returned (.slice (some ⟨w.heap.size + 1, 0, none⟩) st st) ∧ TB w' (w.heap.size + 1) st (stillT seen st ars) ∧ Below w.heap.size w w' := by
  obtain ⟨i0, hi, hz0, hz1, hz2⟩ := info_parts Tryd.infoSet
  have hmk : ∀ w : World, (Instr.makeSlice 80 (.int .i64 st) (.int .i64 st)).run Tryd.prog w = .ok (.slice (some ⟨w.heap.size, 0, none⟩) st st) (w.alloc (.cells (madeCells #[.int .u64 0, .int .u64 0, .int .u64 0, .int .u64 0] (st * 4)) 65)) := fun w => by
    have := run_make (P := Tryd.prog) w 80 65 i0 (sval zeroS) Tryd.underlying80 hi hz0 .i64 .i64 st st (by omega) (by omega) (by rw [hz2]; omega) (by omega)
    rw [hz1, Int.toNat_natCast] at this
    exact this
  clear hi hz0 hz1 hz2
  have Q0 : Hid (QI w ((w.alloc (.cells (mcells ⟨st, ev, starts, ars, ends⟩ ⟨a1, c1, a2, c2, a3, c3⟩) 25)).alloc (.cells (madeCells #[.int .u64 0, .int .u64 0, .int .u64 0, .int .u64 0] (st * 4)) 65)) ⟨st, ev, starts, ars, ends⟩ ⟨a1, c1, a2, c2, a3, c3⟩ st (iniT 0)) := by
    refine ⟨(Blk.new w _ _).alloc _, ?_, ((Below.refl _ _).alloc (Nat.le_refl _) _).alloc (by simp) _⟩
    rw [ini_zero]
    refine TB.made ?_
    have := Blk.new (w.alloc (.cells (mcells ⟨st, ev, starts, ars, ends⟩ ⟨a1, c1, a2, c2, a3, c3⟩) 25)) 65 (madeCells #[.int .u64 0, .int .u64 0, .int .u64 0, .int .u64 0] (st * 4))
    rwa [World.size_alloc] at this
  go_enter Tryd.func66, Tryd.ntmps66
  go_wp2
  revert Q0
  generalize (w.alloc (.cells (mcells ⟨st, ev, starts, ars, ends⟩ ⟨a1, c1, a2, c2, a3, c3⟩) 25)).alloc (.cells (madeCells #[.int .u64 0, .int .u64 0, .int .u64 0, .int .u64 0] (st * 4)) 65) = W0
  intro Q0
  go_loopw [17] (fun i wr => ∃ k : Nat, k ≤ st ∧ i = .int .i64 k ∧ Hid (QI w wr ⟨st, ev, starts, ars, ends⟩ ⟨a1, c1, a2, c2, a3, c3⟩ st (iniT k))) (fun i _ => st - (intOf i).toNat)
  case atStart => exact ⟨0, by omega, rfl, Q0⟩
  case round =>
    obtain ⟨k, hk, rfl, QQ⟩ := hrel
    by_cases hlt : k < st
    · obtain ⟨t0, t1, t2, t3⟩ := QQ.out.tb.cells hlt
      rw [ini_at] at t0 t1 t2 t3
      have hk0 : (0 : Int) ≤ (k : Int) := by omega
      have hkI : (k : Int) < (st : Int) := by omega
      go_wp2_with fail
      refine (with_any zeroS k _ okS_zero hk0 (by omega)).mono ?_
      rintro e w1 ⟨rfl, hb1⟩
      rw [Int.toNat_natCast]
      have Q1 := QQ.out.below hb1
      obtain ⟨v0, v1, v2, v3⟩ := Q1.tb.cells hlt
      have fz := Q1.tb.frozen
      have Q2 := Hid.of (Q1.store hlt (withS zeroS k))
      rw [← ini_succ] at Q2
      clear Q1 hb1 QQ t0 t1 t2 t3
      go_wp2
      go_roundw
      case rel => exact ⟨k + 1, by omega, by go_num, Q2⟩
      case measure => simp [intOf]; omega
    · have hk : st = k := by omega
      subst hk
      obtain ⟨x0, x1, x2, x3, x4⟩ := (⟨QQ.out.blk.cell 0 rfl, QQ.out.blk.cell 1 rfl, QQ.out.blk.cell 2 rfl, QQ.out.blk.cell 3 rfl, QQ.out.blk.cell 4 rfl⟩ : _ ∧ _ ∧ _ ∧ _ ∧ _)
      have Q3 : Hid (QI w wr ⟨st, ev, starts, ars, ends⟩ ⟨a1, c1, a2, c2, a3, c3⟩ st (qTab seen st (ars.take 0))) := QQ
      clear Q0 hmk QQ
      go_wp2
      go_loopw [33] (fun i wr => ∃ j : Nat, j ≤ ars.length ∧ i = .int .i64 j ∧ Hid (QI w wr ⟨st, ev, starts, ars, ends⟩ ⟨a1, c1, a2, c2, a3, c3⟩ st (qTab seen st (ars.take j)))) (fun i _ => ars.length - (intOf i).toNat)
      case atStart => exact ⟨0, by omega, rfl, Q3⟩
      case round =>
        obtain ⟨j, hj, rfl, QQ⟩ := hrel
        by_cases hlt : j < ars.length
        · rcases hA.out with h0 | ⟨b, off, rfl, hb, hca⟩
          · rw [h0] at hlt; simp at hlt
          obtain ⟨a, HA, y1, y2, y3⟩ := hca.at hlt
          have hia : (0 ≤ a.f ∧ a.f < st) ∧ 0 ≤ a.t ∧ a.t < st := by
            have h := HA.out
            rw [List.getElem?_eq_getElem hlt, Option.getD_some] at h
            rw [h]; exact hin.out _ (List.getElem_mem hlt)
          obtain ⟨f, ef⟩ : ∃ f : Nat, a.f = (f : Int) := ⟨a.f.toNat, by omega⟩
          obtain ⟨e, ee⟩ : ∃ e : Int, a.e = e := ⟨_, rfl⟩
          obtain ⟨t, et⟩ : ∃ t : Nat, a.t = (t : Int) := ⟨a.t.toNat, by omega⟩
          rw [ef] at y1
          rw [ee] at y2
          rw [et] at y3
          have hf : f < st := by omega
          have ht : t < st := by omega
          have HN1 : hasB seen e = true → Hid (qTab seen st (ars.take (j + 1)) = qTab seen st (ars.take j)) := fun h => by
            show _ = _
            rw [qTab_take hlt HA]; unfold qStep; rw [ee, if_pos h]
          have HN2 : hasB seen e = false → Hid (qTab seen st (ars.take (j + 1)) = fun r => if r = f then withS (qTab seen st (ars.take j) f) t else qTab seen st (ars.take j) r) := fun h => by
            show _ = _
            rw [qTab_take hlt HA]; unfold qStep; rw [ee, if_neg (by rw [h]; simp)]
            funext r
            simp only [tabKStep, ef, et, Int.toNat_natCast]
            by_cases e : r = f
            · subst e; simp only [if_true]
            · rw [if_neg e, if_neg e]
          have hp0 : (0 : Int) ≤ (f : Int) := by omega
          have hpI : (f : Int) < (st : Int) := by omega
          clear hia ef ee et HA
          have z1 := (QQ.out.bel.cell (p := ⟨b, off + j * 3, none⟩) hb).trans y1
          have z2 := (QQ.out.bel.cell (p := ⟨b, off + j * 3 + 1, none⟩) hb).trans y2
          have z3 := (QQ.out.bel.cell (p := ⟨b, off + j * 3 + 2, none⟩) hb).trans y3
          have QV := Hid.of (QQ.out.alloc (.cells #[.int .i64 f, .int .i64 e, .int .i64 t] 61))
          have HAV := Hid.of (Blk.new wr 61 #[.int .i64 f, .int .i64 e, .int .i64 t])
          have HSZ : Hid ((wr.alloc (.cells #[.int .i64 f, .int .i64 e, .int .i64 t] 61)).heap.size = wr.heap.size + 1) := World.size_alloc _ _
          have l1 := QQ.out.lt
          clear y1 y2 y3 hca QQ
          try clear x0 x1 x2 x3 x4
          go_wp2_with fail
          revert QV HAV HSZ
          generalize wr.alloc (.cells #[.int .i64 f, .int .i64 e, .int .i64 t] 61) = V
          intro QV HAV HSZ
          refine (rowHas_any sa sc seen e _ (hs.out.below QV.out.bel (Nat.le_refl _)) hsl.out).mono ?_
          rintro e' V ⟨rfl, rfl⟩
          clear z1 z2 z3
          cases hh : hasB seen e with
          | true =>
            have HN := HN1 hh
            clear HN1 HN2 HAV HSZ hh
            go_wp2
            go_roundw
            case rel =>
              refine ⟨j + 1, by omega, by go_num, ?_⟩
              rw [HN.out]; exact QV
            case measure => simp [intOf]; omega
          | false =>
            have HN := HN2 hh
            clear HN1 HN2 hh
            obtain ⟨t0, t1, t2, t3⟩ := QV.out.tb.cells hf
            have d1 : V.cell? ⟨wr.heap.size, 0, none⟩ = some (.int .i64 f) := HAV.out.cell 0 rfl
            have d2 : V.cell? ⟨wr.heap.size, 2, none⟩ = some (.int .i64 t) := HAV.out.cell 2 rfl
            have hsz := HSZ.out
            obtain ⟨R, HR⟩ : ∃ R, Hid (R = qTab seen st (ars.take j) f) := ⟨_, rfl⟩
            have hok : Hid (okS R) := by show okS R; rw [HR.out]; exact okS_qTab _ _ _ _
            rw [← HR.out] at t0 t1 t2 t3
            have QVd := Hid.of QV.out.drew
            have HAd : Hid (Blk V.drew wr.heap.size 61 #[.int .i64 f, .int .i64 e, .int .i64 t]) := HAV.out
            have hne1 : ¬ w.heap.size + 1 = wr.heap.size := by omega
            have hne2 : ¬ wr.heap.size = w.heap.size + 1 := by omega
            clear QV
            go_wp2
            go_region_with (go_at_call 101; refine (with_any R t _ hok.out (by omega) (by omega)).mono ?_; rintro e' w1 ⟨rfl, hb1⟩; have QW := Hid.of (QVd.out.below hb1); obtain ⟨v0, v1, v2, v3⟩ := QW.out.tb.cells hf; rw [← HR.out] at v0 v1 v2 v3; have fz := QW.out.tb.frozen; have d3 : w1.cell? ⟨wr.heap.size, 0, none⟩ = some (.int .i64 f) := (Blk.below HAd.out hb1 (show _ < V.heap.size by omega)).cell 0 rfl; have d4 : w1.cell? ⟨wr.heap.size, 2, none⟩ = some (.int .i64 t) := (Blk.below HAd.out hb1 (show _ < V.heap.size by omega)).cell 2 rfl)
            all_goals
              have Q4 := Hid.of (QW.out.store hf (withS R t))
              clear v0 v1 v2 v3 d1 d2 d3 d4 fz hb1 QW QVd HAd t0 t1 t2 t3
              revert Q4
              generalize ((((w1.setCell ⟨w.heap.size + 1, f * 4, none⟩ (.int .u64 (withS R t 0))).setCell ⟨w.heap.size + 1, f * 4 + 1, none⟩ (.int .u64 (withS R t 1))).setCell ⟨w.heap.size + 1, f * 4 + 2, none⟩ (.int .u64 (withS R t 2))).setCell ⟨w.heap.size + 1, f * 4 + 3, none⟩ (.int .u64 (withS R t 3))) = X
              intro Q4
              go_wp2
              go_roundw
              case rel =>
                refine ⟨j + 1, by omega, by go_num, ?_⟩
                rw [HN.out, ← HR.out]; exact Q4
              case measure => simp [intOf]; omega
        · have hj2 : ars.length = j := by omega
          subst hj2
          rw [List.take_of_length_le (Nat.le_refl _)] at QQ
          obtain ⟨x0, x1, x2, x3, x4⟩ := (⟨QQ.out.blk.cell 0 rfl, QQ.out.blk.cell 1 rfl, QQ.out.blk.cell 2 rfl, QQ.out.blk.cell 3 rfl, QQ.out.blk.cell 4 rfl⟩ : _ ∧ _ ∧ _ ∧ _ ∧ _)
          clear Q3
          have Q5 : Hid (QI w wr ⟨st, ev, starts, ars, ends⟩ ⟨a1, c1, a2, c2, a3, c3⟩ st (fOut (qTab seen st ars) st 0)) := QQ
          have HOK : Hid (∀ k p, okS (fOut (qTab seen st ars) st k p)) := fun k p => okS_fOut (okS_qTab seen st ars) st k p
          have HSU : Hid (∀ k, fOut (qTab seen st ars) st (k + 1) = fIn (fOut (qTab seen st ars) st k) k st) := fun k => rfl
          have HST : Hid (fOut (qTab seen st ars) st st = stillT seen st ars) := rfl
          clear QQ
          generalize fOut (qTab seen st ars) st = FO at *
          go_wp2
          go_loopw [57] (fun i wr => ∃ k : Nat, k ≤ st ∧ i = .int .i64 k ∧ Hid (QI w wr ⟨st, ev, starts, ars, ends⟩ ⟨a1, c1, a2, c2, a3, c3⟩ st (FO k))) (fun i _ => st - (intOf i).toNat)
          case atStart => exact ⟨0, by omega, rfl, Q5⟩
          case round =>
            try clear x0 x1 x2 x3 x4
            obtain ⟨k, hk, rfl, QQ⟩ := hrel
            by_cases hlt : k < st
            · have hk0 : (0 : Int) ≤ (k : Int) := by omega
              have hkI : (k : Int) < (st : Int) := by omega
              go_wp2_with fail
              refine (with_any zeroS k _ okS_zero hk0 (by omega)).mono ?_
              rintro e w1 ⟨rfl, hb1⟩
              rw [Int.toNat_natCast]
              have Q1 := QQ.out.below hb1
              have hl1 := Q1.lt
              have Q6 := Hid.of (Q1.alloc (.cells #[.int .u64 (withS zeroS k 0), .int .u64 (withS zeroS k 1), .int .u64 (withS zeroS k 2), .int .u64 (withS zeroS k 3)] 65))
              have S6 : Hid (SB (w1.alloc (.cells #[.int .u64 (withS zeroS k 0), .int .u64 (withS zeroS k 1), .int .u64 (withS zeroS k 2), .int .u64 (withS zeroS k 3)] 65)) w1.heap.size (withS zeroS k)) := Blk.new w1 65 _
              obtain ⟨x0, x1, x2, x3, x4⟩ := (⟨Q6.out.blk.cell 0 rfl, Q6.out.blk.cell 1 rfl, Q6.out.blk.cell 2 rfl, Q6.out.blk.cell 3 rfl, Q6.out.blk.cell 4 rfl⟩ : _ ∧ _ ∧ _ ∧ _ ∧ _)
              clear Q1 hb1 QQ
              go_wp2
              revert Q6 S6
              generalize w1.alloc (.cells #[.int .u64 (withS zeroS k 0), .int .u64 (withS zeroS k 1), .int .u64 (withS zeroS k 2), .int .u64 (withS zeroS k 3)] 65) = W6
              intro Q6 S6
              obtain ⟨bI, hbI⟩ : ∃ bI, bI = w1.heap.size := ⟨_, rfl⟩
              rw [← hbI] at S6 hl1 ⊢
              clear hbI
              go_loopw [65] (fun i wr => ∃ j : Nat, j ≤ st ∧ i = .int .i64 j ∧ Hid (QI w wr ⟨st, ev, starts, ars, ends⟩ ⟨a1, c1, a2, c2, a3, c3⟩ st (fIn (FO k) k j)) ∧ Hid (SB wr bI (withS zeroS k))) (fun i _ => st - (intOf i).toNat)
              case atStart => exact ⟨0, by omega, rfl, by rw [fIn_zero]; exact Q6, S6⟩
              case round =>
                clear Q6 S6
                try clear x0 x1 x2 x3 x4
                obtain ⟨j, hj, rfl, QJ, SJ⟩ := hrel
                by_cases hjt : j < st
                · obtain ⟨t0, t1, t2, t3⟩ := QJ.out.tb.cells hjt
                  rw [fIn_at] at t0 t1 t2 t3
                  obtain ⟨s0, s1, s2, s3⟩ := SB.cells SJ.out
                  have hok : Hid (okS (FO k j)) := HOK.out k j
                  have hok2 : Hid (okS (withS zeroS k)) := okS_with okS_zero k
                  have hok3 : Hid (okS (FO k k)) := HOK.out k k
                  have QJd := Hid.of QJ.out.drew
                  have SJd : Hid (SB wr.drew bI (withS zeroS k)) := SJ.out
                  have hj0 : (0 : Int) ≤ (j : Int) := by omega
                  have hjI : (j : Int) < (st : Int) := by omega
                  cases hh : hasS (FO k j) k with
                  | true =>
                    have HM : Hid (meetB (FO k j) (withS zeroS k) = true) := by show _ = _; rw [meet_one hok.out (by omega)]; exact hh
                    have HF := Hid.of (fIn_yes hh)
                    clear hh QJ SJ
                    go_wp2
                    go_region_with (go_at_call 55; refine (meets_any (FO k j) (withS zeroS k) _ hok.out hok2.out).mono ?_; rintro e' w2 ⟨rfl, hb2⟩; rw [HM.out])
                    all_goals
                      have Q2 := QJd.out.below hb2
                      have S2 := SJd.out.below hb2 SJd.out.lt
                      have Q2d := Hid.of Q2.drew
                      have S2d : Hid (SB w2.drew bI (withS zeroS k)) := S2
                      have l2 := Q2.lt
                      clear t0 t1 t2 t3 s0 s1 s2 s3 hb2
                      obtain ⟨t0, t1, t2, t3⟩ := Q2.tb.cells hjt
                      rw [fIn_at] at t0 t1 t2 t3
                      obtain ⟨r0, r1, r2, r3⟩ := Q2.tb.cells hlt
                      rw [fIn_mid] at r0 r1 r2 r3
                      clear Q2 S2
                      go_wp2
                      go_region_with (go_at_call 112; refine (join_any (FO k j) (FO k k) _ hok.out hok3.out).mono ?_; rintro e' w3 ⟨rfl, hb3⟩; have QW := Hid.of (Q2d.out.below hb3); have SW := Hid.of (S2d.out.below hb3 S2d.out.lt); obtain ⟨v0, v1, v2, v3⟩ := QW.out.tb.cells hjt; rw [fIn_at] at v0 v1 v2 v3; have fz := QW.out.tb.frozen)
                      all_goals
                        have Q4 := Hid.of (QW.out.store hjt (joinS (FO k j) (FO k k)))
                        have S4 := Hid.of (Blk.other4' SW.out (j * 4) (b' := w.heap.size + 1) (by omega) (.int .u64 (joinS (FO k j) (FO k k) 0)) (.int .u64 (joinS (FO k j) (FO k k) 1)) (.int .u64 (joinS (FO k j) (FO k k) 2)) (.int .u64 (joinS (FO k j) (FO k k) 3)))
                        clear v0 v1 v2 v3 fz hb3 QW SW Q2d S2d QJd SJd t0 t1 t2 t3 r0 r1 r2 r3
                        revert Q4 S4
                        generalize ((((w3.setCell ⟨w.heap.size + 1, j * 4, none⟩ (.int .u64 (joinS (FO k j) (FO k k) 0))).setCell ⟨w.heap.size + 1, j * 4 + 1, none⟩ (.int .u64 (joinS (FO k j) (FO k k) 1))).setCell ⟨w.heap.size + 1, j * 4 + 2, none⟩ (.int .u64 (joinS (FO k j) (FO k k) 2))).setCell ⟨w.heap.size + 1, j * 4 + 3, none⟩ (.int .u64 (joinS (FO k j) (FO k k) 3))) = X
                        intro Q4 S4
                        go_wp2
                        go_roundw
                        case rel =>
                          refine ⟨j + 1, by omega, by go_num, ?_, S4⟩
                          rw [HF.out]; exact Q4
                        case measure => simp [intOf]; omega
                  | false =>
                    have HM : Hid (meetB (FO k j) (withS zeroS k) = false) := by show _ = _; rw [meet_one hok.out (by omega)]; exact hh
                    have HF := Hid.of (fIn_no hh)
                    clear hh QJ SJ
                    go_wp2
                    go_region_with (go_at_call 55; refine (meets_any (FO k j) (withS zeroS k) _ hok.out hok2.out).mono ?_; rintro e' w2 ⟨rfl, hb2⟩; rw [HM.out])
                    all_goals
                      have Q2 := Hid.of (QJd.out.below hb2)
                      have S2 := Hid.of (SJd.out.below hb2 SJd.out.lt)
                      clear t0 t1 t2 t3 s0 s1 s2 s3 hb2
                      go_wp2
                      go_roundw
                      case rel =>
                        refine ⟨j + 1, by omega, by go_num, ?_, S2⟩
                        rw [HF.out]; exact Q2
                      case measure => simp [intOf]; omega
                · have hj2 : st = j := by omega
                  subst hj2
                  rw [← HSU.out] at QJ
                  clear SJ
                  go_wp2
                  go_roundw
                  case rel => exact ⟨k + 1, by omega, by go_num, QJ⟩
                  case measure => simp [intOf]; omega
            · have hk2 : st = k := by omega
              subst hk2
              rw [HST.out] at QQ
              go_wp2
              go_ret
              exact ⟨rfl, QQ.out.tb, QQ.out.bel⟩

end Go.Proofs.YtdhgabpoaicjoaaDoor
namespace Go.Proofs.YtdhgabpoaicjoaaDoor
open Go.RowKit
set_option linter.unusedVariables false

set_option maxHeartbeats 400000 in
theorem cmpNaN_any (x : Int) (w : World) : Calls Tryd.prog 148 #[.int .i64 x] w fun e w' => e = .returned (.bool false) ∧ w' = w := by
  go_enter Tryd.func148, Tryd.ntmps148
  go_wp2
  go_ret
  exact ⟨rfl, rfl⟩

set_option maxHeartbeats 400000 in
theorem slNaN_any (x : Int) (w : World) : Calls Tryd.prog 110 #[.int .i64 x] w fun e w' => e = .returned (.bool false) ∧ w' = w := by
  go_enter Tryd.func110, Tryd.ntmps110
  go_wp2
  go_ret
  exact ⟨rfl, rfl⟩

def lessBS (x y : Int) : Bool := decide (x < y)

set_option maxHeartbeats 400000 in
theorem less2_any (x y : Int) (w : World) : Calls Tryd.prog 109 #[.int .i64 x, .int .i64 y] w fun e w' => e = .returned (.bool (lessBS x y)) ∧ w' = w := by
  go_enter Tryd.func109, Tryd.ntmps109
  go_wp2_with (go_at_call 148; refine (cmpNaN_any x _).mono ?_; rintro e w' ⟨rfl, rfl⟩)
  go_ret
  exact ⟨rfl, rfl⟩

theorem inc_at {xs : List Int} (h : Inc xs) {p q : Nat} {x y : Int} (hp : xs[p]? = some x) (hq : xs[q]? = some y) (hpq : p < q) : x < y := by
  obtain ⟨p1, p2⟩ := List.getElem?_eq_some_iff.1 hp
  obtain ⟨q1, q2⟩ := List.getElem?_eq_some_iff.1 hq
  have := List.pairwise_iff_getElem.1 h p q p1 q1 hpq
  rwa [p2, q2] at this
theorem at_of {xs : List Int} {k : Nat} {x : Int} (h : k < xs.length) (hx : Hid (x = xs[k]?.getD 0)) : xs[k]? = some x := by
  rw [hx.out, List.getElem?_eq_getElem h]; rfl
theorem bs_found {xs : List Int} {n : Int} {k : Nat} (hi : Inc xs) (hk : xs[k]? = some n) : placeI xs n = (k : Int) := by
  obtain ⟨k1, k2⟩ := List.getElem?_eq_some_iff.1 hk
  have hm : n ∈ xs := by rw [← k2]; exact List.getElem_mem k1
  obtain ⟨j, hj⟩ := placeN_mem hm
  rw [placeI_of hj]
  have h2 := placeN_some hj
  rcases Nat.lt_trichotomy j k with h | h | h
  · have := inc_at hi h2 hk h; omega
  · rw [h]
  · have := inc_at hi hk h2 h; omega
theorem bs_has {xs : List Int} {n : Int} {k : Nat} (hk : xs[k]? = some n) : hasB xs n = true := by
  obtain ⟨k1, k2⟩ := List.getElem?_eq_some_iff.1 hk
  exact (hasB_iff _ _).2 (by rw [← k2]; exact List.getElem_mem k1)
theorem bs_none {xs : List Int} {n : Int} {i j : Nat} (hij : i = j) (hl : ∀ p x, p < i → xs[p]? = some x → x < n) (hu : ∀ p x, j ≤ p → xs[p]? = some x → n ≤ x) (hi : Inc xs) (hn : xs[i]? ≠ some n) : hasB xs n = false := by
  cases h : hasB xs n with
  | false => rfl
  | true =>
    exfalso
    obtain ⟨p, hp⟩ := List.getElem?_of_mem ((hasB_iff _ _).1 h)
    rcases Nat.lt_trichotomy p i with c | c | c
    · have := hl p n c hp; omega
    · subst c; exact hn hp
    · have hlt : i < xs.length := Nat.lt_trans c (List.getElem?_eq_some_iff.1 hp).1
      have h1 := hu i _ (by omega) (List.getElem?_eq_getElem hlt)
      have h2 := inc_at hi (List.getElem?_eq_getElem hlt) hp c
      omega

set_option maxHeartbeats 1000000 in
theorem bs_some (b off cap : Nat) (xs : List Int) (n : Int) (w : World) (hl : xs.length ≤ 4611686018427387903) (hc : Cells w b off xs) (hi : Hid (Inc xs)) :
    Calls Tryd.prog 65 #[.slice (some ⟨b, off, none⟩) xs.length cap, .int .i64 n] w fun e w' => ∃ k : Nat, e = .returned (.tuple #[.int .i64 k, .bool (hasB xs n)]) ∧ (hasB xs n = true → placeI xs n = (k : Int)) ∧ w' = w := by
  go_enter Tryd.func65, Tryd.ntmps65
  go_wp2
  go_loop [7, 8] (fun vi vj => ∃ i j : Nat, i ≤ j ∧ j ≤ xs.length ∧ vi = .int .i64 i ∧ vj = .int .i64 j ∧ Hid (∀ p x, p < i → xs[p]? = some x → x < n) ∧ Hid (∀ p x, j ≤ p → xs[p]? = some x → n ≤ x)) (fun vi vj => (intOf vj).toNat - (intOf vi).toNat)
  case atStart => exact ⟨0, xs.length, Nat.zero_le _, Nat.le_refl _, rfl, rfl, fun p x h => by omega, fun p x h hx => by have := (List.getElem?_eq_some_iff.1 hx).1; omega⟩
  case round =>
    obtain ⟨i, j, hij, hj, rfl, rfl, HL, HU⟩ := hrel
    by_cases hlt : i < j
    · have hh : (i + j) / 2 < xs.length := by omega
      obtain ⟨x, HX, hcx⟩ := hc.at hh
      by_cases hx : x < n
      · have d : lessBS x n = true := by simpa [lessBS] using hx
        have HH : Hid (x < n) := hx
        clear hx
        go_wp2_with (go_at_call 109; refine (less2_any x n _).mono ?_; rintro e w' ⟨rfl, rfl⟩)
        go_round
        case rel =>
          refine ⟨(i + j) / 2 + 1, j, by omega, hj, by go_num, rfl, fun p y hp hy => ?_, HU⟩
          have e1 := at_of hh HX
          have e2 := HH.out
          by_cases hpq : p < (i + j) / 2
          · have := inc_at hi.out hy e1 hpq; omega
          · have : p = (i + j) / 2 := by omega
            subst this
            rw [e1] at hy; cases hy; exact e2
        case measure => simp [intOf]; omega
      · have d : lessBS x n = false := by simpa [lessBS] using hx
        have HH : Hid (¬ x < n) := hx
        clear hx
        go_wp2_with (go_at_call 109; refine (less2_any x n _).mono ?_; rintro e w' ⟨rfl, rfl⟩)
        go_round
        case rel =>
          refine ⟨i, (i + j) / 2, by omega, by omega, rfl, by go_num, HL, fun p y hp hy => ?_⟩
          have e1 := at_of hh HX
          have e2 := HH.out
          by_cases hpq : (i + j) / 2 < p
          · have := inc_at hi.out e1 hy hpq; omega
          · have : p = (i + j) / 2 := by omega
            subst this
            rw [e1] at hy; cases hy; omega
        case measure => simp [intOf]; omega
    · have hE : Hid (i = j) := show i = j by omega
      by_cases hil : i < xs.length
      · obtain ⟨x, HX, hcx⟩ := hc.at hil
        have HY := Hid.of (at_of hil HX)
        by_cases hx : x = n
        · subst hx
          go_wp2_with (go_at_call 110; refine (slNaN_any _ _).mono ?_; rintro e w' ⟨rfl, rfl⟩)
          go_ret2
          exact ⟨i, by rw [bs_has HY.out]; rfl, fun _ => bs_found hi.out HY.out, rfl⟩
        · have d : (x == n) = false := by simpa using hx
          have HH : Hid (¬ x = n) := hx
          clear hx
          go_wp2_with (go_at_call 110; refine (slNaN_any _ _).mono ?_; rintro e w' ⟨rfl, rfl⟩)
          go_ret2
          have hf := bs_none hE.out HL.out HU.out hi.out (by rw [HY.out]; intro h; exact HH.out (Option.some.inj h))
          exact ⟨i, by rw [hf]; rfl, fun h => (by rw [hf] at h; cases h), rfl⟩
      · have hf := Hid.of (bs_none hE.out HL.out HU.out hi.out (by rw [List.getElem?_eq_none (by omega)]; intro h; cases h))
        go_wp2
        go_ret2
        exact ⟨i, by rw [hf.out]; rfl, fun h => (by rw [hf.out] at h; cases h), rfl⟩

set_option maxHeartbeats 400000 in
theorem bs_nil (a : Option Addr) (cap : Nat) (n : Int) (w : World) :
    Calls Tryd.prog 65 #[.slice a 0 cap, .int .i64 n] w fun e w' => ∃ k : Nat, e = .returned (.tuple #[.int .i64 k, .bool (hasB [] n)]) ∧ (hasB [] n = true → placeI [] n = (k : Int)) ∧ w' = w := by
  go_enter Tryd.func65, Tryd.ntmps65
  go_wp2
  refine wp_loop_rounds 1 ?_
  rw [rounds_succ]
  go_wp2
  go_ret2
  exact ⟨0, rfl, fun h => (by cases h), rfl⟩

theorem bs_any (a : Option Addr) (cap : Nat) (xs : List Int) (n : Int) (w : World) (hs : At w a xs) (hl : xs.length ≤ 4611686018427387903) (hi : Inc xs) :
    Calls Tryd.prog 65 #[.slice a xs.length cap, .int .i64 n] w fun e w' => ∃ k : Nat, e = .returned (.tuple #[.int .i64 k, .bool (hasB xs n)]) ∧ (hasB xs n = true → placeI xs n = (k : Int)) ∧ w' = w := by
  rcases hs with rfl | ⟨b, off, rfl, -, hc⟩
  · exact bs_nil a cap n w
  · exact bs_some b off cap xs n w hl hc hi

end Go.Proofs.YtdhgabpoaicjoaaDoor
