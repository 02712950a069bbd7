/-
  The walk of hide.union: what the states of a set lead to.
  The walks of slices.Index, slices.Contains and row.Has: whether a list has a number.
  Plain: states, and where unseen events lead to from them, as the reference finds them. No program, no model.
  Plain: what unseen events come to, and the machine of what is seen. No program, no model.
  Plain: the machine of what is seen: it may be, and it accepts what is seen of the words that are accepted. No program, no model.
-/
import Derived.Test.YtcjcjaeaoianfaaDoorCSpread
import Derived.Test.YtcjcjaeaoianfaaDoorG03
import Derived.Test.YtcjcjaeaoianfaaDoorG07
namespace Go.Proofs.YtcjcjaeaoianfaaDoor
open Go.RowKit Go.Shelf
set_option linter.unusedVariables false
attribute [local go_sem] Oper.semAt_some

set_option maxRecDepth 100000 in
set_option maxHeartbeats 4000000 in
theorem union_in (S : Nat → Nat) (hS : okS S) (N : Nat) (T : Nat → Nat → Nat) (hTok : Hid (∀ p, okS (T p))) (hall : ∀ k ∈ allS S, k < N) (hN : N ≤ 256) (pg : Nat) (w : World) (hT : Tab w) (hTB : TB w pg N T) :
    CallsIn Fence.wide 5 Tryd.prog 61 #[sval S, .slice (some ⟨pg, 0, none⟩) N N] w fun e W' => e = .returned (sval (toF T (allS S))) ∧ Below w.heap.size w W' := by
  obtain ⟨xs, hxs⟩ := nb_of (N := N) (allS S) hall
  clear hall
  refine callsIn_of_wp_marks Tryd.func61 rfl trivial ?_ rfl
  simp only [Tryd.ntmps61, List.size_toArray, List.length_cons, List.length_nil, Nat.reduceAdd, Nat.reduceSub, Array.replicate_succ, Array.replicate_zero, List.push_toArray, List.append_toArray, List.nil_append, List.cons_append]
  gi_wp2_with (refine ⟨trivial, ?_⟩; refine CallsIn.mono (callsIn_wide.2 (all_any S _)) ?_; rintro e w1 ⟨rfl, rfl⟩)
  have hB0 : Below w.heap.size w (((((w.alloc (.cells (scells S) 55)).alloc (.cells #[.slice (some ⟨pg, 0, none⟩) N N] 80)).alloc (.cells #[.int .u64 0, .int .u64 0, .int .u64 0, .int .u64 0] 55)).alloc (.cells #[.int .u64 0, .int .u64 0, .int .u64 0, .int .u64 0] 55)).alloc (.cells (scells S) 55)) := (((((Below.refl _ _).alloc (Nat.le_refl _) _).alloc (by simp) _).alloc (by simp; omega) _).alloc (by simp; omega) _).alloc (by simp; omega) _
  have bX : Boxed (((((w.alloc (.cells (scells S) 55)).alloc (.cells #[.slice (some ⟨pg, 0, none⟩) N N] 80)).alloc (.cells #[.int .u64 0, .int .u64 0, .int .u64 0, .int .u64 0] 55)).alloc (.cells #[.int .u64 0, .int .u64 0, .int .u64 0, .int .u64 0] 55)).alloc (.cells (scells S) 55)) (w.heap.size + 1) 80 (.slice (some ⟨pg, 0, none⟩) N N) := by
    have := (((Boxed.new (w.alloc (.cells (scells S) 55)) 80 (.slice (some ⟨pg, 0, none⟩) N N)).alloc (.cells #[.int .u64 0, .int .u64 0, .int .u64 0, .int .u64 0] 55)).alloc (.cells #[.int .u64 0, .int .u64 0, .int .u64 0, .int .u64 0] 55)).alloc (.cells (scells S) 55)
    rwa [World.size_alloc] at this
  have bR : SB (((((w.alloc (.cells (scells S) 55)).alloc (.cells #[.slice (some ⟨pg, 0, none⟩) N N] 80)).alloc (.cells #[.int .u64 0, .int .u64 0, .int .u64 0, .int .u64 0] 55)).alloc (.cells #[.int .u64 0, .int .u64 0, .int .u64 0, .int .u64 0] 55)).alloc (.cells (scells S) 55)) (w.heap.size + 1 + 1) zeroS := by
    have := ((Blk.new ((w.alloc (.cells (scells S) 55)).alloc (.cells #[.slice (some ⟨pg, 0, none⟩) N N] 80)) 55 #[.int .u64 0, .int .u64 0, .int .u64 0, .int .u64 0]).alloc (.cells #[.int .u64 0, .int .u64 0, .int .u64 0, .int .u64 0] 55)).alloc (.cells (scells S) 55)
    rwa [World.size_alloc, World.size_alloc] at this
  have bO : SB (((((w.alloc (.cells (scells S) 55)).alloc (.cells #[.slice (some ⟨pg, 0, none⟩) N N] 80)).alloc (.cells #[.int .u64 0, .int .u64 0, .int .u64 0, .int .u64 0] 55)).alloc (.cells #[.int .u64 0, .int .u64 0, .int .u64 0, .int .u64 0] 55)).alloc (.cells (scells S) 55)) (w.heap.size + 1 + 1 + 1) zeroS := by
    have := (Blk.new (((w.alloc (.cells (scells S) 55)).alloc (.cells #[.slice (some ⟨pg, 0, none⟩) N N] 80)).alloc (.cells #[.int .u64 0, .int .u64 0, .int .u64 0, .int .u64 0] 55)) 55 #[.int .u64 0, .int .u64 0, .int .u64 0, .int .u64 0]).alloc (.cells (scells S) 55)
    rwa [World.size_alloc, World.size_alloc, World.size_alloc] at this
  have bN : SB (((((w.alloc (.cells (scells S) 55)).alloc (.cells #[.slice (some ⟨pg, 0, none⟩) N N] 80)).alloc (.cells #[.int .u64 0, .int .u64 0, .int .u64 0, .int .u64 0] 55)).alloc (.cells #[.int .u64 0, .int .u64 0, .int .u64 0, .int .u64 0] 55)).alloc (.cells (scells S) 55)) (w.heap.size + 1 + 1 + 1 + 1) S := by
    have := Blk.new ((((w.alloc (.cells (scells S) 55)).alloc (.cells #[.slice (some ⟨pg, 0, none⟩) N N] 80)).alloc (.cells #[.int .u64 0, .int .u64 0, .int .u64 0, .int .u64 0] 55)).alloc (.cells #[.int .u64 0, .int .u64 0, .int .u64 0, .int .u64 0] 55)) 55 (scells S)
    rwa [World.size_alloc, World.size_alloc, World.size_alloc, World.size_alloc] at this
  have hsz0 : (((((w.alloc (.cells (scells S) 55)).alloc (.cells #[.slice (some ⟨pg, 0, none⟩) N N] 80)).alloc (.cells #[.int .u64 0, .int .u64 0, .int .u64 0, .int .u64 0] 55)).alloc (.cells #[.int .u64 0, .int .u64 0, .int .u64 0, .int .u64 0] 55)).alloc (.cells (scells S) 55)).heap.size = w.heap.size + 5 := by simp
  revert hB0 bX bR bO bN hsz0
  generalize ((((w.alloc (.cells (scells S) 55)).alloc (.cells #[.slice (some ⟨pg, 0, none⟩) N N] 80)).alloc (.cells #[.int .u64 0, .int .u64 0, .int .u64 0, .int .u64 0] 55)).alloc (.cells #[.int .u64 0, .int .u64 0, .int .u64 0, .int .u64 0] 55)).alloc (.cells (scells S) 55) = W0
  intro hB0 bX bR bO bN hsz0
  have hT0 := hT.below hB0 hT.lt
  have hw0 := hT.lt
  refine wpIn_rangeFunc_ownG rfl (by omega) (gf := 99) (lb := #[.pointer (some ⟨w.heap.size + 1 + 1 + 1 + 1, 0, none⟩)]) rfl trivial (enters_of Tryd.func99 (by kernel_rfl) rfl)
    (all_stops 4 (by omega) (w.heap.size + 1 + 1 + 1 + 1) (w.heap.size + 3) S hS xs hxs (by omega) W0 (by omega) bN hT0) belowK_t (belowK_b (by omega)) (Below.refl _ _) (fun _ => rfl)
    (fun pre W' => SB W' (w.heap.size + 1 + 1 + 1) (toF T (nbNats pre)) ∧ Below (w.heap.size + 3) W0 W')
    (fun _ _ _ => False)
    (OwnFrom.and (Go.Own.from (own_SB (w.heap.size + 1 + 1 + 1) (fun pre : List (NB N) => toF T (nbNats pre))) _) (ownFrom_below (by omega) (by omega)))
    (fun _ _ _ _ _ hs _ _ => hs)
    ⟨bO, Below.refl _ _⟩
    (fun x => { tmps := #[sval S, .slice (some ⟨pg, 0, none⟩) N N, .pointer (some ⟨w.heap.size, 0, none⟩), .pointer (some ⟨w.heap.size + 1, 0, none⟩), .pointer (some ⟨w.heap.size + 1 + 1, 0, none⟩), .pointer (some ⟨w.heap.size + 1 + 1 + 1, 0, none⟩), .int .i64 (x.1 : Int), sval S, .func (.func 99) #[] #[.pointer (some ⟨w.heap.size + 1 + 1 + 1 + 1, 0, none⟩)], .int .i64 (x.1 : Int), undef, undef, undef, undef, undef, undef, undef], defers := [] }) ?assign ?body ?done ?stop
  case assign =>
    intro l x W K hK
    gi_wp2
    exact hK
  case body =>
    rintro l' pre x W' ⟨hO, hB'⟩ hlt
    have hBW : Below w.heap.size w W' := hB0.trans (hB'.mono (by omega))
    have hTW := hTB.below hBW hTB.lt
    have c1 : W'.cell? ⟨w.heap.size + 1, 0, none⟩ = some (.slice (some ⟨pg, 0, none⟩) N N) := Boxed.cell ((hB'.block _ (by omega)).trans bX)
    have hx := x.2
    obtain ⟨n, hn⟩ : ∃ n, Hid (n = x.1) := ⟨_, rfl⟩
    rw [← hn.out] at hx ⊢
    obtain ⟨t0, t1, t2, t3⟩ := hTW.cells hx
    obtain ⟨o0, o1, o2, o3⟩ := hO.cells
    have fO := hO.frozen
    have mx : Tryd.prog.follows .mixedOrders = true := by kernel_rfl
    have hOk : Hid (okS (toF T (nbNats pre))) := ok_toF hTok.out _
    have hTp : Hid (okS (T n)) := hTok.out n
    have HX : Hid (toF T (nbNats (pre ++ [x])) = joinS (toF T (nbNats pre)) (T n)) := by show _ = _; rw [nbNats_snoc, toF_snoc, hn.out]
    have hn0 : (0 : Int) ≤ (n : Int) := by omega
    have hnI : (n : Int) < (N : Int) := by omega
    have hOd : Hid (SB W'.drew (w.heap.size + 1 + 1 + 1) (toF T (nbNats pre))) := hO
    have HB := Hid.of hB'
    have HO := Hid.of hO
    clear hTW hBW hB' hO
    generalize toF T (nbNats pre) = O at *
    gi_wp2
    gi_region_with_o (refine ⟨trivial, ?_⟩; refine CallsIn.mono (CallsIn.inRound l' (callsIn_wide.2 (join_any O (T n) _ hOk.out hTp.out))) ?_; rintro e' w1 ⟨rfl, hb1⟩; have hO1 := Blk.below hOd.out hb1 hOd.out.lt; obtain ⟨y0, y1, y2, y3⟩ := SB.cells hO1; have fO1 := Blk.frozen hO1)
    all_goals
      have k1 : KeepsOthers W' w1 := ⟨hb1.size, fun k o hk _ => (hb1.block k (Array.getElem?_eq_some_iff.1 hk).1).trans hk⟩
      have k2 : Below (w.heap.size + 3) W' w1 := ((Below.refl _ W').drew).trans (hb1.mono (Nat.le_of_lt HO.out.lt))
      have k3 := below_set4 k2 (b' := w.heap.size + 1 + 1 + 1) (Nat.le_refl _) (.int .u64 (joinS O (T n) 0)) (.int .u64 (joinS O (T n) 1)) (.int .u64 (joinS O (T n) 2)) (.int .u64 (joinS O (T n) 3))
      exact ⟨((((k1.trans (KeepsOthers.setCell _ _ _)).trans (KeepsOthers.setCell _ _ _)).trans (KeepsOthers.setCell _ _ _)).trans (KeepsOthers.setCell _ _ _)).from _, k3, by rw [HX.out]; exact SB.set4 hO1 _, HB.out.trans k3⟩
  case done =>
    rintro D ys W' hD rfl ⟨hO, hB'⟩ hK
    have hBW : Below w.heap.size w W' := hB0.trans (hB'.mono (by omega))
    obtain ⟨o0, o1, o2, o3⟩ := hO.cells
    have HQ : Hid (toF T (nbNats ys) = toF T (allS S)) := by show _ = _; rw [← hxs]; rfl
    have hres := bR.below hB' (by omega)
    obtain ⟨r0, r1, r2, r3⟩ := SB.cells hres
    have rz := hres.frozen
    have k2 := Hid.of (SB.set4 hres (toF T (nbNats ys)))
    have k3 := Hid.of (below_set4 hBW (b' := w.heap.size + 1 + 1) (by omega) (.int .u64 (toF T (nbNats ys) 0)) (.int .u64 (toF T (nbNats ys) 1)) (.int .u64 (toF T (nbNats ys) 2)) (.int .u64 (toF T (nbNats ys) 3)))
    have hMk : Marks w.heap.size [D] W' := by
      refine ⟨fun D' hD' => ?_, by simp⟩
      have e : D' = D := by simpa using hD'
      rw [e]
      exact ⟨by omega, hK⟩
    have k4 := Hid.of (hMk.other4 hres (toF T (nbNats ys)))
    clear hMk
    clear hO hBW hB' hres hK
    generalize toF T (nbNats ys) = O at *
    gi_wp2
    refine leaves_marks (B := w.heap.size) (fun W => SB W (w.heap.size + 1 + 1) O ∧ Below w.heap.size w W) ?hJ ?hfin [D] _ k4.out ⟨k2.out, k3.out⟩
    case hJ =>
      rintro W D ⟨h1, h2⟩ hD hk
      refine ⟨(World.putObj_heap_other (fun e => ?_)).trans h1, h2.trans (belowK_b (w := w) (Nat.le_refl _) W D _ _ hD hk rfl rfl)⟩
      have h3 : W.heap[w.heap.size + 1 + 1]? = _ := h1
      rw [e, hk] at h3
      cases h3
    case hfin =>
      rintro W ⟨h1, h2⟩
      exact ⟨_, results_cell_row (g := w.heap.size + 1 + 1) (p := 4) rfl _ _ _ _ _ _ rfl h1 Tryd.underlying55 rfl (by kernel_rfl), by rw [← HQ.out], h2⟩
  case stop =>
    rintro D c pre W _ _ h _
    exact h.elim

theorem union_any (S : Nat → Nat) (hS : okS S) (N : Nat) (T : Nat → Nat → Nat) (hTok : ∀ p, okS (T p)) (hall : ∀ k ∈ allS S, k < N) (hN : N ≤ 256) (pg : Nat) (w : World) (hT : Tab w) (hTB : TB w pg N T) :
    Calls Tryd.prog 61 #[sval S, .slice (some ⟨pg, 0, none⟩) N N] w fun e W' => e = .returned (sval (toF T (allS S))) ∧ Below w.heap.size w W' :=
  callsIn_wide.1 (union_in S hS N T hTok hall hN pg w hT hTB)

end Go.Proofs.YtcjcjaeaoianfaaDoor
namespace Go.Proofs.YtcjcjaeaoianfaaDoor
open Go.RowKit

/-- What slices.Index answers: the first place, or -1. -/
def idxFrom (n : Int) : Nat → List Int → Int
  | _, [] => -1
  | k, x :: r => if n = x then k else idxFrom n (k + 1) r

theorem idx_has (n : Int) : ∀ (xs : List Int) (k : Nat), decide (0 ≤ idxFrom n k xs) = hasB xs n
  | [], _ => rfl
  | x :: r, k => by
    unfold idxFrom
    by_cases h : n = x
    · rw [if_pos h]; subst h; simp [hasB]
    · rw [if_neg h, idx_has n r (k + 1)]
      have h1 : (n == x) = false := by simp [h]
      simp only [hasB, List.contains_cons, h1, Bool.false_or]
theorem idx_bd (n : Int) : ∀ (xs : List Int) (k : Nat), -1 ≤ idxFrom n k xs ∧ idxFrom n k xs ≤ k + xs.length
  | [], _ => by simp [idxFrom]
  | x :: r, k => by
    unfold idxFrom
    have := idx_bd n r (k + 1)
    split
    · simp; omega
    · simp only [List.length_cons]; omega
theorem idx_hit {xs : List Int} {k : Nat} {n x : Int} (h : k < xs.length) (e : Hid (idxFrom n 0 xs = idxFrom n k (xs.drop k))) (hv : Hid (x = xs[k]?.getD 0)) (hx : (n == x) = true) : (k : Int) = idxFrom n 0 xs := by
  have hx : n = x := by simpa using hx
  rw [e.out, drop_cons h, ← hv.out, idxFrom, if_pos hx]
theorem idx_miss {xs : List Int} {k : Nat} {n x : Int} (h : k < xs.length) (e : Hid (idxFrom n 0 xs = idxFrom n k (xs.drop k))) (hv : Hid (x = xs[k]?.getD 0)) (hx : (n == x) = false) : Hid (idxFrom n 0 xs = idxFrom n (k + 1) (xs.drop (k + 1))) := by
  have hx : ¬ n = x := by simpa using hx
  show idxFrom n 0 xs = _
  rw [e.out, drop_cons h, ← hv.out, idxFrom, if_neg hx]
theorem idx_end {xs : List Int} {k : Nat} {n : Int} (h : ¬ k < xs.length) (e : Hid (idxFrom n 0 xs = idxFrom n k (xs.drop k))) : -1 = idxFrom n 0 xs := by
  rw [e.out, List.drop_eq_nil_of_le (by omega)]; rfl

set_option maxHeartbeats 400000 in
theorem index_some (b off cap : Nat) (xs : List Int) (n : Int) (w : World) (hl : xs.length ≤ 9223372036854775807) (hc : Cells w b off xs) :
    Calls Tryd.prog 122 #[.slice (some ⟨b, off, none⟩) xs.length cap, .int .i64 n] w fun e w' => e = .returned (.int .i64 (idxFrom n 0 xs)) ∧ w' = w := by
  go_enter Tryd.func122, Tryd.ntmps122
  go_wp2
  go_loop [8] (fun i => ∃ k : Nat, k ≤ xs.length ∧ i = .int .i64 k ∧ Hid (idxFrom n 0 xs = idxFrom n k (xs.drop k))) (fun i => xs.length - (intOf i).toNat)
  case atStart => exact ⟨0, Nat.zero_le _, rfl, rfl⟩
  case round =>
    obtain ⟨k, hk, rfl, he⟩ := hrel
    by_cases hlt : k < xs.length
    · obtain ⟨x, HX, hcell⟩ := hc.at hlt
      go_wp2
      · go_ret
        exact ⟨ret_int (idx_hit hlt he HX (by assumption)), rfl⟩
      · go_round
        case rel => exact ⟨k + 1, by omega, by go_num, idx_miss hlt he HX (by assumption)⟩
        case measure => simp [intOf]; omega
    · go_wp2
      go_ret
      exact ⟨ret_int (idx_end hlt he), rfl⟩

set_option maxHeartbeats 400000 in
theorem index_nil (a : Option Addr) (cap : Nat) (n : Int) (w : World) :
    Calls Tryd.prog 122 #[.slice a 0 cap, .int .i64 n] w fun e w' => e = .returned (.int .i64 (-1)) ∧ w' = w := by
  go_enter Tryd.func122, Tryd.ntmps122
  go_wp2
  refine wp_loop_rounds 1 ?_
  rw [rounds_succ]
  go_wp2
  go_ret
  exact ⟨rfl, rfl⟩

theorem index_any (a : Option Addr) (cap : Nat) (xs : List Int) (n : Int) (w : World) (hs : At w a xs) (hl : xs.length ≤ maxLen) :
    Calls Tryd.prog 122 #[.slice a xs.length cap, .int .i64 n] w fun e w' => e = .returned (.int .i64 (idxFrom n 0 xs)) ∧ w' = w := by
  rcases hs with rfl | ⟨b, off, rfl, -, hc⟩
  · exact index_nil a cap n w
  · exact index_some b off cap xs n w hl hc

set_option maxHeartbeats 400000 in
theorem contains_any (a : Option Addr) (cap : Nat) (xs : List Int) (n : Int) (w : World) (hs : At w a xs) (hl : xs.length ≤ maxLen) :
    Calls Tryd.prog 108 #[.slice a xs.length cap, .int .i64 n] w fun e w' => e = .returned (.bool (hasB xs n)) ∧ w' = w := by
  go_enter Tryd.func108, Tryd.ntmps108
  go_wp2_with fail
  refine (index_any a cap xs n _ hs hl).mono ?_
  rintro e w' ⟨rfl, rfl⟩
  go_wp2
  go_ret
  exact ⟨ret_bool (idx_has n xs 0), rfl⟩

set_option maxHeartbeats 400000 in
theorem rowHas_any (a : Option Addr) (cap : Nat) (xs : List Int) (n : Int) (w : World) (hs : At w a xs) (hl : xs.length ≤ maxLen) :
    Calls Tryd.prog 86 #[.slice a xs.length cap, .int .i64 n] w fun e w' => e = .returned (.bool (hasB xs n)) ∧ w' = w := by
  go_enter Tryd.func86, Tryd.ntmps86
  go_wp2_with fail
  refine (contains_any a cap xs n _ hs hl).mono ?_
  rintro e w' ⟨rfl, rfl⟩
  go_wp2
  go_ret
  exact ⟨rfl, rfl⟩

end Go.Proofs.YtcjcjaeaoianfaaDoor
namespace Go.Proofs.YtcjcjaeaoianfaaDoor
open Go.RowKit
set_option linter.unusedVariables false

/-- What is seen of a word. -/
def seenL (seen word : List Int) : List Int := word.filter fun n => hasB seen n == true

/-- One arrow more. -/
def wAdd (seen : List Int) (x : Int) (l : List Int) (a : Arr) : List Int := if (decide (a.f = x) && (!hasB seen a.e && !hasB l a.t)) = true then l ++ [a.t] else l
def wRow (ars : List Arr) (seen : List Int) (x : Int) (l : List Int) : List Int := ars.foldl (wAdd seen x) l
def wGo (ars : List Arr) (seen : List Int) : Nat → Nat → List Int → List Int
  | 0, _, l => l
  | f + 1, k, l => if k < l.length then wGo ars seen f (k + 1) (wRow ars seen (l[k]?.getD 0) l) else l
def wideL (ars : List Arr) (seen ss : List Int) : List Int := srt (wGo ars seen (ss.length + 256) 0 ss)

/-- How a list has grown. -/
def WB (ss l : List Int) : Prop := ∃ t, l = ss ++ t ∧ t.Nodup ∧ ∀ x ∈ t, 0 ≤ x ∧ x < (256 : Nat)
theorem WB.refl (ss : List Int) : WB ss ss := ⟨[], by simp, by simp, by simp⟩
theorem WB.len {ss l : List Int} (h : WB ss l) : l.length ≤ ss.length + 256 := by
  obtain ⟨t, rfl, h1, h2⟩ := h
  have := nodup_len 256 t h1 h2
  rw [List.length_append]; omega
theorem WB.add {ss l : List Int} (h : WB ss l) {seen : List Int} {x : Int} {a : Arr} (ha : 0 ≤ a.t ∧ a.t < (256 : Nat)) : WB ss (wAdd seen x l a) := by
  unfold wAdd
  split
  · rename_i hc
    obtain ⟨t, rfl, h1, h2⟩ := h
    have hn : a.t ∉ ss ++ t := by
      intro hm
      rw [(hasB_iff _ _).2 hm] at hc
      simp at hc
    refine ⟨t ++ [a.t], by rw [List.append_assoc], ?_, ?_⟩
    · rw [List.nodup_append]
      exact ⟨h1, by simp, fun y hy z hz e => by simp at hz; subst hz; subst e; exact hn (by simp [hy])⟩
    · intro y hy
      rcases List.mem_append.1 hy with hy | hy
      · exact h2 y hy
      · have : y = a.t := by simpa using hy
        rw [this]; exact ha
  · exact h
theorem wAdd_pre (seen : List Int) (x : Int) (l : List Int) (a : Arr) : ∃ t, wAdd seen x l a = l ++ t := by
  unfold wAdd; split
  · exact ⟨_, rfl⟩
  · exact ⟨[], by simp⟩
theorem wRow_pre (seen : List Int) (x : Int) : ∀ (ars : List Arr) (l : List Int), ∃ t, wRow ars seen x l = l ++ t
  | [], l => ⟨[], by simp [wRow]⟩
  | a :: r, l => by
    obtain ⟨t, h⟩ := wAdd_pre seen x l a
    obtain ⟨u, h'⟩ := wRow_pre seen x r (wAdd seen x l a)
    exact ⟨t ++ u, by show wRow r seen x (wAdd seen x l a) = _; rw [h', h, List.append_assoc]⟩
theorem wRow_take {ars : List Arr} {seen : List Int} {x : Int} {l : List Int} {j : Nat} {a : Arr} (h : j < ars.length) (ha : Hid (a = ars[j]?.getD arr0)) : wRow (ars.take (j + 1)) seen x l = wAdd seen x (wRow (ars.take j) seen x l) a := by
  have ha := ha.out
  rw [List.getElem?_eq_getElem h, Option.getD_some] at ha
  unfold wRow
  rw [List.take_add_one, List.getElem?_eq_getElem h, List.foldl_append, ← ha]; rfl
theorem wRow_nth {ars : List Arr} {seen : List Int} {x : Int} {l : List Int} {k : Nat} (h : k < l.length) : k < (wRow ars seen x l).length ∧ (wRow ars seen x l)[k]?.getD 0 = l[k]?.getD 0 := by
  obtain ⟨t, e⟩ := wRow_pre seen x ars l
  rw [e, List.getElem?_append_left h, List.length_append]
  exact ⟨by omega, rfl⟩
theorem wGo_next {ars : List Arr} {seen : List Int} {f k : Nat} {l : List Int} (hk : k < l.length) (hf : 0 < f) : wGo ars seen f k l = wGo ars seen (f - 1) (k + 1) (wRow ars seen (l[k]?.getD 0) l) := by
  obtain ⟨g, rfl⟩ : ∃ g, f = g + 1 := ⟨f - 1, by omega⟩
  rw [wGo, if_pos hk]; rfl
theorem wGo_end {ars : List Arr} {seen : List Int} {f k : Nat} {l : List Int} (hk : ¬ k < l.length) : wGo ars seen f k l = l := by
  cases f with
  | zero => rfl
  | succ g => rw [wGo, if_neg hk]
theorem wGo_none (seen : List Int) : ∀ (f k : Nat) (l : List Int), wGo [] seen f k l = l
  | 0, _, _ => rfl
  | f + 1, k, l => by
    rw [wGo]
    split
    · exact wGo_none seen f (k + 1) l
    · rfl
theorem wide_none (seen ss : List Int) : wideL [] seen ss = srt ss := by unfold wideL; rw [wGo_none]

end Go.Proofs.YtcjcjaeaoianfaaDoor
namespace Go.Proofs.YtcjcjaeaoianfaaDoor
open Go.RowKit
set_option linter.unusedVariables false

/-- The arrows that are not seen. -/
def unseenA (ars : List Arr) (seen : List Int) : List Arr := ars.filter fun a => !hasB seen a.e
theorem mem_unseen (ars : List Arr) (seen : List Int) (a : Arr) : a ∈ unseenA ars seen ↔ a ∈ ars ∧ hasB seen a.e = false := by
  unfold unseenA; rw [List.mem_filter]; simp
theorem wAdd_in {seen : List Int} {y x : Int} {l : List Int} {a : Arr} (h : x ∈ wAdd seen y l a) : x ∈ l ∨ (a.f = y ∧ hasB seen a.e = false ∧ x = a.t) := by
  unfold wAdd at h
  split at h
  · rename_i hc
    simp only [Bool.and_eq_true, decide_eq_true_eq, Bool.not_eq_true'] at hc
    rcases List.mem_append.1 h with h | h
    · exact .inl h
    · exact .inr ⟨hc.1, hc.2.1, by simpa using h⟩
  · exact .inl h
theorem wAdd_has {seen : List Int} {y : Int} {l : List Int} {a : Arr} (h1 : a.f = y) (h2 : hasB seen a.e = false) : a.t ∈ wAdd seen y l a := by
  unfold wAdd
  split
  · simp
  · rename_i hc
    cases h3 : hasB l a.t with
    | true => exact (hasB_iff _ _).1 h3
    | false => exact absurd (by simp [h1, h2, h3]) hc
theorem wRow_in {seen : List Int} {y x : Int} : ∀ {ars : List Arr} {l : List Int}, x ∈ wRow ars seen y l → x ∈ l ∨ ∃ a ∈ ars, a.f = y ∧ hasB seen a.e = false ∧ x = a.t
  | [], l, h => .inl h
  | a :: r, l, h => by
    rcases wRow_in (ars := r) (l := wAdd seen y l a) h with h | ⟨c, hc, h'⟩
    · rcases wAdd_in h with h | h
      · exact .inl h
      · exact .inr ⟨a, by simp, h⟩
    · exact .inr ⟨c, by simp [hc], h'⟩
theorem wRow_has {seen : List Int} {y : Int} : ∀ {ars : List Arr} {l : List Int} {a : Arr}, a ∈ ars → a.f = y → hasB seen a.e = false → a.t ∈ wRow ars seen y l
  | [], _, a, h, _, _ => by simp at h
  | c :: r, l, a, h, h1, h2 => by
    rcases List.mem_cons.1 h with rfl | h
    · obtain ⟨t, e⟩ := wRow_pre seen y r (wAdd seen y l a)
      show a.t ∈ wRow r seen y (wAdd seen y l a)
      rw [e]
      exact List.mem_append_left _ (wAdd_has h1 h2)
    · exact wRow_has (ars := r) h h1 h2
theorem wRow_wb {ss : List Int} {seen : List Int} {y : Int} : ∀ {ars : List Arr} {l : List Int}, (∀ a ∈ ars, 0 ≤ a.t ∧ a.t < (256 : Nat)) → WB ss l → WB ss (wRow ars seen y l)
  | [], _, _, h => h
  | a :: r, l, hin, h => wRow_wb (ars := r) (fun c hc => hin c (by simp [hc])) (h.add (hin a (by simp)))
/-- What is known when the first k have been gone on from. -/
structure WI (ars : List Arr) (seen ss : List Int) (k : Nat) (l : List Int) : Prop where
  wb : WB ss l
  rch : ∀ x ∈ l, Rch (·.f) (·.t) (unseenA ars seen) ss x
  cl : ∀ i, i < k → ∀ y, l[i]? = some y → ∀ a ∈ unseenA ars seen, a.f = y → a.t ∈ l
theorem wi_next {ars : List Arr} {seen ss : List Int} (hin : ∀ a ∈ ars, 0 ≤ a.t ∧ a.t < (256 : Nat)) {k : Nat} {l : List Int} (h : WI ars seen ss k l) (hk : k < l.length) : WI ars seen ss (k + 1) (wRow ars seen (l[k]?.getD 0) l) := by
  have hy : l[k]? = some l[k] := List.getElem?_eq_getElem hk
  rw [hy, Option.getD_some]
  obtain ⟨t, ht⟩ := wRow_pre seen l[k] ars l
  refine ⟨wRow_wb hin h.wb, fun x hx => ?_, fun i hi y hy' a ha hf => ?_⟩
  · rcases wRow_in hx with hx | ⟨a, ha, h1, h2, rfl⟩
    · exact h.rch x hx
    · exact rch_step (fr := (·.f)) (to := (·.t)) ((mem_unseen _ _ _).2 ⟨ha, h2⟩) (by rw [h1]; exact h.rch _ (List.getElem_mem _))
  · have hl : i < l.length := by omega
    rw [ht, List.getElem?_append_left hl] at hy'
    by_cases hik : i = k
    · subst hik
      rw [hy] at hy'
      have hy' := Option.some.inj hy'
      obtain ⟨h1, h2⟩ := (mem_unseen _ _ _).1 ha
      exact wRow_has h1 (by rw [hf, hy']) h2
    · rw [ht]
      exact List.mem_append_left _ (h.cl i (by omega) y hy' a ha hf)
theorem wi_go {ars : List Arr} {seen ss : List Int} (hin : ∀ a ∈ ars, 0 ≤ a.t ∧ a.t < (256 : Nat)) : ∀ (f k : Nat) (l : List Int), WI ars seen ss k l → ss.length + 256 ≤ f + k → k ≤ l.length → WI ars seen ss (wGo ars seen f k l).length (wGo ars seen f k l)
  | 0, k, l, h, hf, hk => by
    have := h.wb.len
    have e : k = l.length := by omega
    show WI ars seen ss l.length l
    rw [← e]; exact h
  | f + 1, k, l, h, hf, hk => by
    rw [wGo]
    split
    · rename_i hlt
      refine wi_go hin f (k + 1) _ (wi_next hin h hlt) (by omega) ?_
      obtain ⟨t, ht⟩ := wRow_pre seen (l[k]?.getD 0) ars l
      rw [ht, List.length_append]; omega
    · rename_i hlt
      have e : k = l.length := by omega
      rw [← e]; exact h
theorem mem_wide {ars : List Arr} {seen ss : List Int} (hin : ∀ a ∈ ars, 0 ≤ a.t ∧ a.t < (256 : Nat)) (x : Int) : x ∈ wideL ars seen ss ↔ Rch (·.f) (·.t) (unseenA ars seen) ss x := by
  have h := wi_go hin (ss.length + 256) 0 ss ⟨WB.refl _, fun x hx => rch_start hx, fun i hi => by omega⟩ (by omega) (by omega) (seen := seen)
  unfold wideL
  rw [mem_srt]
  constructor
  · exact h.rch x
  · intro hx
    refine hx (· ∈ wGo ars seen (ss.length + 256) 0 ss) ⟨fun y hy => ?_, fun a ha hf => ?_⟩
    · obtain ⟨t, ht, -⟩ := h.wb
      rw [ht]; exact List.mem_append_left _ hy
    · obtain ⟨i, hi⟩ := List.getElem?_of_mem hf
      exact h.cl i (List.getElem?_eq_some_iff.1 hi).1 _ hi a ha rfl
theorem wide_sub {ars : List Arr} {seen ss : List Int} (hin : ∀ a ∈ ars, 0 ≤ a.t ∧ a.t < (256 : Nat)) : ∀ x ∈ ss, x ∈ wideL ars seen ss := fun x hx => (mem_wide hin x).2 (rch_start hx)
theorem wide_cl {ars : List Arr} {seen ss : List Int} (hin : ∀ a ∈ ars, 0 ≤ a.t ∧ a.t < (256 : Nat)) {a : Arr} (ha : a ∈ ars) (hu : hasB seen a.e = false) (h : a.f ∈ wideL ars seen ss) : a.t ∈ wideL ars seen ss :=
  (mem_wide hin _).2 (rch_step (fr := (·.f)) (to := (·.t)) ((mem_unseen _ _ _).2 ⟨ha, hu⟩) ((mem_wide hin _).1 h))

end Go.Proofs.YtcjcjaeaoianfaaDoor
namespace Go.Proofs.YtcjcjaeaoianfaaDoor
open Go.RowKit
set_option linter.unusedVariables false

/-- Arrows from a state, at a seen event. -/
def hRow (m : Mach) (seen : List Int) (f k : Nat) : List Arr := (wideL m.arrows seen (stepL m.arrows (wideL m.arrows seen [(f : Int)]) (seen[k]?.getD 0))).map fun t => ⟨(f : Int), (k : Int), t⟩
def hFrom (m : Mach) (seen : List Int) (f n : Nat) : List Arr := (List.range n).flatMap (hRow m seen f)
def hAll (m : Mach) (seen : List Int) (n : Nat) : List Arr := (List.range n).flatMap fun f => hFrom m seen f seen.length
def hideM (m : Mach) (seen : List Int) : Mach := ⟨m.st, seen.length, wideL m.arrows seen m.starts, hAll m seen m.st.toNat, m.ends⟩

theorem mem_hRow (m : Mach) (seen : List Int) (f k : Nat) (x : Arr) : x ∈ hRow m seen f k ↔ ∃ t ∈ wideL m.arrows seen (stepL m.arrows (wideL m.arrows seen [(f : Int)]) (seen[k]?.getD 0)), x = ⟨(f : Int), (k : Int), t⟩ := by
  unfold hRow; rw [List.mem_map]
  constructor
  · rintro ⟨t, h, rfl⟩; exact ⟨t, h, rfl⟩
  · rintro ⟨t, h, rfl⟩; exact ⟨t, h, rfl⟩
theorem mem_hAll (m : Mach) (seen : List Int) (n : Nat) (x : Arr) : x ∈ hAll m seen n ↔ ∃ f k : Nat, f < n ∧ k < seen.length ∧ x ∈ hRow m seen f k := by
  unfold hAll hFrom
  simp only [List.mem_flatMap, List.mem_range]
  constructor
  · rintro ⟨f, hf, k, hk, h⟩; exact ⟨f, k, hf, hk, h⟩
  · rintro ⟨f, k, hf, hk, h⟩; exact ⟨f, hf, k, hk, h⟩
theorem may_to {m : Mach} (hm : mayB m = true) : ∀ a ∈ m.arrows, 0 ≤ a.t ∧ a.t < (256 : Nat) := fun a ha => by
  have h1 := may_arrs hm a ha
  have h2 := mayB_size hm
  unfold sizeOk at h2
  exact ⟨h1.2.2.1, by have := h1.2.2.2.1; omega⟩
theorem wide_bd {m : Mach} (hm : mayB m = true) {seen ss : List Int} (hs : ∀ x ∈ ss, 0 ≤ x ∧ x < m.st) : ∀ x ∈ wideL m.arrows seen ss, 0 ≤ x ∧ x < m.st := fun x hx =>
  rch_bd hs (fun a ha => by have := may_arrs hm a ((mem_unseen _ _ _).1 ha).1; exact ⟨this.2.2.1, this.2.2.2.1⟩) ((mem_wide (may_to hm) x).1 hx)
theorem step_bd {m : Mach} (hm : mayB m = true) {ss : List Int} {e : Int} : ∀ x ∈ stepL m.arrows ss e, 0 ≤ x ∧ x < m.st := fun x hx => by
  obtain ⟨a, ha, -, -, rfl⟩ := (mem_stepL _ _ _ _).1 hx
  have := may_arrs hm a ha
  exact ⟨this.2.2.1, this.2.2.2.1⟩
theorem inc_wide (ars : List Arr) (seen ss : List Int) : Inc (wideL ars seen ss) := inc_srt _
theorem incA_flat {g : Nat → List Arr} (h1 : ∀ k, IncA (g k)) (h2 : ∀ k k', k < k' → ∀ x ∈ g k, ∀ y ∈ g k', aheadB x y = true) : ∀ n, IncA ((List.range n).flatMap g)
  | 0 => by simp [IncA]
  | n + 1 => by
    rw [List.range_succ, List.flatMap_append]
    refine List.pairwise_append.2 ⟨incA_flat h1 h2 n, by simpa using h1 n, fun x hx y hy => ?_⟩
    obtain ⟨k, hk, hx⟩ := List.mem_flatMap.1 hx
    have hk := List.mem_range.1 hk
    exact h2 k n hk x hx y (by simpa using hy)
theorem incA_hRow (m : Mach) (seen : List Int) (f k : Nat) : IncA (hRow m seen f k) := by
  unfold hRow
  rw [IncA, List.pairwise_map]
  refine (inc_wide _ _ _).imp ?_
  intro t u h
  exact (aheadB_iff _ _).2 (.inr ⟨rfl, .inr ⟨rfl, h⟩⟩)
theorem incA_hAll (m : Mach) (seen : List Int) (n : Nat) : IncA (hAll m seen n) := by
  refine incA_flat (fun f => incA_flat (incA_hRow m seen f) (fun k k' hk x hx y hy => ?_) _) (fun f f' hf x hx y hy => ?_) n
  · obtain ⟨t, -, rfl⟩ := (mem_hRow _ _ _ _ _).1 hx
    obtain ⟨u, -, rfl⟩ := (mem_hRow _ _ _ _ _).1 hy
    exact (aheadB_iff _ _).2 (.inr ⟨rfl, .inl (by dsimp only; omega)⟩)
  · obtain ⟨k, -, hx⟩ := List.mem_flatMap.1 hx
    obtain ⟨k', -, hy⟩ := List.mem_flatMap.1 hy
    obtain ⟨t, -, rfl⟩ := (mem_hRow _ _ _ _ _).1 hx
    obtain ⟨u, -, rfl⟩ := (mem_hRow _ _ _ _ _).1 hy
    exact (aheadB_iff _ _).2 (.inl (by dsimp only; omega))
theorem row_short {n : Int} {l : List Int} (hn : n ≤ 2147483648) (h0 : 0 ≤ n) (h : rowB n l = true) : (l.length : Int) ≤ n := by
  obtain ⟨h1, h2⟩ := (rowB_iff n hn l).1 h
  have := nodup_len n.toNat l (inc_nodup h1) (fun x hx => by have := h2 x hx; omega)
  omega
theorem may_hide {m : Mach} (hm : mayB m = true) {seen : List Int} (hs : rowB m.ev seen = true) (hz : (hAll m seen m.st.toNat).length ≤ 4096) : mayB (hideM m seen) = true := by
  have hm' := mayB_size hm
  unfold sizeOk at hm'
  have hl := row_short (by omega) (by omega) hs
  rw [mayB_go (m := hideM m seen) ⟨hm'.1, hm'.2.1, by show (0 : Int) ≤ seen.length; omega, by show (seen.length : Int) ≤ 8; omega, hz⟩ ((rowB_iff _ (by show m.st ≤ _; omega) _).2 ⟨inc_wide _ _ _, wide_bd hm (may_starts hm).2⟩) (show rowB m.st m.ends = true from mayB_ends hm)]
  rw [arrsFrom_iff]
  refine ⟨fun x hx => ?_, incA_hAll _ _ _, fun _ _ => rfl⟩
  obtain ⟨f, k, hf, hk, hx⟩ := (mem_hAll _ _ _ _).1 hx
  obtain ⟨t, ht, rfl⟩ := (mem_hRow _ _ _ _ _).1 hx
  have hb := wide_bd hm (step_bd hm) t ht
  exact ⟨by dsimp only; omega, by show (f : Int) < m.st; omega, hb.1, hb.2, by dsimp only; omega, by show (k : Int) < seen.length; omega⟩

/-! What is seen of a word that is accepted is accepted. -/
/-- The seen events of a word, by their numbers. -/
def numL (seen word : List Int) : List Int := (seenL seen word).map fun e => placeI seen e
theorem hide_step {m : Mach} (hm : mayB m = true) {seen : List Int} {ss : List Int} {e : Int} (he : e ∈ seen) {a : Arr} (ha : a ∈ m.arrows) (hae : a.e = e) (hf : a.f ∈ ss) : a.t ∈ stepL (hideM m seen).arrows ss (placeI seen e) := by
  obtain ⟨j, hj⟩ := placeN_mem he
  have h1 := placeI_of hj
  have h2 := placeN_some hj
  have hb := may_arrs hm a ha
  have hk := (List.getElem?_eq_some_iff.1 h2).1
  refine (mem_stepL _ _ _ _).2 ⟨⟨a.f, (j : Int), a.t⟩, ?_, h1.symm, hf, rfl⟩
  show _ ∈ hAll m seen m.st.toNat
  refine (mem_hAll _ _ _ _).2 ⟨a.f.toNat, j, by have := hb.1; have := hb.2.1; omega, hk, (mem_hRow _ _ _ _ _).2 ⟨a.t, ?_, ?_⟩⟩
  · have hc : ((a.f.toNat : Nat) : Int) = a.f := by have := hb.1; omega
    rw [h2, Option.getD_some, hc]
    refine wide_sub (may_to hm) _ ((mem_stepL _ _ _ _).2 ⟨a, ha, hae, wide_sub (may_to hm) _ (by simp), rfl⟩)
  · have hc : ((a.f.toNat : Nat) : Int) = a.f := by have := hb.1; omega
    rw [hc]
theorem hide_closed {m : Mach} (hm : mayB m = true) {seen : List Int} {ss : List Int} {k : Int} {a : Arr} (ha : a ∈ m.arrows) (hu : hasB seen a.e = false) (h : a.f ∈ stepL (hideM m seen).arrows ss k) : a.t ∈ stepL (hideM m seen).arrows ss k := by
  obtain ⟨c, hc, h1, h2, h3⟩ := (mem_stepL _ _ _ _).1 h
  obtain ⟨f, j, hf, hj, hx⟩ := (mem_hAll _ _ _ _).1 hc
  obtain ⟨t, ht, rfl⟩ := (mem_hRow _ _ _ _ _).1 hx
  dsimp only at h1 h2 h3
  subst h3
  exact (mem_stepL _ _ _ _).2 ⟨⟨(f : Int), (j : Int), a.t⟩, (mem_hAll _ _ _ _).2 ⟨f, j, hf, hj, (mem_hRow _ _ _ _ _).2 ⟨a.t, wide_cl (may_to hm) ha hu ht, rfl⟩⟩, h1, h2, rfl⟩
theorem hide_after {m : Mach} (hm : mayB m = true) {seen : List Int} : ∀ (word : List Int) {ss ss' : List Int}, (∀ x ∈ ss, x ∈ ss') → (∀ a ∈ m.arrows, hasB seen a.e = false → a.f ∈ ss' → a.t ∈ ss') → ∀ x ∈ afterL m.arrows ss word, x ∈ afterL (hideM m seen).arrows ss' (numL seen word)
  | [], _, _, h, _, x, hx => h x hx
  | e :: r, ss, ss', h, hc, x, hx => by
    have hx : x ∈ afterL m.arrows (stepL m.arrows ss e) r := hx
    cases hs : hasB seen e with
    | false =>
      have e1 : numL seen (e :: r) = numL seen r := by simp [numL, seenL, hs]
      rw [e1]
      refine hide_after hm r (fun y hy => ?_) hc x hx
      obtain ⟨a, ha, hae, hf, rfl⟩ := (mem_stepL _ _ _ _).1 hy
      exact hc a ha (by rw [hae]; exact hs) (h _ hf)
    | true =>
      have e1 : numL seen (e :: r) = placeI seen e :: numL seen r := by simp [numL, seenL, hs]
      rw [e1]
      show x ∈ afterL _ (stepL (hideM m seen).arrows ss' (placeI seen e)) (numL seen r)
      refine hide_after hm r (fun y hy => ?_) (fun a ha hu hf => hide_closed hm ha hu hf) x hx
      obtain ⟨a, ha, hae, hf, rfl⟩ := (mem_stepL _ _ _ _).1 hy
      exact hide_step hm ((hasB_iff _ _).1 hs) ha hae (h _ hf)
theorem hide_sees {m : Mach} (hm : mayB m = true) {seen : List Int} {word : List Int} (h : acceptsB m word = true) : acceptsB (hideM m seen) (numL seen word) = true := by
  obtain ⟨x, hx, he⟩ := (accepts_iff _ _).1 h
  exact (accepts_iff _ _).2 ⟨x, hide_after hm word (wide_sub (may_to hm)) (fun a ha hu hf => wide_cl (may_to hm) ha hu hf) x hx, he⟩

end Go.Proofs.YtcjcjaeaoianfaaDoor
