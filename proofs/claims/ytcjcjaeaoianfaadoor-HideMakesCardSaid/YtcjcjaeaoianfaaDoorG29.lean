/-
  jalousieref5.Wide, Seeing and Seen, whatever comes in that may be.
  The walk of jalousieref5.Hide where what comes in is wrong.
  Small facts on rows that a call has made: their blocks are apart by their types; a block that is another object.
  What the walk of jalousieref5.Hide knows of the memory; how many arrows there may be.
  The walk of jalousieref5.Hide where nothing is wrong with what comes in.
-/
import Derived.Test.YtcjcjaeaoianfaaDoorG28
import Derived.Test.YtcjcjaeaoianfaaDoorG22
import Derived.Test.YtcjcjaeaoianfaaDoorG18
import Derived.Test.YtcjcjaeaoianfaaDoorCRefMay
import Derived.Test.YtcjcjaeaoianfaaDoorG03
import Derived.Test.YtcjcjaeaoianfaaDoorG14
import Derived.Test.YtcjcjaeaoianfaaDoorG05
import Derived.Test.YtcjcjaeaoianfaaDoorG12
import Derived.Test.YtcjcjaeaoianfaaDoorG15
import Derived.Test.YtcjcjaeaoianfaaDoorG16
import Derived.Deep.RegionHeld3
import Derived.Deep.RegionLaw
namespace Go.Proofs.YtcjcjaeaoianfaaDoor
open Go.RowKit
set_option linter.unusedVariables false

set_option maxHeartbeats 2000000 in
set_option maxRecDepth 100000 in
theorem refWide_nil (st ev : Int) (starts : List Int) (ends : List Int) (l : ML) (sa na : Option Addr) (sc nc : Nat) (ss seen : List Int) (w : World) (hs : At w sa ss) (hsl : ss.length ≤ 4096) (hn : Hid (sa = none → sc = 0)) :
    Calls Tryd.prog 62 #[mval ⟨st, ev, starts, [], ends⟩ l, .slice sa ss.length sc, .slice na seen.length nc] w fun e w' => GivesO w (wideL [] seen ss) e w' := by
  obtain ⟨i0, hi, hz0, hz1, hz2⟩ := info_parts Tryd.infoInt
  have o0 : Own ((w.alloc (.cells (mcells ⟨st, ev, starts, [], ends⟩ l) 25)).alloc (.cells #[] 3)) (w.heap.size + 1) (.slice (some ⟨w.heap.size + 1, 0, none⟩) 0 0) [] := by
    have := own_empty (w.alloc (.cells (mcells ⟨st, ev, starts, [], ends⟩ l) 25))
    rwa [World.size_alloc] at this
  have b0 : Below w.heap.size w ((w.alloc (.cells (mcells ⟨st, ev, starts, [], ends⟩ l) 25)).alloc (.cells #[] 3)) := ((Below.refl _ _).alloc (Nat.le_refl _) _).alloc (by simp) _
  have bb0 : Below (w.heap.size + 1) (w.alloc (.cells (mcells ⟨st, ev, starts, [], ends⟩ l) 25)) ((w.alloc (.cells (mcells ⟨st, ev, starts, [], ends⟩ l) 25)).alloc (.cells #[] 3)) := (Below.refl _ _).alloc (by simp) _
  have s0 := hs.below b0 (Nat.le_refl _)
  go_enter Tryd.func62, Tryd.ntmps62
  go_wp2_with (at_builtin; refine wpList_append_ints _ rfl _ _ 22 rfl (w.heap.size + 1) i0 Tryd.underlying22 hi hz0 hz1 hz2 _ [] rfl o0 sa sc ss rfl s0 hn.out (by simp only [List.length_nil]; omega) (by simp) ?_)
  intro v0 w0 o1 b1 z1
  have B1 : Hid (Below (w.heap.size + 1) (w.alloc (.cells (mcells ⟨st, ev, starts, [], ends⟩ l) 25)) w0) := bb0.trans b1
  have O1 : Hid (Own w0 (w.heap.size + 1) v0 ss) := o1
  clear o0 b0 bb0 s0 o1 b1
  obtain ⟨la, lc, rfl, hat, hln⟩ := O1.out.at
  have HAT := Hid.of hat
  clear hat
  obtain ⟨-, -, -, x3, -⟩ := box_cells B1.out
  dsimp only at x3
  have hold := Hid.of (below_box B1.out)
  have hsz := B1.out.size
  rw [World.size_alloc] at hsz
  go_wp2
  go_loop [7, 8] (fun v i => v = .slice la ss.length lc ∧ ∃ k : Nat, k ≤ ss.length ∧ i = .int .i64 k) (fun _ i => ss.length - (intOf i).toNat)
  case atStart => exact ⟨rfl, 0, Nat.zero_le _, rfl⟩
  case round =>
    obtain ⟨rfl, k, hk, rfl⟩ := hrel
    by_cases hks : k < ss.length
    · go_wp2
      refine wp_loop_rounds 1 ?_
      rw [rounds_succ]
      go_wp2
      go_round
      case rel => exact ⟨rfl, k + 1, by omega, by go_num⟩
      case measure => simp [intOf]; omega
    · go_wp2_with (go_at_call 76; refine (sorted_own la lc ss _ HAT.out (by omega)).mono ?_; rintro e w1 ⟨v4, rfl, h4, b4⟩; have H4 := Hid.of h4; have B4 := Hid.of b4; clear h4 b4)
      go_ret
      rw [wide_none]
      exact ⟨v4, rfl, H4.out.low (by omega), hold.out.trans (B4.out.mono (by omega))⟩

theorem refWide_any (m : Mach) (l : ML) (sa na : Option Addr) (sc nc : Nat) (ss seen : List Int) (w : World) (ha : AtA w l.a2 m.arrows) (hlen : m.arrows.length ≤ 4096) (hin : ∀ a ∈ m.arrows, 0 ≤ a.t ∧ a.t < (256 : Nat)) (hs : At w sa ss) (hsl : ss.length ≤ 4096) (hn : sa = none → sc = 0) (hq : At w na seen) (hql : seen.length ≤ maxLen) :
    Calls Tryd.prog 62 #[mval m l, .slice sa ss.length sc, .slice na seen.length nc] w fun e w' => GivesO w (wideL m.arrows seen ss) e w' := by
  obtain ⟨st, ev, starts, ars, ends⟩ := m
  obtain ⟨a1, c1, a2, c2, a3, c3⟩ := l
  rcases ha with h0 | ⟨b, off, h0, hb, hc⟩
  · have h0 : ars = [] := h0
    subst h0
    exact refWide_nil st ev starts ends _ sa na sc nc ss seen w hs hsl (Hid.of hn)
  · have h0 : a2 = some ⟨b, off, none⟩ := h0
    subst h0
    exact refWide_some st ev starts ars ends a1 c1 b off c2 a3 c3 sa na sc nc ss seen w hlen hb hc (Hid.of hin) hs hsl (Hid.of hn) (Hid.of hq) (Hid.of hql)

/-- Where a machine may be when an event was seen. -/
def seeingL (ars : List Arr) (seen ss : List Int) (e : Int) : List Int := wideL ars seen (stepL ars ss e)

set_option maxHeartbeats 1000000 in
theorem refSeeing_any (m : Mach) (l : ML) (sa na : Option Addr) (sc nc : Nat) (ss seen : List Int) (x : Int) (w : World) (ha : AtA w l.a2 m.arrows) (hlen : m.arrows.length ≤ 4096) (hin : ∀ a ∈ m.arrows, 0 ≤ a.t ∧ a.t < (256 : Nat)) (hs : At w sa ss) (hsl : ss.length ≤ maxLen) (hq : At w na seen) (hql : seen.length ≤ maxLen) :
    Calls Tryd.prog 63 #[mval m l, .slice sa ss.length sc, .slice na seen.length nc, .int .i64 x] w fun e w' => GivesO w (seeingL m.arrows seen ss x) e w' := by
  have B0 : Hid (Below w.heap.size w (w.alloc (.cells (mcells m l) 25))) := (Below.refl _ _).alloc (Nat.le_refl _) _
  have K0 : Hid (Blk (w.alloc (.cells (mcells m l) 25)) w.heap.size 25 (mcells m l)) := Blk.new w _ _
  have x0 := K0.out.cell 0 rfl
  have x1 := K0.out.cell 1 rfl
  have x2 := K0.out.cell 2 rfl
  have x3 := K0.out.cell 3 rfl
  have x4 := K0.out.cell 4 rfl
  go_enter Tryd.func63, Tryd.ntmps63
  go_wp2_with fail
  refine (refStep_own m l sa sc ss x _ (ha.below B0.out (Nat.le_refl _)) (by omega) (hs.below B0.out (Nat.le_refl _)) hsl).mono ?_
  rintro e w1 ⟨v1, rfl, o1, b1⟩
  have K1 := Hid.of (K0.out.below b1 K0.out.lt)
  have B1 : Hid (Below w.heap.size w w1) := B0.out.trans (b1.mono (by simp))
  obtain ⟨a2, c2, rfl, t1, t2, t3, t4⟩ := o1.at2
  have y0 := K1.out.cell 0 rfl
  have y1 := K1.out.cell 1 rfl
  have y2 := K1.out.cell 2 rfl
  have y3 := K1.out.cell 3 rfl
  have y4 := K1.out.cell 4 rfl
  have hl2 := stepL_len m.arrows ss x
  go_wp2_with fail
  refine (refWide_any m l a2 na c2 nc (stepL m.arrows ss x) seen _ (ha.below B1.out (Nat.le_refl _)) hlen hin t1 (by omega) t4 (hq.below B1.out (Nat.le_refl _)) hql).mono ?_
  rintro e w2 ⟨v2, rfl, o2, b2⟩
  have hz := B1.out.size
  go_wp2
  go_ret
  exact ⟨v2, rfl, o2.low (by omega), B1.out.trans (b2.mono (by omega))⟩

set_option maxHeartbeats 400000 in
theorem refSeen_any (wa na : Option Addr) (wc nc : Nat) (word seen : List Int) (w : World) (hw : At w wa word) (hl : word.length ≤ 17592186044416) (hq : At w na seen) (hql : seen.length ≤ maxLen) :
    Calls Tryd.prog 26 #[.slice wa word.length wc, .slice na seen.length nc] w fun e w' => Gives w (seenL seen word) e w' := by
  have K : Calls Tryd.prog 43 #[.slice wa word.length wc, .slice na seen.length nc, .bool true] w fun e w' => Gives w (seenL seen word) e w' := only_any wa na wc nc word seen true w hw hl hq hql
  go_enter Tryd.func26, Tryd.ntmps26
  go_wp2_with fail
  refine K.mono ?_
  rintro e w1 ⟨a4, c4, rfl, h4, l4, b4⟩
  go_wp2
  go_ret
  exact ⟨a4, c4, rfl, h4, l4, b4⟩

end Go.Proofs.YtcjcjaeaoianfaaDoor
namespace Go.Proofs.YtcjcjaeaoianfaaDoor
open Go.RowKit
set_option linter.unusedVariables false

set_option maxRecDepth 100000 in
set_option maxHeartbeats 4000000 in
theorem rhide_err (m : Mach) (l : ML) (sa : Option Addr) (sc : Nat) (seen : List Int) (w : World) (h : Hid (MAt w m l)) (hs : Hid (At w sa seen)) (hsl : Hid (seen.length ≤ maxLen)) (hbad : Hid (mayB m = false ∨ rowB m.ev seen = false)) :
    Calls Tryd.prog 29 #[mval m l, .slice sa seen.length sc] w fun e w' => HErr 2 w e w' := by
  have B0 : Hid (Below w.heap.size w ((w.alloc (.cells (mcells m l) 25)).alloc (.cells zcells 25))) := ((Below.refl _ _).alloc (Nat.le_refl _) _).alloc (by simp) _
  have K0 : Hid (Blk ((w.alloc (.cells (mcells m l) 25)).alloc (.cells zcells 25)) w.heap.size 25 (mcells m l)) := (Blk.new w _ _).alloc _
  have R0 : Hid (Blk ((w.alloc (.cells (mcells m l) 25)).alloc (.cells zcells 25)) (w.heap.size + 1) 25 zcells) := by
    have := Blk.new (w.alloc (.cells (mcells m l) 25)) 25 zcells
    rwa [World.size_alloc] at this
  go_enter Tryd.func29, Tryd.ntmps29
  go_wp2_with fail
  revert B0 K0 R0
  generalize (w.alloc (.cells (mcells m l) 25)).alloc (.cells zcells 25) = V0
  intro B0 K0 R0
  refine (refMay_any m l _ (h.out.below B0.out (Nat.le_refl _))).mono ?_
  rintro e V ⟨rfl, hb1⟩
  have B1 := Hid.of (B0.out.trans (hb1.mono B0.out.size))
  have K1 := Hid.of (K0.out.below hb1 K0.out.lt)
  have R1 := Hid.of (R0.out.below hb1 R0.out.lt)
  clear hb1 B0 K0 R0
  obtain ⟨r0, r1, r2, r3, r4⟩ := zcell_at R1.out
  have rz := R1.out.frozen
  have RR : Hid (Blk _ (w.heap.size + 1) 25 (mcells m0 ml0)) := R1.out.set5 (.int .i64 0) (.int .i64 0) (.slice none 0 0) (.slice none 0 0) (.slice none 0 0)
  cases hm : mayB m with
  | false =>
    clear hbad hm
    go_wp2
    refine bodyPost_ret (v := .tuple #[mval m0 ml0, .int .i64 2]) ?_ rfl ?_
    · exact results_twoM (p := 4) (u := 5) rfl _ _ (w.heap.size + 1) m0 ml0 _ rfl rfl RR.out
    · exact ⟨rfl, below_set5 B1.out (b' := w.heap.size + 1) (by omega) _ _ _ _ _⟩
  | true =>
    have hr : rowB m.ev seen = false := by
      rcases hbad.out with h | h
      · rw [hm] at h; cases h
      · exact h
    have x1 : V.cell? ⟨w.heap.size, 1, none⟩ = some (.int .i64 m.ev) := K1.out.cell 1 rfl
    clear hbad hm
    go_wp2_with fail
    refine (refIs_any sa sc seen m.ev _ (hs.out.below B1.out (Nat.le_refl _)) hsl.out).mono ?_
    rintro e V' ⟨rfl, q, rfl⟩
    rw [hr]
    have R2 : Hid (Blk (V.drewN q) (w.heap.size + 1) 25 zcells) := R1.out
    have B2 := Hid.of (below_drewN B1.out q)
    clear hr RR r0 r1 r2 r3 r4 rz x1 K1 R1 B1
    generalize V.drewN q = V2 at *
    obtain ⟨r0, r1, r2, r3, r4⟩ := zcell_at R2.out
    have rz := R2.out.frozen
    have RR : Hid (Blk _ (w.heap.size + 1) 25 (mcells m0 ml0)) := R2.out.set5 (.int .i64 0) (.int .i64 0) (.slice none 0 0) (.slice none 0 0) (.slice none 0 0)
    go_wp2
    refine bodyPost_ret (v := .tuple #[mval m0 ml0, .int .i64 2]) ?_ rfl ?_
    · exact results_twoM (p := 4) (u := 5) rfl _ _ (w.heap.size + 1) m0 ml0 _ rfl rfl RR.out
    · exact ⟨rfl, below_set5 B2.out (b' := w.heap.size + 1) (by omega) _ _ _ _ _⟩

end Go.Proofs.YtcjcjaeaoianfaaDoor
namespace Go.Proofs.YtcjcjaeaoianfaaDoor
open Go.RowKit
set_option linter.unusedVariables false

theorem own_type {W : World} {B s n k : Nat} {e : TypeId} {v : Value} {xs : List Value} (h : W.ownsRow B e s v n xs) (hk : v.ownBlock = some k) : ∃ cs, W.heap[k]? = some (.cells cs e (0, 0)) := by
  rcases h.2 with ⟨rfl, -⟩ | ⟨g, cap, cur, rfl, hg, hh, -⟩
  · cases hk
  · cases hk; exact ⟨cur, hh⟩
theorem own_apart {W : World} {B B' s s' n n' : Nat} {e e' : TypeId} {v v' : Value} {xs xs' : List Value} (h : W.ownsRow B e s v n xs) (h' : W.ownsRow B' e' s' v' n' xs') (hne : e ≠ e') : v.ownBlock = none ∨ v.ownBlock ≠ v'.ownBlock := by
  cases hk : v.ownBlock with
  | none => exact .inl rfl
  | some k =>
    refine .inr fun e1 => ?_
    obtain ⟨c1, h1⟩ := own_type h hk
    obtain ⟨c2, h2⟩ := own_type h' e1.symm
    rw [h1] at h2; cases h2; exact hne rfl
theorem own_form2 {W : World} {B s n : Nat} {e : TypeId} {v : Value} {xs : List Value} (h : W.ownsRow B e s v n xs) : ∃ a c, v = .slice a n c ∧ n ≤ c ∧ c ≤ maxLen ∧ (a = none → c = 0) := by
  rcases h.2 with ⟨rfl, rfl⟩ | ⟨g, cap, cur, rfl, -, -, h1, h2, -⟩
  · exact ⟨none, 0, rfl, Nat.le_refl _, Nat.zero_le _, fun _ => rfl⟩
  · exact ⟨_, cap, rfl, h1, h2, fun h => by cases h⟩
theorem own_same {W W' : World} {B s n : Nat} {e : TypeId} {v : Value} {xs : List Value} (h : W.ownsRow B e s v n xs) (hb : ∀ k, v.ownBlock = some k → W'.heap[k]? = W.heap[k]?) : W'.ownsRow B e s v n xs := by
  refine ⟨h.1, ?_⟩
  rcases h.2 with hn | ⟨g, cap, cur, rfl, hg, hgg, rest⟩
  · exact .inl hn
  · exact .inr ⟨g, cap, cur, rfl, hg, (hb g rfl).trans hgg, rest⟩
theorem cells_three (W W' : World) (hW : W'.heap = W.heap) (t : TypeId) (x y z : Value) : ∀ j u, ([x, y, z] : List Value)[j]? = some u → (W'.alloc (.cells #[x, y, z] t)).cell? ((⟨W.heap.size, 0, none⟩ : Addr).add j) = some u := by
  intro j u hu
  rw [addr0_add, Nat.zero_add, ← hW]
  exact (Blk.new W' t #[x, y, z]).cell j (by rw [← Array.getElem?_toList]; exact hu)
theorem own_arr {W : World} {B : Nat} {v : Value} {A : List Arr} {x : Arr} (h : W.ownsRow B 51 3 v (A.length + 1) (aflat A ++ [.int .i64 x.f, .int .i64 x.e, .int .i64 x.t])) : OwnA W B v (A ++ [x]) := by
  unfold OwnA
  rw [List.length_append, aflat_append]
  exact h
/-- A block is another object. -/
def setMap (w : World) (b : Nat) (o : Obj) : World := { w with heap := w.heap.setIfInBounds b o }
theorem heap_setMap_ne (W : World) (b : Nat) (o : Obj) {j : Nat} (h : j ≠ b) : (setMap W b o).heap[j]? = W.heap[j]? := by
  simp [setMap, Ne.symm h]
theorem heap_setMap (W : World) {b : Nat} (o : Obj) (h : b < W.heap.size) : (setMap W b o).heap[b]? = some o := by
  simp [setMap, h]
theorem size_setMap (W : World) (b : Nat) (o : Obj) : (setMap W b o).heap.size = W.heap.size := by simp [setMap]
theorem ownsRow_set {W : World} {B b j s n : Nat} {e : TypeId} {v : Value} {xs : List Value} (h : W.ownsRow B e s v n xs) (hb : b < B) (x : Value) : (W.setCell ⟨b, j, none⟩ x).ownsRow B e s v n xs := by
  refine ⟨h.1, ?_⟩
  rcases h.2 with hn | ⟨g, cap, cur, rfl, hg, hgg, rest⟩
  · exact .inl hn
  · exact .inr ⟨g, cap, cur, rfl, hg, (Below.heap_setCell W ⟨b, j, none⟩ x g (by show g ≠ b; omega)).trans hgg, rest⟩

end Go.Proofs.YtcjcjaeaoianfaaDoor
namespace Go.Proofs.YtcjcjaeaoianfaaDoor
open Go.RowKit
set_option linter.unusedVariables false

theorem wide_len {m : Mach} (hm : mayB m = true) {seen ss : List Int} (hs : ∀ x ∈ ss, 0 ≤ x ∧ x < m.st) : (wideL m.arrows seen ss).length ≤ 256 := by
  have h2 := mayB_size hm
  unfold sizeOk at h2
  refine nodup_len 256 _ (inc_nodup (inc_wide _ _ _)) (fun x hx => ?_)
  have := wide_bd hm hs x hx
  omega
theorem hRow_len {m : Mach} (hm : mayB m = true) (seen : List Int) (f k : Nat) : (hRow m seen f k).length ≤ 256 := by
  unfold hRow; rw [List.length_map]; exact wide_len hm (step_bd hm)
theorem hFrom_succ (m : Mach) (seen : List Int) (f k : Nat) : hFrom m seen f (k + 1) = hFrom m seen f k ++ hRow m seen f k := by
  unfold hFrom; rw [List.range_succ, List.flatMap_append]; simp
theorem hAll_succ (m : Mach) (seen : List Int) (f : Nat) : hAll m seen (f + 1) = hAll m seen f ++ hFrom m seen f seen.length := by
  unfold hAll; rw [List.range_succ, List.flatMap_append]; simp
theorem hFrom_len {m : Mach} (hm : mayB m = true) (seen : List Int) (f : Nat) : ∀ k, (hFrom m seen f k).length ≤ k * 256
  | 0 => by simp [hFrom]
  | k + 1 => by
    rw [hFrom_succ, List.length_append]
    have := hFrom_len hm seen f k
    have := hRow_len hm seen f k
    omega
theorem hAll_len {m : Mach} (hm : mayB m = true) (seen : List Int) (h8 : seen.length ≤ 8) : ∀ f, (hAll m seen f).length ≤ f * 2048
  | 0 => by simp [hAll]
  | f + 1 => by
    rw [hAll_succ, List.length_append]
    have := hAll_len hm seen h8 f
    have := hFrom_len hm seen f seen.length
    omega

/-- The cells of the machine that is being made. -/
abbrev ncells (st : Int) (K : Nat) (vs va : Value) (a3 : Option Addr) (n c3 : Nat) : Array Value := #[.int .i64 st, .int .i64 K, vs, va, .slice a3 n c3]
/-- What Hide knows of the memory. -/
structure HN (w W : World) (B bm : Nat) (m : Mach) (l : ML) (K : Nat) (vs va : Value) (S : List Int) (A : List Arr) : Prop where
  bel : Below w.heap.size w W
  kb : Blk W w.heap.size 25 (mcells m l)
  rb : Blk W (w.heap.size + 1) 25 zcells
  nb : Blk W bm 25 (ncells m.st K vs va l.a3 m.ends.length l.c3)
  st : Own W B vs S
  ar : OwnA W B va A
  lo : w.heap.size + 1 < bm
  lB : bm < B
  hB : B ≤ W.heap.size
section
variable {w W : World} {B bm : Nat} {m : Mach} {l : ML} {K : Nat} {vs va : Value} {S : List Int} {A : List Arr}
theorem Own.keep {w w' : World} {B B' : Nat} {v : Value} {L : List Int} (h : Own w B v L) (hb : Below B' w w') (hB : w.heap.size ≤ B') : Own w' B v L :=
  own_same h (fun k hk => hb.block k (Nat.lt_of_lt_of_le (World.ownsRow.lt h k hk).2 hB))
theorem HN.below {W' : World} (h : HN w W B bm m l K vs va S A) (hb : Below W.heap.size W W') : HN w W' B bm m l K vs va S A :=
  ⟨h.bel.trans (hb.mono h.bel.size), h.kb.below hb h.kb.lt, h.rb.below hb h.rb.lt, h.nb.below hb h.nb.lt, h.st.keep hb (Nat.le_refl _), h.ar.kept hb (Nat.le_refl _), h.lo, h.lB, Nat.le_trans h.hB hb.size⟩
theorem HN.push {W2 W3 : World} {va' : Value} {x : Arr} (h : HN w W B bm m l K vs va S A) (hW3 : Below W.heap.size W W3) (o1 : OwnA W2 B va' (A ++ [x])) (g : W3.grownBy W2 va.ownBlock) :
    Blk W2 bm 25 (ncells m.st K vs va l.a3 m.ends.length l.c3) ∧ HN w (W2.setCell ⟨bm, 3, none⟩ va') B bm m l K vs va' S (A ++ [x]) ∧ ∀ vl L, Own W B vl L → Own (W2.setCell ⟨bm, 3, none⟩ va') B vl L := by
  have h3 := h.below hW3
  have lo := h.lo
  have lB := h.lB
  have low : ∀ j, j < B → W2.heap[j]? = W3.heap[j]? := fun j hj => g.block j (Nat.lt_of_lt_of_le hj h3.hB) (fun e => by have := (World.ownsRow.lt h3.ar j e.symm).1; omega)
  have nb2 : Blk W2 bm 25 (ncells m.st K vs va l.a3 m.ends.length l.c3) := (low bm lB).trans h3.nb
  have ints : ∀ vl L, Own W B vl L → Own (W2.setCell ⟨bm, 3, none⟩ va') B vl L := fun vl L hl => by
    have hl3 := hl.keep hW3 (Nat.le_refl _)
    refine own_same hl3 (fun k hk => ?_)
    have hk1 := World.ownsRow.lt hl3 k hk
    rw [Below.heap_setCell _ _ _ _ (show k ≠ bm by omega), g.block k hk1.2 (fun e => ?_)]
    rcases own_apart h3.ar hl3 (by decide) with r | r
    · rw [r] at e; cases e
    · exact r (e.symm.trans hk.symm)
  refine ⟨nb2, ⟨?_, ?_, ?_, nb2.set 3 va', ints vs S h.st, ownsRow_set o1 lB va', lo, lB, ?_⟩, ints⟩
  · exact (h3.bel.grown g h3.bel.size (fun j hj => Nat.le_trans (by omega) (World.ownsRow.lt h3.ar j hj).1)).setCell (p := ⟨bm, 3, none⟩) (show w.heap.size ≤ bm by omega) _
  · exact Blk.other ((low _ (by omega)).trans h3.kb) (by omega) _
  · exact Blk.other ((low _ (by omega)).trans h3.rb) (by omega) _
  · have := g.size
    have := h3.hB
    simp [World.setCell]; omega
theorem HN.mcells (h : HN w W B bm m l K vs va S A) : W.cell? ⟨w.heap.size, 0, none⟩ = some (.int .i64 m.st) ∧ W.cell? ⟨w.heap.size, 1, none⟩ = some (.int .i64 m.ev) ∧ W.cell? ⟨w.heap.size, 2, none⟩ = some (.slice l.a1 m.starts.length l.c1) ∧ W.cell? ⟨w.heap.size, 3, none⟩ = some (.slice l.a2 m.arrows.length l.c2) ∧ W.cell? ⟨w.heap.size, 4, none⟩ = some (.slice l.a3 m.ends.length l.c3) :=
  ⟨h.kb.cell 0 rfl, h.kb.cell 1 rfl, h.kb.cell 2 rfl, h.kb.cell 3 rfl, h.kb.cell 4 rfl⟩
end

end Go.Proofs.YtcjcjaeaoianfaaDoor
namespace Go.Proofs.YtcjcjaeaoianfaaDoor
open Go.RowKit
set_option linter.unusedVariables false

theorem at_one (W : World) (x : Int) : At (W.alloc (.cells #[.int .i64 x] 3)) (some ⟨W.heap.size, 0, none⟩) [x] := by
  refine .inr ⟨W.heap.size, 0, rfl, by simp, fun j hj => ?_⟩
  have hj : j = 0 := by simp at hj; exact hj
  subst hj
  exact (Blk.new W 3 #[.int .i64 x]).cell 0 rfl

set_option maxRecDepth 100000 in
set_option maxHeartbeats 8000000 in
theorem rhide_ok (st : Nat) (ev : Int) (starts : List Int) (ars : List Arr) (ends : List Int) (a1 : Option Addr) (c1 : Nat) (a2 : Option Addr) (c2 : Nat) (a3 : Option Addr) (c3 : Nat) (sa : Option Addr) (sc : Nat) (seen : List Int) (w : World) (h : Hid (MAt w ⟨(st : Int), ev, starts, ars, ends⟩ ⟨a1, c1, a2, c2, a3, c3⟩)) (hs : Hid (At w sa seen)) (hsl : Hid (seen.length ≤ maxLen)) (hm : Hid (mayB ⟨(st : Int), ev, starts, ars, ends⟩ = true)) (hr : Hid (rowB ev seen = true)) :
    Calls Tryd.prog 29 #[mval ⟨(st : Int), ev, starts, ars, ends⟩ ⟨a1, c1, a2, c2, a3, c3⟩, .slice sa seen.length sc] w fun e w' => if (hAll ⟨(st : Int), ev, starts, ars, ends⟩ seen st).length ≤ 4096 then ∃ L, e = .returned (.tuple #[mval (hideM ⟨(st : Int), ev, starts, ars, ends⟩ seen) L, .int .i64 0]) ∧ MAt w' (hideM ⟨(st : Int), ev, starts, ars, ends⟩ seen) L ∧ Below w.heap.size w w' else HErr 1 w e w' := by
  have hsz := mayB_size hm.out
  unfold sizeOk at hsz
  dsimp only at hsz
  have hst : st ≤ 256 := by omega
  have hlen : Hid (ars.length ≤ 4096) := show _ ≤ _ by omega
  have hK8 : seen.length ≤ 8 := by have := row_short (by omega) (by omega) hr.out; omega
  have hs4 : Hid (starts.length ≤ 4096) := show _ ≤ _ by have := row_short (n := (st : Int)) (by omega) (by omega) (mayB_starts hm.out); dsimp only at this; omega
  have hto : Hid (∀ a ∈ ars, 0 ≤ a.t ∧ a.t < (256 : Nat)) := may_to hm.out
  clear hsz
  obtain ⟨M, HM⟩ : ∃ M : Mach, Hid (M = ⟨(st : Int), ev, starts, ars, ends⟩) := ⟨_, rfl⟩
  have B0 : Hid (Below w.heap.size w ((w.alloc (.cells (mcells ⟨(st : Int), ev, starts, ars, ends⟩ ⟨a1, c1, a2, c2, a3, c3⟩) 25)).alloc (.cells zcells 25))) := ((Below.refl _ _).alloc (Nat.le_refl _) _).alloc (by simp) _
  have K0 : Hid (Blk ((w.alloc (.cells (mcells ⟨(st : Int), ev, starts, ars, ends⟩ ⟨a1, c1, a2, c2, a3, c3⟩) 25)).alloc (.cells zcells 25)) w.heap.size 25 (mcells ⟨(st : Int), ev, starts, ars, ends⟩ ⟨a1, c1, a2, c2, a3, c3⟩)) := (Blk.new w _ _).alloc _
  have R0 : Hid (Blk ((w.alloc (.cells (mcells ⟨(st : Int), ev, starts, ars, ends⟩ ⟨a1, c1, a2, c2, a3, c3⟩) 25)).alloc (.cells zcells 25)) (w.heap.size + 1) 25 zcells) := by
    have := Blk.new (w.alloc (.cells (mcells ⟨(st : Int), ev, starts, ars, ends⟩ ⟨a1, c1, a2, c2, a3, c3⟩) 25)) 25 zcells
    rwa [World.size_alloc] at this
  go_enter Tryd.func29, Tryd.ntmps29
  go_wp2_with fail
  revert B0 K0 R0
  generalize (w.alloc (.cells (mcells ⟨(st : Int), ev, starts, ars, ends⟩ ⟨a1, c1, a2, c2, a3, c3⟩) 25)).alloc (.cells zcells 25) = V0
  intro B0 K0 R0
  refine (refMay_any ⟨(st : Int), ev, starts, ars, ends⟩ ⟨a1, c1, a2, c2, a3, c3⟩ _ (h.out.below B0.out (Nat.le_refl _))).mono ?_
  rintro e V ⟨rfl, hb1⟩
  have B1 := Hid.of (B0.out.trans (hb1.mono B0.out.size))
  have K1 := Hid.of (K0.out.below hb1 K0.out.lt)
  have R1 := Hid.of (R0.out.below hb1 R0.out.lt)
  clear hb1 B0 K0 R0
  rw [hm.out]
  obtain ⟨x0, x1, x2, x3, x4⟩ := mcell_at K1.out
  go_wp2_with fail
  refine (refIs_any sa sc seen ev _ (hs.out.below B1.out (Nat.le_refl _)) hsl.out).mono ?_
  rintro e V' ⟨rfl, q, rfl⟩
  rw [hr.out]
  have hb1 : Below V.heap.size V (V.drewN q) := below_drewN (Below.refl _ _) q
  clear x0 x1 x2 x3 x4
  revert hb1
  generalize V.drewN q = U
  intro hb1
  have B2 := Hid.of (B1.out.trans (hb1.mono B1.out.size))
  have K2 := Hid.of (K1.out.below hb1 K1.out.lt)
  have R2 := Hid.of (R1.out.below hb1 R1.out.lt)
  clear hb1 B1 K1 R1
  obtain ⟨x0, x1, x2, x3, x4⟩ := mcell_at K2.out
  -- the machine that is made
  have bX : Below U.heap.size U (U.alloc (.cells (ncells (st : Int) seen.length (.slice none 0 0) (.slice none 0 0) a3 ends.length c3) 25)) := (Below.refl _ _).alloc (Nat.le_refl _) _
  have hlo : Hid (w.heap.size + 1 < U.heap.size) := R2.out.lt
  have HX0 : Hid (HN w (U.alloc (.cells (ncells (st : Int) seen.length (.slice none 0 0) (.slice none 0 0) a3 ends.length c3) 25)) (U.heap.size + 1) U.heap.size ⟨(st : Int), ev, starts, ars, ends⟩ ⟨a1, c1, a2, c2, a3, c3⟩ seen.length (.slice none 0 0) (.slice none 0 0) [] []) :=
    ⟨B2.out.trans (bX.mono B2.out.size), K2.out.below bX K2.out.lt, R2.out.below bX R2.out.lt, Blk.new U 25 _, own_nil _ _, ownA_nil _ _, hlo.out, Nat.lt_succ_self _, by rw [World.size_alloc]; exact Nat.le_refl _⟩
  have HXS : Hid ((U.alloc (.cells (ncells (st : Int) seen.length (.slice none 0 0) (.slice none 0 0) a3 ends.length c3) 25)).heap.size = U.heap.size + 1) := World.size_alloc _ _
  clear bX B2 K2 R2
  obtain ⟨y0, y1, y2, y3, y4⟩ := HX0.out.mcells
  dsimp only at y0 y1 y2 y3 y4
  go_wp2_with fail
  clear y0 y1 y2 y3 y4
  revert HX0 HXS
  generalize U.alloc (.cells (ncells (st : Int) seen.length (.slice none 0 0) (.slice none 0 0) a3 ends.length c3) 25) = X
  intro HX0 HXS
  clear x0 x1 x2 x3 x4
  obtain ⟨x0, x1, x2, x3, x4⟩ := HX0.out.mcells
  dsimp only at x0 x1 x2 x3 x4
  refine (refWide_any ⟨(st : Int), ev, starts, ars, ends⟩ ⟨a1, c1, a2, c2, a3, c3⟩ a1 sa c1 sc starts seen X (h.out.a.below HX0.out.bel (Nat.le_refl _)) hlen.out hto.out (h.out.s.below HX0.out.bel (Nat.le_refl _)) hs4.out h.out.s3 (hs.out.below HX0.out.bel (Nat.le_refl _)) hsl.out).mono ?_
  rintro e w1 ⟨v1, rfl, o1, b1⟩
  obtain ⟨s1a, s1c, rfl, -, -, -, -⟩ := o1.at2
  have HX1 := HX0.out.below b1
  have z2 := HX1.nb.cell 2 rfl
  have zf := HX1.nb.frozen
  have HX2 : Hid (HN w (w1.setCell ⟨U.heap.size, 2, none⟩ (.slice s1a (wideL ars seen starts).length s1c)) (U.heap.size + 1) U.heap.size ⟨(st : Int), ev, starts, ars, ends⟩ ⟨a1, c1, a2, c2, a3, c3⟩ seen.length (.slice s1a (wideL ars seen starts).length s1c) (.slice none 0 0) (wideL ars seen starts) []) :=
    ⟨HX1.bel.setCell (p := ⟨U.heap.size, 2, none⟩) (Nat.le_of_lt (Nat.lt_of_succ_lt hlo.out)) _, Blk.other HX1.kb (by have := hlo.out; omega) _, Blk.other HX1.rb (by have := hlo.out; omega) _, HX1.nb.set 2 _, ownsRow_set (o1.low (by have := HXS.out; omega)) (Nat.lt_succ_self _) _, ownA_nil _ _, HX1.lo, HX1.lB, by simp [World.setCell]; exact HX1.hB⟩
  clear x0 x1 x2 x3 x4 b1 o1 HX0 HX1
  go_wp2_with fail
  clear z2 zf
  revert HX2
  generalize w1.setCell ⟨U.heap.size, 2, none⟩ (.slice s1a (wideL ars seen starts).length s1c) = Y
  generalize Value.slice s1a (wideL ars seen starts).length s1c = v1
  intro HX2
  have hal : Hid (∀ f, f ≤ st → (hAll ⟨(st : Int), ev, starts, ars, ends⟩ seen f).length ≤ 524288) := fun f hf => Nat.le_trans (hAll_len hm.out seen hK8 f) (by omega)
  obtain ⟨j0, ji, jz0, jz1, jz2⟩ := info_parts Tryd.infoArrow
  clear HXS
  go_loopw [7] (fun i wr => ∃ (f : Nat) (va : Value), f ≤ st ∧ i = .int .i64 f ∧ Hid (HN w wr (U.heap.size + 1) U.heap.size ⟨(st : Int), ev, starts, ars, ends⟩ ⟨a1, c1, a2, c2, a3, c3⟩ seen.length v1 va (wideL ars seen starts) (hAll ⟨(st : Int), ev, starts, ars, ends⟩ seen f))) (fun i _ => st - (intOf i).toNat)
  case atStart => exact ⟨0, _, Nat.zero_le _, rfl, HX2⟩
  case round =>
    clear HX2
    obtain ⟨f, va, hf, rfl, HF⟩ := hrel
    obtain ⟨x0, x1, x2, x3, x4⟩ := HF.out.mcells
    dsimp only at x0 x1 x2 x3 x4
    by_cases hlt : f < st
    · have HFa := Hid.of (HF.out.below ((Below.refl _ _).alloc (Nat.le_refl _) (.cells #[.int .i64 (f : Int)] 3)))
      obtain ⟨y0, y1, y2, y3, y4⟩ := HFa.out.mcells
      dsimp only at y0 y1 y2 y3 y4
      have hat1 := Hid.of (at_one wr (f : Int))
      go_wp2_with fail
      refine (refWide_any ⟨(st : Int), ev, starts, ars, ends⟩ ⟨a1, c1, a2, c2, a3, c3⟩ (some ⟨wr.heap.size, 0, none⟩) sa 1 sc [(f : Int)] seen _ (h.out.a.below HFa.out.bel (Nat.le_refl _)) hlen.out hto.out hat1.out (by simp) (fun e => by cases e) (hs.out.below HFa.out.bel (Nat.le_refl _)) hsl.out).mono ?_
      rintro e w2 ⟨v8, rfl, o8, b8⟩
      have HF2 := Hid.of (HFa.out.below b8)
      have O8 : Hid (Own w2 (U.heap.size + 1) v8 (wideL ars seen [(f : Int)])) := o8.low HFa.out.hB
      clear x0 x1 x2 x3 x4 y0 y1 y2 y3 y4 HF HFa hat1 b8 o8
      have hl8 : Hid ((wideL ars seen [(f : Int)]).length ≤ 256) := wide_len (m := ⟨(st : Int), ev, starts, ars, ends⟩) hm.out (fun x hx => by rw [List.mem_singleton.1 hx]; show (0 : Int) ≤ (f : Int) ∧ (f : Int) < (st : Int); omega)
      obtain ⟨Wf, HWf⟩ : ∃ Wf, Hid (Wf = wideL ars seen [(f : Int)]) := ⟨_, rfl⟩
      rw [← HWf.out] at O8 hl8
      obtain ⟨s8, c8, rfl, -, -, -, -⟩ := O8.out.at2
      go_wp2_with fail
      go_loopw [9] (fun i wr => ∃ (k : Nat) (va : Value), k ≤ seen.length ∧ i = .int .i64 k ∧ Hid (HN w wr (U.heap.size + 1) U.heap.size ⟨(st : Int), ev, starts, ars, ends⟩ ⟨a1, c1, a2, c2, a3, c3⟩ seen.length v1 va (wideL ars seen starts) (hAll ⟨(st : Int), ev, starts, ars, ends⟩ seen f ++ hFrom ⟨(st : Int), ev, starts, ars, ends⟩ seen f k)) ∧ Hid (Own wr (U.heap.size + 1) (.slice s8 Wf.length c8) Wf)) (fun i _ => seen.length - (intOf i).toNat)
      case atStart => exact ⟨0, va, Nat.zero_le _, rfl, (by show HN w _ (U.heap.size + 1) U.heap.size ⟨(st : Int), ev, starts, ars, ends⟩ ⟨a1, c1, a2, c2, a3, c3⟩ seen.length v1 _ (wideL ars seen starts) (hAll ⟨(st : Int), ev, starts, ars, ends⟩ seen f ++ hFrom ⟨(st : Int), ev, starts, ars, ends⟩ seen f 0); rw [show hFrom ⟨(st : Int), ev, starts, ars, ends⟩ seen f 0 = [] from rfl, List.append_nil]; exact HF2.out), O8⟩
      case round =>
        clear HF2 O8
        obtain ⟨k, va, hk, rfl, HF, O8⟩ := hrel
        by_cases hkt : k < seen.length
        · obtain ⟨b, off, rfl, hb, hc⟩ : ∃ b off, sa = some ⟨b, off, none⟩ ∧ b < w.heap.size ∧ Cells w b off seen := by
            rcases hs.out with h0 | h0
            · rw [h0] at hkt; simp at hkt
            · exact h0
          obtain ⟨x, HXk, cx0⟩ := hc.at hkt
          have cx := (HF.out.bel.cell (p := ⟨b, off + k, none⟩) hb).trans cx0
          have HBW : Hid (b < wr.heap.size) := Nat.lt_of_lt_of_le hb HF.out.bel.size
          clear cx0 hc hb
          obtain ⟨x0, x1, x2, x3, x4⟩ := HF.out.mcells
          dsimp only at x0 x1 x2 x3 x4
          have KEY : Hid (Calls Tryd.prog 63 #[mval ⟨(st : Int), ev, starts, ars, ends⟩ ⟨a1, c1, a2, c2, a3, c3⟩, .slice s8 Wf.length c8, .slice (some ⟨b, off, none⟩) seen.length sc, .int .i64 x] wr.drew fun r w' => GivesO wr.drew (seeingL ars seen Wf x) r w') := by
            obtain ⟨s8', c8', e8, t1, t2, t3, t4⟩ := O8.out.at2
            cases e8
            exact refSeeing_any ⟨(st : Int), ev, starts, ars, ends⟩ ⟨a1, c1, a2, c2, a3, c3⟩ s8 (some ⟨b, off, none⟩) c8 sc Wf seen x wr.drew (h.out.a.below HF.out.bel.drew (Nat.le_refl _)) hlen.out hto.out t1 (Nat.le_trans t2 t3) (hs.out.below HF.out.bel.drew (Nat.le_refl _)) hsl.out
          go_wp2_with fail
          go_region_held3 (fun w' => w'.cell? ⟨w.heap.size, 0, none⟩ = some (.int .i64 st) ∧ w'.cell? ⟨w.heap.size, 1, none⟩ = some (.int .i64 ev) ∧ w'.cell? ⟨w.heap.size, 2, none⟩ = some (.slice a1 starts.length c1) ∧ w'.cell? ⟨w.heap.size, 3, none⟩ = some (.slice a2 ars.length c2) ∧ w'.cell? ⟨w.heap.size, 4, none⟩ = some (.slice a3 ends.length c3) ∧ w'.cell? ⟨b, off + k, none⟩ = some (.int .i64 x)) (go_keep) (first | (go_at_call 63; refine KEY.out.mono ?_; rintro r wL ⟨v10, rfl, o10, b10⟩; have GL : Hid (Below wr.heap.size wr wL) := ((Below.refl _ wr).drew).trans b10; obtain ⟨xx0, xx1, xx2, xx3, xx4⟩ := (HF.out.below GL.out).mcells; dsimp only at xx0 xx1 xx2 xx3 xx4; have cc1 := (GL.out.cell (p := ⟨b, off + k, none⟩) HBW.out).trans cx; have O10 := Hid.of o10; clear b10 o10))
          clear KEY xx0 xx1 xx2 xx3 xx4 cc1 x0 x1 x2 x3 x4 cx
          have HFL := Hid.of (HF.out.below GL.out)
          have O8L : Hid (Own wL (U.heap.size + 1) (.slice s8 Wf.length c8) Wf) := O8.out.keep GL.out (Nat.le_refl _)
          have O10L : Hid (Own wL (U.heap.size + 1) v10 (seeingL ars seen Wf x)) := O10.out.low (show U.heap.size + 1 ≤ wr.heap.size from HF.out.hB)
          clear HF O8 O10 GL
          have hll : Hid ((seeingL ars seen Wf x).length ≤ 256) := wide_len (m := ⟨(st : Int), ev, starts, ars, ends⟩) hm.out (step_bd hm.out)
          have HROW : Hid (hRow ⟨(st : Int), ev, starts, ars, ends⟩ seen f k = (seeingL ars seen Wf x).map fun t => ⟨(f : Int), (k : Int), t⟩) := by
            show _ = _
            unfold hRow seeingL
            rw [HWf.out]
            have e1 : seen[k]?.getD 0 = x := HXk.out.symm
            rw [e1]
          obtain ⟨L, HL⟩ : ∃ L, Hid (L = seeingL ars seen Wf x) := ⟨_, rfl⟩
          rw [← HL.out] at O10L hll HROW
          obtain ⟨s10, c10, rfl, -, -, -, -⟩ := O10L.out.at2
          have hAl : Hid ((hAll ⟨(st : Int), ev, starts, ars, ends⟩ seen f ++ hFrom ⟨(st : Int), ev, starts, ars, ends⟩ seen f k).length ≤ 526336) := by
            show _ ≤ _
            rw [List.length_append]
            have q1 := hal.out f hf
            have q2 := hFrom_len hm.out seen f k
            omega
          have HNX : Hid (hAll ⟨(st : Int), ev, starts, ars, ends⟩ seen f ++ hFrom ⟨(st : Int), ev, starts, ars, ends⟩ seen f (k + 1) = (hAll ⟨(st : Int), ev, starts, ars, ends⟩ seen f ++ hFrom ⟨(st : Int), ev, starts, ars, ends⟩ seen f k) ++ L.map fun t => ⟨(f : Int), (k : Int), t⟩) := by
            show _ = _
            rw [hFrom_succ, HROW.out, List.append_assoc]
          obtain ⟨A, HA⟩ : ∃ A, Hid (A = hAll ⟨(st : Int), ev, starts, ars, ends⟩ seen f ++ hFrom ⟨(st : Int), ev, starts, ars, ends⟩ seen f k) := ⟨_, rfl⟩
          rw [← HA.out] at HFL hAl HNX
          go_wp2_with fail
          go_loopw [11] (fun i wr => ∃ (q : Nat) (va : Value), q ≤ L.length ∧ i = .int .i64 q ∧ Hid (HN w wr (U.heap.size + 1) U.heap.size ⟨(st : Int), ev, starts, ars, ends⟩ ⟨a1, c1, a2, c2, a3, c3⟩ seen.length v1 va (wideL ars seen starts) (A ++ (L.take q).map fun t => ⟨(f : Int), (k : Int), t⟩)) ∧ Hid (Own wr (U.heap.size + 1) (.slice s8 Wf.length c8) Wf) ∧ Hid (Own wr (U.heap.size + 1) (.slice s10 L.length c10) L)) (fun i _ => L.length - (intOf i).toNat)
          case atStart => exact ⟨0, va, Nat.zero_le _, rfl, (by show HN w _ (U.heap.size + 1) U.heap.size ⟨(st : Int), ev, starts, ars, ends⟩ ⟨a1, c1, a2, c2, a3, c3⟩ seen.length v1 _ (wideL ars seen starts) (A ++ (L.take 0).map fun t => ⟨(f : Int), (k : Int), t⟩); rw [List.take_zero, List.map_nil, List.append_nil]; exact HFL.out), O8L, O10L⟩
          case round =>
            clear HFL O8L O10L
            obtain ⟨q, va, hq, rfl, HF, O8, O10⟩ := hrel
            have hll2 := hll.out
            have hAl2 := hAl.out
            by_cases hqt : q < L.length
            · obtain ⟨g, cap, ev10, hg1, hg2, hcl, -⟩ := (O10.out.cells_of).resolve_left (fun h0 => by rw [h0.2] at hqt; simp at hqt)
              cases ev10
              obtain ⟨t, Ht, ct⟩ := hcl.at hqt
              rw [Nat.zero_add] at ct
              clear hcl
              have HN1 : Hid (A ++ (L.take (q + 1)).map (fun t => (⟨(f : Int), (k : Int), t⟩ : Arr)) = (A ++ (L.take q).map fun t => ⟨(f : Int), (k : Int), t⟩) ++ [⟨(f : Int), (k : Int), t⟩]) := by
                show _ = _
                have e := Ht.out
                rw [List.getElem?_eq_getElem hqt, Option.getD_some] at e
                rw [List.take_add_one, List.getElem?_eq_getElem hqt, List.map_append, e, List.append_assoc]; rfl
              have hA1l : (A ++ (L.take q).map fun t => (⟨(f : Int), (k : Int), t⟩ : Arr)).length ≤ 526592 := by
                rw [List.length_append, List.length_map, List.length_take]; omega
              generalize (A ++ (L.take q).map fun t => (⟨(f : Int), (k : Int), t⟩ : Arr)) = A1 at *
              obtain ⟨fa, fc, hfa, hf1, hf2, hf3⟩ := own_form2 HF.out.ar
              subst hfa
              have c3' : wr.cell? ⟨U.heap.size, 3, none⟩ = some (.slice fa A1.length fc) := HF.out.nb.cell 3 rfl
              have d3 : ∀ o, (wr.alloc o).cell? ⟨U.heap.size, 3, none⟩ = some (.slice fa A1.length fc) := fun o => (HF.out.nb.alloc o).cell 3 rfl
              have hbB := HF.out.hB
              go_wp2_with fail
              go_region_law (first | (refine step_append_block rfl (.tmp 68) (.tmp 76) 23 rfl (U.heap.size + 1) 51 j0 (aval arr0) 3 24 Tryd.underlying23 ji jz0 jz1 jz2 rfl (by decide) _ A1.length (aflat A1) rfl (World.ownsRow.alloc HF.out.ar _) ⟨wr.heap.size, 0, none⟩ 1 1 [.int .i64 f, .int .i64 k, .int .i64 t] rfl rfl (cells_three wr _ rfl _ _ _ _) (by intro u hu; simp at hu; rcases hu with rfl | rfl | rfl <;> rfl) (by decide) (by unfold maxLen; omega) (by omega) (Nat.le_trans hbB (by simp)) ?_; intro v9 w9 o9 g9 n9; obtain ⟨ga, gc, hv9, -, -, -⟩ := own_form2 o9; subst hv9; obtain ⟨e1, e2, e3⟩ := HF.out.push (((Below.refl _ wr).alloc (Nat.le_refl _) _).drew) (own_arr (x := ⟨(f : Int), (k : Int), t⟩) o9) g9; have z2 := e1.cell 3 rfl; have zf := e1.frozen; have E2 := Hid.of e2; have E8 := Hid.of (e3 _ _ O8.out); have E10 := Hid.of (e3 _ _ O10.out); clear e2 e3 o9 g9 n9))
              all_goals
                clear e1 z2 zf c3' d3 ct HF O8 O10
                revert E2 E8 E10
                generalize w9.setCell ⟨U.heap.size, 3, none⟩ (.slice ga (A1.length + 1) gc) = Y1
                generalize Value.slice ga (A1.length + 1) gc = va9
                intro E2 E8 E10
                go_wp2_with fail
                go_roundw
                case rel => exact ⟨q + 1, va9, by omega, by go_num, (by show HN _ _ _ _ _ _ _ _ _ _ _; rw [HN1.out]; exact E2.out), E8, E10⟩
                case measure => simp [intOf]; omega
            · rw [List.take_of_length_le (show L.length ≤ q by omega)] at HF
              have HF' : Hid (HN w wr (U.heap.size + 1) U.heap.size ⟨(st : Int), ev, starts, ars, ends⟩ ⟨a1, c1, a2, c2, a3, c3⟩ seen.length v1 va (wideL ars seen starts) (hAll ⟨(st : Int), ev, starts, ars, ends⟩ seen f ++ hFrom ⟨(st : Int), ev, starts, ars, ends⟩ seen f (k + 1))) := by show HN _ _ _ _ _ _ _ _ _ _ _; rw [HNX.out]; exact HF.out
              clear HF O10
              go_wp2_with fail
              go_roundw
              case rel => exact ⟨k + 1, va, by omega, by go_num, HF', O8⟩
              case measure => simp [intOf]; omega
        · have hke : k = seen.length := by omega
          have HF' : Hid (HN w wr (U.heap.size + 1) U.heap.size ⟨(st : Int), ev, starts, ars, ends⟩ ⟨a1, c1, a2, c2, a3, c3⟩ seen.length v1 va (wideL ars seen starts) (hAll ⟨(st : Int), ev, starts, ars, ends⟩ seen (f + 1))) := by
            have q := HF.out
            rw [hke] at q
            show HN _ _ _ _ _ _ _ _ _ _ _
            rw [hAll_succ]; exact q
          clear HF O8 hke
          go_wp2_with fail
          go_roundw
          case rel => exact ⟨f + 1, va, by omega, by go_num, HF'⟩
          case measure => simp [intOf]; omega
    · have hfe : f = st := by omega
      rw [hfe] at HF
      have HFE := Hid.of hfe
      have hdd : ¬ (f : Int) < (st : Int) := by omega
      clear hfe
      have hln : (hAll ⟨(st : Int), ev, starts, ars, ends⟩ seen st).length ≤ 524288 := hal.out st (Nat.le_refl _)
      obtain ⟨fa, fc, hfa, hf1, hf2, hf3⟩ := own_form2 HF.out.ar
      subst hfa
      obtain ⟨sx, sy, hv1, -, s2, s3, s4⟩ := HF.out.st.at2
      subst hv1
      clear x0 x1 x2 x3 x4
      have n0 : wr.cell? ⟨U.heap.size, 0, none⟩ = some (.int .i64 st) := HF.out.nb.cell 0 rfl
      have n1 : wr.cell? ⟨U.heap.size, 1, none⟩ = some (.int .i64 seen.length) := HF.out.nb.cell 1 rfl
      have n2 : wr.cell? ⟨U.heap.size, 2, none⟩ = some (.slice sx (wideL ars seen starts).length sy) := HF.out.nb.cell 2 rfl
      have n3 : wr.cell? ⟨U.heap.size, 3, none⟩ = some (.slice fa (hAll ⟨(st : Int), ev, starts, ars, ends⟩ seen st).length fc) := HF.out.nb.cell 3 rfl
      have n4 : wr.cell? ⟨U.heap.size, 4, none⟩ = some (.slice a3 ends.length c3) := HF.out.nb.cell 4 rfl
      have x0 : wr.cell? ⟨w.heap.size, 0, none⟩ = some (.int .i64 st) := HF.out.kb.cell 0 rfl
      obtain ⟨r0, r1, r2, r3, r4⟩ := zcell_at HF.out.rb
      have rz := HF.out.rb.frozen
      by_cases hfit : (hAll ⟨(st : Int), ev, starts, ars, ends⟩ seen st).length ≤ 4096
      · have d2 : decide ((4096 : Int) < ((hAll ⟨(st : Int), ev, starts, ars, ends⟩ seen st).length : Int)) = false := by simp; omega
        have HFIT := Hid.of hfit
        clear hfit
        have RR : Hid (Blk _ (w.heap.size + 1) 25 (mcells (hideM ⟨(st : Int), ev, starts, ars, ends⟩ seen) ⟨sx, sy, fa, fc, a3, c3⟩)) := HF.out.rb.set5 (.int .i64 st) (.int .i64 seen.length) (.slice sx (wideL ars seen starts).length sy) (.slice fa (hAll ⟨(st : Int), ev, starts, ars, ends⟩ seen st).length fc) (.slice a3 ends.length c3)
        have BF := Hid.of (below_set5 HF.out.bel (b' := w.heap.size + 1) (by omega) (.int .i64 st) (.int .i64 seen.length) (.slice sx (wideL ars seen starts).length sy) (.slice fa (hAll ⟨(st : Int), ev, starts, ars, ends⟩ seen st).length fc) (.slice a3 ends.length c3))
        have HMT := h
        have hlo2 : w.heap.size + 1 < U.heap.size + 1 := by have := hlo.out; omega
        have OS := Hid.of (ownsRow_set (j := 4) (ownsRow_set (j := 3) (ownsRow_set (j := 2) (ownsRow_set (j := 1) (ownsRow_set (j := 0) HF.out.st hlo2 (.int .i64 st)) hlo2 (.int .i64 seen.length)) hlo2 (.slice sx (wideL ars seen starts).length sy)) hlo2 (.slice fa (hAll ⟨(st : Int), ev, starts, ars, ends⟩ seen st).length fc)) hlo2 (.slice a3 ends.length c3))
        have OA := Hid.of (ownsRow_set (j := 4) (ownsRow_set (j := 3) (ownsRow_set (j := 2) (ownsRow_set (j := 1) (ownsRow_set (j := 0) HF.out.ar hlo2 (.int .i64 st)) hlo2 (.int .i64 seen.length)) hlo2 (.slice sx (wideL ars seen starts).length sy)) hlo2 (.slice fa (hAll ⟨(st : Int), ev, starts, ars, ends⟩ seen st).length fc)) hlo2 (.slice a3 ends.length c3))
        go_wp2
        refine bodyPost_ret (v := .tuple #[mval (hideM ⟨(st : Int), ev, starts, ars, ends⟩ seen) ⟨sx, sy, fa, fc, a3, c3⟩, .int .i64 0]) ?_ rfl ?_
        · exact results_twoM (p := 4) (u := 5) rfl _ _ (w.heap.size + 1) (hideM ⟨(st : Int), ev, starts, ars, ends⟩ seen) ⟨sx, sy, fa, fc, a3, c3⟩ _ rfl rfl RR.out
        · try rw [if_pos HFIT.out]
          refine ⟨_, rfl, ?_, BF.out⟩
          obtain ⟨qa, qc, qe, qt, -, -, -⟩ := Own.at2 OS.out
          cases qe
          obtain ⟨ra, rc, re, rt, u1, u2, u3⟩ := OwnA.at OA.out
          cases re
          exact ⟨qt, rt, HMT.out.e.below BF.out (Nat.le_refl _), s2, s3, s4, u1, u2, u3, HMT.out.e1, HMT.out.e2, HMT.out.e3⟩
      · have d2 : decide ((4096 : Int) < ((hAll ⟨(st : Int), ev, starts, ars, ends⟩ seen st).length : Int)) = true := by simp; omega
        have HFIT := Hid.of hfit
        clear hfit
        have RR : Hid (Blk _ (w.heap.size + 1) 25 (mcells m0 ml0)) := HF.out.rb.set5 (.int .i64 0) (.int .i64 0) (.slice none 0 0) (.slice none 0 0) (.slice none 0 0)
        go_wp2
        refine bodyPost_ret (v := .tuple #[mval m0 ml0, .int .i64 1]) ?_ rfl ?_
        · exact results_twoM (p := 4) (u := 5) rfl _ _ (w.heap.size + 1) m0 ml0 _ rfl rfl RR.out
        · try rw [if_neg HFIT.out]
          exact ⟨rfl, below_set5 HF.out.bel (b' := w.heap.size + 1) (by omega) _ _ _ _ _⟩

theorem rHide_any (m : Mach) (l : ML) (sa : Option Addr) (sc : Nat) (seen : List Int) (w : World) (h : MAt w m l) (hs : At w sa seen) (hsl : seen.length ≤ maxLen) :
    Calls Tryd.prog 29 #[mval m l, .slice sa seen.length sc] w fun e w' => HidePost w m seen e w' := by
  by_cases hb : mayB m = false ∨ rowB m.ev seen = false
  · refine (rhide_err m l sa sc seen w (Hid.of h) (Hid.of hs) (Hid.of hsl) (Hid.of hb)).mono fun e w' he => ?_
    unfold HidePost; rw [if_pos hb]; exact he
  · have hm : mayB m = true := by cases e : mayB m with
      | true => rfl
      | false => exact absurd (Or.inl e) hb
    have hr : rowB m.ev seen = true := by cases e : rowB m.ev seen with
      | true => rfl
      | false => exact absurd (Or.inr e) hb
    have hz := mayB_size hm
    obtain ⟨st, ev, starts, ars, ends⟩ := m
    obtain ⟨a1, c1, a2, c2, a3, c3⟩ := l
    obtain ⟨z1, -⟩ := hz
    simp only at z1
    obtain ⟨s, rfl⟩ : ∃ s : Nat, st = (s : Int) := ⟨st.toNat, by omega⟩
    refine (rhide_ok s ev starts ars ends a1 c1 a2 c2 a3 c3 sa sc seen w (Hid.of h) (Hid.of hs) (Hid.of hsl) (Hid.of hm) (Hid.of hr)).mono fun e w' he => ?_
    unfold HidePost; rw [if_neg hb]; exact he

end Go.Proofs.YtcjcjaeaoianfaaDoor
