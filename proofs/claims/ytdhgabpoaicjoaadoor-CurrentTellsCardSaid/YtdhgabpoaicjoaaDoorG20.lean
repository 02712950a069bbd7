/-
  The walk of jalousieref1.Only: the numbers of a list that are (or are not) in another one.
  jalousieref5.Wide, Seeing and Seen, whatever comes in that may be.
  What is said of a machine's block, and of slices that lie elsewhere.
  The walks of jalousieref9.May, From, Estimate and Tells.
  Plain: which of two lists is the lesser one, number by number. No program, no model.
-/
import Derived.Test.YtdhgabpoaicjoaaDoorG07
import Derived.Test.YtdhgabpoaicjoaaDoorG16
import Derived.Test.YtdhgabpoaicjoaaDoorG19
import Derived.Test.YtdhgabpoaicjoaaDoorG14
import Derived.Test.YtdhgabpoaicjoaaDoorG06
import Derived.Test.YtdhgabpoaicjoaaDoorG04
import Derived.Laws.ResultCell
import Derived.Test.YtdhgabpoaicjoaaDoorCRefMay
namespace Go.Proofs.YtdhgabpoaicjoaaDoor
open Go.RowKit
set_option linter.unusedVariables false

/-- Of the first k numbers those that are (b = true) or are not in ys. -/
def onlyTo (xs ys : List Int) (b : Bool) (k : Nat) : List Int := (xs.take k).filter (fun n => hasB ys n == b)

theorem onlyTo_len (xs ys : List Int) (b : Bool) (k : Nat) : (onlyTo xs ys b k).length ≤ k := Nat.le_trans (List.length_filter_le _ _) (List.length_take_le _ _)
theorem onlyTo_all {xs : List Int} (ys : List Int) (b : Bool) {k : Nat} (h : ¬ k < xs.length) : onlyTo xs ys b k = xs.filter (fun n => hasB ys n == b) := by
  rw [onlyTo, List.take_of_length_le (by omega)]
theorem onlyTo_hit {xs ys : List Int} {b : Bool} {k : Nat} {x : Int} (h : k < xs.length) (hx : Hid (x = xs[k]?.getD 0)) (hb : hasB ys x = b) : onlyTo xs ys b (k + 1) = onlyTo xs ys b k ++ [x] := by
  have hx := hx.out
  rw [List.getElem?_eq_getElem h] at hx
  simp only [Option.getD_some] at hx
  rw [onlyTo, onlyTo, List.take_add_one, List.getElem?_eq_getElem h, List.filter_append]
  simp [← hx, hb]
theorem onlyTo_miss {xs ys : List Int} {b : Bool} {k : Nat} {x : Int} (h : k < xs.length) (hx : Hid (x = xs[k]?.getD 0)) (hb : ¬ hasB ys x = b) : onlyTo xs ys b (k + 1) = onlyTo xs ys b k := by
  have hx := hx.out
  rw [List.getElem?_eq_getElem h] at hx
  simp only [Option.getD_some] at hx
  rw [onlyTo, onlyTo, List.take_add_one, List.getElem?_eq_getElem h, List.filter_append]
  simp [← hx, hb]

set_option maxHeartbeats 1600000 in
set_option maxRecDepth 100000 in
theorem only_some (bx ox cx cy : Nat) (ay : Option Addr) (xs ys : List Int) (bb : Bool) (w : World) (hl : xs.length ≤ 17592186044416) (hbx : bx < w.heap.size) (hc : Cells w bx ox xs) (ht : At w ay ys) (hm : ys.length ≤ maxLen) :
    Calls Tryd.prog 58 #[.slice (some ⟨bx, ox, none⟩) xs.length cx, .slice ay ys.length cy, .bool bb] w fun e w' => ∃ v, e = .returned v ∧ Own w' w.heap.size v (xs.filter (fun n => hasB ys n == bb)) ∧ Below w.heap.size w w' := by
  obtain ⟨i0, hi, hz0, hz1, hz2⟩ := info_parts Tryd.infoInt
  go_enter Tryd.func58, Tryd.ntmps58
  go_wp2
  go_loopw [7, 8] (fun v i wr => ∃ k : Nat, k ≤ xs.length ∧ i = .int .i64 k ∧ Own wr w.heap.size v (onlyTo xs ys bb k) ∧ Below w.heap.size w wr) (fun _ i _ => xs.length - (intOf i).toNat)
  case atStart => exact ⟨0, Nat.zero_le _, rfl, own_nil _ _, Below.refl _ _⟩
  case round =>
    obtain ⟨k, hk, rfl, hown, hbel⟩ := hrel
    by_cases hlt : k < xs.length
    · obtain ⟨x, HX, hcx0⟩ := hc.at hlt
      have hcx : wr.cell? ⟨bx, ox + k, none⟩ = some (.int .i64 x) := (hbel.cell (p := ⟨bx, ox + k, none⟩) hbx).trans hcx0
      clear hcx0
      have htr : At wr ay ys := ht.below hbel (Nat.le_refl _)
      have hsz := hbel.size
      have hll := onlyTo_len xs ys bb k
      go_wp2_with fail
      refine (refHas_any ay cy ys x _ htr hm).mono ?_
      rintro e w' ⟨rfl, rfl⟩
      by_cases hh : hasB ys x = bb
      · have HH : Hid (hasB ys x = bb) := hh
        have d : (hasB ys x == bb) = true := by simp [hh]
        clear hh
        go_wp2_with (at_builtin; refine wpList_append_own _ rfl _ _ 22 rfl w.heap.size 3 i0 (.int .i64 0) 1 8 Tryd.underlying22 hi hz0 hz1 hz2 rfl (by decide) _ _ _ rfl (World.ownsRow.alloc hown _) ⟨w'.heap.size, 0, none⟩ 1 1 [.int .i64 x] rfl rfl (cell_one_new _ _ _) (by intro u hu; simp at hu; subst hu; rfl) (by unfold maxLen; omega) (by omega) (by simp; omega) ?_)
        intro v' w1 hown' hgrow _
        obtain ⟨r1, r2, -⟩ := own_snoc hown hbel hsz hown' hgrow
        rw [← onlyTo_hit hlt HX HH.out] at r1
        clear hown' hgrow hown hcx htr
        go_wp2
        go_roundw
        case rel => exact ⟨k + 1, by omega, by go_num, r1, r2⟩
        case measure => simp [intOf]; omega
      · have d : (hasB ys x == bb) = false := by simp [hh]
        have r1 := hown
        rw [← onlyTo_miss hlt HX hh] at r1
        go_wp2
        go_roundw
        case rel => exact ⟨k + 1, by omega, by go_num, r1, hbel⟩
        case measure => simp [intOf]; omega
    · rw [onlyTo_all ys bb hlt] at hown
      go_wp2
      go_ret
      exact ⟨_, rfl, hown, hbel⟩

set_option maxHeartbeats 400000 in
theorem only_nil (a ay : Option Addr) (cx cy : Nat) (ys : List Int) (bb : Bool) (w : World) :
    Calls Tryd.prog 58 #[.slice a 0 cx, .slice ay ys.length cy, .bool bb] w fun e w' => e = .returned (.slice none 0 0) ∧ w' = w := by
  go_enter Tryd.func58, Tryd.ntmps58
  go_wp2
  refine wp_loop_rounds 1 ?_
  rw [rounds_succ]
  go_wp2
  go_ret
  exact ⟨rfl, rfl⟩

theorem only_any (a ay : Option Addr) (cx cy : Nat) (xs ys : List Int) (bb : Bool) (w : World) (hs : At w a xs) (hl : xs.length ≤ 17592186044416) (ht : At w ay ys) (hm : ys.length ≤ maxLen) :
    Calls Tryd.prog 58 #[.slice a xs.length cx, .slice ay ys.length cy, .bool bb] w fun e w' => Gives w (xs.filter (fun n => hasB ys n == bb)) e w' := by
  rcases hs with rfl | ⟨b, off, rfl, hb, hc⟩
  · refine (only_nil a ay cx cy ys bb w).mono ?_
    rintro e w' ⟨rfl, rfl⟩
    exact gives_of_own (B := w'.heap.size) (own_nil _ _) (Below.refl _ _)
  · refine (only_some b off cx cy ay xs ys bb w hl hb hc ht hm).mono ?_
    rintro e w' ⟨v, rfl, h1, h2⟩
    exact gives_of_own h1 h2

end Go.Proofs.YtdhgabpoaicjoaaDoor
namespace Go.Proofs.YtdhgabpoaicjoaaDoor
open Go.RowKit
set_option linter.unusedVariables false

set_option maxHeartbeats 2000000 in
set_option maxRecDepth 100000 in
theorem refWide_nil (st ev : Int) (starts : List Int) (ends : List Int) (l : ML) (sa na : Option Addr) (sc nc : Nat) (ss seen : List Int) (w : World) (hs : At w sa ss) (hsl : ss.length ≤ 4096) (hn : Hid (sa = none → sc = 0)) :
    Calls Tryd.prog 70 #[mval ⟨st, ev, starts, [], ends⟩ l, .slice sa ss.length sc, .slice na seen.length nc] w fun e w' => GivesO w (wideL [] seen ss) e w' := by
  obtain ⟨i0, hi, hz0, hz1, hz2⟩ := info_parts Tryd.infoInt
  have o0 : Own ((w.alloc (.cells (mcells ⟨st, ev, starts, [], ends⟩ l) 25)).alloc (.cells #[] 3)) (w.heap.size + 1) (.slice (some ⟨w.heap.size + 1, 0, none⟩) 0 0) [] := by
    have := own_empty (w.alloc (.cells (mcells ⟨st, ev, starts, [], ends⟩ l) 25))
    rwa [World.size_alloc] at this
  have b0 : Below w.heap.size w ((w.alloc (.cells (mcells ⟨st, ev, starts, [], ends⟩ l) 25)).alloc (.cells #[] 3)) := ((Below.refl _ _).alloc (Nat.le_refl _) _).alloc (by simp) _
  have bb0 : Below (w.heap.size + 1) (w.alloc (.cells (mcells ⟨st, ev, starts, [], ends⟩ l) 25)) ((w.alloc (.cells (mcells ⟨st, ev, starts, [], ends⟩ l) 25)).alloc (.cells #[] 3)) := (Below.refl _ _).alloc (by simp) _
  have s0 := hs.below b0 (Nat.le_refl _)
  go_enter Tryd.func70, Tryd.ntmps70
  go_wp2_with (at_builtin; refine wpList_append_ints _ rfl _ _ 22 rfl (w.heap.size + 1) i0 Tryd.underlying22 hi hz0 hz1 hz2 _ [] rfl o0 sa sc ss rfl s0 hn.out (by simp only [List.length_nil]; omega) (by simp) ?_)
  intro v0 w0 o1 b1 z1
  have B1 : Hid (Below (w.heap.size + 1) (w.alloc (.cells (mcells ⟨st, ev, starts, [], ends⟩ l) 25)) w0) := bb0.trans b1
  have O1 : Hid (Own w0 (w.heap.size + 1) v0 ss) := o1
  clear o0 b0 bb0 s0 o1 b1
  obtain ⟨la, lc, rfl, hat, hln⟩ := O1.out.at
  have HAT := Hid.of hat
  clear hat
  obtain ⟨-, -, -, x3, -⟩ := box_cells B1.out
  dsimp only at x3
  have hold := Hid.of (below_box B1.out)
  have hsz := B1.out.size
  rw [World.size_alloc] at hsz
  go_wp2
  go_loop [7, 8] (fun v i => v = .slice la ss.length lc ∧ ∃ k : Nat, k ≤ ss.length ∧ i = .int .i64 k) (fun _ i => ss.length - (intOf i).toNat)
  case atStart => exact ⟨rfl, 0, Nat.zero_le _, rfl⟩
  case round =>
    obtain ⟨rfl, k, hk, rfl⟩ := hrel
    by_cases hks : k < ss.length
    · go_wp2
      refine wp_loop_rounds 1 ?_
      rw [rounds_succ]
      go_wp2
      go_round
      case rel => exact ⟨rfl, k + 1, by omega, by go_num⟩
      case measure => simp [intOf]; omega
    · go_wp2_with (go_at_call 103; refine (sorted_own la lc ss _ HAT.out (by omega)).mono ?_; rintro e w1 ⟨v4, rfl, h4, b4⟩; have H4 := Hid.of h4; have B4 := Hid.of b4; clear h4 b4)
      go_ret
      rw [wide_none]
      exact ⟨v4, rfl, H4.out.low (by omega), hold.out.trans (B4.out.mono (by omega))⟩

theorem refWide_any (m : Mach) (l : ML) (sa na : Option Addr) (sc nc : Nat) (ss seen : List Int) (w : World) (ha : AtA w l.a2 m.arrows) (hlen : m.arrows.length ≤ 4096) (hin : ∀ a ∈ m.arrows, 0 ≤ a.t ∧ a.t < (256 : Nat)) (hs : At w sa ss) (hsl : ss.length ≤ 4096) (hn : sa = none → sc = 0) (hq : At w na seen) (hql : seen.length ≤ maxLen) :
    Calls Tryd.prog 70 #[mval m l, .slice sa ss.length sc, .slice na seen.length nc] w fun e w' => GivesO w (wideL m.arrows seen ss) e w' := by
  obtain ⟨st, ev, starts, ars, ends⟩ := m
  obtain ⟨a1, c1, a2, c2, a3, c3⟩ := l
  rcases ha with h0 | ⟨b, off, h0, hb, hc⟩
  · have h0 : ars = [] := h0
    subst h0
    exact refWide_nil st ev starts ends _ sa na sc nc ss seen w hs hsl (Hid.of hn)
  · have h0 : a2 = some ⟨b, off, none⟩ := h0
    subst h0
    exact refWide_some st ev starts ars ends a1 c1 b off c2 a3 c3 sa na sc nc ss seen w hlen hb hc (Hid.of hin) hs hsl (Hid.of hn) (Hid.of hq) (Hid.of hql)

/-- Where a machine may be when an event was seen. -/
def seeingL (ars : List Arr) (seen ss : List Int) (e : Int) : List Int := wideL ars seen (stepL ars ss e)

set_option maxHeartbeats 1000000 in
theorem refSeeing_any (m : Mach) (l : ML) (sa na : Option Addr) (sc nc : Nat) (ss seen : List Int) (x : Int) (w : World) (ha : AtA w l.a2 m.arrows) (hlen : m.arrows.length ≤ 4096) (hin : ∀ a ∈ m.arrows, 0 ≤ a.t ∧ a.t < (256 : Nat)) (hs : At w sa ss) (hsl : ss.length ≤ maxLen) (hq : At w na seen) (hql : seen.length ≤ maxLen) :
    Calls Tryd.prog 71 #[mval m l, .slice sa ss.length sc, .slice na seen.length nc, .int .i64 x] w fun e w' => GivesO w (seeingL m.arrows seen ss x) e w' := by
  have B0 : Hid (Below w.heap.size w (w.alloc (.cells (mcells m l) 25))) := (Below.refl _ _).alloc (Nat.le_refl _) _
  have K0 : Hid (Blk (w.alloc (.cells (mcells m l) 25)) w.heap.size 25 (mcells m l)) := Blk.new w _ _
  have x0 := K0.out.cell 0 rfl
  have x1 := K0.out.cell 1 rfl
  have x2 := K0.out.cell 2 rfl
  have x3 := K0.out.cell 3 rfl
  have x4 := K0.out.cell 4 rfl
  go_enter Tryd.func71, Tryd.ntmps71
  go_wp2_with fail
  refine (refStep_own m l sa sc ss x _ (ha.below B0.out (Nat.le_refl _)) (by omega) (hs.below B0.out (Nat.le_refl _)) hsl).mono ?_
  rintro e w1 ⟨v1, rfl, o1, b1⟩
  have K1 := Hid.of (K0.out.below b1 K0.out.lt)
  have B1 : Hid (Below w.heap.size w w1) := B0.out.trans (b1.mono (by simp))
  obtain ⟨a2, c2, rfl, t1, t2, t3, t4⟩ := o1.at2
  have y0 := K1.out.cell 0 rfl
  have y1 := K1.out.cell 1 rfl
  have y2 := K1.out.cell 2 rfl
  have y3 := K1.out.cell 3 rfl
  have y4 := K1.out.cell 4 rfl
  have hl2 := stepL_len m.arrows ss x
  go_wp2_with fail
  refine (refWide_any m l a2 na c2 nc (stepL m.arrows ss x) seen _ (ha.below B1.out (Nat.le_refl _)) hlen hin t1 (by omega) t4 (hq.below B1.out (Nat.le_refl _)) hql).mono ?_
  rintro e w2 ⟨v2, rfl, o2, b2⟩
  have hz := B1.out.size
  go_wp2
  go_ret
  exact ⟨v2, rfl, o2.low (by omega), B1.out.trans (b2.mono (by omega))⟩

set_option maxHeartbeats 400000 in
theorem refSeen_any (wa na : Option Addr) (wc nc : Nat) (word seen : List Int) (w : World) (hw : At w wa word) (hl : word.length ≤ 17592186044416) (hq : At w na seen) (hql : seen.length ≤ maxLen) :
    Calls Tryd.prog 23 #[.slice wa word.length wc, .slice na seen.length nc] w fun e w' => Gives w (seenL seen word) e w' := by
  have K : Calls Tryd.prog 58 #[.slice wa word.length wc, .slice na seen.length nc, .bool true] w fun e w' => Gives w (seenL seen word) e w' := only_any wa na wc nc word seen true w hw hl hq hql
  go_enter Tryd.func23, Tryd.ntmps23
  go_wp2_with fail
  refine K.mono ?_
  rintro e w1 ⟨a4, c4, rfl, h4, l4, b4⟩
  go_wp2
  go_ret
  exact ⟨a4, c4, rfl, h4, l4, b4⟩

end Go.Proofs.YtdhgabpoaicjoaaDoor
namespace Go.Proofs.YtdhgabpoaicjoaaDoor
open Go.RowKit
set_option linter.unusedVariables false

abbrev zcells : Array Value := #[.int .i64 0, .int .i64 0, .slice none 0 0, .slice none 0 0, .slice none 0 0]
theorem mcell_at {W : World} {b : Nat} {m : Mach} {l : ML} (h : Blk W b 25 (mcells m l)) : W.cell? ⟨b, 0, none⟩ = some (.int .i64 m.st) ∧ W.cell? ⟨b, 1, none⟩ = some (.int .i64 m.ev) ∧ W.cell? ⟨b, 2, none⟩ = some (.slice l.a1 m.starts.length l.c1) ∧ W.cell? ⟨b, 3, none⟩ = some (.slice l.a2 m.arrows.length l.c2) ∧ W.cell? ⟨b, 4, none⟩ = some (.slice l.a3 m.ends.length l.c3) :=
  ⟨h.cell 0 rfl, h.cell 1 rfl, h.cell 2 rfl, h.cell 3 rfl, h.cell 4 rfl⟩

/-- A slice that lies neither in block bn nor up to block r. -/
def AtX (w : World) (r bn : Nat) (a : Option Addr) (xs : List Int) : Prop := xs = [] ∨ ∃ b off, a = some ⟨b, off, none⟩ ∧ (b ≠ bn ∧ b ≠ r) ∧ b < w.heap.size ∧ Cells w b off xs
theorem AtX.at {w : World} {r B : Nat} {a : Option Addr} {xs : List Int} (h : AtX w r B a xs) : At w a xs := by
  rcases h with h | ⟨b, off, h1, -, h2, h3⟩
  · exact .inl h
  · exact .inr ⟨b, off, h1, h2, h3⟩
theorem AtX.below {w w' : World} {r B : Nat} {a : Option Addr} {xs : List Int} (h : AtX w r B a xs) (hb : Below w.heap.size w w') : AtX w' r B a xs := by
  rcases h with h | ⟨b, off, h1, h0, h2, h3⟩
  · exact .inl h
  · exact .inr ⟨b, off, h1, h0, Nat.lt_of_lt_of_le h2 hb.size, fun j hj => (hb.cell (p := ⟨b, off + j, none⟩) h2).trans (h3 j hj)⟩
theorem AtX.set0 {w : World} {r bn g j : Nat} {a : Option Addr} {xs : List Int} (h : AtX w r bn a xs) (v : Value) (hg : g = bn ∨ g = r) : AtX (w.setCell ⟨g, j, none⟩ v) r bn a xs := by
  rcases h with h | ⟨b, off, h1, h0, h2, h3⟩
  · exact .inl h
  · refine .inr ⟨b, off, h1, h0, by simpa [World.setCell] using h2, fun i hi => ?_⟩
    rw [← h3 i hi]
    exact World.cell?_of_block (w := w) (Below.heap_setCell w ⟨g, j, none⟩ v b (by show b ≠ g; omega))
theorem AtX.set {w : World} {r bn j : Nat} {a : Option Addr} {xs : List Int} (h : AtX w r bn a xs) (v : Value) : AtX (w.setCell ⟨bn, j, none⟩ v) r bn a xs := h.set0 v (.inl rfl)
theorem AtX.setr {w : World} {r bn j : Nat} {a : Option Addr} {xs : List Int} (h : AtX w r bn a xs) (v : Value) : AtX (w.setCell ⟨r, j, none⟩ v) r bn a xs := h.set0 v (.inr rfl)
theorem own_atX {w : World} {B : Nat} {v : Value} {xs : List Int} (h : Own w B v xs) (r bn : Nat) (hr : r < B) (hn : bn < B ∨ w.heap.size ≤ bn) : ∃ a cap, v = .slice a xs.length cap ∧ AtX w r bn a xs ∧ xs.length ≤ cap ∧ cap ≤ maxLen ∧ (a = none → cap = 0) := by
  rcases h.cells_of with ⟨rfl, rfl⟩ | ⟨g, cap, rfl, h1, h2, h3, -⟩
  · exact ⟨none, 0, rfl, .inl rfl, Nat.le_refl _, Nat.zero_le _, fun _ => rfl⟩
  · obtain ⟨a, c, e, -, k1, k2, k3⟩ := h.at2
    cases e
    exact ⟨_, _, rfl, .inr ⟨g, 0, rfl, by omega, h2, h3⟩, k1, k2, k3⟩
theorem size_set (w : World) (a : Addr) (v : Value) : (w.setCell a v).heap.size = w.heap.size := by simp [World.setCell]
/-- Arrows that do not lie in block g. -/
def AtXA (w : World) (g : Nat) (a : Option Addr) (ars : List Arr) : Prop := ars = [] ∨ ∃ b off, a = some ⟨b, off, none⟩ ∧ b ≠ g ∧ b < w.heap.size ∧ CellsA w b off ars
theorem AtXA.at {w : World} {g : Nat} {a : Option Addr} {ars : List Arr} (h : AtXA w g a ars) : AtA w a ars := by
  rcases h with h | ⟨b, off, h1, -, h2, h3⟩
  · exact .inl h
  · exact .inr ⟨b, off, h1, h2, h3⟩
theorem AtXA.set {w : World} {g j : Nat} {a : Option Addr} {ars : List Arr} (h : AtXA w g a ars) (v : Value) : AtXA (w.setCell ⟨g, j, none⟩ v) g a ars := by
  rcases h with h | ⟨b, off, h1, hne, h2, h3⟩
  · exact .inl h
  · refine .inr ⟨b, off, h1, hne, by simpa [World.setCell] using h2, fun i hi => ?_⟩
    obtain ⟨k1, k2, k3⟩ := h3 i hi
    exact ⟨(World.cell?_of_block (w := w) (Below.heap_setCell w ⟨g, j, none⟩ v b hne)).trans k1, (World.cell?_of_block (w := w) (Below.heap_setCell w ⟨g, j, none⟩ v b hne)).trans k2, (World.cell?_of_block (w := w) (Below.heap_setCell w ⟨g, j, none⟩ v b hne)).trans k3⟩
/-- Arrows do not lie in a machine's block. -/
theorem AtA.apart {w : World} {bn : Nat} {t : TypeId} {a : Option Addr} {ars : List Arr} {x y : Int} {a1 a2 a3 : Option Addr} {n1 n2 n3 c1 c2 c3 : Nat} (h : AtA w a ars) (hB : Blk w bn t #[.int .i64 x, .int .i64 y, .slice a1 n1 c1, .slice a2 n2 c2, .slice a3 n3 c3]) : AtXA w bn a ars := by
  rcases h with h | ⟨b, off, h1, h2, h3⟩
  · exact .inl h
  · by_cases he : ars = []
    · exact .inl he
    · have hlen : 0 < ars.length := List.length_pos_iff.2 he
      have hne : b ≠ bn := by
        rintro rfl
        obtain ⟨k1, k2, k3⟩ := h3 0 hlen
        have hf : ∀ i v, w.cell? ⟨b, i, none⟩ = some v → (#[Value.int .i64 x, .int .i64 y, .slice a1 n1 c1, .slice a2 n2 c2, .slice a3 n3 c3] : Array Value)[i]? = some v := fun i v hv => by
          have := hv
          simp only [World.cell?, show w.heap[b]? = _ from hB] at this
          simpa using this
        have q := hf _ _ k3
        have hi : off + 0 * 3 + 2 = 2 ∨ off + 0 * 3 + 2 = 3 ∨ off + 0 * 3 + 2 = 4 ∨ 5 ≤ off + 0 * 3 + 2 := by omega
        rcases hi with hi | hi | hi | hi
        · rw [hi] at q; simp at q
        · rw [hi] at q; simp at q
        · rw [hi] at q; simp at q
        · rw [Array.getElem?_eq_none (by simpa using hi)] at q; cases q
      exact .inr ⟨b, off, h1, hne, h2, h3⟩
theorem atA_new (W : World) (t : TypeId) (x : Arr) (b : Nat) (hb : b = W.heap.size) : AtA (W.alloc (.cells #[.int .i64 x.f, .int .i64 x.e, .int .i64 x.t] t)) (some ⟨b, 0, none⟩) [x] := by
  subst hb
  refine .inr ⟨_, 0, rfl, by simp, fun j hj => ?_⟩
  have : j = 0 := by simp at hj; omega
  subst this
  exact ⟨(Blk.new W t #[.int .i64 x.f, .int .i64 x.e, .int .i64 x.t]).cell 0 rfl, (Blk.new W t #[.int .i64 x.f, .int .i64 x.e, .int .i64 x.t]).cell 1 rfl, (Blk.new W t #[.int .i64 x.f, .int .i64 x.e, .int .i64 x.t]).cell 2 rfl⟩
theorem ownA_snoc2 {w wr w1 : World} {B : Nat} {v : Value} {L : List Arr} {o o' : Obj} (hown : OwnA wr B v L) (hb : Below B w wr) (hB : B ≤ wr.heap.size) (hgrow : ((wr.alloc o).alloc o').grownBy w1 v.ownBlock) : Below B w w1 :=
  ((hb.alloc hB o).alloc (by simp; omega) o').grown hgrow (by simp; omega) (fun j hj => (World.ownsRow.lt hown j hj).1)
theorem startsLen {m : Mach} (hm : mayB m = true) : m.starts.length ≤ 4096 := by
  have hz := mayB_size hm
  have hr := mayB_starts hm
  unfold sizeOk at hz
  unfold rowB at hr
  have := goIs_len _ _ _ (by omega) hr
  omega
theorem endsLen {m : Mach} (hm : mayB m = true) : m.ends.length ≤ 4096 := by
  have hz := mayB_size hm
  have hr := mayB_ends hm
  unfold sizeOk at hz
  unfold rowB at hr
  have := goIs_len _ _ _ (by omega) hr
  omega

end Go.Proofs.YtdhgabpoaicjoaaDoor
namespace Go.Proofs.YtdhgabpoaicjoaaDoor
open Go.RowKit
set_option linter.unusedVariables false

theorem mayP_no1 {p : Plant} (h : mayB p.m = false) : mayP p = false := by unfold mayP; rw [h]; rfl
theorem mayP_no2 {p : Plant} (h : ¬ p.m.st ≤ 6) : mayP p = false := by unfold mayP; rw [decide_eq_false h]; simp
theorem mayP_no3 {p : Plant} (h : rowB p.m.ev p.seen = false) : mayP p = false := by unfold mayP; rw [h]; simp
theorem mayP_last {p : Plant} (h1 : mayB p.m = true) (h2 : p.m.st ≤ 6) (h3 : rowB p.m.ev p.seen = true) : mayP p = rowB p.m.st p.secret := by unfold mayP; rw [h1, h3, decide_eq_true h2]; simp

set_option maxRecDepth 100000 in
set_option maxHeartbeats 4000000 in
theorem rMayP_any (p : Plant) (P : PTL) (w : World) (h : Hid (PAt w p P)) :
    Calls Tryd.prog 38 #[ptval p P] w fun e w' => e = .returned (.bool (mayP p)) ∧ Below w.heap.size w w' := by
  have b0 : Below w.heap.size w ((w.alloc (.cells (ptcells p P) 50)).alloc (.cells (mcells p.m P.l) 25)) := ((Below.refl _ _).alloc (Nat.le_refl _) _).alloc (by simp) _
  have B := Hid.of b0
  have KP : Hid (Blk ((w.alloc (.cells (ptcells p P) 50)).alloc (.cells (mcells p.m P.l) 25)) w.heap.size 50 (ptcells p P)) := (Blk.new w _ _).alloc _
  have KM : Hid (Blk ((w.alloc (.cells (ptcells p P) 50)).alloc (.cells (mcells p.m P.l) 25)) (w.heap.size + 1) 25 (mcells p.m P.l)) := by
    have := Blk.new (w.alloc (.cells (ptcells p P) 50)) 25 (mcells p.m P.l)
    rwa [World.size_alloc] at this
  clear b0
  go_enter Tryd.func38, Tryd.ntmps38
  go_wp2_with fail
  revert B KP KM
  show Hid (Below w.heap.size w ((w.alloc (.cells #[.int .i64 p.m.st, .int .i64 p.m.ev, .slice P.l.a1 p.m.starts.length P.l.c1, .slice P.l.a2 p.m.arrows.length P.l.c2, .slice P.l.a3 p.m.ends.length P.l.c3, .slice P.sa p.seen.length P.sc, .slice P.ta p.secret.length P.tc] 50)).alloc (.cells #[.int .i64 p.m.st, .int .i64 p.m.ev, .slice P.l.a1 p.m.starts.length P.l.c1, .slice P.l.a2 p.m.arrows.length P.l.c2, .slice P.l.a3 p.m.ends.length P.l.c3] 25))) → _
  generalize (w.alloc (.cells #[.int .i64 p.m.st, .int .i64 p.m.ev, .slice P.l.a1 p.m.starts.length P.l.c1, .slice P.l.a2 p.m.arrows.length P.l.c2, .slice P.l.a3 p.m.ends.length P.l.c3, .slice P.sa p.seen.length P.sc, .slice P.ta p.secret.length P.tc] 50)).alloc (.cells #[.int .i64 p.m.st, .int .i64 p.m.ev, .slice P.l.a1 p.m.starts.length P.l.c1, .slice P.l.a2 p.m.arrows.length P.l.c2, .slice P.l.a3 p.m.ends.length P.l.c3] 25) = V0
  intro B KP KM
  refine (refMay_any p.m P.l V0 (h.out.m.below B.out (Nat.le_refl _))).mono ?_
  rintro e W1 ⟨rfl, hb⟩
  replace B := Hid.of (B.out.trans (hb.mono B.out.size))
  replace KP := Hid.of (KP.out.below hb KP.out.lt)
  replace KM := Hid.of (KM.out.below hb KM.out.lt)
  clear hb
  cases h1 : mayB p.m with
  | false =>
    have HF := Hid.of (mayP_no1 h1)
    clear h1
    go_wp2_with fail
    go_ret
    exact ⟨ret_bool HF.out.symm, B.out⟩
  | true =>
    have H1 := Hid.of h1
    clear h1
    by_cases h2 : p.m.st ≤ 6
    · have d2 : decide (p.m.st ≤ 6) = true := by simpa using h2
      obtain ⟨y0, y1, y2, y3, y4⟩ := mcell_at KM.out
      obtain ⟨x0, x1, x2, x3, x4, x5, x6⟩ := ptcell_at KP.out
      go_wp2_with fail
      refine (refIs_any P.sa P.sc p.seen p.m.ev W1 (h.out.s.at_.below B.out (Nat.le_refl _)) h.out.s.len).mono ?_
      rintro e W2 ⟨rfl, q, hq⟩
      have hb : Below W1.heap.size W1 W2 := by rw [hq]; exact below_drewN (Below.refl _ _) q
      replace B := Hid.of (B.out.trans (hb.mono B.out.size))
      replace KP := Hid.of (KP.out.below hb KP.out.lt)
      replace KM := Hid.of (KM.out.below hb KM.out.lt)
      clear hb hq y0 y1 y2 y3 y4 x0 x1 x2 x3 x4 x5 x6
      cases h3 : rowB p.m.ev p.seen with
      | false =>
        have HF := Hid.of (mayP_no3 h3)
        clear h3
        go_wp2_with fail
        go_ret
        exact ⟨ret_bool HF.out.symm, B.out⟩
      | true =>
        have HF := Hid.of (mayP_last H1.out h2 h3)
        clear h3
        obtain ⟨y0, y1, y2, y3, y4⟩ := mcell_at KM.out
        obtain ⟨x0, x1, x2, x3, x4, x5, x6⟩ := ptcell_at KP.out
        go_wp2_with fail
        refine (refIs_any P.ta P.tc p.secret p.m.st W2 (h.out.t.at_.below B.out (Nat.le_refl _)) h.out.t.len).mono ?_
        rintro e W3 ⟨rfl, q, hq⟩
        have hb : Below W2.heap.size W2 W3 := by rw [hq]; exact below_drewN (Below.refl _ _) q
        replace B := Hid.of (B.out.trans (hb.mono B.out.size))
        clear hb hq y0 y1 y2 y3 y4 x0 x1 x2 x3 x4 x5 x6
        obtain ⟨bb, HB⟩ : ∃ bb, Hid (bb = rowB p.m.st p.secret) := ⟨_, rfl⟩
        rw [← HB.out] at HF ⊢
        go_wp2_with fail
        go_ret
        exact ⟨ret_bool HF.out.symm, B.out⟩
    · have d2 : decide (p.m.st ≤ 6) = false := by simpa using h2
      have HF := Hid.of (mayP_no2 h2)
      obtain ⟨y0, y1, y2, y3, y4⟩ := mcell_at KM.out
      go_wp2_with fail
      go_ret
      exact ⟨ret_bool HF.out.symm, B.out⟩

theorem leakB_nil (secret : List Int) : leakB secret [] = false := by simp [leakB]
set_option maxRecDepth 100000 in
set_option maxHeartbeats 2000000 in
theorem rTells_any (a b : Option Addr) (ca cb : Nat) (row secret : List Int) (w : World) (h : At w a row) (hl : row.length ≤ 17592186044416) (h' : At w b secret) (hl' : secret.length ≤ maxLen) :
    Calls Tryd.prog 125 #[.slice a row.length ca, .slice b secret.length cb] w fun e w' => e = .returned (.bool (leakB secret row)) ∧ Below w.heap.size w w' := by
  have KEY := Hid.of (only_any a b ca cb row secret false w h hl h' hl')
  obtain ⟨op, HO⟩ : ∃ op, Hid (op = row.filter fun n => hasB secret n == false) := ⟨_, rfl⟩
  rw [← HO.out] at KEY
  have HLK : Hid (leakB secret row = (decide (0 < row.length) && decide (op.length = 0))) := by show _ = _; unfold leakB; rw [HO.out]
  clear h h' HO
  go_enter Tryd.func125, Tryd.ntmps125
  go_wp2_with fail
  refine KEY.out.mono ?_
  rintro e W1 ⟨va, vc, rfl, -, -, hb⟩
  have B := Hid.of hb
  clear hb
  by_cases h0 : 0 < row.length
  · have d0 : decide ((0 : Int) < (row.length : Int)) = true := decide_eq_true (by omega)
    by_cases h1 : op.length = 0
    · have d1 : ((op.length : Int) == 0) = true := by rw [h1]; rfl
      have HF : Hid (leakB secret row = true) := by show _ = _; rw [HLK.out, decide_eq_true h0, decide_eq_true h1]; rfl
      go_wp2_with fail
      all_goals
        go_ret
        exact ⟨ret_bool HF.out.symm, B.out⟩
    · have d1 : ((op.length : Int) == 0) = false := by rw [beq_eq_false_iff_ne]; omega
      have HF : Hid (leakB secret row = false) := by show _ = _; rw [HLK.out, decide_eq_false h1, Bool.and_false]
      go_wp2_with fail
      all_goals
        go_ret
        exact ⟨ret_bool HF.out.symm, B.out⟩
  · have d0 : decide ((0 : Int) < (row.length : Int)) = false := decide_eq_false (by omega)
    have HF : Hid (leakB secret row = false) := by show _ = _; rw [HLK.out, decide_eq_false h0, Bool.false_and]
    go_wp2_with fail
    all_goals
      go_ret
      exact ⟨ret_bool HF.out.symm, B.out⟩

end Go.Proofs.YtdhgabpoaicjoaaDoor
namespace Go.Proofs.YtdhgabpoaicjoaaDoor
open Go.RowKit
set_option linter.unusedVariables false

theorem lessB_len_ne {xs ys : List Int} (h : ¬ xs.length = ys.length) : lessB xs ys = decide (xs.length < ys.length) := by unfold lessB; rw [if_neg h]
theorem less_cast {xs ys : List Int} (h : ¬ xs.length = ys.length) : decide ((xs.length : Int) < (ys.length : Int)) = lessB xs ys := by
  rw [lessB_len_ne h]; exact decide_eq_decide.2 (by omega)
theorem dropG {l : List Int} {k : Nat} (h : k < l.length) : l.drop k = (l[k]?.getD 0) :: l.drop (k + 1) := by
  rw [List.drop_eq_getElem_cons h, List.getElem?_eq_getElem h, Option.getD_some]
theorem lex_no {xs ys : List Int} {k : Nat} {x y : Int} (hl : Hid (xs.length = ys.length)) (h1 : k < xs.length) (h2 : k < ys.length) (hx : Hid (x = xs[k]?.getD 0)) (hy : Hid (y = ys[k]?.getD 0)) (h : ¬ x = y) (e : Hid (lexB xs ys = lexB (xs.drop k) (ys.drop k))) : decide (x < y) = lessB xs ys := by
  unfold lessB; rw [if_pos hl.out, e.out, dropG h1, dropG h2, ← hx.out, ← hy.out, lexB, if_neg h]
theorem lex_yes {xs ys : List Int} {k : Nat} {x y : Int} (h1 : k < xs.length) (h2 : k < ys.length) (hx : Hid (x = xs[k]?.getD 0)) (hy : Hid (y = ys[k]?.getD 0)) (h : x = y) (e : Hid (lexB xs ys = lexB (xs.drop k) (ys.drop k))) : Hid (lexB xs ys = lexB (xs.drop (k + 1)) (ys.drop (k + 1))) := by
  show _ = _
  rw [e.out, dropG h1, dropG h2, ← hx.out, ← hy.out, lexB, if_pos h]
theorem lex_end {xs ys : List Int} {k : Nat} (hl : Hid (xs.length = ys.length)) (h : ¬ k < xs.length) (e : Hid (lexB xs ys = lexB (xs.drop k) (ys.drop k))) : false = lessB xs ys := by
  unfold lessB; rw [if_pos hl.out, e.out, List.drop_eq_nil_of_le (by omega)]; simp [lexB]

end Go.Proofs.YtdhgabpoaicjoaaDoor
