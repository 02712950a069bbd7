/-
  The walk of row.Is: it answers 'rowB n xs'.
  The walk of machine.May: it answers 'mayB'.
  What is said of a machine's block, and of slices that lie elsewhere.
-/
import Derived.Test.YtcjcjaeaoianfaaDoorG03
import Derived.Deep.QuietTactic
import Derived.BigQuiet
import Derived.Test.YtcjcjaeaoianfaaDoorCArrMay
import Derived.Test.YtcjcjaeaoianfaaDoorG07
import Derived.Test.YtcjcjaeaoianfaaDoorG06
import Derived.Test.YtcjcjaeaoianfaaDoorG05
import Derived.Laws.ResultCell
namespace Go.Proofs.YtcjcjaeaoianfaaDoor
open Go.RowKit

theorem rowB_start1 {n : Int} (h : n ≤ 2147483648) (xs : List Int) : rowB n xs = goIs (-1) n xs := by unfold rowB; rw [show min n 2147483648 = n by omega]
theorem rowB_start2 {n : Int} (h : 2147483648 < n) (xs : List Int) : rowB n xs = goIs (-1) 2147483648 xs := by unfold rowB; rw [show min n 2147483648 = 2147483648 by omega]

set_option maxHeartbeats 400000 in
theorem rowIs_some (b off cap : Nat) (xs : List Int) (n : Int) (w : World) (hl : xs.length ≤ 9223372036854775807) (hc : Cells w b off xs) :
    Calls Tryd.prog 20 #[.slice (some ⟨b, off, none⟩) xs.length cap, .int .i64 n] w fun e w' => e = .returned (.bool (rowB n xs)) ∧ w' = w := by
  by_cases hn : n ≤ 2147483648
  · have HS : Hid (rowB n xs = goIs (-1) n (xs.drop 0)) := rowB_start1 hn xs
    go_enter Tryd.func20, Tryd.ntmps20
    go_wp2
    go_loop [5, 12] (fun l i => ∃ (k : Nat) (last : Int), k ≤ xs.length ∧ i = .int .i64 k ∧ l = .int .i64 last ∧ Hid (rowB n xs = goIs last n (xs.drop k))) (fun _ i => xs.length - (intOf i).toNat)
    case atStart => exact ⟨0, -1, Nat.zero_le _, rfl, rfl, HS⟩
    case round =>
      obtain ⟨k, last, hk, rfl, rfl, he⟩ := hrel
      by_cases hlt : k < xs.length
      · obtain ⟨x, HX, hcell⟩ := hc.at hlt
        by_cases h1 : x ≤ last
        · go_wp2
          go_ret
          exact ⟨ret_bool (is_no hlt he HX (.inl h1)), rfl⟩
        · by_cases h2 : n ≤ x
          · go_wp2
            go_ret
            exact ⟨ret_bool (is_no hlt he HX (.inr h2)), rfl⟩
          · go_wp2
            go_round
            case rel => exact ⟨k + 1, x, by omega, by go_num, rfl, is_yes hlt he HX (by omega)⟩
            case measure => simp [intOf]; omega
      · go_wp2
        go_ret
        exact ⟨ret_bool (is_end hlt he), rfl⟩
  · have HS : Hid (rowB n xs = goIs (-1) 2147483648 (xs.drop 0)) := rowB_start2 (by omega) xs
    go_enter Tryd.func20, Tryd.ntmps20
    go_wp2
    go_loop [5, 12] (fun l i => ∃ (k : Nat) (last : Int), k ≤ xs.length ∧ i = .int .i64 k ∧ l = .int .i64 last ∧ Hid (rowB n xs = goIs last 2147483648 (xs.drop k))) (fun _ i => xs.length - (intOf i).toNat)
    case atStart => exact ⟨0, -1, Nat.zero_le _, rfl, rfl, HS⟩
    case round =>
      obtain ⟨k, last, hk, rfl, rfl, he⟩ := hrel
      by_cases hlt : k < xs.length
      · obtain ⟨x, HX, hcell⟩ := hc.at hlt
        by_cases h1 : x ≤ last
        · go_wp2
          go_ret
          exact ⟨ret_bool (is_no hlt he HX (.inl h1)), rfl⟩
        · by_cases h2 : 2147483648 ≤ x
          · go_wp2
            go_ret
            exact ⟨ret_bool (is_no hlt he HX (.inr h2)), rfl⟩
          · go_wp2
            go_round
            case rel => exact ⟨k + 1, x, by omega, by go_num, rfl, is_yes hlt he HX (by omega)⟩
            case measure => simp [intOf]; omega
      · go_wp2
        go_ret
        exact ⟨ret_bool (is_end hlt he), rfl⟩

set_option maxHeartbeats 400000 in
theorem rowIs_nil (a : Option Addr) (cap : Nat) (n : Int) (w : World) :
    Calls Tryd.prog 20 #[.slice a 0 cap, .int .i64 n] w fun e w' => e = .returned (.bool true) ∧ w' = w := by
  go_enter Tryd.func20, Tryd.ntmps20
  go_wp2
  all_goals
    refine wp_loop_rounds 1 ?_
    rw [rounds_succ]
    go_wp2
    go_ret
    exact ⟨rfl, rfl⟩

theorem rowIs_any (a : Option Addr) (cap : Nat) (xs : List Int) (n : Int) (w : World) (hs : At w a xs) (hl : xs.length ≤ maxLen) :
    Calls Tryd.prog 20 #[.slice a xs.length cap, .int .i64 n] w fun e w' => e = .returned (.bool (rowB n xs)) ∧ w' = w := by
  rcases hs with rfl | ⟨b, off, rfl, -, hc⟩
  · exact rowIs_nil a cap n w
  · exact rowIs_some b off cap xs n w hl hc

end Go.Proofs.YtcjcjaeaoianfaaDoor
namespace Go.Proofs.YtcjcjaeaoianfaaDoor
open Go.RowKit
set_option linter.unusedVariables false

theorem may_split (m : Mach) : mayB m = (decide (1 ≤ m.st) && (decide (m.st ≤ 256) && (decide (0 ≤ m.ev) && (decide (m.ev ≤ 8) && (rowB m.st m.starts && (rowB m.st m.ends && arrsB m)))))) := by
  unfold mayB arrsB sizeOk
  by_cases h1 : 1 ≤ m.st <;> by_cases h2 : m.st ≤ 256 <;> by_cases h3 : 0 ≤ m.ev <;> by_cases h4 : m.ev ≤ 8 <;> by_cases h5 : m.arrows.length ≤ 4096 <;> simp [h1, h2, h3, h4, h5]

theorem may_no1 {m : Mach} (h : decide (1 ≤ m.st) = false) : false = mayB m := by rw [may_split, h]; rfl
theorem may_no2 {m : Mach} (h : decide (m.st ≤ 256) = false) : false = mayB m := by rw [may_split, h]; simp
theorem may_no3 {m : Mach} (h : decide (0 ≤ m.ev) = false) : false = mayB m := by rw [may_split, h]; simp
theorem may_no4 {m : Mach} (h : decide (m.ev ≤ 8) = false) : false = mayB m := by rw [may_split, h]; simp
theorem may_no5 {m : Mach} (h : rowB m.st m.starts = false) : false = mayB m := by rw [may_split, h]; simp
theorem may_no6 {m : Mach} (h : rowB m.st m.ends = false) : false = mayB m := by rw [may_split, h]; simp
theorem may_yes {m : Mach} (h1 : decide (1 ≤ m.st) = true) (h2 : decide (m.st ≤ 256) = true) (h3 : decide (0 ≤ m.ev) = true) (h4 : decide (m.ev ≤ 8) = true) (h5 : rowB m.st m.starts = true) (h6 : rowB m.st m.ends = true) : arrsB m = mayB m := by
  rw [may_split, h1, h2, h3, h4, h5, h6]; simp

set_option maxRecDepth 100000 in
set_option maxHeartbeats 4000000 in
theorem pMay_any (m : Mach) (l : ML) (w : World) (h : MAt w m l) :
    Calls Tryd.prog 11 #[mval m l] w fun e w' => e = .returned (.bool (mayB m)) ∧ Below w.heap.size w w' := by
  have b0 : Below w.heap.size w (w.alloc (.cells (mcells m l) 25)) := (Below.refl _ _).alloc (Nat.le_refl _) _
  have h' := Hid.of (h.below b0 (Nat.le_refl _))
  have l1 : Hid (m.starts.length ≤ maxLen) := Nat.le_trans h.s1 h.s2
  have l3 : Hid (m.ends.length ≤ maxLen) := Nat.le_trans h.e1 h.e2
  have B0 := Hid.of b0
  clear b0
  by_cases e1 : 1 ≤ m.st
  · have d1 : decide (1 ≤ m.st) = true := by simpa using e1
    by_cases e2 : m.st ≤ 256
    · have d2 : decide (m.st ≤ 256) = true := by simpa using e2
      by_cases e3 : 0 ≤ m.ev
      · have d3 : decide (0 ≤ m.ev) = true := by simpa using e3
        by_cases e4 : m.ev ≤ 8
        · have d4 : decide (m.ev ≤ 8) = true := by simpa using e4
          cases e5 : rowB m.st m.starts with
          | true =>
            cases e6 : rowB m.st m.ends with
            | true =>
              go_enter Tryd.func11, Tryd.ntmps11
              go_wp2_with fail
              refine (rowIs_any l.a1 l.c1 m.starts m.st _ h'.out.s l1.out).mono ?_
              rintro e w1 ⟨rfl, rfl⟩
              rw [e5]
              go_wp2_with fail
              refine (rowIs_any l.a3 l.c3 m.ends m.st _ h'.out.e l3.out).mono ?_
              rintro e w1 ⟨rfl, rfl⟩
              rw [e6]
              go_wp2_with fail
              refine (arrowsMay_any m l _ h'.out).mono ?_
              rintro e w1 ⟨rfl, hb1⟩
              go_wp2
              go_ret
              exact ⟨ret_bool (may_yes d1 d2 d3 d4 e5 e6), B0.out.trans (hb1.mono B0.out.size)⟩
            | false =>
              go_enter Tryd.func11, Tryd.ntmps11
              go_wp2_with fail
              refine (rowIs_any l.a1 l.c1 m.starts m.st _ h'.out.s l1.out).mono ?_
              rintro e w1 ⟨rfl, rfl⟩
              rw [e5]
              go_wp2_with fail
              refine (rowIs_any l.a3 l.c3 m.ends m.st _ h'.out.e l3.out).mono ?_
              rintro e w1 ⟨rfl, rfl⟩
              rw [e6]
              go_wp2
              go_ret
              exact ⟨ret_bool (may_no6 e6), B0.out⟩
          | false =>
            go_enter Tryd.func11, Tryd.ntmps11
            go_wp2_with (go_at_call 20; refine (rowIs_any l.a1 l.c1 m.starts m.st _ h'.out.s l1.out).mono ?_; rintro e w1 ⟨rfl, rfl⟩)
            go_ret
            exact ⟨ret_bool (may_no5 e5), B0.out⟩
        · have d4 : decide (m.ev ≤ 8) = false := by simpa using e4
          go_enter Tryd.func11, Tryd.ntmps11
          go_wp2
          go_ret
          exact ⟨ret_bool (may_no4 d4), B0.out⟩
      · have d3 : decide (0 ≤ m.ev) = false := by simpa using e3
        go_enter Tryd.func11, Tryd.ntmps11
        go_wp2
        go_ret
        exact ⟨ret_bool (may_no3 d3), B0.out⟩
    · have d2 : decide (m.st ≤ 256) = false := by simpa using e2
      go_enter Tryd.func11, Tryd.ntmps11
      go_wp2
      go_ret
      exact ⟨ret_bool (may_no2 d2), B0.out⟩
  · have d1 : decide (1 ≤ m.st) = false := by simpa using e1
    go_enter Tryd.func11, Tryd.ntmps11
    go_wp2
    go_ret
    exact ⟨ret_bool (may_no1 d1), B0.out⟩

end Go.Proofs.YtcjcjaeaoianfaaDoor
namespace Go.Proofs.YtcjcjaeaoianfaaDoor
open Go.RowKit
set_option linter.unusedVariables false

abbrev zcells : Array Value := #[.int .i64 0, .int .i64 0, .slice none 0 0, .slice none 0 0, .slice none 0 0]
theorem mcell_at {W : World} {b : Nat} {m : Mach} {l : ML} (h : Blk W b 25 (mcells m l)) : W.cell? ⟨b, 0, none⟩ = some (.int .i64 m.st) ∧ W.cell? ⟨b, 1, none⟩ = some (.int .i64 m.ev) ∧ W.cell? ⟨b, 2, none⟩ = some (.slice l.a1 m.starts.length l.c1) ∧ W.cell? ⟨b, 3, none⟩ = some (.slice l.a2 m.arrows.length l.c2) ∧ W.cell? ⟨b, 4, none⟩ = some (.slice l.a3 m.ends.length l.c3) :=
  ⟨h.cell 0 rfl, h.cell 1 rfl, h.cell 2 rfl, h.cell 3 rfl, h.cell 4 rfl⟩

/-- A slice that lies neither in block bn nor up to block r. -/
def AtX (w : World) (r bn : Nat) (a : Option Addr) (xs : List Int) : Prop := xs = [] ∨ ∃ b off, a = some ⟨b, off, none⟩ ∧ (b ≠ bn ∧ b ≠ r) ∧ b < w.heap.size ∧ Cells w b off xs
theorem AtX.at {w : World} {r B : Nat} {a : Option Addr} {xs : List Int} (h : AtX w r B a xs) : At w a xs := by
  rcases h with h | ⟨b, off, h1, -, h2, h3⟩
  · exact .inl h
  · exact .inr ⟨b, off, h1, h2, h3⟩
theorem AtX.below {w w' : World} {r B : Nat} {a : Option Addr} {xs : List Int} (h : AtX w r B a xs) (hb : Below w.heap.size w w') : AtX w' r B a xs := by
  rcases h with h | ⟨b, off, h1, h0, h2, h3⟩
  · exact .inl h
  · exact .inr ⟨b, off, h1, h0, Nat.lt_of_lt_of_le h2 hb.size, fun j hj => (hb.cell (p := ⟨b, off + j, none⟩) h2).trans (h3 j hj)⟩
theorem AtX.set0 {w : World} {r bn g j : Nat} {a : Option Addr} {xs : List Int} (h : AtX w r bn a xs) (v : Value) (hg : g = bn ∨ g = r) : AtX (w.setCell ⟨g, j, none⟩ v) r bn a xs := by
  rcases h with h | ⟨b, off, h1, h0, h2, h3⟩
  · exact .inl h
  · refine .inr ⟨b, off, h1, h0, by simpa [World.setCell] using h2, fun i hi => ?_⟩
    rw [← h3 i hi]
    exact World.cell?_of_block (w := w) (Below.heap_setCell w ⟨g, j, none⟩ v b (by show b ≠ g; omega))
theorem AtX.set {w : World} {r bn j : Nat} {a : Option Addr} {xs : List Int} (h : AtX w r bn a xs) (v : Value) : AtX (w.setCell ⟨bn, j, none⟩ v) r bn a xs := h.set0 v (.inl rfl)
theorem AtX.setr {w : World} {r bn j : Nat} {a : Option Addr} {xs : List Int} (h : AtX w r bn a xs) (v : Value) : AtX (w.setCell ⟨r, j, none⟩ v) r bn a xs := h.set0 v (.inr rfl)
theorem own_atX {w : World} {B : Nat} {v : Value} {xs : List Int} (h : Own w B v xs) (r bn : Nat) (hr : r < B) (hn : bn < B ∨ w.heap.size ≤ bn) : ∃ a cap, v = .slice a xs.length cap ∧ AtX w r bn a xs ∧ xs.length ≤ cap ∧ cap ≤ maxLen ∧ (a = none → cap = 0) := by
  rcases h.cells_of with ⟨rfl, rfl⟩ | ⟨g, cap, rfl, h1, h2, h3, -⟩
  · exact ⟨none, 0, rfl, .inl rfl, Nat.le_refl _, Nat.zero_le _, fun _ => rfl⟩
  · obtain ⟨a, c, e, -, k1, k2, k3⟩ := h.at2
    cases e
    exact ⟨_, _, rfl, .inr ⟨g, 0, rfl, by omega, h2, h3⟩, k1, k2, k3⟩
theorem size_set (w : World) (a : Addr) (v : Value) : (w.setCell a v).heap.size = w.heap.size := by simp [World.setCell]
/-- Arrows that do not lie in block g. -/
def AtXA (w : World) (g : Nat) (a : Option Addr) (ars : List Arr) : Prop := ars = [] ∨ ∃ b off, a = some ⟨b, off, none⟩ ∧ b ≠ g ∧ b < w.heap.size ∧ CellsA w b off ars
theorem AtXA.at {w : World} {g : Nat} {a : Option Addr} {ars : List Arr} (h : AtXA w g a ars) : AtA w a ars := by
  rcases h with h | ⟨b, off, h1, -, h2, h3⟩
  · exact .inl h
  · exact .inr ⟨b, off, h1, h2, h3⟩
theorem AtXA.set {w : World} {g j : Nat} {a : Option Addr} {ars : List Arr} (h : AtXA w g a ars) (v : Value) : AtXA (w.setCell ⟨g, j, none⟩ v) g a ars := by
  rcases h with h | ⟨b, off, h1, hne, h2, h3⟩
  · exact .inl h
  · refine .inr ⟨b, off, h1, hne, by simpa [World.setCell] using h2, fun i hi => ?_⟩
    obtain ⟨k1, k2, k3⟩ := h3 i hi
    exact ⟨(World.cell?_of_block (w := w) (Below.heap_setCell w ⟨g, j, none⟩ v b hne)).trans k1, (World.cell?_of_block (w := w) (Below.heap_setCell w ⟨g, j, none⟩ v b hne)).trans k2, (World.cell?_of_block (w := w) (Below.heap_setCell w ⟨g, j, none⟩ v b hne)).trans k3⟩
/-- Arrows do not lie in a machine's block. -/
theorem AtA.apart {w : World} {bn : Nat} {t : TypeId} {a : Option Addr} {ars : List Arr} {x y : Int} {a1 a2 a3 : Option Addr} {n1 n2 n3 c1 c2 c3 : Nat} (h : AtA w a ars) (hB : Blk w bn t #[.int .i64 x, .int .i64 y, .slice a1 n1 c1, .slice a2 n2 c2, .slice a3 n3 c3]) : AtXA w bn a ars := by
  rcases h with h | ⟨b, off, h1, h2, h3⟩
  · exact .inl h
  · by_cases he : ars = []
    · exact .inl he
    · have hlen : 0 < ars.length := List.length_pos_iff.2 he
      have hne : b ≠ bn := by
        rintro rfl
        obtain ⟨k1, k2, k3⟩ := h3 0 hlen
        have hf : ∀ i v, w.cell? ⟨b, i, none⟩ = some v → (#[Value.int .i64 x, .int .i64 y, .slice a1 n1 c1, .slice a2 n2 c2, .slice a3 n3 c3] : Array Value)[i]? = some v := fun i v hv => by
          have := hv
          simp only [World.cell?, show w.heap[b]? = _ from hB] at this
          simpa using this
        have q := hf _ _ k3
        have hi : off + 0 * 3 + 2 = 2 ∨ off + 0 * 3 + 2 = 3 ∨ off + 0 * 3 + 2 = 4 ∨ 5 ≤ off + 0 * 3 + 2 := by omega
        rcases hi with hi | hi | hi | hi
        · rw [hi] at q; simp at q
        · rw [hi] at q; simp at q
        · rw [hi] at q; simp at q
        · rw [Array.getElem?_eq_none (by simpa using hi)] at q; cases q
      exact .inr ⟨b, off, h1, hne, h2, h3⟩
theorem atA_new (W : World) (t : TypeId) (x : Arr) (b : Nat) (hb : b = W.heap.size) : AtA (W.alloc (.cells #[.int .i64 x.f, .int .i64 x.e, .int .i64 x.t] t)) (some ⟨b, 0, none⟩) [x] := by
  subst hb
  refine .inr ⟨_, 0, rfl, by simp, fun j hj => ?_⟩
  have : j = 0 := by simp at hj; omega
  subst this
  exact ⟨(Blk.new W t #[.int .i64 x.f, .int .i64 x.e, .int .i64 x.t]).cell 0 rfl, (Blk.new W t #[.int .i64 x.f, .int .i64 x.e, .int .i64 x.t]).cell 1 rfl, (Blk.new W t #[.int .i64 x.f, .int .i64 x.e, .int .i64 x.t]).cell 2 rfl⟩
theorem ownA_snoc2 {w wr w1 : World} {B : Nat} {v : Value} {L : List Arr} {o o' : Obj} (hown : OwnA wr B v L) (hb : Below B w wr) (hB : B ≤ wr.heap.size) (hgrow : ((wr.alloc o).alloc o').grownBy w1 v.ownBlock) : Below B w w1 :=
  ((hb.alloc hB o).alloc (by simp; omega) o').grown hgrow (by simp; omega) (fun j hj => (World.ownsRow.lt hown j hj).1)
theorem startsLen {m : Mach} (hm : mayB m = true) : m.starts.length ≤ 4096 := by
  have hz := mayB_size hm
  have hr := mayB_starts hm
  unfold sizeOk at hz
  unfold rowB at hr
  have := goIs_len _ _ _ (by omega) hr
  omega
theorem endsLen {m : Mach} (hm : mayB m = true) : m.ends.length ≤ 4096 := by
  have hz := mayB_size hm
  have hr := mayB_ends hm
  unfold sizeOk at hz
  unfold rowB at hr
  have := goIs_len _ _ _ (by omega) hr
  omega

end Go.Proofs.YtcjcjaeaoianfaaDoor
