/-
  The walk of jalousieref2.Step.
  What is said of rows of rows on the way through both walks of package beside.
  'All blocks of a world but one are as they were'.
  What is said on the way through jalousieref4.Beside: what lies where.
  What is said on the way through jalousieref4.Beside, where pairs are gone through.
-/
import Derived.Test.YtcjcjaeaoianfaaDoorG03
import Derived.Test.YtcjcjaeaoianfaaDoorG08
import Derived.Deep.RegionWith
import Derived.BigQuiet
import Derived.Test.YtcjcjaeaoianfaaDoorG05
import Derived.Test.YtcjcjaeaoianfaaDoorG06
import Derived.Test.YtcjcjaeaoianfaaDoorG04
import Derived.Deep.RegionHeld3
import Derived.Deep.RegionLaw
namespace Go.Proofs.YtcjcjaeaoianfaaDoor
open Go.RowKit
set_option linter.unusedVariables false

set_option maxHeartbeats 2000000 in
set_option maxRecDepth 100000 in
theorem refStep_some (st ev : Int) (starts : List Int) (ars : List Arr) (ends : List Int) (a1 : Option Addr) (c1 b off c2 : Nat) (a3 : Option Addr) (c3 : Nat) (sa : Option Addr) (sc : Nat) (ss : List Int) (x : Int) (w : World) (hlen : ars.length ≤ 17592186044416) (hb : b < w.heap.size) (hca : CellsA w b off ars) (hs : At w sa ss) (hl : ss.length ≤ maxLen) :
    Calls Tryd.prog 42 #[mval ⟨st, ev, starts, ars, ends⟩ ⟨a1, c1, some ⟨b, off, none⟩, c2, a3, c3⟩, .slice sa ss.length sc, .int .i64 x] w fun e w' => GivesO w (stepL ars ss x) e w' := by
  obtain ⟨i0, hi, hz0, hz1, hz2⟩ := info_parts Tryd.infoInt
  go_enter Tryd.func42, Tryd.ntmps42
  go_wp2
  go_loopw [7, 8] (fun v i wr => ∃ k : Nat, k ≤ ars.length ∧ i = .int .i64 k ∧ Own wr (w.heap.size + 1) v (stepTo (ars.take k) ss x) ∧ Below (w.heap.size + 1) (w.alloc (.cells (mcells ⟨st, ev, starts, ars, ends⟩ ⟨a1, c1, some ⟨b, off, none⟩, c2, a3, c3⟩) 25)) wr) (fun _ i _ => ars.length - (intOf i).toNat)
  case atStart => exact ⟨0, Nat.zero_le _, rfl, own_nil _ _, Below.refl _ _⟩
  case round =>
    obtain ⟨k, hk, rfl, hown, hbel⟩ := hrel
    have hold := below_box hbel
    have hsz := hbel.size
    rw [World.size_alloc] at hsz
    have hbx : w.heap.size < wr.heap.size := by omega
    have hbr : b < wr.heap.size := by omega
    have hbox := (box_cells hbel).2.2.2.1
    dsimp only at hbox
    by_cases hlt : k < ars.length
    · obtain ⟨a, HA, y0, y1, y2⟩ := hca.at hlt
      have y0' := (hold.cell (p := ⟨b, off + k * 3, none⟩) hb).trans y0
      have y1' := (hold.cell (p := ⟨b, off + k * 3 + 1, none⟩) hb).trans y1
      have y2' := (hold.cell (p := ⟨b, off + k * 3 + 2, none⟩) hb).trans y2
      clear y0 y1 y2
      have hsr := hs.below hold (Nat.le_refl _)
      have hll := stepTo_len (ars.take k) ss x
      rw [List.length_take] at hll
      have HN := stepTo_take (ss := ss) (e := x) hlt HA
      by_cases c1' : a.e = x
      · have g1 : (a.e == x) = true := by simp [c1']
        have HC : Hid (a.e = x) := c1'
        clear c1'
        go_wp2_with fail
        refine (refHas_any sa sc ss a.f _ hsr hl).mono ?_
        rintro e w1 ⟨rfl, rfl⟩
        by_cases c2' : hasB ss a.f = true
        · rw [if_pos (by rw [g1, c2']; rfl)] at HN
          have HN' : Hid (stepTo (ars.take (k + 1)) ss x = stepTo (ars.take k) ss x ++ [a.t]) := HN
          clear HN
          go_wp2_with (at_builtin; refine wpList_append_own _ rfl _ _ 22 rfl (w.heap.size + 1) 3 i0 (.int .i64 0) 1 8 Tryd.underlying22 hi hz0 hz1 hz2 rfl (by decide) _ _ _ rfl (World.ownsRow.alloc hown _) ⟨w1.heap.size, 0, none⟩ 1 1 [.int .i64 a.t] rfl rfl (cell_one_new _ _ _) (by intro u hu; simp at hu; subst hu; rfl) (by unfold maxLen; omega) (by omega) (by simp; omega) ?_)
          intro v' w2 hown' hgrow _
          obtain ⟨r1, r2, -⟩ := own_snoc hown hbel (by omega) hown' hgrow
          rw [← HN'.out] at r1
          clear hown' hgrow hown
          go_wp2
          go_roundw
          case rel => exact ⟨k + 1, by omega, by go_num, r1, r2⟩
          case measure => simp [intOf]; omega
        · have c3' : hasB ss a.f = false := by simpa using c2'
          rw [if_neg (by rw [c3']; simp)] at HN
          have r1 := hown
          rw [← HN] at r1
          clear HN c2'
          go_wp2
          go_roundw
          case rel => exact ⟨k + 1, by omega, by go_num, r1, hbel⟩
          case measure => simp [intOf]; omega
      · have g1 : (a.e == x) = false := by simp [c1']
        rw [if_neg (by rw [g1]; simp)] at HN
        have r1 := hown
        rw [← HN] at r1
        clear HN
        go_wp2
        go_roundw
        case rel => exact ⟨k + 1, by omega, by go_num, r1, hbel⟩
        case measure => simp [intOf]; omega
    · have htk : Hid (ars.take k = ars) := List.take_of_length_le (by omega)
      rw [htk.out] at hown
      have hl2 := stepTo_len ars ss x
      obtain ⟨a', c', rfl, h3, l3⟩ := hown.at
      go_wp2_with fail
      refine (sorted_own a' c' (stepTo ars ss x) _ h3 (by omega)).mono ?_
      rintro e w1 ⟨v4, rfl, o4, b4⟩
      have bb : Below w.heap.size w w1 := hold.trans (b4.mono (by omega))
      go_wp2
      go_ret
      exact ⟨v4, rfl, o4.low (by omega), bb⟩

set_option maxHeartbeats 400000 in
theorem refStep_nil (st ev : Int) (starts : List Int) (ends : List Int) (l : ML) (sa : Option Addr) (sc : Nat) (ss : List Int) (x : Int) (w : World) :
    Calls Tryd.prog 42 #[mval ⟨st, ev, starts, [], ends⟩ l, .slice sa ss.length sc, .int .i64 x] w fun e w' => GivesO w [] e w' := by
  go_enter Tryd.func42, Tryd.ntmps42
  go_wp2_with fail
  refine wp_loop_rounds 1 ?_
  rw [rounds_succ]
  go_wp2_with fail
  refine (sorted_nil none 0 _).mono ?_
  rintro e w1 ⟨rfl, rfl⟩
  go_wp2
  go_ret
  exact ⟨_, rfl, own_nil _ _, (Below.refl _ _).alloc (Nat.le_refl _) _⟩

theorem refStep_own (m : Mach) (l : ML) (sa : Option Addr) (sc : Nat) (ss : List Int) (x : Int) (w : World) (ha : AtA w l.a2 m.arrows) (hlen : m.arrows.length ≤ 17592186044416) (hs : At w sa ss) (hl : ss.length ≤ maxLen) :
    Calls Tryd.prog 42 #[mval m l, .slice sa ss.length sc, .int .i64 x] w fun e w' => GivesO w (stepL m.arrows ss x) e w' := by
  obtain ⟨st, ev, starts, ars, ends⟩ := m
  obtain ⟨a1, c1, a2, c2, a3, c3⟩ := l
  rcases ha with h0 | ⟨b, off, h0, hb, hc⟩
  · have h0 : ars = [] := h0
    subst h0
    exact refStep_nil st ev starts ends _ sa sc ss x w
  · have h0 : a2 = some ⟨b, off, none⟩ := h0
    subst h0
    exact refStep_some st ev starts ars ends a1 c1 b off c2 a3 c3 sa sc ss x w hlen hb hc hs hl

theorem refStep_any (m : Mach) (l : ML) (sa : Option Addr) (sc : Nat) (ss : List Int) (x : Int) (w : World) (ha : AtA w l.a2 m.arrows) (hlen : m.arrows.length ≤ 17592186044416) (hs : At w sa ss) (hl : ss.length ≤ maxLen) :
    Calls Tryd.prog 42 #[mval m l, .slice sa ss.length sc, .int .i64 x] w fun e w' => Gives w (stepL m.arrows ss x) e w' :=
  (refStep_own m l sa sc ss x w ha hlen hs hl).mono fun _ _ h => h.gives

end Go.Proofs.YtcjcjaeaoianfaaDoor
namespace Go.Proofs.YtcjcjaeaoianfaaDoor
open Go.RowKit
set_option linter.unusedVariables false

theorem ownsRow_lay2 {w : World} {B n : Nat} {v : Value} {vs : List Value} (h : w.ownsRow B 22 1 v n vs) (o o' : Obj) : ((w.alloc o).alloc o').drew.ownsRow B 22 1 v n vs := World.ownsRow.alloc (World.ownsRow.alloc h o) o'
theorem cell_lay2 (w : World) (o : Obj) (u : Value) (t : TypeId) : ∀ j x, [u][j]? = some x → ((w.alloc o).alloc (.cells #[u] t)).drew.cell? ((⟨w.heap.size + 1, 0, none⟩ : Addr).add j) = some x := by
  intro j x hx
  have : j = 0 := by have := (List.getElem?_eq_some_iff.1 hx).1; simp at this; omega
  subst this
  simp at hx
  subst hx
  have := (Blk.new (w.alloc o) t #[u]).cell 0 rfl
  rw [World.size_alloc] at this
  exact this
theorem cell_grown2 {w w' : World} {o o' : Obj} {B n : Nat} {v x : Value} {vs : List Value} {p : Addr} (hc : w.cell? p = some x) (g : ((w.alloc o).alloc o').drew.grownBy w' v.ownBlock) (h : w.ownsRow B 22 1 v n vs) (hp : p.block < B) : w'.cell? p = some x := by
  have hlt : p.block < w.heap.size := World.block_lt_of_cell? w p hc
  have e1 : w'.heap[p.block]? = w.heap[p.block]? := by
    rw [g.block p.block (by show _ < ((w.alloc o).alloc o').heap.size; simp; omega) (fun e => by have := (h.lt _ e.symm).1; omega)]
    show ((w.alloc o).alloc o').heap[p.block]? = _
    rw [Below.heap_alloc _ _ _ (by simp; omega), Below.heap_alloc _ _ _ hlt]
  rw [World.cell?_of_block (w := w) e1]; exact hc
theorem At.cells_of {w : World} {a : Option Addr} {xs : List Int} (h : At w a xs) {k : Nat} (hk : k < xs.length) : ∃ b off, a = some ⟨b, off, none⟩ ∧ b < w.heap.size ∧ Cells w b off xs := by
  rcases h with rfl | h
  · simp at hk
  · exact h
/-- What a call that hands back pairs leaves. -/
def Gives2 (w : World) (LL : List (List Int)) (e : Ending) (w' : World) : Prop := ∃ v, e = .returned v ∧ Own2 w' w.heap.size v LL ∧ Below w.heap.size w w'
theorem at_one (W : World) (x : Int) : At (W.alloc (.cells #[.int .i64 x] 3)) (some ⟨W.heap.size, 0, none⟩) [x] := by
  refine .inr ⟨_, 0, rfl, by simp, fun j hj => ?_⟩
  have : j = 0 := by simp at hj; omega
  subst this
  exact (Blk.new W 3 #[.int .i64 x]).cell 0 rfl
theorem Own2.lower {w : World} {B B' : Nat} {v : Value} {LL : List (List Int)} (h : Own2 w B v LL) (hB : B' ≤ B) : Own2 w B' v LL := by
  obtain ⟨vs, ho, hi⟩ := h
  refine ⟨vs, ⟨ho.1, ?_⟩, hi⟩
  rcases ho.2 with hn | ⟨g, cap, cur, e, hg, rest⟩
  · exact .inl hn
  · exact .inr ⟨g, cap, cur, e, Nat.le_trans hB hg, rest⟩
theorem mcell_at2 {W : World} {b : Nat} {m : Mach} {l : ML} (h : Blk W b 25 (mcells m l)) : W.cell? ⟨b, 0, none⟩ = some (.int .i64 m.st) ∧ W.cell? ⟨b, 1, none⟩ = some (.int .i64 m.ev) ∧ W.cell? ⟨b, 2, none⟩ = some (.slice l.a1 m.starts.length l.c1) ∧ W.cell? ⟨b, 3, none⟩ = some (.slice l.a2 m.arrows.length l.c2) ∧ W.cell? ⟨b, 4, none⟩ = some (.slice l.a3 m.ends.length l.c3) :=
  ⟨h.cell 0 rfl, h.cell 1 rfl, h.cell 2 rfl, h.cell 3 rfl, h.cell 4 rfl⟩

end Go.Proofs.YtcjcjaeaoianfaaDoor
namespace Go.Proofs.YtcjcjaeaoianfaaDoor
open Go.RowKit
set_option linter.unusedVariables false

/-- All blocks of X but b are as they were. -/
structure Kp (b : Nat) (X W : World) : Prop where
  size : X.heap.size ≤ W.heap.size
  same : ∀ k, k < X.heap.size → k ≠ b → W.heap[k]? = X.heap[k]?
theorem Kp.refl (b : Nat) (X : World) : Kp b X X := ⟨Nat.le_refl _, fun _ _ _ => rfl⟩
theorem Kp.alloc {b : Nat} {X W : World} (h : Kp b X W) (o : Obj) : Kp b X (W.alloc o) :=
  ⟨by rw [World.size_alloc]; exact Nat.le_succ_of_le h.size, fun k hk hne => (Below.heap_alloc W o k (Nat.lt_of_lt_of_le hk h.size)).trans (h.same k hk hne)⟩
theorem Kp.set {b : Nat} {X W : World} (h : Kp b X W) (j : Nat) (v : Value) : Kp b X (W.setCell ⟨b, j, none⟩ v) :=
  ⟨by simpa [World.setCell] using h.size, fun k hk hne => (Below.heap_setCell W ⟨b, j, none⟩ v k hne).trans (h.same k hk hne)⟩
theorem Kp.grown {b : Nat} {X W W' : World} {row : Option Nat} (h : Kp b X W) (g : W.grownBy W' row) (hr : ∀ k, row = some k → X.heap.size ≤ k) : Kp b X W' :=
  ⟨Nat.le_trans h.size g.size, fun k hk hne => (g.block k (Nat.lt_of_lt_of_le hk h.size) (fun e => by have := hr k e.symm; omega)).trans (h.same k hk hne)⟩
theorem Kp.blk {b k : Nat} {X W : World} {t : TypeId} {cs : Array Value} (h : Kp b X W) (hB : Blk X k t cs) (hne : k ≠ b) : Blk W k t cs := (h.same k hB.lt hne).trans hB

end Go.Proofs.YtcjcjaeaoianfaaDoor
namespace Go.Proofs.YtcjcjaeaoianfaaDoor
open Go.RowKit
set_option linter.unusedVariables false

theorem InnB.grow {W W' : World} {v : Value} {xs : List Int} {row : Option Nat} (h : InnB W v xs) (hx : v.ownBlock ≠ row) (g : W.grownBy W' row) : InnB W' v xs := by
  obtain ⟨a, c, h1, h2, h3, h4⟩ := h
  refine ⟨a, c, h1, h2, h3, ?_⟩
  rcases h4 with h4 | ⟨k, o, cs, e, hh, hc⟩
  · exact .inl h4
  · subst h1; subst e
    exact .inr ⟨k, o, cs, rfl, (g.block k (Array.getElem?_eq_some_iff.1 hh).1 hx).trans hh, hc⟩
theorem InnB.lt {W : World} {v : Value} {p : Int × Int} {k : Nat} (h : InnB W v [p.1, p.2]) (hk : v.ownBlock = some k) : k < W.heap.size := by
  obtain ⟨a, c, h1, h2, h3, h4⟩ := h
  rcases h4 with h4 | ⟨g, o, cs, e, hh, hc⟩
  · cases h4
  · subst h1; subst e
    cases hk
    exact (Array.getElem?_eq_some_iff.1 hh).1
theorem InnB.some {W : World} {v : Value} {p : Int × Int} (h : InnB W v [p.1, p.2]) : v.ownBlock ≠ none := by
  obtain ⟨a, c, h1, h2, h3, h4⟩ := h
  rcases h4 with h4 | ⟨g, o, cs, e, hh, hc⟩
  · cases h4
  · subst h1; subst e; intro h; cases h
theorem InnB.set {W : World} {v : Value} {xs : List Int} {b j : Nat} {t : TypeId} {cs : Array Value} (h : InnB W v xs) (hB : Blk W b t cs) (ht : t ≠ 3) (x : Value) : InnB (W.setCell ⟨b, j, none⟩ x) v xs :=
  h.kept fun g cs' hg => Below.heap_setCell W ⟨b, j, none⟩ x g (by
    show g ≠ b
    rintro rfl
    rw [show W.heap[g]? = _ from hB] at hg; cases hg; exact ht rfl)
/-- A row of the call's own that lies in a block of no integers leaves the inner slices alone. -/
theorem InnB.apart {W W' : World} {v v' : Value} {xs : List Int} {B s n : Nat} {e : TypeId} {vs : List Value} (h : InnB W v xs) (hr : W.ownsRow B e s v' n vs) (he : e ≠ 3) (g : W.grownBy W' v'.ownBlock) : InnB W' v xs :=
  h.kept fun k cs hk => g.block k (Array.getElem?_eq_some_iff.1 hk).1 (fun e1 => by
    obtain ⟨c, hc⟩ := own_type hr e1.symm
    rw [hk] at hc; cases hc; exact he rfl)
theorem own_innB {W : World} {B n : Nat} {v : Value} {xs : List Int} (h : W.ownsRow B 3 1 v n (xs.map (Value.int .i64))) (hn : xs.length = n) : InnB W v xs := by
  rcases h.2 with ⟨rfl, h0⟩ | ⟨g, cap, cur, rfl, hg, hh, hnc, hcm, hcs, ht⟩
  · have : xs = [] := List.eq_nil_of_length_eq_zero (by omega)
    subst this
    exact ⟨none, 0, rfl, Nat.le_refl _, Nat.zero_le _, .inl rfl⟩
  · refine ⟨_, cap, by rw [hn], by omega, hcm, .inr ⟨g, 0, cur, rfl, hh, fun j hj => ?_⟩⟩
    rw [Nat.zero_add, ← Array.getElem?_toList]
    have h1 : (cur.toList.take (n * 1))[j]? = some (.int .i64 (xs.getD j 0)) := by
      rw [ht, List.getElem?_map, List.getElem?_eq_getElem hj]; simp [List.getElem?_eq_getElem hj]
    rw [List.getElem?_take] at h1
    split at h1
    · exact h1
    · cases h1

abbrev bcells (ev : Int) (v2 : Value) : Array Value := #[.int .i64 0, .int .i64 ev, v2, .slice none 0 0, .slice none 0 0]
/-- Where the pairs of starts are laid: n starts, the pairs P. -/
structure PB (X W : World) (bm : Nat) (ev : Int) (v2 v13 : Value) (n : Nat) (P : List (Int × Int)) : Prop where
  blk : Blk W bm 25 (bcells ev v2)
  kp : Kp bm X W
  st : W.ownsRow X.heap.size 3 1 v2 n ((rngI n).map (Value.int .i64))
  ps : ∃ vs : List Value, W.ownsRow X.heap.size 22 1 v13 P.length vs ∧ ∀ (j : Nat) (x : Value) (p : Int × Int), vs[j]? = some x → P[j]? = some p → InnB W x [p.1, p.2] ∧ x.ownBlock ≠ v2.ownBlock

theorem PB.st1 {X W W1 : World} {bm n : Nat} {ev : Int} {v2 v2' v13 : Value} {P : List (Int × Int)} {o : Obj} (h : PB X W bm ev v2 v13 n P) (hbm : bm < X.heap.size)
    (o1 : W1.ownsRow X.heap.size 3 1 v2' (n + 1) ((rngI n).map (Value.int .i64) ++ [.int .i64 n])) (g : (W.alloc o).grownBy W1 v2.ownBlock) (hb : v2'.ownBlock = v2.ownBlock ∨ v2'.ownBlock = some (W.alloc o).heap.size) :
    Blk W1 bm 25 (bcells ev v2) ∧ PB X (W1.setCell ⟨bm, 2, none⟩ v2') bm ev v2' v13 (n + 1) P := by
  have hr : ∀ k, v2.ownBlock = some k → X.heap.size ≤ k := fun k hk => (h.st.lt k hk).1
  have b1 : Blk W1 bm 25 (bcells ev v2) := (g.block bm (h.blk.alloc o).lt (fun e => by have := hr bm e.symm; omega)).trans (h.blk.alloc o)
  obtain ⟨vs, ho, hi⟩ := h.ps
  refine ⟨b1, b1.set 2 v2', ((h.kp.alloc o).grown g hr).set 2 v2', ?_, vs, ?_, fun j x p h1 h2 => ?_⟩
  · rw [rngI_succ, List.map_append]; exact ownsRow_set o1 hbm v2'
  · exact ownsRow_set ((World.ownsRow.alloc ho o).kept g (own_apart (World.ownsRow.alloc ho o) (World.ownsRow.alloc h.st o) (by decide))) hbm v2'
  · obtain ⟨i1, i2⟩ := hi j x p h1 h2
    have i3 := i1.below ((Below.refl _ W).alloc (Nat.le_refl _) o)
    refine ⟨(i3.grow i2 g).set b1 (by decide) v2', ?_⟩
    rcases hb with hb | hb
    · rw [hb]; exact i2
    · rw [hb]
      intro e
      have := i1.lt e
      rw [World.size_alloc] at this
      omega
theorem PB.ps1 {X W W1 : World} {bm n : Nat} {ev x y : Int} {v2 v13 v13' : Value} {P : List (Int × Int)} {vs : List Value} {t : TypeId} (h : PB X W bm ev v2 v13 n P) (hbm : bm < X.heap.size)
    (ho : W.ownsRow X.heap.size 22 1 v13 P.length vs) (hi : ∀ (j : Nat) (x : Value) (p : Int × Int), vs[j]? = some x → P[j]? = some p → InnB W x [p.1, p.2] ∧ x.ownBlock ≠ v2.ownBlock)
    (o1 : W1.ownsRow X.heap.size 22 1 v13' (P.length + 1) (vs ++ [.slice (some ⟨W.heap.size, 0, none⟩) 2 2])) (g : ((W.alloc (.cells #[.int .i64 x, .int .i64 y] 3)).alloc (.cells #[.slice (some ⟨W.heap.size, 0, none⟩) 2 2] t)).drew.grownBy W1 v13.ownBlock) :
    PB X W1 bm ev v2 v13' n (P ++ [(x, y)]) := by
  have hr : ∀ k, v13.ownBlock = some k → X.heap.size ≤ k := fun k hk => (ho.lt k hk).1
  have hlay : Below W.heap.size W ((W.alloc (.cells #[.int .i64 x, .int .i64 y] 3)).alloc (.cells #[.slice (some ⟨W.heap.size, 0, none⟩) 2 2] t)).drew := (((Below.refl _ _).alloc (Nat.le_refl _) _).alloc (by simp) _).drew
  have hrow := ownsRow_lay2 ho (.cells #[.int .i64 x, .int .i64 y] 3) (.cells #[.slice (some ⟨W.heap.size, 0, none⟩) 2 2] t)
  have hb2 := h.blk.below hlay h.blk.lt
  have hl : vs.length = P.length := by have := ho.1; omega
  refine ⟨(g.block bm hb2.lt (fun e => by have := hr bm e.symm; omega)).trans hb2, Kp.grown ⟨Nat.le_trans h.kp.size hlay.size, fun k hk hne => (hlay.block k (Nat.lt_of_lt_of_le hk h.kp.size)).trans (h.kp.same k hk hne)⟩ g hr, ?_, vs ++ [.slice (some ⟨W.heap.size, 0, none⟩) 2 2], by rw [List.length_append]; exact o1, fun j z p h1 h2 => ?_⟩
  · have h3 := World.ownsRow.alloc (World.ownsRow.alloc h.st (.cells #[.int .i64 x, .int .i64 y] 3)) (.cells #[.slice (some ⟨W.heap.size, 0, none⟩) 2 2] t)
    exact World.ownsRow.kept (w := ((W.alloc (.cells #[.int .i64 x, .int .i64 y] 3)).alloc (.cells #[.slice (some ⟨W.heap.size, 0, none⟩) 2 2] t)).drew) h3 g (own_apart h3 hrow (by decide))
  · by_cases hj : j < P.length
    · rw [List.getElem?_append_left (by omega)] at h1
      rw [List.getElem?_append_left hj] at h2
      obtain ⟨i1, i2⟩ := hi j z p h1 h2
      exact ⟨(i1.below hlay).apart hrow (by decide) g, i2⟩
    · have hj2 : j < (P ++ [(x, y)]).length := (List.getElem?_eq_some_iff.1 h2).1
      have : j = P.length := by simp at hj2; omega
      subst this
      rw [List.getElem?_append_right (by omega)] at h1 h2
      rw [hl] at h1
      simp at h1 h2
      subst h1; subst h2
      refine ⟨((innB_new W x y).below (((Below.refl _ _).alloc (Nat.le_refl _) _).drew)).apart hrow (by decide) g, fun e => ?_⟩
      have := (h.st.lt W.heap.size e.symm).2
      omega

end Go.Proofs.YtcjcjaeaoianfaaDoor
namespace Go.Proofs.YtcjcjaeaoianfaaDoor
open Go.RowKit
set_option linter.unusedVariables false

theorem prs_get {L : List (Int × Int)} {j : Nat} {xs : List Int} (h : (prs L)[j]? = some xs) : ∃ p, L[j]? = some p ∧ xs = [p.1, p.2] := by
  unfold prs at h
  rw [List.getElem?_map] at h
  cases hp : L[j]? with
  | none => rw [hp] at h; cases h
  | some p => rw [hp] at h; exact ⟨p, rfl, (Option.some.inj h).symm⟩
theorem Own2.get {W : World} {B : Nat} {v : Value} {L : List (Int × Int)} (h : Own2 W B v (prs L)) {k : Nat} (hk : k < L.length) :
    ∃ (b cap : Nat), v = .slice (some ⟨b, 0, none⟩) L.length cap ∧ b < W.heap.size ∧ ∃ (p : Int × Int) (g o c : Nat), Hid (L[k]? = some p) ∧ g < W.heap.size ∧ W.cell? ⟨b, k, none⟩ = some (.slice (some ⟨g, o, none⟩) 2 c) ∧ InnB W (.slice (some ⟨g, o, none⟩) 2 c) [p.1, p.2] ∧ W.cell? ⟨g, o, none⟩ = some (.int .i64 p.1) ∧ W.cell? ⟨g, o + 1, none⟩ = some (.int .i64 p.2) := by
  obtain ⟨vs, ho, hi⟩ := h
  have hl : vs.length = L.length := by have := ho.1; rw [prs_len] at this; omega
  rcases ho.2 with ⟨rfl, hn⟩ | ⟨b, cap, cur, rfl, hg, hh, hnc, hcm, hcs, ht⟩
  · rw [prs_len] at hn; omega
  · refine ⟨b, cap, by rw [prs_len], (Array.getElem?_eq_some_iff.1 hh).1, ?_⟩
    obtain ⟨p, hp⟩ : ∃ p, L[k]? = some p := ⟨_, List.getElem?_eq_getElem hk⟩
    have hx := List.getElem?_eq_getElem (l := vs) (show k < vs.length by omega)
    have i1 := hi k _ [p.1, p.2] hx (by simp [prs, hp])
    have hc := ho.cells (g := b) rfl k _ hx
    rw [show (⟨b, 0, none⟩ : Addr).add k = ⟨b, k, none⟩ from by unfold Addr.add; split <;> simp_all] at hc
    obtain ⟨a, c, e1, e2, e3, e4⟩ := i1
    rcases e4 with e4 | ⟨g, o, cs, rfl, hh', hcc⟩
    · cases e4
    · rw [e1] at hc
      refine ⟨p, g, o, c, hp, (Array.getElem?_eq_some_iff.1 hh').1, hc, ⟨_, c, rfl, e2, e3, .inr ⟨g, o, cs, rfl, hh', hcc⟩⟩, ?_, ?_⟩
      · simp [World.cell?, hh']; have := hcc 0 (by simp); simpa using this
      · simp [World.cell?, hh']; have := hcc 1 (by simp); simpa using this
theorem Own2.keep {W W' : World} {B B' s n : Nat} {e : TypeId} {v v' : Value} {LL : List (List Int)} {xs : List Value} (h : Own2 W B v LL) (hr : W.ownsRow B' e s v' n xs) (he : e ≠ 3) (hne : v.ownBlock = none ∨ v.ownBlock ≠ v'.ownBlock) (g : W.grownBy W' v'.ownBlock) : Own2 W' B v LL := by
  obtain ⟨vs, ho, hi⟩ := h
  exact ⟨vs, ho.kept g hne, fun j x xs h1 h2 => (hi j x xs h1 h2).apart hr he g⟩

/-- Where pairs are gone through: the starts are laid, pairs and arrows come. -/
structure PC (X W : World) (bm : Nat) (ev : Int) (v2 v13 v16 : Value) (n : Nat) (s : BS) : Prop where
  blk : Blk W bm 25 (bcells ev v2)
  kp : Kp bm X W
  st : InnB W v2 (rngI n)
  ps : Own2 W X.heap.size v13 (prs s.ps)
  ar : OwnA W X.heap.size v16 s.ar
theorem PB.pc {X W : World} {bm n : Nat} {ev : Int} {v2 v13 : Value} {P : List (Int × Int)} (h : PB X W bm ev v2 v13 n P) : PC X W bm ev v2 v13 (.slice none 0 0) n ⟨P, []⟩ := by
  refine ⟨h.blk, h.kp, own_innB h.st (rngI_len n), ?_, ownA_nil _ _⟩
  obtain ⟨vs, ho, hi⟩ := h.ps
  refine ⟨vs, by rw [prs_len]; exact ho, fun j x xs h1 h2 => ?_⟩
  obtain ⟨p, hp, rfl⟩ := prs_get h2
  exact (hi j x p h1 hp).1
theorem Kp.below {b : Nat} {X W W' : World} (h : Kp b X W) (hb : Below W.heap.size W W') : Kp b X W' :=
  ⟨Nat.le_trans h.size hb.size, fun k hk hne => (hb.block k (Nat.lt_of_lt_of_le hk h.size)).trans (h.same k hk hne)⟩
theorem PC.below {X W W' : World} {bm n : Nat} {ev : Int} {v2 v13 v16 : Value} {s : BS} (h : PC X W bm ev v2 v13 v16 n s) (hb : Below W.heap.size W W') : PC X W' bm ev v2 v13 v16 n s :=
  ⟨h.blk.below hb h.blk.lt, h.kp.below hb, h.st.below hb, h.ps.below hb, h.ar.kept hb (Nat.le_refl _)⟩
theorem PC.alloc {X W : World} {bm n : Nat} {ev : Int} {v2 v13 v16 : Value} {s : BS} (h : PC X W bm ev v2 v13 v16 n s) (o : Obj) : PC X (W.alloc o) bm ev v2 v13 v16 n s := h.below ((Below.refl _ _).alloc (Nat.le_refl _) o)
theorem PC.ps1 {X W W1 : World} {bm n : Nat} {ev : Int} {v2 v13 v13' v16 x : Value} {s : BS} {p : Int × Int} {vs : List Value} (h : PC X W bm ev v2 v13 v16 n s) (hbm : bm < X.heap.size)
    (ho : W.ownsRow X.heap.size 22 1 v13 (prs s.ps).length vs) (hi : ∀ (j : Nat) (x : Value) (xs : List Int), vs[j]? = some x → (prs s.ps)[j]? = some xs → InnB W x xs) (hx : InnB W x [p.1, p.2])
    (o1 : W1.ownsRow X.heap.size 22 1 v13' ((prs s.ps).length + 1) (vs ++ [x])) (g : W.grownBy W1 v13.ownBlock) : PC X W1 bm ev v2 v13' v16 n ⟨s.ps ++ [p], s.ar⟩ := by
  have hr : ∀ k, v13.ownBlock = some k → X.heap.size ≤ k := fun k hk => (ho.lt k hk).1
  refine ⟨(g.block bm h.blk.lt (fun e => by have := hr bm e.symm; omega)).trans h.blk, h.kp.grown g hr, h.st.apart ho (by decide) g, ?_, World.ownsRow.kept h.ar g (own_apart h.ar ho (by decide))⟩
  show Own2 _ _ _ (prs (s.ps ++ [p]))
  rw [prs_snoc]
  exact Own2.snoc ho hi hx o1 g
theorem PC.ar1 {X W W1 : World} {bm n : Nat} {ev : Int} {v2 v13 v16 v16' : Value} {s : BS} {a : Arr} (h : PC X W bm ev v2 v13 v16 n s) (hbm : bm < X.heap.size)
    (o1 : OwnA W1 X.heap.size v16' (s.ar ++ [a])) (g : W.grownBy W1 v16.ownBlock) : PC X W1 bm ev v2 v13 v16' n ⟨s.ps, s.ar ++ [a]⟩ := by
  have hr : ∀ k, v16.ownBlock = some k → X.heap.size ≤ k := fun k hk => (World.ownsRow.lt h.ar k hk).1
  obtain ⟨vs, ho, hi⟩ := h.ps
  exact ⟨(g.block bm h.blk.lt (fun e => by have := hr bm e.symm; omega)).trans h.blk, h.kp.grown g hr, h.st.apart h.ar (by decide) g, Own2.keep ⟨vs, ho, hi⟩ h.ar (by decide) (own_apart ho h.ar (by decide)) g, o1⟩
/-- The pairs that are led to, apart from the pairs found. -/
structure LQ (W : World) (v13 v21 : Value) (L : List (Int × Int)) : Prop where
  own : Own2 W 0 v21 (prs L)
  ne : v21.ownBlock = none ∨ v21.ownBlock ≠ v13.ownBlock
theorem LQ.below {W W' : World} {v13 v21 : Value} {L : List (Int × Int)} (h : LQ W v13 v21 L) (hb : Below W.heap.size W W') : LQ W' v13 v21 L := ⟨h.own.below hb, h.ne⟩
theorem LQ.ps1 {W W1 : World} {B n : Nat} {v13 v13' v21 : Value} {L : List (Int × Int)} {vs : List Value} (h : LQ W v13 v21 L) (ho : W.ownsRow B 22 1 v13 n vs) (g : W.grownBy W1 v13.ownBlock) (hb : v13'.ownBlock = v13.ownBlock ∨ v13'.ownBlock = some W.heap.size) : LQ W1 v13' v21 L := by
  refine ⟨h.own.keep ho (by decide) h.ne g, ?_⟩
  rcases h.ne with h1 | h1
  · exact .inl h1
  · rcases hb with hb | hb
    · exact .inr (by rw [hb]; exact h1)
    · refine .inr fun e => ?_
      obtain ⟨ws, ho2, -⟩ := h.own
      have := (ho2.lt W.heap.size (e.trans hb)).2
      omega
theorem LQ.ar1 {W W1 : World} {B : Nat} {v13 v16 v21 : Value} {L : List (Int × Int)} {A : List Arr} (h : LQ W v13 v21 L) (ho : OwnA W B v16 A) (g : W.grownBy W1 v16.ownBlock) : LQ W1 v13 v21 L := by
  obtain ⟨ws, ho2, hi2⟩ := h.own
  exact ⟨Own2.keep ⟨ws, ho2, hi2⟩ ho (by decide) (own_apart ho2 ho (by decide)) g, h.ne⟩

end Go.Proofs.YtcjcjaeaoianfaaDoor
