/-
  What is said on the way through reach.part: what lies where.
  What Hide leaves, the program's and the reference's.
  The walks of cmp.Compare, cmp.Or (at integers) and of machine.compare: which of two arrows stands ahead.
  The walk of machine.compare.
-/
import Derived.Test.YtdhgabpoaicjoaaDoorG26
import Derived.Test.YtdhgabpoaicjoaaDoorG20
import Derived.Test.YtdhgabpoaicjoaaDoorG12
import Derived.Deep.RegionHeld3
import Derived.Test.YtdhgabpoaicjoaaDoorG25
import Derived.Test.YtdhgabpoaicjoaaDoorG07
import Derived.Test.YtdhgabpoaicjoaaDoorG03
namespace Go.Proofs.YtdhgabpoaicjoaaDoor
open Go.RowKit
set_option linter.unusedVariables false

theorem Own.kept {w w' : World} {B B' : Nat} {v : Value} {L : List Int} (h : Own w B v L) (hb : Below B' w w') (hB : w.heap.size ≤ B') : Own w' B v L := by
  refine ⟨h.1, ?_⟩
  rcases h.2 with hn | ⟨g, cap, cur, rfl, hg, hgg, rest⟩
  · exact .inl hn
  · exact .inr ⟨g, cap, cur, rfl, hg, (hb.block g (Nat.lt_of_lt_of_le (Array.getElem?_eq_some_iff.1 hgg).1 hB)).trans hgg, rest⟩

theorem AtX.set5 {w : World} {r bn : Nat} {a : Option Addr} {xs : List Int} (h : AtX w r bn a xs) (v0 v1 v2 v3 v4 : Value) : AtX (((((w.setCell ⟨bn, 0, none⟩ v0).setCell ⟨bn, 1, none⟩ v1).setCell ⟨bn, 2, none⟩ v2).setCell ⟨bn, 3, none⟩ v3).setCell ⟨bn, 4, none⟩ v4) r bn a xs :=
  ((((h.set v0).set v1).set v2).set v3).set v4
/-- Where a slice lies, and its room. -/
structure AtC (w : World) (r bn : Nat) (a : Option Addr) (c : Nat) (xs : List Int) : Prop where
  at' : AtX w r bn a xs
  c1 : xs.length ≤ c
  c2 : c ≤ maxLen
  c3 : a = none → c = 0
  lo : xs = [] ∨ ∃ b off, a = some ⟨b, off, none⟩ ∧ r < b
theorem own_atC {w : World} {B n c : Nat} {a : Option Addr} {xs : List Int} (h : Own w B (.slice a n c) xs) (r bn : Nat) (hr : r < B) (hn : bn < B ∨ w.heap.size ≤ bn) : AtC w r bn a c xs := by
  obtain ⟨a', c', e, h1, h2, h3, h4⟩ := own_atX h r bn hr hn
  cases e
  refine ⟨h1, h2, h3, h4, ?_⟩
  rcases h.cells_of with ⟨-, h0⟩ | ⟨g, cap, h0, h5, -, -, -⟩
  · exact .inl h0
  · cases h0; exact .inr ⟨g, 0, rfl, by omega⟩
theorem AtC.below {w w' : World} {r bn c : Nat} {a : Option Addr} {xs : List Int} (h : AtC w r bn a c xs) (hb : Below w.heap.size w w') : AtC w' r bn a c xs := ⟨h.at'.below hb, h.c1, h.c2, h.c3, h.lo⟩
theorem AtC.set5 {w : World} {r bn c : Nat} {a : Option Addr} {xs : List Int} (h : AtC w r bn a c xs) (v0 v1 v2 v3 v4 : Value) : AtC (((((w.setCell ⟨bn, 0, none⟩ v0).setCell ⟨bn, 1, none⟩ v1).setCell ⟨bn, 2, none⟩ v2).setCell ⟨bn, 3, none⟩ v3).setCell ⟨bn, 4, none⟩ v4) r bn a c xs := ⟨h.at'.set5 v0 v1 v2 v3 v4, h.c1, h.c2, h.c3, h.lo⟩
abbrev ocells (M ev : Int) (sa : Option Addr) (sn sc : Nat) (v : Value) (ea : Option Addr) (en ec : Nat) : Array Value := #[.int .i64 M, .int .i64 ev, .slice sa sn sc, v, .slice ea en ec]
/-- What the walk knows where the machine has been laid out. -/
structure PI (w V W : World) (b6 : Nat) (m : Mach) (T : List Int) (M : Int) (sa : Option Addr) (sc : Nat) (ea : Option Addr) (ec : Nat) : Prop where
  out : Blk W b6 25 (ocells M m.ev sa (placesL T m.starts).length sc (.slice none 0 0) ea (placesL T m.ends).length ec)
  bel : Below V.heap.size V W
  lo : V.heap.size ≤ b6
  aS : AtC W (w.heap.size + 1) b6 sa sc (placesL T m.starts)
  aE : AtC W (w.heap.size + 1) b6 ea ec (placesL T m.ends)

theorem Kp.atC {bn r c : Nat} {X W : World} {a : Option Addr} {xs : List Int} (h : Kp bn X W) (ha : AtC X r bn a c xs) : AtC W r bn a c xs := by
  refine ⟨?_, ha.c1, ha.c2, ha.c3, ha.lo⟩
  rcases ha.at' with h0 | ⟨b, off, h1, h2, h3, h4⟩
  · exact .inl h0
  · exact .inr ⟨b, off, h1, h2, Nat.lt_of_lt_of_le h3 h.size, fun j hj => (World.cell?_of_block (w := X) (h.same b h3 h2.1)).trans (h4 j hj)⟩
theorem AtC.setr5 {w : World} {r bn c : Nat} {a : Option Addr} {xs : List Int} (h : AtC w r bn a c xs) (v0 v1 v2 v3 v4 : Value) : AtC (((((w.setCell ⟨r, 0, none⟩ v0).setCell ⟨r, 1, none⟩ v1).setCell ⟨r, 2, none⟩ v2).setCell ⟨r, 3, none⟩ v3).setCell ⟨r, 4, none⟩ v4) r bn a c xs :=
  ⟨((((h.at'.setr v0).setr v1).setr v2).setr v3).setr v4, h.c1, h.c2, h.c3, h.lo⟩
theorem OwnA.set {W : World} {B b j : Nat} {v : Value} {L : List Arr} (h : OwnA W B v L) (hb : b < B) (x : Value) : OwnA (W.setCell ⟨b, j, none⟩ x) B v L := by
  refine ⟨h.1, ?_⟩
  rcases h.2 with hn | ⟨g, cap, cur, rfl, hg, hgg, rest⟩
  · exact .inl hn
  · exact .inr ⟨g, cap, cur, rfl, hg, (Below.heap_setCell W ⟨b, j, none⟩ x g (by show g ≠ b; omega)).trans hgg, rest⟩
theorem OwnA.set5 {W : World} {B b : Nat} {v : Value} {L : List Arr} (h : OwnA W B v L) (hb : b < B) (v0 v1 v2 v3 v4 : Value) : OwnA (((((W.setCell ⟨b, 0, none⟩ v0).setCell ⟨b, 1, none⟩ v1).setCell ⟨b, 2, none⟩ v2).setCell ⟨b, 3, none⟩ v3).setCell ⟨b, 4, none⟩ v4) B v L :=
  ((((h.set hb v0).set hb v1).set hb v2).set hb v3).set hb v4

/-- What holds from round to round: the machine's block, its arrows so far. -/
structure PL (w X W : World) (b6 : Nat) (m : Mach) (T : List Int) (M : Int) (sa : Option Addr) (sc : Nat) (ea : Option Addr) (ec : Nat) (v : Value) (L : List Arr) : Prop where
  out : Blk W b6 25 (ocells M m.ev sa (placesL T m.starts).length sc v ea (placesL T m.ends).length ec)
  own : OwnA W X.heap.size v L
  kp : Kp b6 X W
  bel : Below w.heap.size w W
theorem PL.alloc {w X W : World} {b6 : Nat} {m : Mach} {T : List Int} {M : Int} {sa : Option Addr} {sc : Nat} {ea : Option Addr} {ec : Nat} {v : Value} {L : List Arr} (h : PL w X W b6 m T M sa sc ea ec v L) (o : Obj) : PL w X (W.alloc o) b6 m T M sa sc ea ec v L :=
  ⟨h.out.alloc o, World.ownsRow.alloc h.own o, h.kp.alloc o, h.bel.alloc h.bel.size o⟩
/-- One arrow more. -/
theorem PL.grow {w X W W' : World} {b6 : Nat} {m : Mach} {T : List Int} {M : Int} {sa : Option Addr} {sc : Nat} {ea : Option Addr} {ec : Nat} {v v' : Value} {L L' : List Arr} {o o' : Obj} (h : PL w X W b6 m T M sa sc ea ec v L) (hlo : w.heap.size ≤ b6) (hX : b6 < X.heap.size) (hown : OwnA W' X.heap.size v' L') (g : ((W.alloc o).alloc o').grownBy W' v.ownBlock) :
    Blk W' b6 25 (ocells M m.ev sa (placesL T m.starts).length sc v ea (placesL T m.ends).length ec) ∧ PL w X (W'.setCell ⟨b6, 3, none⟩ v') b6 m T M sa sc ea ec v' L' := by
  have h2 := (h.alloc o).alloc o'
  have hr : ∀ j, v.ownBlock = some j → X.heap.size ≤ j := fun j hj => (World.ownsRow.lt h.own j hj).1
  have b1 : Blk W' b6 25 (ocells M m.ev sa (placesL T m.starts).length sc v ea (placesL T m.ends).length ec) := (g.block b6 h2.out.lt (fun e => by have := hr b6 e.symm; omega)).trans h2.out
  have hwX : w.heap.size ≤ X.heap.size := Nat.le_trans hlo (Nat.le_of_lt hX)
  refine ⟨b1, b1.set 3 v', hown.set hX v', (h2.kp.grown g hr).set 3 v', ?_⟩
  exact (h2.bel.grown g h2.bel.size (fun j hj => Nat.le_trans hwX (hr j hj))).setCell (p := ⟨b6, 3, none⟩) hlo v'

/-- A machine's slices lie from block B on. -/
structure FrM (B : Nat) (m : Mach) (l : ML) : Prop where
  s : m.starts = [] ∨ ∃ b off, l.a1 = some ⟨b, off, none⟩ ∧ B ≤ b
  a : m.arrows = [] ∨ ∃ b off, l.a2 = some ⟨b, off, none⟩ ∧ B ≤ b
  e : m.ends = [] ∨ ∃ b off, l.a3 = some ⟨b, off, none⟩ ∧ B ≤ b
theorem At.set {w : World} {a : Option Addr} {xs : List Int} {B b j : Nat} (h : At w a xs) (hf : xs = [] ∨ ∃ b off, a = some ⟨b, off, none⟩ ∧ B ≤ b) (hb : b < B) (v : Value) : At (w.setCell ⟨b, j, none⟩ v) a xs := by
  rcases h with h | ⟨g, off, h1, h2, h3⟩
  · exact .inl h
  · rcases hf with hf | ⟨g', off', h1', h4⟩
    · exact .inl hf
    · rw [h1] at h1'; cases h1'
      exact .inr ⟨g, off, h1, by rw [size_set]; exact h2, fun i hi => (World.cell?_of_block (w := w) (Below.heap_setCell w ⟨b, j, none⟩ v g (by show g ≠ b; omega))).trans (h3 i hi)⟩
theorem AtA.set {w : World} {a : Option Addr} {xs : List Arr} {B b j : Nat} (h : AtA w a xs) (hf : xs = [] ∨ ∃ b off, a = some ⟨b, off, none⟩ ∧ B ≤ b) (hb : b < B) (v : Value) : AtA (w.setCell ⟨b, j, none⟩ v) a xs := by
  rcases h with h | ⟨g, off, h1, h2, h3⟩
  · exact .inl h
  · rcases hf with hf | ⟨g', off', h1', h4⟩
    · exact .inl hf
    · rw [h1] at h1'; cases h1'
      have e : ∀ q, (w.setCell ⟨b, j, none⟩ v).cell? ⟨g, q, none⟩ = w.cell? ⟨g, q, none⟩ := fun q => World.cell?_of_block (w := w) (Below.heap_setCell w ⟨b, j, none⟩ v g (by show g ≠ b; omega))
      exact .inr ⟨g, off, h1, by rw [size_set]; exact h2, fun i hi => by rw [e, e, e]; exact h3 i hi⟩
theorem MAt.set {w : World} {m : Mach} {l : ML} {B b j : Nat} (h : MAt w m l) (hf : FrM B m l) (hb : b < B) (v : Value) : MAt (w.setCell ⟨b, j, none⟩ v) m l :=
  ⟨h.s.set hf.s hb v, h.a.set hf.a hb v, h.e.set hf.e hb v, h.s1, h.s2, h.s3, h.a1, h.a2, h.a3, h.e1, h.e2, h.e3⟩
theorem MAt.set5 {w : World} {m : Mach} {l : ML} {B b : Nat} (h : MAt w m l) (hf : FrM B m l) (hb : b < B) (v0 v1 v2 v3 v4 : Value) : MAt (((((w.setCell ⟨b, 0, none⟩ v0).setCell ⟨b, 1, none⟩ v1).setCell ⟨b, 2, none⟩ v2).setCell ⟨b, 3, none⟩ v3).setCell ⟨b, 4, none⟩ v4) m l :=
  ((((h.set hf hb v0).set hf hb v1).set hf hb v2).set hf hb v3).set hf hb v4
theorem At.set5 {w : World} {a : Option Addr} {xs : List Int} {B b : Nat} (h : At w a xs) (hf : xs = [] ∨ ∃ b off, a = some ⟨b, off, none⟩ ∧ B ≤ b) (hb : b < B) (v0 v1 v2 v3 v4 : Value) : At (((((w.setCell ⟨b, 0, none⟩ v0).setCell ⟨b, 1, none⟩ v1).setCell ⟨b, 2, none⟩ v2).setCell ⟨b, 3, none⟩ v3).setCell ⟨b, 4, none⟩ v4) a xs :=
  ((((h.set hf hb v0).set hf hb v1).set hf hb v2).set hf hb v3).set hf hb v4
theorem Own.fr {w : World} {B n c : Nat} {a : Option Addr} {xs : List Int} (h : Own w B (.slice a n c) xs) : xs = [] ∨ ∃ b off, a = some ⟨b, off, none⟩ ∧ B ≤ b := by
  rcases h.cells_of with ⟨-, h0⟩ | ⟨g, cap, h0, h5, -, -, -⟩
  · exact .inl h0
  · cases h0; exact .inr ⟨g, 0, rfl, h5⟩
theorem OwnA.fr {w : World} {B n c : Nat} {a : Option Addr} {xs : List Arr} (h : OwnA w B (.slice a n c) xs) : xs = [] ∨ ∃ b off, a = some ⟨b, off, none⟩ ∧ B ≤ b := by
  rcases h.forms with ⟨-, h0⟩ | ⟨g, cap, h0, h5, -⟩
  · exact .inl h0
  · cases h0; exact .inr ⟨g, 0, rfl, h5⟩
theorem fr_mono {a : Option Addr} {n : Prop} {B B' : Nat} (h : n ∨ ∃ b off, a = some ⟨b, off, none⟩ ∧ B ≤ b) (hB : B' ≤ B) : n ∨ ∃ b off, a = some ⟨b, off, none⟩ ∧ B' ≤ b := by
  rcases h with h | ⟨b, off, h1, h2⟩
  · exact .inl h
  · exact .inr ⟨b, off, h1, by omega⟩

/-- The machine of those states that stay. -/
def partM (m : Mach) (T : List Int) (M : Int) : Mach := ⟨M, m.ev, placesL T m.starts, trimA T m.arrows, placesL T m.ends⟩

end Go.Proofs.YtdhgabpoaicjoaaDoor
namespace Go.Proofs.YtdhgabpoaicjoaaDoor
open Go.RowKit
set_option linter.unusedVariables false

theorem results_twoM {fn : Func} {p u : Tmp} (h : fn.results = #[.cell p 25, .tmp u]) (tmps : Array Value) (w : World) (g : Nat) (m : Mach) (l : ML) (x : Value) (hp : tmps.getD p undef = .pointer (some ⟨g, 0, none⟩)) (hu : tmps.getD u undef = x) (hB : Blk w g 25 (mcells m l)) :
    (results fn tmps).run Tryd.prog w = .ok (.tuple #[mval m l, x]) w := by
  obtain ⟨x0, x1, x2, x3, x4⟩ := mcell_at hB
  have e : (results fn tmps).run Tryd.prog w = ((asAddr (tmps.getD p undef)).run Tryd.prog w).andThen fun a w₁ => ((loadVar 25 a).run Tryd.prog w₁).andThen fun r w₂ => .ok (.tuple #[r, tmps.getD u undef]) w₂ := by
    simp only [results, h]
    simp [Sem.run_bind, Result.andThen]
  rw [e, hp, hu]
  go_simp

/-- What Hide leaves where something is wrong. -/
def HErr (c : Int) (w : World) (e : Ending) (w' : World) : Prop := e = .returned (.tuple #[mval m0 ml0, .int .i64 c]) ∧ Below w.heap.size w w'
/-- What Hide leaves. -/
def HidePost (w : World) (m : Mach) (seen : List Int) (e : Ending) (w' : World) : Prop :=
  if mayB m = false ∨ rowB m.ev seen = false then HErr 2 w e w'
  else if (hAll m seen m.st.toNat).length ≤ 4096 then ∃ L, e = .returned (.tuple #[mval (hideM m seen) L, .int .i64 0]) ∧ MAt w' (hideM m seen) L ∧ Below w.heap.size w w'
  else HErr 1 w e w'

end Go.Proofs.YtdhgabpoaicjoaaDoor
namespace Go.Proofs.YtdhgabpoaicjoaaDoor
open Go.RowKit
set_option linter.unusedVariables false
set_option maxRecDepth 100000

set_option maxHeartbeats 400000 in
theorem isNaN_any (x : Int) (w : World) : Calls Tryd.prog 148 #[.int .i64 x] w fun e w' => e = .returned (.bool false) ∧ w' = w := by
  have h : (x != x) = false := by simp
  go_enter Tryd.func148, Tryd.ntmps148
  go_wp2
  go_ret
  exact ⟨rfl, rfl⟩

/-- -1, 0 or 1. -/
def cmpI (x y : Int) : Int := if x < y then -1 else if y < x then 1 else 0

theorem ret_i64 {a b : Int} (h : a = b) : Ending.returned (.int .i64 a) = .returned (.int .i64 b) := by rw [h]

set_option maxHeartbeats 1000000 in
theorem cmp_any (x y : Int) (w : World) : Calls Tryd.prog 133 #[.int .i64 x, .int .i64 y] w fun e w' => e = .returned (.int .i64 (cmpI x y)) ∧ w' = w := by
  have c1 := isNaN_any x
  have c2 := isNaN_any y
  by_cases h1 : x < y
  · have hr : Hid ((-1 : Int) = cmpI x y) := by show _ = _; simp [cmpI, h1]
    have f1 : decide (x < y) = true := by simpa using h1
    go_enter Tryd.func133, Tryd.ntmps133
    go_wp2_with (first | (go_at_call 148; refine (c1 _).mono ?_; rintro e w' ⟨rfl, rfl⟩) | (go_at_call 148; refine (c2 _).mono ?_; rintro e w' ⟨rfl, rfl⟩))
    go_ret
    exact ⟨ret_i64 hr.out, rfl⟩
  · have f1 : decide (x < y) = false := by simpa using h1
    by_cases h2 : y < x
    · have hr : Hid ((1 : Int) = cmpI x y) := by show _ = _; simp [cmpI, h1, h2]
      have f2 : decide (y < x) = true := by simpa using h2
      go_enter Tryd.func133, Tryd.ntmps133
      go_wp2_with (first | (go_at_call 148; refine (c1 _).mono ?_; rintro e w' ⟨rfl, rfl⟩) | (go_at_call 148; refine (c2 _).mono ?_; rintro e w' ⟨rfl, rfl⟩))
      go_ret
      exact ⟨ret_i64 hr.out, rfl⟩
    · have hr : Hid ((0 : Int) = cmpI x y) := by show _ = _; simp [cmpI, h1, h2]
      have f2 : decide (y < x) = false := by simpa using h2
      go_enter Tryd.func133, Tryd.ntmps133
      go_wp2_with (first | (go_at_call 148; refine (c1 _).mono ?_; rintro e w' ⟨rfl, rfl⟩) | (go_at_call 148; refine (c2 _).mono ?_; rintro e w' ⟨rfl, rfl⟩))
      go_ret
      exact ⟨ret_i64 hr.out, rfl⟩

/-- The first that is not 0. -/
def orI (x y z : Int) : Int := if x = 0 then (if y = 0 then z else y) else x

set_option maxHeartbeats 1000000 in
theorem or_any (x y z : Int) (b : Nat) (w : World) (h0 : w.cell? ⟨b, 0, none⟩ = some (.int .i64 x)) (h1 : w.cell? ⟨b, 1, none⟩ = some (.int .i64 y)) (h2 : w.cell? ⟨b, 2, none⟩ = some (.int .i64 z)) :
    Calls Tryd.prog 132 #[.slice (some ⟨b, 0, none⟩) 3 3] w fun e w' => e = .returned (.int .i64 (orI x y z)) ∧ w' = w := by
  by_cases e0 : x = 0
  · subst e0
    by_cases e1 : y = 0
    · subst e1
      by_cases e2 : z = 0
      · subst e2
        go_enter Tryd.func132, Tryd.ntmps132
        go_wp2
        refine wp_loop_rounds 4 ?_
        rw [rounds_succ]
        go_wp2
        rw [rounds_succ]
        go_wp2
        rw [rounds_succ]
        go_wp2
        rw [rounds_succ]
        go_wp2
        go_ret
        exact ⟨ret_i64 (by simp [orI]), rfl⟩
      · have f2 : (z == 0) = false := by simpa using e2
        have f2' : (z != 0) = true := by simpa using e2
        have hr : Hid (z = orI 0 0 z) := by show _ = _; simp [orI]
        go_enter Tryd.func132, Tryd.ntmps132
        go_wp2
        refine wp_loop_rounds 4 ?_
        rw [rounds_succ]
        go_wp2
        rw [rounds_succ]
        go_wp2
        rw [rounds_succ]
        go_wp2
        go_ret
        exact ⟨ret_i64 hr.out, rfl⟩
    · have f1 : (y == 0) = false := by simpa using e1
      have f1' : (y != 0) = true := by simpa using e1
      have hr : Hid (y = orI 0 y z) := by show _ = _; simp [orI, e1]
      go_enter Tryd.func132, Tryd.ntmps132
      go_wp2
      refine wp_loop_rounds 4 ?_
      rw [rounds_succ]
      go_wp2
      rw [rounds_succ]
      go_wp2
      go_ret
      exact ⟨ret_i64 hr.out, rfl⟩
  · have f0 : (x == 0) = false := by simpa using e0
    have f0' : (x != 0) = true := by simpa using e0
    have hr : Hid (x = orI x y z) := by show _ = _; simp [orI, e0]
    go_enter Tryd.func132, Tryd.ntmps132
    go_wp2
    refine wp_loop_rounds 4 ?_
    rw [rounds_succ]
    go_wp2
    go_ret
    exact ⟨ret_i64 hr.out, rfl⟩

/-- Which of two arrows stands ahead, by its sign. -/
def cmpA (a b : Arr) : Int := orI (cmpI a.f b.f) (cmpI a.e b.e) (cmpI a.t b.t)

theorem cmpA_ahead (a b : Arr) : decide (0 ≤ cmpA a b) = !aheadB a b := by
  unfold cmpA aheadB orI cmpI
  by_cases h1 : a.f < b.f
  · simp [h1, show ¬ a.f = b.f by omega]
  · by_cases h2 : b.f < a.f
    · simp [h1, h2, show ¬ a.f = b.f by omega]
    · have e : a.f = b.f := by omega
      by_cases h3 : a.e < b.e
      · simp [e, h3, show ¬ a.e = b.e by omega]
      · by_cases h4 : b.e < a.e
        · simp [e, h3, h4, show ¬ a.e = b.e by omega]
        · have e' : a.e = b.e := by omega
          by_cases h5 : a.t < b.t
          · simp [e, e', h5]
          · by_cases h6 : b.t < a.t
            · simp [e, e', h5, h6]
            · simp [e, e', h5, h6]

end Go.Proofs.YtdhgabpoaicjoaaDoor
namespace Go.Proofs.YtdhgabpoaicjoaaDoor
open Go.RowKit
set_option linter.unusedVariables false

/-- An arrow's cells. -/
abbrev acells (a : Arr) : Array Value := #[.int .i64 a.f, .int .i64 a.e, .int .i64 a.t]

set_option maxRecDepth 100000 in
set_option maxHeartbeats 4000000 in
theorem compare_any (a b : Arr) (w : World) :
    Calls Tryd.prog 98 #[.agg (acells a), .agg (acells b)] w fun e w' => e = .returned (.int .i64 (cmpA a b)) ∧ Below w.heap.size w w' := by
  have k1 : Blk ((w.alloc (.cells (acells a) 61)).alloc (.cells (acells b) 61)) w.heap.size 61 (acells a) := (Blk.new w _ _).alloc _
  have k2 : Blk ((w.alloc (.cells (acells a) 61)).alloc (.cells (acells b) 61)) (w.heap.size + 1) 61 (acells b) := by
    have := Blk.new (w.alloc (.cells (acells a) 61)) 61 (acells b)
    rwa [World.size_alloc] at this
  have hB : Below w.heap.size w ((w.alloc (.cells (acells a) 61)).alloc (.cells (acells b) 61)) := ((Below.refl _ _).alloc (Nat.le_refl _) _).alloc (by simp) _
  have hsz : ((w.alloc (.cells (acells a) 61)).alloc (.cells (acells b) 61)).heap.size = w.heap.size + 2 := by simp
  have K1 := Hid.of k1
  have K2 := Hid.of k2
  have HB := Hid.of hB
  have HS := Hid.of hsz
  clear k1 k2 hB hsz
  go_enter Tryd.func98, Tryd.ntmps98
  go_wp2
  revert K1 K2 HB HS
  generalize (w.alloc (.cells (acells a) 61)).alloc (.cells (acells b) 61) = V
  intro K1 K2 HB HS
  have a0 : V.cell? ⟨w.heap.size, 0, none⟩ = some (.int .i64 a.f) := K1.out.cell 0 rfl
  have a1 : V.cell? ⟨w.heap.size, 1, none⟩ = some (.int .i64 a.e) := K1.out.cell 1 rfl
  have a2 : V.cell? ⟨w.heap.size, 2, none⟩ = some (.int .i64 a.t) := K1.out.cell 2 rfl
  have b0 : V.cell? ⟨w.heap.size + 1, 0, none⟩ = some (.int .i64 b.f) := K2.out.cell 0 rfl
  have b1 : V.cell? ⟨w.heap.size + 1, 1, none⟩ = some (.int .i64 b.e) := K2.out.cell 1 rfl
  have b2 : V.cell? ⟨w.heap.size + 1, 2, none⟩ = some (.int .i64 b.t) := K2.out.cell 2 rfl
  have hs := HS.out
  have hn1 : w.heap.size < V.heap.size := by omega
  have hn2 : w.heap.size + 1 < V.heap.size := by omega
  have n1 := World.new_ne V _ a0
  have n2 := World.new_ne V _ b0
  go_region_held3 (fun w' => w'.cell? ⟨w.heap.size, 0, none⟩ = some (.int .i64 a.f) ∧ w'.cell? ⟨w.heap.size, 1, none⟩ = some (.int .i64 a.e) ∧ w'.cell? ⟨w.heap.size, 2, none⟩ = some (.int .i64 a.t) ∧ w'.cell? ⟨w.heap.size + 1, 0, none⟩ = some (.int .i64 b.f) ∧ w'.cell? ⟨w.heap.size + 1, 1, none⟩ = some (.int .i64 b.e) ∧ w'.cell? ⟨w.heap.size + 1, 2, none⟩ = some (.int .i64 b.t)) (go_keep) (first | (go_at_call 133; refine (cmp_any _ _ _).mono ?_; rintro e w1 ⟨rfl, rfl⟩) | (go_at_call 132; refine (or_any (cmpI a.f b.f) (cmpI a.e b.e) (cmpI a.t b.t) _ _ (by go_simp) (by go_simp) (by go_simp)).mono ?_; rintro e w1 ⟨rfl, rfl⟩))
  go_wp2
  go_ret
  exact ⟨rfl, (HB.out.alloc HB.out.size _).drew⟩

end Go.Proofs.YtdhgabpoaicjoaaDoor
