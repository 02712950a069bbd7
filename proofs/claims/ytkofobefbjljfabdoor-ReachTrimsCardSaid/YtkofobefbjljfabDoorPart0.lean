/-
  What is said on the way through reach.part: what lies where.
-/
import Derived.Test.YtkofobefbjljfabDoorG06
import Derived.Test.YtkofobefbjljfabDoorLead
import Derived.Deep.RegionHeld3
namespace Go.Proofs.YtkofobefbjljfabDoor
open Go.RowKit
set_option linter.unusedVariables false

theorem Own.kept {w w' : World} {B B' : Nat} {v : Value} {L : List Int} (h : Own w B v L) (hb : Below B' w w') (hB : w.heap.size ≤ B') : Own w' B v L := by
  refine ⟨h.1, ?_⟩
  rcases h.2 with hn | ⟨g, cap, cur, rfl, hg, hgg, rest⟩
  · exact .inl hn
  · exact .inr ⟨g, cap, cur, rfl, hg, (hb.block g (Nat.lt_of_lt_of_le (Array.getElem?_eq_some_iff.1 hgg).1 hB)).trans hgg, rest⟩

theorem zcell_at {W : World} {b : Nat} {t : TypeId} (h : Blk W b t zcells) : W.cell? ⟨b, 0, none⟩ = some (.int .i64 0) ∧ W.cell? ⟨b, 1, none⟩ = some (.int .i64 0) ∧ W.cell? ⟨b, 2, none⟩ = some (.slice none 0 0) ∧ W.cell? ⟨b, 3, none⟩ = some (.slice none 0 0) ∧ W.cell? ⟨b, 4, none⟩ = some (.slice none 0 0) :=
  ⟨h.cell 0 rfl, h.cell 1 rfl, h.cell 2 rfl, h.cell 3 rfl, h.cell 4 rfl⟩
theorem Blk.other5 {W : World} {b b' : Nat} {t : TypeId} {cs : Array Value} (h : Blk W b t cs) (hne : b ≠ b') (v0 v1 v2 v3 v4 : Value) : Blk (((((W.setCell ⟨b', 0, none⟩ v0).setCell ⟨b', 1, none⟩ v1).setCell ⟨b', 2, none⟩ v2).setCell ⟨b', 3, none⟩ v3).setCell ⟨b', 4, none⟩ v4) b t cs :=
  ((((h.other hne v0).other hne v1).other hne v2).other hne v3).other hne v4

theorem Blk.set5 {W : World} {b : Nat} {t : TypeId} (h : Blk W b t zcells) (v0 v1 v2 v3 v4 : Value) : Blk (((((W.setCell ⟨b, 0, none⟩ v0).setCell ⟨b, 1, none⟩ v1).setCell ⟨b, 2, none⟩ v2).setCell ⟨b, 3, none⟩ v3).setCell ⟨b, 4, none⟩ v4) b t #[v0, v1, v2, v3, v4] :=
  ((((h.set 0 v0).set 1 v1).set 2 v2).set 3 v3).set 4 v4
theorem below_set5 {W V : World} {B b' : Nat} (h : Below B V W) (hb : B ≤ b') (v0 v1 v2 v3 v4 : Value) : Below B V (((((W.setCell ⟨b', 0, none⟩ v0).setCell ⟨b', 1, none⟩ v1).setCell ⟨b', 2, none⟩ v2).setCell ⟨b', 3, none⟩ v3).setCell ⟨b', 4, none⟩ v4) :=
  ((((h.setCell (p := ⟨b', 0, none⟩) hb v0).setCell (p := ⟨b', 1, none⟩) hb v1).setCell (p := ⟨b', 2, none⟩) hb v2).setCell (p := ⟨b', 3, none⟩) hb v3).setCell (p := ⟨b', 4, none⟩) hb v4
theorem AtX.set5 {w : World} {r bn : Nat} {a : Option Addr} {xs : List Int} (h : AtX w r bn a xs) (v0 v1 v2 v3 v4 : Value) : AtX (((((w.setCell ⟨bn, 0, none⟩ v0).setCell ⟨bn, 1, none⟩ v1).setCell ⟨bn, 2, none⟩ v2).setCell ⟨bn, 3, none⟩ v3).setCell ⟨bn, 4, none⟩ v4) r bn a xs :=
  ((((h.set v0).set v1).set v2).set v3).set v4
/-- Where a slice lies, and its room. -/
structure AtC (w : World) (r bn : Nat) (a : Option Addr) (c : Nat) (xs : List Int) : Prop where
  at' : AtX w r bn a xs
  c1 : xs.length ≤ c
  c2 : c ≤ maxLen
  c3 : a = none → c = 0
  lo : xs = [] ∨ ∃ b off, a = some ⟨b, off, none⟩ ∧ r < b
theorem own_atC {w : World} {B n c : Nat} {a : Option Addr} {xs : List Int} (h : Own w B (.slice a n c) xs) (r bn : Nat) (hr : r < B) (hn : bn < B ∨ w.heap.size ≤ bn) : AtC w r bn a c xs := by
  obtain ⟨a', c', e, h1, h2, h3, h4⟩ := own_atX h r bn hr hn
  cases e
  refine ⟨h1, h2, h3, h4, ?_⟩
  rcases h.cells_of with ⟨-, h0⟩ | ⟨g, cap, h0, h5, -, -, -⟩
  · exact .inl h0
  · cases h0; exact .inr ⟨g, 0, rfl, by omega⟩
theorem AtC.below {w w' : World} {r bn c : Nat} {a : Option Addr} {xs : List Int} (h : AtC w r bn a c xs) (hb : Below w.heap.size w w') : AtC w' r bn a c xs := ⟨h.at'.below hb, h.c1, h.c2, h.c3, h.lo⟩
theorem AtC.set5 {w : World} {r bn c : Nat} {a : Option Addr} {xs : List Int} (h : AtC w r bn a c xs) (v0 v1 v2 v3 v4 : Value) : AtC (((((w.setCell ⟨bn, 0, none⟩ v0).setCell ⟨bn, 1, none⟩ v1).setCell ⟨bn, 2, none⟩ v2).setCell ⟨bn, 3, none⟩ v3).setCell ⟨bn, 4, none⟩ v4) r bn a c xs := ⟨h.at'.set5 v0 v1 v2 v3 v4, h.c1, h.c2, h.c3, h.lo⟩
abbrev ocells (M ev : Int) (sa : Option Addr) (sn sc : Nat) (v : Value) (ea : Option Addr) (en ec : Nat) : Array Value := #[.int .i64 M, .int .i64 ev, .slice sa sn sc, v, .slice ea en ec]
/-- What the walk knows where the machine has been laid out. -/
structure PI (w V W : World) (b6 : Nat) (m : Mach) (T : List Int) (M : Int) (sa : Option Addr) (sc : Nat) (ea : Option Addr) (ec : Nat) : Prop where
  out : Blk W b6 25 (ocells M m.ev sa (placesL T m.starts).length sc (.slice none 0 0) ea (placesL T m.ends).length ec)
  bel : Below V.heap.size V W
  lo : V.heap.size ≤ b6
  aS : AtC W (w.heap.size + 1) b6 sa sc (placesL T m.starts)
  aE : AtC W (w.heap.size + 1) b6 ea ec (placesL T m.ends)

/-- All blocks of X but b are as they were. -/
structure Kp (b : Nat) (X W : World) : Prop where
  size : X.heap.size ≤ W.heap.size
  same : ∀ k, k < X.heap.size → k ≠ b → W.heap[k]? = X.heap[k]?
theorem Kp.refl (b : Nat) (X : World) : Kp b X X := ⟨Nat.le_refl _, fun _ _ _ => rfl⟩
theorem Kp.alloc {b : Nat} {X W : World} (h : Kp b X W) (o : Obj) : Kp b X (W.alloc o) :=
  ⟨by rw [World.size_alloc]; exact Nat.le_succ_of_le h.size, fun k hk hne => (Below.heap_alloc W o k (Nat.lt_of_lt_of_le hk h.size)).trans (h.same k hk hne)⟩
theorem Kp.set {b : Nat} {X W : World} (h : Kp b X W) (j : Nat) (v : Value) : Kp b X (W.setCell ⟨b, j, none⟩ v) :=
  ⟨by rw [size_set]; exact h.size, fun k hk hne => (Below.heap_setCell W ⟨b, j, none⟩ v k hne).trans (h.same k hk hne)⟩
theorem Kp.grown {b : Nat} {X W W' : World} {row : Option Nat} (h : Kp b X W) (g : W.grownBy W' row) (hr : ∀ k, row = some k → X.heap.size ≤ k) : Kp b X W' :=
  ⟨Nat.le_trans h.size g.size, fun k hk hne => (g.block k (Nat.lt_of_lt_of_le hk h.size) (fun e => by have := hr k e.symm; omega)).trans (h.same k hk hne)⟩
theorem Kp.blk {b k : Nat} {X W : World} {t : TypeId} {cs : Array Value} (h : Kp b X W) (hB : Blk X k t cs) (hne : k ≠ b) : Blk W k t cs := (h.same k hB.lt hne).trans hB
theorem Kp.atC {bn r c : Nat} {X W : World} {a : Option Addr} {xs : List Int} (h : Kp bn X W) (ha : AtC X r bn a c xs) : AtC W r bn a c xs := by
  refine ⟨?_, ha.c1, ha.c2, ha.c3, ha.lo⟩
  rcases ha.at' with h0 | ⟨b, off, h1, h2, h3, h4⟩
  · exact .inl h0
  · exact .inr ⟨b, off, h1, h2, Nat.lt_of_lt_of_le h3 h.size, fun j hj => (World.cell?_of_block (w := X) (h.same b h3 h2.1)).trans (h4 j hj)⟩
theorem AtC.setr5 {w : World} {r bn c : Nat} {a : Option Addr} {xs : List Int} (h : AtC w r bn a c xs) (v0 v1 v2 v3 v4 : Value) : AtC (((((w.setCell ⟨r, 0, none⟩ v0).setCell ⟨r, 1, none⟩ v1).setCell ⟨r, 2, none⟩ v2).setCell ⟨r, 3, none⟩ v3).setCell ⟨r, 4, none⟩ v4) r bn a c xs :=
  ⟨((((h.at'.setr v0).setr v1).setr v2).setr v3).setr v4, h.c1, h.c2, h.c3, h.lo⟩
theorem OwnA.set {W : World} {B b j : Nat} {v : Value} {L : List Arr} (h : OwnA W B v L) (hb : b < B) (x : Value) : OwnA (W.setCell ⟨b, j, none⟩ x) B v L := by
  refine ⟨h.1, ?_⟩
  rcases h.2 with hn | ⟨g, cap, cur, rfl, hg, hgg, rest⟩
  · exact .inl hn
  · exact .inr ⟨g, cap, cur, rfl, hg, (Below.heap_setCell W ⟨b, j, none⟩ x g (by show g ≠ b; omega)).trans hgg, rest⟩
theorem OwnA.set5 {W : World} {B b : Nat} {v : Value} {L : List Arr} (h : OwnA W B v L) (hb : b < B) (v0 v1 v2 v3 v4 : Value) : OwnA (((((W.setCell ⟨b, 0, none⟩ v0).setCell ⟨b, 1, none⟩ v1).setCell ⟨b, 2, none⟩ v2).setCell ⟨b, 3, none⟩ v3).setCell ⟨b, 4, none⟩ v4) B v L :=
  ((((h.set hb v0).set hb v1).set hb v2).set hb v3).set hb v4

/-- What holds from round to round: the machine's block, its arrows so far. -/
structure PL (w X W : World) (b6 : Nat) (m : Mach) (T : List Int) (M : Int) (sa : Option Addr) (sc : Nat) (ea : Option Addr) (ec : Nat) (v : Value) (L : List Arr) : Prop where
  out : Blk W b6 25 (ocells M m.ev sa (placesL T m.starts).length sc v ea (placesL T m.ends).length ec)
  own : OwnA W X.heap.size v L
  kp : Kp b6 X W
  bel : Below w.heap.size w W
theorem PL.alloc {w X W : World} {b6 : Nat} {m : Mach} {T : List Int} {M : Int} {sa : Option Addr} {sc : Nat} {ea : Option Addr} {ec : Nat} {v : Value} {L : List Arr} (h : PL w X W b6 m T M sa sc ea ec v L) (o : Obj) : PL w X (W.alloc o) b6 m T M sa sc ea ec v L :=
  ⟨h.out.alloc o, World.ownsRow.alloc h.own o, h.kp.alloc o, h.bel.alloc h.bel.size o⟩
/-- One arrow more. -/
theorem PL.grow {w X W W' : World} {b6 : Nat} {m : Mach} {T : List Int} {M : Int} {sa : Option Addr} {sc : Nat} {ea : Option Addr} {ec : Nat} {v v' : Value} {L L' : List Arr} {o o' : Obj} (h : PL w X W b6 m T M sa sc ea ec v L) (hlo : w.heap.size ≤ b6) (hX : b6 < X.heap.size) (hown : OwnA W' X.heap.size v' L') (g : ((W.alloc o).alloc o').grownBy W' v.ownBlock) :
    Blk W' b6 25 (ocells M m.ev sa (placesL T m.starts).length sc v ea (placesL T m.ends).length ec) ∧ PL w X (W'.setCell ⟨b6, 3, none⟩ v') b6 m T M sa sc ea ec v' L' := by
  have h2 := (h.alloc o).alloc o'
  have hr : ∀ j, v.ownBlock = some j → X.heap.size ≤ j := fun j hj => (World.ownsRow.lt h.own j hj).1
  have b1 : Blk W' b6 25 (ocells M m.ev sa (placesL T m.starts).length sc v ea (placesL T m.ends).length ec) := (g.block b6 h2.out.lt (fun e => by have := hr b6 e.symm; omega)).trans h2.out
  have hwX : w.heap.size ≤ X.heap.size := Nat.le_trans hlo (Nat.le_of_lt hX)
  refine ⟨b1, b1.set 3 v', hown.set hX v', (h2.kp.grown g hr).set 3 v', ?_⟩
  exact (h2.bel.grown g h2.bel.size (fun j hj => Nat.le_trans hwX (hr j hj))).setCell (p := ⟨b6, 3, none⟩) hlo v'

/-- A machine's slices lie from block B on. -/
structure FrM (B : Nat) (m : Mach) (l : ML) : Prop where
  s : m.starts = [] ∨ ∃ b off, l.a1 = some ⟨b, off, none⟩ ∧ B ≤ b
  a : m.arrows = [] ∨ ∃ b off, l.a2 = some ⟨b, off, none⟩ ∧ B ≤ b
  e : m.ends = [] ∨ ∃ b off, l.a3 = some ⟨b, off, none⟩ ∧ B ≤ b
theorem At.set {w : World} {a : Option Addr} {xs : List Int} {B b j : Nat} (h : At w a xs) (hf : xs = [] ∨ ∃ b off, a = some ⟨b, off, none⟩ ∧ B ≤ b) (hb : b < B) (v : Value) : At (w.setCell ⟨b, j, none⟩ v) a xs := by
  rcases h with h | ⟨g, off, h1, h2, h3⟩
  · exact .inl h
  · rcases hf with hf | ⟨g', off', h1', h4⟩
    · exact .inl hf
    · rw [h1] at h1'; cases h1'
      exact .inr ⟨g, off, h1, by rw [size_set]; exact h2, fun i hi => (World.cell?_of_block (w := w) (Below.heap_setCell w ⟨b, j, none⟩ v g (by show g ≠ b; omega))).trans (h3 i hi)⟩
theorem AtA.set {w : World} {a : Option Addr} {xs : List Arr} {B b j : Nat} (h : AtA w a xs) (hf : xs = [] ∨ ∃ b off, a = some ⟨b, off, none⟩ ∧ B ≤ b) (hb : b < B) (v : Value) : AtA (w.setCell ⟨b, j, none⟩ v) a xs := by
  rcases h with h | ⟨g, off, h1, h2, h3⟩
  · exact .inl h
  · rcases hf with hf | ⟨g', off', h1', h4⟩
    · exact .inl hf
    · rw [h1] at h1'; cases h1'
      have e : ∀ q, (w.setCell ⟨b, j, none⟩ v).cell? ⟨g, q, none⟩ = w.cell? ⟨g, q, none⟩ := fun q => World.cell?_of_block (w := w) (Below.heap_setCell w ⟨b, j, none⟩ v g (by show g ≠ b; omega))
      exact .inr ⟨g, off, h1, by rw [size_set]; exact h2, fun i hi => by rw [e, e, e]; exact h3 i hi⟩
theorem MAt.set {w : World} {m : Mach} {l : ML} {B b j : Nat} (h : MAt w m l) (hf : FrM B m l) (hb : b < B) (v : Value) : MAt (w.setCell ⟨b, j, none⟩ v) m l :=
  ⟨h.s.set hf.s hb v, h.a.set hf.a hb v, h.e.set hf.e hb v, h.s1, h.s2, h.s3, h.a1, h.a2, h.a3, h.e1, h.e2, h.e3⟩
theorem MAt.set5 {w : World} {m : Mach} {l : ML} {B b : Nat} (h : MAt w m l) (hf : FrM B m l) (hb : b < B) (v0 v1 v2 v3 v4 : Value) : MAt (((((w.setCell ⟨b, 0, none⟩ v0).setCell ⟨b, 1, none⟩ v1).setCell ⟨b, 2, none⟩ v2).setCell ⟨b, 3, none⟩ v3).setCell ⟨b, 4, none⟩ v4) m l :=
  ((((h.set hf hb v0).set hf hb v1).set hf hb v2).set hf hb v3).set hf hb v4
theorem At.set5 {w : World} {a : Option Addr} {xs : List Int} {B b : Nat} (h : At w a xs) (hf : xs = [] ∨ ∃ b off, a = some ⟨b, off, none⟩ ∧ B ≤ b) (hb : b < B) (v0 v1 v2 v3 v4 : Value) : At (((((w.setCell ⟨b, 0, none⟩ v0).setCell ⟨b, 1, none⟩ v1).setCell ⟨b, 2, none⟩ v2).setCell ⟨b, 3, none⟩ v3).setCell ⟨b, 4, none⟩ v4) a xs :=
  ((((h.set hf hb v0).set hf hb v1).set hf hb v2).set hf hb v3).set hf hb v4
theorem Own.fr {w : World} {B n c : Nat} {a : Option Addr} {xs : List Int} (h : Own w B (.slice a n c) xs) : xs = [] ∨ ∃ b off, a = some ⟨b, off, none⟩ ∧ B ≤ b := by
  rcases h.cells_of with ⟨-, h0⟩ | ⟨g, cap, h0, h5, -, -, -⟩
  · exact .inl h0
  · cases h0; exact .inr ⟨g, 0, rfl, h5⟩
theorem OwnA.fr {w : World} {B n c : Nat} {a : Option Addr} {xs : List Arr} (h : OwnA w B (.slice a n c) xs) : xs = [] ∨ ∃ b off, a = some ⟨b, off, none⟩ ∧ B ≤ b := by
  rcases h.forms with ⟨-, h0⟩ | ⟨g, cap, h0, h5, -⟩
  · exact .inl h0
  · cases h0; exact .inr ⟨g, 0, rfl, h5⟩
theorem fr_mono {a : Option Addr} {n : Prop} {B B' : Nat} (h : n ∨ ∃ b off, a = some ⟨b, off, none⟩ ∧ B ≤ b) (hB : B' ≤ B) : n ∨ ∃ b off, a = some ⟨b, off, none⟩ ∧ B' ≤ b := by
  rcases h with h | ⟨b, off, h1, h2⟩
  · exact .inl h
  · exact .inr ⟨b, off, h1, by omega⟩

/-- The machine of those states that stay. -/
def partM (m : Mach) (T : List Int) (M : Int) : Mach := ⟨M, m.ev, placesL T m.starts, trimA T m.arrows, placesL T m.ends⟩

end Go.Proofs.YtkofobefbjljfabDoor
