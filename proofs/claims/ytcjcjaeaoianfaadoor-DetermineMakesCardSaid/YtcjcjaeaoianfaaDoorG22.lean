/-
  What is said on the way through reach.part: what lies where.
  The walk of jalousieref1.Has: whether a list has a number.
  The walks of jalousieref1.Same (two lists are one) and of jalousieref1.Only (the numbers of a list that are, or are not, in another).
  The walk of jalousieref2.Same: two machines are one.
  The walk of jalousieref2.ahead.
-/
import Derived.Test.YtcjcjaeaoianfaaDoorG21
import Derived.Test.YtcjcjaeaoianfaaDoorG18
import Derived.Test.YtcjcjaeaoianfaaDoorG12
import Derived.Deep.RegionHeld3
import Derived.Test.YtcjcjaeaoianfaaDoorG03
import Derived.Test.YtcjcjaeaoianfaaDoorG06
import Derived.Deep.QuietTactic
import Derived.BigQuiet
import Derived.Test.YtcjcjaeaoianfaaDoorG04
namespace Go.Proofs.YtcjcjaeaoianfaaDoor
open Go.RowKit
set_option linter.unusedVariables false

theorem Own.kept {w w' : World} {B B' : Nat} {v : Value} {L : List Int} (h : Own w B v L) (hb : Below B' w w') (hB : w.heap.size ≤ B') : Own w' B v L := by
  refine ⟨h.1, ?_⟩
  rcases h.2 with hn | ⟨g, cap, cur, rfl, hg, hgg, rest⟩
  · exact .inl hn
  · exact .inr ⟨g, cap, cur, rfl, hg, (hb.block g (Nat.lt_of_lt_of_le (Array.getElem?_eq_some_iff.1 hgg).1 hB)).trans hgg, rest⟩

theorem AtX.set5 {w : World} {r bn : Nat} {a : Option Addr} {xs : List Int} (h : AtX w r bn a xs) (v0 v1 v2 v3 v4 : Value) : AtX (((((w.setCell ⟨bn, 0, none⟩ v0).setCell ⟨bn, 1, none⟩ v1).setCell ⟨bn, 2, none⟩ v2).setCell ⟨bn, 3, none⟩ v3).setCell ⟨bn, 4, none⟩ v4) r bn a xs :=
  ((((h.set v0).set v1).set v2).set v3).set v4
/-- Where a slice lies, and its room. -/
structure AtC (w : World) (r bn : Nat) (a : Option Addr) (c : Nat) (xs : List Int) : Prop where
  at' : AtX w r bn a xs
  c1 : xs.length ≤ c
  c2 : c ≤ maxLen
  c3 : a = none → c = 0
  lo : xs = [] ∨ ∃ b off, a = some ⟨b, off, none⟩ ∧ r < b
theorem own_atC {w : World} {B n c : Nat} {a : Option Addr} {xs : List Int} (h : Own w B (.slice a n c) xs) (r bn : Nat) (hr : r < B) (hn : bn < B ∨ w.heap.size ≤ bn) : AtC w r bn a c xs := by
  obtain ⟨a', c', e, h1, h2, h3, h4⟩ := own_atX h r bn hr hn
  cases e
  refine ⟨h1, h2, h3, h4, ?_⟩
  rcases h.cells_of with ⟨-, h0⟩ | ⟨g, cap, h0, h5, -, -, -⟩
  · exact .inl h0
  · cases h0; exact .inr ⟨g, 0, rfl, by omega⟩
theorem AtC.below {w w' : World} {r bn c : Nat} {a : Option Addr} {xs : List Int} (h : AtC w r bn a c xs) (hb : Below w.heap.size w w') : AtC w' r bn a c xs := ⟨h.at'.below hb, h.c1, h.c2, h.c3, h.lo⟩
theorem AtC.set5 {w : World} {r bn c : Nat} {a : Option Addr} {xs : List Int} (h : AtC w r bn a c xs) (v0 v1 v2 v3 v4 : Value) : AtC (((((w.setCell ⟨bn, 0, none⟩ v0).setCell ⟨bn, 1, none⟩ v1).setCell ⟨bn, 2, none⟩ v2).setCell ⟨bn, 3, none⟩ v3).setCell ⟨bn, 4, none⟩ v4) r bn a c xs := ⟨h.at'.set5 v0 v1 v2 v3 v4, h.c1, h.c2, h.c3, h.lo⟩
abbrev ocells (M ev : Int) (sa : Option Addr) (sn sc : Nat) (v : Value) (ea : Option Addr) (en ec : Nat) : Array Value := #[.int .i64 M, .int .i64 ev, .slice sa sn sc, v, .slice ea en ec]
/-- What the walk knows where the machine has been laid out. -/
structure PI (w V W : World) (b6 : Nat) (m : Mach) (T : List Int) (M : Int) (sa : Option Addr) (sc : Nat) (ea : Option Addr) (ec : Nat) : Prop where
  out : Blk W b6 25 (ocells M m.ev sa (placesL T m.starts).length sc (.slice none 0 0) ea (placesL T m.ends).length ec)
  bel : Below V.heap.size V W
  lo : V.heap.size ≤ b6
  aS : AtC W (w.heap.size + 1) b6 sa sc (placesL T m.starts)
  aE : AtC W (w.heap.size + 1) b6 ea ec (placesL T m.ends)

theorem Kp.atC {bn r c : Nat} {X W : World} {a : Option Addr} {xs : List Int} (h : Kp bn X W) (ha : AtC X r bn a c xs) : AtC W r bn a c xs := by
  refine ⟨?_, ha.c1, ha.c2, ha.c3, ha.lo⟩
  rcases ha.at' with h0 | ⟨b, off, h1, h2, h3, h4⟩
  · exact .inl h0
  · exact .inr ⟨b, off, h1, h2, Nat.lt_of_lt_of_le h3 h.size, fun j hj => (World.cell?_of_block (w := X) (h.same b h3 h2.1)).trans (h4 j hj)⟩
theorem AtC.setr5 {w : World} {r bn c : Nat} {a : Option Addr} {xs : List Int} (h : AtC w r bn a c xs) (v0 v1 v2 v3 v4 : Value) : AtC (((((w.setCell ⟨r, 0, none⟩ v0).setCell ⟨r, 1, none⟩ v1).setCell ⟨r, 2, none⟩ v2).setCell ⟨r, 3, none⟩ v3).setCell ⟨r, 4, none⟩ v4) r bn a c xs :=
  ⟨((((h.at'.setr v0).setr v1).setr v2).setr v3).setr v4, h.c1, h.c2, h.c3, h.lo⟩
theorem OwnA.set {W : World} {B b j : Nat} {v : Value} {L : List Arr} (h : OwnA W B v L) (hb : b < B) (x : Value) : OwnA (W.setCell ⟨b, j, none⟩ x) B v L := by
  refine ⟨h.1, ?_⟩
  rcases h.2 with hn | ⟨g, cap, cur, rfl, hg, hgg, rest⟩
  · exact .inl hn
  · exact .inr ⟨g, cap, cur, rfl, hg, (Below.heap_setCell W ⟨b, j, none⟩ x g (by show g ≠ b; omega)).trans hgg, rest⟩
theorem OwnA.set5 {W : World} {B b : Nat} {v : Value} {L : List Arr} (h : OwnA W B v L) (hb : b < B) (v0 v1 v2 v3 v4 : Value) : OwnA (((((W.setCell ⟨b, 0, none⟩ v0).setCell ⟨b, 1, none⟩ v1).setCell ⟨b, 2, none⟩ v2).setCell ⟨b, 3, none⟩ v3).setCell ⟨b, 4, none⟩ v4) B v L :=
  ((((h.set hb v0).set hb v1).set hb v2).set hb v3).set hb v4

/-- What holds from round to round: the machine's block, its arrows so far. -/
structure PL (w X W : World) (b6 : Nat) (m : Mach) (T : List Int) (M : Int) (sa : Option Addr) (sc : Nat) (ea : Option Addr) (ec : Nat) (v : Value) (L : List Arr) : Prop where
  out : Blk W b6 25 (ocells M m.ev sa (placesL T m.starts).length sc v ea (placesL T m.ends).length ec)
  own : OwnA W X.heap.size v L
  kp : Kp b6 X W
  bel : Below w.heap.size w W
theorem PL.alloc {w X W : World} {b6 : Nat} {m : Mach} {T : List Int} {M : Int} {sa : Option Addr} {sc : Nat} {ea : Option Addr} {ec : Nat} {v : Value} {L : List Arr} (h : PL w X W b6 m T M sa sc ea ec v L) (o : Obj) : PL w X (W.alloc o) b6 m T M sa sc ea ec v L :=
  ⟨h.out.alloc o, World.ownsRow.alloc h.own o, h.kp.alloc o, h.bel.alloc h.bel.size o⟩
/-- One arrow more. -/
theorem PL.grow {w X W W' : World} {b6 : Nat} {m : Mach} {T : List Int} {M : Int} {sa : Option Addr} {sc : Nat} {ea : Option Addr} {ec : Nat} {v v' : Value} {L L' : List Arr} {o o' : Obj} (h : PL w X W b6 m T M sa sc ea ec v L) (hlo : w.heap.size ≤ b6) (hX : b6 < X.heap.size) (hown : OwnA W' X.heap.size v' L') (g : ((W.alloc o).alloc o').grownBy W' v.ownBlock) :
    Blk W' b6 25 (ocells M m.ev sa (placesL T m.starts).length sc v ea (placesL T m.ends).length ec) ∧ PL w X (W'.setCell ⟨b6, 3, none⟩ v') b6 m T M sa sc ea ec v' L' := by
  have h2 := (h.alloc o).alloc o'
  have hr : ∀ j, v.ownBlock = some j → X.heap.size ≤ j := fun j hj => (World.ownsRow.lt h.own j hj).1
  have b1 : Blk W' b6 25 (ocells M m.ev sa (placesL T m.starts).length sc v ea (placesL T m.ends).length ec) := (g.block b6 h2.out.lt (fun e => by have := hr b6 e.symm; omega)).trans h2.out
  have hwX : w.heap.size ≤ X.heap.size := Nat.le_trans hlo (Nat.le_of_lt hX)
  refine ⟨b1, b1.set 3 v', hown.set hX v', (h2.kp.grown g hr).set 3 v', ?_⟩
  exact (h2.bel.grown g h2.bel.size (fun j hj => Nat.le_trans hwX (hr j hj))).setCell (p := ⟨b6, 3, none⟩) hlo v'

/-- A machine's slices lie from block B on. -/
structure FrM (B : Nat) (m : Mach) (l : ML) : Prop where
  s : m.starts = [] ∨ ∃ b off, l.a1 = some ⟨b, off, none⟩ ∧ B ≤ b
  a : m.arrows = [] ∨ ∃ b off, l.a2 = some ⟨b, off, none⟩ ∧ B ≤ b
  e : m.ends = [] ∨ ∃ b off, l.a3 = some ⟨b, off, none⟩ ∧ B ≤ b
theorem At.set {w : World} {a : Option Addr} {xs : List Int} {B b j : Nat} (h : At w a xs) (hf : xs = [] ∨ ∃ b off, a = some ⟨b, off, none⟩ ∧ B ≤ b) (hb : b < B) (v : Value) : At (w.setCell ⟨b, j, none⟩ v) a xs := by
  rcases h with h | ⟨g, off, h1, h2, h3⟩
  · exact .inl h
  · rcases hf with hf | ⟨g', off', h1', h4⟩
    · exact .inl hf
    · rw [h1] at h1'; cases h1'
      exact .inr ⟨g, off, h1, by rw [size_set]; exact h2, fun i hi => (World.cell?_of_block (w := w) (Below.heap_setCell w ⟨b, j, none⟩ v g (by show g ≠ b; omega))).trans (h3 i hi)⟩
theorem AtA.set {w : World} {a : Option Addr} {xs : List Arr} {B b j : Nat} (h : AtA w a xs) (hf : xs = [] ∨ ∃ b off, a = some ⟨b, off, none⟩ ∧ B ≤ b) (hb : b < B) (v : Value) : AtA (w.setCell ⟨b, j, none⟩ v) a xs := by
  rcases h with h | ⟨g, off, h1, h2, h3⟩
  · exact .inl h
  · rcases hf with hf | ⟨g', off', h1', h4⟩
    · exact .inl hf
    · rw [h1] at h1'; cases h1'
      have e : ∀ q, (w.setCell ⟨b, j, none⟩ v).cell? ⟨g, q, none⟩ = w.cell? ⟨g, q, none⟩ := fun q => World.cell?_of_block (w := w) (Below.heap_setCell w ⟨b, j, none⟩ v g (by show g ≠ b; omega))
      exact .inr ⟨g, off, h1, by rw [size_set]; exact h2, fun i hi => by rw [e, e, e]; exact h3 i hi⟩
theorem MAt.set {w : World} {m : Mach} {l : ML} {B b j : Nat} (h : MAt w m l) (hf : FrM B m l) (hb : b < B) (v : Value) : MAt (w.setCell ⟨b, j, none⟩ v) m l :=
  ⟨h.s.set hf.s hb v, h.a.set hf.a hb v, h.e.set hf.e hb v, h.s1, h.s2, h.s3, h.a1, h.a2, h.a3, h.e1, h.e2, h.e3⟩
theorem MAt.set5 {w : World} {m : Mach} {l : ML} {B b : Nat} (h : MAt w m l) (hf : FrM B m l) (hb : b < B) (v0 v1 v2 v3 v4 : Value) : MAt (((((w.setCell ⟨b, 0, none⟩ v0).setCell ⟨b, 1, none⟩ v1).setCell ⟨b, 2, none⟩ v2).setCell ⟨b, 3, none⟩ v3).setCell ⟨b, 4, none⟩ v4) m l :=
  ((((h.set hf hb v0).set hf hb v1).set hf hb v2).set hf hb v3).set hf hb v4
theorem At.set5 {w : World} {a : Option Addr} {xs : List Int} {B b : Nat} (h : At w a xs) (hf : xs = [] ∨ ∃ b off, a = some ⟨b, off, none⟩ ∧ B ≤ b) (hb : b < B) (v0 v1 v2 v3 v4 : Value) : At (((((w.setCell ⟨b, 0, none⟩ v0).setCell ⟨b, 1, none⟩ v1).setCell ⟨b, 2, none⟩ v2).setCell ⟨b, 3, none⟩ v3).setCell ⟨b, 4, none⟩ v4) a xs :=
  ((((h.set hf hb v0).set hf hb v1).set hf hb v2).set hf hb v3).set hf hb v4
theorem Own.fr {w : World} {B n c : Nat} {a : Option Addr} {xs : List Int} (h : Own w B (.slice a n c) xs) : xs = [] ∨ ∃ b off, a = some ⟨b, off, none⟩ ∧ B ≤ b := by
  rcases h.cells_of with ⟨-, h0⟩ | ⟨g, cap, h0, h5, -, -, -⟩
  · exact .inl h0
  · cases h0; exact .inr ⟨g, 0, rfl, h5⟩
theorem OwnA.fr {w : World} {B n c : Nat} {a : Option Addr} {xs : List Arr} (h : OwnA w B (.slice a n c) xs) : xs = [] ∨ ∃ b off, a = some ⟨b, off, none⟩ ∧ B ≤ b := by
  rcases h.forms with ⟨-, h0⟩ | ⟨g, cap, h0, h5, -⟩
  · exact .inl h0
  · cases h0; exact .inr ⟨g, 0, rfl, h5⟩
theorem fr_mono {a : Option Addr} {n : Prop} {B B' : Nat} (h : n ∨ ∃ b off, a = some ⟨b, off, none⟩ ∧ B ≤ b) (hB : B' ≤ B) : n ∨ ∃ b off, a = some ⟨b, off, none⟩ ∧ B' ≤ b := by
  rcases h with h | ⟨b, off, h1, h2⟩
  · exact .inl h
  · exact .inr ⟨b, off, h1, by omega⟩

/-- The machine of those states that stay. -/
def partM (m : Mach) (T : List Int) (M : Int) : Mach := ⟨M, m.ev, placesL T m.starts, trimA T m.arrows, placesL T m.ends⟩

end Go.Proofs.YtcjcjaeaoianfaaDoor
namespace Go.Proofs.YtcjcjaeaoianfaaDoor
open Go.RowKit

set_option maxHeartbeats 400000 in
theorem refHas_some (b off cap : Nat) (xs : List Int) (n : Int) (w : World) (hl : xs.length ≤ 9223372036854775807) (hc : Cells w b off xs) :
    Calls Tryd.prog 75 #[.slice (some ⟨b, off, none⟩) xs.length cap, .int .i64 n] w fun e w' => e = .returned (.bool (hasB xs n)) ∧ w' = w := by
  go_enter Tryd.func75, Tryd.ntmps75
  go_wp2
  go_loop [5] (fun i => ∃ k : Nat, k ≤ xs.length ∧ i = .int .i64 k ∧ Hid (hasB xs n = hasB (xs.drop k) n)) (fun i => xs.length - (intOf i).toNat)
  case atStart => exact ⟨0, Nat.zero_le _, rfl, rfl⟩
  case round =>
    obtain ⟨k, hk, rfl, he⟩ := hrel
    by_cases hlt : k < xs.length
    · obtain ⟨x, HX, hcell⟩ := hc.at hlt
      go_wp2
      · go_ret
        exact ⟨ret_bool (has_hit hlt he HX (by assumption)), rfl⟩
      · go_round
        case rel => exact ⟨k + 1, by omega, by go_num, has_miss hlt he HX (by assumption)⟩
        case measure => simp [intOf]; omega
    · go_wp2
      go_ret
      exact ⟨ret_bool (has_end hlt he), rfl⟩

set_option maxHeartbeats 400000 in
theorem refHas_nil (a : Option Addr) (cap : Nat) (n : Int) (w : World) :
    Calls Tryd.prog 75 #[.slice a 0 cap, .int .i64 n] w fun e w' => e = .returned (.bool false) ∧ w' = w := by
  go_enter Tryd.func75, Tryd.ntmps75
  go_wp2
  refine wp_loop_rounds 1 ?_
  rw [rounds_succ]
  go_wp2
  go_ret
  exact ⟨rfl, rfl⟩

theorem refHas_any (a : Option Addr) (cap : Nat) (xs : List Int) (n : Int) (w : World) (hs : At w a xs) (hl : xs.length ≤ maxLen) :
    Calls Tryd.prog 75 #[.slice a xs.length cap, .int .i64 n] w fun e w' => e = .returned (.bool (hasB xs n)) ∧ w' = w := by
  rcases hs with rfl | ⟨b, off, rfl, -, hc⟩
  · exact refHas_nil a cap n w
  · exact refHas_some b off cap xs n w hl hc

end Go.Proofs.YtcjcjaeaoianfaaDoor
namespace Go.Proofs.YtcjcjaeaoianfaaDoor
open Go.RowKit
set_option linter.unusedVariables false

/-- Are two lists one? (A function of our own, which the walk leaves as it stands.) -/
def sameB (xs ys : List Int) : Bool := xs == ys

theorem same_len {xs ys : List Int} (h : ¬ xs.length = ys.length) : false = sameB xs ys := by
  rw [sameB, eq_comm, beq_eq_false_iff_ne]; intro e; exact h (by rw [e])
theorem same_no {xs ys : List Int} {k : Nat} {x y : Int} (hx : Hid (x = xs[k]?.getD 0)) (hy : Hid (y = ys[k]?.getD 0)) (h : ¬ x = y) : false = sameB xs ys := by
  rw [sameB, eq_comm, beq_eq_false_iff_ne]; intro e; exact h (by rw [hx.out, hy.out, e])
theorem same_yes {xs ys : List Int} {k : Nat} {x y : Int} (h1 : k < xs.length) (h2 : k < ys.length) (hx : Hid (x = xs[k]?.getD 0)) (hy : Hid (y = ys[k]?.getD 0)) (h : x = y) (e : Hid (xs.take k = ys.take k)) : Hid (xs.take (k + 1) = ys.take (k + 1)) := by
  show xs.take (k + 1) = ys.take (k + 1)
  rw [List.take_add_one, List.take_add_one, e.out]
  have hx := hx.out; have hy := hy.out
  rw [List.getElem?_eq_getElem h1] at hx ⊢
  rw [List.getElem?_eq_getElem h2] at hy ⊢
  simp only [Option.getD_some] at hx hy
  rw [← hx, ← hy, h]
theorem same_end {xs ys : List Int} {k : Nat} (hl : xs.length = ys.length) (h : ¬ k < xs.length) (e : Hid (xs.take k = ys.take k)) : true = sameB xs ys := by
  have e := e.out
  rw [List.take_of_length_le (by omega), List.take_of_length_le (by omega)] at e
  subst e; simp [sameB]

set_option maxHeartbeats 400000 in
theorem same_ne (a b : Option Addr) (ca cb : Nat) (xs ys : List Int) (w : World) (hne : ¬ xs.length = ys.length) (hl : xs.length ≤ 9223372036854775807) (hm : ys.length ≤ 9223372036854775807) :
    Calls Tryd.prog 18 #[.slice a xs.length ca, .slice b ys.length cb] w fun e w' => e = .returned (.bool (sameB xs ys)) ∧ ∃ q, w' = w.drewN q := by
  have hb : ((xs.length : Int) != (ys.length : Int)) = true := by rw [bne_iff_ne]; omega
  go_enter Tryd.func18, Tryd.ntmps18
  go_wp2
  go_ret
  exact ⟨ret_bool (same_len hne), 0, rfl⟩

set_option maxHeartbeats 1000000 in
theorem same_eq (ba oa ca bb ob cb : Nat) (xs ys : List Int) (w : World) (hlen : Hid (xs.length = ys.length)) (hl : xs.length ≤ 9223372036854775807) (hca : Cells w ba oa xs) (hcb : Cells w bb ob ys) :
    Calls Tryd.prog 18 #[.slice (some ⟨ba, oa, none⟩) xs.length ca, .slice (some ⟨bb, ob, none⟩) ys.length cb] w fun e w' => e = .returned (.bool (sameB xs ys)) ∧ ∃ q, w' = w.drewN q := by
  have hm : ys.length ≤ 9223372036854775807 := by have := hlen.out; omega
  have hb : ((xs.length : Int) != (ys.length : Int)) = false := by have := hlen.out; simp; omega
  go_enter Tryd.func18, Tryd.ntmps18
  go_wp2
  go_loopw [5] (fun i wr => ∃ k q : Nat, k ≤ xs.length ∧ i = .int .i64 k ∧ wr = w.drewN q ∧ Hid (xs.take k = ys.take k)) (fun i _ => xs.length - (intOf i).toNat)
  case atStart => exact ⟨0, 0, Nat.zero_le _, rfl, rfl, rfl⟩
  case round =>
    obtain ⟨k, q, hk, rfl, rfl, he⟩ := hrel
    by_cases hlt : k < xs.length
    · have hlt2 : k < ys.length := by have := hlen.out; omega
      obtain ⟨x, HX, hcx⟩ := hca.at hlt
      obtain ⟨y, HY, hcy⟩ := hcb.at hlt2
      by_cases hxy : x = y
      · have HXY : Hid (x = y) := hxy
        have d : (x != y) = false := by simp [hxy]
        clear hxy
        go_wp2
        go_quiet (fail)
        go_wp2
        go_roundw
        case rel => exact ⟨k + 1, _, by omega, by go_num, rfl, same_yes hlt hlt2 HX HY HXY.out he⟩
        case measure => simp [intOf]; omega
      · have d : (x != y) = true := by simp [hxy]
        go_wp2
        go_quiet (fail)
        go_wp2
        go_ret
        exact ⟨ret_bool (same_no HX HY hxy), _, World.drewN_drewN _ _ _⟩
    · go_wp2
      go_ret
      exact ⟨ret_bool (same_end hlen.out hlt he), q, rfl⟩

set_option maxHeartbeats 400000 in
theorem same_nil (a b : Option Addr) (ca cb : Nat) (w : World) :
    Calls Tryd.prog 18 #[.slice a 0 ca, .slice b 0 cb] w fun e w' => e = .returned (.bool true) ∧ ∃ q, w' = w.drewN q := by
  go_enter Tryd.func18, Tryd.ntmps18
  go_wp2
  refine wp_loop_rounds 1 ?_
  rw [rounds_succ]
  go_wp2
  go_ret
  exact ⟨rfl, 0, rfl⟩

theorem same_any (a b : Option Addr) (ca cb : Nat) (xs ys : List Int) (w : World) (hs : At w a xs) (ht : At w b ys) (hl : xs.length ≤ maxLen) (hm : ys.length ≤ maxLen) :
    Calls Tryd.prog 18 #[.slice a xs.length ca, .slice b ys.length cb] w fun e w' => e = .returned (.bool (sameB xs ys)) ∧ ∃ q, w' = w.drewN q := by
  by_cases hne : xs.length = ys.length
  · rcases hs with rfl | ⟨ba, oa, rfl, -, hca⟩
    · have : ys = [] := List.eq_nil_of_length_eq_zero (by simpa using hne.symm)
      subst this
      exact same_nil a b ca cb w
    · rcases ht with rfl | ⟨bb, ob, rfl, -, hcb⟩
      · have : xs = [] := List.eq_nil_of_length_eq_zero (by simpa using hne)
        subst this
        exact same_nil _ b ca cb w
      · exact same_eq ba oa ca bb ob cb xs ys w hne hl hca hcb
  · exact same_ne a b ca cb xs ys w hne hl hm

end Go.Proofs.YtcjcjaeaoianfaaDoor
namespace Go.Proofs.YtcjcjaeaoianfaaDoor
open Go.RowKit
set_option linter.unusedVariables false

theorem sameA_no {k : Nat} {p q : List Arr} {a b : Arr} {t : Bool} (h : k < p.length) (h' : k < q.length) (ha : Hid (a = p[k]?.getD arr0)) (hb : Hid (b = q[k]?.getD arr0)) (e : Hid (t = sameA (p.drop k) (q.drop k))) (hn : ¬ arrEq a b) : false = t := by
  rw [e.out, dropA h, dropA h', ← ha.out, ← hb.out, sameA, if_neg hn]
theorem sameA_yes {k : Nat} {p q : List Arr} {a b : Arr} {t : Bool} (h : k < p.length) (h' : k < q.length) (ha : Hid (a = p[k]?.getD arr0)) (hb : Hid (b = q[k]?.getD arr0)) (e : Hid (t = sameA (p.drop k) (q.drop k))) (hn : arrEq a b) : Hid (t = sameA (p.drop (k + 1)) (q.drop (k + 1))) := by
  show t = _
  rw [e.out, dropA h, dropA h', ← ha.out, ← hb.out, sameA, if_pos hn]
theorem sameA_end {k : Nat} {p q : List Arr} {t : Bool} (h : ¬ k < p.length) (hl : p.length = q.length) (e : Hid (t = sameA (p.drop k) (q.drop k))) : true = t := by
  rw [e.out, List.drop_eq_nil_of_le (by omega), List.drop_eq_nil_of_le (by omega)]; rfl

/-- Are two machines one? -/
def sameM (m n : Mach) : Bool := decide (m.st = n.st ∧ m.ev = n.ev) && (sameB m.starts n.starts && (sameB m.ends n.ends && (decide (m.arrows.length = n.arrows.length) && sameA m.arrows n.arrows)))

theorem sameM_go {m n : Mach} (h1 : m.st = n.st) (h2 : m.ev = n.ev) (h3 : sameB m.starts n.starts = true) (h4 : sameB m.ends n.ends = true) (h5 : m.arrows.length = n.arrows.length) : sameM m n = sameA m.arrows n.arrows := by
  unfold sameM; simp [h1, h2, h3, h4, h5]
theorem sameM_no1 {m n : Mach} (h : ¬ (m.st = n.st ∧ m.ev = n.ev)) : false = sameM m n := by unfold sameM; simp only [h, decide_false, Bool.false_and]
theorem sameM_no2 {m n : Mach} (h : sameB m.starts n.starts = false) : false = sameM m n := by unfold sameM; simp [h]
theorem sameM_no3 {m n : Mach} (h : sameB m.ends n.ends = false) : false = sameM m n := by unfold sameM; simp [h]
theorem sameM_no4 {m n : Mach} (h : ¬ m.arrows.length = n.arrows.length) : false = sameM m n := by unfold sameM; simp [h]

theorem below_box2 {w wr : World} {o o' : Obj} (hb : Below (w.heap.size + 2) ((w.alloc o).alloc o') wr) : Below w.heap.size w wr :=
  (((Below.refl _ _).alloc (Nat.le_refl _) o).alloc (by simp) o').trans (hb.mono (by omega))

theorem box2_cells {w wr : World} {m n : Mach} {l k : ML} {T : TypeId} (hb : Below (w.heap.size + 2) ((w.alloc (.cells (mcells m l) T)).alloc (.cells (mcells n k) T)) wr) :
    (wr.cell? ⟨w.heap.size, 0, none⟩ = some (.int .i64 m.st) ∧ wr.cell? ⟨w.heap.size, 1, none⟩ = some (.int .i64 m.ev) ∧ wr.cell? ⟨w.heap.size, 2, none⟩ = some (.slice l.a1 m.starts.length l.c1) ∧
    wr.cell? ⟨w.heap.size, 3, none⟩ = some (.slice l.a2 m.arrows.length l.c2) ∧ wr.cell? ⟨w.heap.size, 4, none⟩ = some (.slice l.a3 m.ends.length l.c3)) ∧
    (wr.cell? ⟨w.heap.size + 1, 0, none⟩ = some (.int .i64 n.st) ∧ wr.cell? ⟨w.heap.size + 1, 1, none⟩ = some (.int .i64 n.ev) ∧ wr.cell? ⟨w.heap.size + 1, 2, none⟩ = some (.slice k.a1 n.starts.length k.c1) ∧
    wr.cell? ⟨w.heap.size + 1, 3, none⟩ = some (.slice k.a2 n.arrows.length k.c2) ∧ wr.cell? ⟨w.heap.size + 1, 4, none⟩ = some (.slice k.a3 n.ends.length k.c3)) := by
  constructor
  · exact box_cells (((Below.refl _ _).alloc (by simp) _).trans (hb.mono (by omega)))
  · have := box_cells (w := w.alloc (.cells (mcells m l) T)) (wr := wr) (m := n) (l := k) (T := T) (by rw [World.size_alloc]; exact hb)
    rw [World.size_alloc] at this
    exact this

set_option maxHeartbeats 2000000 in
theorem refMSame_big (m n : Mach) (a1 : Option Addr) (c1 b off c2 : Nat) (a3 : Option Addr) (c3 : Nat) (e1 : Option Addr) (d1 b' off' d2 : Nat) (e3 : Option Addr) (d3 : Nat) (w : World)
    (h : MAt w m ⟨a1, c1, some ⟨b, off, none⟩, c2, a3, c3⟩) (hb : b < w.heap.size) (hca : CellsA w b off m.arrows)
    (h' : MAt w n ⟨e1, d1, some ⟨b', off', none⟩, d2, e3, d3⟩) (hb' : b' < w.heap.size) (hca' : CellsA w b' off' n.arrows)
    (q1 : Hid (m.st = n.st)) (q2 : Hid (m.ev = n.ev)) (q3 : Hid (sameB m.starts n.starts = true)) (q4 : Hid (sameB m.ends n.ends = true)) (q5 : Hid (m.arrows.length = n.arrows.length)) :
    Calls Tryd.prog 64 #[mval m ⟨a1, c1, some ⟨b, off, none⟩, c2, a3, c3⟩, mval n ⟨e1, d1, some ⟨b', off', none⟩, d2, e3, d3⟩] w fun e w' => e = .returned (.bool (sameM m n)) ∧ Below w.heap.size w w' := by
  have z1 : m.arrows.length ≤ 9223372036854775807 := Nat.le_trans h.a1 h.a2
  have z2 : n.arrows.length ≤ 9223372036854775807 := Nat.le_trans h'.a1 h'.a2
  have l1 : m.starts.length ≤ maxLen := Nat.le_trans h.s1 h.s2
  have l2 : n.starts.length ≤ maxLen := Nat.le_trans h'.s1 h'.s2
  have l3 : m.ends.length ≤ maxLen := Nat.le_trans h.e1 h.e2
  have l4 : n.ends.length ≤ maxLen := Nat.le_trans h'.e1 h'.e2
  have hgo : Hid (sameM m n = sameA (m.arrows.drop 0) (n.arrows.drop 0)) := sameM_go q1.out q2.out q3.out q4.out q5.out
  have f1 : (m.st != n.st) = false := by simp [q1.out]
  have f2 : (m.ev != n.ev) = false := by simp [q2.out]
  have f5 : ((m.arrows.length : Int) != (n.arrows.length : Int)) = false := by simp [q5.out]
  have b0 : Below w.heap.size w ((w.alloc (.cells (mcells m ⟨a1, c1, some ⟨b, off, none⟩, c2, a3, c3⟩) 25)).alloc (.cells (mcells n ⟨e1, d1, some ⟨b', off', none⟩, d2, e3, d3⟩) 25)) := ((Below.refl _ _).alloc (Nat.le_refl _) _).alloc (by simp) _
  have g := h.below b0 (Nat.le_refl _)
  have g' := h'.below b0 (Nat.le_refl _)
  go_enter Tryd.func64, Tryd.ntmps64
  go_wp2_with fail
  refine (same_any a1 e1 c1 d1 m.starts n.starts _ g.s g'.s l1 l2).mono ?_
  rintro e w1 ⟨rfl, r1, rfl⟩
  rw [q3.out]
  go_wp2_with fail
  refine (same_any a3 e3 c3 d3 m.ends n.ends _ (At.drewN g.e r1) (At.drewN g'.e r1) l3 l4).mono ?_
  rintro e w1 ⟨rfl, r2, rfl⟩
  rw [q4.out]
  clear g g' h h' b0
  go_wp2_with fail
  go_loopw [5] (fun i wr => ∃ k : Nat, k ≤ m.arrows.length ∧ i = .int .i64 k ∧ Below (w.heap.size + 2) ((w.alloc (.cells (mcells m ⟨a1, c1, some ⟨b, off, none⟩, c2, a3, c3⟩) 25)).alloc (.cells (mcells n ⟨e1, d1, some ⟨b', off', none⟩, d2, e3, d3⟩) 25)) wr ∧ Hid (sameM m n = sameA (m.arrows.drop k) (n.arrows.drop k))) (fun i _ => m.arrows.length - (intOf i).toNat)
  case atStart => exact ⟨0, Nat.zero_le _, rfl, below_drewN (Below.refl _ _) _, hgo⟩
  case round =>
    obtain ⟨k, hk, rfl, hbel, hr⟩ := hrel
    obtain ⟨⟨x0, x1, x2, x3, x4⟩, ⟨t0, t1, t2, t3, t4⟩⟩ := box2_cells hbel
    dsimp only at x3 t3
    have hold := below_box2 hbel
    by_cases hlt : k < m.arrows.length
    · have hlt' : k < n.arrows.length := by have := q5.out; omega
      obtain ⟨a, HA, y0, y1, y2⟩ := hca.at hlt
      have y0' := (hold.cell (p := ⟨b, off + k * 3, none⟩) hb).trans y0
      have y1' := (hold.cell (p := ⟨b, off + k * 3 + 1, none⟩) hb).trans y1
      have y2' := (hold.cell (p := ⟨b, off + k * 3 + 2, none⟩) hb).trans y2
      obtain ⟨c, HC, v0, v1, v2⟩ := hca'.at hlt'
      have v0' := (hold.cell (p := ⟨b', off' + k * 3, none⟩) hb').trans v0
      have v1' := (hold.cell (p := ⟨b', off' + k * 3 + 1, none⟩) hb').trans v1
      have v2' := (hold.cell (p := ⟨b', off' + k * 3 + 2, none⟩) hb').trans v2
      clear y0 y1 y2 v0 v1 v2 x0 x1 x2 x4 t0 t1 t2 t4
      have heq : ∀ w : World, (Op.equalIn 10000 51 (.agg #[.int .i64 a.f, .int .i64 a.e, .int .i64 a.t]) (.agg #[.int .i64 c.f, .int .i64 c.e, .int .i64 c.t])).run Tryd.prog w = .ok (arrEqB a c) w := run_equalIn_arrow a c
      have hgd := run_guard_arrow
      by_cases hq : arrEq a c
      · have HQ : Hid (arrEq a c) := hq
        have fq : arrEqB a c = true := by simp [arrEqB, hq]
        clear hq
        go_wp2
        go_quiet (fail)
        go_wp2
        go_roundw
        case rel => exact ⟨k + 1, by omega, by go_num, below_drewN hbel _, sameA_yes hlt hlt' HA HC hr HQ.out⟩
        case measure => simp [intOf]; omega
      · have HQ : Hid (¬ arrEq a c) := hq
        have fq : arrEqB a c = false := by simp [arrEqB, hq]
        clear hq
        go_wp2
        go_quiet (fail)
        go_wp2
        go_ret
        exact ⟨ret_bool (sameA_no hlt hlt' HA HC hr HQ.out), below_drewN hold _⟩
    · go_wp2
      go_ret
      exact ⟨ret_bool (sameA_end hlt q5.out hr), hold⟩

set_option maxHeartbeats 1000000 in
theorem refMSame_st (m n : Mach) (l k : ML) (w : World) (h : MAt w m l) (h' : MAt w n k) (q1 : Hid (¬ m.st = n.st)) :
    Calls Tryd.prog 64 #[mval m l, mval n k] w fun e w' => e = .returned (.bool (sameM m n)) ∧ Below w.heap.size w w' := by
  have b0 : Below w.heap.size w ((w.alloc (.cells (mcells m l) 25)).alloc (.cells (mcells n k) 25)) := ((Below.refl _ _).alloc (Nat.le_refl _) _).alloc (by simp) _
  have f1 : (m.st != n.st) = true := by simp [q1.out]
  go_enter Tryd.func64, Tryd.ntmps64
  go_wp2
  go_ret
  exact ⟨ret_bool (sameM_no1 (fun h => q1.out h.1)), b0⟩

set_option maxHeartbeats 1000000 in
theorem refMSame_ev (m n : Mach) (l k : ML) (w : World) (h : MAt w m l) (h' : MAt w n k) (q1 : Hid (m.st = n.st)) (q2 : Hid (¬ m.ev = n.ev)) :
    Calls Tryd.prog 64 #[mval m l, mval n k] w fun e w' => e = .returned (.bool (sameM m n)) ∧ Below w.heap.size w w' := by
  have b0 : Below w.heap.size w ((w.alloc (.cells (mcells m l) 25)).alloc (.cells (mcells n k) 25)) := ((Below.refl _ _).alloc (Nat.le_refl _) _).alloc (by simp) _
  have f1 : (m.st != n.st) = false := by simp [q1.out]
  have f2 : (m.ev != n.ev) = true := by simp [q2.out]
  go_enter Tryd.func64, Tryd.ntmps64
  go_wp2
  go_ret
  exact ⟨ret_bool (sameM_no1 (fun h => q2.out h.2)), b0⟩

set_option maxHeartbeats 1000000 in
theorem refMSame_starts (m n : Mach) (l k : ML) (w : World) (h : MAt w m l) (h' : MAt w n k) (q1 : Hid (m.st = n.st))(q2 : Hid (m.ev = n.ev))(q3 : Hid (sameB m.starts n.starts = false)) :
    Calls Tryd.prog 64 #[mval m l, mval n k] w fun e w' => e = .returned (.bool (sameM m n)) ∧ Below w.heap.size w w' := by
  have l1 : m.starts.length ≤ maxLen := Nat.le_trans h.s1 h.s2
  have l2 : n.starts.length ≤ maxLen := Nat.le_trans h'.s1 h'.s2
  have l3 : m.ends.length ≤ maxLen := Nat.le_trans h.e1 h.e2
  have l4 : n.ends.length ≤ maxLen := Nat.le_trans h'.e1 h'.e2
  have b0 : Below w.heap.size w ((w.alloc (.cells (mcells m l) 25)).alloc (.cells (mcells n k) 25)) := ((Below.refl _ _).alloc (Nat.le_refl _) _).alloc (by simp) _
  have g := h.below b0 (Nat.le_refl _)
  have g' := h'.below b0 (Nat.le_refl _)
  have f1 : (m.st != n.st) = false := by simp [q1.out]
  have f2 : (m.ev != n.ev) = false := by simp [q2.out]
  go_enter Tryd.func64, Tryd.ntmps64
  go_wp2_with fail
  refine (same_any l.a1 k.a1 l.c1 k.c1 m.starts n.starts _ g.s g'.s l1 l2).mono ?_
  rintro e w1 ⟨rfl, r1, rfl⟩
  rw [q3.out]
  go_wp2
  go_ret
  exact ⟨ret_bool (sameM_no2 q3.out), below_drewN b0 _⟩

set_option maxHeartbeats 1000000 in
theorem refMSame_ends (m n : Mach) (l k : ML) (w : World) (h : MAt w m l) (h' : MAt w n k) (q1 : Hid (m.st = n.st))(q2 : Hid (m.ev = n.ev))(q3 : Hid (sameB m.starts n.starts = true))(q4 : Hid (sameB m.ends n.ends = false)) :
    Calls Tryd.prog 64 #[mval m l, mval n k] w fun e w' => e = .returned (.bool (sameM m n)) ∧ Below w.heap.size w w' := by
  have l1 : m.starts.length ≤ maxLen := Nat.le_trans h.s1 h.s2
  have l2 : n.starts.length ≤ maxLen := Nat.le_trans h'.s1 h'.s2
  have l3 : m.ends.length ≤ maxLen := Nat.le_trans h.e1 h.e2
  have l4 : n.ends.length ≤ maxLen := Nat.le_trans h'.e1 h'.e2
  have b0 : Below w.heap.size w ((w.alloc (.cells (mcells m l) 25)).alloc (.cells (mcells n k) 25)) := ((Below.refl _ _).alloc (Nat.le_refl _) _).alloc (by simp) _
  have g := h.below b0 (Nat.le_refl _)
  have g' := h'.below b0 (Nat.le_refl _)
  have f1 : (m.st != n.st) = false := by simp [q1.out]
  have f2 : (m.ev != n.ev) = false := by simp [q2.out]
  go_enter Tryd.func64, Tryd.ntmps64
  go_wp2_with fail
  refine (same_any l.a1 k.a1 l.c1 k.c1 m.starts n.starts _ g.s g'.s l1 l2).mono ?_
  rintro e w1 ⟨rfl, r1, rfl⟩
  rw [q3.out]
  go_wp2_with fail
  refine (same_any l.a3 k.a3 l.c3 k.c3 m.ends n.ends _ (At.drewN g.e r1) (At.drewN g'.e r1) l3 l4).mono ?_
  rintro e w1 ⟨rfl, r2, rfl⟩
  rw [q4.out]
  go_wp2
  go_ret
  exact ⟨ret_bool (sameM_no3 q4.out), below_drewN b0 _⟩

set_option maxHeartbeats 1000000 in
theorem refMSame_len (m n : Mach) (l k : ML) (w : World) (h : MAt w m l) (h' : MAt w n k) (q1 : Hid (m.st = n.st))(q2 : Hid (m.ev = n.ev))(q3 : Hid (sameB m.starts n.starts = true))(q4 : Hid (sameB m.ends n.ends = true))(q5 : Hid (¬ m.arrows.length = n.arrows.length)) :
    Calls Tryd.prog 64 #[mval m l, mval n k] w fun e w' => e = .returned (.bool (sameM m n)) ∧ Below w.heap.size w w' := by
  have l1 : m.starts.length ≤ maxLen := Nat.le_trans h.s1 h.s2
  have l2 : n.starts.length ≤ maxLen := Nat.le_trans h'.s1 h'.s2
  have l3 : m.ends.length ≤ maxLen := Nat.le_trans h.e1 h.e2
  have l4 : n.ends.length ≤ maxLen := Nat.le_trans h'.e1 h'.e2
  have b0 : Below w.heap.size w ((w.alloc (.cells (mcells m l) 25)).alloc (.cells (mcells n k) 25)) := ((Below.refl _ _).alloc (Nat.le_refl _) _).alloc (by simp) _
  have g := h.below b0 (Nat.le_refl _)
  have g' := h'.below b0 (Nat.le_refl _)
  have f1 : (m.st != n.st) = false := by simp [q1.out]
  have f2 : (m.ev != n.ev) = false := by simp [q2.out]
  have f5 : ((m.arrows.length : Int) != (n.arrows.length : Int)) = true := by have := q5.out; rw [bne_iff_ne]; omega
  go_enter Tryd.func64, Tryd.ntmps64
  go_wp2_with fail
  refine (same_any l.a1 k.a1 l.c1 k.c1 m.starts n.starts _ g.s g'.s l1 l2).mono ?_
  rintro e w1 ⟨rfl, r1, rfl⟩
  rw [q3.out]
  go_wp2_with fail
  refine (same_any l.a3 k.a3 l.c3 k.c3 m.ends n.ends _ (At.drewN g.e r1) (At.drewN g'.e r1) l3 l4).mono ?_
  rintro e w1 ⟨rfl, r2, rfl⟩
  rw [q4.out]
  go_wp2
  go_ret
  exact ⟨ret_bool (sameM_no4 q5.out), below_drewN b0 _⟩

set_option maxHeartbeats 1000000 in
theorem refMSame_none (m n : Mach) (l k : ML) (w : World) (h : MAt w m l) (h' : MAt w n k) (q1 : Hid (m.st = n.st))(q2 : Hid (m.ev = n.ev))(q3 : Hid (sameB m.starts n.starts = true))(q4 : Hid (sameB m.ends n.ends = true))(p1 : Hid (m.arrows = [])) (p2 : Hid (n.arrows = [])) :
    Calls Tryd.prog 64 #[mval m l, mval n k] w fun e w' => e = .returned (.bool (sameM m n)) ∧ Below w.heap.size w w' := by
  have l1 : m.starts.length ≤ maxLen := Nat.le_trans h.s1 h.s2
  have l2 : n.starts.length ≤ maxLen := Nat.le_trans h'.s1 h'.s2
  have l3 : m.ends.length ≤ maxLen := Nat.le_trans h.e1 h.e2
  have l4 : n.ends.length ≤ maxLen := Nat.le_trans h'.e1 h'.e2
  have b0 : Below w.heap.size w ((w.alloc (.cells (mcells m l) 25)).alloc (.cells (mcells n k) 25)) := ((Below.refl _ _).alloc (Nat.le_refl _) _).alloc (by simp) _
  have g := h.below b0 (Nat.le_refl _)
  have g' := h'.below b0 (Nat.le_refl _)
  have f1 : (m.st != n.st) = false := by simp [q1.out]
  have f2 : (m.ev != n.ev) = false := by simp [q2.out]
  have n1 : m.arrows.length = 0 := by rw [p1.out]; rfl
  have n2 : n.arrows.length = 0 := by rw [p2.out]; rfl
  have HG : Hid (true = sameM m n) := by
    show true = sameM m n
    rw [sameM_go q1.out q2.out q3.out q4.out (by rw [n1, n2]), p1.out, p2.out]; rfl
  go_enter Tryd.func64, Tryd.ntmps64
  go_wp2_with fail
  refine (same_any l.a1 k.a1 l.c1 k.c1 m.starts n.starts _ g.s g'.s l1 l2).mono ?_
  rintro e w1 ⟨rfl, r1, rfl⟩
  rw [q3.out]
  go_wp2_with fail
  refine (same_any l.a3 k.a3 l.c3 k.c3 m.ends n.ends _ (At.drewN g.e r1) (At.drewN g'.e r1) l3 l4).mono ?_
  rintro e w1 ⟨rfl, r2, rfl⟩
  rw [q4.out]
  go_wp2_with fail
  refine wp_loop_rounds 1 ?_
  rw [rounds_succ]
  go_wp2
  go_ret
  exact ⟨ret_bool HG.out, below_drewN b0 _⟩

theorem refMSame_any (m n : Mach) (l k : ML) (w : World) (h : MAt w m l) (h' : MAt w n k) :
    Calls Tryd.prog 64 #[mval m l, mval n k] w fun e w' => e = .returned (.bool (sameM m n)) ∧ Below w.heap.size w w' := by
  by_cases q1 : m.st = n.st
  · by_cases q2 : m.ev = n.ev
    · by_cases q3 : sameB m.starts n.starts = true
      · by_cases q4 : sameB m.ends n.ends = true
        · by_cases q5 : m.arrows.length = n.arrows.length
          · obtain ⟨a1, c1, a2, c2, a3, c3⟩ := l
            obtain ⟨e1, d1, e2, d2, e3, d3⟩ := k
            rcases h.a with h0 | ⟨b, off, h0, hb, hc⟩
            · exact refMSame_none m n _ _ w h h' q1 q2 q3 q4 h0 (List.eq_nil_of_length_eq_zero (by rw [← q5, h0]; rfl))
            · rcases h'.a with h0' | ⟨b', off', h0', hb', hc'⟩
              · exact refMSame_none m n _ _ w h h' q1 q2 q3 q4 (List.eq_nil_of_length_eq_zero (by rw [q5, h0']; rfl)) h0'
              · have h0 : a2 = some ⟨b, off, none⟩ := h0
                subst h0
                have h0' : e2 = some ⟨b', off', none⟩ := h0'
                subst h0'
                exact refMSame_big m n a1 c1 b off c2 a3 c3 e1 d1 b' off' d2 e3 d3 w h hb hc h' hb' hc' q1 q2 q3 q4 q5
          · exact refMSame_len m n l k w h h' q1 q2 q3 q4 q5
        · exact refMSame_ends m n l k w h h' q1 q2 q3 (by show _ = _; rw [← Bool.not_eq_true]; exact q4)
      · exact refMSame_starts m n l k w h h' q1 q2 (by show _ = _; rw [← Bool.not_eq_true]; exact q3)
    · exact refMSame_ev m n l k w h h' q1 q2
  · exact refMSame_st m n l k w h h' q1

end Go.Proofs.YtcjcjaeaoianfaaDoor
namespace Go.Proofs.YtcjcjaeaoianfaaDoor
open Go.RowKit
set_option linter.unusedVariables false

set_option maxHeartbeats 400000 in
theorem refAhead_any (a b : Arr) (w : World) :
    Calls Tryd.prog 37 #[.agg #[.int .i64 a.f, .int .i64 a.e, .int .i64 a.t], .agg #[.int .i64 b.f, .int .i64 b.e, .int .i64 b.t]] w fun e w' => e = .returned (.bool (aheadB a b)) ∧ Below w.heap.size w w' := by
  obtain ⟨af, ae, at'⟩ := a
  obtain ⟨bf, be, bt⟩ := b
  by_cases h1 : af = bf
  · have d1 : (af != bf) = false := by simp [h1]
    have H1 : Hid (af = bf) := h1
    clear h1
    by_cases h2 : ae = be
    · have d2 : (ae != be) = false := by simp [h2]
      have H2 : Hid (ae = be) := h2
      clear h2
      go_enter Tryd.func37, Tryd.ntmps37
      go_wp2
      go_ret
      exact ⟨ret_bool (by simp [aheadB, H1.out, H2.out]), ((Below.refl _ _).alloc (Nat.le_refl _) _).alloc (by simp) _⟩
    · have d2 : (ae != be) = true := by simp [h2]
      go_enter Tryd.func37, Tryd.ntmps37
      go_wp2
      go_ret
      exact ⟨ret_bool (by simp [aheadB, H1.out, h2]), ((Below.refl _ _).alloc (Nat.le_refl _) _).alloc (by simp) _⟩
  · have d1 : (af != bf) = true := by simp [h1]
    go_enter Tryd.func37, Tryd.ntmps37
    go_wp2
    go_ret
    exact ⟨ret_bool (by simp [aheadB, h1]), ((Below.refl _ _).alloc (Nat.le_refl _) _).alloc (by simp) _⟩

theorem below_call {B n : Nat} {W0 wr w1 : World} {o : Obj} (h : Below B W0 wr) (hB : B ≤ wr.heap.size) (h1 : Below n ((wr.alloc o).drew) w1) (hn : B ≤ n) : Below B W0 w1 :=
  (h.alloc hB o).drew.trans (h1.mono hn)

end Go.Proofs.YtcjcjaeaoianfaaDoor
