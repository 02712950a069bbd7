/-
  What is said on the way through reach.part: what lies where.
  What determine.Make leaves, and the reference's; what its walk knows of the memory.
  The walk of determine.Make.
-/
import Derived.Deep.RegionHeld3
import Derived.RangeFuncBox
import Derived.Test.YtbdkaobbfmgnhaaDoorH03
import Derived.Test.YtbdkaobbfmgnhaaDoorH13
import Derived.Test.YtbdkaobbfmgnhaaDoorH04
import Derived.Test.YtbdkaobbfmgnhaaDoorH16
import Derived.Test.YtbdkaobbfmgnhaaDoorH18
import Derived.Test.YtbdkaobbfmgnhaaDoorH14
namespace Go.Proofs.YtbdkaobbfmgnhaaDoor
open Go.RowKit
set_option linter.unusedVariables false

/-- A machine's slices lie from block B on. -/
structure FrM (B : Nat) (m : Mach) (l : ML) : Prop where
  s : m.starts = [] ∨ ∃ b off, l.a1 = some ⟨b, off, none⟩ ∧ B ≤ b
  a : m.arrows = [] ∨ ∃ b off, l.a2 = some ⟨b, off, none⟩ ∧ B ≤ b
  e : m.ends = [] ∨ ∃ b off, l.a3 = some ⟨b, off, none⟩ ∧ B ≤ b
theorem At.set {w : World} {a : Option Addr} {xs : List Int} {B b j : Nat} (h : At w a xs) (hf : xs = [] ∨ ∃ b off, a = some ⟨b, off, none⟩ ∧ B ≤ b) (hb : b < B) (v : Value) : At (w.setCell ⟨b, j, none⟩ v) a xs := by
  rcases h with h | ⟨g, off, h1, h2, h3⟩
  · exact .inl h
  · rcases hf with hf | ⟨g', off', h1', h4⟩
    · exact .inl hf
    · rw [h1] at h1'; cases h1'
      exact .inr ⟨g, off, h1, by rw [size_set]; exact h2, fun i hi => (World.cell?_of_block (w := w) (Below.heap_setCell w ⟨b, j, none⟩ v g (by show g ≠ b; omega))).trans (h3 i hi)⟩
theorem AtA.set {w : World} {a : Option Addr} {xs : List Arr} {B b j : Nat} (h : AtA w a xs) (hf : xs = [] ∨ ∃ b off, a = some ⟨b, off, none⟩ ∧ B ≤ b) (hb : b < B) (v : Value) : AtA (w.setCell ⟨b, j, none⟩ v) a xs := by
  rcases h with h | ⟨g, off, h1, h2, h3⟩
  · exact .inl h
  · rcases hf with hf | ⟨g', off', h1', h4⟩
    · exact .inl hf
    · rw [h1] at h1'; cases h1'
      have e : ∀ q, (w.setCell ⟨b, j, none⟩ v).cell? ⟨g, q, none⟩ = w.cell? ⟨g, q, none⟩ := fun q => World.cell?_of_block (w := w) (Below.heap_setCell w ⟨b, j, none⟩ v g (by show g ≠ b; omega))
      exact .inr ⟨g, off, h1, by rw [size_set]; exact h2, fun i hi => by rw [e, e, e]; exact h3 i hi⟩
theorem MAt.set {w : World} {m : Mach} {l : ML} {B b j : Nat} (h : MAt w m l) (hf : FrM B m l) (hb : b < B) (v : Value) : MAt (w.setCell ⟨b, j, none⟩ v) m l :=
  ⟨h.s.set hf.s hb v, h.a.set hf.a hb v, h.e.set hf.e hb v, h.s1, h.s2, h.s3, h.a1, h.a2, h.a3, h.e1, h.e2, h.e3⟩
theorem MAt.set5 {w : World} {m : Mach} {l : ML} {B b : Nat} (h : MAt w m l) (hf : FrM B m l) (hb : b < B) (v0 v1 v2 v3 v4 : Value) : MAt (((((w.setCell ⟨b, 0, none⟩ v0).setCell ⟨b, 1, none⟩ v1).setCell ⟨b, 2, none⟩ v2).setCell ⟨b, 3, none⟩ v3).setCell ⟨b, 4, none⟩ v4) m l :=
  ((((h.set hf hb v0).set hf hb v1).set hf hb v2).set hf hb v3).set hf hb v4
theorem Own.fr {w : World} {B n c : Nat} {a : Option Addr} {xs : List Int} (h : Own w B (.slice a n c) xs) : xs = [] ∨ ∃ b off, a = some ⟨b, off, none⟩ ∧ B ≤ b := by
  rcases h.cells_of with ⟨-, h0⟩ | ⟨g, cap, h0, h5, -, -, -⟩
  · exact .inl h0
  · cases h0; exact .inr ⟨g, 0, rfl, h5⟩
theorem OwnA.fr {w : World} {B n c : Nat} {a : Option Addr} {xs : List Arr} (h : OwnA w B (.slice a n c) xs) : xs = [] ∨ ∃ b off, a = some ⟨b, off, none⟩ ∧ B ≤ b := by
  rcases h.forms with ⟨-, h0⟩ | ⟨g, cap, h0, h5, -⟩
  · exact .inl h0
  · cases h0; exact .inr ⟨g, 0, rfl, h5⟩
end Go.Proofs.YtbdkaobbfmgnhaaDoor
namespace Go.Proofs.YtbdkaobbfmgnhaaDoor
open Go.RowKit
set_option linter.unusedVariables false

/-- What Make answers. -/
def detOut (m : Mach) : Mach × List (List Int) × Int :=
  if mayB m = false then (m0, [], 2) else match detS m with
    | none => (m0, [], 1)
    | some s => (detM m s, s.sets, 0)
/-- What Make leaves. -/
def MakePost (w : World) (m : Mach) (e : Ending) (w' : World) : Prop := ∃ L va vc, e = .returned (.tuple #[mval (detOut m).1 L, .slice va (detOut m).2.1.length vc, .int .i64 (detOut m).2.2]) ∧ MAt w' (detOut m).1 L ∧ At2 w' va (detOut m).2.1 ∧ (detOut m).2.1.length ≤ 256 ∧ Below w.heap.size w w'
theorem makePost_err {w w' : World} {m : Mach} {c : Int} (h : detOut m = (m0, [], c)) (hb : Below w.heap.size w w') : MakePost w m (.returned (.tuple #[mval m0 ml0, .slice none 0 0, .int .i64 c])) w' := by
  unfold MakePost
  rw [h]
  exact ⟨ml0, none, 0, rfl, mat0 _, .inl rfl, Nat.zero_le _, hb⟩
theorem detOut_bad {m : Mach} (h : mayB m = false) : detOut m = (m0, [], 2) := by unfold detOut; rw [if_pos h]
theorem detOut_none {m : Mach} (h : mayB m = true) (hd : detS m = none) : detOut m = (m0, [], 1) := by unfold detOut; rw [if_neg (by rw [h]; simp), hd]
theorem detOut_some {m : Mach} {s : DS} (h : mayB m = true) (hd : detS m = some s) : detOut m = (detM m s, s.sets, 0) := by unfold detOut; rw [if_neg (by rw [h]; simp), hd]

theorem InnB.setM {W : World} {b j : Nat} {v : Value} {xs : List Int} {cs : Array Value} (h : InnB W v xs) (hb : Blk W b 25 cs) (x : Value) : InnB (W.setCell ⟨b, j, none⟩ x) v xs :=
  h.kept fun g cs' hg => Below.heap_setCell W ⟨b, j, none⟩ x g (fun e => by
    have hb' : W.heap[b]? = some (.cells cs 25 (0, 0)) := hb
    have e' : g = b := e
    rw [e', hb'] at hg
    cases hg)
theorem Own2.setM {W : World} {B b j : Nat} {v : Value} {LL : List (List Int)} {cs : Array Value} (h : Own2 W B v LL) (hb : Blk W b 25 cs) (hB : b < B) (x : Value) : Own2 (W.setCell ⟨b, j, none⟩ x) B v LL := by
  obtain ⟨vs, ho, hi⟩ := h
  exact ⟨vs, ownsRow_set ho hB x, fun k y ys h1 h2 => (hi k y ys h1 h2).setM hb x⟩

theorem dleaf {w X : World} {M : Mach} {L : ML} {vr : Value} {LL : List (List Int)} (hb : Below w.heap.size w X) (hr : Blk X (w.heap.size + 1) 25 zcells) (hM : MAt X M L) (hF : FrM (w.heap.size + 2) M L) (hO : Own2 X (w.heap.size + 2) vr LL) :
    Blk (((((X.setCell ⟨w.heap.size + 1, 0, none⟩ (.int .i64 M.st)).setCell ⟨w.heap.size + 1, 1, none⟩ (.int .i64 M.ev)).setCell ⟨w.heap.size + 1, 2, none⟩ (.slice L.a1 M.starts.length L.c1)).setCell ⟨w.heap.size + 1, 3, none⟩ (.slice L.a2 M.arrows.length L.c2)).setCell ⟨w.heap.size + 1, 4, none⟩ (.slice L.a3 M.ends.length L.c3)) (w.heap.size + 1) 25 (mcells M L)
    ∧ MAt (((((X.setCell ⟨w.heap.size + 1, 0, none⟩ (.int .i64 M.st)).setCell ⟨w.heap.size + 1, 1, none⟩ (.int .i64 M.ev)).setCell ⟨w.heap.size + 1, 2, none⟩ (.slice L.a1 M.starts.length L.c1)).setCell ⟨w.heap.size + 1, 3, none⟩ (.slice L.a2 M.arrows.length L.c2)).setCell ⟨w.heap.size + 1, 4, none⟩ (.slice L.a3 M.ends.length L.c3)) M L
    ∧ Own2 (((((X.setCell ⟨w.heap.size + 1, 0, none⟩ (.int .i64 M.st)).setCell ⟨w.heap.size + 1, 1, none⟩ (.int .i64 M.ev)).setCell ⟨w.heap.size + 1, 2, none⟩ (.slice L.a1 M.starts.length L.c1)).setCell ⟨w.heap.size + 1, 3, none⟩ (.slice L.a2 M.arrows.length L.c2)).setCell ⟨w.heap.size + 1, 4, none⟩ (.slice L.a3 M.ends.length L.c3)) (w.heap.size + 2) vr LL
    ∧ Below w.heap.size w (((((X.setCell ⟨w.heap.size + 1, 0, none⟩ (.int .i64 M.st)).setCell ⟨w.heap.size + 1, 1, none⟩ (.int .i64 M.ev)).setCell ⟨w.heap.size + 1, 2, none⟩ (.slice L.a1 M.starts.length L.c1)).setCell ⟨w.heap.size + 1, 3, none⟩ (.slice L.a2 M.arrows.length L.c2)).setCell ⟨w.heap.size + 1, 4, none⟩ (.slice L.a3 M.ends.length L.c3)) := by
  refine ⟨hr.set5 _ _ _ _ _, hM.set5 hF (by omega) _ _ _ _ _, ?_, below_set5 hb (b' := w.heap.size + 1) (by omega) _ _ _ _ _⟩
  have o1 := hO.setM (j := 0) hr (by omega) (.int .i64 M.st)
  have r1 := hr.set 0 (.int .i64 M.st)
  have o2 := o1.setM (j := 1) r1 (by omega) (.int .i64 M.ev)
  have r2 := r1.set 1 (.int .i64 M.ev)
  have o3 := o2.setM (j := 2) r2 (by omega) (.slice L.a1 M.starts.length L.c1)
  have r3 := r2.set 2 (.slice L.a1 M.starts.length L.c1)
  have o4 := o3.setM (j := 3) r3 (by omega) (.slice L.a2 M.arrows.length L.c2)
  have r4 := r3.set 3 (.slice L.a2 M.arrows.length L.c2)
  exact o4.setM (j := 4) r4 (by omega) (.slice L.a3 M.ends.length L.c3)

/-- What Make knows behind find. -/
structure DB (w X : World) (m : Mach) (l : ML) (vs va : Value) (SL : List (Nat → Nat)) (A : List Arr) : Prop where
  bel : Below w.heap.size w X
  kb : Blk X w.heap.size 25 (mcells m l)
  rb : Blk X (w.heap.size + 1) 25 zcells
  ss : OwnS X (w.heap.size + 2) vs SL
  ar : OwnA X (w.heap.size + 2) va A
  tab : Tab X
theorem DB.below {w X X' : World} {m : Mach} {l : ML} {vs va : Value} {SL : List (Nat → Nat)} {A : List Arr} (h : DB w X m l vs va SL A) (hb : Below X.heap.size X X') : DB w X' m l vs va SL A :=
  ⟨h.bel.trans (hb.mono h.bel.size), h.kb.below hb h.kb.lt, h.rb.below hb h.rb.lt, own_same h.ss (fun k hk => hb.block k (World.ownsRow.lt h.ss k hk).2), h.ar.kept hb (Nat.le_refl _), h.tab.below hb h.tab.lt⟩
theorem DB.cells {w X : World} {m : Mach} {l : ML} {vs va : Value} {SL : List (Nat → Nat)} {A : List Arr} (h : DB w X m l vs va SL A) : X.cell? ⟨w.heap.size, 1, none⟩ = some (.int .i64 m.ev) ∧ X.cell? ⟨w.heap.size, 4, none⟩ = some (.slice l.a3 m.ends.length l.c3) := ⟨h.kb.cell 1 rfl, h.kb.cell 4 rfl⟩
theorem ownsRow_low {W : World} {B B' s n : Nat} {e : TypeId} {v : Value} {xs : List Value} (h : W.ownsRow B e s v n xs) (hB : B' ≤ B) : W.ownsRow B' e s v n xs := by
  refine ⟨h.1, ?_⟩
  rcases h.2 with hn | ⟨g, cap, cur, rfl, hg, rest⟩
  · exact .inl hn
  · exact .inr ⟨g, cap, cur, rfl, Nat.le_trans hB hg, rest⟩
theorem Own2.low {W : World} {B B' : Nat} {v : Value} {LL : List (List Int)} (h : Own2 W B v LL) (hB : B' ≤ B) : Own2 W B' v LL := by
  obtain ⟨vs, ho, hi⟩ := h
  exact ⟨vs, ownsRow_low ho hB, hi⟩

end Go.Proofs.YtbdkaobbfmgnhaaDoor
namespace Go.Proofs.YtbdkaobbfmgnhaaDoor
open Go.RowKit
set_option linter.unusedVariables false

set_option maxRecDepth 100000 in
set_option maxHeartbeats 4000000 in
theorem dmake_err (m : Mach) (l : ML) (w : World) (h : Hid (MAt w m l)) (hm : Hid (mayB m = false)) :
    Calls Tryd.prog 34 #[mval m l] w fun e w' => MakePost w m e w' := by
  have B0 : Hid (Below w.heap.size w ((w.alloc (.cells (mcells m l) 25)).alloc (.cells zcells 25))) := ((Below.refl _ _).alloc (Nat.le_refl _) _).alloc (by simp) _
  have R0 : Hid (Blk ((w.alloc (.cells (mcells m l) 25)).alloc (.cells zcells 25)) (w.heap.size + 1) 25 zcells) := by
    have := Blk.new (w.alloc (.cells (mcells m l) 25)) 25 zcells
    rwa [World.size_alloc] at this
  go_enter Tryd.func34, Tryd.ntmps34
  go_wp2_with fail
  revert B0 R0
  generalize (w.alloc (.cells (mcells m l) 25)).alloc (.cells zcells 25) = V0
  intro B0 R0
  refine (pMay_any m l _ (h.out.below B0.out (Nat.le_refl _))).mono ?_
  rintro e V ⟨rfl, hb1⟩
  rw [hm.out]
  have B1 := Hid.of (B0.out.trans (hb1.mono B0.out.size))
  have R1 := Hid.of (R0.out.below hb1 R0.out.lt)
  clear hb1 B0 R0
  obtain ⟨r0, r1, r2, r3, r4⟩ := zcell_at R1.out
  have rz := R1.out.frozen
  have RR : Hid (Blk _ (w.heap.size + 1) 25 (mcells m0 ml0)) := R1.out.set5 (.int .i64 0) (.int .i64 0) (.slice none 0 0) (.slice none 0 0) (.slice none 0 0)
  go_wp2
  refine bodyPost_ret (v := .tuple #[mval m0 ml0, .slice none 0 0, .int .i64 2]) ?_ rfl (makePost_err (detOut_bad hm.out) (below_set5 B1.out (b' := w.heap.size + 1) (by omega) _ _ _ _ _))
  exact results_three (p := 2) (u := 3) (v := 4) rfl _ _ (w.heap.size + 1) m0 ml0 _ _ rfl rfl rfl RR.out

theorem at_oneD (W : World) (x : Int) : At (W.alloc (.cells #[.int .i64 x] 3)) (some ⟨W.heap.size, 0, none⟩) [x] := by
  refine .inr ⟨W.heap.size, 0, rfl, by simp, fun j hj => ?_⟩
  have hj : j = 0 := by simp at hj; exact hj
  subst hj
  exact (Blk.new W 3 #[.int .i64 x]).cell 0 rfl

theorem make_some {st ev : Nat} {starts : List Int} {ars : List Arr} {ends : List Int} {s : DS} {SL : List (Nat → Nat)} (h : RepL SL s.sets) (hr : Rep (ofS ends) ends) : detM ⟨(st : Int), (ev : Int), starts, ars, ends⟩ s = ⟨(SL.length : Int), (ev : Int), [0], s.ar, meetFrom (ofS ends) 0 SL⟩ := by
  unfold detM endsD
  rw [h.len, meet_ends hr 0 h]

set_option maxRecDepth 100000 in
set_option maxHeartbeats 8000000 in
theorem dmake_ok (st ev : Nat) (starts : List Int) (ars : List Arr) (ends : List Int) (a1 : Option Addr) (c1 : Nat) (a2 : Option Addr) (c2 : Nat) (a3 : Option Addr) (c3 : Nat) (w : World) (h : Hid (MAt w ⟨(st : Int), (ev : Int), starts, ars, ends⟩ ⟨a1, c1, a2, c2, a3, c3⟩)) (hm : Hid (mayB ⟨(st : Int), (ev : Int), starts, ars, ends⟩ = true)) (hT : Hid (Tab w)) :
    Calls Tryd.prog 34 #[mval ⟨(st : Int), (ev : Int), starts, ars, ends⟩ ⟨a1, c1, a2, c2, a3, c3⟩] w fun e w' => MakePost w ⟨(st : Int), (ev : Int), starts, ars, ends⟩ e w' := by
  have hz := mayB_size hm.out
  unfold sizeOk at hz
  dsimp only at hz
  have hst : st ≤ 256 := by omega
  have hev : ev ≤ 8 := by omega
  have hlen : Hid (ars.length ≤ 4096) := show _ ≤ _ by omega
  clear hz
  have hsl : Hid (starts.length ≤ maxLen) := Nat.le_trans h.out.s1 h.out.s2
  have hel : Hid (ends.length ≤ maxLen) := Nat.le_trans h.out.e1 h.out.e2
  have hsb : Hid (∀ x ∈ starts, 0 ≤ x ∧ x < 256) := fun x hx => by have := (may_starts hm.out).2 x hx; dsimp only at this; omega
  have heb : Hid (∀ x ∈ ends, 0 ≤ x ∧ x < 256) := fun x hx => by have := (may_ends hm.out).2 x hx; dsimp only at this; omega
  have hrs : Hid (Rep (ofS starts) starts) := by
    have := rep_of hsb.out starts.length
    rwa [List.take_of_length_le (Nat.le_refl _)] at this
  have hre : Hid (Rep (ofS ends) ends) := by
    have := rep_of heb.out ends.length
    rwa [List.take_of_length_le (Nat.le_refl _)] at this
  have B0 : Hid (Below w.heap.size w ((w.alloc (.cells (mcells ⟨(st : Int), (ev : Int), starts, ars, ends⟩ ⟨a1, c1, a2, c2, a3, c3⟩) 25)).alloc (.cells zcells 25))) := ((Below.refl _ _).alloc (Nat.le_refl _) _).alloc (by simp) _
  have K0 : Hid (Blk ((w.alloc (.cells (mcells ⟨(st : Int), (ev : Int), starts, ars, ends⟩ ⟨a1, c1, a2, c2, a3, c3⟩) 25)).alloc (.cells zcells 25)) w.heap.size 25 (mcells ⟨(st : Int), (ev : Int), starts, ars, ends⟩ ⟨a1, c1, a2, c2, a3, c3⟩)) := (Blk.new w _ _).alloc _
  have R0 : Hid (Blk ((w.alloc (.cells (mcells ⟨(st : Int), (ev : Int), starts, ars, ends⟩ ⟨a1, c1, a2, c2, a3, c3⟩) 25)).alloc (.cells zcells 25)) (w.heap.size + 1) 25 zcells) := by
    have := Blk.new (w.alloc (.cells (mcells ⟨(st : Int), (ev : Int), starts, ars, ends⟩ ⟨a1, c1, a2, c2, a3, c3⟩) 25)) 25 zcells
    rwa [World.size_alloc] at this
  go_enter Tryd.func34, Tryd.ntmps34
  go_wp2_with fail
  revert B0 K0 R0
  generalize (w.alloc (.cells (mcells ⟨(st : Int), (ev : Int), starts, ars, ends⟩ ⟨a1, c1, a2, c2, a3, c3⟩) 25)).alloc (.cells zcells 25) = V0
  intro B0 K0 R0
  refine (pMay_any ⟨(st : Int), (ev : Int), starts, ars, ends⟩ ⟨a1, c1, a2, c2, a3, c3⟩ _ (h.out.below B0.out (Nat.le_refl _))).mono ?_
  rintro e V ⟨rfl, hb1⟩
  rw [hm.out]
  have B1 : Hid (Below w.heap.size w V.drew) := (B0.out.trans (hb1.mono B0.out.size)).drew
  have K1 : Hid (Blk V.drew w.heap.size 25 (mcells ⟨(st : Int), (ev : Int), starts, ars, ends⟩ ⟨a1, c1, a2, c2, a3, c3⟩)) := Blk.drew (K0.out.below hb1 K0.out.lt)
  have R1 : Hid (Blk V.drew (w.heap.size + 1) 25 zcells) := Blk.drew (R0.out.below hb1 R0.out.lt)
  clear hb1 B0 K0 R0
  go_wp2
  refine wp_region_held_drew (S := fun w' => w'.cell? ⟨w.heap.size, 0, none⟩ = some (.int .i64 st) ∧ w'.cell? ⟨w.heap.size, 1, none⟩ = some (.int .i64 ev) ∧ w'.cell? ⟨w.heap.size, 2, none⟩ = some (.slice a1 starts.length c1) ∧ w'.cell? ⟨w.heap.size, 3, none⟩ = some (.slice a2 ars.length c2) ∧ w'.cell? ⟨w.heap.size, 4, none⟩ = some (.slice a3 ends.length c3)) (by kernel_rfl) (mcell_at K1.out) (fun hS0 => ?_)
  revert B1 K1 R1 hS0
  generalize V.drew = Y0
  intro B1 K1 R1 hS0
  refine wpAnyH_take (i := 0) (v := .pointer (some ⟨w.heap.size, 2, none⟩)) rfl (by kernel_rfl) (by kernel_rfl) (by kernel_rfl) (fun _ _ _ h => h) (Or.inl ⟨by kernel_rfl, fun w' hw' => by obtain ⟨q0, q1, q2, q3, q4⟩ := hw'; go_simp⟩) hS0 ?_
  refine wpAnyH_take (i := 1) (v := .slice a1 starts.length c1) rfl (by kernel_rfl) (by kernel_rfl) (by kernel_rfl) (fun _ _ _ h => h) (Or.inl ⟨by kernel_rfl, fun w' hw' => by obtain ⟨q0, q1, q2, q3, q4⟩ := hw'; go_simp⟩) hS0 ?_
  refine wpAnyH_take (i := 3) (v := .pointer (some ⟨w.heap.size, 1, none⟩)) rfl (by kernel_rfl) (by kernel_rfl) (by kernel_rfl) (fun _ _ _ h => h) (Or.inl ⟨by kernel_rfl, fun w' hw' => by obtain ⟨q0, q1, q2, q3, q4⟩ := hw'; go_simp⟩) hS0 ?_
  refine wpAnyH_take (i := 4) (v := .int .i64 ev) rfl (by kernel_rfl) (by kernel_rfl) (by kernel_rfl) (fun _ _ _ h => h) (Or.inl ⟨by kernel_rfl, fun w' hw' => by obtain ⟨q0, q1, q2, q3, q4⟩ := hw'; go_simp⟩) hS0 ?_
  refine wpAnyH_take (i := 5) (v := .agg #[.int .i64 st, .int .i64 ev, .slice a1 starts.length c1, .slice a2 ars.length c2, .slice a3 ends.length c3]) rfl (by kernel_rfl) (by kernel_rfl) (by kernel_rfl) (fun _ _ _ h => h) (Or.inl ⟨by kernel_rfl, fun w' hw' => by obtain ⟨q0, q1, q2, q3, q4⟩ := hw'; go_simp⟩) hS0 ?_
  simp only [Act.put, List.setIfInBounds_toArray]
  refine wpAnyH_ready (rs := [2]) (by kernel_rfl) (by simp) ?_
  refine AllReadyH.cons rfl (fun K' hK' => ?_) AllReadyH.nil
  go_simp
  refine (of_any a1 c1 starts _ (h.out.s.below B1.out (Nat.le_refl _)) hsl.out hsb.out).mono ?_
  rintro e Y1 ⟨rfl, hb1⟩
  have B2 := Hid.of (B1.out.trans (hb1.mono B1.out.size))
  have K2 := Hid.of (K1.out.below hb1 K1.out.lt)
  have R2 := Hid.of (R1.out.below hb1 R1.out.lt)
  refine hK'.out _ _ (mcell_at K2.out) (fun hS1 => ?_)
  clear hK' K' hb1 B1 K1 R1 hS0
  refine wpAnyH_ready (rs := [6]) (by kernel_rfl) (by simp) ?_
  refine AllReadyH.cons rfl (fun K' hK' => ?_) AllReadyH.nil
  go_simp
  refine (leader_go st ev starts ars ends a1 c1 a2 c2 a3 c3 _ (Hid.of (h.out.below B2.out (Nat.le_refl _))) hm hst hev hlen.out (Hid.of (may_arrs hm.out))).mono ?_
  rintro e Y2 ⟨L, rfl, hLD, hLa, hb2⟩
  have B3 := Hid.of (B2.out.trans (hb2.mono B2.out.size))
  have K3 := Hid.of (K2.out.below hb2 K2.out.lt)
  have R3 := Hid.of (R2.out.below hb2 R2.out.lt)
  have HLD := Hid.of hLD
  refine hK'.out _ _ (mcell_at K3.out) (fun hS2 => ?_)
  clear hK' K' hb2 B2 K2 R2 hS1 hLD hLa
  refine wpAnyH_ready (rs := [7]) (by kernel_rfl) (by simp) ?_
  refine AllReadyH.cons rfl (fun K' hK' => ?_) AllReadyH.nil
  go_simp
  refine (find_any0 st ev starts ars ends hm (ofS starts) hrs L _ (Hid.of (hT.out.below B3.out hT.out.lt)) HLD).mono ?_
  intro e Y3 hfp
  unfold FindPost at hfp
  have hY2 : Hid (w.heap.size + 2 ≤ Y2.heap.size) := R3.out.lt
  cases hd : detS ⟨(st : Int), (ev : Int), starts, ars, ends⟩ with
  | none =>
    rw [hd] at hfp
    obtain ⟨rfl, hb3⟩ := hfp
    have HDN := Hid.of (detOut_none hm.out hd)
    have B4 := Hid.of (B3.out.trans (hb3.mono B3.out.size))
    have K4 := Hid.of (K3.out.below hb3 K3.out.lt)
    have R4 := Hid.of (R3.out.below hb3 R3.out.lt)
    refine hK'.out _ _ (mcell_at K4.out) (fun hS3 => ?_)
    clear hK' K' hb3 B3 K3 R3 hS2 hd HLD
    refine wpAnyH_take (i := 8) (v := .tuple #[.slice none 0 0, .slice none 0 0, .bool false]) rfl (by kernel_rfl) (by kernel_rfl) (by kernel_rfl) (fun _ _ _ h => h) (Or.inl ⟨by kernel_rfl, fun w' hw' => by obtain ⟨q0, q1, q2, q3, q4⟩ := hw'; go_simp⟩) hS3 ?_
    refine wpAnyH_take (i := 9) (v := .slice none 0 0) rfl (by kernel_rfl) (by kernel_rfl) (by kernel_rfl) (fun _ _ _ h => h) (Or.inl ⟨by kernel_rfl, fun w' hw' => by obtain ⟨q0, q1, q2, q3, q4⟩ := hw'; go_simp⟩) hS3 ?_
    refine wpAnyH_take (i := 10) (v := .slice none 0 0) rfl (by kernel_rfl) (by kernel_rfl) (by kernel_rfl) (fun _ _ _ h => h) (Or.inl ⟨by kernel_rfl, fun w' hw' => by obtain ⟨q0, q1, q2, q3, q4⟩ := hw'; go_simp⟩) hS3 ?_
    refine wpAnyH_take (i := 11) (v := .bool false) rfl (by kernel_rfl) (by kernel_rfl) (by kernel_rfl) (fun _ _ _ h => h) (Or.inl ⟨by kernel_rfl, fun w' hw' => by obtain ⟨q0, q1, q2, q3, q4⟩ := hw'; go_simp⟩) hS3 ?_
    refine wpAnyH_take (i := 12) (v := .slice none 0 0) rfl (by kernel_rfl) (by kernel_rfl) (by kernel_rfl) (fun _ _ _ h => h) (Or.inl ⟨by kernel_rfl, fun w' hw' => by obtain ⟨q0, q1, q2, q3, q4⟩ := hw'; go_simp⟩) hS3 ?_
    refine wpAnyH_take (i := 13) (v := .slice none 0 0) rfl (by kernel_rfl) (by kernel_rfl) (by kernel_rfl) (fun _ _ _ h => h) (Or.inl ⟨by kernel_rfl, fun w' hw' => by obtain ⟨q0, q1, q2, q3, q4⟩ := hw'; go_simp⟩) hS3 ?_
    refine wpAnyH_take (i := 14) (v := .bool false) rfl (by kernel_rfl) (by kernel_rfl) (by kernel_rfl) (fun _ _ _ h => h) (Or.inl ⟨by kernel_rfl, fun w' hw' => by obtain ⟨q0, q1, q2, q3, q4⟩ := hw'; go_simp⟩) hS3 ?_
    refine wpAnyH_done (by kernel_rfl) ?_ _
    obtain ⟨r0, r1, r2, r3, r4⟩ := zcell_at R4.out
    have rz := R4.out.frozen
    have RR : Hid (Blk _ (w.heap.size + 1) 25 (mcells m0 ml0)) := R4.out.set5 (.int .i64 0) (.int .i64 0) (.slice none 0 0) (.slice none 0 0) (.slice none 0 0)
    simp only [Act.put, List.setIfInBounds_toArray]
    go_wp2
    refine bodyPost_ret (v := .tuple #[mval m0 ml0, .slice none 0 0, .int .i64 1]) ?_ rfl (makePost_err HDN.out (below_set5 B4.out (b' := w.heap.size + 1) (by omega) _ _ _ _ _))
    exact results_three (p := 2) (u := 3) (v := 4) rfl _ _ (w.heap.size + 1) m0 ml0 _ _ rfl rfl rfl RR.out
  | some s =>
    rw [hd] at hfp
    obtain ⟨vs, va, SL, rfl, hRL, hOS, hOA, hb3⟩ := hfp
    have HDN := Hid.of (detOut_some hm.out hd)
    have H256 := Hid.of (detS_di hm.out hd).2
    have D4 : Hid (DB w Y3 ⟨(st : Int), (ev : Int), starts, ars, ends⟩ ⟨a1, c1, a2, c2, a3, c3⟩ vs va SL s.ar) := ⟨B3.out.trans (hb3.mono B3.out.size), K3.out.below hb3 K3.out.lt, R3.out.below hb3 R3.out.lt, ownsRow_low hOS hY2.out, ownsRow_low hOA hY2.out, hT.out.below (B3.out.trans (hb3.mono B3.out.size)) hT.out.lt⟩
    refine hK'.out _ _ (mcell_at D4.out.kb) (fun hS3 => ?_)
    clear hK' K' hb3 B3 K3 R3 hS2 hd hOS hOA HLD
    obtain ⟨va8, vc8, hvs, -, -, -⟩ := own_form2 D4.out.ss
    subst hvs
    obtain ⟨fa, fc, hva, fl1, fl2, fl3⟩ := own_form2 D4.out.ar
    subst hva
    refine wpAnyH_take (i := 8) (v := .tuple #[.slice va8 SL.length vc8, .slice fa s.ar.length fc, .bool true]) rfl (by kernel_rfl) (by kernel_rfl) (by kernel_rfl) (fun _ _ _ h => h) (Or.inl ⟨by kernel_rfl, fun w' hw' => by obtain ⟨q0, q1, q2, q3, q4⟩ := hw'; go_simp⟩) hS3 ?_
    refine wpAnyH_take (i := 9) (v := .slice va8 SL.length vc8) rfl (by kernel_rfl) (by kernel_rfl) (by kernel_rfl) (fun _ _ _ h => h) (Or.inl ⟨by kernel_rfl, fun w' hw' => by obtain ⟨q0, q1, q2, q3, q4⟩ := hw'; go_simp⟩) hS3 ?_
    refine wpAnyH_take (i := 10) (v := .slice fa s.ar.length fc) rfl (by kernel_rfl) (by kernel_rfl) (by kernel_rfl) (fun _ _ _ h => h) (Or.inl ⟨by kernel_rfl, fun w' hw' => by obtain ⟨q0, q1, q2, q3, q4⟩ := hw'; go_simp⟩) hS3 ?_
    refine wpAnyH_take (i := 11) (v := .bool true) rfl (by kernel_rfl) (by kernel_rfl) (by kernel_rfl) (fun _ _ _ h => h) (Or.inl ⟨by kernel_rfl, fun w' hw' => by obtain ⟨q0, q1, q2, q3, q4⟩ := hw'; go_simp⟩) hS3 ?_
    refine wpAnyH_take (i := 12) (v := .slice va8 SL.length vc8) rfl (by kernel_rfl) (by kernel_rfl) (by kernel_rfl) (fun _ _ _ h => h) (Or.inl ⟨by kernel_rfl, fun w' hw' => by obtain ⟨q0, q1, q2, q3, q4⟩ := hw'; go_simp⟩) hS3 ?_
    refine wpAnyH_take (i := 13) (v := .slice fa s.ar.length fc) rfl (by kernel_rfl) (by kernel_rfl) (by kernel_rfl) (fun _ _ _ h => h) (Or.inl ⟨by kernel_rfl, fun w' hw' => by obtain ⟨q0, q1, q2, q3, q4⟩ := hw'; go_simp⟩) hS3 ?_
    refine wpAnyH_take (i := 14) (v := .bool true) rfl (by kernel_rfl) (by kernel_rfl) (by kernel_rfl) (fun _ _ _ h => h) (Or.inl ⟨by kernel_rfl, fun w' hw' => by obtain ⟨q0, q1, q2, q3, q4⟩ := hw'; go_simp⟩) hS3 ?_
    refine wpAnyH_done (by kernel_rfl) ?_ _
    have HRL := Hid.of hRL
    have hSLl : SL.length ≤ 256 := by rw [hRL.len]; exact H256.out
    have hok : Hid (∀ S ∈ SL, okS S) := fun S hS => by
      obtain ⟨j, hj⟩ := List.mem_iff_getElem?.1 hS
      obtain ⟨l', -, q, -⟩ := hRL.rep j S hj
      exact q.ok
    have HME : Hid (detM ⟨(st : Int), (ev : Int), starts, ars, ends⟩ s = ⟨(SL.length : Int), (ev : Int), [0], s.ar, meetFrom (ofS ends) 0 SL⟩) := make_some HRL.out hre.out
    have HSE : Hid (s.sets = SL.map rowS) := HRL.out.map.symm
    clear hRL hS3
    simp only [Act.put, List.setIfInBounds_toArray]
    go_wp2
    have hbd : Below Y3.heap.size Y3 Y3.drew := (Below.refl _ _).drew
    have D := Hid.of (D4.out.below hbd)
    refine wp_region_held_drew (S := fun w' => w'.cell? ⟨w.heap.size, 1, none⟩ = some (.int .i64 ev) ∧ w'.cell? ⟨w.heap.size, 4, none⟩ = some (.slice a3 ends.length c3)) (by kernel_rfl) D4.out.cells (fun hS0 => ?_)
    clear D4 hbd
    revert D hS0
    generalize Y3.drew = Z0
    intro D hS0
    refine wpAnyH_take (i := 0) (v := .slice va8 SL.length vc8) rfl (by kernel_rfl) (by kernel_rfl) (by kernel_rfl) (fun _ _ _ h => h) (Or.inl ⟨by kernel_rfl, fun w' hw' => by obtain ⟨q0, q1⟩ := hw'; go_simp⟩) hS0 ?_
    refine wpAnyH_take (i := 1) (v := .int .i64 SL.length) rfl (by kernel_rfl) (by kernel_rfl) (by kernel_rfl) (fun _ _ _ h => h) (Or.inl ⟨by kernel_rfl, fun w' hw' => by obtain ⟨q0, q1⟩ := hw'; go_simp⟩) hS0 ?_
    refine wpAnyH_take (i := 2) (v := .pointer (some ⟨w.heap.size, 1, none⟩)) rfl (by kernel_rfl) (by kernel_rfl) (by kernel_rfl) (fun _ _ _ h => h) (Or.inl ⟨by kernel_rfl, fun w' hw' => by obtain ⟨q0, q1⟩ := hw'; go_simp⟩) hS0 ?_
    refine wpAnyH_take (i := 3) (v := .int .i64 ev) rfl (by kernel_rfl) (by kernel_rfl) (by kernel_rfl) (fun _ _ _ h => h) (Or.inl ⟨by kernel_rfl, fun w' hw' => by obtain ⟨q0, q1⟩ := hw'; go_simp⟩) hS0 ?_
    refine wpAnyH_take (i := 5) (v := .slice fa s.ar.length fc) rfl (by kernel_rfl) (by kernel_rfl) (by kernel_rfl) (fun _ _ _ h => h) (Or.inl ⟨by kernel_rfl, fun w' hw' => by obtain ⟨q0, q1⟩ := hw'; go_simp⟩) hS0 ?_
    refine wpAnyH_take (i := 6) (v := .slice va8 SL.length vc8) rfl (by kernel_rfl) (by kernel_rfl) (by kernel_rfl) (fun _ _ _ h => h) (Or.inl ⟨by kernel_rfl, fun w' hw' => by obtain ⟨q0, q1⟩ := hw'; go_simp⟩) hS0 ?_
    refine wpAnyH_take (i := 7) (v := .pointer (some ⟨w.heap.size, 4, none⟩)) rfl (by kernel_rfl) (by kernel_rfl) (by kernel_rfl) (fun _ _ _ h => h) (Or.inl ⟨by kernel_rfl, fun w' hw' => by obtain ⟨q0, q1⟩ := hw'; go_simp⟩) hS0 ?_
    refine wpAnyH_take (i := 8) (v := .slice a3 ends.length c3) rfl (by kernel_rfl) (by kernel_rfl) (by kernel_rfl) (fun _ _ _ h => h) (Or.inl ⟨by kernel_rfl, fun w' hw' => by obtain ⟨q0, q1⟩ := hw'; go_simp⟩) hS0 ?_
    refine wpAnyH_take (i := 12) (v := .slice va8 SL.length vc8) rfl (by kernel_rfl) (by kernel_rfl) (by kernel_rfl) (fun _ _ _ h => h) (Or.inl ⟨by kernel_rfl, fun w' hw' => by obtain ⟨q0, q1⟩ := hw'; go_simp⟩) hS0 ?_
    simp only [Act.put, List.setIfInBounds_toArray]
    refine wpAnyH_ready (rs := [4, 9]) (by kernel_rfl) (by simp) ?_
    refine AllReadyH.cons rfl (fun K' hK' => ?_) (AllReadyH.cons rfl (fun K' hK' => ?_) AllReadyH.nil)
    · go_simp
      have hb : Below Z0.heap.size Z0 (Z0.alloc (.cells #[.int .i64 0] 3)) := (Below.refl _ _).alloc (Nat.le_refl _) _
      have D' := Hid.of (D.out.below hb)
      have A4n := Hid.of (at_oneD Z0 0)
      have P4 : Hid (w.heap.size + 2 ≤ Z0.heap.size) := D.out.rb.lt
      refine hK'.out _ _ D'.out.cells (fun hSn => ?_)
      clear hK' K' hb D hS0 
      revert D' A4n hSn
      generalize Z0.alloc (.cells #[.int .i64 0] 3) = Z1
      revert P4
      generalize Z0.heap.size = p
      intro P4 D  A4 hS1
      refine wpAnyH_ready (rs := [9]) (by kernel_rfl) (by simp) ?_
      refine AllReadyH.cons rfl (fun K' hK' => ?_) AllReadyH.nil
      go_simp
      refine (of_any a3 c3 ends _ (h.out.e.below D.out.bel (Nat.le_refl _)) hel.out heb.out).mono ?_
      rintro e Z2 ⟨rfl, hb⟩
      have D' := Hid.of (D.out.below hb)
      have A4' := Hid.of (A4.out.below hb (Nat.le_refl _))
      refine hK'.out _ _ D'.out.cells (fun hS2 => ?_)
      clear hK' K' hb D hS1 A4
      have D := D'
      have A4 := A4'
      clear D' A4'
      refine wpAnyH_ready (rs := [10]) (by kernel_rfl) (by simp) ?_
      refine AllReadyH.cons rfl (fun K' hK' => ?_) AllReadyH.nil
      go_simp
      refine (meeting_any (w.heap.size + 2) _ SL (ofS ends) _ (Hid.of D.out.ss) hSLl hok (Hid.of hre.out.ok)).mono ?_
      rintro e Z3 ⟨ve, rfl, oe, hb⟩
      obtain ⟨ea, ec, rfl, -, -, -, -⟩ := oe.at2
      have En := Hid.of (oe.low (show w.heap.size + 2 ≤ _ from D.out.rb.lt))
      clear oe
      have D' := Hid.of (D.out.below hb)
      have A4' := Hid.of (A4.out.below hb (Nat.le_refl _))
      refine hK'.out _ _ D'.out.cells (fun hS3 => ?_)
      clear hK' K' hb D hS2 A4
      have D := D'
      have A4 := A4'
      have E := En
      clear D' A4' En
      refine wpAnyH_take (i := 11) (v := .agg #[.int .i64 SL.length, .int .i64 ev, .slice (some ⟨p, 0, none⟩) 1 1, .slice fa s.ar.length fc, .slice ea (meetFrom (ofS ends) 0 SL).length ec]) rfl (by kernel_rfl) (by kernel_rfl) (by kernel_rfl) (fun _ _ _ h => h) (Or.inl ⟨by kernel_rfl, fun w' hw' => by obtain ⟨q0, q1⟩ := hw'; go_simp⟩) hS3 ?_
      refine wpAnyH_ready (rs := [13]) (by kernel_rfl) (by simp) ?_
      refine AllReadyH.cons rfl (fun K' hK' => ?_) AllReadyH.nil
      go_simp
      refine (rowsS_any (w.heap.size + 2) _ SL _ (Hid.of D.out.ss) hSLl hok (Hid.of D.out.tab)).mono ?_
      rintro e Z4 ⟨vr, rfl, orr, hb⟩
      obtain ⟨ra, rc, rfl, -, -, -, -⟩ := orr.at
      have RWn := Hid.of (orr.low (show w.heap.size + 2 ≤ _ from D.out.rb.lt))
      clear orr
      have D' := Hid.of (D.out.below hb)
      have A4' := Hid.of (A4.out.below hb (Nat.le_refl _))
      have E' := Hid.of (E.out.keep hb (Nat.le_refl _))
      refine hK'.out _ _ D'.out.cells (fun hS4 => ?_)
      clear hK' K' hb D hS3 A4 E
      have D := D'
      have A4 := A4'
      have E := E'
      have RW := RWn
      clear D' A4' E' RWn
      refine wpAnyH_ready (rs := [14]) (by kernel_rfl) (by simp) ?_
      refine AllReadyH.cons rfl (fun K' hK' => ?_) AllReadyH.nil
      obtain ⟨r0, r1, r2, r3, r4⟩ := zcell_at D.out.rb
      have rz := D.out.rb.frozen
      obtain ⟨xa, xc, xe, xt, x1, x2, x3⟩ := Own.at2 E.out
      cases xe
      obtain ⟨ya, yc, ye, yt, y1, y2, y3⟩ := OwnA.at D.out.ar
      cases ye
      have hMX : MAt Z4 ⟨(SL.length : Int), (ev : Int), [0], s.ar, meetFrom (ofS ends) 0 SL⟩ ⟨some ⟨p, 0, none⟩, 1, fa, fc, ea, ec⟩ := ⟨A4.out, yt, xt, Nat.le_refl _, (show (1 : Nat) ≤ maxLen by decide), (fun h => by cases h), y1, y2, y3, x1, x2, x3⟩
      have hFX : FrM (w.heap.size + 2) ⟨(SL.length : Int), (ev : Int), [0], s.ar, meetFrom (ofS ends) 0 SL⟩ ⟨some ⟨p, 0, none⟩, 1, fa, fc, ea, ec⟩ := ⟨.inr ⟨p, 0, rfl, P4.out⟩, OwnA.fr D.out.ar, Own.fr E.out⟩
      have hLF := Hid.of (dleaf D.out.bel D.out.rb hMX hFX RW.out)
      have hne : w.heap.size ≠ w.heap.size + 1 := by omega
      have KK := ((((D.out.kb.other hne (j := 0) (.int .i64 SL.length)).other hne (j := 1) (.int .i64 ev)).other hne (j := 2) (.slice (some ⟨p, 0, none⟩) 1 1)).other hne (j := 3) (.slice fa s.ar.length fc)).other hne (j := 4) (.slice ea (meetFrom (ofS ends) 0 SL).length ec)
      go_simp
      refine hK'.out _ _ ⟨KK.cell 1 rfl, KK.cell 4 rfl⟩ (fun hSZ => ?_)
      clear hK' K' r0 r1 r2 r3 r4 rz hMX hFX
      refine wpAnyH_take (i := 15) (v := .slice ra (SL.map rowS).length rc) rfl (by kernel_rfl) (by kernel_rfl) (by kernel_rfl) (fun _ _ _ h => h) (Or.inl ⟨by kernel_rfl, fun w' hw' => by obtain ⟨q0, q1⟩ := hw'; go_simp⟩) hSZ ?_
      refine wpAnyH_take (i := 16) (v := .int .i64 0) rfl (by kernel_rfl) (by kernel_rfl) (by kernel_rfl) (fun _ _ _ h => h) (Or.inl ⟨by kernel_rfl, fun w' hw' => by obtain ⟨q0, q1⟩ := hw'; go_simp⟩) hSZ ?_
      refine wpAnyH_done (by kernel_rfl) ?_ _
      clear KK hSZ
      go_wp2
      refine bodyPost_ret (v := .tuple #[mval ⟨(SL.length : Int), (ev : Int), [0], s.ar, meetFrom (ofS ends) 0 SL⟩ ⟨some ⟨p, 0, none⟩, 1, fa, fc, ea, ec⟩, .slice ra SL.length rc, .int .i64 0]) ?_ rfl ?_
      · exact results_three (p := 2) (u := 3) (v := 4) rfl _ _ (w.heap.size + 1) ⟨(SL.length : Int), (ev : Int), [0], s.ar, meetFrom (ofS ends) 0 SL⟩ ⟨some ⟨p, 0, none⟩, 1, fa, fc, ea, ec⟩ _ _ rfl rfl rfl hLF.out.1
      · unfold MakePost
        rw [HDN.out]
        dsimp only
        rw [HME.out, HSE.out]
        obtain ⟨za, zc, ze, zt, z1, z2, z3⟩ := hLF.out.2.2.1.at
        cases ze
        exact ⟨_, _, _, (by rw [List.length_map]), hLF.out.2.1, zt, (by rw [List.length_map]; exact hSLl), hLF.out.2.2.2⟩
    · go_simp
      refine (of_any a3 c3 ends _ (h.out.e.below D.out.bel (Nat.le_refl _)) hel.out heb.out).mono ?_
      rintro e Z1 ⟨rfl, hb⟩
      have D' := Hid.of (D.out.below hb)
      refine hK'.out _ _ D'.out.cells (fun hS1 => ?_)
      clear hK' K' hb D hS0 
      have D := D'
      clear D'
      refine wpAnyH_ready (rs := [4, 10]) (by kernel_rfl) (by simp) ?_
      refine AllReadyH.cons rfl (fun K' hK' => ?_) (AllReadyH.cons rfl (fun K' hK' => ?_) AllReadyH.nil)
      · go_simp
        have hb : Below Z1.heap.size Z1 (Z1.alloc (.cells #[.int .i64 0] 3)) := (Below.refl _ _).alloc (Nat.le_refl _) _
        have D' := Hid.of (D.out.below hb)
        have A4n := Hid.of (at_oneD Z1 0)
        have P4 : Hid (w.heap.size + 2 ≤ Z1.heap.size) := D.out.rb.lt
        refine hK'.out _ _ D'.out.cells (fun hSn => ?_)
        clear hK' K' hb D hS1 
        revert D' A4n hSn
        generalize Z1.alloc (.cells #[.int .i64 0] 3) = Z2
        revert P4
        generalize Z1.heap.size = p
        intro P4 D  A4 hS2
        refine wpAnyH_ready (rs := [10]) (by kernel_rfl) (by simp) ?_
        refine AllReadyH.cons rfl (fun K' hK' => ?_) AllReadyH.nil
        go_simp
        refine (meeting_any (w.heap.size + 2) _ SL (ofS ends) _ (Hid.of D.out.ss) hSLl hok (Hid.of hre.out.ok)).mono ?_
        rintro e Z3 ⟨ve, rfl, oe, hb⟩
        obtain ⟨ea, ec, rfl, -, -, -, -⟩ := oe.at2
        have En := Hid.of (oe.low (show w.heap.size + 2 ≤ _ from D.out.rb.lt))
        clear oe
        have D' := Hid.of (D.out.below hb)
        have A4' := Hid.of (A4.out.below hb (Nat.le_refl _))
        refine hK'.out _ _ D'.out.cells (fun hS3 => ?_)
        clear hK' K' hb D hS2 A4
        have D := D'
        have A4 := A4'
        have E := En
        clear D' A4' En
        refine wpAnyH_take (i := 11) (v := .agg #[.int .i64 SL.length, .int .i64 ev, .slice (some ⟨p, 0, none⟩) 1 1, .slice fa s.ar.length fc, .slice ea (meetFrom (ofS ends) 0 SL).length ec]) rfl (by kernel_rfl) (by kernel_rfl) (by kernel_rfl) (fun _ _ _ h => h) (Or.inl ⟨by kernel_rfl, fun w' hw' => by obtain ⟨q0, q1⟩ := hw'; go_simp⟩) hS3 ?_
        refine wpAnyH_ready (rs := [13]) (by kernel_rfl) (by simp) ?_
        refine AllReadyH.cons rfl (fun K' hK' => ?_) AllReadyH.nil
        go_simp
        refine (rowsS_any (w.heap.size + 2) _ SL _ (Hid.of D.out.ss) hSLl hok (Hid.of D.out.tab)).mono ?_
        rintro e Z4 ⟨vr, rfl, orr, hb⟩
        obtain ⟨ra, rc, rfl, -, -, -, -⟩ := orr.at
        have RWn := Hid.of (orr.low (show w.heap.size + 2 ≤ _ from D.out.rb.lt))
        clear orr
        have D' := Hid.of (D.out.below hb)
        have A4' := Hid.of (A4.out.below hb (Nat.le_refl _))
        have E' := Hid.of (E.out.keep hb (Nat.le_refl _))
        refine hK'.out _ _ D'.out.cells (fun hS4 => ?_)
        clear hK' K' hb D hS3 A4 E
        have D := D'
        have A4 := A4'
        have E := E'
        have RW := RWn
        clear D' A4' E' RWn
        refine wpAnyH_ready (rs := [14]) (by kernel_rfl) (by simp) ?_
        refine AllReadyH.cons rfl (fun K' hK' => ?_) AllReadyH.nil
        obtain ⟨r0, r1, r2, r3, r4⟩ := zcell_at D.out.rb
        have rz := D.out.rb.frozen
        obtain ⟨xa, xc, xe, xt, x1, x2, x3⟩ := Own.at2 E.out
        cases xe
        obtain ⟨ya, yc, ye, yt, y1, y2, y3⟩ := OwnA.at D.out.ar
        cases ye
        have hMX : MAt Z4 ⟨(SL.length : Int), (ev : Int), [0], s.ar, meetFrom (ofS ends) 0 SL⟩ ⟨some ⟨p, 0, none⟩, 1, fa, fc, ea, ec⟩ := ⟨A4.out, yt, xt, Nat.le_refl _, (show (1 : Nat) ≤ maxLen by decide), (fun h => by cases h), y1, y2, y3, x1, x2, x3⟩
        have hFX : FrM (w.heap.size + 2) ⟨(SL.length : Int), (ev : Int), [0], s.ar, meetFrom (ofS ends) 0 SL⟩ ⟨some ⟨p, 0, none⟩, 1, fa, fc, ea, ec⟩ := ⟨.inr ⟨p, 0, rfl, P4.out⟩, OwnA.fr D.out.ar, Own.fr E.out⟩
        have hLF := Hid.of (dleaf D.out.bel D.out.rb hMX hFX RW.out)
        have hne : w.heap.size ≠ w.heap.size + 1 := by omega
        have KK := ((((D.out.kb.other hne (j := 0) (.int .i64 SL.length)).other hne (j := 1) (.int .i64 ev)).other hne (j := 2) (.slice (some ⟨p, 0, none⟩) 1 1)).other hne (j := 3) (.slice fa s.ar.length fc)).other hne (j := 4) (.slice ea (meetFrom (ofS ends) 0 SL).length ec)
        go_simp
        refine hK'.out _ _ ⟨KK.cell 1 rfl, KK.cell 4 rfl⟩ (fun hSZ => ?_)
        clear hK' K' r0 r1 r2 r3 r4 rz hMX hFX
        refine wpAnyH_take (i := 15) (v := .slice ra (SL.map rowS).length rc) rfl (by kernel_rfl) (by kernel_rfl) (by kernel_rfl) (fun _ _ _ h => h) (Or.inl ⟨by kernel_rfl, fun w' hw' => by obtain ⟨q0, q1⟩ := hw'; go_simp⟩) hSZ ?_
        refine wpAnyH_take (i := 16) (v := .int .i64 0) rfl (by kernel_rfl) (by kernel_rfl) (by kernel_rfl) (fun _ _ _ h => h) (Or.inl ⟨by kernel_rfl, fun w' hw' => by obtain ⟨q0, q1⟩ := hw'; go_simp⟩) hSZ ?_
        refine wpAnyH_done (by kernel_rfl) ?_ _
        clear KK hSZ
        go_wp2
        refine bodyPost_ret (v := .tuple #[mval ⟨(SL.length : Int), (ev : Int), [0], s.ar, meetFrom (ofS ends) 0 SL⟩ ⟨some ⟨p, 0, none⟩, 1, fa, fc, ea, ec⟩, .slice ra SL.length rc, .int .i64 0]) ?_ rfl ?_
        · exact results_three (p := 2) (u := 3) (v := 4) rfl _ _ (w.heap.size + 1) ⟨(SL.length : Int), (ev : Int), [0], s.ar, meetFrom (ofS ends) 0 SL⟩ ⟨some ⟨p, 0, none⟩, 1, fa, fc, ea, ec⟩ _ _ rfl rfl rfl hLF.out.1
        · unfold MakePost
          rw [HDN.out]
          dsimp only
          rw [HME.out, HSE.out]
          obtain ⟨za, zc, ze, zt, z1, z2, z3⟩ := hLF.out.2.2.1.at
          cases ze
          exact ⟨_, _, _, (by rw [List.length_map]), hLF.out.2.1, zt, (by rw [List.length_map]; exact hSLl), hLF.out.2.2.2⟩
      · go_simp
        refine (meeting_any (w.heap.size + 2) _ SL (ofS ends) _ (Hid.of D.out.ss) hSLl hok (Hid.of hre.out.ok)).mono ?_
        rintro e Z2 ⟨ve, rfl, oe, hb⟩
        obtain ⟨ea, ec, rfl, -, -, -, -⟩ := oe.at2
        have En := Hid.of (oe.low (show w.heap.size + 2 ≤ _ from D.out.rb.lt))
        clear oe
        have D' := Hid.of (D.out.below hb)
        refine hK'.out _ _ D'.out.cells (fun hS2 => ?_)
        clear hK' K' hb D hS1 
        have D := D'
        have E := En
        clear D' En
        refine wpAnyH_ready (rs := [4, 13]) (by kernel_rfl) (by simp) ?_
        refine AllReadyH.cons rfl (fun K' hK' => ?_) (AllReadyH.cons rfl (fun K' hK' => ?_) AllReadyH.nil)
        · go_simp
          have hb : Below Z2.heap.size Z2 (Z2.alloc (.cells #[.int .i64 0] 3)) := (Below.refl _ _).alloc (Nat.le_refl _) _
          have D' := Hid.of (D.out.below hb)
          have E' := Hid.of (E.out.keep hb (Nat.le_refl _))
          have A4n := Hid.of (at_oneD Z2 0)
          have P4 : Hid (w.heap.size + 2 ≤ Z2.heap.size) := D.out.rb.lt
          refine hK'.out _ _ D'.out.cells (fun hSn => ?_)
          clear hK' K' hb D hS2 E
          revert D' A4n E' hSn
          generalize Z2.alloc (.cells #[.int .i64 0] 3) = Z3
          revert P4
          generalize Z2.heap.size = p
          intro P4 D E A4 hS3
          refine wpAnyH_take (i := 11) (v := .agg #[.int .i64 SL.length, .int .i64 ev, .slice (some ⟨p, 0, none⟩) 1 1, .slice fa s.ar.length fc, .slice ea (meetFrom (ofS ends) 0 SL).length ec]) rfl (by kernel_rfl) (by kernel_rfl) (by kernel_rfl) (fun _ _ _ h => h) (Or.inl ⟨by kernel_rfl, fun w' hw' => by obtain ⟨q0, q1⟩ := hw'; go_simp⟩) hS3 ?_
          refine wpAnyH_ready (rs := [13]) (by kernel_rfl) (by simp) ?_
          refine AllReadyH.cons rfl (fun K' hK' => ?_) AllReadyH.nil
          go_simp
          refine (rowsS_any (w.heap.size + 2) _ SL _ (Hid.of D.out.ss) hSLl hok (Hid.of D.out.tab)).mono ?_
          rintro e Z4 ⟨vr, rfl, orr, hb⟩
          obtain ⟨ra, rc, rfl, -, -, -, -⟩ := orr.at
          have RWn := Hid.of (orr.low (show w.heap.size + 2 ≤ _ from D.out.rb.lt))
          clear orr
          have D' := Hid.of (D.out.below hb)
          have A4' := Hid.of (A4.out.below hb (Nat.le_refl _))
          have E' := Hid.of (E.out.keep hb (Nat.le_refl _))
          refine hK'.out _ _ D'.out.cells (fun hS4 => ?_)
          clear hK' K' hb D hS3 A4 E
          have D := D'
          have A4 := A4'
          have E := E'
          have RW := RWn
          clear D' A4' E' RWn
          refine wpAnyH_ready (rs := [14]) (by kernel_rfl) (by simp) ?_
          refine AllReadyH.cons rfl (fun K' hK' => ?_) AllReadyH.nil
          obtain ⟨r0, r1, r2, r3, r4⟩ := zcell_at D.out.rb
          have rz := D.out.rb.frozen
          obtain ⟨xa, xc, xe, xt, x1, x2, x3⟩ := Own.at2 E.out
          cases xe
          obtain ⟨ya, yc, ye, yt, y1, y2, y3⟩ := OwnA.at D.out.ar
          cases ye
          have hMX : MAt Z4 ⟨(SL.length : Int), (ev : Int), [0], s.ar, meetFrom (ofS ends) 0 SL⟩ ⟨some ⟨p, 0, none⟩, 1, fa, fc, ea, ec⟩ := ⟨A4.out, yt, xt, Nat.le_refl _, (show (1 : Nat) ≤ maxLen by decide), (fun h => by cases h), y1, y2, y3, x1, x2, x3⟩
          have hFX : FrM (w.heap.size + 2) ⟨(SL.length : Int), (ev : Int), [0], s.ar, meetFrom (ofS ends) 0 SL⟩ ⟨some ⟨p, 0, none⟩, 1, fa, fc, ea, ec⟩ := ⟨.inr ⟨p, 0, rfl, P4.out⟩, OwnA.fr D.out.ar, Own.fr E.out⟩
          have hLF := Hid.of (dleaf D.out.bel D.out.rb hMX hFX RW.out)
          have hne : w.heap.size ≠ w.heap.size + 1 := by omega
          have KK := ((((D.out.kb.other hne (j := 0) (.int .i64 SL.length)).other hne (j := 1) (.int .i64 ev)).other hne (j := 2) (.slice (some ⟨p, 0, none⟩) 1 1)).other hne (j := 3) (.slice fa s.ar.length fc)).other hne (j := 4) (.slice ea (meetFrom (ofS ends) 0 SL).length ec)
          go_simp
          refine hK'.out _ _ ⟨KK.cell 1 rfl, KK.cell 4 rfl⟩ (fun hSZ => ?_)
          clear hK' K' r0 r1 r2 r3 r4 rz hMX hFX
          refine wpAnyH_take (i := 15) (v := .slice ra (SL.map rowS).length rc) rfl (by kernel_rfl) (by kernel_rfl) (by kernel_rfl) (fun _ _ _ h => h) (Or.inl ⟨by kernel_rfl, fun w' hw' => by obtain ⟨q0, q1⟩ := hw'; go_simp⟩) hSZ ?_
          refine wpAnyH_take (i := 16) (v := .int .i64 0) rfl (by kernel_rfl) (by kernel_rfl) (by kernel_rfl) (fun _ _ _ h => h) (Or.inl ⟨by kernel_rfl, fun w' hw' => by obtain ⟨q0, q1⟩ := hw'; go_simp⟩) hSZ ?_
          refine wpAnyH_done (by kernel_rfl) ?_ _
          clear KK hSZ
          go_wp2
          refine bodyPost_ret (v := .tuple #[mval ⟨(SL.length : Int), (ev : Int), [0], s.ar, meetFrom (ofS ends) 0 SL⟩ ⟨some ⟨p, 0, none⟩, 1, fa, fc, ea, ec⟩, .slice ra SL.length rc, .int .i64 0]) ?_ rfl ?_
          · exact results_three (p := 2) (u := 3) (v := 4) rfl _ _ (w.heap.size + 1) ⟨(SL.length : Int), (ev : Int), [0], s.ar, meetFrom (ofS ends) 0 SL⟩ ⟨some ⟨p, 0, none⟩, 1, fa, fc, ea, ec⟩ _ _ rfl rfl rfl hLF.out.1
          · unfold MakePost
            rw [HDN.out]
            dsimp only
            rw [HME.out, HSE.out]
            obtain ⟨za, zc, ze, zt, z1, z2, z3⟩ := hLF.out.2.2.1.at
            cases ze
            exact ⟨_, _, _, (by rw [List.length_map]), hLF.out.2.1, zt, (by rw [List.length_map]; exact hSLl), hLF.out.2.2.2⟩
        · go_simp
          refine (rowsS_any (w.heap.size + 2) _ SL _ (Hid.of D.out.ss) hSLl hok (Hid.of D.out.tab)).mono ?_
          rintro e Z3 ⟨vr, rfl, orr, hb⟩
          obtain ⟨ra, rc, rfl, -, -, -, -⟩ := orr.at
          have RWn := Hid.of (orr.low (show w.heap.size + 2 ≤ _ from D.out.rb.lt))
          clear orr
          have D' := Hid.of (D.out.below hb)
          have E' := Hid.of (E.out.keep hb (Nat.le_refl _))
          refine hK'.out _ _ D'.out.cells (fun hS3 => ?_)
          clear hK' K' hb D hS2 E
          have D := D'
          have E := E'
          have RW := RWn
          clear D' E' RWn
          refine wpAnyH_ready (rs := [4]) (by kernel_rfl) (by simp) ?_
          refine AllReadyH.cons rfl (fun K' hK' => ?_) AllReadyH.nil
          go_simp
          have hb : Below Z3.heap.size Z3 (Z3.alloc (.cells #[.int .i64 0] 3)) := (Below.refl _ _).alloc (Nat.le_refl _) _
          have D' := Hid.of (D.out.below hb)
          have E' := Hid.of (E.out.keep hb (Nat.le_refl _))
          have RW' := Hid.of (RW.out.below hb)
          have A4n := Hid.of (at_oneD Z3 0)
          have P4 : Hid (w.heap.size + 2 ≤ Z3.heap.size) := D.out.rb.lt
          refine hK'.out _ _ D'.out.cells (fun hSn => ?_)
          clear hK' K' hb D hS3 E RW
          revert D' A4n E' RW' hSn
          generalize Z3.alloc (.cells #[.int .i64 0] 3) = Z4
          revert P4
          generalize Z3.heap.size = p
          intro P4 D E RW A4 hS4
          refine wpAnyH_take (i := 11) (v := .agg #[.int .i64 SL.length, .int .i64 ev, .slice (some ⟨p, 0, none⟩) 1 1, .slice fa s.ar.length fc, .slice ea (meetFrom (ofS ends) 0 SL).length ec]) rfl (by kernel_rfl) (by kernel_rfl) (by kernel_rfl) (fun _ _ _ h => h) (Or.inl ⟨by kernel_rfl, fun w' hw' => by obtain ⟨q0, q1⟩ := hw'; go_simp⟩) hS4 ?_
          refine wpAnyH_ready (rs := [14]) (by kernel_rfl) (by simp) ?_
          refine AllReadyH.cons rfl (fun K' hK' => ?_) AllReadyH.nil
          obtain ⟨r0, r1, r2, r3, r4⟩ := zcell_at D.out.rb
          have rz := D.out.rb.frozen
          obtain ⟨xa, xc, xe, xt, x1, x2, x3⟩ := Own.at2 E.out
          cases xe
          obtain ⟨ya, yc, ye, yt, y1, y2, y3⟩ := OwnA.at D.out.ar
          cases ye
          have hMX : MAt Z4 ⟨(SL.length : Int), (ev : Int), [0], s.ar, meetFrom (ofS ends) 0 SL⟩ ⟨some ⟨p, 0, none⟩, 1, fa, fc, ea, ec⟩ := ⟨A4.out, yt, xt, Nat.le_refl _, (show (1 : Nat) ≤ maxLen by decide), (fun h => by cases h), y1, y2, y3, x1, x2, x3⟩
          have hFX : FrM (w.heap.size + 2) ⟨(SL.length : Int), (ev : Int), [0], s.ar, meetFrom (ofS ends) 0 SL⟩ ⟨some ⟨p, 0, none⟩, 1, fa, fc, ea, ec⟩ := ⟨.inr ⟨p, 0, rfl, P4.out⟩, OwnA.fr D.out.ar, Own.fr E.out⟩
          have hLF := Hid.of (dleaf D.out.bel D.out.rb hMX hFX RW.out)
          have hne : w.heap.size ≠ w.heap.size + 1 := by omega
          have KK := ((((D.out.kb.other hne (j := 0) (.int .i64 SL.length)).other hne (j := 1) (.int .i64 ev)).other hne (j := 2) (.slice (some ⟨p, 0, none⟩) 1 1)).other hne (j := 3) (.slice fa s.ar.length fc)).other hne (j := 4) (.slice ea (meetFrom (ofS ends) 0 SL).length ec)
          go_simp
          refine hK'.out _ _ ⟨KK.cell 1 rfl, KK.cell 4 rfl⟩ (fun hSZ => ?_)
          clear hK' K' r0 r1 r2 r3 r4 rz hMX hFX
          refine wpAnyH_take (i := 15) (v := .slice ra (SL.map rowS).length rc) rfl (by kernel_rfl) (by kernel_rfl) (by kernel_rfl) (fun _ _ _ h => h) (Or.inl ⟨by kernel_rfl, fun w' hw' => by obtain ⟨q0, q1⟩ := hw'; go_simp⟩) hSZ ?_
          refine wpAnyH_take (i := 16) (v := .int .i64 0) rfl (by kernel_rfl) (by kernel_rfl) (by kernel_rfl) (fun _ _ _ h => h) (Or.inl ⟨by kernel_rfl, fun w' hw' => by obtain ⟨q0, q1⟩ := hw'; go_simp⟩) hSZ ?_
          refine wpAnyH_done (by kernel_rfl) ?_ _
          clear KK hSZ
          go_wp2
          refine bodyPost_ret (v := .tuple #[mval ⟨(SL.length : Int), (ev : Int), [0], s.ar, meetFrom (ofS ends) 0 SL⟩ ⟨some ⟨p, 0, none⟩, 1, fa, fc, ea, ec⟩, .slice ra SL.length rc, .int .i64 0]) ?_ rfl ?_
          · exact results_three (p := 2) (u := 3) (v := 4) rfl _ _ (w.heap.size + 1) ⟨(SL.length : Int), (ev : Int), [0], s.ar, meetFrom (ofS ends) 0 SL⟩ ⟨some ⟨p, 0, none⟩, 1, fa, fc, ea, ec⟩ _ _ rfl rfl rfl hLF.out.1
          · unfold MakePost
            rw [HDN.out]
            dsimp only
            rw [HME.out, HSE.out]
            obtain ⟨za, zc, ze, zt, z1, z2, z3⟩ := hLF.out.2.2.1.at
            cases ze
            exact ⟨_, _, _, (by rw [List.length_map]), hLF.out.2.1, zt, (by rw [List.length_map]; exact hSLl), hLF.out.2.2.2⟩

theorem dMake_any (m : Mach) (l : ML) (w : World) (h : MAt w m l) (hT : Tab w) : Calls Tryd.prog 34 #[mval m l] w fun e w' => MakePost w m e w' := by
  cases hm : mayB m with
  | false => exact dmake_err m l w (Hid.of h) (Hid.of hm)
  | true =>
    have hz := mayB_size hm
    obtain ⟨st, ev, starts, ars, ends⟩ := m
    obtain ⟨a1, c1, a2, c2, a3, c3⟩ := l
    obtain ⟨z1, z2, z3, z4, z5⟩ := hz
    simp only at z1 z2 z3 z4 z5
    obtain ⟨s, rfl⟩ : ∃ s : Nat, st = (s : Int) := ⟨st.toNat, by omega⟩
    obtain ⟨v, rfl⟩ : ∃ v : Nat, ev = (v : Int) := ⟨ev.toNat, by omega⟩
    exact dmake_ok s v starts ars ends a1 c1 a2 c2 a3 c3 w (Hid.of h) (Hid.of hm) (Hid.of hT)

end Go.Proofs.YtbdkaobbfmgnhaaDoor
