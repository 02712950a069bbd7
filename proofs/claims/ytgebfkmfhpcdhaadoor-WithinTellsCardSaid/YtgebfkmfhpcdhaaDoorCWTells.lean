/-
  The walk of the law WithinTells.
-/
import Derived.Test.YtgebfkmfhpcdhaaDoorCPWith
import Derived.Test.YtgebfkmfhpcdhaaDoorG53
namespace Go.Proofs.YtgebfkmfhpcdhaaDoor
open Go.RowKit
set_option linter.unusedVariables false

set_option maxRecDepth 100000 in
set_option maxHeartbeats 4000000 in
theorem wtells_any (a b : Mach) (la lb : ML) (w : World) (hT : Hid (Tab w)) (h : Hid (MAt w a la)) (h' : Hid (MAt w b lb)) :
    Calls Tryd.prog 6 #[mval a la, mval b lb] w fun e w' => e = .returned (.bool true) ∧ Below w.heap.size w w' := by
  have B0 : Hid (Below w.heap.size w ((w.alloc (.cells (mcells a la) 25)).alloc (.cells (mcells b lb) 25))) := ((Below.refl _ _).alloc (Nat.le_refl _) _).alloc (by simp) _
  have KA0 : Hid (Blk ((w.alloc (.cells (mcells a la) 25)).alloc (.cells (mcells b lb) 25)) w.heap.size 25 (mcells a la)) := (Blk.new w _ _).alloc _
  have KB0 : Hid (Blk ((w.alloc (.cells (mcells a la) 25)).alloc (.cells (mcells b lb) 25)) (w.heap.size + 1) 25 (mcells b lb)) := by
    have := Blk.new (w.alloc (.cells (mcells a la) 25)) 25 (mcells b lb)
    rwa [World.size_alloc] at this
  go_enter Tryd.func6, Tryd.ntmps6
  go_wp2_with fail
  revert B0 KA0 KB0
  generalize (w.alloc (.cells (mcells a la) 25)).alloc (.cells (mcells b lb) 25) = V0
  intro B0 KA0 KB0
  refine (pWith_any a b la lb _ (h.out.below B0.out (Nat.le_refl _)) (h'.out.below B0.out (Nat.le_refl _)) (hT.out.below B0.out hT.out.lt)).mono ?_
  rintro e V1 ⟨va, vc, rfl, at1, l1, hb1⟩
  have B1 := Hid.of (B0.out.trans (hb1.mono B0.out.size))
  have KA1 := Hid.of (KA0.out.below hb1 KA0.out.lt)
  have KB1 := Hid.of (KB0.out.below hb1 KB0.out.lt)
  have AT1 := Hid.of at1
  have L1 := Hid.of l1
  clear hb1 B0 KA0 KB0 at1 l1
  obtain ⟨x0, x1, x2, x3, x4⟩ := mcell_at KA1.out
  obtain ⟨y0, y1, y2, y3, y4⟩ := mcell_at KB1.out
  go_wp2_with fail
  refine (rWith_any a b la lb _ (Hid.of (h.out.below B1.out (Nat.le_refl _))) (Hid.of (h'.out.below B1.out (Nat.le_refl _)))).mono ?_
  rintro e V2 ⟨vb, vd, rfl, at2, l2, hb2⟩
  have B2 := Hid.of (B1.out.trans (hb2.mono B1.out.size))
  have AT12 := Hid.of (AT1.out.below hb2 (Nat.le_refl _))
  clear hb2 B1 KA1 KB1 AT1 x0 x1 x2 x3 x4 y0 y1 y2 y3 y4
  have KEY := Hid.of (same_any va vb vc vd _ _ V2 AT12.out at2 L1.out l2)
  clear at2 l2 AT12 L1
  revert KEY
  generalize withOut a b = O
  intro KEY
  obtain ⟨is, wd, c⟩ := O
  dsimp only at KEY ⊢
  have HS : Hid (sameB wd wd = true) := by show _ = _; simp [sameB]
  rw [HS.out] at KEY
  go_wp2_with fail
  refine KEY.out.mono ?_
  rintro e V3 ⟨rfl, q, rfl⟩
  clear KEY
  have B3 : Hid (Below w.heap.size w (V2.drewN q)) := below_drewN B2.out q
  go_wp2
  go_ret
  exact ⟨rfl, B3.out⟩

end Go.Proofs.YtgebfkmfhpcdhaaDoor
