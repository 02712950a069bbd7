/-
  The walk of secret.parts: the pairs to which secret words come, and those to which open ones come.
-/
import Derived.Deep.RegionHeld3
import Derived.Test.YtgebfkmfhpcdhaaDoorG36
import Derived.Test.YtgebfkmfhpcdhaaDoorCSecX
import Derived.Test.YtgebfkmfhpcdhaaDoorG17
import Derived.Test.YtgebfkmfhpcdhaaDoorG12
import Derived.Test.YtgebfkmfhpcdhaaDoorG14
namespace Go.Proofs.YtgebfkmfhpcdhaaDoor
open Go.RowKit
set_option linter.unusedVariables false

theorem Blk.o4 {W : World} {b b' : Nat} {t : TypeId} {cs : Array Value} (h : Blk W b t cs) (hne : b ≠ b') (F : Nat → Nat) : Blk ((((W.setCell ⟨b', 0, none⟩ (.int .u64 (F 0))).setCell ⟨b', 1, none⟩ (.int .u64 (F 1))).setCell ⟨b', 2, none⟩ (.int .u64 (F 2))).setCell ⟨b', 3, none⟩ (.int .u64 (F 3))) b t cs := h.other4 hne _ _ _ _
theorem below_o4 {W V : World} {B b' : Nat} (h : Below B V W) (hb : B ≤ b') (F : Nat → Nat) : Below B V ((((W.setCell ⟨b', 0, none⟩ (.int .u64 (F 0))).setCell ⟨b', 1, none⟩ (.int .u64 (F 1))).setCell ⟨b', 2, none⟩ (.int .u64 (F 2))).setCell ⟨b', 3, none⟩ (.int .u64 (F 3))) := below_set4 h hb _ _ _ _
theorem oneW_ok {k : Nat} (h : k < 16) : okS (oneW k) := fun j => by unfold oneW; split <;> omega

set_option maxRecDepth 100000 in
set_option maxHeartbeats 16000000 in
theorem parts_go (st sb ev : Nat) (starts startsB : List Int) (ars arsB : List Arr) (ends endsB : List Int) (a1 : Option Addr) (c1 : Nat) (a2 : Option Addr) (c2 : Nat) (a3 : Option Addr) (c3 : Nat) (b1 : Option Addr) (d1 : Nat) (b2 : Option Addr) (d2 : Nat) (b3 : Option Addr) (d3 : Nat) (hma : Hid (mayB ⟨(st : Int), (ev : Int), starts, ars, ends⟩ = true)) (hmb : Hid (mayB ⟨(sb : Int), (ev : Int), startsB, arsB, endsB⟩ = true)) (z6 : st ≤ 6) (z4 : sb ≤ 4) (w : World) (hT : Hid (Tab w)) (h : Hid (MAt w ⟨(st : Int), (ev : Int), starts, ars, ends⟩ ⟨a1, c1, a2, c2, a3, c3⟩)) (h' : Hid (MAt w ⟨(sb : Int), (ev : Int), startsB, arsB, endsB⟩ ⟨b1, d1, b2, d2, b3, d3⟩)) :
    Calls Tryd.prog 94 #[mval ⟨(st : Int), (ev : Int), starts, ars, ends⟩ ⟨a1, c1, a2, c2, a3, c3⟩, mval ⟨(sb : Int), (ev : Int), startsB, arsB, endsB⟩ ⟨b1, d1, b2, d2, b3, d3⟩] w fun e w' => e = .returned (.tuple #[sval (secF (ofS ends) (ofS endsB) true 16), sval (secF (ofS ends) (ofS endsB) false 16)]) ∧ Below w.heap.size w w' := by
  have B : Hid (Below w.heap.size w ((((w.alloc (.cells (mcells ⟨(st : Int), (ev : Int), starts, ars, ends⟩ ⟨a1, c1, a2, c2, a3, c3⟩) 25)).alloc (.cells (mcells ⟨(sb : Int), (ev : Int), startsB, arsB, endsB⟩ ⟨b1, d1, b2, d2, b3, d3⟩) 25)).alloc (.cells #[.int .u64 0, .int .u64 0, .int .u64 0, .int .u64 0] 79)).alloc (.cells #[.int .u64 0, .int .u64 0, .int .u64 0, .int .u64 0] 79))) := ((((Below.refl _ _).alloc (Nat.le_refl _) _).alloc (by simp) _).alloc (by simp; omega) _).alloc (by simp; omega) _
  have KA : Hid (Blk ((((w.alloc (.cells (mcells ⟨(st : Int), (ev : Int), starts, ars, ends⟩ ⟨a1, c1, a2, c2, a3, c3⟩) 25)).alloc (.cells (mcells ⟨(sb : Int), (ev : Int), startsB, arsB, endsB⟩ ⟨b1, d1, b2, d2, b3, d3⟩) 25)).alloc (.cells #[.int .u64 0, .int .u64 0, .int .u64 0, .int .u64 0] 79)).alloc (.cells #[.int .u64 0, .int .u64 0, .int .u64 0, .int .u64 0] 79)) w.heap.size 25 (mcells ⟨(st : Int), (ev : Int), starts, ars, ends⟩ ⟨a1, c1, a2, c2, a3, c3⟩)) := (((Blk.new w _ _).alloc _).alloc _).alloc _
  have KB : Hid (Blk ((((w.alloc (.cells (mcells ⟨(st : Int), (ev : Int), starts, ars, ends⟩ ⟨a1, c1, a2, c2, a3, c3⟩) 25)).alloc (.cells (mcells ⟨(sb : Int), (ev : Int), startsB, arsB, endsB⟩ ⟨b1, d1, b2, d2, b3, d3⟩) 25)).alloc (.cells #[.int .u64 0, .int .u64 0, .int .u64 0, .int .u64 0] 79)).alloc (.cells #[.int .u64 0, .int .u64 0, .int .u64 0, .int .u64 0] 79)) (w.heap.size + 1) 25 (mcells ⟨(sb : Int), (ev : Int), startsB, arsB, endsB⟩ ⟨b1, d1, b2, d2, b3, d3⟩)) := by
    have := ((Blk.new (w.alloc (.cells (mcells ⟨(st : Int), (ev : Int), starts, ars, ends⟩ ⟨a1, c1, a2, c2, a3, c3⟩) 25)) 25 (mcells ⟨(sb : Int), (ev : Int), startsB, arsB, endsB⟩ ⟨b1, d1, b2, d2, b3, d3⟩)).alloc (.cells #[.int .u64 0, .int .u64 0, .int .u64 0, .int .u64 0] 79)).alloc (.cells #[.int .u64 0, .int .u64 0, .int .u64 0, .int .u64 0] 79)
    rwa [World.size_alloc] at this
  have K4 : Hid (SB ((((w.alloc (.cells (mcells ⟨(st : Int), (ev : Int), starts, ars, ends⟩ ⟨a1, c1, a2, c2, a3, c3⟩) 25)).alloc (.cells (mcells ⟨(sb : Int), (ev : Int), startsB, arsB, endsB⟩ ⟨b1, d1, b2, d2, b3, d3⟩) 25)).alloc (.cells #[.int .u64 0, .int .u64 0, .int .u64 0, .int .u64 0] 79)).alloc (.cells #[.int .u64 0, .int .u64 0, .int .u64 0, .int .u64 0] 79)) (w.heap.size + 1 + 1) zeroS) := by
    have := (Blk.new ((w.alloc (.cells (mcells ⟨(st : Int), (ev : Int), starts, ars, ends⟩ ⟨a1, c1, a2, c2, a3, c3⟩) 25)).alloc (.cells (mcells ⟨(sb : Int), (ev : Int), startsB, arsB, endsB⟩ ⟨b1, d1, b2, d2, b3, d3⟩) 25)) 79 #[.int .u64 0, .int .u64 0, .int .u64 0, .int .u64 0]).alloc (.cells #[.int .u64 0, .int .u64 0, .int .u64 0, .int .u64 0] 79)
    rwa [World.size_alloc, World.size_alloc] at this
  have K5 : Hid (SB ((((w.alloc (.cells (mcells ⟨(st : Int), (ev : Int), starts, ars, ends⟩ ⟨a1, c1, a2, c2, a3, c3⟩) 25)).alloc (.cells (mcells ⟨(sb : Int), (ev : Int), startsB, arsB, endsB⟩ ⟨b1, d1, b2, d2, b3, d3⟩) 25)).alloc (.cells #[.int .u64 0, .int .u64 0, .int .u64 0, .int .u64 0] 79)).alloc (.cells #[.int .u64 0, .int .u64 0, .int .u64 0, .int .u64 0] 79)) (w.heap.size + 1 + 1 + 1) zeroS) := by
    have := Blk.new (((w.alloc (.cells (mcells ⟨(st : Int), (ev : Int), starts, ars, ends⟩ ⟨a1, c1, a2, c2, a3, c3⟩) 25)).alloc (.cells (mcells ⟨(sb : Int), (ev : Int), startsB, arsB, endsB⟩ ⟨b1, d1, b2, d2, b3, d3⟩) 25)).alloc (.cells #[.int .u64 0, .int .u64 0, .int .u64 0, .int .u64 0] 79)) 79 #[.int .u64 0, .int .u64 0, .int .u64 0, .int .u64 0]
    rwa [World.size_alloc, World.size_alloc, World.size_alloc] at this
  have slA : Hid (ends.length ≤ maxLen) := Nat.le_trans h.out.e1 h.out.e2
  have slB : Hid (endsB.length ≤ maxLen) := Nat.le_trans h'.out.e1 h'.out.e2
  have sbA : Hid (∀ x ∈ ends, 0 ≤ x ∧ x < 256) := fun x hx => by have := (may_ends hma.out).2 x hx; dsimp only at this; omega
  have sbB : Hid (∀ x ∈ endsB, 0 ≤ x ∧ x < 256) := fun x hx => by have := (may_ends hmb.out).2 x hx; dsimp only at this; omega
  have rA := rep_allL sbA.out
  have rB := rep_allL sbB.out
  obtain ⟨EA, HEA⟩ : ∃ EA, Hid (EA = ofS ends) := ⟨_, rfl⟩
  obtain ⟨EB, HEB⟩ : ∃ EB, Hid (EB = ofS endsB) := ⟨_, rfl⟩
  rw [← HEA.out] at rA
  rw [← HEB.out] at rB
  rw [← HEA.out, ← HEB.out]
  have okA := Hid.of rA.ok
  have okB := Hid.of rB.ok
  have allA : Hid (∀ k ∈ allS EA, k < 15) := fun k hk => by
    obtain ⟨k1, k2⟩ := (mem_allS _ _).1 hk
    have := (may_ends hma.out).2 _ ((rA.mem k k1).1 k2)
    dsimp only at this; omega
  clear rA rB
  go_enter Tryd.func94, Tryd.ntmps94
  go_wp2_with fail
  revert B KA KB K4 K5
  generalize ((((w.alloc (.cells (mcells ⟨(st : Int), (ev : Int), starts, ars, ends⟩ ⟨a1, c1, a2, c2, a3, c3⟩) 25)).alloc (.cells (mcells ⟨(sb : Int), (ev : Int), startsB, arsB, endsB⟩ ⟨b1, d1, b2, d2, b3, d3⟩) 25)).alloc (.cells #[.int .u64 0, .int .u64 0, .int .u64 0, .int .u64 0] 79)).alloc (.cells #[.int .u64 0, .int .u64 0, .int .u64 0, .int .u64 0] 79)) = V0
  intro B KA KB K4 K5
  refine Code.wp_mono (Q := regQ fun a' W' => ∃ (p6 p7 : Nat), a' = { tmps := #[mval ⟨(st : Int), (ev : Int), starts, ars, ends⟩ ⟨a1, c1, a2, c2, a3, c3⟩, mval ⟨(sb : Int), (ev : Int), startsB, arsB, endsB⟩ ⟨b1, d1, b2, d2, b3, d3⟩, .pointer (some ⟨w.heap.size, 0, none⟩), .pointer (some ⟨w.heap.size + 1, 0, none⟩), .pointer (some ⟨w.heap.size + 1 + 1, 0, none⟩), .pointer (some ⟨w.heap.size + 1 + 1 + 1, 0, none⟩), .pointer (some ⟨p6, 0, none⟩), .pointer (some ⟨p7, 0, none⟩), undef, undef, .pointer (some ⟨w.heap.size, 4, none⟩), .slice a3 ends.length c3, sval EA, .pointer (some ⟨w.heap.size + 1, 4, none⟩), .slice b3 endsB.length d3, sval EB, undef, undef, undef, undef, undef, undef, undef, undef, undef, undef, undef, undef, undef, undef, undef, undef, undef, undef, undef, undef, undef, undef], defers := [] } ∧ Below w.heap.size w W' ∧ SB W' (w.heap.size + 1 + 1) zeroS ∧ SB W' (w.heap.size + 1 + 1 + 1) zeroS ∧ SB W' p6 EA ∧ SB W' p7 EB ∧ w.heap.size + 1 + 1 + 1 < p6 ∧ w.heap.size + 1 + 1 + 1 < p7 ∧ p6 ≠ p7) ?aft ?reg
  case reg =>
    refine wp_region_held_drew (S := fun w' => w'.cell? ⟨w.heap.size, 4, none⟩ = some (.slice a3 ends.length c3) ∧ w'.cell? ⟨w.heap.size + 1, 4, none⟩ = some (.slice b3 endsB.length d3)) (by kernel_rfl) ⟨(Blk.drew KA.out).cell 4 rfl, (Blk.drew KB.out).cell 4 rfl⟩ (fun hS => ?_)
    replace B : Hid (Below w.heap.size w V0.drew) := B.out.drew
    replace KA : Hid (Blk V0.drew w.heap.size 25 (mcells ⟨(st : Int), (ev : Int), starts, ars, ends⟩ ⟨a1, c1, a2, c2, a3, c3⟩)) := Blk.drew KA.out
    replace KB : Hid (Blk V0.drew (w.heap.size + 1) 25 (mcells ⟨(sb : Int), (ev : Int), startsB, arsB, endsB⟩ ⟨b1, d1, b2, d2, b3, d3⟩)) := Blk.drew KB.out
    replace K4 : Hid (SB V0.drew (w.heap.size + 1 + 1) zeroS) := Blk.drew K4.out
    replace K5 : Hid (SB V0.drew (w.heap.size + 1 + 1 + 1) zeroS) := Blk.drew K5.out
    revert hS B KA KB K4 K5
    generalize V0.drew = Y0
    intro hS B KA KB K4 K5
    refine wpAnyH_take (i := 0) (v := .pointer (some ⟨w.heap.size, 4, none⟩)) rfl (by kernel_rfl) (by kernel_rfl) (by kernel_rfl) (fun _ _ _ h => h) (Or.inl ⟨by kernel_rfl, fun w' hw' => by obtain ⟨q0, q1⟩ := hw'; go_simp⟩) hS ?_
    refine wpAnyH_take (i := 1) (v := .slice a3 ends.length c3) rfl (by kernel_rfl) (by kernel_rfl) (by kernel_rfl) (fun _ _ _ h => h) (Or.inl ⟨by kernel_rfl, fun w' hw' => by obtain ⟨q0, q1⟩ := hw'; go_simp⟩) hS ?_
    refine wpAnyH_take (i := 3) (v := .pointer (some ⟨w.heap.size + 1, 4, none⟩)) rfl (by kernel_rfl) (by kernel_rfl) (by kernel_rfl) (fun _ _ _ h => h) (Or.inl ⟨by kernel_rfl, fun w' hw' => by obtain ⟨q0, q1⟩ := hw'; go_simp⟩) hS ?_
    refine wpAnyH_take (i := 4) (v := .slice b3 endsB.length d3) rfl (by kernel_rfl) (by kernel_rfl) (by kernel_rfl) (fun _ _ _ h => h) (Or.inl ⟨by kernel_rfl, fun w' hw' => by obtain ⟨q0, q1⟩ := hw'; go_simp⟩) hS ?_
    simp only [Act.put, List.setIfInBounds_toArray]
    refine wpAnyH_ready (rs := [2, 6, 7]) (by kernel_rfl) (by simp) ?_
    refine AllReadyH.cons rfl (fun K' hK' => ?_) (AllReadyH.cons rfl (fun K' hK' => ?_) (AllReadyH.cons rfl (fun K' hK' => ?_) AllReadyH.nil))
    · clear hS
      go_simp
      refine (of_any a3 c3 ends Y0 (h.out.e.below B.out (Nat.le_refl _)) slA.out sbA.out).mono ?_
      rintro e Y1 ⟨rfl, hb⟩
      rw [← HEA.out]
      replace B := Hid.of (B.out.trans (hb.mono B.out.size))
      replace KA := Hid.of (KA.out.below hb KA.out.lt)
      replace KB := Hid.of (KB.out.below hb KB.out.lt)
      replace K4 := Hid.of (K4.out.below hb K4.out.lt)
      replace K5 := Hid.of (K5.out.below hb K5.out.lt)
      refine hK'.out _ _ (⟨KA.out.cell 4 rfl, KB.out.cell 4 rfl⟩) (fun hS => ?_)
      clear hK' K' hb
      refine wpAnyH_ready (rs := [5, 6, 7]) (by kernel_rfl) (by simp) ?_
      refine AllReadyH.cons rfl (fun K' hK' => ?_) (AllReadyH.cons rfl (fun K' hK' => ?_) (AllReadyH.cons rfl (fun K' hK' => ?_) AllReadyH.nil))
      · clear hS
        go_simp
        refine (of_any b3 d3 endsB Y1 (h'.out.e.below B.out (Nat.le_refl _)) slB.out sbB.out).mono ?_
        rintro e Y2 ⟨rfl, hb⟩
        rw [← HEB.out]
        replace B := Hid.of (B.out.trans (hb.mono B.out.size))
        replace KA := Hid.of (KA.out.below hb KA.out.lt)
        replace KB := Hid.of (KB.out.below hb KB.out.lt)
        replace K4 := Hid.of (K4.out.below hb K4.out.lt)
        replace K5 := Hid.of (K5.out.below hb K5.out.lt)
        refine hK'.out _ _ (⟨KA.out.cell 4 rfl, KB.out.cell 4 rfl⟩) (fun hS => ?_)
        clear hK' K' hb
        refine wpAnyH_ready (rs := [6, 7]) (by kernel_rfl) (by simp) ?_
        refine AllReadyH.cons rfl (fun K' hK' => ?_) (AllReadyH.cons rfl (fun K' hK' => ?_) AllReadyH.nil)
        · clear hS
          go_simp
          have hb : Below Y2.heap.size Y2 (Y2.alloc (.cells #[.int .u64 0, .int .u64 0, .int .u64 0, .int .u64 0] 79)) := (Below.refl _ _).alloc (Nat.le_refl _) _
          have P6 := Hid.of (Nat.succ_le_of_lt K5.out.lt)
          replace B := Hid.of (B.out.trans (hb.mono B.out.size))
          replace KA := Hid.of (KA.out.below hb KA.out.lt)
          replace KB := Hid.of (KB.out.below hb KB.out.lt)
          replace K4 := Hid.of (K4.out.below hb K4.out.lt)
          replace K5 := Hid.of (K5.out.below hb K5.out.lt)
          have KK6 := Hid.of (Blk.new Y2 79 #[.int .u64 0, .int .u64 0, .int .u64 0, .int .u64 0])
          refine hK'.out _ _ (⟨KA.out.cell 4 rfl, KB.out.cell 4 rfl⟩) (fun hS => ?_)
          clear hK' K' hb
          revert P6 B KA KB K4 K5 KK6 hS
          generalize Y2.alloc (.cells #[.int .u64 0, .int .u64 0, .int .u64 0, .int .u64 0] 79) = Y3
          generalize Y2.heap.size = p6
          intro P6 B KA KB K4 K5 KK6 hS
          refine wpAnyH_ready (rs := [7]) (by kernel_rfl) (by simp) ?_
          refine AllReadyH.cons rfl (fun K' hK' => ?_) AllReadyH.nil
          clear hS
          go_simp
          have hb : Below Y3.heap.size Y3 (Y3.alloc (.cells #[.int .u64 0, .int .u64 0, .int .u64 0, .int .u64 0] 79)) := (Below.refl _ _).alloc (Nat.le_refl _) _
          have P7 := Hid.of (Nat.succ_le_of_lt K5.out.lt)
          have N67 := Hid.of (Nat.ne_of_lt KK6.out.lt)
          replace B := Hid.of (B.out.trans (hb.mono B.out.size))
          replace KA := Hid.of (KA.out.below hb KA.out.lt)
          replace KB := Hid.of (KB.out.below hb KB.out.lt)
          replace K4 := Hid.of (K4.out.below hb K4.out.lt)
          replace K5 := Hid.of (K5.out.below hb K5.out.lt)
          replace KK6 := Hid.of (KK6.out.below hb KK6.out.lt)
          have KK7 := Hid.of (Blk.new Y3 79 #[.int .u64 0, .int .u64 0, .int .u64 0, .int .u64 0])
          refine hK'.out _ _ (⟨KA.out.cell 4 rfl, KB.out.cell 4 rfl⟩) (fun hS => ?_)
          clear hK' K' hb
          revert P7 N67 B KA KB K4 K5 KK6 KK7 hS
          generalize Y3.alloc (.cells #[.int .u64 0, .int .u64 0, .int .u64 0, .int .u64 0] 79) = Y4
          generalize Y3.heap.size = p7
          intro P7 N67 B KA KB K4 K5 KK6 KK7 hS
          replace KK6 : Hid (SB _ p6 zeroS) := KK6
          replace KK7 : Hid (SB _ p7 zeroS) := KK7
          refine wpAnyH_ready (rs := [8]) (by kernel_rfl) (by simp) ?_
          refine AllReadyH.cons rfl (fun K' hK' => ?_) AllReadyH.nil
          clear hS
          have ff := KK6.out.frozen
          obtain ⟨z0, z1, z2, z3⟩ := SB.cells KK6.out
          go_simp
          replace B := Hid.of (below_o4 B.out (b' := p6) (by have := P6.out; omega) EA)
          replace KA := Hid.of (KA.out.o4 (b' := p6) (by have := P6.out; omega) EA)
          replace KB := Hid.of (KB.out.o4 (b' := p6) (by have := P6.out; omega) EA)
          replace K4 := Hid.of (K4.out.o4 (b' := p6) (by have := P6.out; omega) EA)
          replace K5 := Hid.of (K5.out.o4 (b' := p6) (by have := P6.out; omega) EA)
          replace KK7 := Hid.of (KK7.out.o4 (Ne.symm N67.out) EA)
          replace KK6 := Hid.of (SB.set4 KK6.out EA)
          refine hK'.out _ _ (⟨KA.out.cell 4 rfl, KB.out.cell 4 rfl⟩) (fun hS => ?_)
          clear hK' K' ff z0 z1 z2 z3
          refine wpAnyH_ready (rs := [9]) (by kernel_rfl) (by simp) ?_
          refine AllReadyH.cons rfl (fun K' hK' => ?_) AllReadyH.nil
          clear hS
          have ff := KK7.out.frozen
          obtain ⟨z0, z1, z2, z3⟩ := SB.cells KK7.out
          go_simp
          replace B := Hid.of (below_o4 B.out (b' := p7) (by have := P7.out; omega) EB)
          replace KA := Hid.of (KA.out.o4 (b' := p7) (by have := P7.out; omega) EB)
          replace KB := Hid.of (KB.out.o4 (b' := p7) (by have := P7.out; omega) EB)
          replace K4 := Hid.of (K4.out.o4 (b' := p7) (by have := P7.out; omega) EB)
          replace K5 := Hid.of (K5.out.o4 (b' := p7) (by have := P7.out; omega) EB)
          replace KK6 := Hid.of (KK6.out.o4 N67.out EB)
          replace KK7 := Hid.of (SB.set4 KK7.out EB)
          refine hK'.out _ _ (⟨KA.out.cell 4 rfl, KB.out.cell 4 rfl⟩) (fun hS => ?_)
          clear hK' K' ff z0 z1 z2 z3
          refine wpAnyH_done (by kernel_rfl) ?_ _
          exact ⟨p6, p7, rfl, B.out, K4.out, K5.out, KK6.out, KK7.out, by have := P6.out; omega, by have := P7.out; omega, N67.out⟩
        · clear hS
          go_simp
          have hb : Below Y2.heap.size Y2 (Y2.alloc (.cells #[.int .u64 0, .int .u64 0, .int .u64 0, .int .u64 0] 79)) := (Below.refl _ _).alloc (Nat.le_refl _) _
          have P7 := Hid.of (Nat.succ_le_of_lt K5.out.lt)
          replace B := Hid.of (B.out.trans (hb.mono B.out.size))
          replace KA := Hid.of (KA.out.below hb KA.out.lt)
          replace KB := Hid.of (KB.out.below hb KB.out.lt)
          replace K4 := Hid.of (K4.out.below hb K4.out.lt)
          replace K5 := Hid.of (K5.out.below hb K5.out.lt)
          have KK7 := Hid.of (Blk.new Y2 79 #[.int .u64 0, .int .u64 0, .int .u64 0, .int .u64 0])
          refine hK'.out _ _ (⟨KA.out.cell 4 rfl, KB.out.cell 4 rfl⟩) (fun hS => ?_)
          clear hK' K' hb
          revert P7 B KA KB K4 K5 KK7 hS
          generalize Y2.alloc (.cells #[.int .u64 0, .int .u64 0, .int .u64 0, .int .u64 0] 79) = Y5
          generalize Y2.heap.size = p7
          intro P7 B KA KB K4 K5 KK7 hS
          refine wpAnyH_ready (rs := [6]) (by kernel_rfl) (by simp) ?_
          refine AllReadyH.cons rfl (fun K' hK' => ?_) AllReadyH.nil
          clear hS
          go_simp
          have hb : Below Y5.heap.size Y5 (Y5.alloc (.cells #[.int .u64 0, .int .u64 0, .int .u64 0, .int .u64 0] 79)) := (Below.refl _ _).alloc (Nat.le_refl _) _
          have P6 := Hid.of (Nat.succ_le_of_lt K5.out.lt)
          have N67 := Hid.of (Nat.ne_of_gt KK7.out.lt)
          replace B := Hid.of (B.out.trans (hb.mono B.out.size))
          replace KA := Hid.of (KA.out.below hb KA.out.lt)
          replace KB := Hid.of (KB.out.below hb KB.out.lt)
          replace K4 := Hid.of (K4.out.below hb K4.out.lt)
          replace K5 := Hid.of (K5.out.below hb K5.out.lt)
          replace KK7 := Hid.of (KK7.out.below hb KK7.out.lt)
          have KK6 := Hid.of (Blk.new Y5 79 #[.int .u64 0, .int .u64 0, .int .u64 0, .int .u64 0])
          refine hK'.out _ _ (⟨KA.out.cell 4 rfl, KB.out.cell 4 rfl⟩) (fun hS => ?_)
          clear hK' K' hb
          revert P6 N67 B KA KB K4 K5 KK7 KK6 hS
          generalize Y5.alloc (.cells #[.int .u64 0, .int .u64 0, .int .u64 0, .int .u64 0] 79) = Y6
          generalize Y5.heap.size = p6
          intro P6 N67 B KA KB K4 K5 KK7 KK6 hS
          replace KK6 : Hid (SB _ p6 zeroS) := KK6
          replace KK7 : Hid (SB _ p7 zeroS) := KK7
          refine wpAnyH_ready (rs := [8]) (by kernel_rfl) (by simp) ?_
          refine AllReadyH.cons rfl (fun K' hK' => ?_) AllReadyH.nil
          clear hS
          have ff := KK6.out.frozen
          obtain ⟨z0, z1, z2, z3⟩ := SB.cells KK6.out
          go_simp
          replace B := Hid.of (below_o4 B.out (b' := p6) (by have := P6.out; omega) EA)
          replace KA := Hid.of (KA.out.o4 (b' := p6) (by have := P6.out; omega) EA)
          replace KB := Hid.of (KB.out.o4 (b' := p6) (by have := P6.out; omega) EA)
          replace K4 := Hid.of (K4.out.o4 (b' := p6) (by have := P6.out; omega) EA)
          replace K5 := Hid.of (K5.out.o4 (b' := p6) (by have := P6.out; omega) EA)
          replace KK7 := Hid.of (KK7.out.o4 (Ne.symm N67.out) EA)
          replace KK6 := Hid.of (SB.set4 KK6.out EA)
          refine hK'.out _ _ (⟨KA.out.cell 4 rfl, KB.out.cell 4 rfl⟩) (fun hS => ?_)
          clear hK' K' ff z0 z1 z2 z3
          refine wpAnyH_ready (rs := [9]) (by kernel_rfl) (by simp) ?_
          refine AllReadyH.cons rfl (fun K' hK' => ?_) AllReadyH.nil
          clear hS
          have ff := KK7.out.frozen
          obtain ⟨z0, z1, z2, z3⟩ := SB.cells KK7.out
          go_simp
          replace B := Hid.of (below_o4 B.out (b' := p7) (by have := P7.out; omega) EB)
          replace KA := Hid.of (KA.out.o4 (b' := p7) (by have := P7.out; omega) EB)
          replace KB := Hid.of (KB.out.o4 (b' := p7) (by have := P7.out; omega) EB)
          replace K4 := Hid.of (K4.out.o4 (b' := p7) (by have := P7.out; omega) EB)
          replace K5 := Hid.of (K5.out.o4 (b' := p7) (by have := P7.out; omega) EB)
          replace KK6 := Hid.of (KK6.out.o4 N67.out EB)
          replace KK7 := Hid.of (SB.set4 KK7.out EB)
          refine hK'.out _ _ (⟨KA.out.cell 4 rfl, KB.out.cell 4 rfl⟩) (fun hS => ?_)
          clear hK' K' ff z0 z1 z2 z3
          refine wpAnyH_done (by kernel_rfl) ?_ _
          exact ⟨p6, p7, rfl, B.out, K4.out, K5.out, KK6.out, KK7.out, by have := P6.out; omega, by have := P7.out; omega, N67.out⟩
      · clear hS
        go_simp
        have hb : Below Y1.heap.size Y1 (Y1.alloc (.cells #[.int .u64 0, .int .u64 0, .int .u64 0, .int .u64 0] 79)) := (Below.refl _ _).alloc (Nat.le_refl _) _
        have P6 := Hid.of (Nat.succ_le_of_lt K5.out.lt)
        replace B := Hid.of (B.out.trans (hb.mono B.out.size))
        replace KA := Hid.of (KA.out.below hb KA.out.lt)
        replace KB := Hid.of (KB.out.below hb KB.out.lt)
        replace K4 := Hid.of (K4.out.below hb K4.out.lt)
        replace K5 := Hid.of (K5.out.below hb K5.out.lt)
        have KK6 := Hid.of (Blk.new Y1 79 #[.int .u64 0, .int .u64 0, .int .u64 0, .int .u64 0])
        refine hK'.out _ _ (⟨KA.out.cell 4 rfl, KB.out.cell 4 rfl⟩) (fun hS => ?_)
        clear hK' K' hb
        revert P6 B KA KB K4 K5 KK6 hS
        generalize Y1.alloc (.cells #[.int .u64 0, .int .u64 0, .int .u64 0, .int .u64 0] 79) = Y7
        generalize Y1.heap.size = p6
        intro P6 B KA KB K4 K5 KK6 hS
        refine wpAnyH_ready (rs := [5, 7]) (by kernel_rfl) (by simp) ?_
        refine AllReadyH.cons rfl (fun K' hK' => ?_) (AllReadyH.cons rfl (fun K' hK' => ?_) AllReadyH.nil)
        · clear hS
          go_simp
          refine (of_any b3 d3 endsB Y7 (h'.out.e.below B.out (Nat.le_refl _)) slB.out sbB.out).mono ?_
          rintro e Y8 ⟨rfl, hb⟩
          rw [← HEB.out]
          replace B := Hid.of (B.out.trans (hb.mono B.out.size))
          replace KA := Hid.of (KA.out.below hb KA.out.lt)
          replace KB := Hid.of (KB.out.below hb KB.out.lt)
          replace K4 := Hid.of (K4.out.below hb K4.out.lt)
          replace K5 := Hid.of (K5.out.below hb K5.out.lt)
          replace KK6 := Hid.of (KK6.out.below hb KK6.out.lt)
          refine hK'.out _ _ (⟨KA.out.cell 4 rfl, KB.out.cell 4 rfl⟩) (fun hS => ?_)
          clear hK' K' hb
          refine wpAnyH_ready (rs := [7]) (by kernel_rfl) (by simp) ?_
          refine AllReadyH.cons rfl (fun K' hK' => ?_) AllReadyH.nil
          clear hS
          go_simp
          have hb : Below Y8.heap.size Y8 (Y8.alloc (.cells #[.int .u64 0, .int .u64 0, .int .u64 0, .int .u64 0] 79)) := (Below.refl _ _).alloc (Nat.le_refl _) _
          have P7 := Hid.of (Nat.succ_le_of_lt K5.out.lt)
          have N67 := Hid.of (Nat.ne_of_lt KK6.out.lt)
          replace B := Hid.of (B.out.trans (hb.mono B.out.size))
          replace KA := Hid.of (KA.out.below hb KA.out.lt)
          replace KB := Hid.of (KB.out.below hb KB.out.lt)
          replace K4 := Hid.of (K4.out.below hb K4.out.lt)
          replace K5 := Hid.of (K5.out.below hb K5.out.lt)
          replace KK6 := Hid.of (KK6.out.below hb KK6.out.lt)
          have KK7 := Hid.of (Blk.new Y8 79 #[.int .u64 0, .int .u64 0, .int .u64 0, .int .u64 0])
          refine hK'.out _ _ (⟨KA.out.cell 4 rfl, KB.out.cell 4 rfl⟩) (fun hS => ?_)
          clear hK' K' hb
          revert P7 N67 B KA KB K4 K5 KK6 KK7 hS
          generalize Y8.alloc (.cells #[.int .u64 0, .int .u64 0, .int .u64 0, .int .u64 0] 79) = Y9
          generalize Y8.heap.size = p7
          intro P7 N67 B KA KB K4 K5 KK6 KK7 hS
          replace KK6 : Hid (SB _ p6 zeroS) := KK6
          replace KK7 : Hid (SB _ p7 zeroS) := KK7
          refine wpAnyH_ready (rs := [8]) (by kernel_rfl) (by simp) ?_
          refine AllReadyH.cons rfl (fun K' hK' => ?_) AllReadyH.nil
          clear hS
          have ff := KK6.out.frozen
          obtain ⟨z0, z1, z2, z3⟩ := SB.cells KK6.out
          go_simp
          replace B := Hid.of (below_o4 B.out (b' := p6) (by have := P6.out; omega) EA)
          replace KA := Hid.of (KA.out.o4 (b' := p6) (by have := P6.out; omega) EA)
          replace KB := Hid.of (KB.out.o4 (b' := p6) (by have := P6.out; omega) EA)
          replace K4 := Hid.of (K4.out.o4 (b' := p6) (by have := P6.out; omega) EA)
          replace K5 := Hid.of (K5.out.o4 (b' := p6) (by have := P6.out; omega) EA)
          replace KK7 := Hid.of (KK7.out.o4 (Ne.symm N67.out) EA)
          replace KK6 := Hid.of (SB.set4 KK6.out EA)
          refine hK'.out _ _ (⟨KA.out.cell 4 rfl, KB.out.cell 4 rfl⟩) (fun hS => ?_)
          clear hK' K' ff z0 z1 z2 z3
          refine wpAnyH_ready (rs := [9]) (by kernel_rfl) (by simp) ?_
          refine AllReadyH.cons rfl (fun K' hK' => ?_) AllReadyH.nil
          clear hS
          have ff := KK7.out.frozen
          obtain ⟨z0, z1, z2, z3⟩ := SB.cells KK7.out
          go_simp
          replace B := Hid.of (below_o4 B.out (b' := p7) (by have := P7.out; omega) EB)
          replace KA := Hid.of (KA.out.o4 (b' := p7) (by have := P7.out; omega) EB)
          replace KB := Hid.of (KB.out.o4 (b' := p7) (by have := P7.out; omega) EB)
          replace K4 := Hid.of (K4.out.o4 (b' := p7) (by have := P7.out; omega) EB)
          replace K5 := Hid.of (K5.out.o4 (b' := p7) (by have := P7.out; omega) EB)
          replace KK6 := Hid.of (KK6.out.o4 N67.out EB)
          replace KK7 := Hid.of (SB.set4 KK7.out EB)
          refine hK'.out _ _ (⟨KA.out.cell 4 rfl, KB.out.cell 4 rfl⟩) (fun hS => ?_)
          clear hK' K' ff z0 z1 z2 z3
          refine wpAnyH_done (by kernel_rfl) ?_ _
          exact ⟨p6, p7, rfl, B.out, K4.out, K5.out, KK6.out, KK7.out, by have := P6.out; omega, by have := P7.out; omega, N67.out⟩
        · clear hS
          go_simp
          have hb : Below Y7.heap.size Y7 (Y7.alloc (.cells #[.int .u64 0, .int .u64 0, .int .u64 0, .int .u64 0] 79)) := (Below.refl _ _).alloc (Nat.le_refl _) _
          have P7 := Hid.of (Nat.succ_le_of_lt K5.out.lt)
          have N67 := Hid.of (Nat.ne_of_lt KK6.out.lt)
          replace B := Hid.of (B.out.trans (hb.mono B.out.size))
          replace KA := Hid.of (KA.out.below hb KA.out.lt)
          replace KB := Hid.of (KB.out.below hb KB.out.lt)
          replace K4 := Hid.of (K4.out.below hb K4.out.lt)
          replace K5 := Hid.of (K5.out.below hb K5.out.lt)
          replace KK6 := Hid.of (KK6.out.below hb KK6.out.lt)
          have KK7 := Hid.of (Blk.new Y7 79 #[.int .u64 0, .int .u64 0, .int .u64 0, .int .u64 0])
          refine hK'.out _ _ (⟨KA.out.cell 4 rfl, KB.out.cell 4 rfl⟩) (fun hS => ?_)
          clear hK' K' hb
          revert P7 N67 B KA KB K4 K5 KK6 KK7 hS
          generalize Y7.alloc (.cells #[.int .u64 0, .int .u64 0, .int .u64 0, .int .u64 0] 79) = Y10
          generalize Y7.heap.size = p7
          intro P7 N67 B KA KB K4 K5 KK6 KK7 hS
          refine wpAnyH_ready (rs := [5]) (by kernel_rfl) (by simp) ?_
          refine AllReadyH.cons rfl (fun K' hK' => ?_) AllReadyH.nil
          clear hS
          go_simp
          refine (of_any b3 d3 endsB Y10 (h'.out.e.below B.out (Nat.le_refl _)) slB.out sbB.out).mono ?_
          rintro e Y11 ⟨rfl, hb⟩
          rw [← HEB.out]
          replace B := Hid.of (B.out.trans (hb.mono B.out.size))
          replace KA := Hid.of (KA.out.below hb KA.out.lt)
          replace KB := Hid.of (KB.out.below hb KB.out.lt)
          replace K4 := Hid.of (K4.out.below hb K4.out.lt)
          replace K5 := Hid.of (K5.out.below hb K5.out.lt)
          replace KK6 := Hid.of (KK6.out.below hb KK6.out.lt)
          replace KK7 := Hid.of (KK7.out.below hb KK7.out.lt)
          refine hK'.out _ _ (⟨KA.out.cell 4 rfl, KB.out.cell 4 rfl⟩) (fun hS => ?_)
          clear hK' K' hb
          replace KK6 : Hid (SB _ p6 zeroS) := KK6
          replace KK7 : Hid (SB _ p7 zeroS) := KK7
          refine wpAnyH_ready (rs := [8]) (by kernel_rfl) (by simp) ?_
          refine AllReadyH.cons rfl (fun K' hK' => ?_) AllReadyH.nil
          clear hS
          have ff := KK6.out.frozen
          obtain ⟨z0, z1, z2, z3⟩ := SB.cells KK6.out
          go_simp
          replace B := Hid.of (below_o4 B.out (b' := p6) (by have := P6.out; omega) EA)
          replace KA := Hid.of (KA.out.o4 (b' := p6) (by have := P6.out; omega) EA)
          replace KB := Hid.of (KB.out.o4 (b' := p6) (by have := P6.out; omega) EA)
          replace K4 := Hid.of (K4.out.o4 (b' := p6) (by have := P6.out; omega) EA)
          replace K5 := Hid.of (K5.out.o4 (b' := p6) (by have := P6.out; omega) EA)
          replace KK7 := Hid.of (KK7.out.o4 (Ne.symm N67.out) EA)
          replace KK6 := Hid.of (SB.set4 KK6.out EA)
          refine hK'.out _ _ (⟨KA.out.cell 4 rfl, KB.out.cell 4 rfl⟩) (fun hS => ?_)
          clear hK' K' ff z0 z1 z2 z3
          refine wpAnyH_ready (rs := [9]) (by kernel_rfl) (by simp) ?_
          refine AllReadyH.cons rfl (fun K' hK' => ?_) AllReadyH.nil
          clear hS
          have ff := KK7.out.frozen
          obtain ⟨z0, z1, z2, z3⟩ := SB.cells KK7.out
          go_simp
          replace B := Hid.of (below_o4 B.out (b' := p7) (by have := P7.out; omega) EB)
          replace KA := Hid.of (KA.out.o4 (b' := p7) (by have := P7.out; omega) EB)
          replace KB := Hid.of (KB.out.o4 (b' := p7) (by have := P7.out; omega) EB)
          replace K4 := Hid.of (K4.out.o4 (b' := p7) (by have := P7.out; omega) EB)
          replace K5 := Hid.of (K5.out.o4 (b' := p7) (by have := P7.out; omega) EB)
          replace KK6 := Hid.of (KK6.out.o4 N67.out EB)
          replace KK7 := Hid.of (SB.set4 KK7.out EB)
          refine hK'.out _ _ (⟨KA.out.cell 4 rfl, KB.out.cell 4 rfl⟩) (fun hS => ?_)
          clear hK' K' ff z0 z1 z2 z3
          refine wpAnyH_done (by kernel_rfl) ?_ _
          exact ⟨p6, p7, rfl, B.out, K4.out, K5.out, KK6.out, KK7.out, by have := P6.out; omega, by have := P7.out; omega, N67.out⟩
      · clear hS
        go_simp
        have hb : Below Y1.heap.size Y1 (Y1.alloc (.cells #[.int .u64 0, .int .u64 0, .int .u64 0, .int .u64 0] 79)) := (Below.refl _ _).alloc (Nat.le_refl _) _
        have P7 := Hid.of (Nat.succ_le_of_lt K5.out.lt)
        replace B := Hid.of (B.out.trans (hb.mono B.out.size))
        replace KA := Hid.of (KA.out.below hb KA.out.lt)
        replace KB := Hid.of (KB.out.below hb KB.out.lt)
        replace K4 := Hid.of (K4.out.below hb K4.out.lt)
        replace K5 := Hid.of (K5.out.below hb K5.out.lt)
        have KK7 := Hid.of (Blk.new Y1 79 #[.int .u64 0, .int .u64 0, .int .u64 0, .int .u64 0])
        refine hK'.out _ _ (⟨KA.out.cell 4 rfl, KB.out.cell 4 rfl⟩) (fun hS => ?_)
        clear hK' K' hb
        revert P7 B KA KB K4 K5 KK7 hS
        generalize Y1.alloc (.cells #[.int .u64 0, .int .u64 0, .int .u64 0, .int .u64 0] 79) = Y12
        generalize Y1.heap.size = p7
        intro P7 B KA KB K4 K5 KK7 hS
        refine wpAnyH_ready (rs := [5, 6]) (by kernel_rfl) (by simp) ?_
        refine AllReadyH.cons rfl (fun K' hK' => ?_) (AllReadyH.cons rfl (fun K' hK' => ?_) AllReadyH.nil)
        · clear hS
          go_simp
          refine (of_any b3 d3 endsB Y12 (h'.out.e.below B.out (Nat.le_refl _)) slB.out sbB.out).mono ?_
          rintro e Y13 ⟨rfl, hb⟩
          rw [← HEB.out]
          replace B := Hid.of (B.out.trans (hb.mono B.out.size))
          replace KA := Hid.of (KA.out.below hb KA.out.lt)
          replace KB := Hid.of (KB.out.below hb KB.out.lt)
          replace K4 := Hid.of (K4.out.below hb K4.out.lt)
          replace K5 := Hid.of (K5.out.below hb K5.out.lt)
          replace KK7 := Hid.of (KK7.out.below hb KK7.out.lt)
          refine hK'.out _ _ (⟨KA.out.cell 4 rfl, KB.out.cell 4 rfl⟩) (fun hS => ?_)
          clear hK' K' hb
          refine wpAnyH_ready (rs := [6]) (by kernel_rfl) (by simp) ?_
          refine AllReadyH.cons rfl (fun K' hK' => ?_) AllReadyH.nil
          clear hS
          go_simp
          have hb : Below Y13.heap.size Y13 (Y13.alloc (.cells #[.int .u64 0, .int .u64 0, .int .u64 0, .int .u64 0] 79)) := (Below.refl _ _).alloc (Nat.le_refl _) _
          have P6 := Hid.of (Nat.succ_le_of_lt K5.out.lt)
          have N67 := Hid.of (Nat.ne_of_gt KK7.out.lt)
          replace B := Hid.of (B.out.trans (hb.mono B.out.size))
          replace KA := Hid.of (KA.out.below hb KA.out.lt)
          replace KB := Hid.of (KB.out.below hb KB.out.lt)
          replace K4 := Hid.of (K4.out.below hb K4.out.lt)
          replace K5 := Hid.of (K5.out.below hb K5.out.lt)
          replace KK7 := Hid.of (KK7.out.below hb KK7.out.lt)
          have KK6 := Hid.of (Blk.new Y13 79 #[.int .u64 0, .int .u64 0, .int .u64 0, .int .u64 0])
          refine hK'.out _ _ (⟨KA.out.cell 4 rfl, KB.out.cell 4 rfl⟩) (fun hS => ?_)
          clear hK' K' hb
          revert P6 N67 B KA KB K4 K5 KK7 KK6 hS
          generalize Y13.alloc (.cells #[.int .u64 0, .int .u64 0, .int .u64 0, .int .u64 0] 79) = Y14
          generalize Y13.heap.size = p6
          intro P6 N67 B KA KB K4 K5 KK7 KK6 hS
          replace KK6 : Hid (SB _ p6 zeroS) := KK6
          replace KK7 : Hid (SB _ p7 zeroS) := KK7
          refine wpAnyH_ready (rs := [8]) (by kernel_rfl) (by simp) ?_
          refine AllReadyH.cons rfl (fun K' hK' => ?_) AllReadyH.nil
          clear hS
          have ff := KK6.out.frozen
          obtain ⟨z0, z1, z2, z3⟩ := SB.cells KK6.out
          go_simp
          replace B := Hid.of (below_o4 B.out (b' := p6) (by have := P6.out; omega) EA)
          replace KA := Hid.of (KA.out.o4 (b' := p6) (by have := P6.out; omega) EA)
          replace KB := Hid.of (KB.out.o4 (b' := p6) (by have := P6.out; omega) EA)
          replace K4 := Hid.of (K4.out.o4 (b' := p6) (by have := P6.out; omega) EA)
          replace K5 := Hid.of (K5.out.o4 (b' := p6) (by have := P6.out; omega) EA)
          replace KK7 := Hid.of (KK7.out.o4 (Ne.symm N67.out) EA)
          replace KK6 := Hid.of (SB.set4 KK6.out EA)
          refine hK'.out _ _ (⟨KA.out.cell 4 rfl, KB.out.cell 4 rfl⟩) (fun hS => ?_)
          clear hK' K' ff z0 z1 z2 z3
          refine wpAnyH_ready (rs := [9]) (by kernel_rfl) (by simp) ?_
          refine AllReadyH.cons rfl (fun K' hK' => ?_) AllReadyH.nil
          clear hS
          have ff := KK7.out.frozen
          obtain ⟨z0, z1, z2, z3⟩ := SB.cells KK7.out
          go_simp
          replace B := Hid.of (below_o4 B.out (b' := p7) (by have := P7.out; omega) EB)
          replace KA := Hid.of (KA.out.o4 (b' := p7) (by have := P7.out; omega) EB)
          replace KB := Hid.of (KB.out.o4 (b' := p7) (by have := P7.out; omega) EB)
          replace K4 := Hid.of (K4.out.o4 (b' := p7) (by have := P7.out; omega) EB)
          replace K5 := Hid.of (K5.out.o4 (b' := p7) (by have := P7.out; omega) EB)
          replace KK6 := Hid.of (KK6.out.o4 N67.out EB)
          replace KK7 := Hid.of (SB.set4 KK7.out EB)
          refine hK'.out _ _ (⟨KA.out.cell 4 rfl, KB.out.cell 4 rfl⟩) (fun hS => ?_)
          clear hK' K' ff z0 z1 z2 z3
          refine wpAnyH_done (by kernel_rfl) ?_ _
          exact ⟨p6, p7, rfl, B.out, K4.out, K5.out, KK6.out, KK7.out, by have := P6.out; omega, by have := P7.out; omega, N67.out⟩
        · clear hS
          go_simp
          have hb : Below Y12.heap.size Y12 (Y12.alloc (.cells #[.int .u64 0, .int .u64 0, .int .u64 0, .int .u64 0] 79)) := (Below.refl _ _).alloc (Nat.le_refl _) _
          have P6 := Hid.of (Nat.succ_le_of_lt K5.out.lt)
          have N67 := Hid.of (Nat.ne_of_gt KK7.out.lt)
          replace B := Hid.of (B.out.trans (hb.mono B.out.size))
          replace KA := Hid.of (KA.out.below hb KA.out.lt)
          replace KB := Hid.of (KB.out.below hb KB.out.lt)
          replace K4 := Hid.of (K4.out.below hb K4.out.lt)
          replace K5 := Hid.of (K5.out.below hb K5.out.lt)
          replace KK7 := Hid.of (KK7.out.below hb KK7.out.lt)
          have KK6 := Hid.of (Blk.new Y12 79 #[.int .u64 0, .int .u64 0, .int .u64 0, .int .u64 0])
          refine hK'.out _ _ (⟨KA.out.cell 4 rfl, KB.out.cell 4 rfl⟩) (fun hS => ?_)
          clear hK' K' hb
          revert P6 N67 B KA KB K4 K5 KK7 KK6 hS
          generalize Y12.alloc (.cells #[.int .u64 0, .int .u64 0, .int .u64 0, .int .u64 0] 79) = Y15
          generalize Y12.heap.size = p6
          intro P6 N67 B KA KB K4 K5 KK7 KK6 hS
          refine wpAnyH_ready (rs := [5]) (by kernel_rfl) (by simp) ?_
          refine AllReadyH.cons rfl (fun K' hK' => ?_) AllReadyH.nil
          clear hS
          go_simp
          refine (of_any b3 d3 endsB Y15 (h'.out.e.below B.out (Nat.le_refl _)) slB.out sbB.out).mono ?_
          rintro e Y16 ⟨rfl, hb⟩
          rw [← HEB.out]
          replace B := Hid.of (B.out.trans (hb.mono B.out.size))
          replace KA := Hid.of (KA.out.below hb KA.out.lt)
          replace KB := Hid.of (KB.out.below hb KB.out.lt)
          replace K4 := Hid.of (K4.out.below hb K4.out.lt)
          replace K5 := Hid.of (K5.out.below hb K5.out.lt)
          replace KK7 := Hid.of (KK7.out.below hb KK7.out.lt)
          replace KK6 := Hid.of (KK6.out.below hb KK6.out.lt)
          refine hK'.out _ _ (⟨KA.out.cell 4 rfl, KB.out.cell 4 rfl⟩) (fun hS => ?_)
          clear hK' K' hb
          replace KK6 : Hid (SB _ p6 zeroS) := KK6
          replace KK7 : Hid (SB _ p7 zeroS) := KK7
          refine wpAnyH_ready (rs := [8]) (by kernel_rfl) (by simp) ?_
          refine AllReadyH.cons rfl (fun K' hK' => ?_) AllReadyH.nil
          clear hS
          have ff := KK6.out.frozen
          obtain ⟨z0, z1, z2, z3⟩ := SB.cells KK6.out
          go_simp
          replace B := Hid.of (below_o4 B.out (b' := p6) (by have := P6.out; omega) EA)
          replace KA := Hid.of (KA.out.o4 (b' := p6) (by have := P6.out; omega) EA)
          replace KB := Hid.of (KB.out.o4 (b' := p6) (by have := P6.out; omega) EA)
          replace K4 := Hid.of (K4.out.o4 (b' := p6) (by have := P6.out; omega) EA)
          replace K5 := Hid.of (K5.out.o4 (b' := p6) (by have := P6.out; omega) EA)
          replace KK7 := Hid.of (KK7.out.o4 (Ne.symm N67.out) EA)
          replace KK6 := Hid.of (SB.set4 KK6.out EA)
          refine hK'.out _ _ (⟨KA.out.cell 4 rfl, KB.out.cell 4 rfl⟩) (fun hS => ?_)
          clear hK' K' ff z0 z1 z2 z3
          refine wpAnyH_ready (rs := [9]) (by kernel_rfl) (by simp) ?_
          refine AllReadyH.cons rfl (fun K' hK' => ?_) AllReadyH.nil
          clear hS
          have ff := KK7.out.frozen
          obtain ⟨z0, z1, z2, z3⟩ := SB.cells KK7.out
          go_simp
          replace B := Hid.of (below_o4 B.out (b' := p7) (by have := P7.out; omega) EB)
          replace KA := Hid.of (KA.out.o4 (b' := p7) (by have := P7.out; omega) EB)
          replace KB := Hid.of (KB.out.o4 (b' := p7) (by have := P7.out; omega) EB)
          replace K4 := Hid.of (K4.out.o4 (b' := p7) (by have := P7.out; omega) EB)
          replace K5 := Hid.of (K5.out.o4 (b' := p7) (by have := P7.out; omega) EB)
          replace KK6 := Hid.of (KK6.out.o4 N67.out EB)
          replace KK7 := Hid.of (SB.set4 KK7.out EB)
          refine hK'.out _ _ (⟨KA.out.cell 4 rfl, KB.out.cell 4 rfl⟩) (fun hS => ?_)
          clear hK' K' ff z0 z1 z2 z3
          refine wpAnyH_done (by kernel_rfl) ?_ _
          exact ⟨p6, p7, rfl, B.out, K4.out, K5.out, KK6.out, KK7.out, by have := P6.out; omega, by have := P7.out; omega, N67.out⟩
    · clear hS
      go_simp
      have hb : Below Y0.heap.size Y0 (Y0.alloc (.cells #[.int .u64 0, .int .u64 0, .int .u64 0, .int .u64 0] 79)) := (Below.refl _ _).alloc (Nat.le_refl _) _
      have P6 := Hid.of (Nat.succ_le_of_lt K5.out.lt)
      replace B := Hid.of (B.out.trans (hb.mono B.out.size))
      replace KA := Hid.of (KA.out.below hb KA.out.lt)
      replace KB := Hid.of (KB.out.below hb KB.out.lt)
      replace K4 := Hid.of (K4.out.below hb K4.out.lt)
      replace K5 := Hid.of (K5.out.below hb K5.out.lt)
      have KK6 := Hid.of (Blk.new Y0 79 #[.int .u64 0, .int .u64 0, .int .u64 0, .int .u64 0])
      refine hK'.out _ _ (⟨KA.out.cell 4 rfl, KB.out.cell 4 rfl⟩) (fun hS => ?_)
      clear hK' K' hb
      revert P6 B KA KB K4 K5 KK6 hS
      generalize Y0.alloc (.cells #[.int .u64 0, .int .u64 0, .int .u64 0, .int .u64 0] 79) = Y17
      generalize Y0.heap.size = p6
      intro P6 B KA KB K4 K5 KK6 hS
      refine wpAnyH_ready (rs := [2, 7]) (by kernel_rfl) (by simp) ?_
      refine AllReadyH.cons rfl (fun K' hK' => ?_) (AllReadyH.cons rfl (fun K' hK' => ?_) AllReadyH.nil)
      · clear hS
        go_simp
        refine (of_any a3 c3 ends Y17 (h.out.e.below B.out (Nat.le_refl _)) slA.out sbA.out).mono ?_
        rintro e Y18 ⟨rfl, hb⟩
        rw [← HEA.out]
        replace B := Hid.of (B.out.trans (hb.mono B.out.size))
        replace KA := Hid.of (KA.out.below hb KA.out.lt)
        replace KB := Hid.of (KB.out.below hb KB.out.lt)
        replace K4 := Hid.of (K4.out.below hb K4.out.lt)
        replace K5 := Hid.of (K5.out.below hb K5.out.lt)
        replace KK6 := Hid.of (KK6.out.below hb KK6.out.lt)
        refine hK'.out _ _ (⟨KA.out.cell 4 rfl, KB.out.cell 4 rfl⟩) (fun hS => ?_)
        clear hK' K' hb
        refine wpAnyH_ready (rs := [5, 7]) (by kernel_rfl) (by simp) ?_
        refine AllReadyH.cons rfl (fun K' hK' => ?_) (AllReadyH.cons rfl (fun K' hK' => ?_) AllReadyH.nil)
        · clear hS
          go_simp
          refine (of_any b3 d3 endsB Y18 (h'.out.e.below B.out (Nat.le_refl _)) slB.out sbB.out).mono ?_
          rintro e Y19 ⟨rfl, hb⟩
          rw [← HEB.out]
          replace B := Hid.of (B.out.trans (hb.mono B.out.size))
          replace KA := Hid.of (KA.out.below hb KA.out.lt)
          replace KB := Hid.of (KB.out.below hb KB.out.lt)
          replace K4 := Hid.of (K4.out.below hb K4.out.lt)
          replace K5 := Hid.of (K5.out.below hb K5.out.lt)
          replace KK6 := Hid.of (KK6.out.below hb KK6.out.lt)
          refine hK'.out _ _ (⟨KA.out.cell 4 rfl, KB.out.cell 4 rfl⟩) (fun hS => ?_)
          clear hK' K' hb
          refine wpAnyH_ready (rs := [7]) (by kernel_rfl) (by simp) ?_
          refine AllReadyH.cons rfl (fun K' hK' => ?_) AllReadyH.nil
          clear hS
          go_simp
          have hb : Below Y19.heap.size Y19 (Y19.alloc (.cells #[.int .u64 0, .int .u64 0, .int .u64 0, .int .u64 0] 79)) := (Below.refl _ _).alloc (Nat.le_refl _) _
          have P7 := Hid.of (Nat.succ_le_of_lt K5.out.lt)
          have N67 := Hid.of (Nat.ne_of_lt KK6.out.lt)
          replace B := Hid.of (B.out.trans (hb.mono B.out.size))
          replace KA := Hid.of (KA.out.below hb KA.out.lt)
          replace KB := Hid.of (KB.out.below hb KB.out.lt)
          replace K4 := Hid.of (K4.out.below hb K4.out.lt)
          replace K5 := Hid.of (K5.out.below hb K5.out.lt)
          replace KK6 := Hid.of (KK6.out.below hb KK6.out.lt)
          have KK7 := Hid.of (Blk.new Y19 79 #[.int .u64 0, .int .u64 0, .int .u64 0, .int .u64 0])
          refine hK'.out _ _ (⟨KA.out.cell 4 rfl, KB.out.cell 4 rfl⟩) (fun hS => ?_)
          clear hK' K' hb
          revert P7 N67 B KA KB K4 K5 KK6 KK7 hS
          generalize Y19.alloc (.cells #[.int .u64 0, .int .u64 0, .int .u64 0, .int .u64 0] 79) = Y20
          generalize Y19.heap.size = p7
          intro P7 N67 B KA KB K4 K5 KK6 KK7 hS
          replace KK6 : Hid (SB _ p6 zeroS) := KK6
          replace KK7 : Hid (SB _ p7 zeroS) := KK7
          refine wpAnyH_ready (rs := [8]) (by kernel_rfl) (by simp) ?_
          refine AllReadyH.cons rfl (fun K' hK' => ?_) AllReadyH.nil
          clear hS
          have ff := KK6.out.frozen
          obtain ⟨z0, z1, z2, z3⟩ := SB.cells KK6.out
          go_simp
          replace B := Hid.of (below_o4 B.out (b' := p6) (by have := P6.out; omega) EA)
          replace KA := Hid.of (KA.out.o4 (b' := p6) (by have := P6.out; omega) EA)
          replace KB := Hid.of (KB.out.o4 (b' := p6) (by have := P6.out; omega) EA)
          replace K4 := Hid.of (K4.out.o4 (b' := p6) (by have := P6.out; omega) EA)
          replace K5 := Hid.of (K5.out.o4 (b' := p6) (by have := P6.out; omega) EA)
          replace KK7 := Hid.of (KK7.out.o4 (Ne.symm N67.out) EA)
          replace KK6 := Hid.of (SB.set4 KK6.out EA)
          refine hK'.out _ _ (⟨KA.out.cell 4 rfl, KB.out.cell 4 rfl⟩) (fun hS => ?_)
          clear hK' K' ff z0 z1 z2 z3
          refine wpAnyH_ready (rs := [9]) (by kernel_rfl) (by simp) ?_
          refine AllReadyH.cons rfl (fun K' hK' => ?_) AllReadyH.nil
          clear hS
          have ff := KK7.out.frozen
          obtain ⟨z0, z1, z2, z3⟩ := SB.cells KK7.out
          go_simp
          replace B := Hid.of (below_o4 B.out (b' := p7) (by have := P7.out; omega) EB)
          replace KA := Hid.of (KA.out.o4 (b' := p7) (by have := P7.out; omega) EB)
          replace KB := Hid.of (KB.out.o4 (b' := p7) (by have := P7.out; omega) EB)
          replace K4 := Hid.of (K4.out.o4 (b' := p7) (by have := P7.out; omega) EB)
          replace K5 := Hid.of (K5.out.o4 (b' := p7) (by have := P7.out; omega) EB)
          replace KK6 := Hid.of (KK6.out.o4 N67.out EB)
          replace KK7 := Hid.of (SB.set4 KK7.out EB)
          refine hK'.out _ _ (⟨KA.out.cell 4 rfl, KB.out.cell 4 rfl⟩) (fun hS => ?_)
          clear hK' K' ff z0 z1 z2 z3
          refine wpAnyH_done (by kernel_rfl) ?_ _
          exact ⟨p6, p7, rfl, B.out, K4.out, K5.out, KK6.out, KK7.out, by have := P6.out; omega, by have := P7.out; omega, N67.out⟩
        · clear hS
          go_simp
          have hb : Below Y18.heap.size Y18 (Y18.alloc (.cells #[.int .u64 0, .int .u64 0, .int .u64 0, .int .u64 0] 79)) := (Below.refl _ _).alloc (Nat.le_refl _) _
          have P7 := Hid.of (Nat.succ_le_of_lt K5.out.lt)
          have N67 := Hid.of (Nat.ne_of_lt KK6.out.lt)
          replace B := Hid.of (B.out.trans (hb.mono B.out.size))
          replace KA := Hid.of (KA.out.below hb KA.out.lt)
          replace KB := Hid.of (KB.out.below hb KB.out.lt)
          replace K4 := Hid.of (K4.out.below hb K4.out.lt)
          replace K5 := Hid.of (K5.out.below hb K5.out.lt)
          replace KK6 := Hid.of (KK6.out.below hb KK6.out.lt)
          have KK7 := Hid.of (Blk.new Y18 79 #[.int .u64 0, .int .u64 0, .int .u64 0, .int .u64 0])
          refine hK'.out _ _ (⟨KA.out.cell 4 rfl, KB.out.cell 4 rfl⟩) (fun hS => ?_)
          clear hK' K' hb
          revert P7 N67 B KA KB K4 K5 KK6 KK7 hS
          generalize Y18.alloc (.cells #[.int .u64 0, .int .u64 0, .int .u64 0, .int .u64 0] 79) = Y21
          generalize Y18.heap.size = p7
          intro P7 N67 B KA KB K4 K5 KK6 KK7 hS
          refine wpAnyH_ready (rs := [5]) (by kernel_rfl) (by simp) ?_
          refine AllReadyH.cons rfl (fun K' hK' => ?_) AllReadyH.nil
          clear hS
          go_simp
          refine (of_any b3 d3 endsB Y21 (h'.out.e.below B.out (Nat.le_refl _)) slB.out sbB.out).mono ?_
          rintro e Y22 ⟨rfl, hb⟩
          rw [← HEB.out]
          replace B := Hid.of (B.out.trans (hb.mono B.out.size))
          replace KA := Hid.of (KA.out.below hb KA.out.lt)
          replace KB := Hid.of (KB.out.below hb KB.out.lt)
          replace K4 := Hid.of (K4.out.below hb K4.out.lt)
          replace K5 := Hid.of (K5.out.below hb K5.out.lt)
          replace KK6 := Hid.of (KK6.out.below hb KK6.out.lt)
          replace KK7 := Hid.of (KK7.out.below hb KK7.out.lt)
          refine hK'.out _ _ (⟨KA.out.cell 4 rfl, KB.out.cell 4 rfl⟩) (fun hS => ?_)
          clear hK' K' hb
          replace KK6 : Hid (SB _ p6 zeroS) := KK6
          replace KK7 : Hid (SB _ p7 zeroS) := KK7
          refine wpAnyH_ready (rs := [8]) (by kernel_rfl) (by simp) ?_
          refine AllReadyH.cons rfl (fun K' hK' => ?_) AllReadyH.nil
          clear hS
          have ff := KK6.out.frozen
          obtain ⟨z0, z1, z2, z3⟩ := SB.cells KK6.out
          go_simp
          replace B := Hid.of (below_o4 B.out (b' := p6) (by have := P6.out; omega) EA)
          replace KA := Hid.of (KA.out.o4 (b' := p6) (by have := P6.out; omega) EA)
          replace KB := Hid.of (KB.out.o4 (b' := p6) (by have := P6.out; omega) EA)
          replace K4 := Hid.of (K4.out.o4 (b' := p6) (by have := P6.out; omega) EA)
          replace K5 := Hid.of (K5.out.o4 (b' := p6) (by have := P6.out; omega) EA)
          replace KK7 := Hid.of (KK7.out.o4 (Ne.symm N67.out) EA)
          replace KK6 := Hid.of (SB.set4 KK6.out EA)
          refine hK'.out _ _ (⟨KA.out.cell 4 rfl, KB.out.cell 4 rfl⟩) (fun hS => ?_)
          clear hK' K' ff z0 z1 z2 z3
          refine wpAnyH_ready (rs := [9]) (by kernel_rfl) (by simp) ?_
          refine AllReadyH.cons rfl (fun K' hK' => ?_) AllReadyH.nil
          clear hS
          have ff := KK7.out.frozen
          obtain ⟨z0, z1, z2, z3⟩ := SB.cells KK7.out
          go_simp
          replace B := Hid.of (below_o4 B.out (b' := p7) (by have := P7.out; omega) EB)
          replace KA := Hid.of (KA.out.o4 (b' := p7) (by have := P7.out; omega) EB)
          replace KB := Hid.of (KB.out.o4 (b' := p7) (by have := P7.out; omega) EB)
          replace K4 := Hid.of (K4.out.o4 (b' := p7) (by have := P7.out; omega) EB)
          replace K5 := Hid.of (K5.out.o4 (b' := p7) (by have := P7.out; omega) EB)
          replace KK6 := Hid.of (KK6.out.o4 N67.out EB)
          replace KK7 := Hid.of (SB.set4 KK7.out EB)
          refine hK'.out _ _ (⟨KA.out.cell 4 rfl, KB.out.cell 4 rfl⟩) (fun hS => ?_)
          clear hK' K' ff z0 z1 z2 z3
          refine wpAnyH_done (by kernel_rfl) ?_ _
          exact ⟨p6, p7, rfl, B.out, K4.out, K5.out, KK6.out, KK7.out, by have := P6.out; omega, by have := P7.out; omega, N67.out⟩
      · clear hS
        go_simp
        have hb : Below Y17.heap.size Y17 (Y17.alloc (.cells #[.int .u64 0, .int .u64 0, .int .u64 0, .int .u64 0] 79)) := (Below.refl _ _).alloc (Nat.le_refl _) _
        have P7 := Hid.of (Nat.succ_le_of_lt K5.out.lt)
        have N67 := Hid.of (Nat.ne_of_lt KK6.out.lt)
        replace B := Hid.of (B.out.trans (hb.mono B.out.size))
        replace KA := Hid.of (KA.out.below hb KA.out.lt)
        replace KB := Hid.of (KB.out.below hb KB.out.lt)
        replace K4 := Hid.of (K4.out.below hb K4.out.lt)
        replace K5 := Hid.of (K5.out.below hb K5.out.lt)
        replace KK6 := Hid.of (KK6.out.below hb KK6.out.lt)
        have KK7 := Hid.of (Blk.new Y17 79 #[.int .u64 0, .int .u64 0, .int .u64 0, .int .u64 0])
        refine hK'.out _ _ (⟨KA.out.cell 4 rfl, KB.out.cell 4 rfl⟩) (fun hS => ?_)
        clear hK' K' hb
        revert P7 N67 B KA KB K4 K5 KK6 KK7 hS
        generalize Y17.alloc (.cells #[.int .u64 0, .int .u64 0, .int .u64 0, .int .u64 0] 79) = Y23
        generalize Y17.heap.size = p7
        intro P7 N67 B KA KB K4 K5 KK6 KK7 hS
        refine wpAnyH_ready (rs := [2]) (by kernel_rfl) (by simp) ?_
        refine AllReadyH.cons rfl (fun K' hK' => ?_) AllReadyH.nil
        clear hS
        go_simp
        refine (of_any a3 c3 ends Y23 (h.out.e.below B.out (Nat.le_refl _)) slA.out sbA.out).mono ?_
        rintro e Y24 ⟨rfl, hb⟩
        rw [← HEA.out]
        replace B := Hid.of (B.out.trans (hb.mono B.out.size))
        replace KA := Hid.of (KA.out.below hb KA.out.lt)
        replace KB := Hid.of (KB.out.below hb KB.out.lt)
        replace K4 := Hid.of (K4.out.below hb K4.out.lt)
        replace K5 := Hid.of (K5.out.below hb K5.out.lt)
        replace KK6 := Hid.of (KK6.out.below hb KK6.out.lt)
        replace KK7 := Hid.of (KK7.out.below hb KK7.out.lt)
        refine hK'.out _ _ (⟨KA.out.cell 4 rfl, KB.out.cell 4 rfl⟩) (fun hS => ?_)
        clear hK' K' hb
        refine wpAnyH_ready (rs := [5]) (by kernel_rfl) (by simp) ?_
        refine AllReadyH.cons rfl (fun K' hK' => ?_) AllReadyH.nil
        clear hS
        go_simp
        refine (of_any b3 d3 endsB Y24 (h'.out.e.below B.out (Nat.le_refl _)) slB.out sbB.out).mono ?_
        rintro e Y25 ⟨rfl, hb⟩
        rw [← HEB.out]
        replace B := Hid.of (B.out.trans (hb.mono B.out.size))
        replace KA := Hid.of (KA.out.below hb KA.out.lt)
        replace KB := Hid.of (KB.out.below hb KB.out.lt)
        replace K4 := Hid.of (K4.out.below hb K4.out.lt)
        replace K5 := Hid.of (K5.out.below hb K5.out.lt)
        replace KK6 := Hid.of (KK6.out.below hb KK6.out.lt)
        replace KK7 := Hid.of (KK7.out.below hb KK7.out.lt)
        refine hK'.out _ _ (⟨KA.out.cell 4 rfl, KB.out.cell 4 rfl⟩) (fun hS => ?_)
        clear hK' K' hb
        replace KK6 : Hid (SB _ p6 zeroS) := KK6
        replace KK7 : Hid (SB _ p7 zeroS) := KK7
        refine wpAnyH_ready (rs := [8]) (by kernel_rfl) (by simp) ?_
        refine AllReadyH.cons rfl (fun K' hK' => ?_) AllReadyH.nil
        clear hS
        have ff := KK6.out.frozen
        obtain ⟨z0, z1, z2, z3⟩ := SB.cells KK6.out
        go_simp
        replace B := Hid.of (below_o4 B.out (b' := p6) (by have := P6.out; omega) EA)
        replace KA := Hid.of (KA.out.o4 (b' := p6) (by have := P6.out; omega) EA)
        replace KB := Hid.of (KB.out.o4 (b' := p6) (by have := P6.out; omega) EA)
        replace K4 := Hid.of (K4.out.o4 (b' := p6) (by have := P6.out; omega) EA)
        replace K5 := Hid.of (K5.out.o4 (b' := p6) (by have := P6.out; omega) EA)
        replace KK7 := Hid.of (KK7.out.o4 (Ne.symm N67.out) EA)
        replace KK6 := Hid.of (SB.set4 KK6.out EA)
        refine hK'.out _ _ (⟨KA.out.cell 4 rfl, KB.out.cell 4 rfl⟩) (fun hS => ?_)
        clear hK' K' ff z0 z1 z2 z3
        refine wpAnyH_ready (rs := [9]) (by kernel_rfl) (by simp) ?_
        refine AllReadyH.cons rfl (fun K' hK' => ?_) AllReadyH.nil
        clear hS
        have ff := KK7.out.frozen
        obtain ⟨z0, z1, z2, z3⟩ := SB.cells KK7.out
        go_simp
        replace B := Hid.of (below_o4 B.out (b' := p7) (by have := P7.out; omega) EB)
        replace KA := Hid.of (KA.out.o4 (b' := p7) (by have := P7.out; omega) EB)
        replace KB := Hid.of (KB.out.o4 (b' := p7) (by have := P7.out; omega) EB)
        replace K4 := Hid.of (K4.out.o4 (b' := p7) (by have := P7.out; omega) EB)
        replace K5 := Hid.of (K5.out.o4 (b' := p7) (by have := P7.out; omega) EB)
        replace KK6 := Hid.of (KK6.out.o4 N67.out EB)
        replace KK7 := Hid.of (SB.set4 KK7.out EB)
        refine hK'.out _ _ (⟨KA.out.cell 4 rfl, KB.out.cell 4 rfl⟩) (fun hS => ?_)
        clear hK' K' ff z0 z1 z2 z3
        refine wpAnyH_done (by kernel_rfl) ?_ _
        exact ⟨p6, p7, rfl, B.out, K4.out, K5.out, KK6.out, KK7.out, by have := P6.out; omega, by have := P7.out; omega, N67.out⟩
    · clear hS
      go_simp
      have hb : Below Y0.heap.size Y0 (Y0.alloc (.cells #[.int .u64 0, .int .u64 0, .int .u64 0, .int .u64 0] 79)) := (Below.refl _ _).alloc (Nat.le_refl _) _
      have P7 := Hid.of (Nat.succ_le_of_lt K5.out.lt)
      replace B := Hid.of (B.out.trans (hb.mono B.out.size))
      replace KA := Hid.of (KA.out.below hb KA.out.lt)
      replace KB := Hid.of (KB.out.below hb KB.out.lt)
      replace K4 := Hid.of (K4.out.below hb K4.out.lt)
      replace K5 := Hid.of (K5.out.below hb K5.out.lt)
      have KK7 := Hid.of (Blk.new Y0 79 #[.int .u64 0, .int .u64 0, .int .u64 0, .int .u64 0])
      refine hK'.out _ _ (⟨KA.out.cell 4 rfl, KB.out.cell 4 rfl⟩) (fun hS => ?_)
      clear hK' K' hb
      revert P7 B KA KB K4 K5 KK7 hS
      generalize Y0.alloc (.cells #[.int .u64 0, .int .u64 0, .int .u64 0, .int .u64 0] 79) = Y26
      generalize Y0.heap.size = p7
      intro P7 B KA KB K4 K5 KK7 hS
      refine wpAnyH_ready (rs := [2, 6]) (by kernel_rfl) (by simp) ?_
      refine AllReadyH.cons rfl (fun K' hK' => ?_) (AllReadyH.cons rfl (fun K' hK' => ?_) AllReadyH.nil)
      · clear hS
        go_simp
        refine (of_any a3 c3 ends Y26 (h.out.e.below B.out (Nat.le_refl _)) slA.out sbA.out).mono ?_
        rintro e Y27 ⟨rfl, hb⟩
        rw [← HEA.out]
        replace B := Hid.of (B.out.trans (hb.mono B.out.size))
        replace KA := Hid.of (KA.out.below hb KA.out.lt)
        replace KB := Hid.of (KB.out.below hb KB.out.lt)
        replace K4 := Hid.of (K4.out.below hb K4.out.lt)
        replace K5 := Hid.of (K5.out.below hb K5.out.lt)
        replace KK7 := Hid.of (KK7.out.below hb KK7.out.lt)
        refine hK'.out _ _ (⟨KA.out.cell 4 rfl, KB.out.cell 4 rfl⟩) (fun hS => ?_)
        clear hK' K' hb
        refine wpAnyH_ready (rs := [5, 6]) (by kernel_rfl) (by simp) ?_
        refine AllReadyH.cons rfl (fun K' hK' => ?_) (AllReadyH.cons rfl (fun K' hK' => ?_) AllReadyH.nil)
        · clear hS
          go_simp
          refine (of_any b3 d3 endsB Y27 (h'.out.e.below B.out (Nat.le_refl _)) slB.out sbB.out).mono ?_
          rintro e Y28 ⟨rfl, hb⟩
          rw [← HEB.out]
          replace B := Hid.of (B.out.trans (hb.mono B.out.size))
          replace KA := Hid.of (KA.out.below hb KA.out.lt)
          replace KB := Hid.of (KB.out.below hb KB.out.lt)
          replace K4 := Hid.of (K4.out.below hb K4.out.lt)
          replace K5 := Hid.of (K5.out.below hb K5.out.lt)
          replace KK7 := Hid.of (KK7.out.below hb KK7.out.lt)
          refine hK'.out _ _ (⟨KA.out.cell 4 rfl, KB.out.cell 4 rfl⟩) (fun hS => ?_)
          clear hK' K' hb
          refine wpAnyH_ready (rs := [6]) (by kernel_rfl) (by simp) ?_
          refine AllReadyH.cons rfl (fun K' hK' => ?_) AllReadyH.nil
          clear hS
          go_simp
          have hb : Below Y28.heap.size Y28 (Y28.alloc (.cells #[.int .u64 0, .int .u64 0, .int .u64 0, .int .u64 0] 79)) := (Below.refl _ _).alloc (Nat.le_refl _) _
          have P6 := Hid.of (Nat.succ_le_of_lt K5.out.lt)
          have N67 := Hid.of (Nat.ne_of_gt KK7.out.lt)
          replace B := Hid.of (B.out.trans (hb.mono B.out.size))
          replace KA := Hid.of (KA.out.below hb KA.out.lt)
          replace KB := Hid.of (KB.out.below hb KB.out.lt)
          replace K4 := Hid.of (K4.out.below hb K4.out.lt)
          replace K5 := Hid.of (K5.out.below hb K5.out.lt)
          replace KK7 := Hid.of (KK7.out.below hb KK7.out.lt)
          have KK6 := Hid.of (Blk.new Y28 79 #[.int .u64 0, .int .u64 0, .int .u64 0, .int .u64 0])
          refine hK'.out _ _ (⟨KA.out.cell 4 rfl, KB.out.cell 4 rfl⟩) (fun hS => ?_)
          clear hK' K' hb
          revert P6 N67 B KA KB K4 K5 KK7 KK6 hS
          generalize Y28.alloc (.cells #[.int .u64 0, .int .u64 0, .int .u64 0, .int .u64 0] 79) = Y29
          generalize Y28.heap.size = p6
          intro P6 N67 B KA KB K4 K5 KK7 KK6 hS
          replace KK6 : Hid (SB _ p6 zeroS) := KK6
          replace KK7 : Hid (SB _ p7 zeroS) := KK7
          refine wpAnyH_ready (rs := [8]) (by kernel_rfl) (by simp) ?_
          refine AllReadyH.cons rfl (fun K' hK' => ?_) AllReadyH.nil
          clear hS
          have ff := KK6.out.frozen
          obtain ⟨z0, z1, z2, z3⟩ := SB.cells KK6.out
          go_simp
          replace B := Hid.of (below_o4 B.out (b' := p6) (by have := P6.out; omega) EA)
          replace KA := Hid.of (KA.out.o4 (b' := p6) (by have := P6.out; omega) EA)
          replace KB := Hid.of (KB.out.o4 (b' := p6) (by have := P6.out; omega) EA)
          replace K4 := Hid.of (K4.out.o4 (b' := p6) (by have := P6.out; omega) EA)
          replace K5 := Hid.of (K5.out.o4 (b' := p6) (by have := P6.out; omega) EA)
          replace KK7 := Hid.of (KK7.out.o4 (Ne.symm N67.out) EA)
          replace KK6 := Hid.of (SB.set4 KK6.out EA)
          refine hK'.out _ _ (⟨KA.out.cell 4 rfl, KB.out.cell 4 rfl⟩) (fun hS => ?_)
          clear hK' K' ff z0 z1 z2 z3
          refine wpAnyH_ready (rs := [9]) (by kernel_rfl) (by simp) ?_
          refine AllReadyH.cons rfl (fun K' hK' => ?_) AllReadyH.nil
          clear hS
          have ff := KK7.out.frozen
          obtain ⟨z0, z1, z2, z3⟩ := SB.cells KK7.out
          go_simp
          replace B := Hid.of (below_o4 B.out (b' := p7) (by have := P7.out; omega) EB)
          replace KA := Hid.of (KA.out.o4 (b' := p7) (by have := P7.out; omega) EB)
          replace KB := Hid.of (KB.out.o4 (b' := p7) (by have := P7.out; omega) EB)
          replace K4 := Hid.of (K4.out.o4 (b' := p7) (by have := P7.out; omega) EB)
          replace K5 := Hid.of (K5.out.o4 (b' := p7) (by have := P7.out; omega) EB)
          replace KK6 := Hid.of (KK6.out.o4 N67.out EB)
          replace KK7 := Hid.of (SB.set4 KK7.out EB)
          refine hK'.out _ _ (⟨KA.out.cell 4 rfl, KB.out.cell 4 rfl⟩) (fun hS => ?_)
          clear hK' K' ff z0 z1 z2 z3
          refine wpAnyH_done (by kernel_rfl) ?_ _
          exact ⟨p6, p7, rfl, B.out, K4.out, K5.out, KK6.out, KK7.out, by have := P6.out; omega, by have := P7.out; omega, N67.out⟩
        · clear hS
          go_simp
          have hb : Below Y27.heap.size Y27 (Y27.alloc (.cells #[.int .u64 0, .int .u64 0, .int .u64 0, .int .u64 0] 79)) := (Below.refl _ _).alloc (Nat.le_refl _) _
          have P6 := Hid.of (Nat.succ_le_of_lt K5.out.lt)
          have N67 := Hid.of (Nat.ne_of_gt KK7.out.lt)
          replace B := Hid.of (B.out.trans (hb.mono B.out.size))
          replace KA := Hid.of (KA.out.below hb KA.out.lt)
          replace KB := Hid.of (KB.out.below hb KB.out.lt)
          replace K4 := Hid.of (K4.out.below hb K4.out.lt)
          replace K5 := Hid.of (K5.out.below hb K5.out.lt)
          replace KK7 := Hid.of (KK7.out.below hb KK7.out.lt)
          have KK6 := Hid.of (Blk.new Y27 79 #[.int .u64 0, .int .u64 0, .int .u64 0, .int .u64 0])
          refine hK'.out _ _ (⟨KA.out.cell 4 rfl, KB.out.cell 4 rfl⟩) (fun hS => ?_)
          clear hK' K' hb
          revert P6 N67 B KA KB K4 K5 KK7 KK6 hS
          generalize Y27.alloc (.cells #[.int .u64 0, .int .u64 0, .int .u64 0, .int .u64 0] 79) = Y30
          generalize Y27.heap.size = p6
          intro P6 N67 B KA KB K4 K5 KK7 KK6 hS
          refine wpAnyH_ready (rs := [5]) (by kernel_rfl) (by simp) ?_
          refine AllReadyH.cons rfl (fun K' hK' => ?_) AllReadyH.nil
          clear hS
          go_simp
          refine (of_any b3 d3 endsB Y30 (h'.out.e.below B.out (Nat.le_refl _)) slB.out sbB.out).mono ?_
          rintro e Y31 ⟨rfl, hb⟩
          rw [← HEB.out]
          replace B := Hid.of (B.out.trans (hb.mono B.out.size))
          replace KA := Hid.of (KA.out.below hb KA.out.lt)
          replace KB := Hid.of (KB.out.below hb KB.out.lt)
          replace K4 := Hid.of (K4.out.below hb K4.out.lt)
          replace K5 := Hid.of (K5.out.below hb K5.out.lt)
          replace KK7 := Hid.of (KK7.out.below hb KK7.out.lt)
          replace KK6 := Hid.of (KK6.out.below hb KK6.out.lt)
          refine hK'.out _ _ (⟨KA.out.cell 4 rfl, KB.out.cell 4 rfl⟩) (fun hS => ?_)
          clear hK' K' hb
          replace KK6 : Hid (SB _ p6 zeroS) := KK6
          replace KK7 : Hid (SB _ p7 zeroS) := KK7
          refine wpAnyH_ready (rs := [8]) (by kernel_rfl) (by simp) ?_
          refine AllReadyH.cons rfl (fun K' hK' => ?_) AllReadyH.nil
          clear hS
          have ff := KK6.out.frozen
          obtain ⟨z0, z1, z2, z3⟩ := SB.cells KK6.out
          go_simp
          replace B := Hid.of (below_o4 B.out (b' := p6) (by have := P6.out; omega) EA)
          replace KA := Hid.of (KA.out.o4 (b' := p6) (by have := P6.out; omega) EA)
          replace KB := Hid.of (KB.out.o4 (b' := p6) (by have := P6.out; omega) EA)
          replace K4 := Hid.of (K4.out.o4 (b' := p6) (by have := P6.out; omega) EA)
          replace K5 := Hid.of (K5.out.o4 (b' := p6) (by have := P6.out; omega) EA)
          replace KK7 := Hid.of (KK7.out.o4 (Ne.symm N67.out) EA)
          replace KK6 := Hid.of (SB.set4 KK6.out EA)
          refine hK'.out _ _ (⟨KA.out.cell 4 rfl, KB.out.cell 4 rfl⟩) (fun hS => ?_)
          clear hK' K' ff z0 z1 z2 z3
          refine wpAnyH_ready (rs := [9]) (by kernel_rfl) (by simp) ?_
          refine AllReadyH.cons rfl (fun K' hK' => ?_) AllReadyH.nil
          clear hS
          have ff := KK7.out.frozen
          obtain ⟨z0, z1, z2, z3⟩ := SB.cells KK7.out
          go_simp
          replace B := Hid.of (below_o4 B.out (b' := p7) (by have := P7.out; omega) EB)
          replace KA := Hid.of (KA.out.o4 (b' := p7) (by have := P7.out; omega) EB)
          replace KB := Hid.of (KB.out.o4 (b' := p7) (by have := P7.out; omega) EB)
          replace K4 := Hid.of (K4.out.o4 (b' := p7) (by have := P7.out; omega) EB)
          replace K5 := Hid.of (K5.out.o4 (b' := p7) (by have := P7.out; omega) EB)
          replace KK6 := Hid.of (KK6.out.o4 N67.out EB)
          replace KK7 := Hid.of (SB.set4 KK7.out EB)
          refine hK'.out _ _ (⟨KA.out.cell 4 rfl, KB.out.cell 4 rfl⟩) (fun hS => ?_)
          clear hK' K' ff z0 z1 z2 z3
          refine wpAnyH_done (by kernel_rfl) ?_ _
          exact ⟨p6, p7, rfl, B.out, K4.out, K5.out, KK6.out, KK7.out, by have := P6.out; omega, by have := P7.out; omega, N67.out⟩
      · clear hS
        go_simp
        have hb : Below Y26.heap.size Y26 (Y26.alloc (.cells #[.int .u64 0, .int .u64 0, .int .u64 0, .int .u64 0] 79)) := (Below.refl _ _).alloc (Nat.le_refl _) _
        have P6 := Hid.of (Nat.succ_le_of_lt K5.out.lt)
        have N67 := Hid.of (Nat.ne_of_gt KK7.out.lt)
        replace B := Hid.of (B.out.trans (hb.mono B.out.size))
        replace KA := Hid.of (KA.out.below hb KA.out.lt)
        replace KB := Hid.of (KB.out.below hb KB.out.lt)
        replace K4 := Hid.of (K4.out.below hb K4.out.lt)
        replace K5 := Hid.of (K5.out.below hb K5.out.lt)
        replace KK7 := Hid.of (KK7.out.below hb KK7.out.lt)
        have KK6 := Hid.of (Blk.new Y26 79 #[.int .u64 0, .int .u64 0, .int .u64 0, .int .u64 0])
        refine hK'.out _ _ (⟨KA.out.cell 4 rfl, KB.out.cell 4 rfl⟩) (fun hS => ?_)
        clear hK' K' hb
        revert P6 N67 B KA KB K4 K5 KK7 KK6 hS
        generalize Y26.alloc (.cells #[.int .u64 0, .int .u64 0, .int .u64 0, .int .u64 0] 79) = Y32
        generalize Y26.heap.size = p6
        intro P6 N67 B KA KB K4 K5 KK7 KK6 hS
        refine wpAnyH_ready (rs := [2]) (by kernel_rfl) (by simp) ?_
        refine AllReadyH.cons rfl (fun K' hK' => ?_) AllReadyH.nil
        clear hS
        go_simp
        refine (of_any a3 c3 ends Y32 (h.out.e.below B.out (Nat.le_refl _)) slA.out sbA.out).mono ?_
        rintro e Y33 ⟨rfl, hb⟩
        rw [← HEA.out]
        replace B := Hid.of (B.out.trans (hb.mono B.out.size))
        replace KA := Hid.of (KA.out.below hb KA.out.lt)
        replace KB := Hid.of (KB.out.below hb KB.out.lt)
        replace K4 := Hid.of (K4.out.below hb K4.out.lt)
        replace K5 := Hid.of (K5.out.below hb K5.out.lt)
        replace KK7 := Hid.of (KK7.out.below hb KK7.out.lt)
        replace KK6 := Hid.of (KK6.out.below hb KK6.out.lt)
        refine hK'.out _ _ (⟨KA.out.cell 4 rfl, KB.out.cell 4 rfl⟩) (fun hS => ?_)
        clear hK' K' hb
        refine wpAnyH_ready (rs := [5]) (by kernel_rfl) (by simp) ?_
        refine AllReadyH.cons rfl (fun K' hK' => ?_) AllReadyH.nil
        clear hS
        go_simp
        refine (of_any b3 d3 endsB Y33 (h'.out.e.below B.out (Nat.le_refl _)) slB.out sbB.out).mono ?_
        rintro e Y34 ⟨rfl, hb⟩
        rw [← HEB.out]
        replace B := Hid.of (B.out.trans (hb.mono B.out.size))
        replace KA := Hid.of (KA.out.below hb KA.out.lt)
        replace KB := Hid.of (KB.out.below hb KB.out.lt)
        replace K4 := Hid.of (K4.out.below hb K4.out.lt)
        replace K5 := Hid.of (K5.out.below hb K5.out.lt)
        replace KK7 := Hid.of (KK7.out.below hb KK7.out.lt)
        replace KK6 := Hid.of (KK6.out.below hb KK6.out.lt)
        refine hK'.out _ _ (⟨KA.out.cell 4 rfl, KB.out.cell 4 rfl⟩) (fun hS => ?_)
        clear hK' K' hb
        replace KK6 : Hid (SB _ p6 zeroS) := KK6
        replace KK7 : Hid (SB _ p7 zeroS) := KK7
        refine wpAnyH_ready (rs := [8]) (by kernel_rfl) (by simp) ?_
        refine AllReadyH.cons rfl (fun K' hK' => ?_) AllReadyH.nil
        clear hS
        have ff := KK6.out.frozen
        obtain ⟨z0, z1, z2, z3⟩ := SB.cells KK6.out
        go_simp
        replace B := Hid.of (below_o4 B.out (b' := p6) (by have := P6.out; omega) EA)
        replace KA := Hid.of (KA.out.o4 (b' := p6) (by have := P6.out; omega) EA)
        replace KB := Hid.of (KB.out.o4 (b' := p6) (by have := P6.out; omega) EA)
        replace K4 := Hid.of (K4.out.o4 (b' := p6) (by have := P6.out; omega) EA)
        replace K5 := Hid.of (K5.out.o4 (b' := p6) (by have := P6.out; omega) EA)
        replace KK7 := Hid.of (KK7.out.o4 (Ne.symm N67.out) EA)
        replace KK6 := Hid.of (SB.set4 KK6.out EA)
        refine hK'.out _ _ (⟨KA.out.cell 4 rfl, KB.out.cell 4 rfl⟩) (fun hS => ?_)
        clear hK' K' ff z0 z1 z2 z3
        refine wpAnyH_ready (rs := [9]) (by kernel_rfl) (by simp) ?_
        refine AllReadyH.cons rfl (fun K' hK' => ?_) AllReadyH.nil
        clear hS
        have ff := KK7.out.frozen
        obtain ⟨z0, z1, z2, z3⟩ := SB.cells KK7.out
        go_simp
        replace B := Hid.of (below_o4 B.out (b' := p7) (by have := P7.out; omega) EB)
        replace KA := Hid.of (KA.out.o4 (b' := p7) (by have := P7.out; omega) EB)
        replace KB := Hid.of (KB.out.o4 (b' := p7) (by have := P7.out; omega) EB)
        replace K4 := Hid.of (K4.out.o4 (b' := p7) (by have := P7.out; omega) EB)
        replace K5 := Hid.of (K5.out.o4 (b' := p7) (by have := P7.out; omega) EB)
        replace KK6 := Hid.of (KK6.out.o4 N67.out EB)
        replace KK7 := Hid.of (SB.set4 KK7.out EB)
        refine hK'.out _ _ (⟨KA.out.cell 4 rfl, KB.out.cell 4 rfl⟩) (fun hS => ?_)
        clear hK' K' ff z0 z1 z2 z3
        refine wpAnyH_done (by kernel_rfl) ?_ _
        exact ⟨p6, p7, rfl, B.out, K4.out, K5.out, KK6.out, KK7.out, by have := P6.out; omega, by have := P7.out; omega, N67.out⟩
  case aft =>
    clear B KA KB K4 K5
    refine regQ_imp ?_
    rintro a' X0 ⟨p6, p7, rfl, b0, k4, k5, k6, k7, hp6, hp7, hn⟩
    have B := Hid.of b0
    have K4 := Hid.of k4
    have K5 := Hid.of k5
    have K6 := Hid.of k6
    have K7 := Hid.of k7
    have HP6 := Hid.of hp6
    have HP7 := Hid.of hp7
    clear b0 k4 k5 k6 k7 hp6 hp7 hn
    go_wp2_with fail
    go_loopw [16] (fun vi wr => ∃ k : Nat, vi = .int .i64 k ∧ k ≤ 16 ∧ Hid (SB wr (w.heap.size + 1 + 1) (secF EA EB true k)) ∧ Hid (SB wr (w.heap.size + 1 + 1 + 1) (secF EA EB false k)) ∧ Hid (SB wr p6 EA) ∧ Hid (SB wr p7 EB) ∧ Hid (Below w.heap.size w wr)) (fun vi _ => 16 - (intOf vi).toNat)
    case atStart => exact ⟨0, rfl, by omega, K4, K5, K6, K7, B⟩
    case round =>
      clear K4 K5 K6 K7 B
      obtain ⟨k, rfl, hk, K4, K5, K6, K7, B⟩ := hrel
      by_cases hlt : k < 16
      · have hw1 : IntKind.u64.wrap (k : Int) = (k : Int) := by rw [IntKind.wrap_u64]; omega
        have hltI : (k : Int) < 16 := by omega
        have hb : Below wr.heap.size wr (wr.alloc (.cells #[.int .u64 (k : Int), .int .u64 0, .int .u64 0, .int .u64 0] 79)) := (Below.refl _ _).alloc (Nat.le_refl _) _
        have KN := Hid.of (show SB (wr.alloc (.cells #[.int .u64 (k : Int), .int .u64 0, .int .u64 0, .int .u64 0] 79)) wr.heap.size (oneW k) from Blk.new wr _ _)
        have HP9 : Hid (w.heap.size + 1 + 1 + 1 < wr.heap.size) := K5.out.lt
        have KS4 := Hid.of (K4.out.below hb K4.out.lt)
        have KS5 := Hid.of (K5.out.below hb K5.out.lt)
        have KA6 := Hid.of (K6.out.below hb K6.out.lt)
        have KE7 := Hid.of (K7.out.below hb K7.out.lt)
        have BW := Hid.of (B.out.trans (hb.mono B.out.size))
        have hk16 : Hid (oneW k 0 < 16) := hlt
        have okN := Hid.of (oneW_ok hlt)
        have n0 : (wr.alloc (.cells #[.int .u64 (k : Int), .int .u64 0, .int .u64 0, .int .u64 0] 79)).cell? ⟨wr.heap.size, 0, none⟩ = some (.int .u64 (k : Int)) := KN.out.cell 0 rfl
        have n1 : (wr.alloc (.cells #[.int .u64 (k : Int), .int .u64 0, .int .u64 0, .int .u64 0] 79)).cell? ⟨wr.heap.size, 1, none⟩ = some (.int .u64 0) := KN.out.cell 1 rfl
        have n2 : (wr.alloc (.cells #[.int .u64 (k : Int), .int .u64 0, .int .u64 0, .int .u64 0] 79)).cell? ⟨wr.heap.size, 2, none⟩ = some (.int .u64 0) := KN.out.cell 2 rfl
        have n3 : (wr.alloc (.cells #[.int .u64 (k : Int), .int .u64 0, .int .u64 0, .int .u64 0] 79)).cell? ⟨wr.heap.size, 3, none⟩ = some (.int .u64 0) := KN.out.cell 3 rfl
        obtain ⟨e0, e1, e2, e3⟩ := SB.cells KE7.out
        clear hb K4 K5 K6 K7 B
        go_wp2_with fail
        clear n0 n1 n2 n3 e0 e1 e2 e3
        revert KN HP9 KS4 KS5 KA6 KE7 BW
        generalize wr.alloc (.cells #[.int .u64 (k : Int), .int .u64 0, .int .u64 0, .int .u64 0] 79) = X2
        generalize wr.heap.size = p9
        intro KN HP9 KS4 KS5 KA6 KE7 BW
        refine (meets_any (oneW k) EB _ okN.out okB.out).mono ?_
        rintro e X1 ⟨rfl, hb⟩
        replace KN := Hid.of (KN.out.below hb KN.out.lt)
        replace KS4 := Hid.of (KS4.out.below hb KS4.out.lt)
        replace KS5 := Hid.of (KS5.out.below hb KS5.out.lt)
        replace KA6 := Hid.of (KA6.out.below hb KA6.out.lt)
        replace KE7 := Hid.of (KE7.out.below hb KE7.out.lt)
        replace BW := Hid.of (BW.out.trans (hb.mono BW.out.size))
        clear hb
        have HTX := Hid.of (hT.out.below BW.out hT.out.lt)
        obtain ⟨PP, HPP⟩ : ∃ PP, Hid (PP = pairsS EA k) := ⟨_, rfl⟩
        have okP : Hid (okS PP) := by show okS PP; rw [HPP.out]; exact ok_pairs _ _
        have SA : Hid (∀ W, SB W p6 EA → SB W p9 (oneW k) → W.cell? ⟨p6, 0, none⟩ = some (.int .u64 (EA 0)) ∧ W.cell? ⟨p6, 1, none⟩ = some (.int .u64 (EA 1)) ∧ W.cell? ⟨p6, 2, none⟩ = some (.int .u64 (EA 2)) ∧ W.cell? ⟨p6, 3, none⟩ = some (.int .u64 (EA 3)) ∧ W.cell? ⟨p9, 0, none⟩ = some (.int .u64 (oneW k 0)) ∧ W.cell? ⟨p9, 1, none⟩ = some (.int .u64 (oneW k 1)) ∧ W.cell? ⟨p9, 2, none⟩ = some (.int .u64 (oneW k 2)) ∧ W.cell? ⟨p9, 3, none⟩ = some (.int .u64 (oneW k 3))) := fun W h1 h2 => by
          obtain ⟨x0, x1, x2, x3⟩ := SB.cells h1
          obtain ⟨y0, y1, y2, y3⟩ := SB.cells h2
          exact ⟨x0, x1, x2, x3, y0, y1, y2, y3⟩
        by_cases hmt : meetB (oneW k) EB = true
        · have HY : Hid (secF EA EB true (k + 1) = joinS (secF EA EB true k) PP) := by show _ = _; rw [HPP.out]; exact secF_yes EA EB hmt
          have HN : Hid (secF EA EB false (k + 1) = secF EA EB false k) := secF_no EA EB (b := false) (by rw [hmt]; rfl)
          have okO := Hid.of (ok_secF EA EB true k)
          rw [hmt]
          clear hmt
          generalize secF EA EB true k = O at *
          go_wp2_with fail
          refine wp_region_held_drew (S := fun w' => w'.cell? ⟨p6, 0, none⟩ = some (.int .u64 (EA 0)) ∧ w'.cell? ⟨p6, 1, none⟩ = some (.int .u64 (EA 1)) ∧ w'.cell? ⟨p6, 2, none⟩ = some (.int .u64 (EA 2)) ∧ w'.cell? ⟨p6, 3, none⟩ = some (.int .u64 (EA 3)) ∧ w'.cell? ⟨p9, 0, none⟩ = some (.int .u64 (oneW k 0)) ∧ w'.cell? ⟨p9, 1, none⟩ = some (.int .u64 (oneW k 1)) ∧ w'.cell? ⟨p9, 2, none⟩ = some (.int .u64 (oneW k 2)) ∧ w'.cell? ⟨p9, 3, none⟩ = some (.int .u64 (oneW k 3))) (by kernel_rfl) (SA.out _ (Blk.drew KA6.out) (Blk.drew KN.out)) (fun hS => ?_)
          have BF : Hid (Below X1.heap.size X1 X1.drew) := (Below.refl _ _).drew
          revert hS BF
          generalize X1.drew = Y0
          intro hS BF
          refine wpAnyH_take (i := 1) (v := sval EA) rfl (by kernel_rfl) (by kernel_rfl) (by kernel_rfl) (fun _ _ _ h => h) (Or.inl ⟨by kernel_rfl, fun w' hw' => by obtain ⟨q0, q1, q2, q3, q4, q5, q6, q7⟩ := hw'; go_simp⟩) hS ?_
          refine wpAnyH_take (i := 2) (v := sval (oneW k)) rfl (by kernel_rfl) (by kernel_rfl) (by kernel_rfl) (fun _ _ _ h => h) (Or.inl ⟨by kernel_rfl, fun w' hw' => by obtain ⟨q0, q1, q2, q3, q4, q5, q6, q7⟩ := hw'; go_simp⟩) hS ?_
          simp only [Act.put, List.setIfInBounds_toArray]
          refine wpAnyH_ready (rs := [0, 3]) (by kernel_rfl) (by simp) ?_
          refine AllReadyH.cons rfl (fun K' hK' => ?_) (AllReadyH.cons rfl (fun K' hK' => ?_) AllReadyH.nil)
          · clear hS
            obtain ⟨o0, o1, o2, o3⟩ := SB.cells (KS4.out.below BF.out KS4.out.lt)
            go_simp
            refine hK'.out _ _ (SA.out _ (KA6.out.below BF.out KA6.out.lt) (KN.out.below BF.out KN.out.lt)) (fun hS => ?_)
            clear hK' K' o0 o1 o2 o3
            refine wpAnyH_ready (rs := [3]) (by kernel_rfl) (by simp) ?_
            refine AllReadyH.cons rfl (fun K' hK' => ?_) AllReadyH.nil
            clear hS
            go_simp
            refine (pairs_any EA (oneW k) okA.out allA.out hk16.out Y0 (HTX.out.below BF.out HTX.out.lt)).mono ?_
            rintro e Y2 ⟨rfl, hb⟩
            rw [show oneW k 0 = k from rfl, ← HPP.out]
            replace BF := Hid.of (BF.out.trans (hb.mono BF.out.size))
            refine hK'.out _ _ (SA.out _ (KA6.out.below BF.out KA6.out.lt) (KN.out.below BF.out KN.out.lt)) (fun hS => ?_)
            clear hK' K' hb
            refine wpAnyH_ready (rs := [4]) (by kernel_rfl) (by simp) ?_
            refine AllReadyH.cons rfl (fun K' hK' => ?_) AllReadyH.nil
            clear hS
            go_simp
            refine (join_any O PP Y2 okO.out okP.out).mono ?_
            rintro e Y3 ⟨rfl, hb⟩
            replace BF := Hid.of (BF.out.trans (hb.mono BF.out.size))
            refine hK'.out _ _ (SA.out _ (KA6.out.below BF.out KA6.out.lt) (KN.out.below BF.out KN.out.lt)) (fun hS => ?_)
            clear hK' K' hb
            refine wpAnyH_ready (rs := [5]) (by kernel_rfl) (by simp) ?_
            refine AllReadyH.cons rfl (fun K' hK' => ?_) AllReadyH.nil
            clear hS
            have KO := KS4.out.below BF.out KS4.out.lt
            have ff := KO.frozen
            obtain ⟨z0, z1, z2, z3⟩ := SB.cells KO
            go_simp
            have A6 := (KA6.out.below BF.out KA6.out.lt).other4 (b' := w.heap.size + 1 + 1) (show p6 ≠ w.heap.size + 1 + 1 by have := HP6.out; omega) (.int .u64 (joinS O PP 0)) (.int .u64 (joinS O PP 1)) (.int .u64 (joinS O PP 2)) (.int .u64 (joinS O PP 3))
            have A9 := (KN.out.below BF.out KN.out.lt).other4 (b' := w.heap.size + 1 + 1) (show p9 ≠ w.heap.size + 1 + 1 by have := HP9.out; omega) (.int .u64 (joinS O PP 0)) (.int .u64 (joinS O PP 1)) (.int .u64 (joinS O PP 2)) (.int .u64 (joinS O PP 3))
            refine hK'.out _ _ (SA.out _ A6 A9) (fun hS => ?_)
            clear hK' K' ff z0 z1 z2 z3 hS
            refine wpAnyH_done (by kernel_rfl) ?_ _
            have N1 := Hid.of (SB.set4 KO (joinS O PP))
            have N2 := Hid.of ((KS5.out.below BF.out KS5.out.lt).other4 (b' := w.heap.size + 1 + 1) (show w.heap.size + 1 + 1 + 1 ≠ w.heap.size + 1 + 1 by omega) (.int .u64 (joinS O PP 0)) (.int .u64 (joinS O PP 1)) (.int .u64 (joinS O PP 2)) (.int .u64 (joinS O PP 3)))
            have N3 := Hid.of A6
            have N4 := Hid.of ((KE7.out.below BF.out KE7.out.lt).other4 (b' := w.heap.size + 1 + 1) (show p7 ≠ w.heap.size + 1 + 1 by have := HP7.out; omega) (.int .u64 (joinS O PP 0)) (.int .u64 (joinS O PP 1)) (.int .u64 (joinS O PP 2)) (.int .u64 (joinS O PP 3)))
            have N5 := Hid.of (below_set4 (BW.out.trans (BF.out.mono BW.out.size)) (b' := w.heap.size + 1 + 1) (by omega) (.int .u64 (joinS O PP 0)) (.int .u64 (joinS O PP 1)) (.int .u64 (joinS O PP 2)) (.int .u64 (joinS O PP 3)))
            clear A6 A9 KO
            go_wp2_with fail
            go_roundw
            case rel => exact ⟨k + 1, by go_num, by omega, (by show SB _ _ _; rw [HY.out]; exact N1.out), (by show SB _ _ _; rw [HN.out]; exact N2.out), N3, N4, N5⟩
            case measure => simp [intOf]; omega
          · clear hS
            go_simp
            refine (pairs_any EA (oneW k) okA.out allA.out hk16.out Y0 (HTX.out.below BF.out HTX.out.lt)).mono ?_
            rintro e Y4 ⟨rfl, hb⟩
            rw [show oneW k 0 = k from rfl, ← HPP.out]
            replace BF := Hid.of (BF.out.trans (hb.mono BF.out.size))
            refine hK'.out _ _ (SA.out _ (KA6.out.below BF.out KA6.out.lt) (KN.out.below BF.out KN.out.lt)) (fun hS => ?_)
            clear hK' K' hb
            refine wpAnyH_ready (rs := [0]) (by kernel_rfl) (by simp) ?_
            refine AllReadyH.cons rfl (fun K' hK' => ?_) AllReadyH.nil
            clear hS
            obtain ⟨o0, o1, o2, o3⟩ := SB.cells (KS4.out.below BF.out KS4.out.lt)
            go_simp
            refine hK'.out _ _ (SA.out _ (KA6.out.below BF.out KA6.out.lt) (KN.out.below BF.out KN.out.lt)) (fun hS => ?_)
            clear hK' K' o0 o1 o2 o3
            refine wpAnyH_ready (rs := [4]) (by kernel_rfl) (by simp) ?_
            refine AllReadyH.cons rfl (fun K' hK' => ?_) AllReadyH.nil
            clear hS
            go_simp
            refine (join_any O PP Y4 okO.out okP.out).mono ?_
            rintro e Y6 ⟨rfl, hb⟩
            replace BF := Hid.of (BF.out.trans (hb.mono BF.out.size))
            refine hK'.out _ _ (SA.out _ (KA6.out.below BF.out KA6.out.lt) (KN.out.below BF.out KN.out.lt)) (fun hS => ?_)
            clear hK' K' hb
            refine wpAnyH_ready (rs := [5]) (by kernel_rfl) (by simp) ?_
            refine AllReadyH.cons rfl (fun K' hK' => ?_) AllReadyH.nil
            clear hS
            have KO := KS4.out.below BF.out KS4.out.lt
            have ff := KO.frozen
            obtain ⟨z0, z1, z2, z3⟩ := SB.cells KO
            go_simp
            have A6 := (KA6.out.below BF.out KA6.out.lt).other4 (b' := w.heap.size + 1 + 1) (show p6 ≠ w.heap.size + 1 + 1 by have := HP6.out; omega) (.int .u64 (joinS O PP 0)) (.int .u64 (joinS O PP 1)) (.int .u64 (joinS O PP 2)) (.int .u64 (joinS O PP 3))
            have A9 := (KN.out.below BF.out KN.out.lt).other4 (b' := w.heap.size + 1 + 1) (show p9 ≠ w.heap.size + 1 + 1 by have := HP9.out; omega) (.int .u64 (joinS O PP 0)) (.int .u64 (joinS O PP 1)) (.int .u64 (joinS O PP 2)) (.int .u64 (joinS O PP 3))
            refine hK'.out _ _ (SA.out _ A6 A9) (fun hS => ?_)
            clear hK' K' ff z0 z1 z2 z3 hS
            refine wpAnyH_done (by kernel_rfl) ?_ _
            have N1 := Hid.of (SB.set4 KO (joinS O PP))
            have N2 := Hid.of ((KS5.out.below BF.out KS5.out.lt).other4 (b' := w.heap.size + 1 + 1) (show w.heap.size + 1 + 1 + 1 ≠ w.heap.size + 1 + 1 by omega) (.int .u64 (joinS O PP 0)) (.int .u64 (joinS O PP 1)) (.int .u64 (joinS O PP 2)) (.int .u64 (joinS O PP 3)))
            have N3 := Hid.of A6
            have N4 := Hid.of ((KE7.out.below BF.out KE7.out.lt).other4 (b' := w.heap.size + 1 + 1) (show p7 ≠ w.heap.size + 1 + 1 by have := HP7.out; omega) (.int .u64 (joinS O PP 0)) (.int .u64 (joinS O PP 1)) (.int .u64 (joinS O PP 2)) (.int .u64 (joinS O PP 3)))
            have N5 := Hid.of (below_set4 (BW.out.trans (BF.out.mono BW.out.size)) (b' := w.heap.size + 1 + 1) (by omega) (.int .u64 (joinS O PP 0)) (.int .u64 (joinS O PP 1)) (.int .u64 (joinS O PP 2)) (.int .u64 (joinS O PP 3)))
            clear A6 A9 KO
            go_wp2_with fail
            go_roundw
            case rel => exact ⟨k + 1, by go_num, by omega, (by show SB _ _ _; rw [HY.out]; exact N1.out), (by show SB _ _ _; rw [HN.out]; exact N2.out), N3, N4, N5⟩
            case measure => simp [intOf]; omega
        · have hmt : meetB (oneW k) EB = false := by simpa using hmt
          have HY : Hid (secF EA EB false (k + 1) = joinS (secF EA EB false k) PP) := by show _ = _; rw [HPP.out]; exact secF_yes EA EB hmt
          have HN : Hid (secF EA EB true (k + 1) = secF EA EB true k) := secF_no EA EB (b := true) (by rw [hmt]; rfl)
          have okO := Hid.of (ok_secF EA EB false k)
          rw [hmt]
          clear hmt
          generalize secF EA EB false k = O at *
          go_wp2_with fail
          refine wp_region_held_drew (S := fun w' => w'.cell? ⟨p6, 0, none⟩ = some (.int .u64 (EA 0)) ∧ w'.cell? ⟨p6, 1, none⟩ = some (.int .u64 (EA 1)) ∧ w'.cell? ⟨p6, 2, none⟩ = some (.int .u64 (EA 2)) ∧ w'.cell? ⟨p6, 3, none⟩ = some (.int .u64 (EA 3)) ∧ w'.cell? ⟨p9, 0, none⟩ = some (.int .u64 (oneW k 0)) ∧ w'.cell? ⟨p9, 1, none⟩ = some (.int .u64 (oneW k 1)) ∧ w'.cell? ⟨p9, 2, none⟩ = some (.int .u64 (oneW k 2)) ∧ w'.cell? ⟨p9, 3, none⟩ = some (.int .u64 (oneW k 3))) (by kernel_rfl) (SA.out _ (Blk.drew KA6.out) (Blk.drew KN.out)) (fun hS => ?_)
          have BF : Hid (Below X1.heap.size X1 X1.drew) := (Below.refl _ _).drew
          revert hS BF
          generalize X1.drew = Y0
          intro hS BF
          refine wpAnyH_take (i := 1) (v := sval EA) rfl (by kernel_rfl) (by kernel_rfl) (by kernel_rfl) (fun _ _ _ h => h) (Or.inl ⟨by kernel_rfl, fun w' hw' => by obtain ⟨q0, q1, q2, q3, q4, q5, q6, q7⟩ := hw'; go_simp⟩) hS ?_
          refine wpAnyH_take (i := 2) (v := sval (oneW k)) rfl (by kernel_rfl) (by kernel_rfl) (by kernel_rfl) (fun _ _ _ h => h) (Or.inl ⟨by kernel_rfl, fun w' hw' => by obtain ⟨q0, q1, q2, q3, q4, q5, q6, q7⟩ := hw'; go_simp⟩) hS ?_
          simp only [Act.put, List.setIfInBounds_toArray]
          refine wpAnyH_ready (rs := [0, 3]) (by kernel_rfl) (by simp) ?_
          refine AllReadyH.cons rfl (fun K' hK' => ?_) (AllReadyH.cons rfl (fun K' hK' => ?_) AllReadyH.nil)
          · clear hS
            obtain ⟨o0, o1, o2, o3⟩ := SB.cells (KS5.out.below BF.out KS5.out.lt)
            go_simp
            refine hK'.out _ _ (SA.out _ (KA6.out.below BF.out KA6.out.lt) (KN.out.below BF.out KN.out.lt)) (fun hS => ?_)
            clear hK' K' o0 o1 o2 o3
            refine wpAnyH_ready (rs := [3]) (by kernel_rfl) (by simp) ?_
            refine AllReadyH.cons rfl (fun K' hK' => ?_) AllReadyH.nil
            clear hS
            go_simp
            refine (pairs_any EA (oneW k) okA.out allA.out hk16.out Y0 (HTX.out.below BF.out HTX.out.lt)).mono ?_
            rintro e Y2 ⟨rfl, hb⟩
            rw [show oneW k 0 = k from rfl, ← HPP.out]
            replace BF := Hid.of (BF.out.trans (hb.mono BF.out.size))
            refine hK'.out _ _ (SA.out _ (KA6.out.below BF.out KA6.out.lt) (KN.out.below BF.out KN.out.lt)) (fun hS => ?_)
            clear hK' K' hb
            refine wpAnyH_ready (rs := [4]) (by kernel_rfl) (by simp) ?_
            refine AllReadyH.cons rfl (fun K' hK' => ?_) AllReadyH.nil
            clear hS
            go_simp
            refine (join_any O PP Y2 okO.out okP.out).mono ?_
            rintro e Y3 ⟨rfl, hb⟩
            replace BF := Hid.of (BF.out.trans (hb.mono BF.out.size))
            refine hK'.out _ _ (SA.out _ (KA6.out.below BF.out KA6.out.lt) (KN.out.below BF.out KN.out.lt)) (fun hS => ?_)
            clear hK' K' hb
            refine wpAnyH_ready (rs := [5]) (by kernel_rfl) (by simp) ?_
            refine AllReadyH.cons rfl (fun K' hK' => ?_) AllReadyH.nil
            clear hS
            have KO := KS5.out.below BF.out KS5.out.lt
            have ff := KO.frozen
            obtain ⟨z0, z1, z2, z3⟩ := SB.cells KO
            go_simp
            have A6 := (KA6.out.below BF.out KA6.out.lt).other4 (b' := w.heap.size + 1 + 1 + 1) (show p6 ≠ w.heap.size + 1 + 1 + 1 by have := HP6.out; omega) (.int .u64 (joinS O PP 0)) (.int .u64 (joinS O PP 1)) (.int .u64 (joinS O PP 2)) (.int .u64 (joinS O PP 3))
            have A9 := (KN.out.below BF.out KN.out.lt).other4 (b' := w.heap.size + 1 + 1 + 1) (show p9 ≠ w.heap.size + 1 + 1 + 1 by have := HP9.out; omega) (.int .u64 (joinS O PP 0)) (.int .u64 (joinS O PP 1)) (.int .u64 (joinS O PP 2)) (.int .u64 (joinS O PP 3))
            refine hK'.out _ _ (SA.out _ A6 A9) (fun hS => ?_)
            clear hK' K' ff z0 z1 z2 z3 hS
            refine wpAnyH_done (by kernel_rfl) ?_ _
            have N1 := Hid.of (SB.set4 KO (joinS O PP))
            have N2 := Hid.of ((KS4.out.below BF.out KS4.out.lt).other4 (b' := w.heap.size + 1 + 1 + 1) (show w.heap.size + 1 + 1 ≠ w.heap.size + 1 + 1 + 1 by omega) (.int .u64 (joinS O PP 0)) (.int .u64 (joinS O PP 1)) (.int .u64 (joinS O PP 2)) (.int .u64 (joinS O PP 3)))
            have N3 := Hid.of A6
            have N4 := Hid.of ((KE7.out.below BF.out KE7.out.lt).other4 (b' := w.heap.size + 1 + 1 + 1) (show p7 ≠ w.heap.size + 1 + 1 + 1 by have := HP7.out; omega) (.int .u64 (joinS O PP 0)) (.int .u64 (joinS O PP 1)) (.int .u64 (joinS O PP 2)) (.int .u64 (joinS O PP 3)))
            have N5 := Hid.of (below_set4 (BW.out.trans (BF.out.mono BW.out.size)) (b' := w.heap.size + 1 + 1 + 1) (by omega) (.int .u64 (joinS O PP 0)) (.int .u64 (joinS O PP 1)) (.int .u64 (joinS O PP 2)) (.int .u64 (joinS O PP 3)))
            clear A6 A9 KO
            go_wp2_with fail
            go_roundw
            case rel => exact ⟨k + 1, by go_num, by omega, (by show SB _ _ _; rw [HN.out]; exact N2.out), (by show SB _ _ _; rw [HY.out]; exact N1.out), N3, N4, N5⟩
            case measure => simp [intOf]; omega
          · clear hS
            go_simp
            refine (pairs_any EA (oneW k) okA.out allA.out hk16.out Y0 (HTX.out.below BF.out HTX.out.lt)).mono ?_
            rintro e Y4 ⟨rfl, hb⟩
            rw [show oneW k 0 = k from rfl, ← HPP.out]
            replace BF := Hid.of (BF.out.trans (hb.mono BF.out.size))
            refine hK'.out _ _ (SA.out _ (KA6.out.below BF.out KA6.out.lt) (KN.out.below BF.out KN.out.lt)) (fun hS => ?_)
            clear hK' K' hb
            refine wpAnyH_ready (rs := [0]) (by kernel_rfl) (by simp) ?_
            refine AllReadyH.cons rfl (fun K' hK' => ?_) AllReadyH.nil
            clear hS
            obtain ⟨o0, o1, o2, o3⟩ := SB.cells (KS5.out.below BF.out KS5.out.lt)
            go_simp
            refine hK'.out _ _ (SA.out _ (KA6.out.below BF.out KA6.out.lt) (KN.out.below BF.out KN.out.lt)) (fun hS => ?_)
            clear hK' K' o0 o1 o2 o3
            refine wpAnyH_ready (rs := [4]) (by kernel_rfl) (by simp) ?_
            refine AllReadyH.cons rfl (fun K' hK' => ?_) AllReadyH.nil
            clear hS
            go_simp
            refine (join_any O PP Y4 okO.out okP.out).mono ?_
            rintro e Y6 ⟨rfl, hb⟩
            replace BF := Hid.of (BF.out.trans (hb.mono BF.out.size))
            refine hK'.out _ _ (SA.out _ (KA6.out.below BF.out KA6.out.lt) (KN.out.below BF.out KN.out.lt)) (fun hS => ?_)
            clear hK' K' hb
            refine wpAnyH_ready (rs := [5]) (by kernel_rfl) (by simp) ?_
            refine AllReadyH.cons rfl (fun K' hK' => ?_) AllReadyH.nil
            clear hS
            have KO := KS5.out.below BF.out KS5.out.lt
            have ff := KO.frozen
            obtain ⟨z0, z1, z2, z3⟩ := SB.cells KO
            go_simp
            have A6 := (KA6.out.below BF.out KA6.out.lt).other4 (b' := w.heap.size + 1 + 1 + 1) (show p6 ≠ w.heap.size + 1 + 1 + 1 by have := HP6.out; omega) (.int .u64 (joinS O PP 0)) (.int .u64 (joinS O PP 1)) (.int .u64 (joinS O PP 2)) (.int .u64 (joinS O PP 3))
            have A9 := (KN.out.below BF.out KN.out.lt).other4 (b' := w.heap.size + 1 + 1 + 1) (show p9 ≠ w.heap.size + 1 + 1 + 1 by have := HP9.out; omega) (.int .u64 (joinS O PP 0)) (.int .u64 (joinS O PP 1)) (.int .u64 (joinS O PP 2)) (.int .u64 (joinS O PP 3))
            refine hK'.out _ _ (SA.out _ A6 A9) (fun hS => ?_)
            clear hK' K' ff z0 z1 z2 z3 hS
            refine wpAnyH_done (by kernel_rfl) ?_ _
            have N1 := Hid.of (SB.set4 KO (joinS O PP))
            have N2 := Hid.of ((KS4.out.below BF.out KS4.out.lt).other4 (b' := w.heap.size + 1 + 1 + 1) (show w.heap.size + 1 + 1 ≠ w.heap.size + 1 + 1 + 1 by omega) (.int .u64 (joinS O PP 0)) (.int .u64 (joinS O PP 1)) (.int .u64 (joinS O PP 2)) (.int .u64 (joinS O PP 3)))
            have N3 := Hid.of A6
            have N4 := Hid.of ((KE7.out.below BF.out KE7.out.lt).other4 (b' := w.heap.size + 1 + 1 + 1) (show p7 ≠ w.heap.size + 1 + 1 + 1 by have := HP7.out; omega) (.int .u64 (joinS O PP 0)) (.int .u64 (joinS O PP 1)) (.int .u64 (joinS O PP 2)) (.int .u64 (joinS O PP 3)))
            have N5 := Hid.of (below_set4 (BW.out.trans (BF.out.mono BW.out.size)) (b' := w.heap.size + 1 + 1 + 1) (by omega) (.int .u64 (joinS O PP 0)) (.int .u64 (joinS O PP 1)) (.int .u64 (joinS O PP 2)) (.int .u64 (joinS O PP 3)))
            clear A6 A9 KO
            go_wp2_with fail
            go_roundw
            case rel => exact ⟨k + 1, by go_num, by omega, (by show SB _ _ _; rw [HN.out]; exact N2.out), (by show SB _ _ _; rw [HY.out]; exact N1.out), N3, N4, N5⟩
            case measure => simp [intOf]; omega
      · have hke : k = 16 := by omega
        subst hke
        obtain ⟨PA, HPA⟩ : ∃ PA, Hid (PA = secF EA EB true 16) := ⟨_, rfl⟩
        obtain ⟨PO, HPO⟩ : ∃ PO, Hid (PO = secF EA EB false 16) := ⟨_, rfl⟩
        rw [← HPA.out] at K4
        rw [← HPO.out] at K5
        have SA : Hid (∀ W, SB W (w.heap.size + 1 + 1) PA → SB W (w.heap.size + 1 + 1 + 1) PO → W.cell? ⟨w.heap.size + 1 + 1, 0, none⟩ = some (.int .u64 (PA 0)) ∧ W.cell? ⟨w.heap.size + 1 + 1, 1, none⟩ = some (.int .u64 (PA 1)) ∧ W.cell? ⟨w.heap.size + 1 + 1, 2, none⟩ = some (.int .u64 (PA 2)) ∧ W.cell? ⟨w.heap.size + 1 + 1, 3, none⟩ = some (.int .u64 (PA 3)) ∧ W.cell? ⟨w.heap.size + 1 + 1 + 1, 0, none⟩ = some (.int .u64 (PO 0)) ∧ W.cell? ⟨w.heap.size + 1 + 1 + 1, 1, none⟩ = some (.int .u64 (PO 1)) ∧ W.cell? ⟨w.heap.size + 1 + 1 + 1, 2, none⟩ = some (.int .u64 (PO 2)) ∧ W.cell? ⟨w.heap.size + 1 + 1 + 1, 3, none⟩ = some (.int .u64 (PO 3))) := fun W h1 h2 => by
          obtain ⟨x0, x1, x2, x3⟩ := SB.cells h1
          obtain ⟨y0, y1, y2, y3⟩ := SB.cells h2
          exact ⟨x0, x1, x2, x3, y0, y1, y2, y3⟩
        go_wp2_with fail
        refine wp_region_held_drew (S := fun w' => w'.cell? ⟨w.heap.size + 1 + 1, 0, none⟩ = some (.int .u64 (PA 0)) ∧ w'.cell? ⟨w.heap.size + 1 + 1, 1, none⟩ = some (.int .u64 (PA 1)) ∧ w'.cell? ⟨w.heap.size + 1 + 1, 2, none⟩ = some (.int .u64 (PA 2)) ∧ w'.cell? ⟨w.heap.size + 1 + 1, 3, none⟩ = some (.int .u64 (PA 3)) ∧ w'.cell? ⟨w.heap.size + 1 + 1 + 1, 0, none⟩ = some (.int .u64 (PO 0)) ∧ w'.cell? ⟨w.heap.size + 1 + 1 + 1, 1, none⟩ = some (.int .u64 (PO 1)) ∧ w'.cell? ⟨w.heap.size + 1 + 1 + 1, 2, none⟩ = some (.int .u64 (PO 2)) ∧ w'.cell? ⟨w.heap.size + 1 + 1 + 1, 3, none⟩ = some (.int .u64 (PO 3))) (by kernel_rfl) (SA.out _ (Blk.drew K4.out) (Blk.drew K5.out)) (fun hS => ?_)
        replace K4 : Hid (SB wr.drew (w.heap.size + 1 + 1) PA) := Blk.drew K4.out
        replace K5 : Hid (SB wr.drew (w.heap.size + 1 + 1 + 1) PO) := Blk.drew K5.out
        replace B : Hid (Below w.heap.size w wr.drew) := B.out.drew
        revert hS K4 K5 B
        generalize wr.drew = Y0
        intro hS K4 K5 B
        refine wpAnyH_take (i := 0) (v := sval PA) rfl (by kernel_rfl) (by kernel_rfl) (by kernel_rfl) (fun _ _ _ h => h) (Or.inl ⟨by kernel_rfl, fun w' hw' => by obtain ⟨q0, q1, q2, q3, q4, q5, q6, q7⟩ := hw'; go_simp⟩) hS ?_
        refine wpAnyH_take (i := 1) (v := sval PO) rfl (by kernel_rfl) (by kernel_rfl) (by kernel_rfl) (fun _ _ _ h => h) (Or.inl ⟨by kernel_rfl, fun w' hw' => by obtain ⟨q0, q1, q2, q3, q4, q5, q6, q7⟩ := hw'; go_simp⟩) hS ?_
        simp only [Act.put, List.setIfInBounds_toArray]
        refine wpAnyH_ready (rs := [2]) (by kernel_rfl) (by simp) ?_
        refine AllReadyH.cons rfl (fun K' hK' => ?_) AllReadyH.nil
        clear hS
        have ff := K4.out.frozen
        obtain ⟨z0, z1, z2, z3⟩ := SB.cells K4.out
        go_simp
        replace B := Hid.of (below_set4 B.out (b' := w.heap.size + 1 + 1) (by omega) (.int .u64 (PA 0)) (.int .u64 (PA 1)) (.int .u64 (PA 2)) (.int .u64 (PA 3)))
        replace K5 := Hid.of (K5.out.other4 (b' := w.heap.size + 1 + 1) (show w.heap.size + 1 + 1 + 1 ≠ w.heap.size + 1 + 1 by omega) (.int .u64 (PA 0)) (.int .u64 (PA 1)) (.int .u64 (PA 2)) (.int .u64 (PA 3)))
        replace K4 := Hid.of (SB.set4 K4.out PA)
        refine hK'.out _ _ (SA.out _ K4.out K5.out) (fun hS => ?_)
        clear hK' K' ff z0 z1 z2 z3
        refine wpAnyH_ready (rs := [3]) (by kernel_rfl) (by simp) ?_
        refine AllReadyH.cons rfl (fun K' hK' => ?_) AllReadyH.nil
        clear hS
        have ff := K5.out.frozen
        obtain ⟨z0, z1, z2, z3⟩ := SB.cells K5.out
        go_simp
        replace B := Hid.of (below_set4 B.out (b' := w.heap.size + 1 + 1 + 1) (by omega) (.int .u64 (PO 0)) (.int .u64 (PO 1)) (.int .u64 (PO 2)) (.int .u64 (PO 3)))
        replace K4 := Hid.of (K4.out.other4 (b' := w.heap.size + 1 + 1 + 1) (show w.heap.size + 1 + 1 ≠ w.heap.size + 1 + 1 + 1 by omega) (.int .u64 (PO 0)) (.int .u64 (PO 1)) (.int .u64 (PO 2)) (.int .u64 (PO 3)))
        replace K5 := Hid.of (SB.set4 K5.out PO)
        refine hK'.out _ _ (SA.out _ K4.out K5.out) (fun hS => ?_)
        clear hK' K' ff z0 z1 z2 z3
        refine wpAnyH_done (by kernel_rfl) ?_ _
        go_wp2_with fail
        exact bodyPost_ret (v := .tuple #[sval PA, sval PO]) (results_twoS (p := 4) (u := 5) rfl _ _ (w.heap.size + 1 + 1) (w.heap.size + 1 + 1 + 1) PA PO rfl rfl K4.out K5.out) rfl ⟨by rw [HPA.out, HPO.out], B.out⟩

end Go.Proofs.YtgebfkmfhpcdhaaDoor
