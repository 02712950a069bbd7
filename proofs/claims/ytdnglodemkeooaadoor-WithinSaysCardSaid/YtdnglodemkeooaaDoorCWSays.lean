/-
  The walk of the law WithinSays.
-/
import Derived.Test.YtdnglodemkeooaaDoorCPWith
import Derived.Test.YtdnglodemkeooaaDoorCAccAny
import Derived.Test.YtdnglodemkeooaaDoorG53
namespace Go.Proofs.YtdnglodemkeooaaDoor
open Go.RowKit
set_option linter.unusedVariables false

theorem wordW_iff (ev : Int) : ∀ xs : List Int, wordB ev xs = true ↔ ∀ e ∈ xs, 0 ≤ e ∧ e < ev
  | [] => by simp [wordB]
  | x :: r => by
    rw [wordB]
    by_cases h : x < 0 ∨ ev ≤ x
    · rw [if_pos h]
      constructor
      · intro h'; cases h'
      · intro h'; have := h' x (by simp); omega
    · rw [if_neg h, wordW_iff ev r]
      constructor
      · intro h' e he
        rcases List.mem_cons.1 he with rfl | he
        · omega
        · exact h' e he
      · intro h' e he; exact h' e (by simp [he])

set_option maxRecDepth 100000 in
set_option maxHeartbeats 4000000 in
theorem wsays_err (a b : Mach) (la lb : ML) (wa : Option Addr) (wc : Nat) (word : List Int) (w : World) (hT : Hid (Tab w)) (h : Hid (MAt w a la)) (h' : Hid (MAt w b lb)) (c : Int) (hc : (c != 0) = true) (HO : Hid (withOut a b = (false, [], c))) :
    Calls Tryd.prog 13 #[mval a la, mval b lb, .slice wa word.length wc] w fun e w' => e = .returned (.bool true) ∧ Below w.heap.size w w' := by
  have B0 : Hid (Below w.heap.size w ((w.alloc (.cells (mcells a la) 25)).alloc (.cells (mcells b lb) 25))) := ((Below.refl _ _).alloc (Nat.le_refl _) _).alloc (by simp) _
  go_enter Tryd.func13, Tryd.ntmps13
  go_wp2_with fail
  revert B0
  generalize ((w.alloc (.cells (mcells a la) 25)).alloc (.cells (mcells b lb) 25)) = V0
  intro B0
  refine (pWith_any a b la lb _ (h.out.below B0.out (Nat.le_refl _)) (h'.out.below B0.out (Nat.le_refl _)) (hT.out.below B0.out hT.out.lt)).mono ?_
  intro e V1 hp
  unfold WithPost at hp
  rw [HO.out] at hp
  obtain ⟨va, vc, rfl, -, -, hb⟩ := hp
  have B1 := Hid.of (B0.out.trans (hb.mono B0.out.size))
  clear hb B0
  go_wp2
  go_ret
  exact ⟨rfl, B1.out⟩

set_option maxRecDepth 100000 in
set_option maxHeartbeats 8000000 in
theorem wsays_none (a b : Mach) (la lb : ML) (wa : Option Addr) (wc : Nat) (word : List Int) (w : World) (hT : Hid (Tab w)) (h : Hid (MAt w a la)) (h' : Hid (MAt w b lb)) (hw : Hid (At w wa word)) (hwl : Hid (word.length ≤ maxLen)) (HA : Hid (mayB a = true)) (HB : Hid (mayB b = true)) (HE : Hid (a.ev = b.ev)) (z1 : Hid (a.st ≤ 6)) (z2 : Hid (b.st ≤ 6)) (ho : Hid (outW a b = none)) :
    Calls Tryd.prog 13 #[mval a la, mval b lb, .slice wa word.length wc] w fun e w' => e = .returned (.bool true) ∧ Below w.heap.size w w' := by
  have HO : Hid (withOut a b = (true, [], 0)) := by
    show _ = _
    unfold withOut
    rw [if_pos ⟨HA.out, HB.out⟩, if_pos HE.out, if_pos ⟨z1.out, z2.out⟩, ho.out]; rfl
  have HNO : Hid (wordB a.ev word = true → acceptsB a word = true → acceptsB b word = true) := fun e1 e2 => by
    have := outW_none HA.out HB.out z1.out z2.out ho.out word ((wordW_iff _ _).1 e1)
    unfold betw at this
    rw [e2] at this
    simpa using this
  have B0 : Hid (Below w.heap.size w ((w.alloc (.cells (mcells a la) 25)).alloc (.cells (mcells b lb) 25))) := ((Below.refl _ _).alloc (Nat.le_refl _) _).alloc (by simp) _
  have KA0 : Hid (Blk ((w.alloc (.cells (mcells a la) 25)).alloc (.cells (mcells b lb) 25)) w.heap.size 25 (mcells a la)) := (Blk.new w _ _).alloc _
  have KB0 : Hid (Blk ((w.alloc (.cells (mcells a la) 25)).alloc (.cells (mcells b lb) 25)) (w.heap.size + 1) 25 (mcells b lb)) := by
    have := Blk.new (w.alloc (.cells (mcells a la) 25)) 25 (mcells b lb)
    rwa [World.size_alloc] at this
  go_enter Tryd.func13, Tryd.ntmps13
  go_wp2_with fail
  revert B0 KA0 KB0
  generalize ((w.alloc (.cells (mcells a la) 25)).alloc (.cells (mcells b lb) 25)) = V0
  intro B0 KA0 KB0
  refine (pWith_any a b la lb _ (h.out.below B0.out (Nat.le_refl _)) (h'.out.below B0.out (Nat.le_refl _)) (hT.out.below B0.out hT.out.lt)).mono ?_
  intro e V1 hp
  unfold WithPost at hp
  rw [HO.out] at hp
  obtain ⟨va, vc, rfl, at1, l1, hb⟩ := hp
  have B1 := Hid.of (B0.out.trans (hb.mono B0.out.size))
  have KA1 := Hid.of (KA0.out.below hb KA0.out.lt)
  have KB1 := Hid.of (KB0.out.below hb KB0.out.lt)
  have AT1 := Hid.of at1
  clear hb B0 KA0 KB0 at1 l1
  dsimp only at AT1 ⊢
  obtain ⟨x0, x1, x2, x3, x4⟩ := mcell_at KA1.out
  obtain ⟨y0, y1, y2, y3, y4⟩ := mcell_at KB1.out
  cases hwd : wordB a.ev word with
  | false =>
    have HW := Hid.of hwd
    have HW' : Hid (wordB b.ev word = false) := by show _ = _; rw [← HE.out]; exact hwd
    clear hwd
    go_wp2_with fail
    refine (accepts_no a la wa wc word _ (h.out.below B1.out (Nat.le_refl _)) HA.out (hw.out.below B1.out (Nat.le_refl _)) hwl.out HW.out).mono ?_
    rintro e V2 ⟨rfl, hb⟩
    have B2 := Hid.of (B1.out.trans (hb.mono B1.out.size))
    have KA2 := Hid.of (KA1.out.below hb KA1.out.lt)
    have KB2 := Hid.of (KB1.out.below hb KB1.out.lt)
    have AT2 := Hid.of (AT1.out.below hb (Nat.le_refl _))
    clear hb B1 KA1 KB1 AT1 x0 x1 x2 x3 x4 y0 y1 y2 y3 y4
    obtain ⟨x0, x1, x2, x3, x4⟩ := mcell_at KA2.out
    obtain ⟨y0, y1, y2, y3, y4⟩ := mcell_at KB2.out
    go_wp2_with fail
    refine (accepts_no b lb wa wc word _ (h'.out.below B2.out (Nat.le_refl _)) HB.out (hw.out.below B2.out (Nat.le_refl _)) hwl.out HW'.out).mono ?_
    rintro e V3 ⟨rfl, hb⟩
    have B3 := Hid.of (B2.out.trans (hb.mono B2.out.size))
    have KA3 := Hid.of (KA2.out.below hb KA2.out.lt)
    have KB3 := Hid.of (KB2.out.below hb KB2.out.lt)
    have AT3 := Hid.of (AT2.out.below hb (Nat.le_refl _))
    clear hb B2 KA2 KB2 AT2 x0 x1 x2 x3 x4 y0 y1 y2 y3 y4
    obtain ⟨x0, x1, x2, x3, x4⟩ := mcell_at KA3.out
    obtain ⟨y0, y1, y2, y3, y4⟩ := mcell_at KB3.out
    go_wp2
    go_ret
    exact ⟨rfl, B3.out⟩
  | true =>
    have HW := Hid.of hwd
    have HW' : Hid (wordB b.ev word = true) := by show _ = _; rw [← HE.out]; exact hwd
    clear hwd
    go_wp2_with fail
    refine (accepts_yes a la wa wc word _ (h.out.below B1.out (Nat.le_refl _)) (hT.out.below B1.out hT.out.lt) HA.out (hw.out.below B1.out (Nat.le_refl _)) hwl.out HW.out).mono ?_
    rintro e V2 ⟨rfl, hb⟩
    have B2 := Hid.of (B1.out.trans (hb.mono B1.out.size))
    have KA2 := Hid.of (KA1.out.below hb KA1.out.lt)
    have KB2 := Hid.of (KB1.out.below hb KB1.out.lt)
    have AT2 := Hid.of (AT1.out.below hb (Nat.le_refl _))
    clear hb B1 KA1 KB1 AT1 x0 x1 x2 x3 x4 y0 y1 y2 y3 y4
    obtain ⟨x0, x1, x2, x3, x4⟩ := mcell_at KA2.out
    obtain ⟨y0, y1, y2, y3, y4⟩ := mcell_at KB2.out
    go_wp2_with fail
    refine (accepts_yes b lb wa wc word _ (h'.out.below B2.out (Nat.le_refl _)) (hT.out.below B2.out hT.out.lt) HB.out (hw.out.below B2.out (Nat.le_refl _)) hwl.out HW'.out).mono ?_
    rintro e V3 ⟨rfl, hb⟩
    have B3 := Hid.of (B2.out.trans (hb.mono B2.out.size))
    have KA3 := Hid.of (KA2.out.below hb KA2.out.lt)
    have KB3 := Hid.of (KB2.out.below hb KB2.out.lt)
    have AT3 := Hid.of (AT2.out.below hb (Nat.le_refl _))
    clear hb B2 KA2 KB2 AT2 x0 x1 x2 x3 x4 y0 y1 y2 y3 y4
    obtain ⟨x0, x1, x2, x3, x4⟩ := mcell_at KA3.out
    obtain ⟨y0, y1, y2, y3, y4⟩ := mcell_at KB3.out
    cases hpa : acceptsB a word with
    | false =>
      clear hpa
      obtain ⟨qb, HQ⟩ : ∃ qb, Hid (qb = acceptsB b word) := ⟨_, rfl⟩
      rw [← HQ.out]
      go_wp2
      go_ret
      exact ⟨rfl, B3.out⟩
    | true =>
      have HPB := Hid.of (HNO.out HW.out hpa)
      rw [HPB.out]
      clear hpa
      go_wp2
      go_ret
      exact ⟨rfl, B3.out⟩

set_option maxRecDepth 100000 in
set_option maxHeartbeats 8000000 in
theorem wsays_some (a b : Mach) (la lb : ML) (wa : Option Addr) (wc : Nat) (word : List Int) (w : World) (hT : Hid (Tab w)) (h : Hid (MAt w a la)) (h' : Hid (MAt w b lb)) (hw : Hid (At w wa word)) (hwl : Hid (word.length ≤ maxLen)) (HA : Hid (mayB a = true)) (HB : Hid (mayB b = true)) (HE : Hid (a.ev = b.ev)) (z1 : Hid (a.st ≤ 6)) (z2 : Hid (b.st ≤ 6)) (v : List Int) (ho : Hid (outW a b = (some v))) :
    Calls Tryd.prog 13 #[mval a la, mval b lb, .slice wa word.length wc] w fun e w' => e = .returned (.bool true) ∧ Below w.heap.size w w' := by
  have HO : Hid (withOut a b = (false, v, 0)) := by
    show _ = _
    unfold withOut
    rw [if_pos ⟨HA.out, HB.out⟩, if_pos HE.out, if_pos ⟨z1.out, z2.out⟩, ho.out]; rfl
  obtain ⟨q1, q2, q3, q4⟩ := outW_some HA.out HB.out z1.out z2.out ho.out
  have HVL : Hid (v.length ≤ maxLen) := Nat.le_trans q3 (by decide)
  have HVA : Hid (wordB a.ev v = true) := (wordW_iff _ _).2 q2
  have HVB : Hid (wordB b.ev v = true) := by show _ = _; rw [← HE.out]; exact HVA.out
  have HXA : Hid (acceptsB a v = true) := by unfold betw at q1; simp only [Bool.and_eq_true] at q1; exact q1.1
  have HXB : Hid (acceptsB b v = false) := by unfold betw at q1; simp only [Bool.and_eq_true, Bool.not_eq_true'] at q1; exact q1.2
  have HLS : Hid (wordB a.ev word = true → acceptsB a word = true → acceptsB b word = false → lessB word v = false) := fun e1 e2 e3 => q4 word ((wordW_iff _ _).1 e1) (by unfold betw; rw [e2, e3]; rfl)
  clear q1 q2 q3 q4
  have B0 : Hid (Below w.heap.size w ((w.alloc (.cells (mcells a la) 25)).alloc (.cells (mcells b lb) 25))) := ((Below.refl _ _).alloc (Nat.le_refl _) _).alloc (by simp) _
  have KA0 : Hid (Blk ((w.alloc (.cells (mcells a la) 25)).alloc (.cells (mcells b lb) 25)) w.heap.size 25 (mcells a la)) := (Blk.new w _ _).alloc _
  have KB0 : Hid (Blk ((w.alloc (.cells (mcells a la) 25)).alloc (.cells (mcells b lb) 25)) (w.heap.size + 1) 25 (mcells b lb)) := by
    have := Blk.new (w.alloc (.cells (mcells a la) 25)) 25 (mcells b lb)
    rwa [World.size_alloc] at this
  go_enter Tryd.func13, Tryd.ntmps13
  go_wp2_with fail
  revert B0 KA0 KB0
  generalize ((w.alloc (.cells (mcells a la) 25)).alloc (.cells (mcells b lb) 25)) = V0
  intro B0 KA0 KB0
  refine (pWith_any a b la lb _ (h.out.below B0.out (Nat.le_refl _)) (h'.out.below B0.out (Nat.le_refl _)) (hT.out.below B0.out hT.out.lt)).mono ?_
  intro e V1 hp
  unfold WithPost at hp
  rw [HO.out] at hp
  obtain ⟨va, vc, rfl, at1, l1, hb⟩ := hp
  have B1 := Hid.of (B0.out.trans (hb.mono B0.out.size))
  have KA1 := Hid.of (KA0.out.below hb KA0.out.lt)
  have KB1 := Hid.of (KB0.out.below hb KB0.out.lt)
  have AT1 := Hid.of at1
  clear hb B0 KA0 KB0 at1 l1
  dsimp only at AT1 ⊢
  obtain ⟨x0, x1, x2, x3, x4⟩ := mcell_at KA1.out
  obtain ⟨y0, y1, y2, y3, y4⟩ := mcell_at KB1.out
  cases hwd : wordB a.ev word with
  | false =>
    have HW := Hid.of hwd
    have HW' : Hid (wordB b.ev word = false) := by show _ = _; rw [← HE.out]; exact hwd
    clear hwd
    go_wp2_with fail
    refine (accepts_no a la wa wc word _ (h.out.below B1.out (Nat.le_refl _)) HA.out (hw.out.below B1.out (Nat.le_refl _)) hwl.out HW.out).mono ?_
    rintro e V2 ⟨rfl, hb⟩
    have B2 := Hid.of (B1.out.trans (hb.mono B1.out.size))
    have KA2 := Hid.of (KA1.out.below hb KA1.out.lt)
    have KB2 := Hid.of (KB1.out.below hb KB1.out.lt)
    have AT2 := Hid.of (AT1.out.below hb (Nat.le_refl _))
    clear hb B1 KA1 KB1 AT1 x0 x1 x2 x3 x4 y0 y1 y2 y3 y4
    obtain ⟨x0, x1, x2, x3, x4⟩ := mcell_at KA2.out
    obtain ⟨y0, y1, y2, y3, y4⟩ := mcell_at KB2.out
    go_wp2_with fail
    refine (accepts_no b lb wa wc word _ (h'.out.below B2.out (Nat.le_refl _)) HB.out (hw.out.below B2.out (Nat.le_refl _)) hwl.out HW'.out).mono ?_
    rintro e V3 ⟨rfl, hb⟩
    have B3 := Hid.of (B2.out.trans (hb.mono B2.out.size))
    have KA3 := Hid.of (KA2.out.below hb KA2.out.lt)
    have KB3 := Hid.of (KB2.out.below hb KB2.out.lt)
    have AT3 := Hid.of (AT2.out.below hb (Nat.le_refl _))
    clear hb B2 KA2 KB2 AT2 x0 x1 x2 x3 x4 y0 y1 y2 y3 y4
    obtain ⟨x0, x1, x2, x3, x4⟩ := mcell_at KA3.out
    obtain ⟨y0, y1, y2, y3, y4⟩ := mcell_at KB3.out
    go_wp2_with fail
    refine (accepts_yes a la va vc v _ (h.out.below B3.out (Nat.le_refl _)) (hT.out.below B3.out hT.out.lt) HA.out AT3.out HVL.out HVA.out).mono ?_
    rintro e V4 ⟨rfl, hb⟩
    have B4 := Hid.of (B3.out.trans (hb.mono B3.out.size))
    have KA4 := Hid.of (KA3.out.below hb KA3.out.lt)
    have KB4 := Hid.of (KB3.out.below hb KB3.out.lt)
    have AT4 := Hid.of (AT3.out.below hb (Nat.le_refl _))
    clear hb B3 KA3 KB3 AT3 x0 x1 x2 x3 x4 y0 y1 y2 y3 y4
    obtain ⟨x0, x1, x2, x3, x4⟩ := mcell_at KA4.out
    obtain ⟨y0, y1, y2, y3, y4⟩ := mcell_at KB4.out
    rw [HXA.out]
    go_wp2_with fail
    refine (accepts_yes b lb va vc v _ (h'.out.below B4.out (Nat.le_refl _)) (hT.out.below B4.out hT.out.lt) HB.out AT4.out HVL.out HVB.out).mono ?_
    rintro e V5 ⟨rfl, hb⟩
    have B5 := Hid.of (B4.out.trans (hb.mono B4.out.size))
    have KA5 := Hid.of (KA4.out.below hb KA4.out.lt)
    have KB5 := Hid.of (KB4.out.below hb KB4.out.lt)
    have AT5 := Hid.of (AT4.out.below hb (Nat.le_refl _))
    clear hb B4 KA4 KB4 AT4 x0 x1 x2 x3 x4 y0 y1 y2 y3 y4
    obtain ⟨x0, x1, x2, x3, x4⟩ := mcell_at KA5.out
    obtain ⟨y0, y1, y2, y3, y4⟩ := mcell_at KB5.out
    rw [HXB.out]
    go_wp2
    go_ret
    exact ⟨rfl, B5.out⟩
  | true =>
    have HW := Hid.of hwd
    have HW' : Hid (wordB b.ev word = true) := by show _ = _; rw [← HE.out]; exact hwd
    clear hwd
    go_wp2_with fail
    refine (accepts_yes a la wa wc word _ (h.out.below B1.out (Nat.le_refl _)) (hT.out.below B1.out hT.out.lt) HA.out (hw.out.below B1.out (Nat.le_refl _)) hwl.out HW.out).mono ?_
    rintro e V2 ⟨rfl, hb⟩
    have B2 := Hid.of (B1.out.trans (hb.mono B1.out.size))
    have KA2 := Hid.of (KA1.out.below hb KA1.out.lt)
    have KB2 := Hid.of (KB1.out.below hb KB1.out.lt)
    have AT2 := Hid.of (AT1.out.below hb (Nat.le_refl _))
    clear hb B1 KA1 KB1 AT1 x0 x1 x2 x3 x4 y0 y1 y2 y3 y4
    obtain ⟨x0, x1, x2, x3, x4⟩ := mcell_at KA2.out
    obtain ⟨y0, y1, y2, y3, y4⟩ := mcell_at KB2.out
    go_wp2_with fail
    refine (accepts_yes b lb wa wc word _ (h'.out.below B2.out (Nat.le_refl _)) (hT.out.below B2.out hT.out.lt) HB.out (hw.out.below B2.out (Nat.le_refl _)) hwl.out HW'.out).mono ?_
    rintro e V3 ⟨rfl, hb⟩
    have B3 := Hid.of (B2.out.trans (hb.mono B2.out.size))
    have KA3 := Hid.of (KA2.out.below hb KA2.out.lt)
    have KB3 := Hid.of (KB2.out.below hb KB2.out.lt)
    have AT3 := Hid.of (AT2.out.below hb (Nat.le_refl _))
    clear hb B2 KA2 KB2 AT2 x0 x1 x2 x3 x4 y0 y1 y2 y3 y4
    obtain ⟨x0, x1, x2, x3, x4⟩ := mcell_at KA3.out
    obtain ⟨y0, y1, y2, y3, y4⟩ := mcell_at KB3.out
    cases hpa : acceptsB a word with
    | false =>
      clear hpa
      obtain ⟨qb, HQ⟩ : ∃ qb, Hid (qb = acceptsB b word) := ⟨_, rfl⟩
      rw [← HQ.out]
      go_wp2_with fail
      refine (accepts_yes a la va vc v _ (h.out.below B3.out (Nat.le_refl _)) (hT.out.below B3.out hT.out.lt) HA.out AT3.out HVL.out HVA.out).mono ?_
      rintro e V4 ⟨rfl, hb⟩
      have B4 := Hid.of (B3.out.trans (hb.mono B3.out.size))
      have KA4 := Hid.of (KA3.out.below hb KA3.out.lt)
      have KB4 := Hid.of (KB3.out.below hb KB3.out.lt)
      have AT4 := Hid.of (AT3.out.below hb (Nat.le_refl _))
      clear hb B3 KA3 KB3 AT3 x0 x1 x2 x3 x4 y0 y1 y2 y3 y4
      obtain ⟨x0, x1, x2, x3, x4⟩ := mcell_at KA4.out
      obtain ⟨y0, y1, y2, y3, y4⟩ := mcell_at KB4.out
      rw [HXA.out]
      go_wp2_with fail
      refine (accepts_yes b lb va vc v _ (h'.out.below B4.out (Nat.le_refl _)) (hT.out.below B4.out hT.out.lt) HB.out AT4.out HVL.out HVB.out).mono ?_
      rintro e V5 ⟨rfl, hb⟩
      have B5 := Hid.of (B4.out.trans (hb.mono B4.out.size))
      have KA5 := Hid.of (KA4.out.below hb KA4.out.lt)
      have KB5 := Hid.of (KB4.out.below hb KB4.out.lt)
      have AT5 := Hid.of (AT4.out.below hb (Nat.le_refl _))
      clear hb B4 KA4 KB4 AT4 x0 x1 x2 x3 x4 y0 y1 y2 y3 y4
      obtain ⟨x0, x1, x2, x3, x4⟩ := mcell_at KA5.out
      obtain ⟨y0, y1, y2, y3, y4⟩ := mcell_at KB5.out
      rw [HXB.out]
      go_wp2
      go_ret
      exact ⟨rfl, B5.out⟩
    | true =>
      cases hpb : acceptsB b word with
      | true =>
        clear hpa hpb
        go_wp2_with fail
        refine (accepts_yes a la va vc v _ (h.out.below B3.out (Nat.le_refl _)) (hT.out.below B3.out hT.out.lt) HA.out AT3.out HVL.out HVA.out).mono ?_
        rintro e V4 ⟨rfl, hb⟩
        have B4 := Hid.of (B3.out.trans (hb.mono B3.out.size))
        have KA4 := Hid.of (KA3.out.below hb KA3.out.lt)
        have KB4 := Hid.of (KB3.out.below hb KB3.out.lt)
        have AT4 := Hid.of (AT3.out.below hb (Nat.le_refl _))
        clear hb B3 KA3 KB3 AT3 x0 x1 x2 x3 x4 y0 y1 y2 y3 y4
        obtain ⟨x0, x1, x2, x3, x4⟩ := mcell_at KA4.out
        obtain ⟨y0, y1, y2, y3, y4⟩ := mcell_at KB4.out
        rw [HXA.out]
        go_wp2_with fail
        refine (accepts_yes b lb va vc v _ (h'.out.below B4.out (Nat.le_refl _)) (hT.out.below B4.out hT.out.lt) HB.out AT4.out HVL.out HVB.out).mono ?_
        rintro e V5 ⟨rfl, hb⟩
        have B5 := Hid.of (B4.out.trans (hb.mono B4.out.size))
        have KA5 := Hid.of (KA4.out.below hb KA4.out.lt)
        have KB5 := Hid.of (KB4.out.below hb KB4.out.lt)
        have AT5 := Hid.of (AT4.out.below hb (Nat.le_refl _))
        clear hb B4 KA4 KB4 AT4 x0 x1 x2 x3 x4 y0 y1 y2 y3 y4
        obtain ⟨x0, x1, x2, x3, x4⟩ := mcell_at KA5.out
        obtain ⟨y0, y1, y2, y3, y4⟩ := mcell_at KB5.out
        rw [HXB.out]
        go_wp2
        go_ret
        exact ⟨rfl, B5.out⟩
      | false =>
        have HLW := Hid.of (HLS.out HW.out hpa hpb)
        clear hpa hpb
        go_wp2_with fail
        refine (lesser_any wa va wc vc word v _ (hw.out.below B3.out (Nat.le_refl _)) AT3.out hwl.out HVL.out).mono ?_
        rintro e V4 ⟨rfl, q, rfl⟩
        rw [HLW.out]
        have B4 : Hid (Below w.heap.size w (V3.drewN q)) := below_drewN B3.out q
        have KA4 : Hid (Blk (V3.drewN q) w.heap.size 25 (mcells a la)) := KA3.out
        have KB4 : Hid (Blk (V3.drewN q) (w.heap.size + 1) 25 (mcells b lb)) := KB3.out
        have AT4 : Hid (At (V3.drewN q) va v) := At.drewN AT3.out q
        clear B3 KA3 KB3 AT3 x0 x1 x2 x3 x4 y0 y1 y2 y3 y4
        revert B4 KA4 KB4 AT4
        generalize V3.drewN q = V4
        intro B4 KA4 KB4 AT4
        obtain ⟨x0, x1, x2, x3, x4⟩ := mcell_at KA4.out
        obtain ⟨y0, y1, y2, y3, y4⟩ := mcell_at KB4.out
        go_wp2_with fail
        refine (accepts_yes a la va vc v _ (h.out.below B4.out (Nat.le_refl _)) (hT.out.below B4.out hT.out.lt) HA.out AT4.out HVL.out HVA.out).mono ?_
        rintro e V5 ⟨rfl, hb⟩
        have B5 := Hid.of (B4.out.trans (hb.mono B4.out.size))
        have KA5 := Hid.of (KA4.out.below hb KA4.out.lt)
        have KB5 := Hid.of (KB4.out.below hb KB4.out.lt)
        have AT5 := Hid.of (AT4.out.below hb (Nat.le_refl _))
        clear hb B4 KA4 KB4 AT4 x0 x1 x2 x3 x4 y0 y1 y2 y3 y4
        obtain ⟨x0, x1, x2, x3, x4⟩ := mcell_at KA5.out
        obtain ⟨y0, y1, y2, y3, y4⟩ := mcell_at KB5.out
        rw [HXA.out]
        go_wp2_with fail
        refine (accepts_yes b lb va vc v _ (h'.out.below B5.out (Nat.le_refl _)) (hT.out.below B5.out hT.out.lt) HB.out AT5.out HVL.out HVB.out).mono ?_
        rintro e V6 ⟨rfl, hb⟩
        have B6 := Hid.of (B5.out.trans (hb.mono B5.out.size))
        have KA6 := Hid.of (KA5.out.below hb KA5.out.lt)
        have KB6 := Hid.of (KB5.out.below hb KB5.out.lt)
        have AT6 := Hid.of (AT5.out.below hb (Nat.le_refl _))
        clear hb B5 KA5 KB5 AT5 x0 x1 x2 x3 x4 y0 y1 y2 y3 y4
        obtain ⟨x0, x1, x2, x3, x4⟩ := mcell_at KA6.out
        obtain ⟨y0, y1, y2, y3, y4⟩ := mcell_at KB6.out
        rw [HXB.out]
        go_wp2
        go_ret
        exact ⟨rfl, B6.out⟩

theorem withOut_cases (a b : Mach) : (∃ c : Int, (c != 0) = true ∧ withOut a b = (false, [], c)) ∨ (mayB a = true ∧ mayB b = true ∧ a.ev = b.ev ∧ a.st ≤ 6 ∧ b.st ≤ 6) := by
  unfold withOut
  by_cases h1 : mayB a = true ∧ mayB b = true
  · rw [if_pos h1]
    by_cases h2 : a.ev = b.ev
    · rw [if_pos h2]
      by_cases h3 : a.st ≤ 6 ∧ b.st ≤ 6
      · exact .inr ⟨h1.1, h1.2, h2, h3.1, h3.2⟩
      · rw [if_neg h3]; exact .inl ⟨1, rfl, rfl⟩
    · rw [if_neg h2]; exact .inl ⟨3, rfl, rfl⟩
  · rw [if_neg h1]; exact .inl ⟨2, rfl, rfl⟩
theorem wsays_any (a b : Mach) (la lb : ML) (wa : Option Addr) (wc : Nat) (word : List Int) (w : World) (hT : Tab w) (h : MAt w a la) (h' : MAt w b lb) (hw : At w wa word) (hwl : word.length ≤ maxLen) :
    Calls Tryd.prog 13 #[mval a la, mval b lb, .slice wa word.length wc] w fun e w' => e = .returned (.bool true) ∧ Below w.heap.size w w' := by
  rcases withOut_cases a b with ⟨c, hc, ho⟩ | ⟨h1, h2, h3, h4, h5⟩
  · exact wsays_err a b la lb wa wc word w (Hid.of hT) (Hid.of h) (Hid.of h') c hc (Hid.of ho)
  · cases ho : outW a b with
    | none => exact wsays_none a b la lb wa wc word w (Hid.of hT) (Hid.of h) (Hid.of h') (Hid.of hw) (Hid.of hwl) (Hid.of h1) (Hid.of h2) (Hid.of h3) (Hid.of h4) (Hid.of h5) (Hid.of ho)
    | some v => exact wsays_some a b la lb wa wc word w (Hid.of hT) (Hid.of h) (Hid.of h') (Hid.of hw) (Hid.of hwl) (Hid.of h1) (Hid.of h2) (Hid.of h3) (Hid.of h4) (Hid.of h5) v (Hid.of ho)

end Go.Proofs.YtdnglodemkeooaaDoor
