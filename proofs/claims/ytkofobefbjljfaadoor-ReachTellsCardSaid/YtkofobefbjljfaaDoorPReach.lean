/-
  The walks of reach.Reach and reach.Live.
-/
import Derived.Test.YtkofobefbjljfaaDoorReachAny
import Derived.Test.YtkofobefbjljfaaDoorPMay
import Derived.Test.YtkofobefbjljfaaDoorTrimBase
namespace Go.Proofs.YtkofobefbjljfaaDoor
open Go.RowKit
set_option linter.unusedVariables false

/-- What Reach and Live leave where the machine may be. -/
def RowGives (w : World) (xs : List Int) (e : Ending) (w' : World) : Prop := ∃ a cap, e = .returned (.tuple #[.slice a xs.length cap, .int .i64 0]) ∧ At w' a xs ∧ xs.length ≤ maxLen ∧ Below w.heap.size w w'

set_option maxRecDepth 100000 in
set_option maxHeartbeats 1000000 in
theorem pReach_err (m : Mach) (l : ML) (w : World) (h : MAt w m l) (hm : mayB m = false) :
    Calls Tryd.prog 18 #[mval m l] w fun e w' => e = .returned (.tuple #[.slice none 0 0, .int .i64 2]) ∧ Below w.heap.size w w' := by
  have B0 : Hid (Below w.heap.size w (w.alloc (.cells (mcells m l) 25))) := (Below.refl _ _).alloc (Nat.le_refl _) _
  have h' := Hid.of (h.below B0.out (Nat.le_refl _))
  clear h
  go_enter Tryd.func18, Tryd.ntmps18
  go_wp2_with fail
  refine (pMay_any m l _ h'.out).mono ?_
  rintro e w1 ⟨rfl, hb1⟩
  have HB := Hid.of (B0.out.trans (hb1.mono B0.out.size))
  clear hb1
  rw [hm]
  go_wp2_with fail
  refine bodyPost_ret (results_tmp2 rfl _ _ _) rfl ?_
  exact ⟨rfl, HB.out⟩

set_option maxRecDepth 100000 in
set_option maxHeartbeats 1000000 in
theorem pReach_ok (m : Mach) (l : ML) (w : World) (h : MAt w m l) (hm : mayB m = true) (hT : Tab w) :
    Calls Tryd.prog 18 #[mval m l] w fun e w' => RowGives w (reachL m) e w' := by
  have B0 : Hid (Below w.heap.size w (w.alloc (.cells (mcells m l) 25))) := (Below.refl _ _).alloc (Nat.le_refl _) _
  have h' := Hid.of (h.below B0.out (Nat.le_refl _))
  have HT := Hid.of hT
  have K0 := Hid.of (Blk.new w 25 (mcells m l))
  have HM := Hid.of h
  clear h hT
  go_enter Tryd.func18, Tryd.ntmps18
  go_wp2_with fail
  refine (pMay_any m l _ h'.out).mono ?_
  rintro e w1 ⟨rfl, hb1⟩
  have HB := Hid.of (B0.out.trans (hb1.mono B0.out.size))
  obtain ⟨x0, x1, x2, x3, x4⟩ := mcell_at (K0.out.below hb1 K0.out.lt)
  clear hb1
  rw [hm]
  go_wp2_with fail
  refine (reached_any m l _ hm (HM.out.below HB.out (Nat.le_refl _)) (HT.out.below HB.out HT.out.lt)).mono ?_
  rintro e w2 ⟨F, hok, rfl, hr, hb2⟩
  have HB2 := Hid.of (HB.out.trans (hb2.mono HB.out.size))
  have HO := Hid.of hok
  have HR := Hid.of (row_reach hm hr)
  clear hb2 hok hr x0 x1 x2 x3 x4
  go_wp2_with fail
  refine (row_any F _ HO.out (HT.out.below HB2.out HT.out.lt)).mono ?_
  rintro e w3 ⟨a, cap, rfl, hat, hlen, hb3⟩
  have HB3 := Hid.of (HB2.out.trans (hb3.mono HB2.out.size))
  rw [HR.out] at hat hlen ⊢
  have HA := Hid.of hat
  have HL := Hid.of hlen
  clear hb3 hat hlen
  go_wp2_with fail
  refine bodyPost_ret (results_tmp2 rfl _ _ _) rfl ?_
  exact ⟨a, cap, rfl, HA.out, HL.out, HB3.out⟩

set_option maxRecDepth 100000 in
set_option maxHeartbeats 1000000 in
theorem pLive_err (m : Mach) (l : ML) (w : World) (h : MAt w m l) (hm : mayB m = false) :
    Calls Tryd.prog 19 #[mval m l] w fun e w' => e = .returned (.tuple #[.slice none 0 0, .int .i64 2]) ∧ Below w.heap.size w w' := by
  have B0 : Hid (Below w.heap.size w (w.alloc (.cells (mcells m l) 25))) := (Below.refl _ _).alloc (Nat.le_refl _) _
  have h' := Hid.of (h.below B0.out (Nat.le_refl _))
  clear h
  go_enter Tryd.func19, Tryd.ntmps19
  go_wp2_with fail
  refine (pMay_any m l _ h'.out).mono ?_
  rintro e w1 ⟨rfl, hb1⟩
  have HB := Hid.of (B0.out.trans (hb1.mono B0.out.size))
  clear hb1
  rw [hm]
  go_wp2_with fail
  refine bodyPost_ret (results_tmp2 rfl _ _ _) rfl ?_
  exact ⟨rfl, HB.out⟩

set_option maxRecDepth 100000 in
set_option maxHeartbeats 1000000 in
theorem pLive_ok (m : Mach) (l : ML) (w : World) (h : MAt w m l) (hm : mayB m = true) (hT : Tab w) :
    Calls Tryd.prog 19 #[mval m l] w fun e w' => RowGives w (liveL m) e w' := by
  have B0 : Hid (Below w.heap.size w (w.alloc (.cells (mcells m l) 25))) := (Below.refl _ _).alloc (Nat.le_refl _) _
  have h' := Hid.of (h.below B0.out (Nat.le_refl _))
  have HT := Hid.of hT
  have K0 := Hid.of (Blk.new w 25 (mcells m l))
  have HM := Hid.of h
  clear h hT
  go_enter Tryd.func19, Tryd.ntmps19
  go_wp2_with fail
  refine (pMay_any m l _ h'.out).mono ?_
  rintro e w1 ⟨rfl, hb1⟩
  have HB := Hid.of (B0.out.trans (hb1.mono B0.out.size))
  obtain ⟨x0, x1, x2, x3, x4⟩ := mcell_at (K0.out.below hb1 K0.out.lt)
  clear hb1
  rw [hm]
  go_wp2_with fail
  refine (alive_any m l _ hm (HM.out.below HB.out (Nat.le_refl _)) (HT.out.below HB.out HT.out.lt)).mono ?_
  rintro e w2 ⟨F, hok, rfl, hr, hb2⟩
  have HB2 := Hid.of (HB.out.trans (hb2.mono HB.out.size))
  have HO := Hid.of hok
  have HR := Hid.of (row_live hm hr)
  clear hb2 hok hr x0 x1 x2 x3 x4
  go_wp2_with fail
  refine (row_any F _ HO.out (HT.out.below HB2.out HT.out.lt)).mono ?_
  rintro e w3 ⟨a, cap, rfl, hat, hlen, hb3⟩
  have HB3 := Hid.of (HB2.out.trans (hb3.mono HB2.out.size))
  rw [HR.out] at hat hlen ⊢
  have HA := Hid.of hat
  have HL := Hid.of hlen
  clear hb3 hat hlen
  go_wp2_with fail
  refine bodyPost_ret (results_tmp2 rfl _ _ _) rfl ?_
  exact ⟨a, cap, rfl, HA.out, HL.out, HB3.out⟩

end Go.Proofs.YtkofobefbjljfaaDoor
