/-
  The walk of diagnose.Delay.
  What the walk of jalousieref13.leads knows of the memory.
-/
import Derived.Test.YtgebfkmfhpcdhaaDoorDDNew
import Derived.Test.YtgebfkmfhpcdhaaDoorH22
import Derived.Test.YtgebfkmfhpcdhaaDoorH18
import Derived.Test.YtgebfkmfhpcdhaaDoorH09
import Derived.Test.YtgebfkmfhpcdhaaDoorH07
import Derived.Test.YtgebfkmfhpcdhaaDoorH15
import Derived.Test.YtgebfkmfhpcdhaaDoorH11
import Derived.Deep.QuietTactic
import Derived.Deep.RegionWith
import Derived.BigQuiet
import Derived.Test.YtgebfkmfhpcdhaaDoorH17
import Derived.Test.YtgebfkmfhpcdhaaDoorH05
import Derived.Test.YtgebfkmfhpcdhaaDoorH03
import Derived.Test.YtgebfkmfhpcdhaaDoorH04
namespace Go.Proofs.YtgebfkmfhpcdhaaDoor
open Go.RowKit
set_option linter.unusedVariables false

set_option maxRecDepth 100000 in
set_option maxHeartbeats 8000000 in
theorem pDel_any (m : Mach) (l : ML) (sa : Option Addr) (sc : Nat) (seen : List Int) (fa : Option Addr) (fc : Nat) (faults : List Int) (w : World) (h0 : MAt w m l) (hs0 : At w sa seen) (hsl0 : seen.length ≤ maxLen) (hf0 : At w fa faults) (hfl0 : faults.length ≤ maxLen) (hT0 : Tab w) :
    Calls Tryd.prog 51 #[mval m l, .slice sa seen.length sc, .slice fa faults.length fc] w fun e w' => DelPost w (delOut m seen faults) e w' := by
  have h := Hid.of h0
  have hs := Hid.of hs0
  have hsl := Hid.of hsl0
  have hf := Hid.of hf0
  have hfl := Hid.of hfl0
  have hT := Hid.of hT0
  clear h0 hs0 hsl0 hf0 hfl0 hT0
  have B0 : Hid (Below w.heap.size w (w.alloc (.cells (mcells m l) 25))) := (Below.refl _ _).alloc (Nat.le_refl _) _
  have K0 : Hid (Blk (w.alloc (.cells (mcells m l) 25)) w.heap.size 25 (mcells m l)) := Blk.new w _ _
  go_enter Tryd.func51, Tryd.ntmps51
  go_wp2_with fail
  revert B0 K0
  generalize w.alloc (.cells (mcells m l) 25) = V0
  intro B0 K0
  refine (pMay_any m l _ (h.out.below B0.out (Nat.le_refl _))).mono ?_
  rintro e V ⟨rfl, hb1⟩
  have B := Hid.of (B0.out.trans (hb1.mono B0.out.size))
  have K := Hid.of (K0.out.below hb1 K0.out.lt)
  clear hb1 B0 K0
  cases hm : mayB m with
  | false =>
    have HO : Hid (delOut m seen faults = (0, 2)) := delOut_m hm seen faults
    clear hm
    go_wp2_with fail
    exact bodyPost_ret (v := .tuple #[.int .i64 0, .int .i64 2]) (by simp [results, go_sem]) rfl ⟨by rw [HO.out], B.out⟩
  | true =>
    have HMM := Hid.of hm
    clear hm
    obtain ⟨x0, x1, x2, x3, x4⟩ := mcell_at K.out
    go_wp2_with fail
    refine (rowIs_any sa sc seen m.ev V (hs.out.below B.out (Nat.le_refl _)) hsl.out).mono ?_
    rintro e V3 ⟨rfl, rfl⟩
    cases hr : rowB m.ev seen with
    | false =>
      have HO : Hid (delOut m seen faults = (0, 2)) := delOut_s hr faults
      clear hr
      go_wp2_with fail
      exact bodyPost_ret (v := .tuple #[.int .i64 0, .int .i64 2]) (by simp [results, go_sem]) rfl ⟨by rw [HO.out], B.out⟩
    | true =>
      have HRS := Hid.of hr
      clear hr
      go_wp2_with fail
      refine (rowIs_any fa fc faults m.ev V3 (hf.out.below B.out (Nat.le_refl _)) hfl.out).mono ?_
      rintro e V4 ⟨rfl, rfl⟩
      cases hr : rowB m.ev faults with
      | false =>
        have HO : Hid (delOut m seen faults = (0, 2)) := delOut_f hr seen
        clear hr
        go_wp2_with fail
        exact bodyPost_ret (v := .tuple #[.int .i64 0, .int .i64 2]) (by simp [results, go_sem]) rfl ⟨by rw [HO.out], B.out⟩
      | true =>
        have HRF := Hid.of hr
        clear hr
        by_cases hz : m.st ≤ 6
        · have d6 : decide ((6 : Int) < m.st) = false := by simp; omega
          have HZ := Hid.of hz
          have HO : Hid (delOut m seen faults = (delD m seen faults, 0)) := delOut_ok HMM.out HRS.out HRF.out hz
          clear hz
          go_wp2_with fail
          refine (newW_any m l sa sc seen fa fc faults V4 (h.out.below B.out (Nat.le_refl _)) HMM.out HZ.out (hs.out.below B.out (Nat.le_refl _)) hsl.out (hf.out.below B.out (Nat.le_refl _)) hfl.out).mono ?_
          rintro e W2 ⟨p, r, rfl, hD, hb⟩
          have D := Hid.of hD
          have B2 := Hid.of (B.out.trans (hb.mono B.out.size))
          have hB0 : 0 < V4.heap.size := Nat.lt_of_lt_of_le hT.out.lt B.out.size
          clear hD hb x0 x1 x2 x3 x4
          go_wp2_with fail
          have hsz := mayB_size HMM.out
          unfold sizeOk at hsz
          have hzz := HZ.out
          refine (longest_any m l seen faults HMM HZ m.st.toNat m.ev.toNat (Hid.of (by omega)) (Hid.of (by omega)) (by omega) (by omega) (pF seen m.ev.toNat) (pF faults m.ev.toNat) (fun e he => by unfold pF; rw [if_pos he]) (fun e he => by unfold pF; rw [if_pos he]) V4.heap.size p r hB0 W2 (hT.out.below B2.out hT.out.lt) (h.out.below B2.out (Nat.le_refl _)).s (Nat.le_trans h.out.s1 h.out.s2) D).mono ?_
          rintro e W3 ⟨d, bd, rfl, hL, hb⟩
          have B3 := Hid.of (B2.out.trans (hb.mono B.out.size))
          clear hb hsz hzz D
          rcases hL with ⟨rfl, hd1, hd2, hd⟩ | ⟨rfl, hd⟩
          · have HD : Hid (delD m seen faults = d + 1) := dl_one (del_is HMM.out HZ.out seen faults) hd
            have hw : IntKind.i64.wrap (d + 1) = d + 1 := by rw [IntKind.wrap_i64]; omega
            clear hd
            go_wp2_with fail
            exact bodyPost_ret (v := .tuple #[.int .i64 (d + 1), .int .i64 0]) (by simp [results, go_sem]) rfl ⟨by rw [HO.out, HD.out], B3.out⟩
          · have HD : Hid (delD m seen faults = -1) := dl_one (del_is HMM.out HZ.out seen faults) hd
            clear hd
            go_wp2_with fail
            exact bodyPost_ret (v := .tuple #[.int .i64 (-1), .int .i64 0]) (by simp [results, go_sem]) rfl ⟨by rw [HO.out, HD.out], B3.out⟩
        · have d6 : decide ((6 : Int) < m.st) = true := by simp; omega
          have HO : Hid (delOut m seen faults = (0, 1)) := delOut_z HMM.out HRS.out HRF.out hz
          clear hz
          go_wp2_with fail
          exact bodyPost_ret (v := .tuple #[.int .i64 0, .int .i64 1]) (by simp [results, go_sem]) rfl ⟨by rw [HO.out], B.out⟩

end Go.Proofs.YtgebfkmfhpcdhaaDoor
namespace Go.Proofs.YtgebfkmfhpcdhaaDoor
open Go.RowKit
set_option linter.unusedVariables false
set_option maxRecDepth 100000

theorem at_one13 (W : World) (x : Int) : At (W.alloc (.cells #[.int .i64 x] 3)) (some ⟨W.heap.size, 0, none⟩) [x] := by
  refine .inr ⟨_, 0, rfl, by simp, fun j hj => ?_⟩
  have : j = 0 := by simp at hj; omega
  subst this
  exact (Blk.new W 3 #[.int .i64 x]).cell 0 rfl
theorem step_at {α : Type} {l : List α} {k : Nat} {a : α} (h : l[k]? = some a) : l.take (k + 1) = l.take k ++ [a] := by rw [List.take_add_one, h]; rfl
end Go.Proofs.YtgebfkmfhpcdhaaDoor
