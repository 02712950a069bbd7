/-
  The walk of beside.Beside where there are too many pairs of starts.
  The walk of the law BesideBoth.
-/
import Derived.Deep.RegionWith
import Derived.Test.YtdnglodemkeooaaDoorG34
import Derived.Test.YtdnglodemkeooaaDoorG31
import Derived.Test.YtdnglodemkeooaaDoorCHSeen
import Derived.Test.YtdnglodemkeooaaDoorG23
import Derived.Test.YtdnglodemkeooaaDoorG30
namespace Go.Proofs.YtdnglodemkeooaaDoor
open Go.RowKit
set_option linter.unusedVariables false

set_option maxRecDepth 100000 in
set_option maxHeartbeats 8000000 in
theorem pBes_great (a b : Mach) (la lb : ML) (fa ga : Option Addr) (fc gc : Nat) (ofA ofB : List Int) (w : World) (ha : Hid (MAt w a la)) (hb : Hid (MAt w b lb)) (hA : Hid (At w fa ofA)) (lA : Hid (ofA.length ≤ fc ∧ fc ≤ maxLen)) (hB : Hid (At w ga ofB)) (lB : Hid (ofB.length ≤ gc ∧ gc ≤ maxLen)) (hc : Hid (refC a b ofA ofB = 0)) (hbig : ¬ (crossP a.starts b.starts).length ≤ 256) :
    Calls Tryd.prog 33 #[mval a la, mval b lb, .slice fa ofA.length fc, .slice ga ofB.length gc] w fun e w' => BesGives w a b ofA ofB e w' := by
  obtain ⟨ma, mb, hev, hra, hrb⟩ := refC_zero hc.out
  have MA := Hid.of ma
  have MB := Hid.of mb
  have HEV := Hid.of hev
  have HRA := Hid.of hra
  have HRB := Hid.of hrb
  have hsa := mayB_size ma
  have hsb := mayB_size mb
  unfold sizeOk at hsa hsb
  obtain ⟨SA, hSA⟩ : ∃ S : Nat, a.st = S := ⟨a.st.toNat, by omega⟩
  obtain ⟨SB, hSB⟩ : ∃ S : Nat, b.st = S := ⟨b.st.toNat, by omega⟩
  obtain ⟨E0, hE0⟩ : ∃ E : Nat, a.ev = E := ⟨a.ev.toNat, by omega⟩
  have hE8 : E0 ≤ 8 := by omega
  have hSA2 : SA ≤ 256 := by omega
  have hSB2 : SB ≤ 256 := by omega
  have HSA := Hid.of hSA
  have HSB := Hid.of hSB
  have HE0 := Hid.of hE0
  have hEb : Hid (b.ev = (E0 : Int)) := by show _ = _; rw [← hev]; exact hE0
  have hlA := Hid.of (show ofA.length ≤ maxLen from Nat.le_trans lA.out.1 lA.out.2)
  have hlB := Hid.of (show ofB.length ≤ maxLen from Nat.le_trans lB.out.1 lB.out.2)
  clear ma mb hev hra hrb hsa hsb hSA hSB hE0
  have hmm := @run_makeMap Tryd.prog
  have B0 : Hid (Below w.heap.size w (((w.alloc (.cells (mcells a la) 25)).alloc (.cells (mcells b lb) 25)).alloc (.cells zcells 25))) := (((Below.refl _ _).alloc (Nat.le_refl _) _).alloc (by simp) _).alloc (by simp; omega) _
  have KA0 : Hid (Blk (((w.alloc (.cells (mcells a la) 25)).alloc (.cells (mcells b lb) 25)).alloc (.cells zcells 25)) w.heap.size 25 (mcells a la)) := ((Blk.new w _ _).alloc _).alloc _
  have KB0 : Hid (Blk (((w.alloc (.cells (mcells a la) 25)).alloc (.cells (mcells b lb) 25)).alloc (.cells zcells 25)) (w.heap.size + 1) 25 (mcells b lb)) := by
    have := (Blk.new (w.alloc (.cells (mcells a la) 25)) 25 (mcells b lb)).alloc (.cells zcells 25)
    rwa [World.size_alloc] at this
  have R0 : Hid (Blk (((w.alloc (.cells (mcells a la) 25)).alloc (.cells (mcells b lb) 25)).alloc (.cells zcells 25)) (w.heap.size + 2) 25 zcells) := by
    have := Blk.new ((w.alloc (.cells (mcells a la) 25)).alloc (.cells (mcells b lb) 25)) 25 zcells
    rwa [World.size_alloc, World.size_alloc] at this
  go_enter Tryd.func33, Tryd.ntmps33
  go_wp2_with fail
  revert B0 KA0 KB0 R0
  generalize ((w.alloc (.cells (mcells a la) 25)).alloc (.cells (mcells b lb) 25)).alloc (.cells zcells 25) = V0
  intro B0 KA0 KB0 R0
  refine (refuse_any a b la lb fa ga fc gc ofA ofB _ (ha.out.below B0.out (Nat.le_refl _)) (hb.out.below B0.out (Nat.le_refl _)) (hA.out.below B0.out (Nat.le_refl _)) hlA (hB.out.below B0.out (Nat.le_refl _)) hlB).mono ?_
  rintro e V ⟨rfl, hb1⟩
  have B1 := Hid.of (B0.out.trans (hb1.mono B0.out.size))
  have KA1 := Hid.of (KA0.out.below hb1 KA0.out.lt)
  have KB1 := Hid.of (KB0.out.below hb1 KB0.out.lt)
  have R1 := Hid.of (R0.out.below hb1 R0.out.lt)
  clear hb1 B0 KA0 KB0 R0
  rw [hc.out]
  obtain ⟨x0, x1, x2, x3, x4⟩ := mcell_at KA1.out
  rw [HE0.out] at x1
  have lk := KA1.out.lt
  have F0 := Hid.of (FD.start V (E0 : Int))
  have BX := Hid.of (show Below V.heap.size V _ from ((Below.refl V.heap.size V).alloc (Nat.le_refl _) (.map #[] 0)).alloc (by simp) (.cells (fcells 0 (E0 : Int) (.slice none 0 0) (.slice none 0 0) (.slice none 0 0) (.slice none 0 0) V.heap.size) 80))
  go_wp2_with fail
  revert F0 BX
  generalize (V.alloc (.map #[] 0)).alloc (.cells (fcells 0 (E0 : Int) (.slice none 0 0) (.slice none 0 0) (.slice none 0 0) (.slice none 0 0) V.heap.size) 80) = X
  intro F0 BX
  have RD : Hid (∀ Y : World, Below V.heap.size V Y → At Y fa ofA ∧ At Y ga ofB ∧ MAt Y a la ∧ MAt Y b lb) := fun Y hY => by
    have hw := B1.out.trans (hY.mono B1.out.size)
    exact ⟨hA.out.below hw (Nat.le_refl _), hB.out.below hw (Nat.le_refl _), ha.out.below hw (Nat.le_refl _), hb.out.below hw (Nat.le_refl _)⟩
  refine (join_yes X fa fc ofA ga gc ofB (RD.out X BX.out).1 (RD.out X BX.out).2.1 lA.out.1 lB.out.1 lA.out.2 lB.out.2 (row_wide (by rw [HE0.out]; omega) HRA.out) (row_wide (by rw [HE0.out]; omega) HRB.out)).mono ?_
  rintro e Y ⟨ve0, rfl, hown, hbY⟩
  rw [ev_eq (b := b) HE0.out hE8 HRA.out HRB.out] at hown
  obtain ⟨ea, ec, rfl, hatE⟩ := own_atF (n := 0) (F := FF (V.heap.size + 1) V.heap.size (.slice none 0 0) (.slice none 0 0) (.slice none 0 0) (.slice none 0 0)) hown (fun j hj => by have := (F0.out.lt j hj).2; omega)
  have AE := Hid.of hatE
  have FY := Hid.of (F0.out.below hbY)
  have BY := Hid.of (BX.out.trans (hbY.mono BX.out.size))
  clear hown hatE hbY F0 BX x0 x1 x2 x3 x4 lk
  have C10 : Hid (∀ Z : World, Below V.heap.size V Z → (Z.cell? ⟨w.heap.size, 0, none⟩ = some (.int .i64 a.st) ∧ Z.cell? ⟨w.heap.size, 1, none⟩ = some (.int .i64 a.ev) ∧ Z.cell? ⟨w.heap.size, 2, none⟩ = some (.slice la.a1 a.starts.length la.c1) ∧ Z.cell? ⟨w.heap.size, 3, none⟩ = some (.slice la.a2 a.arrows.length la.c2) ∧ Z.cell? ⟨w.heap.size, 4, none⟩ = some (.slice la.a3 a.ends.length la.c3)) ∧ (Z.cell? ⟨w.heap.size + 1, 0, none⟩ = some (.int .i64 b.st) ∧ Z.cell? ⟨w.heap.size + 1, 1, none⟩ = some (.int .i64 b.ev) ∧ Z.cell? ⟨w.heap.size + 1, 2, none⟩ = some (.slice lb.a1 b.starts.length lb.c1) ∧ Z.cell? ⟨w.heap.size + 1, 3, none⟩ = some (.slice lb.a2 b.arrows.length lb.c2) ∧ Z.cell? ⟨w.heap.size + 1, 4, none⟩ = some (.slice lb.a3 b.ends.length lb.c3))) := fun Z hZ => ⟨mcell_at (KA1.out.below hZ KA1.out.lt), mcell_at (KB1.out.below hZ KB1.out.lt)⟩
  obtain ⟨⟨x0, x1, x2, x3, x4⟩, y0, y1, y2, y3, y4⟩ := C10.out Y BY.out
  have lk1 : w.heap.size < Y.heap.size := Nat.lt_of_lt_of_le KA1.out.lt BY.out.size
  have lk2 : w.heap.size + 1 < Y.heap.size := Nat.lt_of_lt_of_le KB1.out.lt BY.out.size
  have HBEG : Hid (Calls Tryd.prog 67 #[.pointer (some ⟨V.heap.size + 1, 0, none⟩), .slice la.a1 a.starts.length la.c1, .slice lb.a1 b.starts.length lb.c1] Y.drew fun e W' => BegPost V Y.drew (V.heap.size + 1) V.heap.size (E0 : Int) a.starts b.starts e W') := by
    have sa := may_starts MA.out
    have sb := may_starts MB.out
    rw [HSA.out] at sa
    rw [HSB.out] at sb
    exact begin_any V Y.drew (V.heap.size + 1) V.heap.size (E0 : Int) la.a1 lb.a1 la.c1 lb.c1 a.starts b.starts (ha.out.below B1.out (Nat.le_refl _)).s (hb.out.below B1.out (Nat.le_refl _)).s (starts256 MA.out) (starts256 MB.out) sa.1 sb.1 (fun x hx => by have := sa.2 x hx; omega) (fun x hx => by have := sb.2 x hx; omega) FY.out.drew BY.out.drew
  obtain ⟨r0, r1, r2, r3, r4⟩ := zcell_at R1.out
  have rz := R1.out.frozen
  clear r0 r1 r2 r3 r4 rz
  go_wp2_with fail
  have hdec : decide ((crossP a.starts b.starts).length ≤ 256) = false := by simpa using hbig
  have HDEC := Hid.of hdec
  have HNO : Hid (besideS a b ofA ofB = none) := besideS_great (by omega)
  clear hbig hdec
  refine wp_region_any (by kernel_rfl) ?_
  change wpAny _ _ _ _ _ _ _ (World.drew _)
  refine wpAny_take (i := 0) (v := .pointer (some ⟨w.heap.size, 2, none⟩)) rfl (by kernel_rfl) (by kernel_rfl) (by kernel_rfl) (fun _ _ _ h => h) (Or.inl ⟨by rfl, fun w' => by go_simp⟩) ?_
  refine wpAny_take (i := 2) (v := .pointer (some ⟨w.heap.size + 1, 2, none⟩)) rfl (by kernel_rfl) (by kernel_rfl) (by kernel_rfl) (fun _ _ _ h => h) (Or.inl ⟨by rfl, fun w' => by go_simp⟩) ?_
  refine wpAny_ready (rs := [1, 3]) (by kernel_rfl) (by simp) ?_
  refine AllReady.cons rfl (fun K hK => ?_) (AllReady.cons rfl (fun K hK => ?_) AllReady.nil)
  · go_simp
    refine hK _ _ ?_
    clear hK K
    refine wpAny_ready (rs := [3]) (by kernel_rfl) (by simp) ?_
    refine AllReady.cons rfl (fun K hK => ?_) AllReady.nil
    go_simp
    refine hK _ _ ?_
    clear hK K
    refine wpAny_ready (rs := [4]) (by kernel_rfl) (by simp) ?_
    refine AllReady.cons rfl (fun K hK => ?_) AllReady.nil
    go_simp
    refine HBEG.out.mono ?_
    rintro r w1 ⟨rfl, hB1, -⟩
    rw [HDEC.out]
    have BW := Hid.of hB1
    clear hB1 HBEG
    refine hK _ _ ?_
    clear hK K
    refine wpAny_take (i := 5) (v := .bool true) rfl (by kernel_rfl) (by kernel_rfl) (by kernel_rfl) (fun _ _ _ h => h) (Or.inl ⟨by rfl, fun w' => by go_simp⟩) ?_
    refine wpAny_take (i := 6) (v := .bool true) rfl (by kernel_rfl) (by kernel_rfl) (by kernel_rfl) (fun _ _ _ h => h) (Or.inl ⟨by rfl, fun w' => by go_simp⟩) ?_
    refine wpAny_take (i := 7) (v := undef) rfl (by kernel_rfl) (by kernel_rfl) (by kernel_rfl) (fun _ _ _ h => h) (Or.inr ⟨by kernel_rfl, rfl⟩) ?_
    refine wpAny_take (i := 8) (v := undef) rfl (by kernel_rfl) (by kernel_rfl) (by kernel_rfl) (fun _ _ _ h => h) (Or.inr ⟨by kernel_rfl, rfl⟩) ?_
    refine wpAny_take (i := 9) (v := undef) rfl (by kernel_rfl) (by kernel_rfl) (by kernel_rfl) (fun _ _ _ h => h) (Or.inr ⟨by kernel_rfl, rfl⟩) ?_
    refine wpAny_take (i := 10) (v := undef) rfl (by kernel_rfl) (by kernel_rfl) (by kernel_rfl) (fun _ _ _ h => h) (Or.inr ⟨by kernel_rfl, rfl⟩) ?_
    refine wpAny_take (i := 11) (v := undef) rfl (by kernel_rfl) (by kernel_rfl) (by kernel_rfl) (fun _ _ _ h => h) (Or.inr ⟨by kernel_rfl, rfl⟩) ?_
    refine wpAny_take (i := 12) (v := undef) rfl (by kernel_rfl) (by kernel_rfl) (by kernel_rfl) (fun _ _ _ h => h) (Or.inr ⟨by kernel_rfl, rfl⟩) ?_
    refine wpAny_take (i := 13) (v := undef) rfl (by kernel_rfl) (by kernel_rfl) (by kernel_rfl) (fun _ _ _ h => h) (Or.inr ⟨by kernel_rfl, rfl⟩) ?_
    refine wpAny_take (i := 14) (v := undef) rfl (by kernel_rfl) (by kernel_rfl) (by kernel_rfl) (fun _ _ _ h => h) (Or.inr ⟨by kernel_rfl, rfl⟩) ?_
    refine wpAny_take (i := 15) (v := undef) rfl (by kernel_rfl) (by kernel_rfl) (by kernel_rfl) (fun _ _ _ h => h) (Or.inr ⟨by kernel_rfl, rfl⟩) ?_
    refine wpAny_take (i := 16) (v := .bool true) rfl (by kernel_rfl) (by kernel_rfl) (by kernel_rfl) (fun _ _ _ h => h) (Or.inl ⟨by rfl, fun w' => by go_simp⟩) ?_
    refine wpAny_done (by kernel_rfl) ?_ _
    simp only [Act.put, List.setIfInBounds_toArray, List.set_cons_succ, List.set_cons_zero, List.getElem_toArray, List.getElem_cons_succ, List.getElem_cons_zero]
    have R2 := Hid.of (R1.out.below BW.out R1.out.lt)
    obtain ⟨r0, r1, r2, r3, r4⟩ := zcell_at R2.out
    have rz := R2.out.frozen
    have rl := R2.out.lt
    have RR : Hid (Blk _ (w.heap.size + 2) 25 (mcells m0 ml0)) := R2.out.set5 (.int .i64 0) (.int .i64 0) (.slice none 0 0) (.slice none 0 0) (.slice none 0 0)
    clear x0 x1 x2 x3 x4 y0 y1 y2 y3 y4
    go_wp2_with fail
    refine bodyPost_ret (v := .tuple #[mval m0 ml0, .slice none 0 0, .int .i64 1]) ?_ rfl ?_
    · exact results_three (p := 8) (u := 9) (v := 10) rfl _ _ (w.heap.size + 2) m0 ml0 _ _ rfl rfl rfl RR.out
    · unfold BesGives
      rw [HNO.out]
      exact ⟨rfl, below_set5 (B1.out.trans (BW.out.mono B1.out.size)) (b' := w.heap.size + 2) (by omega) _ _ _ _ _⟩
  · go_simp
    refine hK _ _ ?_
    clear hK K
    refine wpAny_ready (rs := [1]) (by kernel_rfl) (by simp) ?_
    refine AllReady.cons rfl (fun K hK => ?_) AllReady.nil
    go_simp
    refine hK _ _ ?_
    clear hK K
    refine wpAny_ready (rs := [4]) (by kernel_rfl) (by simp) ?_
    refine AllReady.cons rfl (fun K hK => ?_) AllReady.nil
    go_simp
    refine HBEG.out.mono ?_
    rintro r w1 ⟨rfl, hB1, -⟩
    rw [HDEC.out]
    have BW := Hid.of hB1
    clear hB1 HBEG
    refine hK _ _ ?_
    clear hK K
    refine wpAny_take (i := 5) (v := .bool true) rfl (by kernel_rfl) (by kernel_rfl) (by kernel_rfl) (fun _ _ _ h => h) (Or.inl ⟨by rfl, fun w' => by go_simp⟩) ?_
    refine wpAny_take (i := 6) (v := .bool true) rfl (by kernel_rfl) (by kernel_rfl) (by kernel_rfl) (fun _ _ _ h => h) (Or.inl ⟨by rfl, fun w' => by go_simp⟩) ?_
    refine wpAny_take (i := 7) (v := undef) rfl (by kernel_rfl) (by kernel_rfl) (by kernel_rfl) (fun _ _ _ h => h) (Or.inr ⟨by kernel_rfl, rfl⟩) ?_
    refine wpAny_take (i := 8) (v := undef) rfl (by kernel_rfl) (by kernel_rfl) (by kernel_rfl) (fun _ _ _ h => h) (Or.inr ⟨by kernel_rfl, rfl⟩) ?_
    refine wpAny_take (i := 9) (v := undef) rfl (by kernel_rfl) (by kernel_rfl) (by kernel_rfl) (fun _ _ _ h => h) (Or.inr ⟨by kernel_rfl, rfl⟩) ?_
    refine wpAny_take (i := 10) (v := undef) rfl (by kernel_rfl) (by kernel_rfl) (by kernel_rfl) (fun _ _ _ h => h) (Or.inr ⟨by kernel_rfl, rfl⟩) ?_
    refine wpAny_take (i := 11) (v := undef) rfl (by kernel_rfl) (by kernel_rfl) (by kernel_rfl) (fun _ _ _ h => h) (Or.inr ⟨by kernel_rfl, rfl⟩) ?_
    refine wpAny_take (i := 12) (v := undef) rfl (by kernel_rfl) (by kernel_rfl) (by kernel_rfl) (fun _ _ _ h => h) (Or.inr ⟨by kernel_rfl, rfl⟩) ?_
    refine wpAny_take (i := 13) (v := undef) rfl (by kernel_rfl) (by kernel_rfl) (by kernel_rfl) (fun _ _ _ h => h) (Or.inr ⟨by kernel_rfl, rfl⟩) ?_
    refine wpAny_take (i := 14) (v := undef) rfl (by kernel_rfl) (by kernel_rfl) (by kernel_rfl) (fun _ _ _ h => h) (Or.inr ⟨by kernel_rfl, rfl⟩) ?_
    refine wpAny_take (i := 15) (v := undef) rfl (by kernel_rfl) (by kernel_rfl) (by kernel_rfl) (fun _ _ _ h => h) (Or.inr ⟨by kernel_rfl, rfl⟩) ?_
    refine wpAny_take (i := 16) (v := .bool true) rfl (by kernel_rfl) (by kernel_rfl) (by kernel_rfl) (fun _ _ _ h => h) (Or.inl ⟨by rfl, fun w' => by go_simp⟩) ?_
    refine wpAny_done (by kernel_rfl) ?_ _
    simp only [Act.put, List.setIfInBounds_toArray, List.set_cons_succ, List.set_cons_zero, List.getElem_toArray, List.getElem_cons_succ, List.getElem_cons_zero]
    have R2 := Hid.of (R1.out.below BW.out R1.out.lt)
    obtain ⟨r0, r1, r2, r3, r4⟩ := zcell_at R2.out
    have rz := R2.out.frozen
    have rl := R2.out.lt
    have RR : Hid (Blk _ (w.heap.size + 2) 25 (mcells m0 ml0)) := R2.out.set5 (.int .i64 0) (.int .i64 0) (.slice none 0 0) (.slice none 0 0) (.slice none 0 0)
    clear x0 x1 x2 x3 x4 y0 y1 y2 y3 y4
    go_wp2_with fail
    refine bodyPost_ret (v := .tuple #[mval m0 ml0, .slice none 0 0, .int .i64 1]) ?_ rfl ?_
    · exact results_three (p := 8) (u := 9) (v := 10) rfl _ _ (w.heap.size + 2) m0 ml0 _ _ rfl rfl rfl RR.out
    · unfold BesGives
      rw [HNO.out]
      exact ⟨rfl, below_set5 (B1.out.trans (BW.out.mono B1.out.size)) (b' := w.heap.size + 2) (by omega) _ _ _ _ _⟩

theorem pBeside_any (a b : Mach) (la lb : ML) (fa ga : Option Addr) (fc gc : Nat) (ofA ofB : List Int) (w : World) (ha : MAt w a la) (hb : MAt w b lb) (hA : At w fa ofA) (lA : ofA.length ≤ fc ∧ fc ≤ maxLen) (hB : At w ga ofB) (lB : ofB.length ≤ gc ∧ gc ≤ maxLen) :
    Calls Tryd.prog 33 #[mval a la, mval b lb, .slice fa ofA.length fc, .slice ga ofB.length gc] w fun e w' => BesAll w a b ofA ofB e w' := by
  by_cases hc : refC a b ofA ofB = 0
  · have h1 : Calls Tryd.prog 33 #[mval a la, mval b lb, .slice fa ofA.length fc, .slice ga ofB.length gc] w fun e w' => BesGives w a b ofA ofB e w' := by
      by_cases hbig : (crossP a.starts b.starts).length ≤ 256
      · exact pBes_fit a b la lb fa ga fc gc ofA ofB w ha hb hA lA hB lB hc hbig
      · exact pBes_great a b la lb fa ga fc gc ofA ofB w ha hb hA lA hB lB hc hbig
    refine h1.mono ?_
    intro e w' h
    exact besAll_of (by rw [if_pos hc]; exact h)
  · refine (pBes_err a b la lb fa ga fc gc ofA ofB w ha hb hA (Nat.le_trans lA.1 lA.2) hB (Nat.le_trans lB.1 lB.2) (refC a b ofA ofB) rfl hc).mono ?_
    intro e w' h
    exact besAll_of (by rw [if_neg hc]; exact h)

end Go.Proofs.YtdnglodemkeooaaDoor
namespace Go.Proofs.YtdnglodemkeooaaDoor
open Go.RowKit
set_option linter.unusedVariables false

theorem wordB_iff (ev : Int) : ∀ xs : List Int, wordB ev xs = true ↔ ∀ e ∈ xs, 0 ≤ e ∧ e < ev
  | [] => by simp [wordB]
  | x :: r => by
    rw [wordB]
    by_cases h : x < 0 ∨ ev ≤ x
    · rw [if_pos h]
      constructor
      · intro h'; cases h'
      · intro h'; have := h' x (by simp); omega
    · rw [if_neg h, wordB_iff ev r]
      constructor
      · intro h' e he
        rcases List.mem_cons.1 he with rfl | he
        · omega
        · exact h' e he
      · intro h' e he; exact h' e (by simp [he])
theorem seen_own (l word : List Int) : seenL l word = ownW l word := by
  unfold seenL ownW
  congr 1; funext x; cases hasB l x <;> rfl
theorem seen_word {ev : Int} {l word : List Int} (h : wordB ev word = true) : wordB ev (seenL l word) = true :=
  (wordB_iff _ _).2 fun e he => (wordB_iff _ _).1 h e (List.mem_filter.1 he).1
/-- Are the first k of a word of one of both? -/
def ownTo (ofA ofB word : List Int) (k : Nat) : Bool := (word.take k).all fun e => hasB ofA e || hasB ofB e
theorem ownTo_zero (ofA ofB word : List Int) : ownTo ofA ofB word 0 = true := by simp [ownTo]
theorem ownTo_succ {ofA ofB word : List Int} {k : Nat} {x : Int} (h : k < word.length) (hx : Hid (x = word[k]?.getD 0)) : ownTo ofA ofB word (k + 1) = (ownTo ofA ofB word k && (hasB ofA x || hasB ofB x)) := by
  have hx := hx.out
  rw [List.getElem?_eq_getElem h, Option.getD_some] at hx
  unfold ownTo
  rw [List.take_add_one, List.getElem?_eq_getElem h, List.all_append, hx]
  simp
theorem ownTo_all {ofA ofB word : List Int} {k : Nat} (h : ¬ k < word.length) : ownTo ofA ofB word k = word.all fun e => hasB ofA e || hasB ofB e := by
  unfold ownTo; rw [List.take_of_length_le (by omega)]

/-- What the law knows of the memory behind Beside. -/
structure BBI (w W : World) (nb : Nat) (a b M : Mach) (la lb L : ML) : Prop where
  bel : Below w.heap.size w W
  ka : Blk W w.heap.size 25 (mcells a la)
  kb : Blk W (w.heap.size + 1) 25 (mcells b lb)
  kn : Blk W nb 25 (mcells M L)
  mt : MAt W M L
theorem BBI.below {w W W' : World} {nb : Nat} {a b M : Mach} {la lb L : ML} (h : BBI w W nb a b M la lb L) (hb : Below W.heap.size W W') : BBI w W' nb a b M la lb L :=
  ⟨h.bel.trans (hb.mono h.bel.size), h.ka.below hb h.ka.lt, h.kb.below hb h.kb.lt, h.kn.below hb h.kn.lt, h.mt.below hb (Nat.le_refl _)⟩

set_option maxRecDepth 100000 in
set_option maxHeartbeats 4000000 in
theorem bboth_any (a b : Mach) (la lb : ML) (fa ga va : Option Addr) (fc gc vc : Nat) (ofA ofB word : List Int) (w : World) (hT : Hid (Tab w)) (ha : Hid (MAt w a la)) (hb : Hid (MAt w b lb)) (hA : Hid (At w fa ofA)) (lA : Hid (ofA.length ≤ fc ∧ fc ≤ maxLen)) (hB : Hid (At w ga ofB)) (lB : Hid (ofB.length ≤ gc ∧ gc ≤ maxLen)) (hW : Hid (At w va word)) (lW : word.length ≤ 17592186044416) :
    Calls Tryd.prog 7 #[mval a la, mval b lb, .slice fa ofA.length fc, .slice ga ofB.length gc, .slice va word.length vc] w fun e w' => e = .returned (.bool true) ∧ Below w.heap.size w w' := by
  have B0 : Hid (Below w.heap.size w ((w.alloc (.cells (mcells a la) 25)).alloc (.cells (mcells b lb) 25))) := ((Below.refl _ _).alloc (Nat.le_refl _) _).alloc (by simp) _
  have KA0 : Hid (Blk ((w.alloc (.cells (mcells a la) 25)).alloc (.cells (mcells b lb) 25)) w.heap.size 25 (mcells a la)) := (Blk.new w _ _).alloc _
  have KB0 : Hid (Blk ((w.alloc (.cells (mcells a la) 25)).alloc (.cells (mcells b lb) 25)) (w.heap.size + 1) 25 (mcells b lb)) := by
    have := Blk.new (w.alloc (.cells (mcells a la) 25)) 25 (mcells b lb)
    rwa [World.size_alloc] at this
  go_enter Tryd.func7, Tryd.ntmps7
  go_wp2_with fail
  refine (pBeside_any a b la lb fa ga fc gc ofA ofB _ (ha.out.below B0.out (Nat.le_refl _)) (hb.out.below B0.out (Nat.le_refl _)) (hA.out.below B0.out (Nat.le_refl _)) lA.out (hB.out.below B0.out (Nat.le_refl _)) lB.out).mono ?_
  intro e w3 h3
  obtain ⟨L, ba, bc, rfl, mt3, -, hb3, -⟩ := besAll_out h3
  clear h3
  have HC := Hid.of (besOut_cases a b ofA ofB)
  obtain ⟨M, LL, c, HR⟩ : ∃ M LL c, Hid (besOut a b ofA ofB = (M, LL, c)) := ⟨_, _, _, rfl⟩
  rw [HR.out] at mt3 HC ⊢
  dsimp only at mt3 HC ⊢
  have B3 := Hid.of (B0.out.trans (hb3.mono B0.out.size))
  have b4 : Below w3.heap.size w3 (w3.alloc (.cells (mcells M L) 25)) := (Below.refl _ _).alloc (Nat.le_refl _) _
  have B4 := Hid.of (B3.out.trans (b4.mono B3.out.size))
  have KA4 := Hid.of ((KA0.out.below hb3 KA0.out.lt).below b4 (KA0.out.below hb3 KA0.out.lt).lt)
  have KB4 := Hid.of ((KB0.out.below hb3 KB0.out.lt).below b4 (KB0.out.below hb3 KB0.out.lt).lt)
  have N4 := Hid.of (Blk.new w3 25 (mcells M L))
  have MT4 := Hid.of (mt3.below b4 (Nat.le_refl _))
  have l4 := B3.out.size
  clear hb3 b4 mt3 B0 KA0 KB0 B3
  rcases HC.out with ⟨hM, hc⟩ | ⟨s, hs, hM, rfl, hma, hmb, hev, hra, hrb⟩
  · subst hM
    clear HC HR
    have n0 : (w3.alloc (.cells (mcells m0 L) 25)).cell? ⟨w3.heap.size, 0, none⟩ = some (.int .i64 0) := N4.out.cell 0 rfl
    go_wp2
    go_ret
    exact ⟨rfl, B4.out⟩
  · have hmm := may_beside hma hmb hs
    have hacc := fun h => beside_accepts hma hmb hs word h
    rw [← hM] at hmm hacc
    have HEV : Hid (M.ev = a.ev) := by show _ = _; rw [hM]; rfl
    have hst : 0 < M.st := by have := mayB_size hmm; unfold sizeOk at this; omega
    have HMAY := Hid.of hmm
    have HACC := Hid.of hacc
    have HMA := Hid.of hma
    have HMB := Hid.of hmb
    have HEB : Hid (b.ev = a.ev) := hev.symm
    have HLA : Hid (ofA.length ≤ 17592186044416) := by have := rowB_len hra; show _ ≤ _; omega
    have HLB : Hid (ofB.length ≤ 17592186044416) := by have := rowB_len hrb; show _ ≤ _; omega
    clear HC HR hs hM hma hmb hev hra hrb hmm hacc
    go_wp2
    revert B4 KA4 KB4 N4 MT4
    show Hid (Below w.heap.size w (w3.alloc (.cells #[.int .i64 M.st, .int .i64 M.ev, .slice L.a1 M.starts.length L.c1, .slice L.a2 M.arrows.length L.c2, .slice L.a3 M.ends.length L.c3] 25))) → _
    generalize w3.alloc (.cells #[.int .i64 M.st, .int .i64 M.ev, .slice L.a1 M.starts.length L.c1, .slice L.a2 M.arrows.length L.c2, .slice L.a3 M.ends.length L.c3] 25) = V
    intro B4 KA4 KB4 N4 MT4
    go_loopw [14] (fun i wr => ∃ k q : Nat, k ≤ word.length ∧ i = .int .i64 k ∧ wr = V.drewN q ∧ Hid (∀ e ∈ word.take k, 0 ≤ e ∧ e < a.ev)) (fun i _ => word.length - (intOf i).toNat)
    case atStart => exact ⟨0, 0, by omega, rfl, rfl, fun e he => by simp at he⟩
    case round =>
      obtain ⟨k, q, hk, rfl, rfl, HW⟩ := hrel
      by_cases hlt : k < word.length
      · obtain ⟨bw, ow, rfl, hbw, hcw⟩ : ∃ b off, va = some ⟨b, off, none⟩ ∧ b < w.heap.size ∧ Cells w b off word := by
          rcases hW.out with h0 | h
          · rw [h0] at hlt; simp at hlt
          · exact h
        obtain ⟨x, HX, c0⟩ := hcw.at hlt
        have c1 : V.cell? ⟨bw, ow + k, none⟩ = some (.int .i64 x) := (B4.out.cell (p := ⟨bw, ow + k, none⟩) hbw).trans c0
        have e1 : V.cell? ⟨w.heap.size, 1, none⟩ = some (.int .i64 a.ev) := KA4.out.cell 1 rfl
        clear c0 hcw
        by_cases hx0 : x < 0
        · go_wp2
          refine wp_region_any (by kernel_rfl) ?_
          change wpAny _ _ _ _ _ _ _ (World.drew _)
          refine wpAny_take (i := 0) (v := .slice (some ⟨bw, ow, none⟩) word.length vc) rfl (by kernel_rfl) (by kernel_rfl) (by kernel_rfl) (fun _ _ _ h => h) (Or.inl ⟨by rfl, fun w' => by go_simp⟩) ?_
          refine wpAny_take (i := 1) (v := .int .i64 k) rfl (by kernel_rfl) (by kernel_rfl) (by kernel_rfl) (fun _ _ _ h => h) (Or.inl ⟨by rfl, fun w' => by go_simp⟩) ?_
          refine wpAny_take (i := 2) (v := .pointer (some ⟨bw, ow + k, none⟩)) rfl (by kernel_rfl) (by kernel_rfl) (by kernel_rfl) (fun _ _ _ h => h) (Or.inl ⟨by rfl, fun w' => by go_simp⟩) ?_
          refine wpAny_ready (rs := [3]) (by kernel_rfl) (by simp) ?_
          refine AllReady.cons rfl (fun K hK => ?_) AllReady.nil
          go_simp
          refine hK _ _ ?_
          clear hK K
          refine wpAny_take (i := 4) (v := .bool true) rfl (by kernel_rfl) (by kernel_rfl) (by kernel_rfl) (fun _ _ _ h => h) (Or.inl ⟨by rfl, fun w' => by go_simp⟩) ?_
          refine wpAny_take (i := 5) (v := .bool true) rfl (by kernel_rfl) (by kernel_rfl) (by kernel_rfl) (fun _ _ _ h => h) (Or.inl ⟨by rfl, fun w' => by go_simp⟩) ?_
          refine wpAny_take (i := 6) (v := undef) rfl (by kernel_rfl) (by kernel_rfl) (by kernel_rfl) (fun _ _ _ h => h) (Or.inr ⟨by kernel_rfl, rfl⟩) ?_
          refine wpAny_take (i := 7) (v := undef) rfl (by kernel_rfl) (by kernel_rfl) (by kernel_rfl) (fun _ _ _ h => h) (Or.inr ⟨by kernel_rfl, rfl⟩) ?_
          refine wpAny_take (i := 8) (v := undef) rfl (by kernel_rfl) (by kernel_rfl) (by kernel_rfl) (fun _ _ _ h => h) (Or.inr ⟨by kernel_rfl, rfl⟩) ?_
          refine wpAny_take (i := 9) (v := undef) rfl (by kernel_rfl) (by kernel_rfl) (by kernel_rfl) (fun _ _ _ h => h) (Or.inr ⟨by kernel_rfl, rfl⟩) ?_
          refine wpAny_take (i := 10) (v := undef) rfl (by kernel_rfl) (by kernel_rfl) (by kernel_rfl) (fun _ _ _ h => h) (Or.inr ⟨by kernel_rfl, rfl⟩) ?_
          refine wpAny_take (i := 11) (v := undef) rfl (by kernel_rfl) (by kernel_rfl) (by kernel_rfl) (fun _ _ _ h => h) (Or.inr ⟨by kernel_rfl, rfl⟩) ?_
          refine wpAny_take (i := 12) (v := undef) rfl (by kernel_rfl) (by kernel_rfl) (by kernel_rfl) (fun _ _ _ h => h) (Or.inr ⟨by kernel_rfl, rfl⟩) ?_
          refine wpAny_take (i := 13) (v := .bool true) rfl (by kernel_rfl) (by kernel_rfl) (by kernel_rfl) (fun _ _ _ h => h) (Or.inl ⟨by rfl, fun w' => by go_simp⟩) ?_
          refine wpAny_done (by kernel_rfl) ?_ _
          simp only [Act.put, List.setIfInBounds_toArray, List.set_cons_succ, List.set_cons_zero, List.getElem_toArray, List.getElem_cons_succ, List.getElem_cons_zero]
          go_wp2
          go_ret
          exact ⟨rfl, (below_drewN B4.out q).drew⟩
        · by_cases hx1 : a.ev ≤ x
          · go_wp2
            refine wp_region_any (by kernel_rfl) ?_
            change wpAny _ _ _ _ _ _ _ (World.drew _)
            refine wpAny_take (i := 0) (v := .slice (some ⟨bw, ow, none⟩) word.length vc) rfl (by kernel_rfl) (by kernel_rfl) (by kernel_rfl) (fun _ _ _ h => h) (Or.inl ⟨by kernel_rfl, fun w' => by go_simp⟩) ?_
            refine wpAny_take (i := 1) (v := .int .i64 k) rfl (by kernel_rfl) (by kernel_rfl) (by kernel_rfl) (fun _ _ _ h => h) (Or.inl ⟨by kernel_rfl, fun w' => by go_simp⟩) ?_
            refine wpAny_take (i := 2) (v := .pointer (some ⟨bw, ow + k, none⟩)) rfl (by kernel_rfl) (by kernel_rfl) (by kernel_rfl) (fun _ _ _ h => h) (Or.inl ⟨by kernel_rfl, fun w' => by go_simp⟩) ?_
            refine wpAny_ready (rs := [3]) (by kernel_rfl) (by simp) ?_
            refine AllReady.cons rfl (fun K hK => ?_) AllReady.nil
            go_simp
            refine hK _ _ ?_
            clear hK K
            refine wpAny_take (i := 4) (v := .bool false) rfl (by kernel_rfl) (by kernel_rfl) (by kernel_rfl) (fun _ _ _ h => h) (Or.inl ⟨by kernel_rfl, fun w' => by go_simp⟩) ?_
            refine wpAny_take (i := 5) (v := .bool false) rfl (by kernel_rfl) (by kernel_rfl) (by kernel_rfl) (fun _ _ _ h => h) (Or.inl ⟨by kernel_rfl, fun w' => by go_simp⟩) ?_
            refine wpAny_take (i := 6) (v := .slice (some ⟨bw, ow, none⟩) word.length vc) rfl (by kernel_rfl) (by kernel_rfl) (by kernel_rfl) (fun _ _ _ h => h) (Or.inl ⟨by kernel_rfl, fun w' => by go_simp⟩) ?_
            refine wpAny_take (i := 7) (v := .int .i64 k) rfl (by kernel_rfl) (by kernel_rfl) (by kernel_rfl) (fun _ _ _ h => h) (Or.inl ⟨by kernel_rfl, fun w' => by go_simp⟩) ?_
            refine wpAny_take (i := 8) (v := .pointer (some ⟨bw, ow + k, none⟩)) rfl (by kernel_rfl) (by kernel_rfl) (by kernel_rfl) (fun _ _ _ h => h) (Or.inl ⟨by kernel_rfl, fun w' => by go_simp⟩) ?_
            refine wpAny_take (i := 10) (v := .pointer (some ⟨w.heap.size, 1, none⟩)) rfl (by kernel_rfl) (by kernel_rfl) (by kernel_rfl) (fun _ _ _ h => h) (Or.inl ⟨by kernel_rfl, fun w' => by go_simp⟩) ?_
            refine wpAny_ready (rs := [9, 11]) (by kernel_rfl) (by simp) ?_
            refine AllReady.cons rfl (fun K hK => ?_) (AllReady.cons rfl (fun K hK => ?_) AllReady.nil)
            · go_simp
              refine hK _ _ ?_
              clear hK K
              refine wpAny_ready (rs := [11]) (by kernel_rfl) (by simp) ?_
              refine AllReady.cons rfl (fun K hK => ?_) AllReady.nil
              go_simp
              refine hK _ _ ?_
              clear hK K
              refine wpAny_take (i := 12) (v := .bool true) rfl (by kernel_rfl) (by kernel_rfl) (by kernel_rfl) (fun _ _ _ h => h) (Or.inl ⟨by kernel_rfl, fun w' => by go_simp⟩) ?_
              refine wpAny_take (i := 13) (v := .bool true) rfl (by kernel_rfl) (by kernel_rfl) (by kernel_rfl) (fun _ _ _ h => h) (Or.inl ⟨by kernel_rfl, fun w' => by go_simp⟩) ?_
              refine wpAny_done (by kernel_rfl) ?_ _
              simp only [Act.put, List.setIfInBounds_toArray, List.set_cons_succ, List.set_cons_zero, List.getElem_toArray, List.getElem_cons_succ, List.getElem_cons_zero]
              go_wp2
              go_ret
              exact ⟨rfl, (below_drewN B4.out q).drew⟩
            · go_simp
              refine hK _ _ ?_
              clear hK K
              refine wpAny_ready (rs := [9]) (by kernel_rfl) (by simp) ?_
              refine AllReady.cons rfl (fun K hK => ?_) AllReady.nil
              go_simp
              refine hK _ _ ?_
              clear hK K
              refine wpAny_take (i := 12) (v := .bool true) rfl (by kernel_rfl) (by kernel_rfl) (by kernel_rfl) (fun _ _ _ h => h) (Or.inl ⟨by kernel_rfl, fun w' => by go_simp⟩) ?_
              refine wpAny_take (i := 13) (v := .bool true) rfl (by kernel_rfl) (by kernel_rfl) (by kernel_rfl) (fun _ _ _ h => h) (Or.inl ⟨by kernel_rfl, fun w' => by go_simp⟩) ?_
              refine wpAny_done (by kernel_rfl) ?_ _
              simp only [Act.put, List.setIfInBounds_toArray, List.set_cons_succ, List.set_cons_zero, List.getElem_toArray, List.getElem_cons_succ, List.getElem_cons_zero]
              go_wp2
              go_ret
              exact ⟨rfl, (below_drewN B4.out q).drew⟩
          · have HW2 : Hid (∀ e ∈ word.take (k + 1), 0 ≤ e ∧ e < a.ev) := fun e he => by
              have hx := HX.out
              rw [List.getElem?_eq_getElem hlt, Option.getD_some] at hx
              rw [List.take_add_one, List.getElem?_eq_getElem hlt] at he
              rcases List.mem_append.1 he with he | he
              · exact HW.out e he
              · have : e = x := by rw [hx]; simpa using he
                omega
            clear HW HX
            go_wp2
            refine wp_region_any (by kernel_rfl) ?_
            change wpAny _ _ _ _ _ _ _ (World.drew _)
            refine wpAny_take (i := 0) (v := .slice (some ⟨bw, ow, none⟩) word.length vc) rfl (by kernel_rfl) (by kernel_rfl) (by kernel_rfl) (fun _ _ _ h => h) (Or.inl ⟨by kernel_rfl, fun w' => by go_simp⟩) ?_
            refine wpAny_take (i := 1) (v := .int .i64 k) rfl (by kernel_rfl) (by kernel_rfl) (by kernel_rfl) (fun _ _ _ h => h) (Or.inl ⟨by kernel_rfl, fun w' => by go_simp⟩) ?_
            refine wpAny_take (i := 2) (v := .pointer (some ⟨bw, ow + k, none⟩)) rfl (by kernel_rfl) (by kernel_rfl) (by kernel_rfl) (fun _ _ _ h => h) (Or.inl ⟨by kernel_rfl, fun w' => by go_simp⟩) ?_
            refine wpAny_ready (rs := [3]) (by kernel_rfl) (by simp) ?_
            refine AllReady.cons rfl (fun K hK => ?_) AllReady.nil
            go_simp
            refine hK _ _ ?_
            clear hK K
            refine wpAny_take (i := 4) (v := .bool false) rfl (by kernel_rfl) (by kernel_rfl) (by kernel_rfl) (fun _ _ _ h => h) (Or.inl ⟨by kernel_rfl, fun w' => by go_simp⟩) ?_
            refine wpAny_take (i := 5) (v := .bool false) rfl (by kernel_rfl) (by kernel_rfl) (by kernel_rfl) (fun _ _ _ h => h) (Or.inl ⟨by kernel_rfl, fun w' => by go_simp⟩) ?_
            refine wpAny_take (i := 6) (v := .slice (some ⟨bw, ow, none⟩) word.length vc) rfl (by kernel_rfl) (by kernel_rfl) (by kernel_rfl) (fun _ _ _ h => h) (Or.inl ⟨by kernel_rfl, fun w' => by go_simp⟩) ?_
            refine wpAny_take (i := 7) (v := .int .i64 k) rfl (by kernel_rfl) (by kernel_rfl) (by kernel_rfl) (fun _ _ _ h => h) (Or.inl ⟨by kernel_rfl, fun w' => by go_simp⟩) ?_
            refine wpAny_take (i := 8) (v := .pointer (some ⟨bw, ow + k, none⟩)) rfl (by kernel_rfl) (by kernel_rfl) (by kernel_rfl) (fun _ _ _ h => h) (Or.inl ⟨by kernel_rfl, fun w' => by go_simp⟩) ?_
            refine wpAny_take (i := 10) (v := .pointer (some ⟨w.heap.size, 1, none⟩)) rfl (by kernel_rfl) (by kernel_rfl) (by kernel_rfl) (fun _ _ _ h => h) (Or.inl ⟨by kernel_rfl, fun w' => by go_simp⟩) ?_
            refine wpAny_ready (rs := [9, 11]) (by kernel_rfl) (by simp) ?_
            refine AllReady.cons rfl (fun K hK => ?_) (AllReady.cons rfl (fun K hK => ?_) AllReady.nil)
            · go_simp
              refine hK _ _ ?_
              clear hK K
              refine wpAny_ready (rs := [11]) (by kernel_rfl) (by simp) ?_
              refine AllReady.cons rfl (fun K hK => ?_) AllReady.nil
              go_simp
              refine hK _ _ ?_
              clear hK K
              refine wpAny_take (i := 12) (v := .bool false) rfl (by kernel_rfl) (by kernel_rfl) (by kernel_rfl) (fun _ _ _ h => h) (Or.inl ⟨by kernel_rfl, fun w' => by go_simp⟩) ?_
              refine wpAny_take (i := 13) (v := .bool false) rfl (by kernel_rfl) (by kernel_rfl) (by kernel_rfl) (fun _ _ _ h => h) (Or.inl ⟨by kernel_rfl, fun w' => by go_simp⟩) ?_
              refine wpAny_done (by kernel_rfl) ?_ _
              simp only [Act.put, List.setIfInBounds_toArray, List.set_cons_succ, List.set_cons_zero, List.getElem_toArray, List.getElem_cons_succ, List.getElem_cons_zero]
              go_wp2
              go_roundw
              case rel => exact ⟨k + 1, q + 1, by omega, by go_num, rfl, HW2⟩
              case measure => simp [intOf]; omega
            · go_simp
              refine hK _ _ ?_
              clear hK K
              refine wpAny_ready (rs := [9]) (by kernel_rfl) (by simp) ?_
              refine AllReady.cons rfl (fun K hK => ?_) AllReady.nil
              go_simp
              refine hK _ _ ?_
              clear hK K
              refine wpAny_take (i := 12) (v := .bool false) rfl (by kernel_rfl) (by kernel_rfl) (by kernel_rfl) (fun _ _ _ h => h) (Or.inl ⟨by kernel_rfl, fun w' => by go_simp⟩) ?_
              refine wpAny_take (i := 13) (v := .bool false) rfl (by kernel_rfl) (by kernel_rfl) (by kernel_rfl) (fun _ _ _ h => h) (Or.inl ⟨by kernel_rfl, fun w' => by go_simp⟩) ?_
              refine wpAny_done (by kernel_rfl) ?_ _
              simp only [Act.put, List.setIfInBounds_toArray, List.set_cons_succ, List.set_cons_zero, List.getElem_toArray, List.getElem_cons_succ, List.getElem_cons_zero]
              go_wp2
              go_roundw
              case rel => exact ⟨k + 1, q + 1, by omega, by go_num, rfl, HW2⟩
              case measure => simp [intOf]; omega
      · have hk2 : word.length = k := by omega
        subst hk2
        rw [List.take_of_length_le (Nat.le_refl _)] at HW
        have HWD : Hid (wordB a.ev word = true) := (wordB_iff _ _).2 HW.out
        have HAC := Hid.of (HACC.out HW.out)
        clear HACC HW
        have I4 : Hid (BBI w (V.drewN q) w3.heap.size a b M la lb L) := ⟨below_drewN B4.out q, KA4.out, KB4.out, N4.out, MT4.out.below (below_drewN (Below.refl _ _) q) (Nat.le_refl _)⟩
        clear B4 KA4 KB4 N4 MT4
        generalize V.drewN q = V4 at *
        go_wp2_with fail
        refine (pSeen_any va fa vc fc word ofA _ (hW.out.below I4.out.bel (Nat.le_refl _)) (by omega) (hA.out.below I4.out.bel (Nat.le_refl _)) HLA.out).mono ?_
        rintro e w5 ⟨xv, rfl, ox, hb5⟩
        rw [seen_own] at ox
        obtain ⟨xa, xc, rfl, atx, lnx⟩ := ox.at
        have LX := Hid.of lnx
        have AX5 := Hid.of atx
        have I5 := Hid.of (I4.out.below hb5)
        clear ox hb5 I4 atx lnx
        go_wp2_with fail
        refine (pSeen_any va ga vc gc word ofB _ (hW.out.below I5.out.bel (Nat.le_refl _)) (by omega) (hB.out.below I5.out.bel (Nat.le_refl _)) HLB.out).mono ?_
        rintro e w6 ⟨yv, rfl, oy, hb6⟩
        rw [seen_own] at oy
        obtain ⟨ya, yc, rfl, aty, lny⟩ := oy.at
        have LY := Hid.of lny
        have AY6 := Hid.of aty
        have AX6 := Hid.of (AX5.out.below hb6 (Nat.le_refl _))
        have I6 := Hid.of (I5.out.below hb6)
        clear oy hb6 I5 aty lny AX5
        obtain ⟨X, HXX⟩ : ∃ X, Hid (X = ownW ofA word) := ⟨_, rfl⟩
        obtain ⟨Y, HYY⟩ : ∃ Y, Hid (Y = ownW ofB word) := ⟨_, rfl⟩
        rw [← HXX.out] at AX6 LX HAC ⊢
        rw [← HYY.out] at AY6 LY HAC ⊢
        have HWX : Hid (wordB a.ev X = true) := by show _ = _; rw [HXX.out, ← seen_own]; exact seen_word HWD.out
        have HWY : Hid (wordB a.ev Y = true) := by show _ = _; rw [HYY.out, ← seen_own]; exact seen_word HWD.out
        clear HXX HYY
        go_wp2
        go_loopw [17, 18] (fun o i wr => ∃ k : Nat, k ≤ word.length ∧ i = .int .i64 k ∧ o = .bool (ownTo ofA ofB word k) ∧ wr = w6) (fun _ i _ => word.length - (intOf i).toNat)
        case atStart => exact ⟨0, by omega, rfl, by rw [ownTo_zero], rfl⟩
        case round =>
          obtain ⟨k, hk, rfl, rfl, rfl⟩ := hrel
          by_cases hlt : k < word.length
          · obtain ⟨bw, ow, rfl, hbw, hcw⟩ : ∃ b off, va = some ⟨b, off, none⟩ ∧ b < w.heap.size ∧ Cells w b off word := by
              rcases hW.out with h0 | h
              · rw [h0] at hlt; simp at hlt
              · exact h
            obtain ⟨x, HX, c0⟩ := hcw.at hlt
            have c1 : wr.cell? ⟨bw, ow + k, none⟩ = some (.int .i64 x) := (I6.out.bel.cell (p := ⟨bw, ow + k, none⟩) hbw).trans c0
            have HO := Hid.of (ownTo_succ (ofA := ofA) (ofB := ofB) hlt HX)
            clear c0 hcw HX
            generalize ho : ownTo ofA ofB word k = o at *
            cases o with
            | false =>
              clear ho
              go_wp2
              go_roundw
              case rel => exact ⟨k + 1, by omega, by go_num, by rw [HO.out]; rfl, by first | rfl | trivial⟩
              case measure => simp [intOf]; omega
            | true =>
              clear ho
              go_wp2_with fail
              refine (keepHas_any fa fc ofA x _ (hA.out.below I6.out.bel (Nat.le_refl _)) (Nat.le_trans lA.out.1 lA.out.2)).mono ?_
              rintro e w7 ⟨rfl, rfl⟩
              generalize hasB ofA x = p at *
              cases p with
              | true =>
                go_wp2
                go_roundw
                case rel => exact ⟨k + 1, by omega, by go_num, by rw [HO.out]; rfl, by first | rfl | trivial⟩
                case measure => simp [intOf]; omega
              | false =>
                go_wp2_with fail
                refine (keepHas_any ga gc ofB x _ (hB.out.below I6.out.bel (Nat.le_refl _)) (Nat.le_trans lB.out.1 lB.out.2)).mono ?_
                rintro e w8 ⟨rfl, rfl⟩
                generalize hasB ofB x = r at *
                go_wp2
                go_roundw
                case rel => exact ⟨k + 1, by omega, by go_num, by rw [HO.out]; rfl, by first | rfl | trivial⟩
                case measure => simp [intOf]; omega
          · rw [ownTo_all hlt]
            obtain ⟨x0, x1, x2, x3, x4⟩ := mcell_at I6.out.ka
            go_wp2_with fail
            refine (pAccepts_ok a la xa xc X _ (ha.out.below I6.out.bel (Nat.le_refl _)) (Hid.of (hT.out.below I6.out.bel hT.out.lt)) HMA AX6 LX HWX).mono ?_
            rintro e w7 ⟨rfl, hb7⟩
            have I7 := Hid.of (I6.out.below hb7)
            have AY7 := Hid.of (AY6.out.below hb7 (Nat.le_refl _))
            clear hb7 I6 AY6 AX6 x0 x1 x2 x3 x4
            obtain ⟨x0, x1, x2, x3, x4⟩ := mcell_at I7.out.kb
            go_wp2_with fail
            refine (pAccepts_ok b lb ya yc Y _ (hb.out.below I7.out.bel (Nat.le_refl _)) (Hid.of (hT.out.below I7.out.bel hT.out.lt)) HMB AY7 LY (by show _ = _; rw [HEB.out]; exact HWY.out)).mono ?_
            rintro e w8 ⟨rfl, hb8⟩
            have I8 := Hid.of (I7.out.below hb8)
            clear hb8 I7 AY7 x0 x1 x2 x3 x4
            obtain ⟨x0, x1, x2, x3, x4⟩ := mcell_at I8.out.kn
            go_wp2_with fail
            refine (pAccepts_ok M L va vc word _ I8.out.mt (Hid.of (hT.out.below I8.out.bel hT.out.lt)) HMAY (Hid.of (hW.out.below I8.out.bel (Nat.le_refl _))) (by show _ ≤ maxLen; unfold maxLen; omega) (by show _ = _; rw [HEV.out]; exact HWD.out)).mono ?_
            rintro e w9 ⟨rfl, hb9⟩
            have I9 := Hid.of (I8.out.below hb9)
            clear hb9 I8 x0 x1 x2 x3 x4
            have n0 : w9.cell? ⟨w3.heap.size, 0, none⟩ = some (.int .i64 M.st) := I9.out.kn.cell 0 rfl
            rw [HAC.out]
            generalize acceptsB a X = p
            generalize acceptsB b Y = r
            generalize (word.all fun e => hasB ofA e || hasB ofB e) = o
            clear HAC
            cases o <;> cases p <;> cases r
            all_goals
              go_wp2
              go_ret
              exact ⟨rfl, I9.out.bel⟩

end Go.Proofs.YtdnglodemkeooaaDoor
