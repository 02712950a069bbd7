/-
  The walk of hide.Seen: what is seen of a word.
-/
import Derived.Test.YtdnglodemkeooaaDoorG25
import Derived.Test.YtdnglodemkeooaaDoorG03
import Derived.Test.YtdnglodemkeooaaDoorG18
import Derived.Test.YtdnglodemkeooaaDoorG23
namespace Go.Proofs.YtdnglodemkeooaaDoor
open Go.RowKit
set_option linter.unusedVariables false

theorem hasB_perm {S xs : List Int} (h : ∀ x, x ∈ S ↔ x ∈ xs) (x : Int) : hasB S x = hasB xs x := by
  have := h x
  cases h1 : hasB S x <;> cases h2 : hasB xs x <;> simp_all [hasB]

set_option maxHeartbeats 2000000 in
set_option maxRecDepth 100000 in
theorem pSeen_some (bx ox cx cy : Nat) (ay : Option Addr) (xs ys : List Int) (w : World) (hl : xs.length ≤ 17592186044416) (hbx : bx < w.heap.size) (hc : Cells w bx ox xs) (ht : Hid (At w ay ys)) (hm : Hid (ys.length ≤ 17592186044416)) :
    Calls Tryd.prog 34 #[.slice (some ⟨bx, ox, none⟩) xs.length cx, .slice ay ys.length cy] w fun e w' => ∃ v, e = .returned v ∧ Own w' w.heap.size v (seenL ys xs) ∧ Below w.heap.size w w' := by
  obtain ⟨i0, hi, hz0, hz1, hz2⟩ := info_parts Tryd.infoInt
  go_enter Tryd.func34, Tryd.ntmps34
  go_wp2_with fail
  refine (clone_any ay cy ys _ ht.out hm.out).mono ?_
  rintro e w1 ⟨sv, rfl, hs1, hb1⟩
  have S1 := Hid.of hs1
  have B1 := Hid.of hb1
  clear hs1 hb1
  go_wp2_with fail
  refine (sortI_any _ _ sv ys S1.out hm.out).mono ?_
  rintro e W0 ⟨rfl, S, hSl, hSm, hSs, hSo, hb2⟩
  have B2 : Hid (Below w.heap.size w W0) := hb2 _ _ (Nat.le_refl _) B1.out
  have HM : Hid (∀ x, hasB S x = hasB ys x) := fun x => hasB_perm hSm x
  have HS := Hid.of hSs
  have HL : Hid (S.length ≤ 17592186044416) := by show _ ≤ _; rw [hSl]; exact hm.out
  obtain ⟨sa, sc, rfl, hat, -⟩ := hSo.at
  have HA := Hid.of hat
  clear hSl hSm hSs hSo hb2 hat S1 B1
  go_wp2
  go_loopw [6, 17] (fun v i wr => ∃ k : Nat, k ≤ xs.length ∧ i = .int .i64 k ∧ Own wr W0.heap.size v (onlyTo xs ys true k) ∧ Below W0.heap.size W0 wr) (fun _ i _ => xs.length - (intOf i).toNat)
  case atStart => exact ⟨0, Nat.zero_le _, rfl, own_nil _ _, Below.refl _ _⟩
  case round =>
    obtain ⟨k, hk, rfl, hown, hbel⟩ := hrel
    by_cases hlt : k < xs.length
    · obtain ⟨x, HX, hcx0⟩ := hc.at hlt
      have hcx1 : W0.cell? ⟨bx, ox + k, none⟩ = some (.int .i64 x) := (B2.out.cell (p := ⟨bx, ox + k, none⟩) hbx).trans hcx0
      have hcx : wr.cell? ⟨bx, ox + k, none⟩ = some (.int .i64 x) := (hbel.cell (p := ⟨bx, ox + k, none⟩) (Nat.lt_of_lt_of_le hbx B2.out.size)).trans hcx1
      clear hcx0 hcx1
      have HT : Hid (At wr sa S) := HA.out.below hbel (Nat.le_refl _)
      have hsz := hbel.size
      have hll := onlyTo_len xs ys true k
      go_wp2_with fail
      refine (searchI_any sa sc S x _ HT.out HL.out HS.out).mono ?_
      rintro e w' ⟨⟨n0, rfl⟩, q, rfl⟩
      rw [HM.out x]
      have hownq : Own (wr.drewN q) W0.heap.size u6 (onlyTo xs ys true k) := hown
      have hbelq : Below W0.heap.size W0 (wr.drewN q) := below_drewN hbel q
      have hszq : W0.heap.size ≤ (wr.drewN q).heap.size := hsz
      by_cases hh : hasB ys x = true
      · have HH : Hid (hasB ys x = true) := hh
        clear hown hbel hsz
        rw [hh]
        clear hh
        generalize wr.drewN q = wq at *
        go_wp2_with (at_builtin; refine wpList_append_own _ rfl _ _ 22 rfl W0.heap.size 3 i0 (.int .i64 0) 1 8 Tryd.underlying22 hi hz0 hz1 hz2 rfl (by decide) _ _ _ rfl (World.ownsRow.alloc hownq _) ⟨wq.heap.size, 0, none⟩ 1 1 [.int .i64 x] rfl rfl (cell_one_new _ _ _) (by intro u hu; simp at hu; subst hu; rfl) (by unfold maxLen; omega) (by omega) (by simp; omega) ?_)
        intro v' w1 hown' hgrow _
        obtain ⟨r1, r2, -⟩ := own_snoc hownq hbelq hszq hown' hgrow
        rw [← onlyTo_hit hlt HX HH.out] at r1
        clear hown' hgrow hownq hcx
        go_wp2
        go_roundw
        case rel => exact ⟨k + 1, by omega, by go_num, r1, r2⟩
        case measure => simp [intOf]; omega
      · have hh : hasB ys x = false := by simpa using hh
        have r1 := hownq
        rw [← onlyTo_miss (b := true) hlt HX (by rw [hh]; simp)] at r1
        rw [hh]
        clear hown hbel hsz hownq hh
        generalize wr.drewN q = wq at *
        go_wp2
        go_roundw
        case rel => exact ⟨k + 1, by omega, by go_num, r1, hbelq⟩
        case measure => simp [intOf]; omega
    · rw [onlyTo_all ys true hlt] at hown
      go_wp2
      go_ret
      exact ⟨_, rfl, Own.low hown B2.out.size, B2.out.trans (hbel.mono B2.out.size)⟩

set_option maxHeartbeats 1000000 in
theorem pSeen_nil (ax : Option Addr) (cx cy : Nat) (ay : Option Addr) (ys : List Int) (w : World) (ht : Hid (At w ay ys)) (hm : Hid (ys.length ≤ 17592186044416)) :
    Calls Tryd.prog 34 #[.slice ax 0 cx, .slice ay ys.length cy] w fun e w' => e = .returned (.slice none 0 0) ∧ Below w.heap.size w w' := by
  go_enter Tryd.func34, Tryd.ntmps34
  go_wp2_with fail
  refine (clone_any ay cy ys _ ht.out hm.out).mono ?_
  rintro e w1 ⟨sv, rfl, hs1, hb1⟩
  have S1 := Hid.of hs1
  have B1 := Hid.of hb1
  clear hs1 hb1
  go_wp2_with fail
  refine (sortI_any _ _ sv ys S1.out hm.out).mono ?_
  rintro e W0 ⟨rfl, S, hSl, hSm, hSs, hSo, hb2⟩
  have B2 : Hid (Below w.heap.size w W0) := hb2 _ _ (Nat.le_refl _) B1.out
  clear hSl hSm hSs hSo hb2 S1 B1
  go_wp2
  refine wp_loop_rounds 1 ?_
  rw [rounds_succ]
  go_wp2
  go_ret
  exact ⟨rfl, B2.out⟩

theorem pSeen_any (ax ay : Option Addr) (cx cy : Nat) (xs ys : List Int) (w : World) (hs : At w ax xs) (hl : xs.length ≤ 17592186044416) (ht : At w ay ys) (hm : ys.length ≤ 17592186044416) :
    Calls Tryd.prog 34 #[.slice ax xs.length cx, .slice ay ys.length cy] w fun e w' => ∃ v, e = .returned v ∧ Own w' w.heap.size v (seenL ys xs) ∧ Below w.heap.size w w' := by
  rcases hs with rfl | ⟨b, off, rfl, hb, hc⟩
  · refine (pSeen_nil ax cx cy ay ys w (Hid.of ht) (Hid.of hm)).mono ?_
    rintro e w' ⟨rfl, hb⟩
    exact ⟨_, rfl, own_nil _ _, hb⟩
  · exact pSeen_some b off cx cy ay xs ys w hl hb hc (Hid.of ht) (Hid.of hm)

end Go.Proofs.YtdnglodemkeooaaDoor
