/-
  The walk of hide.Hide.
-/
import Derived.Test.YtbdkaobbfmgnhaaDoorG40
import Derived.Test.YtbdkaobbfmgnhaaDoorG21
import Derived.Test.YtbdkaobbfmgnhaaDoorG10
import Derived.Test.YtbdkaobbfmgnhaaDoorG08
import Derived.Test.YtbdkaobbfmgnhaaDoorG12
import Derived.Test.YtbdkaobbfmgnhaaDoorG14
import Derived.Test.YtbdkaobbfmgnhaaDoorG18
import Derived.Test.YtbdkaobbfmgnhaaDoorG20
namespace Go.Proofs.YtbdkaobbfmgnhaaDoor
open Go.RowKit
set_option linter.unusedVariables false

set_option maxRecDepth 100000 in
set_option maxHeartbeats 4000000 in
theorem hide_err (m : Mach) (l : ML) (sa : Option Addr) (sc : Nat) (seen : List Int) (w : World) (h : Hid (MAt w m l)) (hs : Hid (At w sa seen)) (hsl : Hid (seen.length ≤ maxLen)) (hbad : Hid (mayB m = false ∨ rowB m.ev seen = false)) :
    Calls Tryd.prog 30 #[mval m l, .slice sa seen.length sc] w fun e w' => HErr 2 w e w' := by
  have B0 : Hid (Below w.heap.size w ((w.alloc (.cells (mcells m l) 25)).alloc (.cells zcells 25))) := ((Below.refl _ _).alloc (Nat.le_refl _) _).alloc (by simp) _
  have K0 : Hid (Blk ((w.alloc (.cells (mcells m l) 25)).alloc (.cells zcells 25)) w.heap.size 25 (mcells m l)) := (Blk.new w _ _).alloc _
  have R0 : Hid (Blk ((w.alloc (.cells (mcells m l) 25)).alloc (.cells zcells 25)) (w.heap.size + 1) 25 zcells) := by
    have := Blk.new (w.alloc (.cells (mcells m l) 25)) 25 zcells
    rwa [World.size_alloc] at this
  go_enter Tryd.func30, Tryd.ntmps30
  go_wp2_with fail
  revert B0 K0 R0
  generalize (w.alloc (.cells (mcells m l) 25)).alloc (.cells zcells 25) = V0
  intro B0 K0 R0
  refine (pMay_any m l _ (h.out.below B0.out (Nat.le_refl _))).mono ?_
  rintro e V ⟨rfl, hb1⟩
  have B1 := Hid.of (B0.out.trans (hb1.mono B0.out.size))
  have K1 := Hid.of (K0.out.below hb1 K0.out.lt)
  have R1 := Hid.of (R0.out.below hb1 R0.out.lt)
  clear hb1 B0 K0 R0
  obtain ⟨r0, r1, r2, r3, r4⟩ := zcell_at R1.out
  have rz := R1.out.frozen
  have RR : Hid (Blk _ (w.heap.size + 1) 25 (mcells m0 ml0)) := R1.out.set5 (.int .i64 0) (.int .i64 0) (.slice none 0 0) (.slice none 0 0) (.slice none 0 0)
  cases hm : mayB m with
  | false =>
    clear hbad hm
    go_wp2
    refine bodyPost_ret (v := .tuple #[mval m0 ml0, .int .i64 2]) ?_ rfl ?_
    · exact results_twoM (p := 4) (u := 5) rfl _ _ (w.heap.size + 1) m0 ml0 _ rfl rfl RR.out
    · exact ⟨rfl, below_set5 B1.out (b' := w.heap.size + 1) (by omega) _ _ _ _ _⟩
  | true =>
    have hr : rowB m.ev seen = false := by
      rcases hbad.out with h | h
      · rw [hm] at h; cases h
      · exact h
    have x1 : V.cell? ⟨w.heap.size, 1, none⟩ = some (.int .i64 m.ev) := K1.out.cell 1 rfl
    clear hbad hm
    go_wp2_with fail
    refine (rowIs_any sa sc seen m.ev _ (hs.out.below B1.out (Nat.le_refl _)) hsl.out).mono ?_
    rintro e V' ⟨rfl, rfl⟩
    rw [hr]
    clear hr
    go_wp2
    refine bodyPost_ret (v := .tuple #[mval m0 ml0, .int .i64 2]) ?_ rfl ?_
    · exact results_twoM (p := 4) (u := 5) rfl _ _ (w.heap.size + 1) m0 ml0 _ rfl rfl RR.out
    · exact ⟨rfl, below_set5 B1.out (b' := w.heap.size + 1) (by omega) _ _ _ _ _⟩

theorem still_bd {m : Mach} (hm : mayB m = true) (seen : List Int) {N : Nat} (hN : m.st = (N : Int)) {p : Nat} (hp : p < N) : ∀ n ∈ allS (stillT seen N m.arrows p), n < N := fun n hn => by
  have := rch_bd (n := (N : Int)) (fun x hx => by have : x = (p : Int) := by simpa using hx
                                                  omega) (fun a ha => by have := may_arrs hm a ((mem_unseen _ _ _).1 ha).1
                                                                         rw [hN] at this; exact ⟨this.2.2.1, this.2.2.2.1⟩) ((has_still hm seen hN hp).1 ((mem_allS _ _).1 hn).2)
  omega
theorem fr_low {α : Type} {B B' : Nat} {a : Option Addr} {xs : List α} (h : xs = [] ∨ ∃ b off, a = some ⟨b, off, none⟩ ∧ B ≤ b) (hB : B' ≤ B) : xs = [] ∨ ∃ b off, a = some ⟨b, off, none⟩ ∧ B' ≤ b := by
  rcases h with h | ⟨b, off, h, h'⟩
  · exact .inl h
  · exact .inr ⟨b, off, h, Nat.le_trans hB h'⟩
/-- What Hide knows of the memory behind lay. -/
structure HIB (w W : World) (m : Mach) (l : ML) (pg N : Nat) (T : Nat → Nat → Nat) (va : Option Addr) (A : List Arr) : Prop where
  bel : Below w.heap.size w W
  kb : Blk W w.heap.size 25 (mcells m l)
  rb : Blk W (w.heap.size + 1) 25 zcells
  tb : TB W pg N T
  ar : AtA W va A
  tab : Tab W
theorem HIB.below {w W W' : World} {m : Mach} {l : ML} {pg N : Nat} {T : Nat → Nat → Nat} {va : Option Addr} {A : List Arr} (h : HIB w W m l pg N T va A) (hb : Below W.heap.size W W') : HIB w W' m l pg N T va A :=
  ⟨h.bel.trans (hb.mono h.bel.size), h.kb.below hb h.kb.lt, h.rb.below hb h.rb.lt, h.tb.below hb h.tb.lt, h.ar.below hb (Nat.le_refl _), h.tab.below hb h.tab.lt⟩
theorem HIB.cells {w W : World} {m : Mach} {l : ML} {pg N : Nat} {T : Nat → Nat → Nat} {va : Option Addr} {A : List Arr} (h : HIB w W m l pg N T va A) : W.cell? ⟨w.heap.size, 0, none⟩ = some (.int .i64 m.st) ∧ W.cell? ⟨w.heap.size, 2, none⟩ = some (.slice l.a1 m.starts.length l.c1) ∧ W.cell? ⟨w.heap.size, 4, none⟩ = some (.slice l.a3 m.ends.length l.c3) :=
  ⟨h.kb.cell 0 rfl, h.kb.cell 2 rfl, h.kb.cell 4 rfl⟩

set_option maxRecDepth 100000 in
set_option maxHeartbeats 8000000 in
theorem hide_ok (st : Nat) (ev : Int) (starts : List Int) (ars : List Arr) (ends : List Int) (a1 : Option Addr) (c1 : Nat) (a2 : Option Addr) (c2 : Nat) (a3 : Option Addr) (c3 : Nat) (sa : Option Addr) (sc : Nat) (seen : List Int) (w : World) (h : Hid (MAt w ⟨(st : Int), ev, starts, ars, ends⟩ ⟨a1, c1, a2, c2, a3, c3⟩)) (hs : Hid (At w sa seen)) (hsl : Hid (seen.length ≤ maxLen)) (hm : Hid (mayB ⟨(st : Int), ev, starts, ars, ends⟩ = true)) (hr : Hid (rowB ev seen = true)) (hT : Hid (Tab w)) :
    Calls Tryd.prog 30 #[mval ⟨(st : Int), ev, starts, ars, ends⟩ ⟨a1, c1, a2, c2, a3, c3⟩, .slice sa seen.length sc] w fun e w' => if (hAll ⟨(st : Int), ev, starts, ars, ends⟩ seen st).length ≤ 4096 then ∃ L, e = .returned (.tuple #[mval (hideM ⟨(st : Int), ev, starts, ars, ends⟩ seen) L, .int .i64 0]) ∧ MAt w' (hideM ⟨(st : Int), ev, starts, ars, ends⟩ seen) L ∧ Below w.heap.size w w' else HErr 1 w e w' := by
  have hsz := mayB_size hm.out
  unfold sizeOk at hsz
  dsimp only at hsz
  have hst : st ≤ 256 := by omega
  have hlen : ars.length ≤ 4096 := by omega
  have hK8 : seen.length ≤ 8 := by have := row_short (by omega) (by omega) hr.out; omega
  have hin : Hid (∀ a ∈ ars, (0 ≤ a.f ∧ a.f < (st : Int)) ∧ 0 ≤ a.t ∧ a.t < (st : Int)) := fun a ha => by
    have := may_arrs hm.out a ha
    exact ⟨⟨this.1, this.2.1⟩, this.2.2.1, this.2.2.2.1⟩
  have hbd : Hid (∀ p, p < st → ∀ n ∈ allS ((stillT seen st ars) p), n < st) := fun p hp => still_bd hm.out seen rfl hp
  have hinc : Hid (Inc seen) := ((rowB_iff _ (by omega) _).1 hr.out).1
  have HALL : Hid (layA seen st ars seen.length st 0 = hAll ⟨(st : Int), ev, starts, ars, ends⟩ seen st) := layA_all (m := ⟨(st : Int), ev, starts, ars, ends⟩) hm.out hr.out rfl
  clear hsz
  have B0 : Hid (Below w.heap.size w ((w.alloc (.cells (mcells ⟨(st : Int), ev, starts, ars, ends⟩ ⟨a1, c1, a2, c2, a3, c3⟩) 25)).alloc (.cells zcells 25))) := ((Below.refl _ _).alloc (Nat.le_refl _) _).alloc (by simp) _
  have K0 : Hid (Blk ((w.alloc (.cells (mcells ⟨(st : Int), ev, starts, ars, ends⟩ ⟨a1, c1, a2, c2, a3, c3⟩) 25)).alloc (.cells zcells 25)) w.heap.size 25 (mcells ⟨(st : Int), ev, starts, ars, ends⟩ ⟨a1, c1, a2, c2, a3, c3⟩)) := (Blk.new w _ _).alloc _
  have R0 : Hid (Blk ((w.alloc (.cells (mcells ⟨(st : Int), ev, starts, ars, ends⟩ ⟨a1, c1, a2, c2, a3, c3⟩) 25)).alloc (.cells zcells 25)) (w.heap.size + 1) 25 zcells) := by
    have := Blk.new (w.alloc (.cells (mcells ⟨(st : Int), ev, starts, ars, ends⟩ ⟨a1, c1, a2, c2, a3, c3⟩) 25)) 25 zcells
    rwa [World.size_alloc] at this
  go_enter Tryd.func30, Tryd.ntmps30
  go_wp2_with fail
  revert B0 K0 R0
  generalize (w.alloc (.cells (mcells ⟨(st : Int), ev, starts, ars, ends⟩ ⟨a1, c1, a2, c2, a3, c3⟩) 25)).alloc (.cells zcells 25) = V0
  intro B0 K0 R0
  refine (pMay_any ⟨(st : Int), ev, starts, ars, ends⟩ ⟨a1, c1, a2, c2, a3, c3⟩ _ (h.out.below B0.out (Nat.le_refl _))).mono ?_
  rintro e V ⟨rfl, hb1⟩
  have B1 := Hid.of (B0.out.trans (hb1.mono B0.out.size))
  have K1 := Hid.of (K0.out.below hb1 K0.out.lt)
  have R1 := Hid.of (R0.out.below hb1 R0.out.lt)
  clear hb1 B0 K0 R0
  rw [hm.out]
  obtain ⟨x0, x1, x2, x3, x4⟩ := mcell_at K1.out
  go_wp2_with fail
  refine (rowIs_any sa sc seen ev _ (hs.out.below B1.out (Nat.le_refl _)) hsl.out).mono ?_
  rintro e V ⟨rfl, rfl⟩
  rw [hr.out]
  go_wp2_with fail
  refine (quiet_any st ev starts ars ends a1 c1 a2 c2 a3 c3 sa sc seen V hst hlen (Hid.of ((h.out.a).below B1.out (Nat.le_refl _))) hin (Hid.of (hs.out.below B1.out (Nat.le_refl _))) hsl).mono ?_
  rintro e w2 ⟨rfl, tb2, hb2⟩
  have B2 := Hid.of (B1.out.trans (hb2.mono B1.out.size))
  have K2 := Hid.of (K1.out.below hb2 K1.out.lt)
  have R2 := Hid.of (R1.out.below hb2 R1.out.lt)
  have T2' := Hid.of tb2
  clear tb2 hb2 x0 x1 x2 x3 x4 B1 K1 R1
  obtain ⟨x0, x1, x2, x3, x4⟩ := mcell_at K2.out
  go_wp2_with fail
  refine (loud_any st ev starts ars ends a1 c1 a2 c2 a3 c3 sa sc seen (V.heap.size + 1) (stillT seen st ars) w2 hst hlen (Hid.of ((h.out.a).below B2.out (Nat.le_refl _))) hin (Hid.of (hs.out.below B2.out (Nat.le_refl _))) hK8 hinc T2' (Hid.of (okS_still seen st ars))).mono ?_
  rintro e w3 ⟨rfl, tt3, hb3⟩
  have B3 := Hid.of (B2.out.trans (hb3.mono B2.out.size))
  have K3 := Hid.of (K2.out.below hb3 K2.out.lt)
  have R3 := Hid.of (R2.out.below hb3 R2.out.lt)
  have T3 := Hid.of (T2'.out.below hb3 T2'.out.lt)
  have TT3 := Hid.of tt3
  clear tt3 hb3 x0 x1 x2 x3 x4 B2 K2 R2 T2'
  go_wp2_with fail
  refine (lay_any seen st ars seen.length hst hK8 (V.heap.size + 1) (w2.heap.size + 1) w3 (hT.out.below B3.out hT.out.lt) T3.out TT3.out hbd.out).mono ?_
  rintro e w4 ⟨hb4, hlay⟩
  rw [HALL.out] at hlay
  have B4 := Hid.of (B3.out.trans (hb4.mono B3.out.size))
  have K4 := Hid.of (K3.out.below hb4 K3.out.lt)
  have R4 := Hid.of (R3.out.below hb4 R3.out.lt)
  have T4 := Hid.of (T3.out.below hb4 T3.out.lt)
  have R3' : Hid (w.heap.size + 1 < w3.heap.size) := R3.out.lt
  clear hb4 B3 K3 R3 T3 TT3
  rcases hlay with ⟨hfit, v, rfl, hov⟩ | ⟨hfit, rfl⟩
  · have HFIT := Hid.of hfit
    obtain ⟨va, vc, rfl, va1, va2, va3, va4⟩ := hov.at
    have hst1 := Hid.of h.out.s
    have hst2 : Hid (starts.length ≤ maxLen) := Nat.le_trans h.out.s1 h.out.s2
    have hst3 : Hid (∀ x ∈ starts, 0 ≤ x ∧ x < 256) := fun x hx => by have := (may_starts hm.out).2 x hx; dsimp only at this; omega
    have hen1 := Hid.of h.out.e
    have hen2 : Hid (ends.length ≤ maxLen) := Nat.le_trans h.out.e1 h.out.e2
    have hen3 : Hid (∀ x ∈ ends, 0 ≤ x ∧ x < 256) := fun x hx => by have := (may_ends hm.out).2 x hx; dsimp only at this; omega
    have rp1 : Rep (ofS starts) starts := by
      have := rep_of hst3.out starts.length
      rwa [List.take_of_length_le (Nat.le_refl _)] at this
    have rp2 : Rep (ofS ends) ends := by
      have := rep_of hen3.out ends.length
      rwa [List.take_of_length_le (Nat.le_refl _)] at this
    have hok1 := Hid.of rp1.ok
    have hok3 := Hid.of rp2.ok
    have hok2 : Hid (okS (toF (stillT seen st ars) (allS (ofS starts)))) := ok_toF (okS_still seen st ars) _
    have hall : Hid (∀ k ∈ allS (ofS starts), k < st) := fun k hk => by
      obtain ⟨k1, k2⟩ := (mem_allS _ _).1 hk
      have := (may_starts hm.out).2 _ ((rp1.mem k k1).1 k2)
      dsimp only at this; omega
    have HSS : Hid (rowS (toF (stillT seen st ars) (allS (ofS starts))) = wideL ars seen starts) := startS_eq (m := ⟨(st : Int), ev, starts, ars, ends⟩) hm.out seen rfl
    have HEE : Hid (rowS (ofS ends) = ends) := rep_row rp2 (may_ends hm.out).1
    have hne : w.heap.size ≠ w.heap.size + 1 := by omega
    have HB0 : HIB w w4.drew ⟨(st : Int), ev, starts, ars, ends⟩ ⟨a1, c1, a2, c2, a3, c3⟩ (V.heap.size + 1) st (stillT seen st ars) va (hAll ⟨(st : Int), ev, starts, ars, ends⟩ seen st) := ⟨B4.out.drew, K4.out, R4.out, T4.out, va1, hT.out.below B4.out.drew hT.out.lt⟩
    have vf := fr_low (B' := w.heap.size + 2) hov.fr R3'.out
    clear rp1 rp2 hov va1
    go_wp2
    refine wp_region_held_drew (S := fun w' => w'.cell? ⟨w.heap.size, 0, none⟩ = some (.int .i64 st) ∧ w'.cell? ⟨w.heap.size, 2, none⟩ = some (.slice a1 starts.length c1) ∧ w'.cell? ⟨w.heap.size, 4, none⟩ = some (.slice a3 ends.length c3)) (by kernel_rfl) HB0.cells (fun hS0 => ?_)
    refine wpAnyH_take (i := 0) (v := .pointer (some ⟨w.heap.size, 0, none⟩)) rfl (by kernel_rfl) (by kernel_rfl) (by kernel_rfl) (fun _ _ _ h => h) (Or.inl ⟨by kernel_rfl, fun w' hw' => by obtain ⟨q0, q1, q2⟩ := hw'; go_simp⟩) hS0 ?_
    refine wpAnyH_take (i := 1) (v := .int .i64 st) rfl (by kernel_rfl) (by kernel_rfl) (by kernel_rfl) (fun _ _ _ h => h) (Or.inl ⟨by kernel_rfl, fun w' hw' => by obtain ⟨q0, q1, q2⟩ := hw'; go_simp⟩) hS0 ?_
    refine wpAnyH_take (i := 2) (v := .slice sa seen.length sc) rfl (by kernel_rfl) (by kernel_rfl) (by kernel_rfl) (fun _ _ _ h => h) (Or.inl ⟨by kernel_rfl, fun w' hw' => by obtain ⟨q0, q1, q2⟩ := hw'; go_simp⟩) hS0 ?_
    refine wpAnyH_take (i := 3) (v := .int .i64 seen.length) rfl (by kernel_rfl) (by kernel_rfl) (by kernel_rfl) (fun _ _ _ h => h) (Or.inl ⟨by kernel_rfl, fun w' hw' => by obtain ⟨q0, q1, q2⟩ := hw'; go_simp⟩) hS0 ?_
    refine wpAnyH_take (i := 4) (v := .pointer (some ⟨w.heap.size, 2, none⟩)) rfl (by kernel_rfl) (by kernel_rfl) (by kernel_rfl) (fun _ _ _ h => h) (Or.inl ⟨by kernel_rfl, fun w' hw' => by obtain ⟨q0, q1, q2⟩ := hw'; go_simp⟩) hS0 ?_
    refine wpAnyH_take (i := 5) (v := .slice a1 starts.length c1) rfl (by kernel_rfl) (by kernel_rfl) (by kernel_rfl) (fun _ _ _ h => h) (Or.inl ⟨by kernel_rfl, fun w' hw' => by obtain ⟨q0, q1, q2⟩ := hw'; go_simp⟩) hS0 ?_
    refine wpAnyH_take (i := 7) (v := .slice (some ⟨V.heap.size + 1, 0, none⟩) st st) rfl (by kernel_rfl) (by kernel_rfl) (by kernel_rfl) (fun _ _ _ h => h) (Or.inl ⟨by kernel_rfl, fun w' hw' => by obtain ⟨q0, q1, q2⟩ := hw'; go_simp⟩) hS0 ?_
    refine wpAnyH_take (i := 10) (v := .slice va (hAll ⟨(st : Int), ev, starts, ars, ends⟩ seen st).length vc) rfl (by kernel_rfl) (by kernel_rfl) (by kernel_rfl) (fun _ _ _ h => h) (Or.inl ⟨by kernel_rfl, fun w' hw' => by obtain ⟨q0, q1, q2⟩ := hw'; go_simp⟩) hS0 ?_
    refine wpAnyH_take (i := 11) (v := .pointer (some ⟨w.heap.size, 4, none⟩)) rfl (by kernel_rfl) (by kernel_rfl) (by kernel_rfl) (fun _ _ _ h => h) (Or.inl ⟨by kernel_rfl, fun w' hw' => by obtain ⟨q0, q1, q2⟩ := hw'; go_simp⟩) hS0 ?_
    refine wpAnyH_take (i := 12) (v := .slice a3 ends.length c3) rfl (by kernel_rfl) (by kernel_rfl) (by kernel_rfl) (fun _ _ _ h => h) (Or.inl ⟨by kernel_rfl, fun w' hw' => by obtain ⟨q0, q1, q2⟩ := hw'; go_simp⟩) hS0 ?_
    simp only [Act.put, List.setIfInBounds_toArray]
    refine wpAnyH_ready (rs := [6]) (by kernel_rfl) (by simp) ?_
    refine AllReadyH.cons rfl (fun K' hK' => ?_) AllReadyH.nil
    · go_simp
      refine (of_any a1 c1 starts _ (hst1.out.below HB0.bel (Nat.le_refl _)) hst2.out hst3.out).mono ?_
      rintro e X1 ⟨rfl, hb1⟩
      have HB1 := HB0.below hb1
      refine hK'.out _ _ HB1.cells (fun hS1 => ?_)
      clear hK' K' hb1
      refine wpAnyH_ready (rs := [8]) (by kernel_rfl) (by simp) ?_
      refine AllReadyH.cons rfl (fun K' hK' => ?_) AllReadyH.nil
      · go_simp
        refine (union_any (ofS starts) hok1.out st (stillT seen st ars) (okS_still seen st ars) hall.out hst (V.heap.size + 1) _ HB1.tab HB1.tb).mono ?_
        rintro e X2 ⟨rfl, hb2⟩
        have HB2 := HB1.below hb2
        refine hK'.out _ _ HB2.cells (fun hS2 => ?_)
        clear hK' K' hb2
        refine wpAnyH_ready (rs := [9]) (by kernel_rfl) (by simp) ?_
        refine AllReadyH.cons rfl (fun K' hK' => ?_) AllReadyH.nil
        · go_simp
          refine (rowO_any (toF (stillT seen st ars) (allS (ofS starts))) _ hok2.out HB2.tab).mono ?_
          rintro e X3 ⟨sv, rfl, so, hb3⟩
          rw [HSS.out] at so
          obtain ⟨sx, sy, rfl, s1, s2, s3, s4⟩ := so.at2
          have sf := fr_low (B' := w.heap.size + 2) so.fr HB2.rb.lt
          have HB3 := HB2.below hb3
          refine hK'.out _ _ HB3.cells (fun hS3 => ?_)
          clear hK' K' hb3
          refine wpAnyH_ready (rs := [13]) (by kernel_rfl) (by simp) ?_
          refine AllReadyH.cons rfl (fun K' hK' => ?_) AllReadyH.nil
          · go_simp
            refine (of_any a3 c3 ends _ (hen1.out.below HB3.bel (Nat.le_refl _)) hen2.out hen3.out).mono ?_
            rintro e X4 ⟨rfl, hb4⟩
            have HB4 := HB3.below hb4
            replace s1 := s1.below hb4 (Nat.le_refl _)
            refine hK'.out _ _ HB4.cells (fun hS4 => ?_)
            clear hK' K' hb4
            refine wpAnyH_ready (rs := [14]) (by kernel_rfl) (by simp) ?_
            refine AllReadyH.cons rfl (fun K' hK' => ?_) AllReadyH.nil
            · go_simp
              refine (rowO_any (ofS ends) _ hok3.out HB4.tab).mono ?_
              rintro e X5 ⟨ev', rfl, eo, hb5⟩
              rw [HEE.out] at eo
              obtain ⟨ex, ey, rfl, e1, e2, e3, e4⟩ := eo.at2
              have ef := fr_low (B' := w.heap.size + 2) eo.fr HB4.rb.lt
              have HB5 := HB4.below hb5
              replace s1 := s1.below hb5 (Nat.le_refl _)
              refine hK'.out _ _ HB5.cells (fun hS5 => ?_)
              clear hK' K' hb5
              refine wpAnyH_take (i := 15) (v := .agg #[.int .i64 st, .int .i64 seen.length, .slice sx (wideL ars seen starts).length sy, .slice va (hAll ⟨(st : Int), ev, starts, ars, ends⟩ seen st).length vc, .slice ex ends.length ey]) rfl (by kernel_rfl) (by kernel_rfl) (by kernel_rfl) (fun _ _ _ h => h) (Or.inl ⟨by kernel_rfl, fun w' hw' => by obtain ⟨q0, q1, q2⟩ := hw'; go_simp⟩) hS5 ?_
              refine wpAnyH_ready (rs := [16]) (by kernel_rfl) (by simp) ?_
              refine AllReadyH.cons rfl (fun K' hK' => ?_) AllReadyH.nil
              obtain ⟨r0, r1, r2, r3, r4⟩ := zcell_at HB5.rb
              have rz := HB5.rb.frozen
              go_simp
              have KK := ((((HB5.kb.other hne (j := 0) (.int .i64 st)).other hne (j := 1) (.int .i64 seen.length)).other hne (j := 2) (.slice sx (wideL ars seen starts).length sy)).other hne (j := 3) (.slice va (hAll ⟨(st : Int), ev, starts, ars, ends⟩ seen st).length vc)).other hne (j := 4) (.slice ex ends.length ey)
              refine hK'.out _ _ ⟨KK.cell 0 rfl, KK.cell 2 rfl, KK.cell 4 rfl⟩ (fun hSZ => ?_)
              clear hK' K' r0 r1 r2 r3 r4 rz
              refine wpAnyH_take (i := 17) (v := .int .i64 0) rfl (by kernel_rfl) (by kernel_rfl) (by kernel_rfl) (fun _ _ _ h => h) (Or.inl ⟨by kernel_rfl, fun w' hw' => by obtain ⟨q0, q1, q2⟩ := hw'; go_simp⟩) hSZ ?_
              refine wpAnyH_done (by kernel_rfl) ?_ _
              have RR : Hid (Blk _ (w.heap.size + 1) 25 (mcells (hideM ⟨(st : Int), ev, starts, ars, ends⟩ seen) ⟨sx, sy, va, vc, ex, ey⟩)) := HB5.rb.set5 (.int .i64 st) (.int .i64 seen.length) (.slice sx (wideL ars seen starts).length sy) (.slice va (hAll ⟨(st : Int), ev, starts, ars, ends⟩ seen st).length vc) (.slice ex ends.length ey)
              have BF := Hid.of (below_set5 HB5.bel (b' := w.heap.size + 1) (by omega) (.int .i64 st) (.int .i64 seen.length) (.slice sx (wideL ars seen starts).length sy) (.slice va (hAll ⟨(st : Int), ev, starts, ars, ends⟩ seen st).length vc) (.slice ex ends.length ey))
              have MX : MAt X5 (hideM ⟨(st : Int), ev, starts, ars, ends⟩ seen) ⟨sx, sy, va, vc, ex, ey⟩ := ⟨s1, HB5.ar, e1, s2, s3, s4, va2, va3, va4, e2, e3, e4⟩
              have FX : FrM (w.heap.size + 2) (hideM ⟨(st : Int), ev, starts, ars, ends⟩ seen) ⟨sx, sy, va, vc, ex, ey⟩ := ⟨sf, vf, ef⟩
              have MF := Hid.of (MX.set5 (b := w.heap.size + 1) FX (by omega) (.int .i64 st) (.int .i64 seen.length) (.slice sx (wideL ars seen starts).length sy) (.slice va (hAll ⟨(st : Int), ev, starts, ars, ends⟩ seen st).length vc) (.slice ex ends.length ey))
              clear MX FX
              clear KK hSZ
              go_wp2
              refine bodyPost_ret (v := .tuple #[mval (hideM ⟨(st : Int), ev, starts, ars, ends⟩ seen) ⟨sx, sy, va, vc, ex, ey⟩, .int .i64 0]) ?_ rfl ?_
              · exact results_twoM (p := 4) (u := 5) rfl _ _ (w.heap.size + 1) (hideM ⟨(st : Int), ev, starts, ars, ends⟩ seen) ⟨sx, sy, va, vc, ex, ey⟩ _ rfl rfl RR.out
              · first | exact ⟨_, rfl, MF.out, BF.out⟩ | (rw [if_pos HFIT.out]; exact ⟨_, rfl, MF.out, BF.out⟩)
  · have HFIT := Hid.of hfit
    obtain ⟨r0, r1, r2, r3, r4⟩ := zcell_at R4.out
    have rz := R4.out.frozen
    have RR : Hid (Blk _ (w.heap.size + 1) 25 (mcells m0 ml0)) := R4.out.set5 (.int .i64 0) (.int .i64 0) (.slice none 0 0) (.slice none 0 0) (.slice none 0 0)
    go_wp2
    refine bodyPost_ret (v := .tuple #[mval m0 ml0, .int .i64 1]) ?_ rfl ?_
    · exact results_twoM (p := 4) (u := 5) rfl _ _ (w.heap.size + 1) m0 ml0 _ rfl rfl RR.out
    · exact ⟨rfl, below_set5 B4.out (b' := w.heap.size + 1) (by omega) _ _ _ _ _⟩

end Go.Proofs.YtbdkaobbfmgnhaaDoor
