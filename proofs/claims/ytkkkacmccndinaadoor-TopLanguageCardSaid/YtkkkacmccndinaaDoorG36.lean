/-
  The walk of hide.Hide.
  hide.Hide, whatever comes in.
  Plain: what is seen of a machine hangs on its language alone. No program, no model.
  The walk of the law TopLanguage.
-/
import Derived.Test.YtkkkacmccndinaaDoorG35
import Derived.Test.YtkkkacmccndinaaDoorG33
import Derived.Test.YtkkkacmccndinaaDoorG27
import Derived.Test.YtkkkacmccndinaaDoorG11
import Derived.Test.YtkkkacmccndinaaDoorG13
import Derived.Test.YtkkkacmccndinaaDoorG07
import Derived.Test.YtkkkacmccndinaaDoorG19
import Derived.Test.YtkkkacmccndinaaDoorG31
import Derived.Test.YtkkkacmccndinaaDoorG08
import Derived.Test.YtkkkacmccndinaaDoorG15
import Derived.Test.YtkkkacmccndinaaDoorCRefMay
namespace Go.Proofs.YtkkkacmccndinaaDoor
open Go.RowKit
set_option linter.unusedVariables false

set_option maxRecDepth 100000 in
set_option maxHeartbeats 4000000 in
theorem hide_err (m : Mach) (l : ML) (sa : Option Addr) (sc : Nat) (seen : List Int) (w : World) (h : Hid (MAt w m l)) (hs : Hid (At w sa seen)) (hsl : Hid (seen.length ≤ maxLen)) (hbad : Hid (mayB m = false ∨ rowB m.ev seen = false)) :
    Calls Tryd.prog 26 #[mval m l, .slice sa seen.length sc] w fun e w' => HErr 2 w e w' := by
  have B0 : Hid (Below w.heap.size w ((w.alloc (.cells (mcells m l) 25)).alloc (.cells zcells 25))) := ((Below.refl _ _).alloc (Nat.le_refl _) _).alloc (by simp) _
  have K0 : Hid (Blk ((w.alloc (.cells (mcells m l) 25)).alloc (.cells zcells 25)) w.heap.size 25 (mcells m l)) := (Blk.new w _ _).alloc _
  have R0 : Hid (Blk ((w.alloc (.cells (mcells m l) 25)).alloc (.cells zcells 25)) (w.heap.size + 1) 25 zcells) := by
    have := Blk.new (w.alloc (.cells (mcells m l) 25)) 25 zcells
    rwa [World.size_alloc] at this
  go_enter Tryd.func26, Tryd.ntmps26
  go_wp2_with fail
  revert B0 K0 R0
  generalize (w.alloc (.cells (mcells m l) 25)).alloc (.cells zcells 25) = V0
  intro B0 K0 R0
  refine (pMay_any m l _ (h.out.below B0.out (Nat.le_refl _))).mono ?_
  rintro e V ⟨rfl, hb1⟩
  have B1 := Hid.of (B0.out.trans (hb1.mono B0.out.size))
  have K1 := Hid.of (K0.out.below hb1 K0.out.lt)
  have R1 := Hid.of (R0.out.below hb1 R0.out.lt)
  clear hb1 B0 K0 R0
  obtain ⟨r0, r1, r2, r3, r4⟩ := zcell_at R1.out
  have rz := R1.out.frozen
  have RR : Hid (Blk _ (w.heap.size + 1) 25 (mcells m0 ml0)) := R1.out.set5 (.int .i64 0) (.int .i64 0) (.slice none 0 0) (.slice none 0 0) (.slice none 0 0)
  cases hm : mayB m with
  | false =>
    clear hbad hm
    go_wp2
    refine bodyPost_ret (v := .tuple #[mval m0 ml0, .int .i64 2]) ?_ rfl ?_
    · exact results_twoM (p := 4) (u := 5) rfl _ _ (w.heap.size + 1) m0 ml0 _ rfl rfl RR.out
    · exact ⟨rfl, below_set5 B1.out (b' := w.heap.size + 1) (by omega) _ _ _ _ _⟩
  | true =>
    have hr : rowB m.ev seen = false := by
      rcases hbad.out with h | h
      · rw [hm] at h; cases h
      · exact h
    have x1 : V.cell? ⟨w.heap.size, 1, none⟩ = some (.int .i64 m.ev) := K1.out.cell 1 rfl
    clear hbad hm
    go_wp2_with fail
    refine (rowIs_any sa sc seen m.ev _ (hs.out.below B1.out (Nat.le_refl _)) hsl.out).mono ?_
    rintro e V' ⟨rfl, rfl⟩
    rw [hr]
    clear hr
    go_wp2
    refine bodyPost_ret (v := .tuple #[mval m0 ml0, .int .i64 2]) ?_ rfl ?_
    · exact results_twoM (p := 4) (u := 5) rfl _ _ (w.heap.size + 1) m0 ml0 _ rfl rfl RR.out
    · exact ⟨rfl, below_set5 B1.out (b' := w.heap.size + 1) (by omega) _ _ _ _ _⟩

theorem still_bd {m : Mach} (hm : mayB m = true) (seen : List Int) {N : Nat} (hN : m.st = (N : Int)) {p : Nat} (hp : p < N) : ∀ n ∈ allS (stillT seen N m.arrows p), n < N := fun n hn => by
  have := rch_bd (n := (N : Int)) (fun x hx => by have : x = (p : Int) := by simpa using hx
                                                  omega) (fun a ha => by have := may_arrs hm a ((mem_unseen _ _ _).1 ha).1
                                                                         rw [hN] at this; exact ⟨this.2.2.1, this.2.2.2.1⟩) ((has_still hm seen hN hp).1 ((mem_allS _ _).1 hn).2)
  omega
theorem fr_low {α : Type} {B B' : Nat} {a : Option Addr} {xs : List α} (h : xs = [] ∨ ∃ b off, a = some ⟨b, off, none⟩ ∧ B ≤ b) (hB : B' ≤ B) : xs = [] ∨ ∃ b off, a = some ⟨b, off, none⟩ ∧ B' ≤ b := by
  rcases h with h | ⟨b, off, h, h'⟩
  · exact .inl h
  · exact .inr ⟨b, off, h, Nat.le_trans hB h'⟩
/-- What Hide knows of the memory behind lay. -/
structure HIB (w W : World) (m : Mach) (l : ML) (pg N : Nat) (T : Nat → Nat → Nat) (va : Option Addr) (A : List Arr) : Prop where
  bel : Below w.heap.size w W
  kb : Blk W w.heap.size 25 (mcells m l)
  rb : Blk W (w.heap.size + 1) 25 zcells
  tb : TB W pg N T
  ar : AtA W va A
  tab : Tab W
theorem HIB.below {w W W' : World} {m : Mach} {l : ML} {pg N : Nat} {T : Nat → Nat → Nat} {va : Option Addr} {A : List Arr} (h : HIB w W m l pg N T va A) (hb : Below W.heap.size W W') : HIB w W' m l pg N T va A :=
  ⟨h.bel.trans (hb.mono h.bel.size), h.kb.below hb h.kb.lt, h.rb.below hb h.rb.lt, h.tb.below hb h.tb.lt, h.ar.below hb (Nat.le_refl _), h.tab.below hb h.tab.lt⟩
theorem HIB.cells {w W : World} {m : Mach} {l : ML} {pg N : Nat} {T : Nat → Nat → Nat} {va : Option Addr} {A : List Arr} (h : HIB w W m l pg N T va A) : W.cell? ⟨w.heap.size, 0, none⟩ = some (.int .i64 m.st) ∧ W.cell? ⟨w.heap.size, 2, none⟩ = some (.slice l.a1 m.starts.length l.c1) ∧ W.cell? ⟨w.heap.size, 4, none⟩ = some (.slice l.a3 m.ends.length l.c3) :=
  ⟨h.kb.cell 0 rfl, h.kb.cell 2 rfl, h.kb.cell 4 rfl⟩

set_option maxRecDepth 100000 in
set_option maxHeartbeats 8000000 in
theorem hide_ok (st : Nat) (ev : Int) (starts : List Int) (ars : List Arr) (ends : List Int) (a1 : Option Addr) (c1 : Nat) (a2 : Option Addr) (c2 : Nat) (a3 : Option Addr) (c3 : Nat) (sa : Option Addr) (sc : Nat) (seen : List Int) (w : World) (h : Hid (MAt w ⟨(st : Int), ev, starts, ars, ends⟩ ⟨a1, c1, a2, c2, a3, c3⟩)) (hs : Hid (At w sa seen)) (hsl : Hid (seen.length ≤ maxLen)) (hm : Hid (mayB ⟨(st : Int), ev, starts, ars, ends⟩ = true)) (hr : Hid (rowB ev seen = true)) (hT : Hid (Tab w)) :
    Calls Tryd.prog 26 #[mval ⟨(st : Int), ev, starts, ars, ends⟩ ⟨a1, c1, a2, c2, a3, c3⟩, .slice sa seen.length sc] w fun e w' => if (hAll ⟨(st : Int), ev, starts, ars, ends⟩ seen st).length ≤ 4096 then ∃ L, e = .returned (.tuple #[mval (hideM ⟨(st : Int), ev, starts, ars, ends⟩ seen) L, .int .i64 0]) ∧ MAt w' (hideM ⟨(st : Int), ev, starts, ars, ends⟩ seen) L ∧ Below w.heap.size w w' else HErr 1 w e w' := by
  have hsz := mayB_size hm.out
  unfold sizeOk at hsz
  dsimp only at hsz
  have hst : st ≤ 256 := by omega
  have hlen : ars.length ≤ 4096 := by omega
  have hK8 : seen.length ≤ 8 := by have := row_short (by omega) (by omega) hr.out; omega
  have hin : Hid (∀ a ∈ ars, (0 ≤ a.f ∧ a.f < (st : Int)) ∧ 0 ≤ a.t ∧ a.t < (st : Int)) := fun a ha => by
    have := may_arrs hm.out a ha
    exact ⟨⟨this.1, this.2.1⟩, this.2.2.1, this.2.2.2.1⟩
  have hbd : Hid (∀ p, p < st → ∀ n ∈ allS ((stillT seen st ars) p), n < st) := fun p hp => still_bd hm.out seen rfl hp
  have hinc : Hid (Inc seen) := ((rowB_iff _ (by omega) _).1 hr.out).1
  have HALL : Hid (layA seen st ars seen.length st 0 = hAll ⟨(st : Int), ev, starts, ars, ends⟩ seen st) := layA_all (m := ⟨(st : Int), ev, starts, ars, ends⟩) hm.out hr.out rfl
  clear hsz
  have B0 : Hid (Below w.heap.size w ((w.alloc (.cells (mcells ⟨(st : Int), ev, starts, ars, ends⟩ ⟨a1, c1, a2, c2, a3, c3⟩) 25)).alloc (.cells zcells 25))) := ((Below.refl _ _).alloc (Nat.le_refl _) _).alloc (by simp) _
  have K0 : Hid (Blk ((w.alloc (.cells (mcells ⟨(st : Int), ev, starts, ars, ends⟩ ⟨a1, c1, a2, c2, a3, c3⟩) 25)).alloc (.cells zcells 25)) w.heap.size 25 (mcells ⟨(st : Int), ev, starts, ars, ends⟩ ⟨a1, c1, a2, c2, a3, c3⟩)) := (Blk.new w _ _).alloc _
  have R0 : Hid (Blk ((w.alloc (.cells (mcells ⟨(st : Int), ev, starts, ars, ends⟩ ⟨a1, c1, a2, c2, a3, c3⟩) 25)).alloc (.cells zcells 25)) (w.heap.size + 1) 25 zcells) := by
    have := Blk.new (w.alloc (.cells (mcells ⟨(st : Int), ev, starts, ars, ends⟩ ⟨a1, c1, a2, c2, a3, c3⟩) 25)) 25 zcells
    rwa [World.size_alloc] at this
  go_enter Tryd.func26, Tryd.ntmps26
  go_wp2_with fail
  revert B0 K0 R0
  generalize (w.alloc (.cells (mcells ⟨(st : Int), ev, starts, ars, ends⟩ ⟨a1, c1, a2, c2, a3, c3⟩) 25)).alloc (.cells zcells 25) = V0
  intro B0 K0 R0
  refine (pMay_any ⟨(st : Int), ev, starts, ars, ends⟩ ⟨a1, c1, a2, c2, a3, c3⟩ _ (h.out.below B0.out (Nat.le_refl _))).mono ?_
  rintro e V ⟨rfl, hb1⟩
  have B1 := Hid.of (B0.out.trans (hb1.mono B0.out.size))
  have K1 := Hid.of (K0.out.below hb1 K0.out.lt)
  have R1 := Hid.of (R0.out.below hb1 R0.out.lt)
  clear hb1 B0 K0 R0
  rw [hm.out]
  obtain ⟨x0, x1, x2, x3, x4⟩ := mcell_at K1.out
  go_wp2_with fail
  refine (rowIs_any sa sc seen ev _ (hs.out.below B1.out (Nat.le_refl _)) hsl.out).mono ?_
  rintro e V ⟨rfl, rfl⟩
  rw [hr.out]
  go_wp2_with fail
  refine (quiet_any st ev starts ars ends a1 c1 a2 c2 a3 c3 sa sc seen V hst hlen (Hid.of ((h.out.a).below B1.out (Nat.le_refl _))) hin (Hid.of (hs.out.below B1.out (Nat.le_refl _))) hsl).mono ?_
  rintro e w2 ⟨rfl, tb2, hb2⟩
  have B2 := Hid.of (B1.out.trans (hb2.mono B1.out.size))
  have K2 := Hid.of (K1.out.below hb2 K1.out.lt)
  have R2 := Hid.of (R1.out.below hb2 R1.out.lt)
  have T2' := Hid.of tb2
  clear tb2 hb2 x0 x1 x2 x3 x4 B1 K1 R1
  obtain ⟨x0, x1, x2, x3, x4⟩ := mcell_at K2.out
  go_wp2_with fail
  refine (loud_any st ev starts ars ends a1 c1 a2 c2 a3 c3 sa sc seen (V.heap.size + 1) (stillT seen st ars) w2 hst hlen (Hid.of ((h.out.a).below B2.out (Nat.le_refl _))) hin (Hid.of (hs.out.below B2.out (Nat.le_refl _))) hK8 hinc T2' (Hid.of (okS_still seen st ars))).mono ?_
  rintro e w3 ⟨rfl, tt3, hb3⟩
  have B3 := Hid.of (B2.out.trans (hb3.mono B2.out.size))
  have K3 := Hid.of (K2.out.below hb3 K2.out.lt)
  have R3 := Hid.of (R2.out.below hb3 R2.out.lt)
  have T3 := Hid.of (T2'.out.below hb3 T2'.out.lt)
  have TT3 := Hid.of tt3
  clear tt3 hb3 x0 x1 x2 x3 x4 B2 K2 R2 T2'
  go_wp2_with fail
  refine (lay_any seen st ars seen.length hst hK8 (V.heap.size + 1) (w2.heap.size + 1) w3 (hT.out.below B3.out hT.out.lt) T3.out TT3.out hbd.out).mono ?_
  rintro e w4 ⟨hb4, hlay⟩
  rw [HALL.out] at hlay
  have B4 := Hid.of (B3.out.trans (hb4.mono B3.out.size))
  have K4 := Hid.of (K3.out.below hb4 K3.out.lt)
  have R4 := Hid.of (R3.out.below hb4 R3.out.lt)
  have T4 := Hid.of (T3.out.below hb4 T3.out.lt)
  have R3' : Hid (w.heap.size + 1 < w3.heap.size) := R3.out.lt
  clear hb4 B3 K3 R3 T3 TT3
  rcases hlay with ⟨hfit, v, rfl, hov⟩ | ⟨hfit, rfl⟩
  · have HFIT := Hid.of hfit
    obtain ⟨va, vc, rfl, va1, va2, va3, va4⟩ := hov.at
    have hst1 := Hid.of h.out.s
    have hst2 : Hid (starts.length ≤ maxLen) := Nat.le_trans h.out.s1 h.out.s2
    have hst3 : Hid (∀ x ∈ starts, 0 ≤ x ∧ x < 256) := fun x hx => by have := (may_starts hm.out).2 x hx; dsimp only at this; omega
    have hen1 := Hid.of h.out.e
    have hen2 : Hid (ends.length ≤ maxLen) := Nat.le_trans h.out.e1 h.out.e2
    have hen3 : Hid (∀ x ∈ ends, 0 ≤ x ∧ x < 256) := fun x hx => by have := (may_ends hm.out).2 x hx; dsimp only at this; omega
    have rp1 : Rep (ofS starts) starts := by
      have := rep_of hst3.out starts.length
      rwa [List.take_of_length_le (Nat.le_refl _)] at this
    have rp2 : Rep (ofS ends) ends := by
      have := rep_of hen3.out ends.length
      rwa [List.take_of_length_le (Nat.le_refl _)] at this
    have hok1 := Hid.of rp1.ok
    have hok3 := Hid.of rp2.ok
    have hok2 : Hid (okS (toF (stillT seen st ars) (allS (ofS starts)))) := ok_toF (okS_still seen st ars) _
    have hall : Hid (∀ k ∈ allS (ofS starts), k < st) := fun k hk => by
      obtain ⟨k1, k2⟩ := (mem_allS _ _).1 hk
      have := (may_starts hm.out).2 _ ((rp1.mem k k1).1 k2)
      dsimp only at this; omega
    have HSS : Hid (rowS (toF (stillT seen st ars) (allS (ofS starts))) = wideL ars seen starts) := startS_eq (m := ⟨(st : Int), ev, starts, ars, ends⟩) hm.out seen rfl
    have HEE : Hid (rowS (ofS ends) = ends) := rep_row rp2 (may_ends hm.out).1
    have hne : w.heap.size ≠ w.heap.size + 1 := by omega
    have HB0 : HIB w w4.drew ⟨(st : Int), ev, starts, ars, ends⟩ ⟨a1, c1, a2, c2, a3, c3⟩ (V.heap.size + 1) st (stillT seen st ars) va (hAll ⟨(st : Int), ev, starts, ars, ends⟩ seen st) := ⟨B4.out.drew, K4.out, R4.out, T4.out, va1, hT.out.below B4.out.drew hT.out.lt⟩
    have vf := fr_low (B' := w.heap.size + 2) hov.fr R3'.out
    clear rp1 rp2 hov va1
    go_wp2
    refine wp_region_held_drew (S := fun w' => w'.cell? ⟨w.heap.size, 0, none⟩ = some (.int .i64 st) ∧ w'.cell? ⟨w.heap.size, 2, none⟩ = some (.slice a1 starts.length c1) ∧ w'.cell? ⟨w.heap.size, 4, none⟩ = some (.slice a3 ends.length c3)) (by kernel_rfl) HB0.cells (fun hS0 => ?_)
    refine wpAnyH_take (i := 0) (v := .pointer (some ⟨w.heap.size, 0, none⟩)) rfl (by kernel_rfl) (by kernel_rfl) (by kernel_rfl) (fun _ _ _ h => h) (Or.inl ⟨by kernel_rfl, fun w' hw' => by obtain ⟨q0, q1, q2⟩ := hw'; go_simp⟩) hS0 ?_
    refine wpAnyH_take (i := 1) (v := .int .i64 st) rfl (by kernel_rfl) (by kernel_rfl) (by kernel_rfl) (fun _ _ _ h => h) (Or.inl ⟨by kernel_rfl, fun w' hw' => by obtain ⟨q0, q1, q2⟩ := hw'; go_simp⟩) hS0 ?_
    refine wpAnyH_take (i := 2) (v := .slice sa seen.length sc) rfl (by kernel_rfl) (by kernel_rfl) (by kernel_rfl) (fun _ _ _ h => h) (Or.inl ⟨by kernel_rfl, fun w' hw' => by obtain ⟨q0, q1, q2⟩ := hw'; go_simp⟩) hS0 ?_
    refine wpAnyH_take (i := 3) (v := .int .i64 seen.length) rfl (by kernel_rfl) (by kernel_rfl) (by kernel_rfl) (fun _ _ _ h => h) (Or.inl ⟨by kernel_rfl, fun w' hw' => by obtain ⟨q0, q1, q2⟩ := hw'; go_simp⟩) hS0 ?_
    refine wpAnyH_take (i := 4) (v := .pointer (some ⟨w.heap.size, 2, none⟩)) rfl (by kernel_rfl) (by kernel_rfl) (by kernel_rfl) (fun _ _ _ h => h) (Or.inl ⟨by kernel_rfl, fun w' hw' => by obtain ⟨q0, q1, q2⟩ := hw'; go_simp⟩) hS0 ?_
    refine wpAnyH_take (i := 5) (v := .slice a1 starts.length c1) rfl (by kernel_rfl) (by kernel_rfl) (by kernel_rfl) (fun _ _ _ h => h) (Or.inl ⟨by kernel_rfl, fun w' hw' => by obtain ⟨q0, q1, q2⟩ := hw'; go_simp⟩) hS0 ?_
    refine wpAnyH_take (i := 7) (v := .slice (some ⟨V.heap.size + 1, 0, none⟩) st st) rfl (by kernel_rfl) (by kernel_rfl) (by kernel_rfl) (fun _ _ _ h => h) (Or.inl ⟨by kernel_rfl, fun w' hw' => by obtain ⟨q0, q1, q2⟩ := hw'; go_simp⟩) hS0 ?_
    refine wpAnyH_take (i := 10) (v := .slice va (hAll ⟨(st : Int), ev, starts, ars, ends⟩ seen st).length vc) rfl (by kernel_rfl) (by kernel_rfl) (by kernel_rfl) (fun _ _ _ h => h) (Or.inl ⟨by kernel_rfl, fun w' hw' => by obtain ⟨q0, q1, q2⟩ := hw'; go_simp⟩) hS0 ?_
    refine wpAnyH_take (i := 11) (v := .pointer (some ⟨w.heap.size, 4, none⟩)) rfl (by kernel_rfl) (by kernel_rfl) (by kernel_rfl) (fun _ _ _ h => h) (Or.inl ⟨by kernel_rfl, fun w' hw' => by obtain ⟨q0, q1, q2⟩ := hw'; go_simp⟩) hS0 ?_
    refine wpAnyH_take (i := 12) (v := .slice a3 ends.length c3) rfl (by kernel_rfl) (by kernel_rfl) (by kernel_rfl) (fun _ _ _ h => h) (Or.inl ⟨by kernel_rfl, fun w' hw' => by obtain ⟨q0, q1, q2⟩ := hw'; go_simp⟩) hS0 ?_
    simp only [Act.put, List.setIfInBounds_toArray]
    refine wpAnyH_ready (rs := [6]) (by kernel_rfl) (by simp) ?_
    refine AllReadyH.cons rfl (fun K' hK' => ?_) AllReadyH.nil
    · go_simp
      refine (of_any a1 c1 starts _ (hst1.out.below HB0.bel (Nat.le_refl _)) hst2.out hst3.out).mono ?_
      rintro e X1 ⟨rfl, hb1⟩
      have HB1 := HB0.below hb1
      refine hK'.out _ _ HB1.cells (fun hS1 => ?_)
      clear hK' K' hb1
      refine wpAnyH_ready (rs := [8]) (by kernel_rfl) (by simp) ?_
      refine AllReadyH.cons rfl (fun K' hK' => ?_) AllReadyH.nil
      · go_simp
        refine (union_any (ofS starts) hok1.out st (stillT seen st ars) (okS_still seen st ars) hall.out hst (V.heap.size + 1) _ HB1.tab HB1.tb).mono ?_
        rintro e X2 ⟨rfl, hb2⟩
        have HB2 := HB1.below hb2
        refine hK'.out _ _ HB2.cells (fun hS2 => ?_)
        clear hK' K' hb2
        refine wpAnyH_ready (rs := [9]) (by kernel_rfl) (by simp) ?_
        refine AllReadyH.cons rfl (fun K' hK' => ?_) AllReadyH.nil
        · go_simp
          refine (rowO_any (toF (stillT seen st ars) (allS (ofS starts))) _ hok2.out HB2.tab).mono ?_
          rintro e X3 ⟨sv, rfl, so, hb3⟩
          rw [HSS.out] at so
          obtain ⟨sx, sy, rfl, s1, s2, s3, s4⟩ := so.at2
          have sf := fr_low (B' := w.heap.size + 2) so.fr HB2.rb.lt
          have HB3 := HB2.below hb3
          refine hK'.out _ _ HB3.cells (fun hS3 => ?_)
          clear hK' K' hb3
          refine wpAnyH_ready (rs := [13]) (by kernel_rfl) (by simp) ?_
          refine AllReadyH.cons rfl (fun K' hK' => ?_) AllReadyH.nil
          · go_simp
            refine (of_any a3 c3 ends _ (hen1.out.below HB3.bel (Nat.le_refl _)) hen2.out hen3.out).mono ?_
            rintro e X4 ⟨rfl, hb4⟩
            have HB4 := HB3.below hb4
            replace s1 := s1.below hb4 (Nat.le_refl _)
            refine hK'.out _ _ HB4.cells (fun hS4 => ?_)
            clear hK' K' hb4
            refine wpAnyH_ready (rs := [14]) (by kernel_rfl) (by simp) ?_
            refine AllReadyH.cons rfl (fun K' hK' => ?_) AllReadyH.nil
            · go_simp
              refine (rowO_any (ofS ends) _ hok3.out HB4.tab).mono ?_
              rintro e X5 ⟨ev', rfl, eo, hb5⟩
              rw [HEE.out] at eo
              obtain ⟨ex, ey, rfl, e1, e2, e3, e4⟩ := eo.at2
              have ef := fr_low (B' := w.heap.size + 2) eo.fr HB4.rb.lt
              have HB5 := HB4.below hb5
              replace s1 := s1.below hb5 (Nat.le_refl _)
              refine hK'.out _ _ HB5.cells (fun hS5 => ?_)
              clear hK' K' hb5
              refine wpAnyH_take (i := 15) (v := .agg #[.int .i64 st, .int .i64 seen.length, .slice sx (wideL ars seen starts).length sy, .slice va (hAll ⟨(st : Int), ev, starts, ars, ends⟩ seen st).length vc, .slice ex ends.length ey]) rfl (by kernel_rfl) (by kernel_rfl) (by kernel_rfl) (fun _ _ _ h => h) (Or.inl ⟨by kernel_rfl, fun w' hw' => by obtain ⟨q0, q1, q2⟩ := hw'; go_simp⟩) hS5 ?_
              refine wpAnyH_ready (rs := [16]) (by kernel_rfl) (by simp) ?_
              refine AllReadyH.cons rfl (fun K' hK' => ?_) AllReadyH.nil
              obtain ⟨r0, r1, r2, r3, r4⟩ := zcell_at HB5.rb
              have rz := HB5.rb.frozen
              go_simp
              have KK := ((((HB5.kb.other hne (j := 0) (.int .i64 st)).other hne (j := 1) (.int .i64 seen.length)).other hne (j := 2) (.slice sx (wideL ars seen starts).length sy)).other hne (j := 3) (.slice va (hAll ⟨(st : Int), ev, starts, ars, ends⟩ seen st).length vc)).other hne (j := 4) (.slice ex ends.length ey)
              refine hK'.out _ _ ⟨KK.cell 0 rfl, KK.cell 2 rfl, KK.cell 4 rfl⟩ (fun hSZ => ?_)
              clear hK' K' r0 r1 r2 r3 r4 rz
              refine wpAnyH_take (i := 17) (v := .int .i64 0) rfl (by kernel_rfl) (by kernel_rfl) (by kernel_rfl) (fun _ _ _ h => h) (Or.inl ⟨by kernel_rfl, fun w' hw' => by obtain ⟨q0, q1, q2⟩ := hw'; go_simp⟩) hSZ ?_
              refine wpAnyH_done (by kernel_rfl) ?_ _
              have RR : Hid (Blk _ (w.heap.size + 1) 25 (mcells (hideM ⟨(st : Int), ev, starts, ars, ends⟩ seen) ⟨sx, sy, va, vc, ex, ey⟩)) := HB5.rb.set5 (.int .i64 st) (.int .i64 seen.length) (.slice sx (wideL ars seen starts).length sy) (.slice va (hAll ⟨(st : Int), ev, starts, ars, ends⟩ seen st).length vc) (.slice ex ends.length ey)
              have BF := Hid.of (below_set5 HB5.bel (b' := w.heap.size + 1) (by omega) (.int .i64 st) (.int .i64 seen.length) (.slice sx (wideL ars seen starts).length sy) (.slice va (hAll ⟨(st : Int), ev, starts, ars, ends⟩ seen st).length vc) (.slice ex ends.length ey))
              have MX : MAt X5 (hideM ⟨(st : Int), ev, starts, ars, ends⟩ seen) ⟨sx, sy, va, vc, ex, ey⟩ := ⟨s1, HB5.ar, e1, s2, s3, s4, va2, va3, va4, e2, e3, e4⟩
              have FX : FrM (w.heap.size + 2) (hideM ⟨(st : Int), ev, starts, ars, ends⟩ seen) ⟨sx, sy, va, vc, ex, ey⟩ := ⟨sf, vf, ef⟩
              have MF := Hid.of (MX.set5 (b := w.heap.size + 1) FX (by omega) (.int .i64 st) (.int .i64 seen.length) (.slice sx (wideL ars seen starts).length sy) (.slice va (hAll ⟨(st : Int), ev, starts, ars, ends⟩ seen st).length vc) (.slice ex ends.length ey))
              clear MX FX
              clear KK hSZ
              go_wp2
              refine bodyPost_ret (v := .tuple #[mval (hideM ⟨(st : Int), ev, starts, ars, ends⟩ seen) ⟨sx, sy, va, vc, ex, ey⟩, .int .i64 0]) ?_ rfl ?_
              · exact results_twoM (p := 4) (u := 5) rfl _ _ (w.heap.size + 1) (hideM ⟨(st : Int), ev, starts, ars, ends⟩ seen) ⟨sx, sy, va, vc, ex, ey⟩ _ rfl rfl RR.out
              · first | exact ⟨_, rfl, MF.out, BF.out⟩ | (rw [if_pos HFIT.out]; exact ⟨_, rfl, MF.out, BF.out⟩)
  · have HFIT := Hid.of hfit
    obtain ⟨r0, r1, r2, r3, r4⟩ := zcell_at R4.out
    have rz := R4.out.frozen
    have RR : Hid (Blk _ (w.heap.size + 1) 25 (mcells m0 ml0)) := R4.out.set5 (.int .i64 0) (.int .i64 0) (.slice none 0 0) (.slice none 0 0) (.slice none 0 0)
    go_wp2
    refine bodyPost_ret (v := .tuple #[mval m0 ml0, .int .i64 1]) ?_ rfl ?_
    · exact results_twoM (p := 4) (u := 5) rfl _ _ (w.heap.size + 1) m0 ml0 _ rfl rfl RR.out
    · exact ⟨rfl, below_set5 B4.out (b' := w.heap.size + 1) (by omega) _ _ _ _ _⟩

end Go.Proofs.YtkkkacmccndinaaDoor
namespace Go.Proofs.YtkkkacmccndinaaDoor
open Go.RowKit
set_option linter.unusedVariables false

theorem pHide_any (m : Mach) (l : ML) (sa : Option Addr) (sc : Nat) (seen : List Int) (w : World) (h : MAt w m l) (hs : At w sa seen) (hsl : seen.length ≤ maxLen) (hT : Tab w) :
    Calls Tryd.prog 26 #[mval m l, .slice sa seen.length sc] w fun e w' => HidePost w m seen e w' := by
  by_cases hbad : mayB m = false ∨ rowB m.ev seen = false
  · refine (hide_err m l sa sc seen w (Hid.of h) (Hid.of hs) (Hid.of hsl) (Hid.of hbad)).mono fun e w' h => ?_
    unfold HidePost; rw [if_pos hbad]; exact h
  · have hm : mayB m = true := by cases e : mayB m with
      | true => rfl
      | false => exact absurd (.inl e) hbad
    have hr : rowB m.ev seen = true := by cases e : rowB m.ev seen with
      | true => rfl
      | false => exact absurd (.inr e) hbad
    obtain ⟨mst, ev, starts, ars, ends⟩ := m
    obtain ⟨a1, c1, a2, c2, a3, c3⟩ := l
    obtain ⟨st, rfl⟩ : ∃ st : Nat, mst = (st : Int) := by
      have := mayB_size hm
      unfold sizeOk at this
      exact ⟨mst.toNat, by dsimp only at this; omega⟩
    refine (hide_ok st ev starts ars ends a1 c1 a2 c2 a3 c3 sa sc seen w (Hid.of h) (Hid.of hs) (Hid.of hsl) (Hid.of hm) (Hid.of hr) (Hid.of hT)).mono fun e w' h => ?_
    unfold HidePost; rw [if_neg hbad]; exact h

end Go.Proofs.YtkkkacmccndinaaDoor
namespace Go.Proofs.YtkkkacmccndinaaDoor
open Go.RowKit
set_option linter.unusedVariables false
set_option linter.unusedSectionVars false

theorem afterL_app (ars : List Arr) (ss a b : List Int) : afterL ars ss (a ++ b) = afterL ars (afterL ars ss a) b := by
  unfold afterL; rw [List.foldl_append]
theorem step_mono {ars : List Arr} {ss ss' : List Int} {e : Int} (h : ∀ x ∈ ss, x ∈ ss') : ∀ x ∈ stepL ars ss e, x ∈ stepL ars ss' e := fun x hx => by
  obtain ⟨a, h1, h2, h3, h4⟩ := (mem_stepL _ _ _ _).1 hx
  exact (mem_stepL _ _ _ _).2 ⟨a, h1, h2, h _ h3, h4⟩
theorem after_mono {ars : List Arr} : ∀ (u : List Int) {ss ss' : List Int}, (∀ x ∈ ss, x ∈ ss') → ∀ x ∈ afterL ars ss u, x ∈ afterL ars ss' u
  | [], _, _, h => h
  | e :: u, ss, ss', h => after_mono u (ss := stepL ars ss e) (ss' := stepL ars ss' e) (step_mono h)
/-- A word of events of the machine's arrows, none of them seen. -/
def unW (ars : List Arr) (seen u : List Int) : Prop := ∀ e ∈ u, hasB seen e = false ∧ ∃ a ∈ ars, a.e = e
theorem wide_word {ars : List Arr} {seen ss : List Int} (hin : ∀ a ∈ ars, 0 ≤ a.t ∧ a.t < (256 : Nat)) {x : Int} (h : x ∈ wideL ars seen ss) : ∃ u, unW ars seen u ∧ x ∈ afterL ars ss u := by
  refine (mem_wide hin x).1 h (fun y => ∃ u, unW ars seen u ∧ y ∈ afterL ars ss u) ⟨fun y hy => ⟨[], by simp [unW], hy⟩, fun a ha hp => ?_⟩
  obtain ⟨u, h1, h2⟩ := hp
  obtain ⟨ha1, ha2⟩ := (mem_unseen _ _ _).1 ha
  refine ⟨u ++ [a.e], fun e he => ?_, ?_⟩
  · rcases List.mem_append.1 he with he | he
    · exact h1 e he
    · have : e = a.e := by simpa using he
      subst this; exact ⟨ha2, a, ha1, rfl⟩
  · rw [afterL_app]
    exact (mem_stepL _ _ _ _).2 ⟨a, ha1, rfl, h2, rfl⟩
theorem num_app (seen a b : List Int) : numL seen (a ++ b) = numL seen a ++ numL seen b := by simp [numL, seenL]
theorem num_un {ars : List Arr} {seen u : List Int} (h : unW ars seen u) : numL seen u = [] := by
  unfold numL seenL
  rw [List.map_eq_nil_iff, List.filter_eq_nil_iff]
  intro e he
  rw [(h e he).1]; simp
theorem num_one {seen : List Int} (hi : Inc seen) {k : Nat} {e : Int} (hk : seen[k]? = some e) : numL seen [e] = [(k : Int)] := by
  have hm : e ∈ seen := List.mem_of_getElem? hk
  obtain ⟨j, hj⟩ := placeN_mem hm
  have h1 := placeI_of hj
  have h2 := placeN_some hj
  have hjk : j = k := by
    have l1 := (List.getElem?_eq_some_iff.1 h2).1
    have l2 := (List.getElem?_eq_some_iff.1 hk).1
    have e1 := (List.getElem?_eq_some_iff.1 h2).2
    have e2 := (List.getElem?_eq_some_iff.1 hk).2
    rcases Nat.lt_trichotomy j k with h | h | h
    · have := List.pairwise_iff_getElem.1 hi j k l1 l2 h; omega
    · exact h
    · have := List.pairwise_iff_getElem.1 hi k j l2 l1 h; omega
  subst hjk
  have hh : hasB seen e = true := by unfold hasB; simpa using hm
  simp [numL, seenL, hh, h1]
/-- A word of events of the machine's arrows. -/
def evW (ars : List Arr) (u : List Int) : Prop := ∀ e ∈ u, ∃ a ∈ ars, a.e = e
theorem back_step {m : Mach} (hm : mayB m = true) {seen : List Int} (hi : Inc seen) {ss : List Int} {k x : Int} (h : x ∈ stepL (hideM m seen).arrows ss k) : ∃ u, x ∈ afterL m.arrows ss u ∧ evW m.arrows u ∧ numL seen u = [k] := by
  obtain ⟨a, ha, h1, h2, h3⟩ := (mem_stepL _ _ _ _).1 h
  obtain ⟨f, j, hf, hj, hr⟩ := (mem_hAll _ _ _ _).1 (show a ∈ hAll m seen m.st.toNat from ha)
  obtain ⟨t, ht, e0⟩ := (mem_hRow _ _ _ _ _).1 hr
  subst e0
  dsimp only at h1 h2 h3
  subst h1; subst h3
  obtain ⟨e, he⟩ : ∃ e, seen[j]? = some e := ⟨_, List.getElem?_eq_getElem hj⟩
  rw [he, Option.getD_some] at ht
  obtain ⟨u2, v2, k2⟩ := wide_word (may_to hm) ht
  -- from some y in what f leads to at e
  have key : ∀ (u : List Int) {S : List Int} {z : Int}, z ∈ afterL m.arrows S u → ∃ y ∈ S, z ∈ afterL m.arrows [y] u := by
    intro u
    induction u with
    | nil => intro S z hz; exact ⟨z, hz, by simp [afterL]⟩
    | cons c u ih =>
      intro S z hz
      obtain ⟨y, hy, hz'⟩ := ih (S := stepL m.arrows S c) hz
      obtain ⟨b, hb, b1, b2, b3⟩ := (mem_stepL _ _ _ _).1 hy
      refine ⟨b.f, b2, ?_⟩
      have : y ∈ stepL m.arrows [b.f] c := (mem_stepL _ _ _ _).2 ⟨b, hb, b1, by simp, b3⟩
      exact after_mono u (ss := [y]) (ss' := stepL m.arrows [b.f] c) (fun q hq => by
        have : q = y := by simpa using hq
        subst this; assumption) z hz'
  obtain ⟨y, hy, hz⟩ := key u2 k2
  obtain ⟨b, hb, b1, b2, b3⟩ := (mem_stepL _ _ _ _).1 hy
  obtain ⟨u1, v1, k1⟩ := wide_word (may_to hm) b2
  refine ⟨u1 ++ ([e] ++ u2), ?_, fun c hc => ?_, ?_⟩
  · rw [afterL_app, afterL_app]
    refine after_mono u2 (ss := [y]) (fun q hq => ?_) _ hz
    have : q = y := by simpa using hq
    subst this
    refine (mem_stepL _ _ _ _).2 ⟨b, hb, b1, ?_, b3⟩
    exact after_mono u1 (ss := [(f : Int)]) (fun q hq => by
      have : q = (f : Int) := by simpa using hq
      subst this; exact h2) _ k1
  · rcases List.mem_append.1 hc with hc | hc
    · exact (v1 c hc).2
    · rcases List.mem_append.1 hc with hc | hc
      · have : c = e := by simpa using hc
        subst this; exact ⟨b, hb, b1⟩
      · exact (v2 c hc).2
  · rw [num_app, num_app, num_un v1, num_un v2, num_one hi he]; simp
theorem back_after {m : Mach} (hm : mayB m = true) {seen : List Int} (hi : Inc seen) : ∀ (v : List Int) {ss : List Int} {x : Int}, x ∈ afterL (hideM m seen).arrows ss v → ∃ u, x ∈ afterL m.arrows ss u ∧ evW m.arrows u ∧ numL seen u = v
  | [], ss, x, h => ⟨[], h, by simp [evW], by simp [numL, seenL]⟩
  | k :: v, ss, x, h => by
    obtain ⟨u, h1, h2, h3⟩ := back_after hm hi v (ss := stepL (hideM m seen).arrows ss k) h
    have key : ∀ (u : List Int) {S : List Int} {z : Int}, z ∈ afterL m.arrows S u → ∃ y ∈ S, z ∈ afterL m.arrows [y] u := by
      intro u
      induction u with
      | nil => intro S z hz; exact ⟨z, hz, by simp [afterL]⟩
      | cons c u ih =>
        intro S z hz
        obtain ⟨y, hy, hz'⟩ := ih (S := stepL m.arrows S c) hz
        obtain ⟨b, hb, b1, b2, b3⟩ := (mem_stepL _ _ _ _).1 hy
        refine ⟨b.f, b2, ?_⟩
        have : y ∈ stepL m.arrows [b.f] c := (mem_stepL _ _ _ _).2 ⟨b, hb, b1, by simp, b3⟩
        exact after_mono u (ss := [y]) (ss' := stepL m.arrows [b.f] c) (fun q hq => by
          have : q = y := by simpa using hq
          subst this; assumption) z hz'
    obtain ⟨y, hy, hz⟩ := key u h1
    obtain ⟨u1, k1, k2, k3⟩ := back_step hm hi hy
    refine ⟨u1 ++ u, ?_, fun c hc => ?_, by rw [num_app, k3, h3]; rfl⟩
    · rw [afterL_app]
      exact after_mono u (ss := [y]) (fun q hq => by
        have : q = y := by simpa using hq
        subst this; exact k1) _ hz
    · rcases List.mem_append.1 hc with hc | hc
      · exact k2 c hc
      · exact h2 c hc
/-- What the machine of what is seen accepts is seen of a word that the machine accepts. -/
theorem hide_back {m : Mach} (hm : mayB m = true) {seen : List Int} (hi : Inc seen) {v : List Int} (h : acceptsB (hideM m seen) v = true) : ∃ u, wordB m.ev u = true ∧ acceptsB m u = true ∧ numL seen u = v := by
  obtain ⟨x, hx, he⟩ := (accepts_iff _ _).1 h
  obtain ⟨u, h1, h2, h3⟩ := back_after hm hi v hx
  have key : ∀ (u : List Int) {S : List Int} {z : Int}, z ∈ afterL m.arrows S u → ∃ y ∈ S, z ∈ afterL m.arrows [y] u := by
    intro u
    induction u with
    | nil => intro S z hz; exact ⟨z, hz, by simp [afterL]⟩
    | cons c u ih =>
      intro S z hz
      obtain ⟨y, hy, hz'⟩ := ih (S := stepL m.arrows S c) hz
      obtain ⟨b, hb, b1, b2, b3⟩ := (mem_stepL _ _ _ _).1 hy
      refine ⟨b.f, b2, ?_⟩
      have : y ∈ stepL m.arrows [b.f] c := (mem_stepL _ _ _ _).2 ⟨b, hb, b1, by simp, b3⟩
      exact after_mono u (ss := [y]) (ss' := stepL m.arrows [b.f] c) (fun q hq => by
        have : q = y := by simpa using hq
        subst this; assumption) z hz'
  obtain ⟨y, hy, hz⟩ := key u h1
  obtain ⟨u0, k0, k1⟩ := wide_word (may_to hm) (show y ∈ wideL m.arrows seen m.starts from hy)
  refine ⟨u0 ++ u, wordB_of (fun e hee => ?_), (accepts_iff _ _).2 ⟨x, ?_, he⟩, by rw [num_app, num_un k0, h3]; rfl⟩
  · have : ∃ a ∈ m.arrows, a.e = e := by
      rcases List.mem_append.1 hee with hc | hc
      · exact (k0 e hc).2
      · exact h2 e hc
    obtain ⟨a, ha, rfl⟩ := this
    have := may_arrs hm a ha
    unfold arrIn at this
    omega
  · rw [afterL_app]
    exact after_mono u (ss := [y]) (fun q hq => by
      have : q = y := by simpa using hq
      subst this; exact k1) _ hz
/-- What is seen hangs on the language alone. -/
theorem hide_lang {a b : Mach} (ha : mayB a = true) (hb : mayB b = true) (he : a.ev = b.ev) (hl : ∀ u, wordB a.ev u = true → acceptsB a u = acceptsB b u) {seen : List Int} (hi : Inc seen) (v : List Int) : acceptsB (hideM a seen) v = acceptsB (hideM b seen) v := by
  have one : ∀ {a b : Mach}, mayB a = true → mayB b = true → (∀ u, wordB a.ev u = true → acceptsB a u = acceptsB b u) → acceptsB (hideM a seen) v = true → acceptsB (hideM b seen) v = true := fun {a b} ha hb hl h => by
    obtain ⟨u, h1, h2, h3⟩ := hide_back ha hi h
    rw [hl u h1] at h2
    rw [← h3]
    exact hide_sees hb h2
  rw [Bool.eq_iff_iff]
  exact ⟨one ha hb hl, one hb ha (fun u hu => (hl u (by rw [he]; exact hu)).symm)⟩

end Go.Proofs.YtkkkacmccndinaaDoor
namespace Go.Proofs.YtkkkacmccndinaaDoor
open Go.RowKit
set_option linter.unusedVariables false

/-! Plain: small machines. -/
theorem wide_small {m : Mach} (hm : mayB m = true) (z : m.st ≤ 6) {seen ss : List Int} (hs : ∀ x ∈ ss, 0 ≤ x ∧ x < m.st) : (wideL m.arrows seen ss).length ≤ 6 := by
  refine nodup_len 6 _ (inc_nodup (inc_wide _ _ _)) (fun x hx => ?_)
  have := wide_bd hm hs x hx
  omega
theorem hFrom_small {m : Mach} (hm : mayB m = true) (z : m.st ≤ 6) (seen : List Int) (f : Nat) : ∀ k, (hFrom m seen f k).length ≤ k * 6
  | 0 => by simp [hFrom]
  | k + 1 => by
    have h1 := hFrom_small hm z seen f k
    have h2 : (hRow m seen f k).length ≤ 6 := by unfold hRow; rw [List.length_map]; exact wide_small hm z (step_bd hm)
    rw [hFrom_succ, List.length_append]; omega
theorem hAll_small {m : Mach} (hm : mayB m = true) (z : m.st ≤ 6) (seen : List Int) (h8 : seen.length ≤ 8) : ∀ f, (hAll m seen f).length ≤ f * 48
  | 0 => by simp [hAll]
  | f + 1 => by
    have h1 := hAll_small hm z seen h8 f
    have h2 := hFrom_small hm z seen f seen.length
    rw [hAll_succ, List.length_append]; omega
theorem hide_small {m : Mach} (hm : mayB m = true) (z : m.st ≤ 6) {seen : List Int} (hr : rowB m.ev seen = true) : (hAll m seen m.st.toNat).length ≤ 4096 := by
  have hz := mayB_size hm
  unfold sizeOk at hz
  have h8 := row_short (by omega) (by omega) hr
  have := hAll_small hm z seen (by omega) m.st.toNat
  omega
/-- The least machine may be, and has the same language. -/
theorem least_lang {m M : Mach} (hm : mayB m = true) (zm : m.st ≤ 6) (hM : IsLeast m M) : mayB M = true ∧ M.ev = m.ev ∧ ∀ u, wordB m.ev u = true → acceptsB m u = acceptsB M u := by
  letI inst : DecidableEq Lang := fun a b => Classical.propDecidable _
  have hz := mayB_size hm
  unfold sizeOk at hz
  have e1 : m.ev = ((m.ev.toNat : Nat) : Int) := by omega
  rw [hM inst]
  exact ⟨(least_may hm zm e1).1, e1.symm, fun u hu => (least_acc hm zm e1 hu).symm⟩
theorem hide_least {m M X Y : Mach} (hm : mayB m = true) (hM : mayB M = true) (zm : m.st ≤ 6) (zM : M.st ≤ 6) (he : M.ev = m.ev) (hl : ∀ u, wordB m.ev u = true → acceptsB m u = acceptsB M u) {seen : List Int} (hr : rowB m.ev seen = true) (ha : mayB (hideM m seen) = true) (hb : mayB (hideM M seen) = true) (hX : IsLeast (hideM m seen) X) (hY : IsLeast (hideM M seen) Y) : X = Y ∧ 0 < X.st := by
  letI inst : DecidableEq Lang := fun a b => Classical.propDecidable _
  have hz := mayB_size hm
  unfold sizeOk at hz
  have hi : Inc seen := ((rowB_iff _ (by omega) _).1 hr).1
  have h1 := (least_det ha (show (hideM m seen).st ≤ 6 from zm) hX).2
  have h2 := mayB_size h1
  unfold sizeOk at h2
  refine ⟨?_, by omega⟩
  rw [hX inst, hY inst]
  exact (least_same ha hb (show (hideM m seen).st ≤ 6 from zm) (show (hideM M seen).st ≤ 6 from zM) (ev := seen.length) rfl rfl).2 (fun u _ => hide_lang hm hM he.symm hl hi u)
/-- Hide, where nothing is wrong. -/
theorem hide_okp (m : Mach) (l : ML) (sa : Option Addr) (sc : Nat) (seen : List Int) (w : World) (h : MAt w m l) (hs : At w sa seen) (hsl : seen.length ≤ maxLen) (hT : Tab w) (hm : mayB m = true) (hr : rowB m.ev seen = true) (ha : (hAll m seen m.st.toNat).length ≤ 4096) :
    Calls Tryd.prog 26 #[mval m l, .slice sa seen.length sc] w fun e w' => ∃ L, e = .returned (.tuple #[mval (hideM m seen) L, .int .i64 0]) ∧ MAt w' (hideM m seen) L ∧ Below w.heap.size w w' := by
  refine (pHide_any m l sa sc seen w h hs hsl hT).mono ?_
  intro e w' hp
  unfold HidePost at hp
  rw [if_neg (by rw [hm, hr]; simp), if_pos ha] at hp
  exact hp

set_option maxRecDepth 100000 in
set_option maxHeartbeats 8000000 in
theorem tlang_any (m : Mach) (l : ML) (sa : Option Addr) (sc : Nat) (seen : List Int) (w : World) (hT : Hid (Tab w)) (h : Hid (MAt w m l)) (hs : Hid (At w sa seen)) (hsl : Hid (seen.length ≤ maxLen)) :
    Calls Tryd.prog 12 #[mval m l, .slice sa seen.length sc] w fun e w' => e = .returned (.bool true) ∧ Below w.heap.size w w' := by
  have B : Hid (Below w.heap.size w (w.alloc (.cells (mcells m l) 25))) := (Below.refl _ _).alloc (Nat.le_refl _) _
  have KM : Hid (Blk (w.alloc (.cells (mcells m l) 25)) w.heap.size 25 (mcells m l)) := Blk.new w _ _
  go_enter Tryd.func12, Tryd.ntmps12
  go_wp2_with fail
  revert B KM
  generalize (w.alloc (.cells (mcells m l) 25)) = V0
  intro B KM
  refine (refMay_any m l _ (h.out.below B.out (Nat.le_refl _))).mono ?_
  rintro e W1 ⟨rfl, hb⟩
  replace B := Hid.of (B.out.trans (hb.mono B.out.size))
  replace KM := Hid.of (KM.out.below hb KM.out.lt)
  clear hb
  cases hm : mayB m with
  | false =>
    go_wp2_with fail
    go_ret
    exact ⟨rfl, B.out⟩
  | true =>
    have HM := Hid.of hm
    clear hm
    by_cases hs6 : m.st ≤ 6
    · have d1 : decide ((6 : Int) < m.st) = false := by simp; omega
      obtain ⟨x0, x1, x2, x3, x4⟩ := mcell_at KM.out
      go_wp2_with fail
      clear x0 x1 x2 x3 x4
      refine (refIs_any sa sc seen m.ev _ (hs.out.below B.out (Nat.le_refl _)) hsl.out).mono ?_
      rintro e W2 ⟨rfl, qd, hqd⟩
      have hb : Below W1.heap.size W1 W2 := by rw [hqd]; exact below_drewN (Below.refl _ _) qd
      clear hqd
      replace B := Hid.of (B.out.trans (hb.mono B.out.size))
      replace KM := Hid.of (KM.out.below hb KM.out.lt)
      clear hb
      cases hr : rowB m.ev seen with
      | false =>
        go_wp2_with fail
        go_ret
        exact ⟨rfl, B.out⟩
      | true =>
        have HR := Hid.of hr
        clear hr
        obtain ⟨x0, x1, x2, x3, x4⟩ := mcell_at KM.out
        go_wp2_with fail
        clear x0 x1 x2 x3 x4
        refine (pLeast_any m l _ (h.out.below B.out (Nat.le_refl _)) (hT.out.below B.out hT.out.lt)).mono ?_
        rintro e W3 ⟨M, L, c, ho, rfl, mt, hb⟩
        replace B := Hid.of (B.out.trans (hb.mono B.out.size))
        replace KM := Hid.of (KM.out.below hb KM.out.lt)
        clear hb
        obtain ⟨e1, hl1⟩ := ho.ok HM.out hs6
        subst e1
        have HL1 := Hid.of hl1
        have MT := Hid.of mt
        clear ho mt hl1
        have hb : Below W3.heap.size W3 (W3.alloc (.cells (mcells M L) 25)) := (Below.refl _ _).alloc (Nat.le_refl _) _
        replace B := Hid.of (B.out.trans (hb.mono B.out.size))
        replace KM := Hid.of (KM.out.below hb KM.out.lt)
        replace MT := Hid.of (MT.out.below hb (Nat.le_refl _))
        clear hb
        have KL := Hid.of (Blk.new W3 25 (mcells M L))
        by_cases hM6 : M.st ≤ 6
        · have d2 : decide ((6 : Int) < M.st) = false := by simp; omega
          obtain ⟨hML, hEV, hACC⟩ := least_lang HM.out hs6 HL1.out
          have HA := Hid.of (hide_small HM.out hs6 HR.out)
          have HRM : Hid (rowB M.ev seen = true) := by show _ = _; rw [hEV]; exact HR.out
          have HBm := Hid.of (hide_small hML hM6 HRM.out)
          have HMa := Hid.of (may_hide HM.out HR.out HA.out)
          have HMb := Hid.of (may_hide hML HRM.out HBm.out)
          have HML := Hid.of hML
          have HSAME : Hid (∀ X Y, IsLeast (hideM m seen) X → IsLeast (hideM M seen) Y → X = Y ∧ 0 < X.st) := fun X Y hX hY => hide_least HM.out hML hs6 hM6 hEV hACC HR.out HMa.out HMb.out hX hY
          clear hML hEV hACC
          obtain ⟨x0, x1, x2, x3, x4⟩ := mcell_at KM.out
          go_wp2_with fail
          clear x0 x1 x2 x3 x4
          revert B KM MT KL
          show Hid (Below w.heap.size w (W3.alloc (.cells #[.int .i64 M.st, .int .i64 M.ev, .slice L.a1 M.starts.length L.c1, .slice L.a2 M.arrows.length L.c2, .slice L.a3 M.ends.length L.c3] 25))) → _
          generalize W3.alloc (.cells #[.int .i64 M.st, .int .i64 M.ev, .slice L.a1 M.starts.length L.c1, .slice L.a2 M.arrows.length L.c2, .slice L.a3 M.ends.length L.c3] 25) = W4
          generalize W3.heap.size = p1
          intro B KM MT KL
          refine (hide_okp m l sa sc seen _ (h.out.below B.out (Nat.le_refl _)) (hs.out.below B.out (Nat.le_refl _)) hsl.out (hT.out.below B.out hT.out.lt) HM.out HR.out HA.out).mono ?_
          rintro e W5 ⟨LA, rfl, mt, hb⟩
          replace B := Hid.of (B.out.trans (hb.mono B.out.size))
          replace KM := Hid.of (KM.out.below hb KM.out.lt)
          replace MT := Hid.of (MT.out.below hb (Nat.le_refl _))
          replace KL := Hid.of (KL.out.below hb KL.out.lt)
          clear hb
          have AT := Hid.of mt
          clear mt
          obtain ⟨A, HAE⟩ : ∃ A, Hid (A = hideM m seen) := ⟨_, rfl⟩
          rw [← HAE.out] at AT HMa HSAME ⊢
          have hA6 : A.st ≤ 6 := by rw [HAE.out]; exact hs6
          have hb : Below W5.heap.size W5 (W5.alloc (.cells (mcells A LA) 25)) := (Below.refl _ _).alloc (Nat.le_refl _) _
          replace B := Hid.of (B.out.trans (hb.mono B.out.size))
          replace KM := Hid.of (KM.out.below hb KM.out.lt)
          replace MT := Hid.of (MT.out.below hb (Nat.le_refl _))
          replace KL := Hid.of (KL.out.below hb KL.out.lt)
          replace AT := Hid.of (AT.out.below hb (Nat.le_refl _))
          clear hb
          have KA := Hid.of (Blk.new W5 25 (mcells A LA))
          obtain ⟨y0, y1, y2, y3, y4⟩ := mcell_at KL.out
          go_wp2_with fail
          clear y0 y1 y2 y3 y4
          revert B KM MT KL AT KA
          show Hid (Below w.heap.size w (W5.alloc (.cells #[.int .i64 A.st, .int .i64 A.ev, .slice LA.a1 A.starts.length LA.c1, .slice LA.a2 A.arrows.length LA.c2, .slice LA.a3 A.ends.length LA.c3] 25))) → _
          generalize W5.alloc (.cells #[.int .i64 A.st, .int .i64 A.ev, .slice LA.a1 A.starts.length LA.c1, .slice LA.a2 A.arrows.length LA.c2, .slice LA.a3 A.ends.length LA.c3] 25) = W6
          generalize W5.heap.size = p2
          intro B KM MT KL AT KA
          refine (hide_okp M L sa sc seen _ MT.out (hs.out.below B.out (Nat.le_refl _)) hsl.out (hT.out.below B.out hT.out.lt) HML.out HRM.out HBm.out).mono ?_
          rintro e W7 ⟨LB, rfl, mt, hb⟩
          replace B := Hid.of (B.out.trans (hb.mono B.out.size))
          replace KM := Hid.of (KM.out.below hb KM.out.lt)
          replace MT := Hid.of (MT.out.below hb (Nat.le_refl _))
          replace KL := Hid.of (KL.out.below hb KL.out.lt)
          replace AT := Hid.of (AT.out.below hb (Nat.le_refl _))
          replace KA := Hid.of (KA.out.below hb KA.out.lt)
          clear hb
          have BT := Hid.of mt
          clear mt
          obtain ⟨Bm, HBE⟩ : ∃ A, Hid (A = hideM M seen) := ⟨_, rfl⟩
          rw [← HBE.out] at BT HMb HSAME ⊢
          have hB6 : Bm.st ≤ 6 := by rw [HBE.out]; exact hM6
          have hb : Below W7.heap.size W7 (W7.alloc (.cells (mcells Bm LB) 25)) := (Below.refl _ _).alloc (Nat.le_refl _) _
          replace B := Hid.of (B.out.trans (hb.mono B.out.size))
          replace KM := Hid.of (KM.out.below hb KM.out.lt)
          replace MT := Hid.of (MT.out.below hb (Nat.le_refl _))
          replace KL := Hid.of (KL.out.below hb KL.out.lt)
          replace AT := Hid.of (AT.out.below hb (Nat.le_refl _))
          replace KA := Hid.of (KA.out.below hb KA.out.lt)
          replace BT := Hid.of (BT.out.below hb (Nat.le_refl _))
          clear hb
          have KB := Hid.of (Blk.new W7 25 (mcells Bm LB))
          obtain ⟨y0, y1, y2, y3, y4⟩ := mcell_at KA.out
          go_wp2_with fail
          clear y0 y1 y2 y3 y4
          revert B KM MT KL AT KA BT KB
          show Hid (Below w.heap.size w (W7.alloc (.cells #[.int .i64 Bm.st, .int .i64 Bm.ev, .slice LB.a1 Bm.starts.length LB.c1, .slice LB.a2 Bm.arrows.length LB.c2, .slice LB.a3 Bm.ends.length LB.c3] 25))) → _
          generalize W7.alloc (.cells #[.int .i64 Bm.st, .int .i64 Bm.ev, .slice LB.a1 Bm.starts.length LB.c1, .slice LB.a2 Bm.arrows.length LB.c2, .slice LB.a3 Bm.ends.length LB.c3] 25) = W8
          generalize W7.heap.size = p3
          intro B KM MT KL AT KA BT KB
          refine (pLeast_any A LA _ AT.out (hT.out.below B.out hT.out.lt)).mono ?_
          rintro e W9 ⟨X, LX, c, ho, rfl, mt, hb⟩
          replace B := Hid.of (B.out.trans (hb.mono B.out.size))
          replace KM := Hid.of (KM.out.below hb KM.out.lt)
          replace MT := Hid.of (MT.out.below hb (Nat.le_refl _))
          replace KL := Hid.of (KL.out.below hb KL.out.lt)
          replace AT := Hid.of (AT.out.below hb (Nat.le_refl _))
          replace KA := Hid.of (KA.out.below hb KA.out.lt)
          replace BT := Hid.of (BT.out.below hb (Nat.le_refl _))
          replace KB := Hid.of (KB.out.below hb KB.out.lt)
          clear hb
          obtain ⟨e1, hl1⟩ := ho.ok HMa.out hA6
          subst e1
          have HLX := Hid.of hl1
          have XT := Hid.of mt
          clear ho mt hl1
          have hb : Below W9.heap.size W9 (W9.alloc (.cells (mcells X LX) 25)) := (Below.refl _ _).alloc (Nat.le_refl _) _
          replace B := Hid.of (B.out.trans (hb.mono B.out.size))
          replace KM := Hid.of (KM.out.below hb KM.out.lt)
          replace MT := Hid.of (MT.out.below hb (Nat.le_refl _))
          replace KL := Hid.of (KL.out.below hb KL.out.lt)
          replace AT := Hid.of (AT.out.below hb (Nat.le_refl _))
          replace KA := Hid.of (KA.out.below hb KA.out.lt)
          replace BT := Hid.of (BT.out.below hb (Nat.le_refl _))
          replace KB := Hid.of (KB.out.below hb KB.out.lt)
          replace XT := Hid.of (XT.out.below hb (Nat.le_refl _))
          clear hb
          have KX := Hid.of (Blk.new W9 25 (mcells X LX))
          obtain ⟨y0, y1, y2, y3, y4⟩ := mcell_at KB.out
          go_wp2_with fail
          clear y0 y1 y2 y3 y4
          revert B KM MT KL AT KA BT KB XT KX
          show Hid (Below w.heap.size w (W9.alloc (.cells #[.int .i64 X.st, .int .i64 X.ev, .slice LX.a1 X.starts.length LX.c1, .slice LX.a2 X.arrows.length LX.c2, .slice LX.a3 X.ends.length LX.c3] 25))) → _
          generalize W9.alloc (.cells #[.int .i64 X.st, .int .i64 X.ev, .slice LX.a1 X.starts.length LX.c1, .slice LX.a2 X.arrows.length LX.c2, .slice LX.a3 X.ends.length LX.c3] 25) = W10
          generalize W9.heap.size = p4
          intro B KM MT KL AT KA BT KB XT KX
          refine (pLeast_any Bm LB _ BT.out (hT.out.below B.out hT.out.lt)).mono ?_
          rintro e W11 ⟨Y, LY, c, ho, rfl, mt, hb⟩
          replace B := Hid.of (B.out.trans (hb.mono B.out.size))
          replace KM := Hid.of (KM.out.below hb KM.out.lt)
          replace MT := Hid.of (MT.out.below hb (Nat.le_refl _))
          replace KL := Hid.of (KL.out.below hb KL.out.lt)
          replace AT := Hid.of (AT.out.below hb (Nat.le_refl _))
          replace KA := Hid.of (KA.out.below hb KA.out.lt)
          replace BT := Hid.of (BT.out.below hb (Nat.le_refl _))
          replace KB := Hid.of (KB.out.below hb KB.out.lt)
          replace XT := Hid.of (XT.out.below hb (Nat.le_refl _))
          replace KX := Hid.of (KX.out.below hb KX.out.lt)
          clear hb
          obtain ⟨e1, hl1⟩ := ho.ok HMb.out hB6
          subst e1
          obtain ⟨e2, hpos⟩ := HSAME.out X Y HLX.out hl1
          subst e2
          have YT := Hid.of mt
          clear ho mt hl1
          have hb : Below W11.heap.size W11 (W11.alloc (.cells (mcells X LY) 25)) := (Below.refl _ _).alloc (Nat.le_refl _) _
          replace B := Hid.of (B.out.trans (hb.mono B.out.size))
          replace KM := Hid.of (KM.out.below hb KM.out.lt)
          replace MT := Hid.of (MT.out.below hb (Nat.le_refl _))
          replace KL := Hid.of (KL.out.below hb KL.out.lt)
          replace AT := Hid.of (AT.out.below hb (Nat.le_refl _))
          replace KA := Hid.of (KA.out.below hb KA.out.lt)
          replace BT := Hid.of (BT.out.below hb (Nat.le_refl _))
          replace KB := Hid.of (KB.out.below hb KB.out.lt)
          replace XT := Hid.of (XT.out.below hb (Nat.le_refl _))
          replace KX := Hid.of (KX.out.below hb KX.out.lt)
          replace YT := Hid.of (YT.out.below hb (Nat.le_refl _))
          clear hb
          have KY := Hid.of (Blk.new W11 25 (mcells X LY))
          obtain ⟨x0, x1, x2, x3, x4⟩ := mcell_at KX.out
          go_wp2_with fail
          clear x0 x1 x2 x3 x4
          revert B KM MT KL AT KA BT KB XT KX YT KY
          show Hid (Below w.heap.size w (W11.alloc (.cells #[.int .i64 X.st, .int .i64 X.ev, .slice LY.a1 X.starts.length LY.c1, .slice LY.a2 X.arrows.length LY.c2, .slice LY.a3 X.ends.length LY.c3] 25))) → _
          generalize W11.alloc (.cells #[.int .i64 X.st, .int .i64 X.ev, .slice LY.a1 X.starts.length LY.c1, .slice LY.a2 X.arrows.length LY.c2, .slice LY.a3 X.ends.length LY.c3] 25) = W12
          generalize W11.heap.size = p5
          intro B KM MT KL AT KA BT KB XT KX YT KY
          refine (refMSame_any X X LX LY _ XT.out YT.out).mono ?_
          rintro e W13 ⟨rfl, hb⟩
          replace B := Hid.of (B.out.trans (hb.mono B.out.size))
          replace KM := Hid.of (KM.out.below hb KM.out.lt)
          replace MT := Hid.of (MT.out.below hb (Nat.le_refl _))
          replace KL := Hid.of (KL.out.below hb KL.out.lt)
          replace AT := Hid.of (AT.out.below hb (Nat.le_refl _))
          replace KA := Hid.of (KA.out.below hb KA.out.lt)
          replace BT := Hid.of (BT.out.below hb (Nat.le_refl _))
          replace KB := Hid.of (KB.out.below hb KB.out.lt)
          replace XT := Hid.of (XT.out.below hb (Nat.le_refl _))
          replace KX := Hid.of (KX.out.below hb KX.out.lt)
          replace YT := Hid.of (YT.out.below hb (Nat.le_refl _))
          replace KY := Hid.of (KY.out.below hb KY.out.lt)
          clear hb
          rw [sameM_self]
          have dp : decide ((0 : Int) < X.st) = true := by simpa using hpos
          obtain ⟨x0, x1, x2, x3, x4⟩ := mcell_at KM.out
          obtain ⟨y0, y1, y2, y3, y4⟩ := mcell_at KX.out
          cases hz : (m.ev == 0) with
          | true =>
            go_wp2_with fail
            go_ret
            exact ⟨rfl, B.out⟩
          | false =>
            go_wp2_with fail
            go_ret
            exact ⟨rfl, B.out⟩
        · have d2 : decide ((6 : Int) < M.st) = true := by simp; omega
          go_wp2_with fail
          go_ret
          exact ⟨rfl, B.out⟩
    · have d1 : decide ((6 : Int) < m.st) = true := by simp; omega
      obtain ⟨x0, x1, x2, x3, x4⟩ := mcell_at KM.out
      go_wp2_with fail
      clear x0 x1 x2 x3 x4
      go_ret
      exact ⟨rfl, B.out⟩

end Go.Proofs.YtkkkacmccndinaaDoor
