/-
  The walk of jalousieref3.Trim.
-/
import Derived.Test.YtkofobefbjljfaaDoorG25
import Derived.Test.YtkofobefbjljfaaDoorG05
import Derived.Test.YtkofobefbjljfaaDoorG26
import Derived.Test.YtkofobefbjljfaaDoorRefSort
import Derived.Test.YtkofobefbjljfaaDoorG06
import Derived.Laws.ResultCell
namespace Go.Proofs.YtkofobefbjljfaaDoor
open Go.RowKit
set_option linter.unusedVariables false

theorem reach_len {m : Mach} (hm : mayB m = true) : (reachL m).length ≤ 2000000 := by
  have hz := mayB_size hm
  have hr := mayB_starts hm
  unfold sizeOk at hz
  unfold rowB at hr
  have h1 := goIs_len _ _ _ (by omega) hr
  have h2 := srt_len (closeN (·.f) (·.t) m.arrows m.st.toNat m.starts)
  have h3 := closeN_len (fr := (·.f)) (to := (·.t)) hz.2.2.2.2 m.st.toNat m.starts
  unfold reachL
  omega
theorem trim_len {m : Mach} (hm : mayB m = true) : (trimL m).length ≤ 2000000 := Nat.le_trans (List.length_filter_le _ _) (reach_len hm)
theorem placesL_le (l ss : List Int) : (placesL l ss).length ≤ ss.length := placesL_len l ss

theorem onlyO_any (a ay : Option Addr) (cx cy : Nat) (xs ys : List Int) (bb : Bool) (w : World) (hs : At w a xs) (hl : xs.length ≤ 17592186044416) (ht : At w ay ys) (hm : ys.length ≤ maxLen) :
    Calls Tryd.prog 32 #[.slice a xs.length cx, .slice ay ys.length cy, .bool bb] w fun e w' => GivesO w (xs.filter (fun n => hasB ys n == bb)) e w' := by
  rcases hs with rfl | ⟨b, off, rfl, hb, hc⟩
  · refine (only_nil a ay cx cy ys bb w).mono ?_
    rintro e w' ⟨rfl, rfl⟩
    exact ⟨_, rfl, own_nil _ _, Below.refl _ _⟩
  · refine (only_some b off cx cy ay xs ys bb w hl hb hc ht hm).mono ?_
    rintro e w' ⟨v, rfl, h1, h2⟩
    exact ⟨v, rfl, h1, h2⟩
theorem results_mach {fn : Func} {p u : Tmp} (h : fn.results = #[.cell p 25, .tmp u]) (tmps : Array Value) (w : World) (g : Nat) (m : Mach) (l : ML) (v : Value) (hp : tmps.getD p undef = .pointer (some ⟨g, 0, none⟩)) (hu : tmps.getD u undef = v) (hB : Blk w g 25 (mcells m l)) :
    (results fn tmps).run Tryd.prog w = .ok (.tuple #[mval m l, v]) w := by
  obtain ⟨x0, x1, x2, x3, x4⟩ := mcell_at hB
  rw [results_cell_tmp h, hp, hu]
  go_simp

/-- What Trim leaves. -/
def TrimGives (w : World) (m : Mach) (e : Ending) (w' : World) : Prop := ∃ (L : ML) (ba : Option Addr) (bc : Nat), e = .returned (.tuple #[mval (trimM m) L, .slice ba (trimL m).length bc]) ∧ MAt w' (trimM m) L ∧ At w' ba (trimL m) ∧ (trimL m).length ≤ maxLen ∧ Below w.heap.size w w'
set_option maxHeartbeats 4000000 in
set_option maxRecDepth 100000 in
theorem refTrim_nz (m : Mach) (l : ML) (w : World) (hm : Hid (mayB m = true)) (h : Hid (MAt w m l)) (hz : ¬ (trimL m).length = 0) :
    Calls Tryd.prog 24 #[mval m l] w fun e w' => TrimGives w m e w' := by
  have B0 : Hid (Below w.heap.size w ((w.alloc (.cells (mcells m l) 25)).alloc (.cells zcells 25))) := ((Below.refl _ _).alloc (Nat.le_refl _) _).alloc (by simp) _
  have K0 := Hid.of ((Blk.new w 25 (mcells m l)).alloc (.cells zcells 25))
  have R0 : Hid (Blk ((w.alloc (.cells (mcells m l) 25)).alloc (.cells zcells 25)) (w.heap.size + 1) 25 zcells) := by
    have := Blk.new (w.alloc (.cells (mcells m l) 25)) 25 zcells
    rwa [World.size_alloc] at this
  obtain ⟨i0, hi, hz0, hz1, hz2⟩ := info_parts Tryd.infoArrow
  have hsz0 : Hid (m.arrows.length ≤ 1000000) := by have := mayB_size hm.out; unfold sizeOk at this; show _ ≤ _; omega
  go_enter Tryd.func24, Tryd.ntmps24
  go_wp2_with fail
  refine (refReach_any m l _ hm.out (h.out.below B0.out (Nat.le_refl _))).mono ?_
  rintro e w1 ⟨ra, rc, rfl, at1, ln1, hb⟩
  have B1 := Hid.of (B0.out.trans (hb.mono B0.out.size))
  have K1 := Hid.of (K0.out.below hb K0.out.lt)
  have R1 := Hid.of (R0.out.below hb R0.out.lt)
  have A1 := Hid.of at1
  obtain ⟨x0, x1, x2, x3, x4⟩ := mcell_at K1.out
  clear hb at1
  go_wp2_with fail
  refine (refLive_any m l _ hm.out (h.out.below B1.out (Nat.le_refl _))).mono ?_
  rintro e w2 ⟨va, vc, rfl, at2, ln2, hb⟩
  have B2 := Hid.of (B1.out.trans (hb.mono B1.out.size))
  have K2 := Hid.of (K1.out.below hb K1.out.lt)
  have R2 := Hid.of (R1.out.below hb R1.out.lt)
  have A1 := Hid.of (A1.out.below hb (Nat.le_refl _))
  have A2 := Hid.of at2
  clear hb at2 x0 x1 x2 x3 x4
  obtain ⟨x0, x1, x2, x3, x4⟩ := mcell_at K2.out
  have r2 := R2.out.lt
  go_wp2_with fail
  refine (onlyO_any ra va rc vc (reachL m) (liveL m) true _ A1.out (by have := reach_len hm.out; omega) A2.out ln2).mono ?_
  rintro e w3 ⟨v3, rfl, o3, hb⟩
  obtain ⟨T, hT⟩ : ∃ T, T = trimL m := ⟨_, rfl⟩
  have HT := Hid.of hT
  have hTl := trim_len hm.out
  rw [← hT] at hz hTl
  unfold trimL at hT
  rw [← hT] at o3
  clear hT
  obtain ⟨ba, bc, rfl, at3, cb1, cb2, cb3⟩ := own_atX o3 (w.heap.size + 1) w3.heap.size r2 (.inr (Nat.le_refl _))
  have B3 := Hid.of (B2.out.trans (hb.mono B2.out.size))
  have K3 := Hid.of (K2.out.below hb K2.out.lt)
  have R3 := Hid.of (R2.out.below hb R2.out.lt)
  have A3 := Hid.of at3
  have CB := Hid.of (And.intro cb1 (And.intro cb2 cb3))
  have r3 : w2.heap.size ≤ w3.heap.size := hb.size
  clear hb at3 A1 A2 ln1 ln2 B1 K1 R1 B2 K2 R2 B0 K0 R0 o3 cb1 cb2 cb3
  clear x0 x1 x2 x3 x4
  obtain ⟨x0, x1, x2, x3, x4⟩ := mcell_at K3.out
  have hzd : ((T.length : Int) == 0) = false := by rw [beq_eq_false_iff_ne]; omega
  have l3 := K3.out.lt
  go_wp2_with fail
  have hb : Below w3.heap.size w3 (w3.alloc (.cells #[.int .i64 (T.length : Int), .int .i64 m.ev, .slice none 0 0, .slice none 0 0, .slice none 0 0] 25)) := (Below.refl _ _).alloc (Nat.le_refl _) _
  have B4 := Hid.of (B3.out.trans (hb.mono B3.out.size))
  have K4 := Hid.of (K3.out.below hb K3.out.lt)
  have R4 := Hid.of (R3.out.below hb R3.out.lt)
  have A4 := Hid.of (A3.out.below hb)
  have N4 := Hid.of (Blk.new w3 25 #[.int .i64 (T.length : Int), .int .i64 m.ev, .slice none 0 0, .slice none 0 0, .slice none 0 0])
  have Z4 : Hid ((w3.alloc (.cells #[.int .i64 (T.length : Int), .int .i64 m.ev, .slice none 0 0, .slice none 0 0, .slice none 0 0] 25)).heap.size = w3.heap.size + 1) := World.size_alloc _ _
  clear hb K3 R3 A3 x0 x1 x2 x3 x4
  revert B4 K4 R4 A4 N4 Z4
  generalize w3.alloc (.cells #[.int .i64 (T.length : Int), .int .i64 m.ev, .slice none 0 0, .slice none 0 0, .slice none 0 0] 25) = w4
  intro B4 K4 R4 A4 N4 Z4
  refine (places_any ba l.a1 bc l.c1 T m.starts _ A4.out.at (Nat.le_trans CB.out.1 CB.out.2.1) (h.out.below B4.out (Nat.le_refl _)).s (by have := startsLen hm.out; omega)).mono ?_
  rintro e w5 ⟨v5, rfl, o5, hb⟩
  obtain ⟨sa, sc, rfl, at5, cs1, cs2, cs3⟩ := own_atX o5 (w.heap.size + 1) w3.heap.size (by have := Z4.out; omega) (.inl (by have := Z4.out; omega))
  have B5 := Hid.of (B4.out.trans (hb.mono B4.out.size))
  have K5 := Hid.of (K4.out.below hb K4.out.lt)
  have R5 := Hid.of (R4.out.below hb R4.out.lt)
  have A5 := Hid.of (A4.out.below hb)
  have N5 := Hid.of (N4.out.below hb N4.out.lt)
  have S5 := Hid.of at5
  have CS := Hid.of (And.intro cs1 (And.intro cs2 cs3))
  have z5 := hb.size
  obtain ⟨x0, x1, x2, x3, x4⟩ := mcell_at K5.out
  have f5 := N5.out.frozen
  have g5 : w5.cell? ⟨w3.heap.size, 2, none⟩ = some (.slice none 0 0) := N5.out.cell 2 rfl
  have z4 := Z4.out
  clear hb at5 o5 cs1 cs2 cs3
  have hne1 : ¬ w.heap.size = w3.heap.size := by omega
  have hne2 : ¬ w3.heap.size = w.heap.size := by omega
  go_wp2_with fail
  have B6 := Hid.of (B5.out.setCell (p := ⟨w3.heap.size, 2, none⟩) (by show w.heap.size ≤ w3.heap.size; omega) (.slice sa (placesL T m.starts).length sc))
  have K6 := Hid.of (K5.out.other (j := 2) hne1 (.slice sa (placesL T m.starts).length sc))
  have R6 := Hid.of (R5.out.other (j := 2) (b' := w3.heap.size) (by omega) (.slice sa (placesL T m.starts).length sc))
  have A6 := Hid.of (A5.out.set (j := 2) (.slice sa (placesL T m.starts).length sc))
  have S6 := Hid.of (S5.out.set (j := 2) (.slice sa (placesL T m.starts).length sc))
  have N6 : Hid (Blk (w5.setCell ⟨w3.heap.size, 2, none⟩ (.slice sa (placesL T m.starts).length sc)) w3.heap.size 25 #[.int .i64 (T.length : Int), .int .i64 m.ev, .slice sa (placesL T m.starts).length sc, .slice none 0 0, .slice none 0 0]) := N5.out.set 2 _
  have z6 : (w5.setCell ⟨w3.heap.size, 2, none⟩ (.slice sa (placesL T m.starts).length sc)).heap.size = w5.heap.size := size_set _ _ _
  clear x0 x1 x2 x3 x4 f5 g5 A5 B5 K5 R5 N5 S5 A4 B4 K4 R4 N4 Z4
  revert B6 K6 R6 A6 S6 N6 z6
  generalize w5.setCell ⟨w3.heap.size, 2, none⟩ (.slice sa (placesL T m.starts).length sc) = w6
  intro B6 K6 R6 A6 S6 N6 z6
  refine (places_any ba l.a3 bc l.c3 T m.ends _ A6.out.at (Nat.le_trans CB.out.1 CB.out.2.1) (h.out.below B6.out (Nat.le_refl _)).e (by have := endsLen hm.out; omega)).mono ?_
  rintro e w7 ⟨v7, rfl, o7, hb⟩
  obtain ⟨ea, ec, rfl, at7, ce1, ce2, ce3⟩ := own_atX o7 (w.heap.size + 1) w3.heap.size (by omega) (.inl (by omega))
  have B7 := Hid.of (B6.out.trans (hb.mono B6.out.size))
  have K7 := Hid.of (K6.out.below hb K6.out.lt)
  have R7 := Hid.of (R6.out.below hb R6.out.lt)
  have A7 := Hid.of (A6.out.below hb)
  have S7 := Hid.of (S6.out.below hb)
  have N7 := Hid.of (N6.out.below hb N6.out.lt)
  have E7 := Hid.of at7
  have CE := Hid.of (And.intro ce1 (And.intro ce2 ce3))
  have z7 := hb.size
  have f7 := N7.out.frozen
  have g7 : w7.cell? ⟨w3.heap.size, 4, none⟩ = some (.slice none 0 0) := N7.out.cell 4 rfl
  clear hb at7 o7 ce1 ce2 ce3 B6 K6 R6 A6 S6 N6
  go_wp2_with fail
  have B8 := Hid.of (B7.out.setCell (p := ⟨w3.heap.size, 4, none⟩) (by show w.heap.size ≤ w3.heap.size; omega) (.slice ea (placesL T m.ends).length ec))
  have K8 := Hid.of (K7.out.other (j := 4) hne1 (.slice ea (placesL T m.ends).length ec))
  have R8 := Hid.of (R7.out.other (j := 4) (b' := w3.heap.size) (by omega) (.slice ea (placesL T m.ends).length ec))
  have A8 := Hid.of (A7.out.set (j := 4) (.slice ea (placesL T m.ends).length ec))
  have S8 := Hid.of (S7.out.set (j := 4) (.slice ea (placesL T m.ends).length ec))
  have E8 := Hid.of (E7.out.set (j := 4) (.slice ea (placesL T m.ends).length ec))
  have N8 : Hid (Blk (w7.setCell ⟨w3.heap.size, 4, none⟩ (.slice ea (placesL T m.ends).length ec)) w3.heap.size 25 #[.int .i64 (T.length : Int), .int .i64 m.ev, .slice sa (placesL T m.starts).length sc, .slice none 0 0, .slice ea (placesL T m.ends).length ec]) := N7.out.set 4 _
  have z8 : Hid ((w7.setCell ⟨w3.heap.size, 4, none⟩ (.slice ea (placesL T m.ends).length ec)).heap.size = w7.heap.size) := size_set _ _ _
  clear f7 g7 A7 B7 K7 R7 N7 S7 E7
  revert B8 K8 R8 A8 S8 N8 E8 z8
  generalize w7.setCell ⟨w3.heap.size, 4, none⟩ (.slice ea (placesL T m.ends).length ec) = w8
  intro B8 K8 R8 A8 S8 E8 N8 z8
  go_loopw [8, 9] (fun v i wr => ∃ k : Nat, k ≤ m.arrows.length ∧ i = .int .i64 k ∧ Hid (OwnA wr w8.heap.size v (trimA T (m.arrows.take k))) ∧ Hid (Below w8.heap.size w8 wr)) (fun _ i _ => m.arrows.length - (intOf i).toNat)
  case atStart => exact ⟨0, Nat.zero_le _, rfl, ownA_nil _ _, Below.refl _ _⟩
  case round =>
    obtain ⟨k, hk, rfl, hown, hbel⟩ := hrel
    have hsz := hbel.out.size
    have x3 : wr.cell? ⟨w.heap.size, 3, none⟩ = some (.slice l.a2 m.arrows.length l.c2) := (K8.out.below hbel.out K8.out.lt).cell 3 rfl
    by_cases hlt : k < m.arrows.length
    · have hat : AtA wr l.a2 m.arrows := (h.out.below B8.out (Nat.le_refl _)).a.below hbel.out (Nat.le_refl _)
      rcases hat with hat | ⟨b, off, ha2, hb, hca⟩
      · rw [hat] at hlt; simp at hlt
      obtain ⟨a, HA, y0, y1, y2⟩ := hca.at hlt
      rw [ha2] at x3
      have HN := Hid.of (trimA_take (T := T) hlt HA)
      have hal := hsz0.out
      have hll : (trimA T (m.arrows.take k)).length ≤ k := Nat.le_trans (trimA_len _ _) (List.length_take_le _ _)
      have HAT : Hid (At (wr.alloc (.cells #[.int .i64 a.f, .int .i64 a.e, .int .i64 a.t] 46)) ba T) := (A8.out.below (hbel.out.alloc hsz _)).at
      clear ha2 hca
      go_wp2_with fail
      refine (place_any ba bc T a.f _ HAT.out (Nat.le_trans CB.out.1 CB.out.2.1)).mono ?_
      rintro e w9 ⟨rfl, rfl⟩
      go_wp2_with fail
      refine (place_any ba bc T a.t _ HAT.out (Nat.le_trans CB.out.1 CB.out.2.1)).mono ?_
      rintro e w9 ⟨rfl, rfl⟩
      by_cases d1 : 0 ≤ placeI T a.f
      · have dd1 : decide (0 ≤ placeI T a.f) = true := by simpa using d1
        by_cases d2 : 0 ≤ placeI T a.t
        · have dd2 : decide (0 ≤ placeI T a.t) = true := by simpa using d2
          have HR : Hid (trimA T (m.arrows.take (k + 1)) = trimA T (m.arrows.take k) ++ [⟨placeI T a.f, a.e, placeI T a.t⟩]) := by show _ = _; rw [HN.out, dd1, dd2]; rfl
          clear HN
          generalize placeI T a.f = p at *
          generalize placeI T a.t = q at *
          generalize trimA T (m.arrows.take k) = L at *
          go_wp2_with (at_builtin; refine wpList_append_arrs _ rfl (.tmp 65) (.tmp 71) 23 rfl w8.heap.size i0 Tryd.underlying23 hi hz0 hz1 hz2 _ L rfl (World.ownsRow.alloc (World.ownsRow.alloc hown.out _) _) (some ⟨wr.heap.size + 1, 0, none⟩) 1 [⟨p, a.e, q⟩] rfl (atA_new _ _ ⟨p, a.e, q⟩ _ (World.size_alloc _ _).symm) (fun h => by cases h) (by simp; omega) (by simp; omega) ?_)
          intro v9 w9 o9 g9 n9
          have b9 := Hid.of (ownA_snoc2 hown.out hbel.out hsz g9)
          have O9 := Hid.of o9
          clear o9 g9 n9 hown
          go_wp2_with fail
          go_roundw
          case rel => exact ⟨k + 1, by omega, by go_num, by rw [HR.out]; exact O9, b9⟩
          case measure => simp [intOf]; omega
        · have dd2 : decide (0 ≤ placeI T a.t) = false := by simpa using d2
          have HR : Hid (trimA T (m.arrows.take (k + 1)) = trimA T (m.arrows.take k)) := by show _ = _; rw [HN.out, dd1, dd2]; rfl
          clear HN
          generalize placeI T a.f = p at *
          generalize placeI T a.t = q at *
          go_wp2_with fail
          go_roundw
          case rel => exact ⟨k + 1, by omega, by go_num, by rw [HR.out]; exact World.ownsRow.alloc hown.out _, hbel.out.alloc hsz _⟩
          case measure => simp [intOf]; omega
      · have dd1 : decide (0 ≤ placeI T a.f) = false := by simpa using d1
        have HR : Hid (trimA T (m.arrows.take (k + 1)) = trimA T (m.arrows.take k)) := by show _ = _; rw [HN.out, dd1]; rfl
        clear HN
        generalize placeI T a.f = p at *
        generalize placeI T a.t = q at *
        go_wp2_with fail
        go_roundw
        case rel => exact ⟨k + 1, by omega, by go_num, by rw [HR.out]; exact World.ownsRow.alloc hown.out _, hbel.out.alloc hsz _⟩
        case measure => simp [intOf]; omega
    · rw [List.take_of_length_le (by omega)] at hown
      obtain ⟨la, lc, rfl, atl, -, -, -⟩ := hown.out.at
      have AL := Hid.of atl
      have hll := trimA_len T m.arrows
      have hal := hsz0.out
      clear atl hown
      go_wp2_with fail
      refine (refSort_any la lc (trimA T m.arrows) _ AL.out (by omega)).mono ?_
      rintro e w9 ⟨aa, ac, rfl, at9, ca1, ca2, ca3, hb⟩
      have b9 := hbel.out.trans (hb.mono hsz)
      have B9 := Hid.of (B8.out.trans (b9.mono B8.out.size))
      have R9 := Hid.of (R8.out.below b9 R8.out.lt)
      have N9 := Hid.of (N8.out.below b9 N8.out.lt)
      have A9 := Hid.of (A8.out.below b9)
      have S9 := Hid.of (S8.out.below b9)
      have E9 := Hid.of (E8.out.below b9)
      have L9 := Hid.of at9
      have CA := Hid.of (And.intro ca1 (And.intro ca2 ca3))
      have f9 := N9.out.frozen
      have g9 : w9.cell? ⟨w3.heap.size, 3, none⟩ = some (.slice none 0 0) := N9.out.cell 3 rfl
      have g0 := N9.out.cell 0 rfl
      have g1 := N9.out.cell 1 rfl
      have g2 := N9.out.cell 2 rfl
      have g4 := N9.out.cell 4 rfl
      have fr := R9.out.frozen
      have r0 := R9.out.cell 0 rfl
      have r1 := R9.out.cell 1 rfl
      have r2' := R9.out.cell 2 rfl
      have r3' := R9.out.cell 3 rfl
      have r4 := R9.out.cell 4 rfl
      clear hb at9 ca1 ca2 ca3 b9 x3
      have hne3 : ¬ w3.heap.size = w.heap.size + 1 := by omega
      have hne4 : ¬ w.heap.size + 1 = w3.heap.size := by omega
      go_wp2_with fail
      obtain ⟨M, hM⟩ : ∃ M : Mach, M = ⟨(T.length : Int), m.ev, placesL T m.starts, srtA (trimA T m.arrows), placesL T m.ends⟩ := ⟨_, rfl⟩
      have HM : M = trimM m := by rw [hM]; unfold trimM; rw [← HT.out, if_neg hz]
      have R10 := R9.out.other (j := 3) hne4 (.slice aa (srtA (trimA T m.arrows)).length ac)
      have L10 := (L9.out.apart N9.out).set (j := 3) (.slice aa (srtA (trimA T m.arrows)).length ac)
      have L11 := (((((L10.at.apart R10).set (j := 0) (.int .i64 (T.length : Int))).set (j := 1) (.int .i64 m.ev)).set (j := 2) (.slice sa (placesL T m.starts).length sc)).set (j := 3) (.slice aa (srtA (trimA T m.arrows)).length ac)).set (j := 4) (.slice ea (placesL T m.ends).length ec)
      have R11 : Blk _ (w.heap.size + 1) 25 (mcells ⟨(T.length : Int), m.ev, placesL T m.starts, srtA (trimA T m.arrows), placesL T m.ends⟩ ⟨sa, sc, aa, ac, ea, ec⟩) := (((((R10.set 0 (.int .i64 (T.length : Int))).set 1 (.int .i64 m.ev)).set 2 (.slice sa (placesL T m.starts).length sc)).set 3 (.slice aa (srtA (trimA T m.arrows)).length ac)).set 4 (.slice ea (placesL T m.ends).length ec))
      have up : ∀ {a : Option Addr} {xs : List Int}, AtX w9 (w.heap.size + 1) w3.heap.size a xs → At ((((((w9.setCell ⟨w3.heap.size, 3, none⟩ (.slice aa (srtA (trimA T m.arrows)).length ac)).setCell ⟨w.heap.size + 1, 0, none⟩ (.int .i64 (T.length : Int))).setCell ⟨w.heap.size + 1, 1, none⟩ (.int .i64 m.ev)).setCell ⟨w.heap.size + 1, 2, none⟩ (.slice sa (placesL T m.starts).length sc)).setCell ⟨w.heap.size + 1, 3, none⟩ (.slice aa (srtA (trimA T m.arrows)).length ac)).setCell ⟨w.heap.size + 1, 4, none⟩ (.slice ea (placesL T m.ends).length ec)) a xs := fun h => ((((((h.set (j := 3) _).setr (j := 0) _).setr (j := 1) _).setr (j := 2) _).setr (j := 3) _).setr (j := 4) _).at
      have B11 := (((((B9.out.setCell (p := ⟨w3.heap.size, 3, none⟩) (by show w.heap.size ≤ w3.heap.size; omega) (.slice aa (srtA (trimA T m.arrows)).length ac)).setCell (p := ⟨w.heap.size + 1, 0, none⟩) (by show w.heap.size ≤ w.heap.size + 1; omega) (.int .i64 (T.length : Int))).setCell (p := ⟨w.heap.size + 1, 1, none⟩) (by show w.heap.size ≤ w.heap.size + 1; omega) (.int .i64 m.ev)).setCell (p := ⟨w.heap.size + 1, 2, none⟩) (by show w.heap.size ≤ w.heap.size + 1; omega) (.slice sa (placesL T m.starts).length sc)).setCell (p := ⟨w.heap.size + 1, 3, none⟩) (by show w.heap.size ≤ w.heap.size + 1; omega) (.slice aa (srtA (trimA T m.arrows)).length ac)).setCell (p := ⟨w.heap.size + 1, 4, none⟩) (by show w.heap.size ≤ w.heap.size + 1; omega) (.slice ea (placesL T m.ends).length ec)
      refine bodyPost_ret (v := .tuple #[mval ⟨(T.length : Int), m.ev, placesL T m.starts, srtA (trimA T m.arrows), placesL T m.ends⟩ ⟨sa, sc, aa, ac, ea, ec⟩, .slice ba T.length bc]) ?_ rfl ?_
      · exact results_mach (p := 2) (u := 3) rfl _ _ (w.heap.size + 1) _ ⟨sa, sc, aa, ac, ea, ec⟩ _ rfl rfl R11
      · refine ⟨⟨sa, sc, aa, ac, ea, ec⟩, ba, bc, ?_, ?_, ?_, ?_, B11⟩
        · rw [← HM, hM, ← HT.out]
        · rw [← HM, hM]
          exact ⟨up S9.out, L11.at, up E9.out, CS.out.1, CS.out.2.1, CS.out.2.2, CA.out.1, CA.out.2.1, CA.out.2.2, CE.out.1, CE.out.2.1, CE.out.2.2⟩
        · rw [← HT.out]; exact up A9.out
        · rw [← HT.out]; exact Nat.le_trans CB.out.1 CB.out.2.1

set_option maxHeartbeats 4000000 in
set_option maxRecDepth 100000 in
theorem refTrim_z (m : Mach) (l : ML) (w : World) (hm : Hid (mayB m = true)) (h : Hid (MAt w m l)) (hz : (trimL m).length = 0) :
    Calls Tryd.prog 24 #[mval m l] w fun e w' => TrimGives w m e w' := by
  have B0 : Hid (Below w.heap.size w ((w.alloc (.cells (mcells m l) 25)).alloc (.cells zcells 25))) := ((Below.refl _ _).alloc (Nat.le_refl _) _).alloc (by simp) _
  have K0 := Hid.of ((Blk.new w 25 (mcells m l)).alloc (.cells zcells 25))
  have R0 : Hid (Blk ((w.alloc (.cells (mcells m l) 25)).alloc (.cells zcells 25)) (w.heap.size + 1) 25 zcells) := by
    have := Blk.new (w.alloc (.cells (mcells m l) 25)) 25 zcells
    rwa [World.size_alloc] at this
  obtain ⟨i0, hi, hz0, hz1, hz2⟩ := info_parts Tryd.infoArrow
  have hsz0 : Hid (m.arrows.length ≤ 1000000) := by have := mayB_size hm.out; unfold sizeOk at this; show _ ≤ _; omega
  go_enter Tryd.func24, Tryd.ntmps24
  go_wp2_with fail
  refine (refReach_any m l _ hm.out (h.out.below B0.out (Nat.le_refl _))).mono ?_
  rintro e w1 ⟨ra, rc, rfl, at1, ln1, hb⟩
  have B1 := Hid.of (B0.out.trans (hb.mono B0.out.size))
  have K1 := Hid.of (K0.out.below hb K0.out.lt)
  have R1 := Hid.of (R0.out.below hb R0.out.lt)
  have A1 := Hid.of at1
  obtain ⟨x0, x1, x2, x3, x4⟩ := mcell_at K1.out
  clear hb at1
  go_wp2_with fail
  refine (refLive_any m l _ hm.out (h.out.below B1.out (Nat.le_refl _))).mono ?_
  rintro e w2 ⟨va, vc, rfl, at2, ln2, hb⟩
  have B2 := Hid.of (B1.out.trans (hb.mono B1.out.size))
  have K2 := Hid.of (K1.out.below hb K1.out.lt)
  have R2 := Hid.of (R1.out.below hb R1.out.lt)
  have A1 := Hid.of (A1.out.below hb (Nat.le_refl _))
  have A2 := Hid.of at2
  clear hb at2 x0 x1 x2 x3 x4
  obtain ⟨x0, x1, x2, x3, x4⟩ := mcell_at K2.out
  have r2 := R2.out.lt
  go_wp2_with fail
  refine (onlyO_any ra va rc vc (reachL m) (liveL m) true _ A1.out (by have := reach_len hm.out; omega) A2.out ln2).mono ?_
  rintro e w3 ⟨v3, rfl, o3, hb⟩
  obtain ⟨T, hT⟩ : ∃ T, T = trimL m := ⟨_, rfl⟩
  have HT := Hid.of hT
  have hTl := trim_len hm.out
  rw [← hT] at hz hTl
  unfold trimL at hT
  rw [← hT] at o3
  clear hT
  have hTn : T = [] := List.eq_nil_of_length_eq_zero hz
  subst hTn
  obtain ⟨ba, bc, rfl, at3, cb1, cb2, cb3⟩ := own_atX o3 (w.heap.size + 1) w3.heap.size r2 (.inr (Nat.le_refl _))
  have B3 := Hid.of (B2.out.trans (hb.mono B2.out.size))
  have K3 := Hid.of (K2.out.below hb K2.out.lt)
  have R3 := Hid.of (R2.out.below hb R2.out.lt)
  have A3 := Hid.of at3
  have CB := Hid.of (And.intro cb1 (And.intro cb2 cb3))
  have r3 : w2.heap.size ≤ w3.heap.size := hb.size
  clear hb at3 A1 A2 ln1 ln2 B1 K1 R1 B2 K2 R2 B0 K0 R0 o3 cb1 cb2 cb3
  clear x0 x1 x2 x3 x4
  obtain ⟨x0, x1, x2, x3, x4⟩ := mcell_at K3.out
  have hzd : ((([] : List Int).length : Int) == 0) = true := by rw [hz]; rfl
  have l3 := K3.out.lt
  go_wp2_with fail
  have hb : Below w3.heap.size w3 (w3.alloc (.cells #[.int .i64 1, .int .i64 m.ev, .slice none 0 0, .slice none 0 0, .slice none 0 0] 25)) := (Below.refl _ _).alloc (Nat.le_refl _) _
  have B4 := Hid.of (B3.out.trans (hb.mono B3.out.size))
  have K4 := Hid.of (K3.out.below hb K3.out.lt)
  have R4 := Hid.of (R3.out.below hb R3.out.lt)
  have A4 := Hid.of (A3.out.below hb)
  have N4 := Hid.of (Blk.new w3 25 #[.int .i64 1, .int .i64 m.ev, .slice none 0 0, .slice none 0 0, .slice none 0 0])
  have Z4 : Hid ((w3.alloc (.cells #[.int .i64 1, .int .i64 m.ev, .slice none 0 0, .slice none 0 0, .slice none 0 0] 25)).heap.size = w3.heap.size + 1) := World.size_alloc _ _
  clear hb K3 R3 A3 x0 x1 x2 x3 x4
  revert B4 K4 R4 A4 N4 Z4
  generalize w3.alloc (.cells #[.int .i64 1, .int .i64 m.ev, .slice none 0 0, .slice none 0 0, .slice none 0 0] 25) = w4
  intro B4 K4 R4 A4 N4 Z4
  refine (places_any ba l.a1 bc l.c1 ([] : List Int) m.starts _ A4.out.at (Nat.le_trans CB.out.1 CB.out.2.1) (h.out.below B4.out (Nat.le_refl _)).s (by have := startsLen hm.out; omega)).mono ?_
  rintro e w5 ⟨v5, rfl, o5, hb⟩
  obtain ⟨sa, sc, rfl, at5, cs1, cs2, cs3⟩ := own_atX o5 (w.heap.size + 1) w3.heap.size (by have := Z4.out; omega) (.inl (by have := Z4.out; omega))
  have B5 := Hid.of (B4.out.trans (hb.mono B4.out.size))
  have K5 := Hid.of (K4.out.below hb K4.out.lt)
  have R5 := Hid.of (R4.out.below hb R4.out.lt)
  have A5 := Hid.of (A4.out.below hb)
  have N5 := Hid.of (N4.out.below hb N4.out.lt)
  have S5 := Hid.of at5
  have CS := Hid.of (And.intro cs1 (And.intro cs2 cs3))
  have z5 := hb.size
  obtain ⟨x0, x1, x2, x3, x4⟩ := mcell_at K5.out
  have f5 := N5.out.frozen
  have g5 : w5.cell? ⟨w3.heap.size, 2, none⟩ = some (.slice none 0 0) := N5.out.cell 2 rfl
  have z4 := Z4.out
  clear hb at5 o5 cs1 cs2 cs3
  have hne1 : ¬ w.heap.size = w3.heap.size := by omega
  have hne2 : ¬ w3.heap.size = w.heap.size := by omega
  go_wp2_with fail
  have B6 := Hid.of (B5.out.setCell (p := ⟨w3.heap.size, 2, none⟩) (by show w.heap.size ≤ w3.heap.size; omega) (.slice sa (placesL ([] : List Int) m.starts).length sc))
  have K6 := Hid.of (K5.out.other (j := 2) hne1 (.slice sa (placesL ([] : List Int) m.starts).length sc))
  have R6 := Hid.of (R5.out.other (j := 2) (b' := w3.heap.size) (by omega) (.slice sa (placesL ([] : List Int) m.starts).length sc))
  have A6 := Hid.of (A5.out.set (j := 2) (.slice sa (placesL ([] : List Int) m.starts).length sc))
  have S6 := Hid.of (S5.out.set (j := 2) (.slice sa (placesL ([] : List Int) m.starts).length sc))
  have N6 : Hid (Blk (w5.setCell ⟨w3.heap.size, 2, none⟩ (.slice sa (placesL ([] : List Int) m.starts).length sc)) w3.heap.size 25 #[.int .i64 1, .int .i64 m.ev, .slice sa (placesL ([] : List Int) m.starts).length sc, .slice none 0 0, .slice none 0 0]) := N5.out.set 2 _
  have z6 : (w5.setCell ⟨w3.heap.size, 2, none⟩ (.slice sa (placesL ([] : List Int) m.starts).length sc)).heap.size = w5.heap.size := size_set _ _ _
  clear x0 x1 x2 x3 x4 f5 g5 A5 B5 K5 R5 N5 S5 A4 B4 K4 R4 N4 Z4
  revert B6 K6 R6 A6 S6 N6 z6
  generalize w5.setCell ⟨w3.heap.size, 2, none⟩ (.slice sa (placesL ([] : List Int) m.starts).length sc) = w6
  intro B6 K6 R6 A6 S6 N6 z6
  refine (places_any ba l.a3 bc l.c3 ([] : List Int) m.ends _ A6.out.at (Nat.le_trans CB.out.1 CB.out.2.1) (h.out.below B6.out (Nat.le_refl _)).e (by have := endsLen hm.out; omega)).mono ?_
  rintro e w7 ⟨v7, rfl, o7, hb⟩
  obtain ⟨ea, ec, rfl, at7, ce1, ce2, ce3⟩ := own_atX o7 (w.heap.size + 1) w3.heap.size (by omega) (.inl (by omega))
  have B7 := Hid.of (B6.out.trans (hb.mono B6.out.size))
  have K7 := Hid.of (K6.out.below hb K6.out.lt)
  have R7 := Hid.of (R6.out.below hb R6.out.lt)
  have A7 := Hid.of (A6.out.below hb)
  have S7 := Hid.of (S6.out.below hb)
  have N7 := Hid.of (N6.out.below hb N6.out.lt)
  have E7 := Hid.of at7
  have CE := Hid.of (And.intro ce1 (And.intro ce2 ce3))
  have z7 := hb.size
  have f7 := N7.out.frozen
  have g7 : w7.cell? ⟨w3.heap.size, 4, none⟩ = some (.slice none 0 0) := N7.out.cell 4 rfl
  clear hb at7 o7 ce1 ce2 ce3 B6 K6 R6 A6 S6 N6
  go_wp2_with fail
  have B8 := Hid.of (B7.out.setCell (p := ⟨w3.heap.size, 4, none⟩) (by show w.heap.size ≤ w3.heap.size; omega) (.slice ea (placesL ([] : List Int) m.ends).length ec))
  have K8 := Hid.of (K7.out.other (j := 4) hne1 (.slice ea (placesL ([] : List Int) m.ends).length ec))
  have R8 := Hid.of (R7.out.other (j := 4) (b' := w3.heap.size) (by omega) (.slice ea (placesL ([] : List Int) m.ends).length ec))
  have A8 := Hid.of (A7.out.set (j := 4) (.slice ea (placesL ([] : List Int) m.ends).length ec))
  have S8 := Hid.of (S7.out.set (j := 4) (.slice ea (placesL ([] : List Int) m.ends).length ec))
  have E8 := Hid.of (E7.out.set (j := 4) (.slice ea (placesL ([] : List Int) m.ends).length ec))
  have N8 : Hid (Blk (w7.setCell ⟨w3.heap.size, 4, none⟩ (.slice ea (placesL ([] : List Int) m.ends).length ec)) w3.heap.size 25 #[.int .i64 1, .int .i64 m.ev, .slice sa (placesL ([] : List Int) m.starts).length sc, .slice none 0 0, .slice ea (placesL ([] : List Int) m.ends).length ec]) := N7.out.set 4 _
  have z8 : Hid ((w7.setCell ⟨w3.heap.size, 4, none⟩ (.slice ea (placesL ([] : List Int) m.ends).length ec)).heap.size = w7.heap.size) := size_set _ _ _
  clear f7 g7 A7 B7 K7 R7 N7 S7 E7
  revert B8 K8 R8 A8 S8 N8 E8 z8
  generalize w7.setCell ⟨w3.heap.size, 4, none⟩ (.slice ea (placesL ([] : List Int) m.ends).length ec) = w8
  intro B8 K8 R8 A8 S8 E8 N8 z8
  go_loopw [8, 9] (fun v i wr => ∃ k : Nat, k ≤ m.arrows.length ∧ i = .int .i64 k ∧ Hid (OwnA wr w8.heap.size v (trimA ([] : List Int) (m.arrows.take k))) ∧ Hid (Below w8.heap.size w8 wr)) (fun _ i _ => m.arrows.length - (intOf i).toNat)
  case atStart => exact ⟨0, Nat.zero_le _, rfl, ownA_nil _ _, Below.refl _ _⟩
  case round =>
    obtain ⟨k, hk, rfl, hown, hbel⟩ := hrel
    have hsz := hbel.out.size
    have x3 : wr.cell? ⟨w.heap.size, 3, none⟩ = some (.slice l.a2 m.arrows.length l.c2) := (K8.out.below hbel.out K8.out.lt).cell 3 rfl
    by_cases hlt : k < m.arrows.length
    · have hat : AtA wr l.a2 m.arrows := (h.out.below B8.out (Nat.le_refl _)).a.below hbel.out (Nat.le_refl _)
      rcases hat with hat | ⟨b, off, ha2, hb, hca⟩
      · rw [hat] at hlt; simp at hlt
      obtain ⟨a, HA, y0, y1, y2⟩ := hca.at hlt
      rw [ha2] at x3
      have HN := Hid.of (trimA_take (T := ([] : List Int)) hlt HA)
      have hal := hsz0.out
      have hll : (trimA ([] : List Int) (m.arrows.take k)).length ≤ k := Nat.le_trans (trimA_len _ _) (List.length_take_le _ _)
      have HAT : Hid (At (wr.alloc (.cells #[.int .i64 a.f, .int .i64 a.e, .int .i64 a.t] 46)) ba ([] : List Int)) := (A8.out.below (hbel.out.alloc hsz _)).at
      clear ha2 hca
      go_wp2_with fail
      refine (place_any ba bc ([] : List Int) a.f _ HAT.out (Nat.le_trans CB.out.1 CB.out.2.1)).mono ?_
      rintro e w9 ⟨rfl, rfl⟩
      go_wp2_with fail
      refine (place_any ba bc ([] : List Int) a.t _ HAT.out (Nat.le_trans CB.out.1 CB.out.2.1)).mono ?_
      rintro e w9 ⟨rfl, rfl⟩
      by_cases d1 : 0 ≤ placeI ([] : List Int) a.f
      · have dd1 : decide (0 ≤ placeI ([] : List Int) a.f) = true := by simpa using d1
        by_cases d2 : 0 ≤ placeI ([] : List Int) a.t
        · have dd2 : decide (0 ≤ placeI ([] : List Int) a.t) = true := by simpa using d2
          have HR : Hid (trimA ([] : List Int) (m.arrows.take (k + 1)) = trimA ([] : List Int) (m.arrows.take k) ++ [⟨placeI ([] : List Int) a.f, a.e, placeI ([] : List Int) a.t⟩]) := by show _ = _; rw [HN.out, dd1, dd2]; rfl
          clear HN
          generalize placeI ([] : List Int) a.f = p at *
          generalize placeI ([] : List Int) a.t = q at *
          generalize trimA ([] : List Int) (m.arrows.take k) = L at *
          go_wp2_with (at_builtin; refine wpList_append_arrs _ rfl (.tmp 65) (.tmp 71) 23 rfl w8.heap.size i0 Tryd.underlying23 hi hz0 hz1 hz2 _ L rfl (World.ownsRow.alloc (World.ownsRow.alloc hown.out _) _) (some ⟨wr.heap.size + 1, 0, none⟩) 1 [⟨p, a.e, q⟩] rfl (atA_new _ _ ⟨p, a.e, q⟩ _ (World.size_alloc _ _).symm) (fun h => by cases h) (by simp; omega) (by simp; omega) ?_)
          intro v9 w9 o9 g9 n9
          have b9 := Hid.of (ownA_snoc2 hown.out hbel.out hsz g9)
          have O9 := Hid.of o9
          clear o9 g9 n9 hown
          go_wp2_with fail
          go_roundw
          case rel => exact ⟨k + 1, by omega, by go_num, by rw [HR.out]; exact O9, b9⟩
          case measure => simp [intOf]; omega
        · have dd2 : decide (0 ≤ placeI ([] : List Int) a.t) = false := by simpa using d2
          have HR : Hid (trimA ([] : List Int) (m.arrows.take (k + 1)) = trimA ([] : List Int) (m.arrows.take k)) := by show _ = _; rw [HN.out, dd1, dd2]; rfl
          clear HN
          generalize placeI ([] : List Int) a.f = p at *
          generalize placeI ([] : List Int) a.t = q at *
          go_wp2_with fail
          go_roundw
          case rel => exact ⟨k + 1, by omega, by go_num, by rw [HR.out]; exact World.ownsRow.alloc hown.out _, hbel.out.alloc hsz _⟩
          case measure => simp [intOf]; omega
      · have dd1 : decide (0 ≤ placeI ([] : List Int) a.f) = false := by simpa using d1
        have HR : Hid (trimA ([] : List Int) (m.arrows.take (k + 1)) = trimA ([] : List Int) (m.arrows.take k)) := by show _ = _; rw [HN.out, dd1]; rfl
        clear HN
        generalize placeI ([] : List Int) a.f = p at *
        generalize placeI ([] : List Int) a.t = q at *
        go_wp2_with fail
        go_roundw
        case rel => exact ⟨k + 1, by omega, by go_num, by rw [HR.out]; exact World.ownsRow.alloc hown.out _, hbel.out.alloc hsz _⟩
        case measure => simp [intOf]; omega
    · rw [List.take_of_length_le (by omega)] at hown
      obtain ⟨la, lc, rfl, atl, -, -, -⟩ := hown.out.at
      have AL := Hid.of atl
      have hll := trimA_len ([] : List Int) m.arrows
      have hal := hsz0.out
      clear atl hown
      go_wp2_with fail
      refine (refSort_any la lc (trimA ([] : List Int) m.arrows) _ AL.out (by omega)).mono ?_
      rintro e w9 ⟨aa, ac, rfl, at9, ca1, ca2, ca3, hb⟩
      have b9 := hbel.out.trans (hb.mono hsz)
      have B9 := Hid.of (B8.out.trans (b9.mono B8.out.size))
      have R9 := Hid.of (R8.out.below b9 R8.out.lt)
      have N9 := Hid.of (N8.out.below b9 N8.out.lt)
      have A9 := Hid.of (A8.out.below b9)
      have S9 := Hid.of (S8.out.below b9)
      have E9 := Hid.of (E8.out.below b9)
      have L9 := Hid.of at9
      have CA := Hid.of (And.intro ca1 (And.intro ca2 ca3))
      have f9 := N9.out.frozen
      have g9 : w9.cell? ⟨w3.heap.size, 3, none⟩ = some (.slice none 0 0) := N9.out.cell 3 rfl
      have g0 := N9.out.cell 0 rfl
      have g1 := N9.out.cell 1 rfl
      have g2 := N9.out.cell 2 rfl
      have g4 := N9.out.cell 4 rfl
      have fr := R9.out.frozen
      have r0 := R9.out.cell 0 rfl
      have r1 := R9.out.cell 1 rfl
      have r2' := R9.out.cell 2 rfl
      have r3' := R9.out.cell 3 rfl
      have r4 := R9.out.cell 4 rfl
      clear hb at9 ca1 ca2 ca3 b9 x3
      have hne3 : ¬ w3.heap.size = w.heap.size + 1 := by omega
      have hne4 : ¬ w.heap.size + 1 = w3.heap.size := by omega
      go_wp2_with fail
      obtain ⟨M, hM⟩ : ∃ M : Mach, M = ⟨1, m.ev, placesL ([] : List Int) m.starts, srtA (trimA ([] : List Int) m.arrows), placesL ([] : List Int) m.ends⟩ := ⟨_, rfl⟩
      have HM : M = trimM m := by rw [hM]; unfold trimM; rw [← HT.out, if_pos hz]
      have R10 := R9.out.other (j := 3) hne4 (.slice aa (srtA (trimA ([] : List Int) m.arrows)).length ac)
      have L10 := (L9.out.apart N9.out).set (j := 3) (.slice aa (srtA (trimA ([] : List Int) m.arrows)).length ac)
      have L11 := (((((L10.at.apart R10).set (j := 0) (.int .i64 1)).set (j := 1) (.int .i64 m.ev)).set (j := 2) (.slice sa (placesL ([] : List Int) m.starts).length sc)).set (j := 3) (.slice aa (srtA (trimA ([] : List Int) m.arrows)).length ac)).set (j := 4) (.slice ea (placesL ([] : List Int) m.ends).length ec)
      have R11 : Blk _ (w.heap.size + 1) 25 (mcells ⟨1, m.ev, placesL ([] : List Int) m.starts, srtA (trimA ([] : List Int) m.arrows), placesL ([] : List Int) m.ends⟩ ⟨sa, sc, aa, ac, ea, ec⟩) := (((((R10.set 0 (.int .i64 1)).set 1 (.int .i64 m.ev)).set 2 (.slice sa (placesL ([] : List Int) m.starts).length sc)).set 3 (.slice aa (srtA (trimA ([] : List Int) m.arrows)).length ac)).set 4 (.slice ea (placesL ([] : List Int) m.ends).length ec))
      have up : ∀ {a : Option Addr} {xs : List Int}, AtX w9 (w.heap.size + 1) w3.heap.size a xs → At ((((((w9.setCell ⟨w3.heap.size, 3, none⟩ (.slice aa (srtA (trimA ([] : List Int) m.arrows)).length ac)).setCell ⟨w.heap.size + 1, 0, none⟩ (.int .i64 1)).setCell ⟨w.heap.size + 1, 1, none⟩ (.int .i64 m.ev)).setCell ⟨w.heap.size + 1, 2, none⟩ (.slice sa (placesL ([] : List Int) m.starts).length sc)).setCell ⟨w.heap.size + 1, 3, none⟩ (.slice aa (srtA (trimA ([] : List Int) m.arrows)).length ac)).setCell ⟨w.heap.size + 1, 4, none⟩ (.slice ea (placesL ([] : List Int) m.ends).length ec)) a xs := fun h => ((((((h.set (j := 3) _).setr (j := 0) _).setr (j := 1) _).setr (j := 2) _).setr (j := 3) _).setr (j := 4) _).at
      have B11 := (((((B9.out.setCell (p := ⟨w3.heap.size, 3, none⟩) (by show w.heap.size ≤ w3.heap.size; omega) (.slice aa (srtA (trimA ([] : List Int) m.arrows)).length ac)).setCell (p := ⟨w.heap.size + 1, 0, none⟩) (by show w.heap.size ≤ w.heap.size + 1; omega) (.int .i64 1)).setCell (p := ⟨w.heap.size + 1, 1, none⟩) (by show w.heap.size ≤ w.heap.size + 1; omega) (.int .i64 m.ev)).setCell (p := ⟨w.heap.size + 1, 2, none⟩) (by show w.heap.size ≤ w.heap.size + 1; omega) (.slice sa (placesL ([] : List Int) m.starts).length sc)).setCell (p := ⟨w.heap.size + 1, 3, none⟩) (by show w.heap.size ≤ w.heap.size + 1; omega) (.slice aa (srtA (trimA ([] : List Int) m.arrows)).length ac)).setCell (p := ⟨w.heap.size + 1, 4, none⟩) (by show w.heap.size ≤ w.heap.size + 1; omega) (.slice ea (placesL ([] : List Int) m.ends).length ec)
      refine bodyPost_ret (v := .tuple #[mval ⟨1, m.ev, placesL ([] : List Int) m.starts, srtA (trimA ([] : List Int) m.arrows), placesL ([] : List Int) m.ends⟩ ⟨sa, sc, aa, ac, ea, ec⟩, .slice ba ([] : List Int).length bc]) ?_ rfl ?_
      · exact results_mach (p := 2) (u := 3) rfl _ _ (w.heap.size + 1) _ ⟨sa, sc, aa, ac, ea, ec⟩ _ rfl rfl R11
      · refine ⟨⟨sa, sc, aa, ac, ea, ec⟩, ba, bc, ?_, ?_, ?_, ?_, B11⟩
        · rw [← HM, hM, ← HT.out]
        · rw [← HM, hM]
          exact ⟨up S9.out, L11.at, up E9.out, CS.out.1, CS.out.2.1, CS.out.2.2, CA.out.1, CA.out.2.1, CA.out.2.2, CE.out.1, CE.out.2.1, CE.out.2.2⟩
        · rw [← HT.out]; exact up A9.out
        · rw [← HT.out]; exact Nat.le_trans CB.out.1 CB.out.2.1

theorem refTrim_any (m : Mach) (l : ML) (w : World) (hm : mayB m = true) (h : MAt w m l) :
    Calls Tryd.prog 24 #[mval m l] w fun e w' => TrimGives w m e w' := by
  by_cases hz : (trimL m).length = 0
  · exact refTrim_z m l w hm h hz
  · exact refTrim_nz m l w hm h hz

end Go.Proofs.YtkofobefbjljfaaDoor
