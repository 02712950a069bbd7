/-
  The walk of reach.part: the machine of those states that stay.
-/
import Derived.Test.YtdnglodemkeooaaDoorG28
namespace Go.Proofs.YtdnglodemkeooaaDoor
open Go.RowKit
set_option linter.unusedVariables false

set_option maxHeartbeats 4000000 in
set_option maxRecDepth 100000 in
theorem part_go (m : Mach) (l : ML) (ta : Option Addr) (tc : Nat) (T : List Int) (w : World) (hm : Hid (mayB m = true)) (h : Hid (MAt w m l)) (hat : Hid (At w ta T)) (hinc : Hid (Inc T)) (hTl : T.length ≤ 256) (M : Int) (hM : (if (T.length : Int) < 1 then (1 : Int) else (T.length : Int)) = M) :
    Calls Tryd.prog 58 #[mval m l, .slice ta T.length tc] w fun e w' => ∃ L, e = .returned (mval (partM m T M) L) ∧ MAt w' (partM m T M) L ∧ FrM w.heap.size (partM m T M) L ∧ Below w.heap.size w w' := by
  obtain ⟨i0, hi, hz0, hz1, hz2⟩ := info_parts Tryd.infoArrow
  have hsz0 : Hid (m.arrows.length ≤ 1000000) := by have := mayB_size hm.out; unfold sizeOk at this; show _ ≤ _; omega
  go_enter Tryd.func58, Tryd.ntmps58
  go_wp2_with (go_at_call 97; refine (renumber_any ta T.length tc _).mono ?_; rintro e w1 ⟨rfl, rfl⟩)
  have K0 : Hid (Blk (((w.alloc (.cells (mcells m l) 25)).alloc (.cells zcells 25)).alloc (.cells #[.slice ta T.length tc] 22)) w.heap.size 25 (mcells m l)) := ((Blk.new w _ _).alloc _).alloc _
  have R0 : Hid (Blk (((w.alloc (.cells (mcells m l) 25)).alloc (.cells zcells 25)).alloc (.cells #[.slice ta T.length tc] 22)) (w.heap.size + 1) 25 zcells) := by
    have := (Blk.new (w.alloc (.cells (mcells m l) 25)) 25 zcells).alloc (.cells #[.slice ta T.length tc] 22)
    rwa [World.size_alloc] at this
  have C0 : Hid (Blk (((w.alloc (.cells (mcells m l) 25)).alloc (.cells zcells 25)).alloc (.cells #[.slice ta T.length tc] 22)) (w.heap.size + 1 + 1) 22 #[.slice ta T.length tc]) := by
    have := Blk.new ((w.alloc (.cells (mcells m l) 25)).alloc (.cells zcells 25)) 22 #[.slice ta T.length tc]
    rwa [World.size_alloc, World.size_alloc] at this
  have B0 : Hid (Below w.heap.size w (((w.alloc (.cells (mcells m l) 25)).alloc (.cells zcells 25)).alloc (.cells #[.slice ta T.length tc] 22))) := (((Below.refl _ _).alloc (Nat.le_refl _) _).alloc (by simp) _).alloc (by simp; omega) _
  have Z0 : Hid ((((w.alloc (.cells (mcells m l) 25)).alloc (.cells zcells 25)).alloc (.cells #[.slice ta T.length tc] 22)).heap.size = w.heap.size + 3) := (by simp : (((w.alloc (.cells (mcells m l) 25)).alloc (.cells zcells 25)).alloc (.cells #[.slice ta T.length tc] 22)).heap.size = w.heap.size + 3)
  revert K0 R0 C0 B0 Z0
  generalize ((w.alloc (.cells (mcells m l) 25)).alloc (.cells zcells 25)).alloc (.cells #[.slice ta T.length tc] 22) = V
  intro K0 R0 C0 B0 Z0
  obtain ⟨x0, x1, x2, x3, x4⟩ := mcell_at K0.out
  have kl := K0.out.lt
  have KEY1 : Hid (∀ W, Below V.heap.size V W → Calls Tryd.prog 98 #[.slice l.a1 m.starts.length l.c1, .func (.func 125) #[] #[.pointer (some ⟨w.heap.size + 1 + 1, 0, none⟩)]] W fun e w' => GivesO W (placesL T m.starts) e w') := fun W hW =>
    rowAnew_any (w.heap.size + 1 + 1) ta l.a1 tc l.c1 T m.starts W (Nat.lt_of_lt_of_le C0.out.lt hW.size) ((C0.out.below hW C0.out.lt).cell 0 rfl) (hat.out.below (B0.out.trans (hW.mono B0.out.size)) (Nat.le_refl _)) (by omega) hinc.out (h.out.below (B0.out.trans (hW.mono B0.out.size)) (Nat.le_refl _)).s (by have := startsLen hm.out; omega)
  have KEY2 : Hid (∀ W, Below V.heap.size V W → Calls Tryd.prog 98 #[.slice l.a3 m.ends.length l.c3, .func (.func 125) #[] #[.pointer (some ⟨w.heap.size + 1 + 1, 0, none⟩)]] W fun e w' => GivesO W (placesL T m.ends) e w') := fun W hW =>
    rowAnew_any (w.heap.size + 1 + 1) ta l.a3 tc l.c3 T m.ends W (Nat.lt_of_lt_of_le C0.out.lt hW.size) ((C0.out.below hW C0.out.lt).cell 0 rfl) (hat.out.below (B0.out.trans (hW.mono B0.out.size)) (Nat.le_refl _)) (by omega) hinc.out (h.out.below (B0.out.trans (hW.mono B0.out.size)) (Nat.le_refl _)).e (by have := endsLen hm.out; omega)
  have ne1 : ¬ w.heap.size = V.heap.size := by omega
  have ne2 : ¬ V.heap.size = w.heap.size := by omega
  have nV := World.new_ne V _ x0
  have rl := Hid.of R0.out.lt
  refine Code.wp_mono (Q := regQ fun a' W' => ∃ (b6 : Nat) (sa : Option Addr) (sc : Nat) (ea : Option Addr) (ec : Nat), a' = { tmps := #[mval m l, .slice ta T.length tc, .pointer (some ⟨w.heap.size, 0, none⟩), undef, .pointer (some ⟨w.heap.size + 1, 0, none⟩), .func (.func 125) #[] #[.pointer (some ⟨w.heap.size + 1 + 1, 0, none⟩)], .pointer (some ⟨b6, 0, none⟩), undef, undef, undef, undef, undef, undef, .slice ta T.length tc, .func (.func 125) #[] #[.pointer (some ⟨w.heap.size + 1 + 1, 0, none⟩)], .slice ta T.length tc, .int .i64 T.length, .int .i64 M, .pointer (some ⟨w.heap.size, 1, none⟩), .int .i64 m.ev, .pointer (some ⟨w.heap.size, 2, none⟩), .slice l.a1 m.starts.length l.c1, .func (.func 125) #[] #[.pointer (some ⟨w.heap.size + 1 + 1, 0, none⟩)], .slice sa (placesL T m.starts).length sc, .pointer (some ⟨w.heap.size, 4, none⟩), .slice l.a3 m.ends.length l.c3, .func (.func 125) #[] #[.pointer (some ⟨w.heap.size + 1 + 1, 0, none⟩)], .slice ea (placesL T m.ends).length ec, .agg (ocells M m.ev sa (placesL T m.starts).length sc (.slice none 0 0) ea (placesL T m.ends).length ec), undef, undef, undef, undef, undef, undef, undef, undef, undef, undef, undef, undef, undef, undef, undef, undef, undef, undef, undef, undef, undef, undef, undef, undef, undef, undef, undef, undef, undef, undef, undef, undef, undef, undef, undef, undef, undef], defers := [] } ∧ Hid (PI w V W' b6 m T M sa sc ea ec)) ?aft ?reg
  case reg =>
    go_region_held3 (fun w' => w'.cell? ⟨w.heap.size, 0, none⟩ = some (.int .i64 m.st) ∧ w'.cell? ⟨w.heap.size, 1, none⟩ = some (.int .i64 m.ev) ∧ w'.cell? ⟨w.heap.size, 2, none⟩ = some (.slice l.a1 m.starts.length l.c1) ∧ w'.cell? ⟨w.heap.size, 3, none⟩ = some (.slice l.a2 m.arrows.length l.c2) ∧ w'.cell? ⟨w.heap.size, 4, none⟩ = some (.slice l.a3 m.ends.length l.c3)) (first | go_keep | exact (fun (_ : Hid (Blk wS V.heap.size 25 zcells)) => mcell_at (Blk.other5 (K0.out.below GE.out K0.out.lt) ne1 _ _ _ _ _)) Z8 | exact mcell_at (Blk.other5 (K0.out.below GE.out K0.out.lt) NE1.out _ _ _ _ _)) (first | (go_at_call 98; refine (KEY1.out _ ((Below.refl _ V).drew)).mono ?_; rintro e wS ⟨vS, rfl, oS, hbS⟩; obtain ⟨sa, sc, rfl, -, -, -, -⟩ := oS.at2; have OS := Hid.of oS; have GS : Hid (Below V.heap.size V wS) := ((Below.refl _ V).drew).trans hbS; obtain ⟨y0, y1, y2, y3, y4⟩ := mcell_at (K0.out.below GS.out K0.out.lt); have nS := World.new_ne wS _ y0; have NE1 : Hid (w.heap.size ≠ wS.heap.size) := (show w.heap.size ≠ wS.heap.size by have := GS.out.size; omega); clear hbS oS KEY1) | (go_at_call 98; refine (KEY1.out _ (((Below.refl _ V).drew).alloc (Nat.le_refl _) _)).mono ?_; rintro e wS ⟨vS, rfl, oS, hbS⟩; obtain ⟨sa, sc, rfl, -, -, -, -⟩ := oS.at2; have OS := Hid.of oS; have GS : Hid (Below V.heap.size V wS) := (((Below.refl _ V).drew).alloc (Nat.le_refl _) _).trans (hbS.mono (by rw [World.size_alloc]; exact Nat.le_succ _)); obtain ⟨y0, y1, y2, y3, y4⟩ := mcell_at (K0.out.below GS.out K0.out.lt); have Z8 : Hid (Blk wS V.heap.size 25 zcells) := Blk.below (Blk.new V.drew 25 #[.int .i64 0, .int .i64 0, .slice none 0 0, .slice none 0 0, .slice none 0 0]) hbS (by rw [World.size_alloc]; exact Nat.lt_succ_self _); have nS := World.new_ne wS _ y0; have NE1 : Hid (w.heap.size ≠ wS.heap.size) := (show w.heap.size ≠ wS.heap.size by have := GS.out.size; omega); clear hbS oS KEY1) | (go_at_call 98; have Z8' := Z8; refine (KEY2.out _ GS.out).mono ?_; rintro e wE ⟨vE, rfl, oE, hbE⟩; obtain ⟨ea, ec, rfl, -, -, -, -⟩ := oE.at2; have OE := Hid.of oE; have GE : Hid (Below V.heap.size V wE) := GS.out.trans (hbE.mono GS.out.size); obtain ⟨z0, z1, z2, z3, z4⟩ := mcell_at (K0.out.below GE.out K0.out.lt); have Z9 : Hid (Blk wE V.heap.size 25 zcells) := Blk.below Z8.out hbE Z8.out.lt; have AS := Hid.of (AtC.below (own_atC OS.out (w.heap.size + 1) V.heap.size (show _ < _ by rw [World.size_alloc]; exact Nat.lt_succ_of_lt rl.out) (.inl (by rw [World.size_alloc]; exact Nat.lt_succ_self _))) hbE); have AE := Hid.of (own_atC oE (w.heap.size + 1) V.heap.size (Nat.lt_of_lt_of_le rl.out GS.out.size) (.inl Z8.out.lt)); obtain ⟨f0, f1, f2, f3, f4⟩ := zcell_at Z9.out; have ff := Blk.frozen Z9.out; have nE := World.new_ne wE _ z0; clear hbE oE Z8' KEY2) | (go_at_call 98; refine (KEY2.out _ GS.out).mono ?_; rintro e wE ⟨vE, rfl, oE, hbE⟩; obtain ⟨ea, ec, rfl, -, -, -, -⟩ := oE.at2; have OE := Hid.of oE; have GE : Hid (Below V.heap.size V wE) := GS.out.trans (hbE.mono GS.out.size); have AS := Hid.of (AtC.below (own_atC OS.out (w.heap.size + 1) wE.heap.size rl.out (.inr hbE.size)) hbE); have AE := Hid.of (own_atC oE (w.heap.size + 1) wE.heap.size (Nat.lt_of_lt_of_le rl.out GS.out.size) (.inr (Nat.le_refl _))); obtain ⟨z0, z1, z2, z3, z4⟩ := mcell_at (K0.out.below GE.out K0.out.lt); have nE := World.new_ne wE _ z0; clear hbE oE KEY2) | (go_at_call 98; refine (KEY2.out _ (GS.out.alloc GS.out.size _)).mono ?_; rintro e wE ⟨vE, rfl, oE, hbE⟩; obtain ⟨ea, ec, rfl, -, -, -, -⟩ := oE.at2; have OE := Hid.of oE; have GE : Hid (Below V.heap.size V wE) := (GS.out.alloc GS.out.size _).trans (hbE.mono (by rw [World.size_alloc]; exact Nat.le_succ_of_le GS.out.size)); obtain ⟨z0, z1, z2, z3, z4⟩ := mcell_at (K0.out.below GE.out K0.out.lt); have AS := Hid.of (AtC.below (AtC.below (own_atC OS.out (w.heap.size + 1) wS.heap.size rl.out (.inr (Nat.le_refl _))) ((Below.refl _ _).alloc (Nat.le_refl _) _)) hbE); have AE := Hid.of (own_atC oE (w.heap.size + 1) wS.heap.size (show _ < _ by rw [World.size_alloc]; exact Nat.lt_succ_of_lt (Nat.lt_of_lt_of_le rl.out GS.out.size)) (.inl (by rw [World.size_alloc]; exact Nat.lt_succ_self _))); have Z9 : Hid (Blk wE wS.heap.size 25 zcells) := Blk.below (Blk.new wS 25 #[.int .i64 0, .int .i64 0, .slice none 0 0, .slice none 0 0, .slice none 0 0]) hbE (by rw [World.size_alloc]; exact Nat.lt_succ_self _); obtain ⟨f0, f1, f2, f3, f4⟩ := zcell_at Z9.out; have ff := Blk.frozen Z9.out; have nE := World.new_ne wE _ z0; clear hbE oE KEY2))
    all_goals first
      | (have q := Z8; exact ⟨V.heap.size, sa, sc, ea, ec, rfl, ⟨Z9.out.set5 _ _ _ _ _, below_set5 GE.out (Nat.le_refl _) _ _ _ _ _, Nat.le_refl _, AS.out.set5 _ _ _ _ _, AE.out.set5 _ _ _ _ _⟩⟩)
      | (have q := Z9; exact ⟨wS.heap.size, sa, sc, ea, ec, rfl, ⟨Z9.out.set5 _ _ _ _ _, below_set5 GE.out GS.out.size _ _ _ _ _, GS.out.size, AS.out.set5 _ _ _ _ _, AE.out.set5 _ _ _ _ _⟩⟩)
      | exact ⟨wE.heap.size, sa, sc, ea, ec, rfl, ⟨Blk.new wE _ _, GE.out.alloc GE.out.size _, GE.out.size, AS.out.below ((Below.refl _ _).alloc (Nat.le_refl _) _), AE.out.below ((Below.refl _ _).alloc (Nat.le_refl _) _)⟩⟩
  case aft =>
    clear KEY1 KEY2 x0 x1 x2 x3 x4 kl ne1 ne2 nV
    refine regQ_imp ?_
    rintro a' X ⟨b6, sa, sc, ea, ec, rfl, HP⟩
    have BX := Hid.of (B0.out.trans (HP.out.bel.mono B0.out.size))
    have RX := Hid.of (R0.out.below HP.out.bel R0.out.lt)
    have CX := Hid.of (C0.out.below HP.out.bel C0.out.lt)
    have x3 : X.cell? ⟨w.heap.size, 3, none⟩ = some (.slice l.a2 m.arrows.length l.c2) := (K0.out.below HP.out.bel K0.out.lt).cell 3 rfl
    have HX := Hid.of HP.out.out.lt
    have HLO : Hid (w.heap.size + 2 < b6) := show _ < _ by have h1 := HP.out.lo; have h2 := Z0.out; omega
    have hal := hsz0.out
    clear K0 R0 C0 B0
    go_wp2_with fail
    go_loopw [32] (fun i wr => ∃ (k : Nat) (v : Value), k ≤ m.arrows.length ∧ i = .int .i64 k ∧ Hid (PL w X wr b6 m T M sa sc ea ec v (trimA T (m.arrows.take k)))) (fun i _ => m.arrows.length - (intOf i).toNat)
    case atStart => exact ⟨0, .slice none 0 0, Nat.zero_le _, rfl, ⟨HP.out.out, ownA_nil _ _, Kp.refl _ _, BX.out⟩⟩
    case round =>
      clear x3
      obtain ⟨k, v, hk, rfl, HL⟩ := hrel
      obtain ⟨va, vc, hv, -, hv1, hv2, hv3⟩ := HL.out.own.at
      have hll : (trimA T (m.arrows.take k)).length ≤ k := Nat.le_trans (trimA_len _ _) (List.length_take_le _ _)
      subst hv
      have lb := HL.out.out.lt
      by_cases hlt : k < m.arrows.length
      · have hat2 : AtA wr l.a2 m.arrows := (h.out.below HL.out.bel (Nat.le_refl _)).a
        rcases hat2 with hat2 | ⟨b, off, ha2, hb, hca⟩
        · rw [hat2] at hlt; simp at hlt
        obtain ⟨a, HA, y0, y1, y2⟩ := hca.at hlt
        have HN := Hid.of (trimA_take (T := T) hlt HA)
        have HBX : Hid (∀ o, (wr.alloc o).cell? ⟨w.heap.size + 1 + 1, 0, none⟩ = some (.slice ta T.length tc)) := fun o => ((HL.out.kp.blk CX.out (by have := HLO.out; omega)).alloc o).cell 0 rfl
        have HAT : Hid (∀ o, At (wr.alloc o) ta T) := fun o => hat.out.below (HL.out.bel.alloc HL.out.bel.size o) (Nat.le_refl _)
        rw [ha2]
        clear ha2 hca
        go_wp2_with fail
        refine (anew_any (w.heap.size + 1 + 1) ta tc T a.f _ (HBX.out _) (HAT.out _) (show T.length ≤ _ by omega) hinc).mono ?_
        rintro e w9 ⟨q1, rfl, hq1, rfl⟩
        go_wp2_with fail
        refine (anew_any (w.heap.size + 1 + 1) ta tc T a.t _ (HBX.out _) (HAT.out _) (show T.length ≤ _ by omega) hinc).mono ?_
        rintro e w9 ⟨q2, rfl, hq2, rfl⟩
        by_cases d1 : hasB T a.f = true
        · obtain ⟨p1, p2⟩ := anew_in d1 hq1
          by_cases d2 : hasB T a.t = true
          · obtain ⟨p3, p4⟩ := anew_in d2 hq2
            have HR : Hid (trimA T (m.arrows.take (k + 1)) = trimA T (m.arrows.take k) ++ [⟨(q1 : Int), a.e, (q2 : Int)⟩]) := by
              show _ = _
              rw [HN.out, if_pos (by simp [p1, p3]), p2, p4]
            clear HN p1 p2 p3 p4 hq1 hq2
            rw [d1, d2]
            have o3 : wr.cell? ⟨b6, 3, none⟩ = some (.slice va (trimA T (m.arrows.take k)).length vc) := HL.out.out.cell 3 rfl
            have HHLO := HLO.out
            clear hb
            go_wp2_with (at_builtin; refine wpList_append_arrs _ rfl (.tmp 55) (.tmp 61) 23 rfl X.heap.size i0 Tryd.underlying23 hi hz0 hz1 hz2 _ (trimA T (m.arrows.take k)) rfl (World.ownsRow.alloc (World.ownsRow.alloc HL.out.own _) _) (some ⟨wr.heap.size + 1, 0, none⟩) 1 [⟨(q1 : Int), a.e, (q2 : Int)⟩] rfl (atA_new _ _ ⟨(q1 : Int), a.e, (q2 : Int)⟩ _ (World.size_alloc _ _).symm) (fun h => by cases h) (by simp; omega) (by have := HL.out.kp.size; simp; omega) ?_)
            intro v9 w9 o9 g9 n9
            obtain ⟨ga, gc, hv9, -, -, -, -⟩ := o9.at
            subst hv9
            obtain ⟨e1, e2⟩ := HL.out.grow (by omega) HX.out o9 g9
            have E2 := Hid.of e2
            have z3 : w9.cell? ⟨b6, 3, none⟩ = some (.slice va (trimA T (m.arrows.take k)).length vc) := e1.cell 3 rfl
            have zf := e1.frozen
            clear o9 g9 n9 e1 e2
            go_wp2_with fail
            go_roundw
            case rel => exact ⟨k + 1, _, by omega, by go_num, by rw [HR.out]; have e3 := E2.out; rw [List.length_append] at e3; exact e3⟩
            case measure => simp [intOf]; omega
          · have d2 : hasB T a.t = false := by simpa using d2
            have p3 := anew_out d2
            have HR : Hid (trimA T (m.arrows.take (k + 1)) = trimA T (m.arrows.take k)) := by
              show _ = _
              rw [HN.out, if_neg (by simp [p3])]
            clear HN p1 p2 p3 hq1 hq2
            rw [d1, d2]
            go_wp2_with fail
            go_roundw
            case rel => exact ⟨k + 1, _, by omega, by go_num, by rw [HR.out]; exact HL.out.alloc _⟩
            case measure => simp [intOf]; omega
        · have d1 : hasB T a.f = false := by simpa using d1
          have p1 := anew_out d1
          have HR : Hid (trimA T (m.arrows.take (k + 1)) = trimA T (m.arrows.take k)) := by
            show _ = _
            rw [HN.out, if_neg (by simp [p1])]
          clear HN p1 hq1 hq2
          rw [d1]
          generalize hasB T a.t = bb
          go_wp2_with fail
          go_roundw
          case rel => exact ⟨k + 1, _, by omega, by go_num, by rw [HR.out]; exact HL.out.alloc _⟩
          case measure => simp [intOf]; omega
      · rw [List.take_of_length_le (by omega)] at HL
        have HR0 := Hid.of (HL.out.kp.blk RX.out (by have := HLO.out; omega))
        have o0 : wr.cell? ⟨b6, 0, none⟩ = some (.int .i64 M) := HL.out.out.cell 0 rfl
        have o1 : wr.cell? ⟨b6, 1, none⟩ = some (.int .i64 m.ev) := HL.out.out.cell 1 rfl
        have o2 : wr.cell? ⟨b6, 2, none⟩ = some (.slice sa (placesL T m.starts).length sc) := HL.out.out.cell 2 rfl
        have o3 : wr.cell? ⟨b6, 3, none⟩ = some (.slice va (trimA T m.arrows).length vc) := HL.out.out.cell 3 rfl
        have o4 : wr.cell? ⟨b6, 4, none⟩ = some (.slice ea (placesL T m.ends).length ec) := HL.out.out.cell 4 rfl
        obtain ⟨r0, r1, r2, r3, r4⟩ := zcell_at HR0.out
        have rz := HR0.out.frozen
        have hne3 : ¬ b6 = w.heap.size + 1 := by have := HLO.out; omega
        have hne4 : ¬ w.heap.size + 1 = b6 := by have := HLO.out; omega
        have R1 := Hid.of (HR0.out.set5 (.int .i64 M) (.int .i64 m.ev) (.slice sa (placesL T m.starts).length sc) (.slice va (trimA T m.arrows).length vc) (.slice ea (placesL T m.ends).length ec))
        have B1 := Hid.of (below_set5 HL.out.bel (b' := w.heap.size + 1) (by omega) (.int .i64 M) (.int .i64 m.ev) (.slice sa (placesL T m.starts).length sc) (.slice va (trimA T m.arrows).length vc) (.slice ea (placesL T m.ends).length ec))
        have S1 := Hid.of ((HL.out.kp.atC HP.out.aS).setr5 (.int .i64 M) (.int .i64 m.ev) (.slice sa (placesL T m.starts).length sc) (.slice va (trimA T m.arrows).length vc) (.slice ea (placesL T m.ends).length ec))
        have E1 := Hid.of ((HL.out.kp.atC HP.out.aE).setr5 (.int .i64 M) (.int .i64 m.ev) (.slice sa (placesL T m.starts).length sc) (.slice va (trimA T m.arrows).length vc) (.slice ea (placesL T m.ends).length ec))
        have A1 := Hid.of ((HL.out.own.set5 (b := w.heap.size + 1) (Nat.lt_of_lt_of_le (show w.heap.size + 1 < b6 by have := HLO.out; omega) (Nat.le_of_lt HX.out)) (.int .i64 M) (.int .i64 m.ev) (.slice sa (placesL T m.starts).length sc) (.slice va (trimA T m.arrows).length vc) (.slice ea (placesL T m.ends).length ec)).at)
        go_wp2_with fail
        refine bodyPost_ret (v := mval (partM m T M) ⟨sa, sc, va, vc, ea, ec⟩) ?_ rfl ⟨⟨sa, sc, va, vc, ea, ec⟩, rfl, ?_, ⟨fr_mono (B := w.heap.size + 2) HP.out.aS.lo (by omega), fr_mono HL.out.own.fr (Nat.le_trans (show w.heap.size ≤ b6 by have := HLO.out; omega) (Nat.le_of_lt HX.out)), fr_mono (B := w.heap.size + 2) HP.out.aE.lo (by omega)⟩, B1.out⟩
        · exact results_cell_row (g := w.heap.size + 1) (p := 4) rfl _ _ _ _ _ _ rfl R1.out Tryd.underlying25 rfl (by kernel_rfl)
        · obtain ⟨a', c', e, k1, k2, k3, k4⟩ := A1.out
          cases e
          exact ⟨S1.out.at'.at, k1, E1.out.at'.at, S1.out.c1, S1.out.c2, S1.out.c3, k2, k3, k4, E1.out.c1, E1.out.c2, E1.out.c3⟩

end Go.Proofs.YtdnglodemkeooaaDoor
