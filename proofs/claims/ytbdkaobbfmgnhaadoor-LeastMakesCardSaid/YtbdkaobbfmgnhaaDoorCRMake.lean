/-
  The walk of jalousieref6.Make.
-/
import Derived.Deep.RegionHeld3
import Derived.Test.YtbdkaobbfmgnhaaDoorG21
import Derived.Test.YtbdkaobbfmgnhaaDoorG28
import Derived.Test.YtbdkaobbfmgnhaaDoorG14
import Derived.Test.YtbdkaobbfmgnhaaDoorCOnly
import Derived.Test.YtbdkaobbfmgnhaaDoorG20
namespace Go.Proofs.YtbdkaobbfmgnhaaDoor
open Go.RowKit
set_option linter.unusedVariables false

set_option maxRecDepth 100000 in
set_option maxHeartbeats 4000000 in
theorem rmake_err (m : Mach) (l : ML) (w : World) (h : Hid (MAt w m l)) (hm : Hid (mayB m = false)) :
    Calls Tryd.prog 35 #[mval m l] w fun e w' => MakePost w m e w' := by
  have B0 : Hid (Below w.heap.size w ((w.alloc (.cells (mcells m l) 25)).alloc (.cells zcells 25))) := ((Below.refl _ _).alloc (Nat.le_refl _) _).alloc (by simp) _
  have R0 : Hid (Blk ((w.alloc (.cells (mcells m l) 25)).alloc (.cells zcells 25)) (w.heap.size + 1) 25 zcells) := by
    have := Blk.new (w.alloc (.cells (mcells m l) 25)) 25 zcells
    rwa [World.size_alloc] at this
  go_enter Tryd.func35, Tryd.ntmps35
  go_wp2_with fail
  revert B0 R0
  generalize (w.alloc (.cells (mcells m l) 25)).alloc (.cells zcells 25) = V0
  intro B0 R0
  refine (refMay_any m l _ (h.out.below B0.out (Nat.le_refl _))).mono ?_
  rintro e V ⟨rfl, hb1⟩
  rw [hm.out]
  have B1 := Hid.of (B0.out.trans (hb1.mono B0.out.size))
  have R1 := Hid.of (R0.out.below hb1 R0.out.lt)
  clear hb1 B0 R0
  obtain ⟨r0, r1, r2, r3, r4⟩ := zcell_at R1.out
  have rz := R1.out.frozen
  have RR : Hid (Blk _ (w.heap.size + 1) 25 (mcells m0 ml0)) := R1.out.set5 (.int .i64 0) (.int .i64 0) (.slice none 0 0) (.slice none 0 0) (.slice none 0 0)
  go_wp2
  refine bodyPost_ret (v := .tuple #[mval m0 ml0, .slice none 0 0, .int .i64 2]) ?_ rfl (makePost_err (detOut_bad hm.out) (below_set5 B1.out (b' := w.heap.size + 1) (by omega) _ _ _ _ _))
  exact results_three (p := 2) (u := 3) (v := 4) rfl _ _ (w.heap.size + 1) m0 ml0 _ _ rfl rfl rfl RR.out

set_option maxRecDepth 100000 in
set_option maxHeartbeats 8000000 in
theorem rmake_ok (st ev : Nat) (starts : List Int) (ars : List Arr) (ends : List Int) (a1 : Option Addr) (c1 : Nat) (a2 : Option Addr) (c2 : Nat) (a3 : Option Addr) (c3 : Nat) (w : World) (h : Hid (MAt w ⟨(st : Int), (ev : Int), starts, ars, ends⟩ ⟨a1, c1, a2, c2, a3, c3⟩)) (hm : Hid (mayB ⟨(st : Int), (ev : Int), starts, ars, ends⟩ = true)) :
    Calls Tryd.prog 35 #[mval ⟨(st : Int), (ev : Int), starts, ars, ends⟩ ⟨a1, c1, a2, c2, a3, c3⟩] w fun e w' => MakePost w ⟨(st : Int), (ev : Int), starts, ars, ends⟩ e w' := by
  have hz := mayB_size hm.out
  unfold sizeOk at hz
  dsimp only at hz
  have hst : st ≤ 256 := by omega
  have hev : ev ≤ 8 := by omega
  have hlen : Hid (ars.length ≤ 4096) := show _ ≤ _ by omega
  clear hz
  have hsl : Hid (starts.length ≤ maxLen) := Nat.le_trans h.out.s1 h.out.s2
  have hel : Hid (ends.length ≤ maxLen) := Nat.le_trans h.out.e1 h.out.e2
  have hDI0 : Hid (DI ⟨(st : Int), (ev : Int), starts, ars, ends⟩ ev (0 * ev) ⟨[starts], []⟩) := di_start hm.out ev
  have hDE0 : Hid (detS ⟨(st : Int), (ev : Int), starts, ars, ends⟩ = dGo ars ev 257 0 ⟨[starts], []⟩) := by
    show detS ⟨(st : Int), (ev : Int), starts, ars, ends⟩ = _
    unfold detS; simp only [Int.toNat_natCast]
  have B0 : Hid (Below w.heap.size w ((w.alloc (.cells (mcells ⟨(st : Int), (ev : Int), starts, ars, ends⟩ ⟨a1, c1, a2, c2, a3, c3⟩) 25)).alloc (.cells zcells 25))) := ((Below.refl _ _).alloc (Nat.le_refl _) _).alloc (by simp) _
  have K0 : Hid (Blk ((w.alloc (.cells (mcells ⟨(st : Int), (ev : Int), starts, ars, ends⟩ ⟨a1, c1, a2, c2, a3, c3⟩) 25)).alloc (.cells zcells 25)) w.heap.size 25 (mcells ⟨(st : Int), (ev : Int), starts, ars, ends⟩ ⟨a1, c1, a2, c2, a3, c3⟩)) := (Blk.new w _ _).alloc _
  have R0 : Hid (Blk ((w.alloc (.cells (mcells ⟨(st : Int), (ev : Int), starts, ars, ends⟩ ⟨a1, c1, a2, c2, a3, c3⟩) 25)).alloc (.cells zcells 25)) (w.heap.size + 1) 25 zcells) := by
    have := Blk.new (w.alloc (.cells (mcells ⟨(st : Int), (ev : Int), starts, ars, ends⟩ ⟨a1, c1, a2, c2, a3, c3⟩) 25)) 25 zcells
    rwa [World.size_alloc] at this
  go_enter Tryd.func35, Tryd.ntmps35
  go_wp2_with fail
  revert B0 K0 R0
  generalize (w.alloc (.cells (mcells ⟨(st : Int), (ev : Int), starts, ars, ends⟩ ⟨a1, c1, a2, c2, a3, c3⟩) 25)).alloc (.cells zcells 25) = V0
  intro B0 K0 R0
  refine (refMay_any ⟨(st : Int), (ev : Int), starts, ars, ends⟩ ⟨a1, c1, a2, c2, a3, c3⟩ _ (h.out.below B0.out (Nat.le_refl _))).mono ?_
  rintro e V ⟨rfl, hb1⟩
  rw [hm.out]
  have B1 := Hid.of (B0.out.trans (hb1.mono B0.out.size))
  have K1 := Hid.of (K0.out.below hb1 K0.out.lt)
  have R1 := Hid.of (R0.out.below hb1 R0.out.lt)
  clear hb1 B0 K0 R0
  have lo := R1.out.lt
  have bX : Below V.heap.size V (((V.alloc (.cells #[.int .i64 0] 3)).alloc (.cells (rcells 0 (ev : Int) V.heap.size (.slice none 0 0) (.slice none 0 0)) 25)).alloc (.cells #[.slice a1 starts.length c1] 22)) := (((Below.refl _ _).alloc (Nat.le_refl _) _).alloc (by simp) _).alloc (by simp; omega) _
  have HX : Hid (RN w (((V.alloc (.cells #[.int .i64 0] 3)).alloc (.cells (rcells 0 (ev : Int) V.heap.size (.slice none 0 0) (.slice none 0 0)) 25)).alloc (.cells #[.slice a1 starts.length c1] 22)) V.heap.size ⟨(st : Int), (ev : Int), starts, ars, ends⟩ ⟨a1, c1, a2, c2, a3, c3⟩ (.slice (some ⟨V.heap.size + 1 + 1, 0, none⟩) 1 1) (.slice none 0 0) [starts] []) := by
    refine ⟨B1.out.trans (bX.mono B1.out.size), K1.out.below bX K1.out.lt, R1.out.below bX R1.out.lt, ((Blk.new V _ _).alloc _).alloc _, ?_, ?_, ownA_nil _ _, lo, by simp⟩
    · have := (Blk.new (V.alloc (.cells #[.int .i64 0] 3)) 25 (rcells 0 (ev : Int) V.heap.size (.slice none 0 0) (.slice none 0 0))).alloc (.cells #[.slice a1 starts.length c1] 22)
      rwa [World.size_alloc] at this
    · refine ⟨[.slice a1 starts.length c1], ?_, fun j x xs e1 e2 => ?_⟩
      · have := World.ownsRow_lit ((V.alloc (.cells #[.int .i64 0] 3)).alloc (.cells (rcells 0 (ev : Int) V.heap.size (.slice none 0 0) (.slice none 0 0)) 25)) (base := V.heap.size + 2) (e := 22) (size := 1) #[.slice a1 starts.length c1] 1 (by simp) (by decide) rfl
        rwa [World.size_alloc, World.size_alloc] at this
      · rcases j with _ | j
        · have q1 : Value.slice a1 starts.length c1 = x := by simpa using e1
          have q2 : starts = xs := by simpa using e2
          rw [← q1, ← q2]
          exact InnN.of_at h.out.s hsl.out (B1.out.trans (bX.mono B1.out.size))
        · simp at e1
  have hXz : (((V.alloc (.cells #[.int .i64 0] 3)).alloc (.cells (rcells 0 (ev : Int) V.heap.size (.slice none 0 0) (.slice none 0 0)) 25)).alloc (.cells #[.slice a1 starts.length c1] 22)).heap.size = V.heap.size + 3 := by simp
  obtain ⟨y0, y1, y2, y3, y4⟩ := mcell_at K1.out
  obtain ⟨x0, x1, x2, x3, x4⟩ := HX.out.mcells
  have x2' : ((V.alloc (.cells #[.int .i64 0] 3)).alloc (.cells (rcells 0 (ev : Int) V.heap.size (.slice none 0 0) (.slice none 0 0)) 25)).cell? ⟨w.heap.size, 2, none⟩ = some (.slice a1 starts.length c1) := ((K1.out.alloc _).alloc _).cell 2 rfl
  dsimp only at y0 y1 y2 y3 y4 x0 x1 x2 x3 x4
  clear B1 K1 R1 bX
  go_wp2
  clear y0 y1 y2 y3 y4 x0 x1 x2 x3 x4 x2' hXz
  revert HX
  generalize (((V.alloc (.cells #[.int .i64 0] 3)).alloc (.cells (rcells 0 (ev : Int) V.heap.size (.slice none 0 0) (.slice none 0 0)) 25)).alloc (.cells #[.slice a1 starts.length c1] 22)) = X
  intro HX
  revert lo HX
  generalize V.heap.size = b0
  intro lo HX
  obtain ⟨i1, hi, hz0, hz1, hz2⟩ := info_parts Tryd.infoInts
  obtain ⟨j0, ji, jz0, jz1, jz2⟩ := info_parts Tryd.infoArrow
  obtain ⟨k0, ki, kz0, kz1, kz2⟩ := info_parts Tryd.infoInt
  go_loopw [6, 7] (fun v6 i wr => ∃ (k : Nat) (s : DS) (va : Value), i = .int .i64 k ∧ k ≤ s.sets.length ∧ s.sets.length ≤ 256 ∧ Hid (RN w wr b0 ⟨(st : Int), (ev : Int), starts, ars, ends⟩ ⟨a1, c1, a2, c2, a3, c3⟩ v6 va s.sets s.ar) ∧ Hid (DI ⟨(st : Int), (ev : Int), starts, ars, ends⟩ ev (k * ev) s) ∧ Hid (detS ⟨(st : Int), (ev : Int), starts, ars, ends⟩ = dGo ars ev (257 - k) k s)) (fun _ i _ => 257 - (intOf i).toNat)
  case atStart => exact ⟨0, ⟨[starts], []⟩, .slice none 0 0, rfl, Nat.zero_le _, by simp, HX, hDI0, hDE0⟩
  case round =>
    clear HX hDI0 hDE0
    obtain ⟨k, s, va, rfl, hk, h256, HR, HD, HE⟩ := hrel
    obtain ⟨v6a, v6c, hv6, -⟩ := HR.out.ss.at2
    subst hv6
    by_cases hlt : k < s.sets.length
    · go_wp2_with fail
      go_loopw [6, 8] (fun v6 i wr => ∃ (e : Nat) (va : Value), i = .int .i64 e ∧ e ≤ ev ∧ Hid (RN w wr b0 ⟨(st : Int), (ev : Int), starts, ars, ends⟩ ⟨a1, c1, a2, c2, a3, c3⟩ v6 va (dRow ars k s e).sets (dRow ars k s e).ar)) (fun _ i _ => ev - (intOf i).toNat)
      case atStart => exact ⟨0, va, rfl, Nat.zero_le _, HR⟩
      case round =>
        clear HR
        obtain ⟨e, va, rfl, hee, HR⟩ := hrel
        have HDe := Hid.of (di_row hm.out HD.out hlt e hee)
        have HSuc : Hid (dRow ars k s (e + 1) = dStep ars k (dRow ars k s e) e) := dRow_succ _ _ _ _
        have hk1 : k < (dRow ars k s e).sets.length := by
          obtain ⟨t, ht, -⟩ := dRow_pre ars k s e
          rw [ht, List.length_append]; omega
        have hl1 : (dRow ars k s e).sets.length ≤ 264 := by
          obtain ⟨t, ht, htl⟩ := dRow_pre ars k s e
          rw [ht, List.length_append]; omega
        obtain ⟨s1, HS1⟩ : ∃ s1, Hid (s1 = dRow ars k s e) := ⟨_, rfl⟩
        rw [← HS1.out] at HR HDe HSuc hk1 hl1
        obtain ⟨v6b, v6d, hv6, -⟩ := HR.out.ss.at2
        subst hv6
        obtain ⟨x0, x1, x2, x3, x4⟩ := HR.out.mcells
        dsimp only at x0 x1 x2 x3 x4
        have harl : s1.ar.length ≤ 2056 := by
          rw [HDe.out.len]
          have : k * ev ≤ 256 * 8 := Nat.mul_le_mul (by omega) hev
          omega
        by_cases hle : e < ev
        · obtain ⟨l, hl⟩ : ∃ l, Hid (s1.sets[k]? = some l) := ⟨_, List.getElem?_eq_getElem hk1⟩
          obtain ⟨g, cap, a', c', hvg, hg, -, -, cx, hxl, hin⟩ := HR.out.get hl.out
          cases hvg
          have hAt : Hid (At wr.drew a' l) := by
            rcases hin with h0 | ⟨q, o, e1, h1, -, -, h2⟩
            · exact .inl h0
            · exact .inr ⟨q, o, e1, h1, h2⟩
          have KEY : Hid (Calls Tryd.prog 53 #[mval ⟨(st : Int), (ev : Int), starts, ars, ends⟩ ⟨a1, c1, a2, c2, a3, c3⟩, .slice a' l.length c', .int .i64 e] wr.drew fun r w' => GivesO wr.drew (stepL ars l (e : Int)) r w') := refStep_own ⟨(st : Int), (ev : Int), starts, ars, ends⟩ ⟨a1, c1, a2, c2, a3, c3⟩ a' c' l (e : Int) wr.drew (h.out.a.below HR.out.bel.drew (Nat.le_refl _)) (Nat.le_trans hlen.out (by decide)) hAt.out hxl
          have HG := Hid.of hg
          clear hin hAt hg hxl
          go_wp2_with fail
          go_region_held3 (fun w' => w'.cell? ⟨w.heap.size, 0, none⟩ = some (.int .i64 st) ∧ w'.cell? ⟨w.heap.size, 1, none⟩ = some (.int .i64 ev) ∧ w'.cell? ⟨w.heap.size, 2, none⟩ = some (.slice a1 starts.length c1) ∧ w'.cell? ⟨w.heap.size, 3, none⟩ = some (.slice a2 ars.length c2) ∧ w'.cell? ⟨w.heap.size, 4, none⟩ = some (.slice a3 ends.length c3) ∧ w'.cell? ⟨g, k, none⟩ = some (.slice a' l.length c')) (go_keep) (first | (go_at_call 53; refine KEY.out.mono ?_; rintro r wL ⟨v9, rfl, o9, b9⟩; have GL : Hid (Below wr.heap.size wr wL) := ((Below.refl _ wr).drew).trans b9; obtain ⟨xx0, xx1, xx2, xx3, xx4⟩ := (HR.out.below GL.out).mcells; dsimp only at xx0 xx1 xx2 xx3 xx4; have cc1 := (GL.out.cell (p := ⟨g, k, none⟩) HG.out).trans cx; have O9 := Hid.of o9; clear b9 o9))
          clear KEY xx0 xx1 xx2 xx3 xx4 cc1 x0 x1 x2 x3 x4 cx
          have HRL := Hid.of (HR.out.below GL.out)
          obtain ⟨to, HTO⟩ : ∃ to, Hid (to = stepL ars l (e : Int)) := ⟨_, rfl⟩
          rw [← HTO.out] at O9
          have hn9 : Hid (InnN w.heap.size wL v9 to) := InnN.of_own O9.out
          obtain ⟨s9, c9, rfl, t1, t2, t3, -⟩ := O9.out.at2
          have T1 := Hid.of t1
          have T2 : Hid (to.length ≤ maxLen) := Nat.le_trans t2 t3
          clear HR GL O9 t1 t2 t3 HG
          have HST : Hid (dStep ars k s1 e = ⟨if findL s1.sets to = s1.sets.length then s1.sets ++ [to] else s1.sets, s1.ar ++ [⟨(k : Int), (e : Int), (findL s1.sets to : Nat)⟩]⟩) := by
            show _ = _
            unfold dStep; rw [hl.out, Option.getD_some, ← HTO.out]
          obtain ⟨w6, w6c, hw6, hat6⟩ := HRL.out.ss.at2
          cases hw6
          have KEYF : Hid (Calls Tryd.prog 79 #[.slice (some ⟨g, 0, none⟩) s1.sets.length v6d, .slice s9 to.length c9] wL fun r w' => r = .returned (.int .i64 (findL s1.sets to : Nat)) ∧ ∃ q, w' = wL.drewN q) := rfind_any _ _ _ _ s1.sets to wL hat6 (Nat.le_trans hl1 (by decide)) T1.out T2.out
          clear hat6
          have hfl := findL_le s1.sets to
          have HNW : Hid (findL s1.sets to = s1.sets.length → dRow ars k s (e + 1) = ⟨s1.sets ++ [to], s1.ar ++ [⟨(k : Int), (e : Int), (findL s1.sets to : Nat)⟩]⟩) := fun hn => by rw [HSuc.out, HST.out, if_pos hn]
          have HNK : Hid (¬ findL s1.sets to = s1.sets.length → dRow ars k s (e + 1) = ⟨s1.sets, s1.ar ++ [⟨(k : Int), (e : Int), (findL s1.sets to : Nat)⟩]⟩) := fun hn => by rw [HSuc.out, HST.out, if_neg hn]
          obtain ⟨n, HN⟩ : ∃ n, Hid (n = findL s1.sets to) := ⟨_, rfl⟩
          rw [← HN.out] at KEYF hfl HNW HNK
          go_wp2_with fail
          refine KEYF.out.mono ?_
          rintro r wF ⟨rfl, q, rfl⟩
          have HRF : Hid (RN w (wL.drewN q) b0 ⟨(st : Int), (ev : Int), starts, ars, ends⟩ ⟨a1, c1, a2, c2, a3, c3⟩ (.slice (some ⟨g, 0, none⟩) s1.sets.length v6d) va s1.sets s1.ar) := HRL.out.below (below_drewN (Below.refl _ _) q)
          have hnF : Hid (InnN w.heap.size (wL.drewN q) (.slice s9 to.length c9) to) := hn9.out
          clear KEYF HRL hn9 T1
          revert HRF hnF
          generalize wL.drewN q = U
          intro HRF hnF
          by_cases hnew : n = s1.sets.length
          · have dn : ((n : Int) == (s1.sets.length : Int)) = true := by rw [hnew]; simp
            have HNX := Hid.of (HNW.out hnew)
            clear hnew
            obtain ⟨vs, ho, hin⟩ := HRF.out.ss
            have HO := Hid.of ho
            have HI := Hid.of hin
            clear ho hin
            have hBU := HRF.out.hB
            have bU : Below U.heap.size U (U.alloc (.cells #[.slice s9 to.length c9] 22)) := (Below.refl _ _).alloc (Nat.le_refl _) _
            have hnz : w.heap.size ≤ U.heap.size := HRF.out.bel.size
            go_wp2_with (at_builtin; refine wpList_append_block _ rfl (.tmp 50) (.tmp 52) 39 rfl (b0 + 2) 22 i1 (.slice none 0 0) 1 24 Tryd.underlying39 hi hz0 hz1 hz2 rfl (by decide) _ _ _ rfl (World.ownsRow.alloc HO.out _) ⟨U.heap.size, 0, none⟩ 1 1 [.slice s9 to.length c9] rfl rfl (cell_one_new _ _ _) (by intro u hu; simp at hu; subst hu; rfl) (by decide) (by unfold maxLen; omega) (by omega) (by simp; omega) ?_)
            intro v7 w7 o7 g7 n7
            have P1 := Hid.of (RN.pushS HRF.out bU (World.ownsRow.alloc HO.out _) (fun j x xs e1 e2 => (HI.out j x xs e1 e2).kept bU.size (fun j hj => bU.block j (by omega)) (fun q cs hq => bU.block q (Array.getElem?_eq_some_iff.1 hq).1)) (hnF.out.kept bU.size (fun j hj => bU.block j (by omega)) (fun q cs hq => bU.block q (Array.getElem?_eq_some_iff.1 hq).1)) o7 g7)
            clear o7 g7 n7 HO HI HRF hnF bU dn hBU hnz
            obtain ⟨fa, fc, hfa, -, -, -⟩ := own_form2 P1.out.ar
            subst hfa
            have z3 : w7.cell? ⟨b0 + 1, 3, none⟩ = some (.slice fa s1.ar.length fc) := P1.out.nb.cell 3 rfl
            have hB7 := P1.out.hB
            go_wp2_with (at_builtin; refine wpList_append_arrs _ rfl (.tmp 55) (.tmp 60) 23 rfl (b0 + 2) j0 Tryd.underlying23 ji jz0 jz1 jz2 _ s1.ar rfl (World.ownsRow.alloc P1.out.ar _) (some ⟨w7.heap.size, 0, none⟩) 1 [⟨(k : Int), (e : Int), (n : Int)⟩] rfl (atA_new _ _ ⟨(k : Int), (e : Int), (n : Int)⟩ _ rfl) (fun h => by cases h) (by simp; omega) (by simp; omega) ?_)
            intro v8 w8 o8 g8 n8
            obtain ⟨ga, gc, hv8, -, -, -⟩ := own_form2 o8
            subst hv8
            obtain ⟨e1, e2⟩ := RN.pushA P1.out ((Below.refl _ _).alloc (Nat.le_refl _) _) o8 g8
            have y3 := e1.cell 3 rfl
            have yf := e1.frozen
            have hl8 : (s1.ar ++ [(⟨(k : Int), (e : Int), (n : Int)⟩ : Arr)]).length = s1.ar.length + 1 := by simp
            have E2 := Hid.of e2
            rw [hl8] at E2
            clear e1 e2 hl8 o8 g8 n8 z3 P1 hB7
            go_wp2_with fail
            clear y3 yf
            revert E2
            generalize w8.setCell ⟨b0 + 1, 3, none⟩ (.slice ga (s1.ar.length + 1) gc) = Y
            intro E2
            go_roundw
            case rel => exact ⟨e + 1, _, by go_num, by omega, (by show RN _ _ _ _ _ _ _ _ _; rw [HNX.out]; exact E2.out)⟩
            case measure => simp [intOf]; omega
          · have dn : ((n : Int) == (s1.sets.length : Int)) = false := by rw [beq_eq_false_iff_ne]; omega
            have dn2 : ¬ (n : Int) = (s1.sets.length : Int) := by omega
            have HNX := Hid.of (HNK.out hnew)
            clear hnew
            obtain ⟨fa, fc, hfa, -, -, -⟩ := own_form2 HRF.out.ar
            subst hfa
            have z3 : U.cell? ⟨b0 + 1, 3, none⟩ = some (.slice fa s1.ar.length fc) := HRF.out.nb.cell 3 rfl
            have hB7 := HRF.out.hB
            go_wp2_with (at_builtin; refine wpList_append_arrs _ rfl (.tmp 55) (.tmp 60) 23 rfl (b0 + 2) j0 Tryd.underlying23 ji jz0 jz1 jz2 _ s1.ar rfl (World.ownsRow.alloc HRF.out.ar _) (some ⟨U.heap.size, 0, none⟩) 1 [⟨(k : Int), (e : Int), (n : Int)⟩] rfl (atA_new _ _ ⟨(k : Int), (e : Int), (n : Int)⟩ _ rfl) (fun h => by cases h) (by simp; omega) (by simp; omega) ?_)
            intro v8 w8 o8 g8 n8
            obtain ⟨ga, gc, hv8, -, -, -⟩ := own_form2 o8
            subst hv8
            obtain ⟨e1, e2⟩ := RN.pushA HRF.out ((Below.refl _ _).alloc (Nat.le_refl _) _) o8 g8
            have y3 := e1.cell 3 rfl
            have yf := e1.frozen
            have hl8 : (s1.ar ++ [(⟨(k : Int), (e : Int), (n : Int)⟩ : Arr)]).length = s1.ar.length + 1 := by simp
            have E2 := Hid.of e2
            rw [hl8] at E2
            clear e1 e2 hl8 o8 g8 n8 z3 HRF hB7 hnF
            go_wp2_with fail
            clear y3 yf
            revert E2
            generalize w8.setCell ⟨b0 + 1, 3, none⟩ (.slice ga (s1.ar.length + 1) gc) = Y
            intro E2
            go_roundw
            case rel => exact ⟨e + 1, _, by go_num, by omega, (by show RN _ _ _ _ _ _ _ _ _; rw [HNX.out]; exact E2.out)⟩
            case measure => simp [intOf]; omega
        · have hev2 : e = ev := by omega
          have HFIN : Hid (s1 = dRow ars k s ev) := by show _ = _; rw [HS1.out, hev2]
          have HDN : Hid (DI ⟨(st : Int), (ev : Int), starts, ars, ends⟩ ev ((k + 1) * ev) s1) := by
            have := HDe.out
            show DI _ _ _ _
            rw [Nat.succ_mul, ← hev2] at *
            exact this
          clear hev2
          by_cases hbig : 256 < s1.sets.length
          · have d1 : decide ((256 : Int) < (s1.sets.length : Int)) = true := by simp; omega
            have HNO : Hid (detS ⟨(st : Int), (ev : Int), starts, ars, ends⟩ = none) := by show _ = _; rw [HE.out, dGo_none hlt (by rw [← HFIN.out]; exact hbig) (by omega)]
            have HDN2 := Hid.of (detOut_none hm.out HNO.out)
            obtain ⟨r0, r1, r2, r3, r4⟩ := zcell_at HR.out.rb
            have rz := HR.out.rb.frozen
            have RR : Hid (Blk _ (w.heap.size + 1) 25 (mcells m0 ml0)) := HR.out.rb.set5 (.int .i64 0) (.int .i64 0) (.slice none 0 0) (.slice none 0 0) (.slice none 0 0)
            clear hbig
            go_wp2
            refine bodyPost_ret (v := .tuple #[mval m0 ml0, .slice none 0 0, .int .i64 1]) ?_ rfl (makePost_err HDN2.out (below_set5 HR.out.bel (b' := w.heap.size + 1) (by omega) _ _ _ _ _))
            exact results_three (p := 2) (u := 3) (v := 4) rfl _ _ (w.heap.size + 1) m0 ml0 _ _ rfl rfl rfl RR.out
          · have d1 : decide ((256 : Int) < (s1.sets.length : Int)) = false := by simp; omega
            have HEN : Hid (detS ⟨(st : Int), (ev : Int), starts, ars, ends⟩ = dGo ars ev (257 - (k + 1)) (k + 1) s1) := by
              show _ = _
              rw [HE.out, dGo_next hlt (by rw [← HFIN.out]; exact hbig) (by omega), ← HFIN.out, show 257 - k - 1 = 257 - (k + 1) by omega]
            have h256' : s1.sets.length ≤ 256 := by omega
            clear hbig
            go_wp2_with fail
            go_roundw
            case rel => exact ⟨k + 1, s1, va, by go_num, by omega, h256', HR, HDN, HEN⟩
            case measure => simp [intOf]; omega
    · have HFIN : Hid (detS ⟨(st : Int), (ev : Int), starts, ars, ends⟩ = some s) := by show _ = _; rw [HE.out, dGo_end hlt]
      have HDO := Hid.of (detOut_some hm.out HFIN.out)
      have hke : k = s.sets.length := by omega
      have HDI := Hid.of (detS_di hm.out HFIN.out).1
      obtain ⟨fa, fc, hfa, fl1, fl2, fl3⟩ := own_form2 HR.out.ar
      subst hfa
      have z0 : wr.cell? ⟨b0 + 1, 0, none⟩ = some (.int .i64 0) := HR.out.nb.cell 0 rfl
      have zf := HR.out.nb.frozen
      have NB2 : Hid (Blk (wr.setCell ⟨b0 + 1, 0, none⟩ (.int .i64 s.sets.length)) (b0 + 1) 25 (rcells s.sets.length (ev : Int) b0 (.slice fa s.ar.length fc) (.slice none 0 0))) := HR.out.nb.set 0 _
      have KP2 : Hid (Kp (b0 + 1) wr (wr.setCell ⟨b0 + 1, 0, none⟩ (.int .i64 s.sets.length))) := (Kp.refl _ _).set 0 _
      have BE2 : Hid (Below w.heap.size w (wr.setCell ⟨b0 + 1, 0, none⟩ (.int .i64 s.sets.length))) := HR.out.bel.setCell (p := ⟨b0 + 1, 0, none⟩) (show w.heap.size ≤ b0 + 1 by omega) _
      clear HE hke
      obtain ⟨W0, hW0⟩ : ∃ W0 : World, W0 = wr := ⟨wr, rfl⟩
      subst hW0
      go_wp2_with fail
      clear z0 zf
      revert NB2 KP2 BE2
      generalize W0.setCell ⟨b0 + 1, 0, none⟩ (.int .i64 s.sets.length) = X2
      intro NB2 KP2 BE2
      go_loopw [11] (fun i wr' => ∃ (k : Nat) (ve : Value), k ≤ s.sets.length ∧ i = .int .i64 k ∧ Hid (Kp (b0 + 1) W0 wr') ∧ Hid (Blk wr' (b0 + 1) 25 (rcells s.sets.length (ev : Int) b0 (.slice fa s.ar.length fc) ve)) ∧ Hid (Own wr' W0.heap.size ve (endsD ends (s.sets.take k))) ∧ Hid (Below w.heap.size w wr')) (fun i _ => s.sets.length - (intOf i).toNat)
      case atStart => exact ⟨0, .slice none 0 0, Nat.zero_le _, rfl, KP2, NB2, own_nil _ _, BE2⟩
      case round =>
        clear NB2 KP2 BE2
        obtain ⟨k, ve, hk, rfl, KP, NB, EN, BE⟩ := hrel
        have hBz := HR.out.hB
        obtain ⟨ea, ec, hve, el1, el2, el3⟩ := own_form2 EN.out
        subst hve
        have KM := Hid.of (KP.out.blk HR.out.kb (by omega))
        have x4 : wr.cell? ⟨w.heap.size, 4, none⟩ = some (.slice a3 ends.length c3) := KM.out.cell 4 rfl
        have hel2 : (endsD ends (s.sets.take k)).length ≤ 256 := Nat.le_trans (endsFrom_len _ _ _) (by rw [List.length_take]; omega)
        by_cases hkt : k < s.sets.length
        · obtain ⟨xs, hxs⟩ : ∃ xs, Hid (s.sets[k]? = some xs) := ⟨_, List.getElem?_eq_getElem hkt⟩
          obtain ⟨g, cap, a', c', hvg, hg, hg1, hg2, cx0, hxl, hin⟩ := HR.out.get hxs.out
          cases hvg
          have cx : wr.cell? ⟨g, k, none⟩ = some (.slice a' xs.length c') := (World.cell?_of_block (w := W0) (KP.out.same g hg hg1)).trans cx0
          have hAt : Hid (At wr.drew a' xs) := at_kp hin (KP.out.below ((Below.refl _ _).drew))
          have hx256 : xs.length ≤ 256 := by
            obtain ⟨q1, q2⟩ := HDI.out.inc xs (List.mem_of_getElem? hxs.out)
            exact nodup_len 256 xs (inc_nodup q1) (fun x hx => by have := q2 x hx; dsimp only at this; omega)
          have KEY : Hid (Calls Tryd.prog 54 #[.slice a' xs.length c', .slice a3 ends.length c3, .bool true] wr.drew fun r w' => Gives wr.drew (xs.filter (fun n => hasB ends n == true)) r w') := only_any a' a3 c' c3 xs ends true wr.drew hAt.out (by omega) (h.out.e.below BE.out.drew (Nat.le_refl _)) hel.out
          have HG : Hid (g < wr.heap.size) := Nat.lt_of_lt_of_le hg KP.out.size
          have HTK := Hid.of (endsD_take (ends := ends) hxs.out)
          obtain ⟨F, HFF⟩ : ∃ F, Hid (F = xs.filter (fun n => hasB ends n == true)) := ⟨_, rfl⟩
          rw [← HFF.out] at KEY HTK
          clear hin hAt hg hg1 hg2 cx0 hxl
          go_wp2_with fail
          go_region_held3 (fun w' => w'.cell? ⟨g, k, none⟩ = some (.slice a' xs.length c') ∧ w'.cell? ⟨w.heap.size, 4, none⟩ = some (.slice a3 ends.length c3)) (go_keep) (first | (go_at_call 54; refine KEY.out.mono ?_; rintro r wL ⟨b1, d1, rfl, t1, t2, b9⟩; have GL : Hid (Below wr.heap.size wr wL) := ((Below.refl _ wr).drew).trans b9; have cc1 := (GL.out.cell (p := ⟨g, k, none⟩) HG.out).trans cx; have cc2 : wL.cell? ⟨w.heap.size, 4, none⟩ = some (.slice a3 ends.length c3) := (KM.out.below GL.out KM.out.lt).cell 4 rfl; clear b9 t1))
          clear KEY cc1 cc2 cx x4 KM
          have KPL := Hid.of (KP.out.below GL.out)
          have NBL := Hid.of (NB.out.below GL.out NB.out.lt)
          have ENL := Hid.of (EN.out.keep GL.out (Nat.le_refl _))
          have BEL := Hid.of (BE.out.trans (GL.out.mono BE.out.size))
          clear KP NB EN BE GL
          by_cases hpos : 0 < F.length
          · rw [if_pos hpos] at HTK
            have dF : decide ((0 : Int) < (F.length : Int)) = true := decide_eq_true (by omega)
            have hposI : (0 : Int) < (F.length : Int) := by omega
            generalize endsD ends (s.sets.take k) = E at *
            have z4 : wL.cell? ⟨b0 + 1, 4, none⟩ = some (.slice ea E.length ec) := NBL.out.cell 4 rfl
            have hzL := KPL.out.size
            go_wp2_with (at_builtin; refine wpList_append_block _ rfl (.tmp 87) (.tmp 89) 22 rfl W0.heap.size 3 k0 (.int .i64 0) 1 8 Tryd.underlying22 ki kz0 kz1 kz2 rfl (by decide) _ _ _ rfl (World.ownsRow.alloc ENL.out _) ⟨wL.heap.size, 0, none⟩ 1 1 [.int .i64 (k : Int)] rfl rfl (cell_one_new _ _ _) (by intro u hu; simp at hu; subst hu; rfl) (by decide) (by unfold maxLen; omega) (by omega) (by simp; omega) ?_)
            intro v9 w9 o9 g9 n9
            obtain ⟨ga, gc, hv9, -, -, -⟩ := own_form2 o9
            subst hv9
            have nb9 : Blk w9 (b0 + 1) 25 (rcells s.sets.length (ev : Int) b0 (.slice fa s.ar.length fc) (.slice ea E.length ec)) := (g9.block (b0 + 1) (by rw [World.size_alloc]; have := NBL.out.lt; omega) (fun e => by have := (World.ownsRow.lt ENL.out (b0 + 1) e.symm).1; omega)).trans (NBL.out.alloc _)
            have y4 := nb9.cell 4 rfl
            have yf := nb9.frozen
            have Q1 : Hid (Kp (b0 + 1) W0 (w9.setCell ⟨b0 + 1, 4, none⟩ (.slice ga (E.length + 1) gc))) := ((KPL.out.alloc _).grown g9 (fun q hq => (World.ownsRow.lt ENL.out q hq).1)).set 4 _
            have Q2 : Hid (Blk (w9.setCell ⟨b0 + 1, 4, none⟩ (.slice ga (E.length + 1) gc)) (b0 + 1) 25 (rcells s.sets.length (ev : Int) b0 (.slice fa s.ar.length fc) (.slice ga (E.length + 1) gc))) := nb9.set 4 _
            have Q3 : Hid (Own (w9.setCell ⟨b0 + 1, 4, none⟩ (.slice ga (E.length + 1) gc)) W0.heap.size (.slice ga (E.length + 1) gc) (E ++ [(k : Int)])) := by
              have q := ownsRow_set (j := 4) o9 (show b0 + 1 < W0.heap.size by omega) (.slice ga (E.length + 1) gc)
              show World.ownsRow _ _ _ _ _ _ _
              rw [List.length_append, List.map_append]
              exact q
            have Q4 : Hid (Below w.heap.size w (w9.setCell ⟨b0 + 1, 4, none⟩ (.slice ga (E.length + 1) gc))) := ((BEL.out.alloc BEL.out.size _).grown g9 (by simp; have := BEL.out.size; omega) (fun q hq => Nat.le_trans HR.out.bel.size (World.ownsRow.lt ENL.out q hq).1)).setCell (p := ⟨b0 + 1, 4, none⟩) (show w.heap.size ≤ b0 + 1 by omega) _
            clear nb9 o9 g9 n9 z4 KPL NBL ENL BEL hzL
            go_wp2_with fail
            clear y4 yf
            revert Q1 Q2 Q3 Q4
            generalize w9.setCell ⟨b0 + 1, 4, none⟩ (.slice ga (E.length + 1) gc) = Y
            generalize Value.slice ga (E.length + 1) gc = ve9
            intro Q1 Q2 Q3 Q4
            go_roundw
            case rel => exact ⟨k + 1, ve9, by omega, by go_num, Q1, Q2, (by show Own _ _ _ _; rw [HTK.out]; exact Q3.out), Q4⟩
            case measure => simp [intOf]; omega
          · rw [if_neg hpos] at HTK
            have dF : decide ((0 : Int) < (F.length : Int)) = false := decide_eq_false (by omega)
            have hposI : ¬ (0 : Int) < (F.length : Int) := by omega
            have hF0 : Hid (F.length = 0) := show _ = _ by omega
            go_wp2_with fail
            go_roundw
            case rel => exact ⟨k + 1, _, by omega, by go_num, KPL, NBL, (by show Own _ _ _ _; rw [HTK.out]; exact ENL.out), BEL⟩
            case measure => simp [intOf]; omega
        · have HTK : Hid (s.sets.take k = s.sets) := List.take_of_length_le (by omega)
          rw [HTK.out] at EN NB hel2 el1
          have hne : w.heap.size + 1 ≠ b0 + 1 := by omega
          have RB := Hid.of (KP.out.blk HR.out.rb hne)
          obtain ⟨r0, r1, r2, r3, r4⟩ := zcell_at RB.out
          have rz := RB.out.frozen
          have n0 : wr.cell? ⟨b0 + 1, 0, none⟩ = some (.int .i64 s.sets.length) := NB.out.cell 0 rfl
          have n1 : wr.cell? ⟨b0 + 1, 1, none⟩ = some (.int .i64 ev) := NB.out.cell 1 rfl
          have n2 : wr.cell? ⟨b0 + 1, 2, none⟩ = some (.slice (some ⟨b0, 0, none⟩) 1 1) := NB.out.cell 2 rfl
          have n3 : wr.cell? ⟨b0 + 1, 3, none⟩ = some (.slice fa s.ar.length fc) := NB.out.cell 3 rfl
          have n4 : wr.cell? ⟨b0 + 1, 4, none⟩ = some (.slice ea (endsD ends s.sets).length ec) := NB.out.cell 4 rfl
          have AR : OwnA wr (b0 + 2) (.slice fa s.ar.length fc) s.ar := own_same HR.out.ar (fun q hq => KP.out.same q (World.ownsRow.lt HR.out.ar q hq).2 (by have := (World.ownsRow.lt HR.out.ar q hq).1; omega))
          have S0B := KP.out.blk HR.out.s0 (show b0 ≠ b0 + 1 by omega)
          have hMX : MAt wr (detM ⟨(st : Int), (ev : Int), starts, ars, ends⟩ s) ⟨some ⟨b0, 0, none⟩, 1, fa, fc, ea, ec⟩ := by
            obtain ⟨ya, yc, ye, yt, y1, y2, y3⟩ := OwnA.at AR
            cases ye
            obtain ⟨xa, xc, xe, xt, x1, x2, x3⟩ := Own.at2 EN.out
            cases xe
            refine ⟨.inr ⟨b0, 0, rfl, S0B.lt, fun j hj => ?_⟩, yt, xt, Nat.le_refl _, (show (1 : Nat) ≤ maxLen by decide), (fun h => by cases h), y1, y2, y3, x1, x2, x3⟩
            have hj : j = 0 := by simp [detM] at hj; exact hj
            subst hj
            exact S0B.cell 0 rfl
          have hFX : FrM (w.heap.size + 2) (detM ⟨(st : Int), (ev : Int), starts, ars, ends⟩ s) ⟨some ⟨b0, 0, none⟩, 1, fa, fc, ea, ec⟩ := ⟨.inr ⟨b0, 0, rfl, by omega⟩, OwnA.fr (show OwnA wr (w.heap.size + 2) _ _ from ownsRow_low AR (by omega)), Own.fr (EN.out.low (by omega))⟩
          have RR : Hid (Blk _ (w.heap.size + 1) 25 (mcells (detM ⟨(st : Int), (ev : Int), starts, ars, ends⟩ s) ⟨some ⟨b0, 0, none⟩, 1, fa, fc, ea, ec⟩)) := RB.out.set5 (.int .i64 s.sets.length) (.int .i64 ev) (.slice (some ⟨b0, 0, none⟩) 1 1) (.slice fa s.ar.length fc) (.slice ea (endsD ends s.sets).length ec)
          have MF := Hid.of (hMX.set5 (b := w.heap.size + 1) hFX (by omega) (.int .i64 s.sets.length) (.int .i64 ev) (.slice (some ⟨b0, 0, none⟩) 1 1) (.slice fa s.ar.length fc) (.slice ea (endsD ends s.sets).length ec))
          have BF := Hid.of (below_set5 BE.out (b' := w.heap.size + 1) (by omega) (.int .i64 s.sets.length) (.int .i64 ev) (.slice (some ⟨b0, 0, none⟩) 1 1) (.slice fa s.ar.length fc) (.slice ea (endsD ends s.sets).length ec))
          have AF2 := Hid.of (HR.out.fin KP.out (size_set5 wr (w.heap.size + 1) (.int .i64 s.sets.length) (.int .i64 ev) (.slice (some ⟨b0, 0, none⟩) 1 1) (.slice fa s.ar.length fc) (.slice ea (endsD ends s.sets).length ec)) (heap_set5 wr (w.heap.size + 1) (.int .i64 s.sets.length) (.int .i64 ev) (.slice (some ⟨b0, 0, none⟩) 1 1) (.slice fa s.ar.length fc) (.slice ea (endsD ends s.sets).length ec)))
          clear hMX hFX AR S0B x4 KM
          go_wp2
          refine bodyPost_ret (v := .tuple #[mval (detM ⟨(st : Int), (ev : Int), starts, ars, ends⟩ s) ⟨some ⟨b0, 0, none⟩, 1, fa, fc, ea, ec⟩, .slice v6a s.sets.length v6c, .int .i64 0]) ?_ rfl ?_
          · exact results_three (p := 2) (u := 3) (v := 4) rfl _ _ (w.heap.size + 1) (detM ⟨(st : Int), (ev : Int), starts, ars, ends⟩ s) ⟨some ⟨b0, 0, none⟩, 1, fa, fc, ea, ec⟩ _ _ rfl rfl rfl RR.out
          · unfold MakePost
            rw [HDO.out]
            dsimp only
            obtain ⟨za, zc, ze, zt⟩ := AF2.out
            cases ze
            exact ⟨_, _, _, rfl, MF.out, zt, h256, BF.out⟩

theorem rMake_any (m : Mach) (l : ML) (w : World) (h : MAt w m l) : Calls Tryd.prog 35 #[mval m l] w fun e w' => MakePost w m e w' := by
  cases hm : mayB m with
  | false => exact rmake_err m l w (Hid.of h) (Hid.of hm)
  | true =>
    have hz := mayB_size hm
    obtain ⟨st, ev, starts, ars, ends⟩ := m
    obtain ⟨a1, c1, a2, c2, a3, c3⟩ := l
    obtain ⟨z1, z2, z3, z4, z5⟩ := hz
    simp only at z1 z2 z3 z4 z5
    obtain ⟨s, rfl⟩ : ∃ s : Nat, st = (s : Int) := ⟨st.toNat, by omega⟩
    obtain ⟨v, rfl⟩ : ∃ v : Nat, ev = (v : Int) := ⟨ev.toNat, by omega⟩
    exact rmake_ok s v starts ars ends a1 c1 a2 c2 a3 c3 w (Hid.of h) (Hid.of hm)

end Go.Proofs.YtbdkaobbfmgnhaaDoor
