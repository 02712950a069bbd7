/-
  The walk of jalousieref12.Told.
-/
import Derived.Test.YtgebfkmfhpcdhaaDoorI32
namespace Go.Proofs.YtgebfkmfhpcdhaaDoor
open Go.RowKit
set_option linter.unusedVariables false

theorem mat_one (W : World) (e : Int) : MAt W ⟨1, e, [], [], []⟩ ml0 := ⟨.inl rfl, .inl rfl, .inl rfl, Nat.le_refl _, Nat.zero_le _, fun _ => rfl, Nat.le_refl _, Nat.zero_le _, fun _ => rfl, Nat.le_refl _, Nat.zero_le _, fun _ => rfl⟩
theorem low_len (m : Mach) (high : List Int) : (lowA m high).length ≤ m.arrows.length := List.length_filter_le _ _

set_option maxRecDepth 100000 in
set_option maxHeartbeats 64000000 in
theorem rqtold_go (st : Int) (ev : Nat) (starts : List Int) (ars : List Arr) (ends : List Int) (a1 : Option Addr) (c1 : Nat) (a2 : Option Addr) (c2 : Nat) (a3 : Option Addr) (c3 : Nat) (ha : Option Addr) (hc : Nat) (high : List Int) (w : World) (hma : Hid (MAt w ⟨st, (ev : Int), starts, ars, ends⟩ ⟨a1, c1, a2, c2, a3, c3⟩)) (hh : Hid (At w ha high)) (hhl : Hid (high.length ≤ maxLen)) (mm : Hid (mayB ⟨st, (ev : Int), starts, ars, ends⟩ = true)) (zm : Hid (st ≤ 6)) :
    Calls Tryd.prog 48 #[mval ⟨st, (ev : Int), starts, ars, ends⟩ ⟨a1, c1, a2, c2, a3, c3⟩, .slice ha high.length hc] w fun e w' => TolPost w (outT ⟨st, (ev : Int), starts, ars, ends⟩ high) e w' := by
  have hz := mayB_size mm.out
  unfold sizeOk at hz
  dsimp only at hz
  have hlen : Hid (ars.length ≤ 4096) := show _ ≤ _ by omega
  have hev : ev ≤ 8 := by omega
  clear hz
  have ms : Hid (mayB ⟨1, (ev : Int), [], [], []⟩ = true) := may_one mm.out
  have zs : Hid ((1 : Int) ≤ 4) := show (1 : Int) ≤ 4 by omega
  have h96 : Hid ((allQ ⟨st, (ev : Int), starts, ars, ends⟩ ⟨1, (ev : Int), [], [], []⟩).length ≤ 96) := allQ_len zm.out _
  have HSM : Hid (∀ q : List Pla, (q.Nodup ∧ ∀ y ∈ q, y ∈ (allQ ⟨st, (ev : Int), starts, ars, ends⟩ ⟨1, (ev : Int), [], [], []⟩)) → q.length ≤ 96) := fun q hq => Nat.le_trans (nodup_sub hq.1 hq.2) h96.out
  have el : Hid (ends.length ≤ maxLen) := Nat.le_trans hma.out.e1 hma.out.e2
  obtain ⟨i0, hi, hz0, hz1, hz2⟩ := info_parts Tryd.infoRowQ
  obtain ⟨r0, ri, rz0, rz1, rz2⟩ := info_parts Tryd.infoRowI
  obtain ⟨k0, ki, kz0, kz1, kz2⟩ := info_parts Tryd.infoInt
  have B : Hid (Below w.heap.size w (w.alloc (.cells (mcells ⟨st, (ev : Int), starts, ars, ends⟩ ⟨a1, c1, a2, c2, a3, c3⟩) 25))) := (Below.refl _ _).alloc (Nat.le_refl _) _
  have KM : Hid (Blk (w.alloc (.cells (mcells ⟨st, (ev : Int), starts, ars, ends⟩ ⟨a1, c1, a2, c2, a3, c3⟩) 25)) w.heap.size 25 (mcells ⟨st, (ev : Int), starts, ars, ends⟩ ⟨a1, c1, a2, c2, a3, c3⟩)) := Blk.new w _ _
  go_enter Tryd.func48, Tryd.ntmps48
  obtain ⟨x0, x1, x2, x3, x4⟩ := mcell_at KM.out
  dsimp only at x0 x1 x2 x3 x4
  go_wp2_with fail
  clear x0 x1 x2 x3 x4
  revert B KM
  generalize (w.alloc (.cells (mcells ⟨st, (ev : Int), starts, ars, ends⟩ ⟨a1, c1, a2, c2, a3, c3⟩) 25)) = V0
  intro B KM
  refine (rqlow_any ⟨st, (ev : Int), starts, ars, ends⟩ ⟨a1, c1, a2, c2, a3, c3⟩ ha hc high V0 (hma.out.below B.out (Nat.le_refl _)) (hh.out.below B.out (Nat.le_refl _)) hhl.out hlen.out).mono ?_
  rintro e W1 ⟨la, lc, he, oa, hb⟩
  obtain ⟨LA, HLA⟩ : ∃ LA, Hid (LA = lowA ⟨st, (ev : Int), starts, ars, ends⟩ high) := ⟨_, rfl⟩
  have HLL : Hid (LA.length ≤ 17592186044416) := by
    have h1 := low_len ⟨st, (ev : Int), starts, ars, ends⟩ high
    have h2 := hlen.out
    show _ ≤ _
    rw [HLA.out]
    exact Nat.le_trans h1 (Nat.le_trans h2 (by decide))
  rw [← HLA.out] at oa
  replace he : e = .returned (mval ⟨st, (ev : Int), starts, LA, ends⟩ ⟨a1, c1, la, lc, a3, c3⟩) := by rw [he, HLA.out]
  subst he
  have OA : Hid (OwnA W1 w.heap.size (.slice la LA.length lc) LA) := OwnA.low oa B.out.size
  replace B := Hid.of (B.out.trans (hb.mono B.out.size))
  replace KM := Hid.of (KM.out.below hb KM.out.lt)
  clear hb oa
  have hb : Below W1.heap.size W1 (W1.alloc (.cells #[.int .i64 st, .int .i64 ev, .slice a1 starts.length c1, .slice la LA.length lc, .slice a3 ends.length c3] 25)) := (Below.refl _ _).alloc (Nat.le_refl _) _
  replace B := Hid.of (B.out.trans (hb.mono B.out.size))
  replace KM := Hid.of (KM.out.below hb KM.out.lt)
  replace OA := Hid.of (OA.out.kept hb (Nat.le_refl _))
  have KL : Hid (Blk (W1.alloc (.cells #[.int .i64 st, .int .i64 ev, .slice a1 starts.length c1, .slice la LA.length lc, .slice a3 ends.length c3] 25)) W1.heap.size 25 (mcells ⟨st, (ev : Int), starts, LA, ends⟩ ⟨a1, c1, la, lc, a3, c3⟩)) := Blk.new W1 _ _
  clear hb
  go_wp2_with fail
  revert B KM OA KL
  generalize W1.alloc (.cells #[.int .i64 st, .int .i64 ev, .slice a1 starts.length c1, .slice la LA.length lc, .slice a3 ends.length c3] 25) = X1
  generalize W1.heap.size = pl
  intro B KM OA KL
  go_loopw [7, 8] (fun v7 i wr => ∃ k : Nat, i = .int .i64 k ∧ k ≤ ev ∧ Hid (Own wr w.heap.size v7 ((rngI k).filter fun e => !hasB high e)) ∧ Hid (Below w.heap.size w wr) ∧ Hid (Blk wr w.heap.size 25 (mcells ⟨st, (ev : Int), starts, ars, ends⟩ ⟨a1, c1, a2, c2, a3, c3⟩)) ∧ Hid (OwnA wr w.heap.size (.slice la LA.length lc) LA) ∧ Hid (Blk wr pl 25 (mcells ⟨st, (ev : Int), starts, LA, ends⟩ ⟨a1, c1, la, lc, a3, c3⟩))) (fun _ i _ => ev - (intOf i).toNat)
  case atStart => exact ⟨0, rfl, Nat.zero_le _, own_nil _ _, B, KM, OA, KL⟩
  case round =>
    clear B KM OA KL
    obtain ⟨k, rfl, hk, OS, B, KM, OA, KL⟩ := hrel
    have hsl0 := seenH_len high k
    have HTK := Hid.of (seenH_take (high := high) (k := k))
    obtain ⟨seen, HSE⟩ : ∃ seen, Hid (seen = (rngI k).filter fun e => !hasB high e) := ⟨_, rfl⟩
    rw [← HSE.out] at OS HTK hsl0
    obtain ⟨sa, sc, hsv, -, -, -⟩ := own_form2 OS.out
    subst hsv
    obtain ⟨x0, x1, x2, x3, x4⟩ := mcell_at KM.out
    dsimp only at x0 x1 x2 x3 x4
    by_cases hlt : k < ev
    · have hkD : decide ((k : Int) < (ev : Int)) = true := by simp; omega
      have KEY := Hid.of (refHas_any ha hc high (k : Int) wr (hh.out.below B.out (Nat.le_refl _)) hhl.out)
      go_wp2_with fail
      refine KEY.out.mono ?_
      rintro e W1 ⟨rfl, rfl⟩
      clear KEY x0 x1 x2 x3 x4
      cases hbb : hasB high (k : Int) with
      | true =>
        have HNX : Hid (((rngI (k + 1)).filter fun e => !hasB high e) = seen) := by show _ = _; rw [HTK.out, if_pos hbb, List.append_nil]
        clear hbb
        go_wp2_with fail
        go_roundw
        case rel => exact ⟨k + 1, by go_num, by omega, by rw [HNX.out]; exact OS, B, KM, OA, KL⟩
        case measure => simp [intOf]; omega
      | false =>
        have HNX : Hid (((rngI (k + 1)).filter fun e => !hasB high e) = seen ++ [(k : Int)]) := by show _ = _; rw [HTK.out, if_neg (by rw [hbb]; simp)]
        clear hbb
        have hB0 := B.out.size
        go_wp2_with (at_builtin; refine wpList_append_block _ rfl (.tmp 36) (.tmp 38) 22 rfl w.heap.size 3 k0 (.int .i64 0) 1 8 Tryd.underlying22 ki kz0 kz1 kz2 rfl (by decide) _ _ _ rfl (World.ownsRow.alloc OS.out _) ⟨W1.heap.size, 0, none⟩ 1 1 [.int .i64 (k : Int)] rfl rfl (cell_one_new _ _ _) (by intro u hu; simp at hu; subst hu; rfl) (by decide) (by unfold maxLen; omega) (by omega) (by simp; omega) ?_)
        intro v9 w9 o9 g9 n9
        have bq : Below W1.heap.size W1 (W1.alloc (.cells #[.int .i64 (k : Int)] 3)) := (Below.refl _ _).alloc (Nat.le_refl _) _
        have hk9 := kepT_grown (n := w.heap.size) (World.ownsRow.alloc OS.out (.cells #[.int .i64 (k : Int)] 3)) g9 (Nat.le_refl _) (Nat.le_trans hB0 bq.size)
        obtain ⟨q1, q2, q3⟩ := own_snoc OS.out B.out hB0 o9 g9
        have Q1 := Hid.of q1
        have Q2 := Hid.of q2
        have KM9 := Hid.of ((hk9.ty _ _ _ (by decide) (KM.out.below bq KM.out.lt)).trans (KM.out.below bq KM.out.lt))
        have KL9 := Hid.of ((hk9.ty _ _ _ (by decide) (KL.out.below bq KL.out.lt)).trans (KL.out.below bq KL.out.lt))
        have OA9 := Hid.of (own_kepA (OA.out.kept bq (Nat.le_refl _)) hk9 (by decide))
        clear q1 q2 q3 o9 g9 n9 bq hk9 OS B KM OA KL hB0
        go_wp2_with fail
        go_roundw
        case rel => exact ⟨k + 1, by go_num, by omega, by rw [HNX.out]; exact Q1, Q2, KM9, OA9, KL9⟩
        case measure => simp [intOf]; omega
    · have hkD : decide ((k : Int) < (ev : Int)) = false := by simp; omega
      have hke : k = ev := by omega
      have hge : ev ≤ k := by omega
      have HSH : Hid (seen = seenH ⟨st, (ev : Int), starts, ars, ends⟩ high) := by
        show _ = _
        rw [HSE.out, hke]; rfl
      have hsl : seen.length ≤ 8 := by omega
      have hslm : Hid (seen.length ≤ maxLen) := Nat.le_trans hsl (by decide)
      clear hke hlt HTK hsl0 HSE
      have hb : Below wr.heap.size wr (wr.alloc (.cells #[.int .i64 1, .int .i64 ev, .slice none 0 0, .slice none 0 0, .slice none 0 0] 25)) := (Below.refl _ _).alloc (Nat.le_refl _) _
      have B1 := Hid.of (B.out.trans (hb.mono B.out.size))
      have KM1 := Hid.of (KM.out.below hb KM.out.lt)
      have OA1 := Hid.of (OA.out.kept hb (Nat.le_refl _))
      have KL1 := Hid.of (KL.out.below hb KL.out.lt)
      have OS1 : Hid (Own (wr.alloc (.cells #[.int .i64 1, .int .i64 ev, .slice none 0 0, .slice none 0 0, .slice none 0 0] 25)) w.heap.size (.slice sa seen.length sc) seen) := own_kepI OS.out (kepT_below (T0 := 25) (n := 0) hb (Nat.zero_le _)) (by decide)
      have KO1 : Hid (Blk (wr.alloc (.cells #[.int .i64 1, .int .i64 ev, .slice none 0 0, .slice none 0 0, .slice none 0 0] 25)) wr.heap.size 25 (mcells ⟨1, (ev : Int), [], [], []⟩ ml0)) := Blk.new wr _ _
      clear hb
      obtain ⟨z0, z1, z2, z3, z4⟩ := mcell_at KM1.out
      obtain ⟨y0, y1, y2, y3, y4⟩ := mcell_at KO1.out
      dsimp only at y0 y1 y2 y3 y4 z0 z1 z2 z3 z4
      go_wp2_with fail
      clear x0 x1 x2 x3 x4 y0 y1 y2 y3 y4 z0 z1 z2 z3 z4 B KM OA KL OS
      revert B1 KM1 OA1 KL1 OS1 KO1
      generalize wr.alloc (.cells #[.int .i64 1, .int .i64 ev, .slice none 0 0, .slice none 0 0, .slice none 0 0] 25) = X2
      generalize wr.heap.size = p1
      intro B KM OA KL OS KO
      obtain ⟨sa', sc', hsve, sat, -⟩ := Own.at OS.out
      cases hsve
      refine (rqfirst_any ⟨st, (ev : Int), starts, ars, ends⟩ ⟨1, (ev : Int), [], [], []⟩ ⟨a1, c1, a2, c2, a3, c3⟩ ml0 sa sc seen w X2 B.out (mat_one w _) (hma.out.below B.out (Nat.le_refl _)) (mat_one X2 _) sat hslm.out mm.out ms.out zm.out zs.out).mono ?_
      rintro e W2 ⟨v, rfl, ov, hb⟩
      obtain ⟨fst, HF⟩ : ∃ fst, Hid (fst = firstQ ⟨st, (ev : Int), starts, ars, ends⟩ ⟨1, (ev : Int), [], [], []⟩ seen) := ⟨_, rfl⟩
      rw [← HF.out] at ov
      have HFI : Hid (fst.Nodup ∧ ∀ y ∈ fst, y ∈ (allQ ⟨st, (ev : Int), starts, ars, ends⟩ ⟨1, (ev : Int), [], [], []⟩)) := by rw [HF.out]; exact ⟨(first_in mm.out ms.out zm.out zs.out).1, (first_in mm.out ms.out zm.out zs.out).2.1⟩
      obtain ⟨va, vc, hv⟩ := ov.form
      subst hv
      obtain ⟨va', vc', ev', aq, -⟩ := ov.at
      cases ev'
      replace B := Hid.of (B.out.trans (hb.mono B.out.size))
      replace KM := Hid.of (KM.out.below hb KM.out.lt)
      replace OA := Hid.of (OA.out.kept hb (Nat.le_refl _))
      replace KL := Hid.of (KL.out.below hb KL.out.lt)
      replace OS : Hid (Own W2 w.heap.size (.slice sa seen.length sc) seen) := own_kepI OS.out (kepT_below (T0 := 25) (n := 0) hb (Nat.zero_le _)) (by decide)
      replace KO := Hid.of (KO.out.below hb KO.out.lt)
      have HW0 : Hid (TS w (((W2.alloc (.cells #[.slice va fst.length vc] 60)).alloc (.cells #[.slice a1 starts.length c1] 22)).alloc (.cells #[.slice none 0 0] 22)) ⟨st, (ev : Int), starts, ars, ends⟩ ⟨a1, c1, a2, c2, a3, c3⟩ LA pl p1 la lc (.slice sa seen.length sc) seen (.slice (some ⟨W2.heap.size, 0, none⟩) 1 1) (.slice (some ⟨W2.heap.size + 1, 0, none⟩) 1 1) (.slice (some ⟨W2.heap.size + 1 + 1, 0, none⟩) 1 1) [fst] [starts] [[]]) := by
        have bA : Below W2.heap.size W2 (W2.alloc (.cells #[.slice va fst.length vc] 60)) := (Below.refl _ _).alloc (Nat.le_refl _) _
        have bB : Below (W2.alloc (.cells #[.slice va fst.length vc] 60)).heap.size (W2.alloc (.cells #[.slice va fst.length vc] 60)) ((W2.alloc (.cells #[.slice va fst.length vc] 60)).alloc (.cells #[.slice a1 starts.length c1] 22)) := (Below.refl _ _).alloc (Nat.le_refl _) _
        have bC : Below ((W2.alloc (.cells #[.slice va fst.length vc] 60)).alloc (.cells #[.slice a1 starts.length c1] 22)).heap.size ((W2.alloc (.cells #[.slice va fst.length vc] 60)).alloc (.cells #[.slice a1 starts.length c1] 22)) (((W2.alloc (.cells #[.slice va fst.length vc] 60)).alloc (.cells #[.slice a1 starts.length c1] 22)).alloc (.cells #[.slice none 0 0] 22)) := (Below.refl _ _).alloc (Nat.le_refl _) _
        have b3 : Below W2.heap.size W2 (((W2.alloc (.cells #[.slice va fst.length vc] 60)).alloc (.cells #[.slice a1 starts.length c1] 22)).alloc (.cells #[.slice none 0 0] 22)) := bA.trans ((bB.trans (bC.mono bB.size)).mono bA.size)
        have nA := Nat.le_trans B.out.size bA.size
        have nB := Nat.le_trans nA bB.size
        refine ⟨B.out.trans (b3.mono B.out.size), KM.out.below b3 KM.out.lt, KL.out.below b3 KL.out.lt, KO.out.below b3 KO.out.lt, OA.out.kept b3 (Nat.le_refl _), own_kepI OS.out (kepT_below (T0 := 25) (n := 0) b3 (Nat.zero_le _)) (by decide), ((ownQQ_one aq B.out.size B.out.size).below bB nA).below bC nB, ?_, ?_, ?_⟩
        · have h1 := ownV_one (n := w.heap.size) (W := (W2.alloc (.cells #[.slice va fst.length vc] 60))) (B := w.heap.size) (innW_at hma.out.s (Nat.le_trans hma.out.s1 hma.out.s2) hma.out.s3 (B.out.trans (bA.mono B.out.size))) nA nA
          have h2 := h1.below bC nB
          rw [World.size_alloc] at h2
          exact h2
        · have h1 := ownV_one (n := w.heap.size) (W := ((W2.alloc (.cells #[.slice va fst.length vc] 60)).alloc (.cells #[.slice a1 starts.length c1] 22))) (B := w.heap.size) (innW_nil _ _) nB nB
          rw [World.size_alloc, World.size_alloc] at h1
          exact h1
        · intro e
          have e2 : W2.heap.size + 1 = W2.heap.size + 1 + 1 := by injection e
          omega
      have KX : Hid (Blk (W2.alloc (.cells #[.slice va fst.length vc] 60)) w.heap.size 25 (mcells ⟨st, (ev : Int), starts, ars, ends⟩ ⟨a1, c1, a2, c2, a3, c3⟩)) := KM.out.below ((Below.refl _ _).alloc (Nat.le_refl _) _) KM.out.lt
      clear ov aq hb sat
      obtain ⟨x0, x1, x2, x3, x4⟩ := mcell_at KX.out
      dsimp only at x0 x1 x2 x3 x4
      go_wp2_with fail
      clear x0 x1 x2 x3 x4 KX B KM OA KL OS KO
      revert HW0
      generalize (((W2.alloc (.cells #[.slice va fst.length vc] 60)).alloc (.cells #[.slice a1 starts.length c1] 22)).alloc (.cells #[.slice none 0 0] 22)) = X4
      generalize W2.heap.size = bX
      intro HW0
      have HR0 : Hid (RepQ ⟨st, (ev : Int), starts, ars, ends⟩ ⟨1, (ev : Int), [], [], []⟩ [fst] (qlT [(t0 ⟨st, (ev : Int), starts, ars, ends⟩ high, [])])) := RepQ.one HFI.out (by rw [HF.out, HSH.out]; rfl)
      have HL0 : Hid (LTq ⟨st, (ev : Int), starts, ars, ends⟩ high 0 [(t0 ⟨st, (ev : Int), starts, ars, ends⟩ high, [])]) := LTq.start _ _
      go_loopw [10, 11, 12, 13] (fun vq vo vw i wr => ∃ (k : Nat) (l : List TP) (QL : List (List Pla)), i = .int .i64 k ∧ k ≤ l.length ∧ l.length ≤ 4096 ∧ Hid (TS w wr ⟨st, (ev : Int), starts, ars, ends⟩ ⟨a1, c1, a2, c2, a3, c3⟩ LA pl p1 la lc (.slice sa seen.length sc) seen vq vo vw QL (olT l) (wlT seen l)) ∧ Hid (RepQ ⟨st, (ev : Int), starts, ars, ends⟩ ⟨1, (ev : Int), [], [], []⟩ QL (qlT l)) ∧ Hid (LTq ⟨st, (ev : Int), starts, ars, ends⟩ high k l)) (fun _ _ _ i _ => 4097 - (intOf i).toNat)
      case atStart => exact ⟨0, [(t0 ⟨st, (ev : Int), starts, ars, ends⟩ high, [])], [fst], rfl, Nat.zero_le _, by simp, HW0, HR0, HL0⟩
      case round =>
        clear HW0 HR0 HL0
        obtain ⟨k, l, QL, rfl, hk, h4096, HW, HR, HL⟩ := hrel
        have HLN : Hid (QL.length = l.length) := by show _ = _; rw [HR.out.len, qlT_len]
        obtain ⟨qqa, qqc, hvq⟩ := HW.out.oq.form
        obtain ⟨ooa, ooc, hvo⟩ := HW.out.oo.form
        obtain ⟨wwa, wwc, hvw⟩ := HW.out.ow.form
        rw [HLN.out] at hvq
        rw [olT_len] at hvo
        rw [wlT_len] at hvw
        subst hvq
        subst hvo
        subst hvw
        by_cases hlt : k < l.length
        · have hltD : decide ((k : Int) < (l.length : Int)) = true := by simp; omega
          obtain ⟨⟨⟨xc, xo⟩, xu⟩, HX⟩ : ∃ x, Hid (l[k]? = some x) := ⟨_, List.getElem?_eq_getElem hlt⟩
          obtain ⟨q, hq, hqi, hqx⟩ := HR.out.at (qlT_at HX.out)
          dsimp only at hqx
          have hrun := HL.out.bi.run _ (List.mem_of_getElem? HX.out)
          have HXO : Hid (xo.length ≤ 6) := by
            have h1 := hrun.1
            unfold t0 at h1
            rw [run_t mm.out zm.out high] at h1
            have h2 : xo = afterL (lowA ⟨st, (ev : Int), starts, ars, ends⟩ high) starts (wordS (seenH ⟨st, (ev : Int), starts, ars, ends⟩ high) xu) := congrArg Prod.snd h1
            have h3 := low_in mm.out zm.out high (wordS (seenH ⟨st, (ev : Int), starts, ars, ends⟩ high) xu) starts (may_starts mm.out)
            rw [← h2] at h3
            have hz6 := zm.out
            exact nodup_len 6 _ (inc_nodup h3.1) (fun x hx => by have := h3.2 x hx; dsimp only at this; omega)
          have HWLN : Hid ((wordS seen xu).length ≤ 4096) := by
            have := bi_wlen HL.out.bi k _ HX.out
            dsimp only at this
            show _ ≤ _
            rw [wordS_len]; omega
          obtain ⟨E, HE⟩ : ∃ E, Hid (E = endN ends xo) := ⟨_, rfl⟩
          have HTL : Hid (tellT ⟨st, (ev : Int), starts, ars, ends⟩ (xc, xo) = (opnQ ⟨st, (ev : Int), starts, ars, ends⟩ ⟨1, (ev : Int), [], [], []⟩ q && decide (E.length = 0))) := by
            show _ = _
            unfold tellT
            dsimp only
            rw [hqx, opn_can _ _ hqi.2, HE.out]; rfl
          have HQS : Hid (∀ y ∈ q, y.2.length ≤ 4096) := fun y hy => allQ_row (hqi.2 y hy)
          have hq96 : q.length ≤ 96 := HSM.out q hqi
          have HQI := Hid.of hqi
          have HQX := Hid.of hqx
          have HQL := Hid.of hq
          obtain ⟨g, cap, qa, qc, hve, hg, cq, aq⟩ := HW.out.oq.get hq
          rw [HLN.out] at hve
          cases hve
          obtain ⟨go, capo, xa, xk, hvo, hgo, co, io⟩ := HW.out.oo.get (olT_at HX.out)
          dsimp only at co io
          rw [olT_len] at hvo
          cases hvo
          obtain ⟨gw, capw, za, zc, hvw, hgw, cz, iz⟩ := HW.out.ow.get (wlT_at HX.out)
          dsimp only at cz iz
          rw [wlT_len] at hvw
          cases hvw
          have AQ := Hid.of aq
          have IU := Hid.of io
          have IZ := Hid.of iz
          have CQ := Hid.of cq
          have CO := Hid.of co
          have CZ := Hid.of cz
          have HG := Hid.of hg
          have HGO := Hid.of hgo
          have HGW := Hid.of hgw
          clear hq hqi hqx hg hgo hgw aq io iz cq co cz hrun
          have SA : Hid (∀ W, Blk W w.heap.size 25 (mcells ⟨st, (ev : Int), starts, ars, ends⟩ ⟨a1, c1, a2, c2, a3, c3⟩) → Blk W p1 25 (mcells ⟨1, (ev : Int), [], [], []⟩ ml0) → W.cell? ⟨g, k, none⟩ = some (.slice qa q.length qc) → W.cell? ⟨w.heap.size, 0, none⟩ = some (.int .i64 st) ∧ W.cell? ⟨w.heap.size, 1, none⟩ = some (.int .i64 ev) ∧ W.cell? ⟨w.heap.size, 2, none⟩ = some (.slice a1 starts.length c1) ∧ W.cell? ⟨w.heap.size, 3, none⟩ = some (.slice a2 ars.length c2) ∧ W.cell? ⟨w.heap.size, 4, none⟩ = some (.slice a3 ends.length c3) ∧ W.cell? ⟨p1, 0, none⟩ = some (.int .i64 1) ∧ W.cell? ⟨p1, 1, none⟩ = some (.int .i64 ev) ∧ W.cell? ⟨p1, 2, none⟩ = some (.slice none 0 0) ∧ W.cell? ⟨p1, 3, none⟩ = some (.slice none 0 0) ∧ W.cell? ⟨p1, 4, none⟩ = some (.slice none 0 0) ∧ W.cell? ⟨g, k, none⟩ = some (.slice qa q.length qc)) := fun W h1 h2 h3 => by
            obtain ⟨x0, x1, x2, x3, x4⟩ := mcell_at h1
            obtain ⟨y0, y1, y2, y3, y4⟩ := mcell_at h2
            exact ⟨x0, x1, x2, x3, x4, y0, y1, y2, y3, y4, h3⟩
          go_wp2_with fail
          have bd : Below wr.heap.size wr wr.drew := (Below.refl _ _).drew
          have hn := HW.out.bel.size
          replace AQ := Hid.of (AQ.out.below bd hn)
          replace IU := Hid.of (IU.out.below bd hn)
          replace IZ := Hid.of (IZ.out.below bd hn)
          replace HW := Hid.of (HW.out.below bd)
          replace CQ : Hid (wr.drew.cell? ⟨g, k, none⟩ = some (.slice qa q.length qc)) := CQ.out
          replace CO : Hid (wr.drew.cell? ⟨go, k, none⟩ = some (.slice xa xo.length xk)) := CO.out
          replace CZ : Hid (wr.drew.cell? ⟨gw, k, none⟩ = some (.slice za (wordS seen xu).length zc)) := CZ.out
          replace HG : Hid (g < wr.drew.heap.size) := HG.out
          replace HGO : Hid (go < wr.drew.heap.size) := HGO.out
          replace HGW : Hid (gw < wr.drew.heap.size) := HGW.out
          refine wp_region_held_drew (S := fun w' => w'.cell? ⟨w.heap.size, 0, none⟩ = some (.int .i64 st) ∧ w'.cell? ⟨w.heap.size, 1, none⟩ = some (.int .i64 ev) ∧ w'.cell? ⟨w.heap.size, 2, none⟩ = some (.slice a1 starts.length c1) ∧ w'.cell? ⟨w.heap.size, 3, none⟩ = some (.slice a2 ars.length c2) ∧ w'.cell? ⟨w.heap.size, 4, none⟩ = some (.slice a3 ends.length c3) ∧ w'.cell? ⟨p1, 0, none⟩ = some (.int .i64 1) ∧ w'.cell? ⟨p1, 1, none⟩ = some (.int .i64 ev) ∧ w'.cell? ⟨p1, 2, none⟩ = some (.slice none 0 0) ∧ w'.cell? ⟨p1, 3, none⟩ = some (.slice none 0 0) ∧ w'.cell? ⟨p1, 4, none⟩ = some (.slice none 0 0) ∧ w'.cell? ⟨g, k, none⟩ = some (.slice qa q.length qc)) (by kernel_rfl) (SA.out _ HW.out.km HW.out.k1 CQ.out) (fun hS => ?_)
          clear bd hn
          revert AQ IU IZ HW CQ CO CZ HG HGO HGW hS
          generalize wr.drew = Y
          intro AQ IU IZ HW CQ CO CZ HG HGO HGW hS
          refine wpAnyH_take (i := 0) (v := .agg #[.int .i64 st, .int .i64 ev, .slice a1 starts.length c1, .slice a2 ars.length c2, .slice a3 ends.length c3]) rfl (by kernel_rfl) (by kernel_rfl) (by kernel_rfl) (fun _ _ _ h => h) (Or.inl ⟨by kernel_rfl, fun w' hw' => by obtain ⟨q0, q1, q2, q3, q4, q5, q6, q7, q8, q9, q10⟩ := hw'; go_simp⟩) hS ?_
          refine wpAnyH_take (i := 1) (v := .agg #[.int .i64 1, .int .i64 ev, .slice none 0 0, .slice none 0 0, .slice none 0 0]) rfl (by kernel_rfl) (by kernel_rfl) (by kernel_rfl) (fun _ _ _ h => h) (Or.inl ⟨by kernel_rfl, fun w' hw' => by obtain ⟨q0, q1, q2, q3, q4, q5, q6, q7, q8, q9, q10⟩ := hw'; go_simp⟩) hS ?_
          refine wpAnyH_take (i := 2) (v := .slice (some ⟨g, 0, none⟩) l.length qqc) rfl (by kernel_rfl) (by kernel_rfl) (by kernel_rfl) (fun _ _ _ h => h) (Or.inl ⟨by kernel_rfl, fun w' hw' => by obtain ⟨q0, q1, q2, q3, q4, q5, q6, q7, q8, q9, q10⟩ := hw'; go_simp⟩) hS ?_
          refine wpAnyH_take (i := 3) (v := .int .i64 k) rfl (by kernel_rfl) (by kernel_rfl) (by kernel_rfl) (fun _ _ _ h => h) (Or.inl ⟨by kernel_rfl, fun w' hw' => by obtain ⟨q0, q1, q2, q3, q4, q5, q6, q7, q8, q9, q10⟩ := hw'; go_simp⟩) hS ?_
          refine wpAnyH_take (i := 4) (v := .pointer (some ⟨g, k, none⟩)) rfl (by kernel_rfl) (by kernel_rfl) (by kernel_rfl) (fun _ _ _ h => h) (Or.inl ⟨by kernel_rfl, fun w' hw' => by obtain ⟨q0, q1, q2, q3, q4, q5, q6, q7, q8, q9, q10⟩ := hw'; go_simp⟩) hS ?_
          refine wpAnyH_take (i := 5) (v := .slice qa q.length qc) rfl (by kernel_rfl) (by kernel_rfl) (by kernel_rfl) (fun _ _ _ h => h) (Or.inl ⟨by kernel_rfl, fun w' hw' => by obtain ⟨q0, q1, q2, q3, q4, q5, q6, q7, q8, q9, q10⟩ := hw'; go_simp⟩) hS ?_
          simp only [Act.put, List.setIfInBounds_toArray]
          refine wpAnyH_ready (rs := [6]) (by kernel_rfl) (by simp) ?_
          refine AllReadyH.cons rfl (fun K' hK' => ?_) AllReadyH.nil
          clear hS
          go_simp
          refine (rqjudge_any ⟨st, (ev : Int), starts, ars, ends⟩ ⟨1, (ev : Int), [], [], []⟩ ⟨a1, c1, a2, c2, a3, c3⟩ ml0 w.heap.size qa qc q Y (hma.out.below HW.out.bel (Nat.le_refl _)) (mat_one Y _) HW.out.bel.size AQ.out (by omega) HQS.out).mono ?_
          rintro e' Y1 ⟨rfl, hb⟩
          obtain ⟨bs, HBS⟩ : ∃ b, Hid (b = secQ ⟨st, (ev : Int), starts, ars, ends⟩ ⟨1, (ev : Int), [], [], []⟩ q) := ⟨_, rfl⟩
          obtain ⟨bo, HBO⟩ : ∃ b, Hid (b = opnQ ⟨st, (ev : Int), starts, ars, ends⟩ ⟨1, (ev : Int), [], [], []⟩ q) := ⟨_, rfl⟩
          rw [← HBO.out] at HTL
          rw [← HBS.out, ← HBO.out]
          have hn := HW.out.bel.size
          replace AQ := Hid.of (AQ.out.below hb hn)
          replace IU := Hid.of (IU.out.below hb hn)
          replace IZ := Hid.of (IZ.out.below hb hn)
          replace HW := Hid.of (HW.out.below hb)
          replace CQ := Hid.of ((hb.cell (p := ⟨g, k, none⟩) HG.out).trans CQ.out)
          replace HG := Hid.of (Nat.lt_of_lt_of_le HG.out hb.size)
          replace CO := Hid.of ((hb.cell (p := ⟨go, k, none⟩) HGO.out).trans CO.out)
          replace HGO := Hid.of (Nat.lt_of_lt_of_le HGO.out hb.size)
          replace CZ := Hid.of ((hb.cell (p := ⟨gw, k, none⟩) HGW.out).trans CZ.out)
          replace HGW := Hid.of (Nat.lt_of_lt_of_le HGW.out hb.size)
          refine hK'.out _ _ (SA.out _ HW.out.km HW.out.k1 CQ.out) (fun hS => ?_)
          clear hK' K' hb SA hn
          refine wpAnyH_take (i := 7) (v := .tuple #[.bool bs, .bool bo]) rfl (by kernel_rfl) (by kernel_rfl) (by kernel_rfl) (fun _ _ _ h => h) (Or.inl ⟨by kernel_rfl, fun w' hw' => by obtain ⟨q0, q1, q2, q3, q4, q5, q6, q7, q8, q9, q10⟩ := hw'; go_simp⟩) hS ?_
          refine wpAnyH_take (i := 8) (v := .bool bs) rfl (by kernel_rfl) (by kernel_rfl) (by kernel_rfl) (fun _ _ _ h => h) (Or.inl ⟨by kernel_rfl, fun w' hw' => by obtain ⟨q0, q1, q2, q3, q4, q5, q6, q7, q8, q9, q10⟩ := hw'; go_simp⟩) hS ?_
          refine wpAnyH_take (i := 9) (v := .bool bo) rfl (by kernel_rfl) (by kernel_rfl) (by kernel_rfl) (fun _ _ _ h => h) (Or.inl ⟨by kernel_rfl, fun w' hw' => by obtain ⟨q0, q1, q2, q3, q4, q5, q6, q7, q8, q9, q10⟩ := hw'; go_simp⟩) hS ?_
          refine wpAnyH_take (i := 10) (v := .bool bs) rfl (by kernel_rfl) (by kernel_rfl) (by kernel_rfl) (fun _ _ _ h => h) (Or.inl ⟨by kernel_rfl, fun w' hw' => by obtain ⟨q0, q1, q2, q3, q4, q5, q6, q7, q8, q9, q10⟩ := hw'; go_simp⟩) hS ?_
          refine wpAnyH_take (i := 11) (v := .bool bo) rfl (by kernel_rfl) (by kernel_rfl) (by kernel_rfl) (fun _ _ _ h => h) (Or.inl ⟨by kernel_rfl, fun w' hw' => by obtain ⟨q0, q1, q2, q3, q4, q5, q6, q7, q8, q9, q10⟩ := hw'; go_simp⟩) hS ?_
          refine wpAnyH_done (by kernel_rfl) ?_ _
          clear hS
          go_wp2_with fail
          have bd : Below Y1.heap.size Y1 Y1.drew := (Below.refl _ _).drew
          have hn := HW.out.bel.size
          replace AQ := Hid.of (AQ.out.below bd hn)
          replace IU := Hid.of (IU.out.below bd hn)
          replace IZ := Hid.of (IZ.out.below bd hn)
          replace HW := Hid.of (HW.out.below bd)
          replace CQ : Hid (Y1.drew.cell? ⟨g, k, none⟩ = some (.slice qa q.length qc)) := CQ.out
          replace CO : Hid (Y1.drew.cell? ⟨go, k, none⟩ = some (.slice xa xo.length xk)) := CO.out
          replace CZ : Hid (Y1.drew.cell? ⟨gw, k, none⟩ = some (.slice za (wordS seen xu).length zc)) := CZ.out
          replace HG : Hid (g < Y1.drew.heap.size) := HG.out
          replace HGO : Hid (go < Y1.drew.heap.size) := HGO.out
          replace HGW : Hid (gw < Y1.drew.heap.size) := HGW.out
          refine wp_region_held_drew (S := fun w' => w'.cell? ⟨go, k, none⟩ = some (.slice xa xo.length xk) ∧ w'.cell? ⟨w.heap.size, 4, none⟩ = some (.slice a3 ends.length c3)) (by kernel_rfl) ⟨CO.out, HW.out.km.cell 4 rfl⟩ (fun hS => ?_)
          clear bd hn
          revert AQ IU IZ HW CQ CO CZ HG HGO HGW hS
          generalize Y1.drew = Y
          intro AQ IU IZ HW CQ CO CZ HG HGO HGW hS
          refine wpAnyH_take (i := 0) (v := .slice (some ⟨go, 0, none⟩) l.length ooc) rfl (by kernel_rfl) (by kernel_rfl) (by kernel_rfl) (fun _ _ _ h => h) (Or.inl ⟨by kernel_rfl, fun w' hw' => by obtain ⟨q0, q1⟩ := hw'; go_simp⟩) hS ?_
          refine wpAnyH_take (i := 1) (v := .int .i64 k) rfl (by kernel_rfl) (by kernel_rfl) (by kernel_rfl) (fun _ _ _ h => h) (Or.inl ⟨by kernel_rfl, fun w' hw' => by obtain ⟨q0, q1⟩ := hw'; go_simp⟩) hS ?_
          refine wpAnyH_take (i := 2) (v := .pointer (some ⟨go, k, none⟩)) rfl (by kernel_rfl) (by kernel_rfl) (by kernel_rfl) (fun _ _ _ h => h) (Or.inl ⟨by kernel_rfl, fun w' hw' => by obtain ⟨q0, q1⟩ := hw'; go_simp⟩) hS ?_
          refine wpAnyH_take (i := 3) (v := .slice xa xo.length xk) rfl (by kernel_rfl) (by kernel_rfl) (by kernel_rfl) (fun _ _ _ h => h) (Or.inl ⟨by kernel_rfl, fun w' hw' => by obtain ⟨q0, q1⟩ := hw'; go_simp⟩) hS ?_
          refine wpAnyH_take (i := 4) (v := .pointer (some ⟨w.heap.size, 4, none⟩)) rfl (by kernel_rfl) (by kernel_rfl) (by kernel_rfl) (fun _ _ _ h => h) (Or.inl ⟨by kernel_rfl, fun w' hw' => by obtain ⟨q0, q1⟩ := hw'; go_simp⟩) hS ?_
          refine wpAnyH_take (i := 5) (v := .slice a3 ends.length c3) rfl (by kernel_rfl) (by kernel_rfl) (by kernel_rfl) (fun _ _ _ h => h) (Or.inl ⟨by kernel_rfl, fun w' hw' => by obtain ⟨q0, q1⟩ := hw'; go_simp⟩) hS ?_
          simp only [Act.put, List.setIfInBounds_toArray]
          refine wpAnyH_ready (rs := [6]) (by kernel_rfl) (by simp) ?_
          refine AllReadyH.cons rfl (fun K' hK' => ?_) AllReadyH.nil
          clear hS
          go_simp
          obtain ⟨xa', xk', hxe, xat, -, -⟩ := IU.out.at
          cases hxe
          refine (only_any xa a3 xk c3 xo ends true Y xat (Nat.le_trans HXO.out (by decide)) (hma.out.e.below HW.out.bel (Nat.le_refl _)) el.out).mono ?_
          rintro e' Y2 ⟨oa', oc', rfl, -, -, hb⟩
          rw [show (xo.filter fun n => hasB ends n == true) = E from HE.out.symm]
          have hn := HW.out.bel.size
          replace AQ := Hid.of (AQ.out.below hb hn)
          replace IU := Hid.of (IU.out.below hb hn)
          replace IZ := Hid.of (IZ.out.below hb hn)
          replace HW := Hid.of (HW.out.below hb)
          replace CQ := Hid.of ((hb.cell (p := ⟨g, k, none⟩) HG.out).trans CQ.out)
          replace HG := Hid.of (Nat.lt_of_lt_of_le HG.out hb.size)
          replace CO := Hid.of ((hb.cell (p := ⟨go, k, none⟩) HGO.out).trans CO.out)
          replace HGO := Hid.of (Nat.lt_of_lt_of_le HGO.out hb.size)
          replace CZ := Hid.of ((hb.cell (p := ⟨gw, k, none⟩) HGW.out).trans CZ.out)
          replace HGW := Hid.of (Nat.lt_of_lt_of_le HGW.out hb.size)
          refine hK'.out _ _ ⟨CO.out, HW.out.km.cell 4 rfl⟩ (fun hS => ?_)
          clear hK' K' hb hn xat
          refine wpAnyH_take (i := 7) (v := .slice oa' E.length oc') rfl (by kernel_rfl) (by kernel_rfl) (by kernel_rfl) (fun _ _ _ h => h) (Or.inl ⟨by kernel_rfl, fun w' hw' => by obtain ⟨q0, q1⟩ := hw'; go_simp⟩) hS ?_
          refine wpAnyH_done (by kernel_rfl) ?_ _
          clear hS
          cases bo with
          | false =>
            have HNO : Hid (tellT ⟨st, (ev : Int), starts, ars, ends⟩ (xc, xo) = false) := by show _ = _; rw [HTL.out]; rfl
            go_wp2_with fail
            clear CZ HGW IZ
            go_loopw [10, 11, 12, 17] (fun vq vo vw i wr' => ∃ (e : Nat) (QL1 : List (List Pla)), i = .int .i64 e ∧ e ≤ seen.length ∧ Hid (TS w wr' ⟨st, (ev : Int), starts, ars, ends⟩ ⟨a1, c1, a2, c2, a3, c3⟩ LA pl p1 la lc (.slice sa seen.length sc) seen vq vo vw QL1 (olT (bfRow (tD ⟨st, (ev : Int), starts, ars, ends⟩ high) ((xc, xo), xu) l e)) (wlT seen (bfRow (tD ⟨st, (ev : Int), starts, ars, ends⟩ high) ((xc, xo), xu) l e))) ∧ Hid (RepQ ⟨st, (ev : Int), starts, ars, ends⟩ ⟨1, (ev : Int), [], [], []⟩ QL1 (qlT (bfRow (tD ⟨st, (ev : Int), starts, ars, ends⟩ high) ((xc, xo), xu) l e)))) (fun _ _ _ i _ => seen.length - (intOf i).toNat)
            case atStart => exact ⟨0, QL, rfl, Nat.zero_le _, HW, HR⟩
            case round =>
              clear HW HR AQ IU CQ CO HG HGO
              obtain ⟨e, QL1, rfl, hee, HW, HR⟩ := hrel
              obtain ⟨l1, HS1⟩ : ∃ l1, Hid (l1 = bfRow (tD ⟨st, (ev : Int), starts, ars, ends⟩ high) ((xc, xo), xu) l e) := ⟨_, rfl⟩
              have HX1 : Hid (l1[k]? = some ((xc, xo), xu)) := by
                obtain ⟨t, ht⟩ := bfRow_pre (tD ⟨st, (ev : Int), starts, ars, ends⟩ high) ((xc, xo), xu) l e
                show _ = _
                rw [HS1.out, ht, List.getElem?_append_left (List.getElem?_eq_some_iff.1 HX.out).1]
                exact HX.out
              have hl1 : l1.length ≤ 4096 := by
                have := bi_row (tD ⟨st, (ev : Int), starts, ars, ends⟩ high) HL.out.bi HX.out e (by rw [← HSH.out]; exact hee)
                rw [← HS1.out] at this
                exact t_bound mm.out zm.out high this
              have hk1 : k < l1.length := (List.getElem?_eq_some_iff.1 HX1.out).1
              have HSuc : Hid (bfRow (tD ⟨st, (ev : Int), starts, ars, ends⟩ high) ((xc, xo), xu) l (e + 1) = bfStep (tD ⟨st, (ev : Int), starts, ars, ends⟩ high) ((xc, xo), xu) l1 e) := by show _ = _; rw [bfRow_succ, HS1.out]
              rw [← HS1.out] at HW HR
              have HLN1 : Hid (QL1.length = l1.length) := by show _ = _; rw [HR.out.len, qlT_len]
              obtain ⟨qqa, qqc, hvq⟩ := HW.out.oq.form
              obtain ⟨ooa, ooc, hvo⟩ := HW.out.oo.form
              obtain ⟨wwa, wwc, hvw⟩ := HW.out.ow.form
              rw [HLN1.out] at hvq
              rw [olT_len] at hvo
              rw [wlT_len] at hvw
              subst hvq
              subst hvo
              subst hvw
              by_cases hle : e < seen.length
              · have hleD : decide ((e : Int) < (seen.length : Int)) = true := by simp; omega
                obtain ⟨y, HY⟩ : ∃ y, Hid (seen[e]? = some y) := ⟨_, List.getElem?_eq_getElem hle⟩
                obtain ⟨sb, so, hsa⟩ := os_some HW.out.os (Nat.lt_of_le_of_lt (Nat.zero_le _) hle)
                subst hsa
                obtain ⟨q, hq, hqi, hqx⟩ := HR.out.at (qlT_at HX1.out)
                dsimp only at hqx
                have hq96 : q.length ≤ 96 := HSM.out q hqi
                have HTO1 : Hid (qD ⟨st, (ev : Int), starts, ars, ends⟩ ⟨1, (ev : Int), [], [], []⟩ seen xc e = canG (allQ ⟨st, (ev : Int), starts, ars, ends⟩ ⟨1, (ev : Int), [], [], []⟩) (seeQ ⟨st, (ev : Int), starts, ars, ends⟩ ⟨1, (ev : Int), [], [], []⟩ seen q y)) := by
                  show _ = _
                  rw [hqx, can_see mm.out ms.out zm.out zs.out hqi.2, HY.out, Option.getD_some]
                obtain ⟨g, cap, qa, qc, hve, hg, cq, aq⟩ := HW.out.oq.get hq
                rw [HLN1.out] at hve
                cases hve
                obtain ⟨go, capo, xa, xk, hvo, hgo, co, io⟩ := HW.out.oo.get (olT_at HX1.out)
                dsimp only at co io
                rw [olT_len] at hvo
                cases hvo
                have AQ := Hid.of aq
                have IU := Hid.of io
                have CQ := Hid.of cq
                have CO := Hid.of co
                have HG := Hid.of hg
                have HGO := Hid.of hgo
                clear hq hqi hqx hg hgo aq io cq co
                have SA : Hid (∀ W, Blk W w.heap.size 25 (mcells ⟨st, (ev : Int), starts, ars, ends⟩ ⟨a1, c1, a2, c2, a3, c3⟩) → Blk W p1 25 (mcells ⟨1, (ev : Int), [], [], []⟩ ml0) → Own W w.heap.size (.slice (some ⟨sb, so, none⟩) seen.length sc) seen → W.cell? ⟨g, k, none⟩ = some (.slice qa q.length qc) → W.cell? ⟨w.heap.size, 0, none⟩ = some (.int .i64 st) ∧ W.cell? ⟨w.heap.size, 1, none⟩ = some (.int .i64 ev) ∧ W.cell? ⟨w.heap.size, 2, none⟩ = some (.slice a1 starts.length c1) ∧ W.cell? ⟨w.heap.size, 3, none⟩ = some (.slice a2 ars.length c2) ∧ W.cell? ⟨w.heap.size, 4, none⟩ = some (.slice a3 ends.length c3) ∧ W.cell? ⟨p1, 0, none⟩ = some (.int .i64 1) ∧ W.cell? ⟨p1, 1, none⟩ = some (.int .i64 ev) ∧ W.cell? ⟨p1, 2, none⟩ = some (.slice none 0 0) ∧ W.cell? ⟨p1, 3, none⟩ = some (.slice none 0 0) ∧ W.cell? ⟨p1, 4, none⟩ = some (.slice none 0 0) ∧ W.cell? ⟨g, k, none⟩ = some (.slice qa q.length qc) ∧ W.cell? ⟨sb, so + e, none⟩ = some (.int .i64 y)) := fun W h1 h2 h4 h3 => by
                  obtain ⟨x0, x1, x2, x3, x4⟩ := mcell_at h1
                  obtain ⟨y0, y1, y2, y3, y4⟩ := mcell_at h2
                  exact ⟨x0, x1, x2, x3, x4, y0, y1, y2, y3, y4, h3, os_cell h4 HY.out⟩
                go_wp2_with fail
                have bd : Below wr.heap.size wr wr.drew := (Below.refl _ _).drew
                have hn := HW.out.bel.size
                replace AQ := Hid.of (AQ.out.below bd hn)
                replace IU := Hid.of (IU.out.below bd hn)
                replace HW := Hid.of (HW.out.below bd)
                replace CQ : Hid (wr.drew.cell? ⟨g, k, none⟩ = some (.slice qa q.length qc)) := CQ.out
                replace CO : Hid (wr.drew.cell? ⟨go, k, none⟩ = some (.slice xa xo.length xk)) := CO.out
                replace HG : Hid (g < wr.drew.heap.size) := HG.out
                replace HGO : Hid (go < wr.drew.heap.size) := HGO.out
                refine wp_region_held_drew (S := fun w' => w'.cell? ⟨w.heap.size, 0, none⟩ = some (.int .i64 st) ∧ w'.cell? ⟨w.heap.size, 1, none⟩ = some (.int .i64 ev) ∧ w'.cell? ⟨w.heap.size, 2, none⟩ = some (.slice a1 starts.length c1) ∧ w'.cell? ⟨w.heap.size, 3, none⟩ = some (.slice a2 ars.length c2) ∧ w'.cell? ⟨w.heap.size, 4, none⟩ = some (.slice a3 ends.length c3) ∧ w'.cell? ⟨p1, 0, none⟩ = some (.int .i64 1) ∧ w'.cell? ⟨p1, 1, none⟩ = some (.int .i64 ev) ∧ w'.cell? ⟨p1, 2, none⟩ = some (.slice none 0 0) ∧ w'.cell? ⟨p1, 3, none⟩ = some (.slice none 0 0) ∧ w'.cell? ⟨p1, 4, none⟩ = some (.slice none 0 0) ∧ w'.cell? ⟨g, k, none⟩ = some (.slice qa q.length qc) ∧ w'.cell? ⟨sb, so + e, none⟩ = some (.int .i64 y)) (by kernel_rfl) (SA.out _ HW.out.km HW.out.k1 HW.out.os CQ.out) (fun hS => ?_)
                clear bd hn
                revert AQ IU HW CQ CO HG HGO hS
                generalize wr.drew = Y
                intro AQ IU HW CQ CO HG HGO hS
                refine wpAnyH_take (i := 0) (v := .agg #[.int .i64 st, .int .i64 ev, .slice a1 starts.length c1, .slice a2 ars.length c2, .slice a3 ends.length c3]) rfl (by kernel_rfl) (by kernel_rfl) (by kernel_rfl) (fun _ _ _ h => h) (Or.inl ⟨by kernel_rfl, fun w' hw' => by obtain ⟨q0, q1, q2, q3, q4, q5, q6, q7, q8, q9, q10, q11⟩ := hw'; go_simp⟩) hS ?_
                refine wpAnyH_take (i := 1) (v := .agg #[.int .i64 1, .int .i64 ev, .slice none 0 0, .slice none 0 0, .slice none 0 0]) rfl (by kernel_rfl) (by kernel_rfl) (by kernel_rfl) (fun _ _ _ h => h) (Or.inl ⟨by kernel_rfl, fun w' hw' => by obtain ⟨q0, q1, q2, q3, q4, q5, q6, q7, q8, q9, q10, q11⟩ := hw'; go_simp⟩) hS ?_
                refine wpAnyH_take (i := 2) (v := .slice (some ⟨sb, so, none⟩) seen.length sc) rfl (by kernel_rfl) (by kernel_rfl) (by kernel_rfl) (fun _ _ _ h => h) (Or.inl ⟨by kernel_rfl, fun w' hw' => by obtain ⟨q0, q1, q2, q3, q4, q5, q6, q7, q8, q9, q10, q11⟩ := hw'; go_simp⟩) hS ?_
                refine wpAnyH_take (i := 3) (v := .slice (some ⟨g, 0, none⟩) l1.length qqc) rfl (by kernel_rfl) (by kernel_rfl) (by kernel_rfl) (fun _ _ _ h => h) (Or.inl ⟨by kernel_rfl, fun w' hw' => by obtain ⟨q0, q1, q2, q3, q4, q5, q6, q7, q8, q9, q10, q11⟩ := hw'; go_simp⟩) hS ?_
                refine wpAnyH_take (i := 4) (v := .int .i64 k) rfl (by kernel_rfl) (by kernel_rfl) (by kernel_rfl) (fun _ _ _ h => h) (Or.inl ⟨by kernel_rfl, fun w' hw' => by obtain ⟨q0, q1, q2, q3, q4, q5, q6, q7, q8, q9, q10, q11⟩ := hw'; go_simp⟩) hS ?_
                refine wpAnyH_take (i := 5) (v := .pointer (some ⟨g, k, none⟩)) rfl (by kernel_rfl) (by kernel_rfl) (by kernel_rfl) (fun _ _ _ h => h) (Or.inl ⟨by kernel_rfl, fun w' hw' => by obtain ⟨q0, q1, q2, q3, q4, q5, q6, q7, q8, q9, q10, q11⟩ := hw'; go_simp⟩) hS ?_
                refine wpAnyH_take (i := 6) (v := .slice qa q.length qc) rfl (by kernel_rfl) (by kernel_rfl) (by kernel_rfl) (fun _ _ _ h => h) (Or.inl ⟨by kernel_rfl, fun w' hw' => by obtain ⟨q0, q1, q2, q3, q4, q5, q6, q7, q8, q9, q10, q11⟩ := hw'; go_simp⟩) hS ?_
                refine wpAnyH_take (i := 7) (v := .slice (some ⟨sb, so, none⟩) seen.length sc) rfl (by kernel_rfl) (by kernel_rfl) (by kernel_rfl) (fun _ _ _ h => h) (Or.inl ⟨by kernel_rfl, fun w' hw' => by obtain ⟨q0, q1, q2, q3, q4, q5, q6, q7, q8, q9, q10, q11⟩ := hw'; go_simp⟩) hS ?_
                refine wpAnyH_take (i := 8) (v := .int .i64 e) rfl (by kernel_rfl) (by kernel_rfl) (by kernel_rfl) (fun _ _ _ h => h) (Or.inl ⟨by kernel_rfl, fun w' hw' => by obtain ⟨q0, q1, q2, q3, q4, q5, q6, q7, q8, q9, q10, q11⟩ := hw'; go_simp⟩) hS ?_
                refine wpAnyH_take (i := 9) (v := .pointer (some ⟨sb, so + e, none⟩)) rfl (by kernel_rfl) (by kernel_rfl) (by kernel_rfl) (fun _ _ _ h => h) (Or.inl ⟨by kernel_rfl, fun w' hw' => by obtain ⟨q0, q1, q2, q3, q4, q5, q6, q7, q8, q9, q10, q11⟩ := hw'; go_simp⟩) hS ?_
                refine wpAnyH_take (i := 10) (v := .int .i64 y) rfl (by kernel_rfl) (by kernel_rfl) (by kernel_rfl) (fun _ _ _ h => h) (Or.inl ⟨by kernel_rfl, fun w' hw' => by obtain ⟨q0, q1, q2, q3, q4, q5, q6, q7, q8, q9, q10, q11⟩ := hw'; go_simp⟩) hS ?_
                simp only [Act.put, List.setIfInBounds_toArray]
                refine wpAnyH_ready (rs := [11]) (by kernel_rfl) (by simp) ?_
                refine AllReadyH.cons rfl (fun K' hK' => ?_) AllReadyH.nil
                clear hS
                go_simp
                obtain ⟨sa', sc', hsve, sat, -⟩ := Own.at HW.out.os
                cases hsve
                refine (rqstep_any ⟨st, (ev : Int), starts, ars, ends⟩ ⟨1, (ev : Int), [], [], []⟩ ⟨a1, c1, a2, c2, a3, c3⟩ ml0 (some ⟨sb, so, none⟩) sc seen w.heap.size qa qc q y Y (hma.out.below HW.out.bel (Nat.le_refl _)) (mat_one Y _) sat hslm.out mm.out ms.out zm.out zs.out HW.out.bel.size AQ.out (by omega)).mono ?_
                rintro e' Y1 ⟨v, rfl, ov, hb⟩
                obtain ⟨q2, HQ2⟩ : ∃ q2, Hid (q2 = seeQ ⟨st, (ev : Int), starts, ars, ends⟩ ⟨1, (ev : Int), [], [], []⟩ seen q y) := ⟨_, rfl⟩
                have HQ2I : Hid (q2.Nodup ∧ ∀ y ∈ q2, y ∈ (allQ ⟨st, (ev : Int), starts, ars, ends⟩ ⟨1, (ev : Int), [], [], []⟩)) := by rw [HQ2.out]; exact seeQ_in mm.out ms.out zm.out zs.out
                rw [← HQ2.out] at ov HTO1
                have hq296 : q2.length ≤ 96 := HSM.out q2 HQ2I.out
                obtain ⟨va, vc, hv⟩ := ov.form
                subst hv
                obtain ⟨va', vc', ev', aq, -⟩ := ov.at
                cases ev'
                have AQ2 := Hid.of aq
                have hn := HW.out.bel.size
                replace IU := Hid.of (IU.out.below hb hn)
                replace HW := Hid.of (HW.out.below hb)
                replace CQ := Hid.of ((hb.cell (p := ⟨g, k, none⟩) HG.out).trans CQ.out)
                replace HG := Hid.of (Nat.lt_of_lt_of_le HG.out hb.size)
                replace CO := Hid.of ((hb.cell (p := ⟨go, k, none⟩) HGO.out).trans CO.out)
                replace HGO := Hid.of (Nat.lt_of_lt_of_le HGO.out hb.size)
                refine hK'.out _ _ (SA.out _ HW.out.km HW.out.k1 HW.out.os CQ.out) (fun hS => ?_)
                clear hK' K' hb ov aq SA AQ hn sat
                refine wpAnyH_take (i := 12) (v := .slice va q2.length vc) rfl (by kernel_rfl) (by kernel_rfl) (by kernel_rfl) (fun _ _ _ h => h) (Or.inl ⟨by kernel_rfl, fun w' hw' => by obtain ⟨q0, q1, q2, q3, q4, q5, q6, q7, q8, q9, q10, q11⟩ := hw'; go_simp⟩) hS ?_
                refine wpAnyH_done (by kernel_rfl) ?_ _
                clear hS
                have SA : Hid (∀ W, Blk W pl 25 (mcells ⟨st, (ev : Int), starts, LA, ends⟩ ⟨a1, c1, la, lc, a3, c3⟩) → Own W w.heap.size (.slice (some ⟨sb, so, none⟩) seen.length sc) seen → W.cell? ⟨go, k, none⟩ = some (.slice xa xo.length xk) → W.cell? ⟨pl, 0, none⟩ = some (.int .i64 st) ∧ W.cell? ⟨pl, 1, none⟩ = some (.int .i64 ev) ∧ W.cell? ⟨pl, 2, none⟩ = some (.slice a1 starts.length c1) ∧ W.cell? ⟨pl, 3, none⟩ = some (.slice la LA.length lc) ∧ W.cell? ⟨pl, 4, none⟩ = some (.slice a3 ends.length c3) ∧ W.cell? ⟨go, k, none⟩ = some (.slice xa xo.length xk) ∧ W.cell? ⟨sb, so + e, none⟩ = some (.int .i64 y)) := fun W h1 h4 h3 => by
                  obtain ⟨x0, x1, x2, x3, x4⟩ := mcell_at h1
                  exact ⟨x0, x1, x2, x3, x4, h3, os_cell h4 HY.out⟩
                go_wp2_with fail
                have bd : Below Y1.heap.size Y1 Y1.drew := (Below.refl _ _).drew
                have hn := HW.out.bel.size
                replace AQ2 := Hid.of (AQ2.out.below bd hn)
                replace IU := Hid.of (IU.out.below bd hn)
                replace HW := Hid.of (HW.out.below bd)
                replace CO : Hid (Y1.drew.cell? ⟨go, k, none⟩ = some (.slice xa xo.length xk)) := CO.out
                replace HGO : Hid (go < Y1.drew.heap.size) := HGO.out
                refine wp_region_held_drew (S := fun w' => w'.cell? ⟨pl, 0, none⟩ = some (.int .i64 st) ∧ w'.cell? ⟨pl, 1, none⟩ = some (.int .i64 ev) ∧ w'.cell? ⟨pl, 2, none⟩ = some (.slice a1 starts.length c1) ∧ w'.cell? ⟨pl, 3, none⟩ = some (.slice la LA.length lc) ∧ w'.cell? ⟨pl, 4, none⟩ = some (.slice a3 ends.length c3) ∧ w'.cell? ⟨go, k, none⟩ = some (.slice xa xo.length xk) ∧ w'.cell? ⟨sb, so + e, none⟩ = some (.int .i64 y)) (by kernel_rfl) (SA.out _ HW.out.kl HW.out.os CO.out) (fun hS => ?_)
                clear bd hn CQ HG
                revert AQ2 IU HW CO HGO hS
                generalize Y1.drew = Y
                intro AQ2 IU HW CO HGO hS
                refine wpAnyH_take (i := 0) (v := .agg #[.int .i64 st, .int .i64 ev, .slice a1 starts.length c1, .slice la LA.length lc, .slice a3 ends.length c3]) rfl (by kernel_rfl) (by kernel_rfl) (by kernel_rfl) (fun _ _ _ h => h) (Or.inl ⟨by kernel_rfl, fun w' hw' => by obtain ⟨q0, q1, q2, q3, q4, q5, q6⟩ := hw'; go_simp⟩) hS ?_
                refine wpAnyH_take (i := 1) (v := .slice (some ⟨go, 0, none⟩) l1.length ooc) rfl (by kernel_rfl) (by kernel_rfl) (by kernel_rfl) (fun _ _ _ h => h) (Or.inl ⟨by kernel_rfl, fun w' hw' => by obtain ⟨q0, q1, q2, q3, q4, q5, q6⟩ := hw'; go_simp⟩) hS ?_
                refine wpAnyH_take (i := 2) (v := .int .i64 k) rfl (by kernel_rfl) (by kernel_rfl) (by kernel_rfl) (fun _ _ _ h => h) (Or.inl ⟨by kernel_rfl, fun w' hw' => by obtain ⟨q0, q1, q2, q3, q4, q5, q6⟩ := hw'; go_simp⟩) hS ?_
                refine wpAnyH_take (i := 3) (v := .pointer (some ⟨go, k, none⟩)) rfl (by kernel_rfl) (by kernel_rfl) (by kernel_rfl) (fun _ _ _ h => h) (Or.inl ⟨by kernel_rfl, fun w' hw' => by obtain ⟨q0, q1, q2, q3, q4, q5, q6⟩ := hw'; go_simp⟩) hS ?_
                refine wpAnyH_take (i := 4) (v := .slice xa xo.length xk) rfl (by kernel_rfl) (by kernel_rfl) (by kernel_rfl) (fun _ _ _ h => h) (Or.inl ⟨by kernel_rfl, fun w' hw' => by obtain ⟨q0, q1, q2, q3, q4, q5, q6⟩ := hw'; go_simp⟩) hS ?_
                refine wpAnyH_take (i := 5) (v := .slice (some ⟨sb, so, none⟩) seen.length sc) rfl (by kernel_rfl) (by kernel_rfl) (by kernel_rfl) (fun _ _ _ h => h) (Or.inl ⟨by kernel_rfl, fun w' hw' => by obtain ⟨q0, q1, q2, q3, q4, q5, q6⟩ := hw'; go_simp⟩) hS ?_
                refine wpAnyH_take (i := 6) (v := .int .i64 e) rfl (by kernel_rfl) (by kernel_rfl) (by kernel_rfl) (fun _ _ _ h => h) (Or.inl ⟨by kernel_rfl, fun w' hw' => by obtain ⟨q0, q1, q2, q3, q4, q5, q6⟩ := hw'; go_simp⟩) hS ?_
                refine wpAnyH_take (i := 7) (v := .pointer (some ⟨sb, so + e, none⟩)) rfl (by kernel_rfl) (by kernel_rfl) (by kernel_rfl) (fun _ _ _ h => h) (Or.inl ⟨by kernel_rfl, fun w' hw' => by obtain ⟨q0, q1, q2, q3, q4, q5, q6⟩ := hw'; go_simp⟩) hS ?_
                refine wpAnyH_take (i := 8) (v := .int .i64 y) rfl (by kernel_rfl) (by kernel_rfl) (by kernel_rfl) (fun _ _ _ h => h) (Or.inl ⟨by kernel_rfl, fun w' hw' => by obtain ⟨q0, q1, q2, q3, q4, q5, q6⟩ := hw'; go_simp⟩) hS ?_
                simp only [Act.put, List.setIfInBounds_toArray]
                refine wpAnyH_ready (rs := [9]) (by kernel_rfl) (by simp) ?_
                refine AllReadyH.cons rfl (fun K' hK' => ?_) AllReadyH.nil
                clear hS
                go_simp
                obtain ⟨xa', xk', hxe, xat, xln, -⟩ := IU.out.at
                cases hxe
                obtain ⟨la', lc', hle', lat, -⟩ := HW.out.oa.at
                cases hle'
                refine (refStep_own ⟨st, (ev : Int), starts, LA, ends⟩ ⟨a1, c1, la, lc, a3, c3⟩ xa xk xo y Y lat HLL.out xat xln).mono ?_
                rintro e' Y2 ⟨z, rfl, oz, hb⟩
                obtain ⟨o2, HO2⟩ : ∃ o2, Hid (o2 = stepL LA xo y) := ⟨_, rfl⟩
                replace oz : Own Y2 Y.heap.size z o2 := by rw [HO2.out]; exact oz
                obtain ⟨na, nc, hz', hnl, hnm, -⟩ := own_form2 oz
                subst hz'
                have IN2 : Hid (InnW w.heap.size Y2 (.slice na o2.length nc) o2) := InnW.of_own oz
                have hol : Hid (o2.length ≤ maxLen) := Nat.le_trans hnl hnm
                have hn := HW.out.bel.size
                replace AQ2 := Hid.of (AQ2.out.below hb hn)
                replace IU := Hid.of (IU.out.below hb hn)
                replace HW := Hid.of (HW.out.below hb)
                replace CO := Hid.of ((hb.cell (p := ⟨go, k, none⟩) HGO.out).trans CO.out)
                replace HGO := Hid.of (Nat.lt_of_lt_of_le HGO.out hb.size)
                refine hK'.out _ _ (SA.out _ HW.out.kl HW.out.os CO.out) (fun hS => ?_)
                clear hK' K' hb oz SA hn xat xln lat hnl hnm
                refine wpAnyH_take (i := 10) (v := .slice na o2.length nc) rfl (by kernel_rfl) (by kernel_rfl) (by kernel_rfl) (fun _ _ _ h => h) (Or.inl ⟨by kernel_rfl, fun w' hw' => by obtain ⟨q0, q1, q2, q3, q4, q5, q6⟩ := hw'; go_simp⟩) hS ?_
                refine wpAnyH_done (by kernel_rfl) ?_ _
                clear hS IU CO HGO
                obtain ⟨to, HT⟩ : ∃ to, Hid (to = canG (allQ ⟨st, (ev : Int), starts, ars, ends⟩ ⟨1, (ev : Int), [], [], []⟩) q2) := ⟨_, rfl⟩
                have HTO : Hid (tD ⟨st, (ev : Int), starts, ars, ends⟩ high (xc, xo) e = (to, o2)) := by
                  show _ = _
                  unfold tD
                  dsimp only
                  rw [← HSH.out, HTO1.out, HY.out, Option.getD_some, HO2.out, HT.out, HLA.out]
                have HST : Hid (bfStep (tD ⟨st, (ev : Int), starts, ars, ends⟩ high) ((xc, xo), xu) l1 e = if knownB l1 (to, o2) = true then l1 else l1 ++ [((to, o2), xu ++ [(e : Int)])]) := by
                  show _ = _
                  unfold bfStep
                  dsimp only
                  rw [HTO.out]
                go_wp2_with fail
                go_loopw [20, 21] (fun v20 i wr2 => ∃ (kn : Bool) (j : Nat), v20 = .bool kn ∧ i = .int .i64 j ∧ j ≤ l1.length ∧ Hid (TS w wr2 ⟨st, (ev : Int), starts, ars, ends⟩ ⟨a1, c1, a2, c2, a3, c3⟩ LA pl p1 la lc (.slice (some ⟨sb, so, none⟩) seen.length sc) seen (.slice (some ⟨g, 0, none⟩) l1.length qqc) (.slice (some ⟨go, 0, none⟩) l1.length ooc) (.slice wwa l1.length wwc) QL1 (olT l1) (wlT seen l1)) ∧ Hid (AtQ w.heap.size wr2 va q2) ∧ Hid (InnW w.heap.size wr2 (.slice na o2.length nc) o2) ∧ Hid (anyT l1 (to, o2) j = kn)) (fun _ i _ => l1.length - (intOf i).toNat)
                case atStart => exact ⟨false, 0, rfl, rfl, Nat.zero_le _, HW, AQ2, IN2, rfl⟩
                case round =>
                  clear HW AQ2 IN2
                  obtain ⟨kn, j, rfl, rfl, hj, HW, AQ2, IN2, HA⟩ := hrel
                  by_cases hjl : j < l1.length
                  · have hjD : decide ((j : Int) < (l1.length : Int)) = true := by simp; omega
                    cases kn with
                    | false =>
                      obtain ⟨⟨⟨jc0, jo⟩, ju⟩, HXJ⟩ : ∃ xj, Hid (l1[j]? = some xj) := ⟨_, List.getElem?_eq_getElem hjl⟩
                      obtain ⟨qj, hqj, hqji, hqjx⟩ := HR.out.at (qlT_at HXJ.out)
                      dsimp only at hqjx
                      obtain ⟨g', cap', ja, jc, hve, hg, cj, aj⟩ := HW.out.oq.get hqj
                      rw [HLN1.out] at hve
                      cases hve
                      obtain ⟨go', capo', oja, ojc, hvo, hgo, coj, ioj⟩ := HW.out.oo.get (olT_at HXJ.out)
                      dsimp only at coj ioj
                      rw [olT_len] at hvo
                      cases hvo
                      have hj96 : qj.length ≤ 96 := HSM.out qj hqji
                      have HSE1 : Hid (sameQ qj q2 = decide (jc0 = to)) := by
                        show _ = _
                        rw [same_can hqji HQ2I.out, hqjx, HT.out]
                      have KEY := Hid.of (rqsame_any w.heap.size ja va jc vc qj q2 wr (Hid.of aj) AQ2 (by omega) (by omega) HW.out.bel.size)
                      rw [HSE1.out] at KEY
                      have HA2 := Hid.of (anyT_succ HXJ.out HA.out)
                      have HG2 := Hid.of hgo
                      have COJ := Hid.of coj
                      have IOJ := Hid.of ioj
                      clear hqj hqji hqjx aj hg hgo coj ioj
                      go_wp2_with fail
                      refine KEY.out.mono ?_
                      rintro r W9 ⟨rfl, hb⟩
                      have hn := HW.out.bel.size
                      have AQ3 := Hid.of (AQ2.out.below hb hn)
                      have IN3 := Hid.of (IN2.out.below hb hn)
                      have IOJ3 := Hid.of (IOJ.out.below hb hn)
                      have HW3 := Hid.of (HW.out.below hb)
                      have coj3 := (hb.cell (p := ⟨go, j, none⟩) HG2.out).trans COJ.out
                      clear hb KEY cj HW AQ2 IN2 IOJ COJ HG2 hn
                      cases hc1 : decide (jc0 = to) with
                      | false =>
                        have HA3 : Hid (anyT l1 (to, o2) (j + 1) = false) := by
                          show _ = _
                          rw [HA2.out]
                          have := of_decide_eq_false hc1
                          exact decide_eq_false (fun e => this (congrArg Prod.fst e))
                        clear hc1
                        go_wp2_with fail
                        go_roundw
                        case rel => exact ⟨false, j + 1, rfl, by go_num, by omega, HW3, AQ3, IN3, HA3⟩
                        case measure => simp [intOf]; omega
                      | true =>
                        have HA3 : Hid (anyT l1 (to, o2) (j + 1) = sameB jo o2) := by
                          show _ = _
                          rw [HA2.out, ← pair_same jc0 to jo o2 (jc0, jo) rfl, hc1, Bool.true_and]
                        clear hc1
                        obtain ⟨bq, HBQ⟩ : ∃ bq, Hid (bq = sameB jo o2) := ⟨_, rfl⟩
                        obtain ⟨oja', ojc', hoe, ojat, ojl, -⟩ := IOJ3.out.at
                        cases hoe
                        obtain ⟨na', nc', hne', nat', nnl, -⟩ := IN3.out.at
                        cases hne'
                        have KEY2 := Hid.of (same_any oja na ojc nc jo o2 W9 ojat nat' ojl nnl)
                        rw [← HBQ.out] at KEY2 HA3
                        clear ojat nat' ojl nnl
                        go_wp2_with fail
                        refine KEY2.out.mono ?_
                        rintro r W10 ⟨rfl, qd, hqd⟩
                        have hb : Below W9.heap.size W9 W10 := by rw [hqd]; exact below_drewN (Below.refl _ _) qd
                        have hn := HW3.out.bel.size
                        have AQ4 := Hid.of (AQ3.out.below hb hn)
                        have IN4 := Hid.of (IN3.out.below hb hn)
                        have HW4 := Hid.of (HW3.out.below hb)
                        clear hb hqd KEY2 coj3 HW3 AQ3 IN3 IOJ3 hn
                        go_wp2_with fail
                        go_roundw
                        case rel => exact ⟨bq, j + 1, rfl, by go_num, by omega, HW4, AQ4, IN4, HA3⟩
                        case measure => simp [intOf]; omega
                    | true =>
                      have HNX : Hid (bfRow (tD ⟨st, (ev : Int), starts, ars, ends⟩ high) ((xc, xo), xu) l (e + 1) = l1) := by show _ = _; rw [HSuc.out, HST.out, if_pos (anyT_hit HA.out)]
                      go_wp2_with fail
                      go_roundw
                      case rel => exact ⟨e + 1, QL1, by go_num, by omega, by rw [HNX.out]; exact HW, by rw [HNX.out]; exact HR⟩
                      case measure => simp [intOf]; omega
                  · have hjD : decide ((j : Int) < (l1.length : Int)) = false := by simp; omega
                    have HKN : Hid (knownB l1 (to, o2) = kn) := by show _ = _; rw [← HA.out, anyT_all l1 (to, o2) (by omega)]
                    cases kn with
                    | true =>
                      have HNX : Hid (bfRow (tD ⟨st, (ev : Int), starts, ars, ends⟩ high) ((xc, xo), xu) l (e + 1) = l1) := by show _ = _; rw [HSuc.out, HST.out, if_pos HKN.out]
                      go_wp2_with fail
                      go_roundw
                      case rel => exact ⟨e + 1, QL1, by go_num, by omega, by rw [HNX.out]; exact HW, by rw [HNX.out]; exact HR⟩
                      case measure => simp [intOf]; omega
                    | false =>
                      have HNX : Hid (bfRow (tD ⟨st, (ev : Int), starts, ars, ends⟩ high) ((xc, xo), xu) l (e + 1) = l1 ++ [((to, o2), xu ++ [(e : Int)])]) := by show _ = _; rw [HSuc.out, HST.out, if_neg (by rw [HKN.out]; simp)]
                      have HWN : Hid (wordS seen (xu ++ [(e : Int)]) = wordS seen xu ++ [y]) := by show _ = _; rw [wordS_snoc, HY.out, Option.getD_some]
                      obtain ⟨gw, capw, za, zc, hvw, hgw, cz, iz⟩ := HW.out.ow.get (wlT_at HX1.out)
                      dsimp only at cz iz
                      rw [wlT_len] at hvw
                      cases hvw
                      obtain ⟨za', zc', hze, -, -, hzn⟩ := iz.at
                      cases hze
                      have IZ1 := Hid.of iz
                      have HZN := Hid.of hzn
                      have HGW := Hid.of hgw
                      have hWl := HWLN
                      clear iz hzn hgw
                      revert HWN IZ1 cz hWl
                      generalize wordS seen xu = word
                      intro HWN cz IZ1 hWl
                      go_wp2_with fail
                      have CZ1 := Hid.of cz
                      clear cz
                      have HTS := HW
                      clear HW
                      revert AQ2 IN2 HTS HGW IZ1 CZ1
                      generalize wr = wF
                      intro AQ2 IN2 HGW IZ1 CZ1 HW
                      have SA : Hid (∀ W, Below wF.heap.size wF W → W.cell? ⟨gw, k, none⟩ = some (.slice za word.length zc) ∧ W.cell? ⟨sb, so + e, none⟩ = some (.int .i64 y)) := fun W hb => ⟨(hb.cell (p := ⟨gw, k, none⟩) HGW.out).trans CZ1.out, os_cell (HW.out.below hb).os HY.out⟩
                      refine wp_region_held_drew (S := fun w' => w'.cell? ⟨gw, k, none⟩ = some (.slice za word.length zc) ∧ w'.cell? ⟨sb, so + e, none⟩ = some (.int .i64 y)) (by kernel_rfl) (SA.out _ (Below.refl _ _).drew) (fun hS => ?_)
                      have BF : Hid (Below wF.heap.size wF wF.drew) := (Below.refl _ _).drew
                      revert hS BF
                      generalize wF.drew = Y0
                      intro hS BF
                      refine wpAnyH_take (i := 1) (v := .slice (some ⟨gw, 0, none⟩) l1.length wwc) rfl (by kernel_rfl) (by kernel_rfl) (by kernel_rfl) (fun _ _ _ h => h) (Or.inl ⟨by kernel_rfl, fun w' hw' => by obtain ⟨q0, q1⟩ := hw'; go_simp⟩) hS ?_
                      refine wpAnyH_take (i := 2) (v := .int .i64 k) rfl (by kernel_rfl) (by kernel_rfl) (by kernel_rfl) (fun _ _ _ h => h) (Or.inl ⟨by kernel_rfl, fun w' hw' => by obtain ⟨q0, q1⟩ := hw'; go_simp⟩) hS ?_
                      refine wpAnyH_take (i := 3) (v := .pointer (some ⟨gw, k, none⟩)) rfl (by kernel_rfl) (by kernel_rfl) (by kernel_rfl) (fun _ _ _ h => h) (Or.inl ⟨by kernel_rfl, fun w' hw' => by obtain ⟨q0, q1⟩ := hw'; go_simp⟩) hS ?_
                      refine wpAnyH_take (i := 4) (v := .slice za word.length zc) rfl (by kernel_rfl) (by kernel_rfl) (by kernel_rfl) (fun _ _ _ h => h) (Or.inl ⟨by kernel_rfl, fun w' hw' => by obtain ⟨q0, q1⟩ := hw'; go_simp⟩) hS ?_
                      refine wpAnyH_take (i := 6) (v := .slice (some ⟨sb, so, none⟩) seen.length sc) rfl (by kernel_rfl) (by kernel_rfl) (by kernel_rfl) (fun _ _ _ h => h) (Or.inl ⟨by kernel_rfl, fun w' hw' => by obtain ⟨q0, q1⟩ := hw'; go_simp⟩) hS ?_
                      refine wpAnyH_take (i := 7) (v := .int .i64 e) rfl (by kernel_rfl) (by kernel_rfl) (by kernel_rfl) (fun _ _ _ h => h) (Or.inl ⟨by kernel_rfl, fun w' hw' => by obtain ⟨q0, q1⟩ := hw'; go_simp⟩) hS ?_
                      refine wpAnyH_take (i := 8) (v := .pointer (some ⟨sb, so + e, none⟩)) rfl (by kernel_rfl) (by kernel_rfl) (by kernel_rfl) (fun _ _ _ h => h) (Or.inl ⟨by kernel_rfl, fun w' hw' => by obtain ⟨q0, q1⟩ := hw'; go_simp⟩) hS ?_
                      refine wpAnyH_take (i := 9) (v := .int .i64 y) rfl (by kernel_rfl) (by kernel_rfl) (by kernel_rfl) (fun _ _ _ h => h) (Or.inl ⟨by kernel_rfl, fun w' hw' => by obtain ⟨q0, q1⟩ := hw'; go_simp⟩) hS ?_
                      simp only [Act.put, List.setIfInBounds_toArray]
                      refine wpAnyH_ready (rs := [0, 10]) (by kernel_rfl) (by simp) ?_
                      refine AllReadyH.cons rfl (fun K' hK' => ?_) (AllReadyH.cons rfl (fun K' hK' => ?_) AllReadyH.nil)
                      · clear hS
                        go_simp
                        have hb : Below Y0.heap.size Y0 (Y0.alloc (.cells #[] 3)) := (Below.refl _ _).alloc (Nat.le_refl _) _
                        have P52 : Hid (wF.heap.size ≤ Y0.heap.size) := BF.out.size
                        replace BF := Hid.of (BF.out.trans (hb.mono BF.out.size))
                        have K52 := Hid.of (Blk.new Y0 3 #[])
                        refine hK'.out _ _ (SA.out _ BF.out) (fun hS => ?_)
                        clear hK' K' hb
                        revert P52 BF K52 hS
                        generalize Y0.alloc (.cells #[] 3) = Y11
                        generalize Y0.heap.size = p52
                        intro P52 BF K52 hS
                        refine wpAnyH_ready (rs := [5, 10]) (by kernel_rfl) (by simp) ?_
                        refine AllReadyH.cons rfl (fun K' hK' => ?_) (AllReadyH.cons rfl (fun K' hK' => ?_) AllReadyH.nil)
                        · clear hS
                          have o0 : Own Y11 p52 (.slice (some ⟨p52, 0, none⟩) 0 0) [] := own_empty_blk K52.out
                          obtain ⟨za', zc', hze, hza, -, -⟩ := (IZ1.out.below BF.out HW.out.bel.size).at
                          cases hze
                          have hw64 := hWl.out
                          refine step_append_ints rfl (.tmp 139) (.tmp 143) 22 rfl p52 k0 Tryd.underlying22 ki kz0 kz1 kz2 _ [] rfl o0 za zc word rfl hza HZN.out (by simp only [List.length_nil]; omega) (Nat.le_of_lt K52.out.lt) ?_
                          intro v58 Y12 o1 gr
                          replace o1 : Own Y12 p52 v58 word := o1
                          have hb : Below wF.heap.size Y11 Y12 := (Below.refl _ _).grown gr BF.out.size (fun j hj => by cases hj; exact P52.out)
                          replace BF := Hid.of (BF.out.trans hb)
                          have S58 : Hid (p52 ≤ Y12.heap.size) := Nat.le_trans (Nat.le_of_lt K52.out.lt) gr.size
                          obtain ⟨ua, uc, hva, -, -, -⟩ := own_form2 o1
                          subst hva
                          have O58 := Hid.of o1
                          refine hK'.out _ _ (SA.out _ BF.out) (fun hS => ?_)
                          clear hK' K' hb o0 o1 gr hza hw64 K52
                          refine wpAnyH_ready (rs := [10]) (by kernel_rfl) (by simp) ?_
                          refine AllReadyH.cons rfl (fun K' hK' => ?_) AllReadyH.nil
                          clear hS
                          go_simp
                          have hb : Below Y12.heap.size Y12 (Y12.alloc (.cells #[.int .i64 y] 3)) := (Below.refl _ _).alloc (Nat.le_refl _) _
                          have P64 : Hid (wF.heap.size ≤ Y12.heap.size) := BF.out.size
                          replace BF := Hid.of (BF.out.trans (hb.mono BF.out.size))
                          replace O58 := Hid.of (own_same O58.out (fun j hj => hb.block j (World.ownsRow.lt O58.out j hj).2))
                          replace S58 := Hid.of (Nat.le_trans S58.out hb.size)
                          have K64 := Hid.of (Blk.new Y12 3 #[.int .i64 y])
                          refine hK'.out _ _ (SA.out _ BF.out) (fun hS => ?_)
                          clear hK' K' hb
                          revert P64 BF O58 S58 K64 hS
                          generalize Y12.alloc (.cells #[.int .i64 y] 3) = Y13
                          generalize Y12.heap.size = p64
                          intro P64 BF O58 S58 K64 hS
                          refine wpAnyH_ready (rs := [11]) (by kernel_rfl) (by simp) ?_
                          refine AllReadyH.cons rfl (fun K' hK' => ?_) AllReadyH.nil
                          clear hS
                          have hw64 := hWl.out
                          have hax : At Y13 (some ⟨p64, 0, none⟩) [y] := at_one_blk K64.out
                          refine step_append_ints rfl (.tmp 144) (.tmp 149) 22 rfl p52 k0 Tryd.underlying22 ki kz0 kz1 kz2 _ word rfl O58.out (some ⟨p64, 0, none⟩) 1 [y] rfl hax (fun h => by cases h) (by simp only [List.length_cons, List.length_nil]; omega) S58.out ?_
                          intro v65 Y14 o2 gr
                          have hb : Below wF.heap.size Y13 Y14 := (Below.refl _ _).grown gr BF.out.size (fun j hj => Nat.le_trans P52.out (World.ownsRow.lt O58.out j hj).1)
                          replace BF := Hid.of (BF.out.trans hb)
                          obtain ⟨va2, vc2, hv2, -, -, -⟩ := own_form2 o2
                          have hl2 : (word ++ [y]).length = word.length + 1 := by simp
                          rw [hl2] at hv2
                          subst hv2
                          have I2 : Hid (InnW w.heap.size Y14 (.slice va2 (word.length + 1) vc2) (word ++ [y])) := InnW.of_own o2
                          refine hK'.out _ _ (SA.out _ BF.out) (fun hS => ?_)
                          clear hK' K' hb o2 gr hl2 hw64 hax O58 K64 S58
                          refine wpAnyH_take (i := 12) (v := .slice va2 (word.length + 1) vc2) rfl (by kernel_rfl) (by kernel_rfl) (by kernel_rfl) (fun _ _ _ h => h) (Or.inl ⟨by kernel_rfl, fun w' hw' => by obtain ⟨q0, q1⟩ := hw'; go_simp⟩) hS ?_
                          refine wpAnyH_done (by kernel_rfl) ?_ _
                          clear hS
                          have HW2 := Hid.of (HW.out.below BF.out)
                          have AQ4 := Hid.of (AQ2.out.below BF.out HW.out.bel.size)
                          have IN4 := Hid.of (IN2.out.below BF.out HW.out.bel.size)
                          clear BF SA
                          have bV : Below Y14.heap.size Y14 (Y14.alloc (.cells #[.slice va q2.length vc] 60)) := (Below.refl _ _).alloc (Nat.le_refl _) _
                          have HW3 := Hid.of (HW2.out.below bV)
                          have AQ5 := Hid.of (AQ4.out.below bV HW2.out.bel.size)
                          have IN5 := Hid.of (IN4.out.below bV HW2.out.bel.size)
                          have I3 := Hid.of (I2.out.below bV HW2.out.bel.size)
                          obtain ⟨vs, ho, hin⟩ := HW3.out.oq
                          have HO := Hid.of ho
                          have HIN := Hid.of hin
                          rw [HLN1.out] at ho
                          have HO1 := Hid.of ho
                          clear ho hin bV
                          have hB3 := HW3.out.bel.size
                          go_wp2_with (at_builtin; refine wpList_append_block _ rfl (.tmp 151) (.tmp 153) 135 rfl w.heap.size 60 i0 (.slice none 0 0) 1 24 Tryd.underlying135 hi hz0 hz1 hz2 rfl (by decide) _ _ _ rfl HO1.out ⟨Y14.heap.size, 0, none⟩ 1 1 [.slice va q2.length vc] rfl rfl (cells_oneQ Y14 _ rfl _ _) (by intro u hu; rw [List.mem_singleton.1 hu]; rfl) (by decide) (by unfold maxLen; omega) (by omega) hB3 ?_)
                          intro v7 w7 o7 g7 n7
                          rw [← HLN1.out] at o7
                          have HW4 := Hid.of (TS.pushQ HW3.out HO.out HIN.out AQ5.out o7 g7)
                          have hk7 := kepT_grown (n := w.heap.size) HO.out g7 (Nat.le_refl _) HW3.out.bel.size
                          have IN6 := Hid.of (IN5.out.kep hk7 (by decide))
                          have I4 := Hid.of (I3.out.kep hk7 (by decide))
                          clear o7 g7 n7 HO HO1 HIN HW3 AQ5 I3 hB3 HW2 AQ4 I2 IN4 IN5 hk7
                          obtain ⟨fa7, fc7, hf7⟩ := HW4.out.oq.form
                          rw [List.length_append, HLN1.out, List.length_cons, List.length_nil, Nat.zero_add] at hf7
                          subst hf7
                          have bV : Below w7.heap.size w7 (w7.alloc (.cells #[.slice na o2.length nc] 22)) := (Below.refl _ _).alloc (Nat.le_refl _) _
                          have HW5 := Hid.of (HW4.out.below bV)
                          have IN7 := Hid.of (IN6.out.below bV HW4.out.bel.size)
                          have I5 := Hid.of (I4.out.below bV HW4.out.bel.size)
                          obtain ⟨vs2, ho2, hin2⟩ := HW5.out.oo
                          have HP2 := Hid.of ho2
                          have HIN2 := Hid.of hin2
                          rw [olT_len] at ho2
                          have HP3 := Hid.of ho2
                          clear ho2 hin2 bV
                          have hB5 := HW5.out.bel.size
                          go_wp2_with (at_builtin; refine wpList_append_block _ rfl (.tmp 155) (.tmp 157) 136 rfl w.heap.size 22 r0 (.slice none 0 0) 1 24 Tryd.underlying136 ri rz0 rz1 rz2 rfl (by decide) _ _ _ rfl HP3.out ⟨w7.heap.size, 0, none⟩ 1 1 [.slice na o2.length nc] rfl rfl (cells_oneQ w7 _ rfl _ _) (by intro u hu; rw [List.mem_singleton.1 hu]; rfl) (by decide) (by unfold maxLen; omega) (by omega) hB5 ?_)
                          intro v8 w8 o8 g8 n8
                          rw [← olT_len] at o8
                          have HW6 := Hid.of (TS.pushO HW5.out HP2.out HIN2.out IN7.out o8 g8 (by rw [World.size_alloc]; exact n8))
                          have hk8 := kepT_grown (n := w.heap.size) HP2.out g8 (Nat.le_refl _) HW5.out.bel.size
                          have I6 := Hid.of (I5.out.kep hk8 (by decide))
                          clear o8 g8 n8 HP2 HP3 HIN2 HW5 IN7 I5 hB5 HW4 I4 IN6 hk8
                          obtain ⟨fa8, fc8, hf8⟩ := HW6.out.oo.form
                          rw [List.length_append, olT_len, List.length_cons, List.length_nil, Nat.zero_add] at hf8
                          subst hf8
                          have bV : Below w8.heap.size w8 (w8.alloc (.cells #[.slice va2 (word.length + 1) vc2] 22)) := (Below.refl _ _).alloc (Nat.le_refl _) _
                          have HW7 := Hid.of (HW6.out.below bV)
                          have I7 := Hid.of (I6.out.below bV HW6.out.bel.size)
                          obtain ⟨vs3, ho3, hin3⟩ := HW7.out.ow
                          have HQ3 := Hid.of ho3
                          have HIN3 := Hid.of hin3
                          rw [wlT_len] at ho3
                          have HQ4 := Hid.of ho3
                          clear ho3 hin3 bV
                          have hB7 := HW7.out.bel.size
                          go_wp2_with (at_builtin; refine wpList_append_block _ rfl (.tmp 159) (.tmp 161) 136 rfl w.heap.size 22 r0 (.slice none 0 0) 1 24 Tryd.underlying136 ri rz0 rz1 rz2 rfl (by decide) _ _ _ rfl HQ4.out ⟨w8.heap.size, 0, none⟩ 1 1 [.slice va2 (word.length + 1) vc2] rfl rfl (cells_oneQ w8 _ rfl _ _) (by intro u hu; rw [List.mem_singleton.1 hu]; rfl) (by decide) (by unfold maxLen; omega) (by omega) hB7 ?_)
                          intro v9 w9 o9 g9 n9
                          rw [← wlT_len seen] at o9
                          have HW8 := Hid.of (TS.pushW HW7.out HQ3.out HIN3.out I7.out o9 g9 (by rw [World.size_alloc]; exact n9))
                          have HWE : Hid (wlT seen (l1 ++ [((to, o2), xu ++ [(e : Int)])]) = wlT seen l1 ++ [word ++ [y]]) := by show _ = _; rw [wlT_snoc, HWN.out]
                          have HOE : Hid (olT (l1 ++ [((to, o2), xu ++ [(e : Int)])]) = olT l1 ++ [o2]) := olT_snoc _ _
                          have HR6 : Hid (RepQ ⟨st, (ev : Int), starts, ars, ends⟩ ⟨1, (ev : Int), [], [], []⟩ (QL1 ++ [q2]) (qlT (l1 ++ [((to, o2), xu ++ [(e : Int)])]))) := by show RepQ _ _ _ _; rw [qlT_snoc]; exact HR.out.snoc HQ2I.out HT.out
                          clear o9 g9 n9 HQ3 HQ4 HIN3 HW7 I7 hB7 HW6 I6
                          go_wp2_with fail
                          go_roundw
                          case rel => exact ⟨e + 1, QL1 ++ [q2], by go_num, by omega, by rw [HNX.out, HWE.out, HOE.out]; exact HW8, by rw [HNX.out]; exact HR6⟩
                          case measure => simp [intOf]; omega
                        · clear hS
                          go_simp
                          have hb : Below Y11.heap.size Y11 (Y11.alloc (.cells #[.int .i64 y] 3)) := (Below.refl _ _).alloc (Nat.le_refl _) _
                          have P64 : Hid (wF.heap.size ≤ Y11.heap.size) := BF.out.size
                          have NE := Hid.of (Nat.ne_of_lt K52.out.lt)
                          replace BF := Hid.of (BF.out.trans (hb.mono BF.out.size))
                          replace K52 := Hid.of (K52.out.below hb K52.out.lt)
                          have K64 := Hid.of (Blk.new Y11 3 #[.int .i64 y])
                          refine hK'.out _ _ (SA.out _ BF.out) (fun hS => ?_)
                          clear hK' K' hb
                          revert P64 NE BF K52 K64 hS
                          generalize Y11.alloc (.cells #[.int .i64 y] 3) = Y15
                          generalize Y11.heap.size = p64
                          intro P64 NE BF K52 K64 hS
                          refine wpAnyH_ready (rs := [5]) (by kernel_rfl) (by simp) ?_
                          refine AllReadyH.cons rfl (fun K' hK' => ?_) AllReadyH.nil
                          clear hS
                          have o0 : Own Y15 p52 (.slice (some ⟨p52, 0, none⟩) 0 0) [] := own_empty_blk K52.out
                          obtain ⟨za', zc', hze, hza, -, -⟩ := (IZ1.out.below BF.out HW.out.bel.size).at
                          cases hze
                          have hw64 := hWl.out
                          refine step_append_ints rfl (.tmp 139) (.tmp 143) 22 rfl p52 k0 Tryd.underlying22 ki kz0 kz1 kz2 _ [] rfl o0 za zc word rfl hza HZN.out (by simp only [List.length_nil]; omega) (Nat.le_of_lt K52.out.lt) ?_
                          intro v58 Y16 o1 gr
                          replace o1 : Own Y16 p52 v58 word := o1
                          have hb : Below wF.heap.size Y15 Y16 := (Below.refl _ _).grown gr BF.out.size (fun j hj => by cases hj; exact P52.out)
                          replace BF := Hid.of (BF.out.trans hb)
                          replace K64 : Hid (Blk Y16 p64 3 #[.int .i64 y]) := (gr.block p64 K64.out.lt (fun e => by cases e; exact NE.out rfl)).trans K64.out
                          have S58 : Hid (p52 ≤ Y16.heap.size) := Nat.le_trans (Nat.le_of_lt K52.out.lt) gr.size
                          obtain ⟨ua, uc, hva, -, -, -⟩ := own_form2 o1
                          subst hva
                          have O58 := Hid.of o1
                          refine hK'.out _ _ (SA.out _ BF.out) (fun hS => ?_)
                          clear hK' K' hb o0 o1 gr hza hw64 K52
                          refine wpAnyH_ready (rs := [11]) (by kernel_rfl) (by simp) ?_
                          refine AllReadyH.cons rfl (fun K' hK' => ?_) AllReadyH.nil
                          clear hS
                          have hw64 := hWl.out
                          have hax : At Y16 (some ⟨p64, 0, none⟩) [y] := at_one_blk K64.out
                          refine step_append_ints rfl (.tmp 144) (.tmp 149) 22 rfl p52 k0 Tryd.underlying22 ki kz0 kz1 kz2 _ word rfl O58.out (some ⟨p64, 0, none⟩) 1 [y] rfl hax (fun h => by cases h) (by simp only [List.length_cons, List.length_nil]; omega) S58.out ?_
                          intro v65 Y17 o2 gr
                          have hb : Below wF.heap.size Y16 Y17 := (Below.refl _ _).grown gr BF.out.size (fun j hj => Nat.le_trans P52.out (World.ownsRow.lt O58.out j hj).1)
                          replace BF := Hid.of (BF.out.trans hb)
                          obtain ⟨va2, vc2, hv2, -, -, -⟩ := own_form2 o2
                          have hl2 : (word ++ [y]).length = word.length + 1 := by simp
                          rw [hl2] at hv2
                          subst hv2
                          have I2 : Hid (InnW w.heap.size Y17 (.slice va2 (word.length + 1) vc2) (word ++ [y])) := InnW.of_own o2
                          refine hK'.out _ _ (SA.out _ BF.out) (fun hS => ?_)
                          clear hK' K' hb o2 gr hl2 hw64 hax O58 K64 S58
                          refine wpAnyH_take (i := 12) (v := .slice va2 (word.length + 1) vc2) rfl (by kernel_rfl) (by kernel_rfl) (by kernel_rfl) (fun _ _ _ h => h) (Or.inl ⟨by kernel_rfl, fun w' hw' => by obtain ⟨q0, q1⟩ := hw'; go_simp⟩) hS ?_
                          refine wpAnyH_done (by kernel_rfl) ?_ _
                          clear hS
                          have HW2 := Hid.of (HW.out.below BF.out)
                          have AQ4 := Hid.of (AQ2.out.below BF.out HW.out.bel.size)
                          have IN4 := Hid.of (IN2.out.below BF.out HW.out.bel.size)
                          clear BF SA
                          have bV : Below Y17.heap.size Y17 (Y17.alloc (.cells #[.slice va q2.length vc] 60)) := (Below.refl _ _).alloc (Nat.le_refl _) _
                          have HW3 := Hid.of (HW2.out.below bV)
                          have AQ5 := Hid.of (AQ4.out.below bV HW2.out.bel.size)
                          have IN5 := Hid.of (IN4.out.below bV HW2.out.bel.size)
                          have I3 := Hid.of (I2.out.below bV HW2.out.bel.size)
                          obtain ⟨vs, ho, hin⟩ := HW3.out.oq
                          have HO := Hid.of ho
                          have HIN := Hid.of hin
                          rw [HLN1.out] at ho
                          have HO1 := Hid.of ho
                          clear ho hin bV
                          have hB3 := HW3.out.bel.size
                          go_wp2_with (at_builtin; refine wpList_append_block _ rfl (.tmp 151) (.tmp 153) 135 rfl w.heap.size 60 i0 (.slice none 0 0) 1 24 Tryd.underlying135 hi hz0 hz1 hz2 rfl (by decide) _ _ _ rfl HO1.out ⟨Y17.heap.size, 0, none⟩ 1 1 [.slice va q2.length vc] rfl rfl (cells_oneQ Y17 _ rfl _ _) (by intro u hu; rw [List.mem_singleton.1 hu]; rfl) (by decide) (by unfold maxLen; omega) (by omega) hB3 ?_)
                          intro v7 w7 o7 g7 n7
                          rw [← HLN1.out] at o7
                          have HW4 := Hid.of (TS.pushQ HW3.out HO.out HIN.out AQ5.out o7 g7)
                          have hk7 := kepT_grown (n := w.heap.size) HO.out g7 (Nat.le_refl _) HW3.out.bel.size
                          have IN6 := Hid.of (IN5.out.kep hk7 (by decide))
                          have I4 := Hid.of (I3.out.kep hk7 (by decide))
                          clear o7 g7 n7 HO HO1 HIN HW3 AQ5 I3 hB3 HW2 AQ4 I2 IN4 IN5 hk7
                          obtain ⟨fa7, fc7, hf7⟩ := HW4.out.oq.form
                          rw [List.length_append, HLN1.out, List.length_cons, List.length_nil, Nat.zero_add] at hf7
                          subst hf7
                          have bV : Below w7.heap.size w7 (w7.alloc (.cells #[.slice na o2.length nc] 22)) := (Below.refl _ _).alloc (Nat.le_refl _) _
                          have HW5 := Hid.of (HW4.out.below bV)
                          have IN7 := Hid.of (IN6.out.below bV HW4.out.bel.size)
                          have I5 := Hid.of (I4.out.below bV HW4.out.bel.size)
                          obtain ⟨vs2, ho2, hin2⟩ := HW5.out.oo
                          have HP2 := Hid.of ho2
                          have HIN2 := Hid.of hin2
                          rw [olT_len] at ho2
                          have HP3 := Hid.of ho2
                          clear ho2 hin2 bV
                          have hB5 := HW5.out.bel.size
                          go_wp2_with (at_builtin; refine wpList_append_block _ rfl (.tmp 155) (.tmp 157) 136 rfl w.heap.size 22 r0 (.slice none 0 0) 1 24 Tryd.underlying136 ri rz0 rz1 rz2 rfl (by decide) _ _ _ rfl HP3.out ⟨w7.heap.size, 0, none⟩ 1 1 [.slice na o2.length nc] rfl rfl (cells_oneQ w7 _ rfl _ _) (by intro u hu; rw [List.mem_singleton.1 hu]; rfl) (by decide) (by unfold maxLen; omega) (by omega) hB5 ?_)
                          intro v8 w8 o8 g8 n8
                          rw [← olT_len] at o8
                          have HW6 := Hid.of (TS.pushO HW5.out HP2.out HIN2.out IN7.out o8 g8 (by rw [World.size_alloc]; exact n8))
                          have hk8 := kepT_grown (n := w.heap.size) HP2.out g8 (Nat.le_refl _) HW5.out.bel.size
                          have I6 := Hid.of (I5.out.kep hk8 (by decide))
                          clear o8 g8 n8 HP2 HP3 HIN2 HW5 IN7 I5 hB5 HW4 I4 IN6 hk8
                          obtain ⟨fa8, fc8, hf8⟩ := HW6.out.oo.form
                          rw [List.length_append, olT_len, List.length_cons, List.length_nil, Nat.zero_add] at hf8
                          subst hf8
                          have bV : Below w8.heap.size w8 (w8.alloc (.cells #[.slice va2 (word.length + 1) vc2] 22)) := (Below.refl _ _).alloc (Nat.le_refl _) _
                          have HW7 := Hid.of (HW6.out.below bV)
                          have I7 := Hid.of (I6.out.below bV HW6.out.bel.size)
                          obtain ⟨vs3, ho3, hin3⟩ := HW7.out.ow
                          have HQ3 := Hid.of ho3
                          have HIN3 := Hid.of hin3
                          rw [wlT_len] at ho3
                          have HQ4 := Hid.of ho3
                          clear ho3 hin3 bV
                          have hB7 := HW7.out.bel.size
                          go_wp2_with (at_builtin; refine wpList_append_block _ rfl (.tmp 159) (.tmp 161) 136 rfl w.heap.size 22 r0 (.slice none 0 0) 1 24 Tryd.underlying136 ri rz0 rz1 rz2 rfl (by decide) _ _ _ rfl HQ4.out ⟨w8.heap.size, 0, none⟩ 1 1 [.slice va2 (word.length + 1) vc2] rfl rfl (cells_oneQ w8 _ rfl _ _) (by intro u hu; rw [List.mem_singleton.1 hu]; rfl) (by decide) (by unfold maxLen; omega) (by omega) hB7 ?_)
                          intro v9 w9 o9 g9 n9
                          rw [← wlT_len seen] at o9
                          have HW8 := Hid.of (TS.pushW HW7.out HQ3.out HIN3.out I7.out o9 g9 (by rw [World.size_alloc]; exact n9))
                          have HWE : Hid (wlT seen (l1 ++ [((to, o2), xu ++ [(e : Int)])]) = wlT seen l1 ++ [word ++ [y]]) := by show _ = _; rw [wlT_snoc, HWN.out]
                          have HOE : Hid (olT (l1 ++ [((to, o2), xu ++ [(e : Int)])]) = olT l1 ++ [o2]) := olT_snoc _ _
                          have HR6 : Hid (RepQ ⟨st, (ev : Int), starts, ars, ends⟩ ⟨1, (ev : Int), [], [], []⟩ (QL1 ++ [q2]) (qlT (l1 ++ [((to, o2), xu ++ [(e : Int)])]))) := by show RepQ _ _ _ _; rw [qlT_snoc]; exact HR.out.snoc HQ2I.out HT.out
                          clear o9 g9 n9 HQ3 HQ4 HIN3 HW7 I7 hB7 HW6 I6
                          go_wp2_with fail
                          go_roundw
                          case rel => exact ⟨e + 1, QL1 ++ [q2], by go_num, by omega, by rw [HNX.out, HWE.out, HOE.out]; exact HW8, by rw [HNX.out]; exact HR6⟩
                          case measure => simp [intOf]; omega
                      · clear hS
                        go_simp
                        have hb : Below Y0.heap.size Y0 (Y0.alloc (.cells #[.int .i64 y] 3)) := (Below.refl _ _).alloc (Nat.le_refl _) _
                        have P64 : Hid (wF.heap.size ≤ Y0.heap.size) := BF.out.size
                        replace BF := Hid.of (BF.out.trans (hb.mono BF.out.size))
                        have K64 := Hid.of (Blk.new Y0 3 #[.int .i64 y])
                        refine hK'.out _ _ (SA.out _ BF.out) (fun hS => ?_)
                        clear hK' K' hb
                        revert P64 BF K64 hS
                        generalize Y0.alloc (.cells #[.int .i64 y] 3) = Y18
                        generalize Y0.heap.size = p64
                        intro P64 BF K64 hS
                        refine wpAnyH_ready (rs := [0]) (by kernel_rfl) (by simp) ?_
                        refine AllReadyH.cons rfl (fun K' hK' => ?_) AllReadyH.nil
                        clear hS
                        go_simp
                        have hb : Below Y18.heap.size Y18 (Y18.alloc (.cells #[] 3)) := (Below.refl _ _).alloc (Nat.le_refl _) _
                        have P52 : Hid (wF.heap.size ≤ Y18.heap.size) := BF.out.size
                        have NE := Hid.of (Nat.ne_of_gt K64.out.lt)
                        replace BF := Hid.of (BF.out.trans (hb.mono BF.out.size))
                        replace K64 := Hid.of (K64.out.below hb K64.out.lt)
                        have K52 := Hid.of (Blk.new Y18 3 #[])
                        refine hK'.out _ _ (SA.out _ BF.out) (fun hS => ?_)
                        clear hK' K' hb
                        revert P52 NE BF K64 K52 hS
                        generalize Y18.alloc (.cells #[] 3) = Y19
                        generalize Y18.heap.size = p52
                        intro P52 NE BF K64 K52 hS
                        refine wpAnyH_ready (rs := [5]) (by kernel_rfl) (by simp) ?_
                        refine AllReadyH.cons rfl (fun K' hK' => ?_) AllReadyH.nil
                        clear hS
                        have o0 : Own Y19 p52 (.slice (some ⟨p52, 0, none⟩) 0 0) [] := own_empty_blk K52.out
                        obtain ⟨za', zc', hze, hza, -, -⟩ := (IZ1.out.below BF.out HW.out.bel.size).at
                        cases hze
                        have hw64 := hWl.out
                        refine step_append_ints rfl (.tmp 139) (.tmp 143) 22 rfl p52 k0 Tryd.underlying22 ki kz0 kz1 kz2 _ [] rfl o0 za zc word rfl hza HZN.out (by simp only [List.length_nil]; omega) (Nat.le_of_lt K52.out.lt) ?_
                        intro v58 Y20 o1 gr
                        replace o1 : Own Y20 p52 v58 word := o1
                        have hb : Below wF.heap.size Y19 Y20 := (Below.refl _ _).grown gr BF.out.size (fun j hj => by cases hj; exact P52.out)
                        replace BF := Hid.of (BF.out.trans hb)
                        replace K64 : Hid (Blk Y20 p64 3 #[.int .i64 y]) := (gr.block p64 K64.out.lt (fun e => by cases e; exact NE.out rfl)).trans K64.out
                        have S58 : Hid (p52 ≤ Y20.heap.size) := Nat.le_trans (Nat.le_of_lt K52.out.lt) gr.size
                        obtain ⟨ua, uc, hva, -, -, -⟩ := own_form2 o1
                        subst hva
                        have O58 := Hid.of o1
                        refine hK'.out _ _ (SA.out _ BF.out) (fun hS => ?_)
                        clear hK' K' hb o0 o1 gr hza hw64 K52
                        refine wpAnyH_ready (rs := [11]) (by kernel_rfl) (by simp) ?_
                        refine AllReadyH.cons rfl (fun K' hK' => ?_) AllReadyH.nil
                        clear hS
                        have hw64 := hWl.out
                        have hax : At Y20 (some ⟨p64, 0, none⟩) [y] := at_one_blk K64.out
                        refine step_append_ints rfl (.tmp 144) (.tmp 149) 22 rfl p52 k0 Tryd.underlying22 ki kz0 kz1 kz2 _ word rfl O58.out (some ⟨p64, 0, none⟩) 1 [y] rfl hax (fun h => by cases h) (by simp only [List.length_cons, List.length_nil]; omega) S58.out ?_
                        intro v65 Y21 o2 gr
                        have hb : Below wF.heap.size Y20 Y21 := (Below.refl _ _).grown gr BF.out.size (fun j hj => Nat.le_trans P52.out (World.ownsRow.lt O58.out j hj).1)
                        replace BF := Hid.of (BF.out.trans hb)
                        obtain ⟨va2, vc2, hv2, -, -, -⟩ := own_form2 o2
                        have hl2 : (word ++ [y]).length = word.length + 1 := by simp
                        rw [hl2] at hv2
                        subst hv2
                        have I2 : Hid (InnW w.heap.size Y21 (.slice va2 (word.length + 1) vc2) (word ++ [y])) := InnW.of_own o2
                        refine hK'.out _ _ (SA.out _ BF.out) (fun hS => ?_)
                        clear hK' K' hb o2 gr hl2 hw64 hax O58 K64 S58
                        refine wpAnyH_take (i := 12) (v := .slice va2 (word.length + 1) vc2) rfl (by kernel_rfl) (by kernel_rfl) (by kernel_rfl) (fun _ _ _ h => h) (Or.inl ⟨by kernel_rfl, fun w' hw' => by obtain ⟨q0, q1⟩ := hw'; go_simp⟩) hS ?_
                        refine wpAnyH_done (by kernel_rfl) ?_ _
                        clear hS
                        have HW2 := Hid.of (HW.out.below BF.out)
                        have AQ4 := Hid.of (AQ2.out.below BF.out HW.out.bel.size)
                        have IN4 := Hid.of (IN2.out.below BF.out HW.out.bel.size)
                        clear BF SA
                        have bV : Below Y21.heap.size Y21 (Y21.alloc (.cells #[.slice va q2.length vc] 60)) := (Below.refl _ _).alloc (Nat.le_refl _) _
                        have HW3 := Hid.of (HW2.out.below bV)
                        have AQ5 := Hid.of (AQ4.out.below bV HW2.out.bel.size)
                        have IN5 := Hid.of (IN4.out.below bV HW2.out.bel.size)
                        have I3 := Hid.of (I2.out.below bV HW2.out.bel.size)
                        obtain ⟨vs, ho, hin⟩ := HW3.out.oq
                        have HO := Hid.of ho
                        have HIN := Hid.of hin
                        rw [HLN1.out] at ho
                        have HO1 := Hid.of ho
                        clear ho hin bV
                        have hB3 := HW3.out.bel.size
                        go_wp2_with (at_builtin; refine wpList_append_block _ rfl (.tmp 151) (.tmp 153) 135 rfl w.heap.size 60 i0 (.slice none 0 0) 1 24 Tryd.underlying135 hi hz0 hz1 hz2 rfl (by decide) _ _ _ rfl HO1.out ⟨Y21.heap.size, 0, none⟩ 1 1 [.slice va q2.length vc] rfl rfl (cells_oneQ Y21 _ rfl _ _) (by intro u hu; rw [List.mem_singleton.1 hu]; rfl) (by decide) (by unfold maxLen; omega) (by omega) hB3 ?_)
                        intro v7 w7 o7 g7 n7
                        rw [← HLN1.out] at o7
                        have HW4 := Hid.of (TS.pushQ HW3.out HO.out HIN.out AQ5.out o7 g7)
                        have hk7 := kepT_grown (n := w.heap.size) HO.out g7 (Nat.le_refl _) HW3.out.bel.size
                        have IN6 := Hid.of (IN5.out.kep hk7 (by decide))
                        have I4 := Hid.of (I3.out.kep hk7 (by decide))
                        clear o7 g7 n7 HO HO1 HIN HW3 AQ5 I3 hB3 HW2 AQ4 I2 IN4 IN5 hk7
                        obtain ⟨fa7, fc7, hf7⟩ := HW4.out.oq.form
                        rw [List.length_append, HLN1.out, List.length_cons, List.length_nil, Nat.zero_add] at hf7
                        subst hf7
                        have bV : Below w7.heap.size w7 (w7.alloc (.cells #[.slice na o2.length nc] 22)) := (Below.refl _ _).alloc (Nat.le_refl _) _
                        have HW5 := Hid.of (HW4.out.below bV)
                        have IN7 := Hid.of (IN6.out.below bV HW4.out.bel.size)
                        have I5 := Hid.of (I4.out.below bV HW4.out.bel.size)
                        obtain ⟨vs2, ho2, hin2⟩ := HW5.out.oo
                        have HP2 := Hid.of ho2
                        have HIN2 := Hid.of hin2
                        rw [olT_len] at ho2
                        have HP3 := Hid.of ho2
                        clear ho2 hin2 bV
                        have hB5 := HW5.out.bel.size
                        go_wp2_with (at_builtin; refine wpList_append_block _ rfl (.tmp 155) (.tmp 157) 136 rfl w.heap.size 22 r0 (.slice none 0 0) 1 24 Tryd.underlying136 ri rz0 rz1 rz2 rfl (by decide) _ _ _ rfl HP3.out ⟨w7.heap.size, 0, none⟩ 1 1 [.slice na o2.length nc] rfl rfl (cells_oneQ w7 _ rfl _ _) (by intro u hu; rw [List.mem_singleton.1 hu]; rfl) (by decide) (by unfold maxLen; omega) (by omega) hB5 ?_)
                        intro v8 w8 o8 g8 n8
                        rw [← olT_len] at o8
                        have HW6 := Hid.of (TS.pushO HW5.out HP2.out HIN2.out IN7.out o8 g8 (by rw [World.size_alloc]; exact n8))
                        have hk8 := kepT_grown (n := w.heap.size) HP2.out g8 (Nat.le_refl _) HW5.out.bel.size
                        have I6 := Hid.of (I5.out.kep hk8 (by decide))
                        clear o8 g8 n8 HP2 HP3 HIN2 HW5 IN7 I5 hB5 HW4 I4 IN6 hk8
                        obtain ⟨fa8, fc8, hf8⟩ := HW6.out.oo.form
                        rw [List.length_append, olT_len, List.length_cons, List.length_nil, Nat.zero_add] at hf8
                        subst hf8
                        have bV : Below w8.heap.size w8 (w8.alloc (.cells #[.slice va2 (word.length + 1) vc2] 22)) := (Below.refl _ _).alloc (Nat.le_refl _) _
                        have HW7 := Hid.of (HW6.out.below bV)
                        have I7 := Hid.of (I6.out.below bV HW6.out.bel.size)
                        obtain ⟨vs3, ho3, hin3⟩ := HW7.out.ow
                        have HQ3 := Hid.of ho3
                        have HIN3 := Hid.of hin3
                        rw [wlT_len] at ho3
                        have HQ4 := Hid.of ho3
                        clear ho3 hin3 bV
                        have hB7 := HW7.out.bel.size
                        go_wp2_with (at_builtin; refine wpList_append_block _ rfl (.tmp 159) (.tmp 161) 136 rfl w.heap.size 22 r0 (.slice none 0 0) 1 24 Tryd.underlying136 ri rz0 rz1 rz2 rfl (by decide) _ _ _ rfl HQ4.out ⟨w8.heap.size, 0, none⟩ 1 1 [.slice va2 (word.length + 1) vc2] rfl rfl (cells_oneQ w8 _ rfl _ _) (by intro u hu; rw [List.mem_singleton.1 hu]; rfl) (by decide) (by unfold maxLen; omega) (by omega) hB7 ?_)
                        intro v9 w9 o9 g9 n9
                        rw [← wlT_len seen] at o9
                        have HW8 := Hid.of (TS.pushW HW7.out HQ3.out HIN3.out I7.out o9 g9 (by rw [World.size_alloc]; exact n9))
                        have HWE : Hid (wlT seen (l1 ++ [((to, o2), xu ++ [(e : Int)])]) = wlT seen l1 ++ [word ++ [y]]) := by show _ = _; rw [wlT_snoc, HWN.out]
                        have HOE : Hid (olT (l1 ++ [((to, o2), xu ++ [(e : Int)])]) = olT l1 ++ [o2]) := olT_snoc _ _
                        have HR6 : Hid (RepQ ⟨st, (ev : Int), starts, ars, ends⟩ ⟨1, (ev : Int), [], [], []⟩ (QL1 ++ [q2]) (qlT (l1 ++ [((to, o2), xu ++ [(e : Int)])]))) := by show RepQ _ _ _ _; rw [qlT_snoc]; exact HR.out.snoc HQ2I.out HT.out
                        clear o9 g9 n9 HQ3 HQ4 HIN3 HW7 I7 hB7 HW6 I6
                        go_wp2_with fail
                        go_roundw
                        case rel => exact ⟨e + 1, QL1 ++ [q2], by go_num, by omega, by rw [HNX.out, HWE.out, HOE.out]; exact HW8, by rw [HNX.out]; exact HR6⟩
                        case measure => simp [intOf]; omega
              · have hleD : decide ((e : Int) < (seen.length : Int)) = false := by simp; omega
                have he2 : e = seen.length := by omega
                have HLN2 : Hid (LTq ⟨st, (ev : Int), starts, ars, ends⟩ high (k + 1) l1) := by
                  have := HL.out.next HX.out HNO.out (by omega)
                  rw [← HSH.out] at this
                  rw [HS1.out, he2]; exact this
                clear he2
                go_wp2_with fail
                go_roundw
                case rel => exact ⟨k + 1, l1, QL1, by go_num, by omega, hl1, HW, HR, HLN2⟩
                case measure => simp [intOf]; omega
          | true =>
            by_cases hE : E.length = 0
            · have HO : Hid (outT ⟨st, (ev : Int), starts, ars, ends⟩ high = some (wordS seen xu)) := by
                show _ = _
                rw [HSH.out]
                exact HL.out.found HX.out (by rw [HTL.out, decide_eq_true hE]; rfl)
              have dE : ((E.length : Int) == 0) = true := by simp [hE]
              obtain ⟨word, HWD⟩ : ∃ word, Hid (word = wordS seen xu) := ⟨_, rfl⟩
              rw [← HWD.out] at HO CZ IZ
              have cz := CZ.out
              clear hE
              go_wp2_with fail
              go_quiet (fail)
              clear cz
              have IZ2 : Hid (InnW w.heap.size (Y2.drewN nq) (.slice za word.length zc) word) := IZ.out.below (below_drewN (Below.refl _ _) nq) HW.out.bel.size
              have B9 : Hid (Below w.heap.size w (Y2.drewN nq)) := below_drewN HW.out.bel nq
              obtain ⟨za', zc', hze, zat, zln, -⟩ := IZ2.out.at
              cases hze
              have ZA := Hid.of zat
              have ZL := Hid.of zln
              clear zat zln
              go_wp2_with fail
              refine bodyPost_ret (v := .tuple #[.bool true, .slice za word.length zc]) (by simp [results, go_sem]) rfl ?_
              rw [HO.out]
              exact ⟨za, zc, rfl, ZA.out, ZL.out, B9.out⟩
            · have dE : ((E.length : Int) == 0) = false := by rw [beq_eq_false_iff_ne]; omega
              have HNO : Hid (tellT ⟨st, (ev : Int), starts, ars, ends⟩ (xc, xo) = false) := by show _ = _; rw [HTL.out, decide_eq_false hE]; rfl
              clear hE
              go_wp2_with fail
              clear CZ HGW IZ
              go_loopw [10, 11, 12, 17] (fun vq vo vw i wr' => ∃ (e : Nat) (QL1 : List (List Pla)), i = .int .i64 e ∧ e ≤ seen.length ∧ Hid (TS w wr' ⟨st, (ev : Int), starts, ars, ends⟩ ⟨a1, c1, a2, c2, a3, c3⟩ LA pl p1 la lc (.slice sa seen.length sc) seen vq vo vw QL1 (olT (bfRow (tD ⟨st, (ev : Int), starts, ars, ends⟩ high) ((xc, xo), xu) l e)) (wlT seen (bfRow (tD ⟨st, (ev : Int), starts, ars, ends⟩ high) ((xc, xo), xu) l e))) ∧ Hid (RepQ ⟨st, (ev : Int), starts, ars, ends⟩ ⟨1, (ev : Int), [], [], []⟩ QL1 (qlT (bfRow (tD ⟨st, (ev : Int), starts, ars, ends⟩ high) ((xc, xo), xu) l e)))) (fun _ _ _ i _ => seen.length - (intOf i).toNat)
              case atStart => exact ⟨0, QL, rfl, Nat.zero_le _, HW, HR⟩
              case round =>
                clear HW HR AQ IU CQ CO HG HGO
                obtain ⟨e, QL1, rfl, hee, HW, HR⟩ := hrel
                obtain ⟨l1, HS1⟩ : ∃ l1, Hid (l1 = bfRow (tD ⟨st, (ev : Int), starts, ars, ends⟩ high) ((xc, xo), xu) l e) := ⟨_, rfl⟩
                have HX1 : Hid (l1[k]? = some ((xc, xo), xu)) := by
                  obtain ⟨t, ht⟩ := bfRow_pre (tD ⟨st, (ev : Int), starts, ars, ends⟩ high) ((xc, xo), xu) l e
                  show _ = _
                  rw [HS1.out, ht, List.getElem?_append_left (List.getElem?_eq_some_iff.1 HX.out).1]
                  exact HX.out
                have hl1 : l1.length ≤ 4096 := by
                  have := bi_row (tD ⟨st, (ev : Int), starts, ars, ends⟩ high) HL.out.bi HX.out e (by rw [← HSH.out]; exact hee)
                  rw [← HS1.out] at this
                  exact t_bound mm.out zm.out high this
                have hk1 : k < l1.length := (List.getElem?_eq_some_iff.1 HX1.out).1
                have HSuc : Hid (bfRow (tD ⟨st, (ev : Int), starts, ars, ends⟩ high) ((xc, xo), xu) l (e + 1) = bfStep (tD ⟨st, (ev : Int), starts, ars, ends⟩ high) ((xc, xo), xu) l1 e) := by show _ = _; rw [bfRow_succ, HS1.out]
                rw [← HS1.out] at HW HR
                have HLN1 : Hid (QL1.length = l1.length) := by show _ = _; rw [HR.out.len, qlT_len]
                obtain ⟨qqa, qqc, hvq⟩ := HW.out.oq.form
                obtain ⟨ooa, ooc, hvo⟩ := HW.out.oo.form
                obtain ⟨wwa, wwc, hvw⟩ := HW.out.ow.form
                rw [HLN1.out] at hvq
                rw [olT_len] at hvo
                rw [wlT_len] at hvw
                subst hvq
                subst hvo
                subst hvw
                by_cases hle : e < seen.length
                · have hleD : decide ((e : Int) < (seen.length : Int)) = true := by simp; omega
                  obtain ⟨y, HY⟩ : ∃ y, Hid (seen[e]? = some y) := ⟨_, List.getElem?_eq_getElem hle⟩
                  obtain ⟨sb, so, hsa⟩ := os_some HW.out.os (Nat.lt_of_le_of_lt (Nat.zero_le _) hle)
                  subst hsa
                  obtain ⟨q, hq, hqi, hqx⟩ := HR.out.at (qlT_at HX1.out)
                  dsimp only at hqx
                  have hq96 : q.length ≤ 96 := HSM.out q hqi
                  have HTO1 : Hid (qD ⟨st, (ev : Int), starts, ars, ends⟩ ⟨1, (ev : Int), [], [], []⟩ seen xc e = canG (allQ ⟨st, (ev : Int), starts, ars, ends⟩ ⟨1, (ev : Int), [], [], []⟩) (seeQ ⟨st, (ev : Int), starts, ars, ends⟩ ⟨1, (ev : Int), [], [], []⟩ seen q y)) := by
                    show _ = _
                    rw [hqx, can_see mm.out ms.out zm.out zs.out hqi.2, HY.out, Option.getD_some]
                  obtain ⟨g, cap, qa, qc, hve, hg, cq, aq⟩ := HW.out.oq.get hq
                  rw [HLN1.out] at hve
                  cases hve
                  obtain ⟨go, capo, xa, xk, hvo, hgo, co, io⟩ := HW.out.oo.get (olT_at HX1.out)
                  dsimp only at co io
                  rw [olT_len] at hvo
                  cases hvo
                  have AQ := Hid.of aq
                  have IU := Hid.of io
                  have CQ := Hid.of cq
                  have CO := Hid.of co
                  have HG := Hid.of hg
                  have HGO := Hid.of hgo
                  clear hq hqi hqx hg hgo aq io cq co
                  have SA : Hid (∀ W, Blk W w.heap.size 25 (mcells ⟨st, (ev : Int), starts, ars, ends⟩ ⟨a1, c1, a2, c2, a3, c3⟩) → Blk W p1 25 (mcells ⟨1, (ev : Int), [], [], []⟩ ml0) → Own W w.heap.size (.slice (some ⟨sb, so, none⟩) seen.length sc) seen → W.cell? ⟨g, k, none⟩ = some (.slice qa q.length qc) → W.cell? ⟨w.heap.size, 0, none⟩ = some (.int .i64 st) ∧ W.cell? ⟨w.heap.size, 1, none⟩ = some (.int .i64 ev) ∧ W.cell? ⟨w.heap.size, 2, none⟩ = some (.slice a1 starts.length c1) ∧ W.cell? ⟨w.heap.size, 3, none⟩ = some (.slice a2 ars.length c2) ∧ W.cell? ⟨w.heap.size, 4, none⟩ = some (.slice a3 ends.length c3) ∧ W.cell? ⟨p1, 0, none⟩ = some (.int .i64 1) ∧ W.cell? ⟨p1, 1, none⟩ = some (.int .i64 ev) ∧ W.cell? ⟨p1, 2, none⟩ = some (.slice none 0 0) ∧ W.cell? ⟨p1, 3, none⟩ = some (.slice none 0 0) ∧ W.cell? ⟨p1, 4, none⟩ = some (.slice none 0 0) ∧ W.cell? ⟨g, k, none⟩ = some (.slice qa q.length qc) ∧ W.cell? ⟨sb, so + e, none⟩ = some (.int .i64 y)) := fun W h1 h2 h4 h3 => by
                    obtain ⟨x0, x1, x2, x3, x4⟩ := mcell_at h1
                    obtain ⟨y0, y1, y2, y3, y4⟩ := mcell_at h2
                    exact ⟨x0, x1, x2, x3, x4, y0, y1, y2, y3, y4, h3, os_cell h4 HY.out⟩
                  go_wp2_with fail
                  have bd : Below wr.heap.size wr wr.drew := (Below.refl _ _).drew
                  have hn := HW.out.bel.size
                  replace AQ := Hid.of (AQ.out.below bd hn)
                  replace IU := Hid.of (IU.out.below bd hn)
                  replace HW := Hid.of (HW.out.below bd)
                  replace CQ : Hid (wr.drew.cell? ⟨g, k, none⟩ = some (.slice qa q.length qc)) := CQ.out
                  replace CO : Hid (wr.drew.cell? ⟨go, k, none⟩ = some (.slice xa xo.length xk)) := CO.out
                  replace HG : Hid (g < wr.drew.heap.size) := HG.out
                  replace HGO : Hid (go < wr.drew.heap.size) := HGO.out
                  refine wp_region_held_drew (S := fun w' => w'.cell? ⟨w.heap.size, 0, none⟩ = some (.int .i64 st) ∧ w'.cell? ⟨w.heap.size, 1, none⟩ = some (.int .i64 ev) ∧ w'.cell? ⟨w.heap.size, 2, none⟩ = some (.slice a1 starts.length c1) ∧ w'.cell? ⟨w.heap.size, 3, none⟩ = some (.slice a2 ars.length c2) ∧ w'.cell? ⟨w.heap.size, 4, none⟩ = some (.slice a3 ends.length c3) ∧ w'.cell? ⟨p1, 0, none⟩ = some (.int .i64 1) ∧ w'.cell? ⟨p1, 1, none⟩ = some (.int .i64 ev) ∧ w'.cell? ⟨p1, 2, none⟩ = some (.slice none 0 0) ∧ w'.cell? ⟨p1, 3, none⟩ = some (.slice none 0 0) ∧ w'.cell? ⟨p1, 4, none⟩ = some (.slice none 0 0) ∧ w'.cell? ⟨g, k, none⟩ = some (.slice qa q.length qc) ∧ w'.cell? ⟨sb, so + e, none⟩ = some (.int .i64 y)) (by kernel_rfl) (SA.out _ HW.out.km HW.out.k1 HW.out.os CQ.out) (fun hS => ?_)
                  clear bd hn
                  revert AQ IU HW CQ CO HG HGO hS
                  generalize wr.drew = Y
                  intro AQ IU HW CQ CO HG HGO hS
                  refine wpAnyH_take (i := 0) (v := .agg #[.int .i64 st, .int .i64 ev, .slice a1 starts.length c1, .slice a2 ars.length c2, .slice a3 ends.length c3]) rfl (by kernel_rfl) (by kernel_rfl) (by kernel_rfl) (fun _ _ _ h => h) (Or.inl ⟨by kernel_rfl, fun w' hw' => by obtain ⟨q0, q1, q2, q3, q4, q5, q6, q7, q8, q9, q10, q11⟩ := hw'; go_simp⟩) hS ?_
                  refine wpAnyH_take (i := 1) (v := .agg #[.int .i64 1, .int .i64 ev, .slice none 0 0, .slice none 0 0, .slice none 0 0]) rfl (by kernel_rfl) (by kernel_rfl) (by kernel_rfl) (fun _ _ _ h => h) (Or.inl ⟨by kernel_rfl, fun w' hw' => by obtain ⟨q0, q1, q2, q3, q4, q5, q6, q7, q8, q9, q10, q11⟩ := hw'; go_simp⟩) hS ?_
                  refine wpAnyH_take (i := 2) (v := .slice (some ⟨sb, so, none⟩) seen.length sc) rfl (by kernel_rfl) (by kernel_rfl) (by kernel_rfl) (fun _ _ _ h => h) (Or.inl ⟨by kernel_rfl, fun w' hw' => by obtain ⟨q0, q1, q2, q3, q4, q5, q6, q7, q8, q9, q10, q11⟩ := hw'; go_simp⟩) hS ?_
                  refine wpAnyH_take (i := 3) (v := .slice (some ⟨g, 0, none⟩) l1.length qqc) rfl (by kernel_rfl) (by kernel_rfl) (by kernel_rfl) (fun _ _ _ h => h) (Or.inl ⟨by kernel_rfl, fun w' hw' => by obtain ⟨q0, q1, q2, q3, q4, q5, q6, q7, q8, q9, q10, q11⟩ := hw'; go_simp⟩) hS ?_
                  refine wpAnyH_take (i := 4) (v := .int .i64 k) rfl (by kernel_rfl) (by kernel_rfl) (by kernel_rfl) (fun _ _ _ h => h) (Or.inl ⟨by kernel_rfl, fun w' hw' => by obtain ⟨q0, q1, q2, q3, q4, q5, q6, q7, q8, q9, q10, q11⟩ := hw'; go_simp⟩) hS ?_
                  refine wpAnyH_take (i := 5) (v := .pointer (some ⟨g, k, none⟩)) rfl (by kernel_rfl) (by kernel_rfl) (by kernel_rfl) (fun _ _ _ h => h) (Or.inl ⟨by kernel_rfl, fun w' hw' => by obtain ⟨q0, q1, q2, q3, q4, q5, q6, q7, q8, q9, q10, q11⟩ := hw'; go_simp⟩) hS ?_
                  refine wpAnyH_take (i := 6) (v := .slice qa q.length qc) rfl (by kernel_rfl) (by kernel_rfl) (by kernel_rfl) (fun _ _ _ h => h) (Or.inl ⟨by kernel_rfl, fun w' hw' => by obtain ⟨q0, q1, q2, q3, q4, q5, q6, q7, q8, q9, q10, q11⟩ := hw'; go_simp⟩) hS ?_
                  refine wpAnyH_take (i := 7) (v := .slice (some ⟨sb, so, none⟩) seen.length sc) rfl (by kernel_rfl) (by kernel_rfl) (by kernel_rfl) (fun _ _ _ h => h) (Or.inl ⟨by kernel_rfl, fun w' hw' => by obtain ⟨q0, q1, q2, q3, q4, q5, q6, q7, q8, q9, q10, q11⟩ := hw'; go_simp⟩) hS ?_
                  refine wpAnyH_take (i := 8) (v := .int .i64 e) rfl (by kernel_rfl) (by kernel_rfl) (by kernel_rfl) (fun _ _ _ h => h) (Or.inl ⟨by kernel_rfl, fun w' hw' => by obtain ⟨q0, q1, q2, q3, q4, q5, q6, q7, q8, q9, q10, q11⟩ := hw'; go_simp⟩) hS ?_
                  refine wpAnyH_take (i := 9) (v := .pointer (some ⟨sb, so + e, none⟩)) rfl (by kernel_rfl) (by kernel_rfl) (by kernel_rfl) (fun _ _ _ h => h) (Or.inl ⟨by kernel_rfl, fun w' hw' => by obtain ⟨q0, q1, q2, q3, q4, q5, q6, q7, q8, q9, q10, q11⟩ := hw'; go_simp⟩) hS ?_
                  refine wpAnyH_take (i := 10) (v := .int .i64 y) rfl (by kernel_rfl) (by kernel_rfl) (by kernel_rfl) (fun _ _ _ h => h) (Or.inl ⟨by kernel_rfl, fun w' hw' => by obtain ⟨q0, q1, q2, q3, q4, q5, q6, q7, q8, q9, q10, q11⟩ := hw'; go_simp⟩) hS ?_
                  simp only [Act.put, List.setIfInBounds_toArray]
                  refine wpAnyH_ready (rs := [11]) (by kernel_rfl) (by simp) ?_
                  refine AllReadyH.cons rfl (fun K' hK' => ?_) AllReadyH.nil
                  clear hS
                  go_simp
                  obtain ⟨sa', sc', hsve, sat, -⟩ := Own.at HW.out.os
                  cases hsve
                  refine (rqstep_any ⟨st, (ev : Int), starts, ars, ends⟩ ⟨1, (ev : Int), [], [], []⟩ ⟨a1, c1, a2, c2, a3, c3⟩ ml0 (some ⟨sb, so, none⟩) sc seen w.heap.size qa qc q y Y (hma.out.below HW.out.bel (Nat.le_refl _)) (mat_one Y _) sat hslm.out mm.out ms.out zm.out zs.out HW.out.bel.size AQ.out (by omega)).mono ?_
                  rintro e' Y1 ⟨v, rfl, ov, hb⟩
                  obtain ⟨q2, HQ2⟩ : ∃ q2, Hid (q2 = seeQ ⟨st, (ev : Int), starts, ars, ends⟩ ⟨1, (ev : Int), [], [], []⟩ seen q y) := ⟨_, rfl⟩
                  have HQ2I : Hid (q2.Nodup ∧ ∀ y ∈ q2, y ∈ (allQ ⟨st, (ev : Int), starts, ars, ends⟩ ⟨1, (ev : Int), [], [], []⟩)) := by rw [HQ2.out]; exact seeQ_in mm.out ms.out zm.out zs.out
                  rw [← HQ2.out] at ov HTO1
                  have hq296 : q2.length ≤ 96 := HSM.out q2 HQ2I.out
                  obtain ⟨va, vc, hv⟩ := ov.form
                  subst hv
                  obtain ⟨va', vc', ev', aq, -⟩ := ov.at
                  cases ev'
                  have AQ2 := Hid.of aq
                  have hn := HW.out.bel.size
                  replace IU := Hid.of (IU.out.below hb hn)
                  replace HW := Hid.of (HW.out.below hb)
                  replace CQ := Hid.of ((hb.cell (p := ⟨g, k, none⟩) HG.out).trans CQ.out)
                  replace HG := Hid.of (Nat.lt_of_lt_of_le HG.out hb.size)
                  replace CO := Hid.of ((hb.cell (p := ⟨go, k, none⟩) HGO.out).trans CO.out)
                  replace HGO := Hid.of (Nat.lt_of_lt_of_le HGO.out hb.size)
                  refine hK'.out _ _ (SA.out _ HW.out.km HW.out.k1 HW.out.os CQ.out) (fun hS => ?_)
                  clear hK' K' hb ov aq SA AQ hn sat
                  refine wpAnyH_take (i := 12) (v := .slice va q2.length vc) rfl (by kernel_rfl) (by kernel_rfl) (by kernel_rfl) (fun _ _ _ h => h) (Or.inl ⟨by kernel_rfl, fun w' hw' => by obtain ⟨q0, q1, q2, q3, q4, q5, q6, q7, q8, q9, q10, q11⟩ := hw'; go_simp⟩) hS ?_
                  refine wpAnyH_done (by kernel_rfl) ?_ _
                  clear hS
                  have SA : Hid (∀ W, Blk W pl 25 (mcells ⟨st, (ev : Int), starts, LA, ends⟩ ⟨a1, c1, la, lc, a3, c3⟩) → Own W w.heap.size (.slice (some ⟨sb, so, none⟩) seen.length sc) seen → W.cell? ⟨go, k, none⟩ = some (.slice xa xo.length xk) → W.cell? ⟨pl, 0, none⟩ = some (.int .i64 st) ∧ W.cell? ⟨pl, 1, none⟩ = some (.int .i64 ev) ∧ W.cell? ⟨pl, 2, none⟩ = some (.slice a1 starts.length c1) ∧ W.cell? ⟨pl, 3, none⟩ = some (.slice la LA.length lc) ∧ W.cell? ⟨pl, 4, none⟩ = some (.slice a3 ends.length c3) ∧ W.cell? ⟨go, k, none⟩ = some (.slice xa xo.length xk) ∧ W.cell? ⟨sb, so + e, none⟩ = some (.int .i64 y)) := fun W h1 h4 h3 => by
                    obtain ⟨x0, x1, x2, x3, x4⟩ := mcell_at h1
                    exact ⟨x0, x1, x2, x3, x4, h3, os_cell h4 HY.out⟩
                  go_wp2_with fail
                  have bd : Below Y1.heap.size Y1 Y1.drew := (Below.refl _ _).drew
                  have hn := HW.out.bel.size
                  replace AQ2 := Hid.of (AQ2.out.below bd hn)
                  replace IU := Hid.of (IU.out.below bd hn)
                  replace HW := Hid.of (HW.out.below bd)
                  replace CO : Hid (Y1.drew.cell? ⟨go, k, none⟩ = some (.slice xa xo.length xk)) := CO.out
                  replace HGO : Hid (go < Y1.drew.heap.size) := HGO.out
                  refine wp_region_held_drew (S := fun w' => w'.cell? ⟨pl, 0, none⟩ = some (.int .i64 st) ∧ w'.cell? ⟨pl, 1, none⟩ = some (.int .i64 ev) ∧ w'.cell? ⟨pl, 2, none⟩ = some (.slice a1 starts.length c1) ∧ w'.cell? ⟨pl, 3, none⟩ = some (.slice la LA.length lc) ∧ w'.cell? ⟨pl, 4, none⟩ = some (.slice a3 ends.length c3) ∧ w'.cell? ⟨go, k, none⟩ = some (.slice xa xo.length xk) ∧ w'.cell? ⟨sb, so + e, none⟩ = some (.int .i64 y)) (by kernel_rfl) (SA.out _ HW.out.kl HW.out.os CO.out) (fun hS => ?_)
                  clear bd hn CQ HG
                  revert AQ2 IU HW CO HGO hS
                  generalize Y1.drew = Y
                  intro AQ2 IU HW CO HGO hS
                  refine wpAnyH_take (i := 0) (v := .agg #[.int .i64 st, .int .i64 ev, .slice a1 starts.length c1, .slice la LA.length lc, .slice a3 ends.length c3]) rfl (by kernel_rfl) (by kernel_rfl) (by kernel_rfl) (fun _ _ _ h => h) (Or.inl ⟨by kernel_rfl, fun w' hw' => by obtain ⟨q0, q1, q2, q3, q4, q5, q6⟩ := hw'; go_simp⟩) hS ?_
                  refine wpAnyH_take (i := 1) (v := .slice (some ⟨go, 0, none⟩) l1.length ooc) rfl (by kernel_rfl) (by kernel_rfl) (by kernel_rfl) (fun _ _ _ h => h) (Or.inl ⟨by kernel_rfl, fun w' hw' => by obtain ⟨q0, q1, q2, q3, q4, q5, q6⟩ := hw'; go_simp⟩) hS ?_
                  refine wpAnyH_take (i := 2) (v := .int .i64 k) rfl (by kernel_rfl) (by kernel_rfl) (by kernel_rfl) (fun _ _ _ h => h) (Or.inl ⟨by kernel_rfl, fun w' hw' => by obtain ⟨q0, q1, q2, q3, q4, q5, q6⟩ := hw'; go_simp⟩) hS ?_
                  refine wpAnyH_take (i := 3) (v := .pointer (some ⟨go, k, none⟩)) rfl (by kernel_rfl) (by kernel_rfl) (by kernel_rfl) (fun _ _ _ h => h) (Or.inl ⟨by kernel_rfl, fun w' hw' => by obtain ⟨q0, q1, q2, q3, q4, q5, q6⟩ := hw'; go_simp⟩) hS ?_
                  refine wpAnyH_take (i := 4) (v := .slice xa xo.length xk) rfl (by kernel_rfl) (by kernel_rfl) (by kernel_rfl) (fun _ _ _ h => h) (Or.inl ⟨by kernel_rfl, fun w' hw' => by obtain ⟨q0, q1, q2, q3, q4, q5, q6⟩ := hw'; go_simp⟩) hS ?_
                  refine wpAnyH_take (i := 5) (v := .slice (some ⟨sb, so, none⟩) seen.length sc) rfl (by kernel_rfl) (by kernel_rfl) (by kernel_rfl) (fun _ _ _ h => h) (Or.inl ⟨by kernel_rfl, fun w' hw' => by obtain ⟨q0, q1, q2, q3, q4, q5, q6⟩ := hw'; go_simp⟩) hS ?_
                  refine wpAnyH_take (i := 6) (v := .int .i64 e) rfl (by kernel_rfl) (by kernel_rfl) (by kernel_rfl) (fun _ _ _ h => h) (Or.inl ⟨by kernel_rfl, fun w' hw' => by obtain ⟨q0, q1, q2, q3, q4, q5, q6⟩ := hw'; go_simp⟩) hS ?_
                  refine wpAnyH_take (i := 7) (v := .pointer (some ⟨sb, so + e, none⟩)) rfl (by kernel_rfl) (by kernel_rfl) (by kernel_rfl) (fun _ _ _ h => h) (Or.inl ⟨by kernel_rfl, fun w' hw' => by obtain ⟨q0, q1, q2, q3, q4, q5, q6⟩ := hw'; go_simp⟩) hS ?_
                  refine wpAnyH_take (i := 8) (v := .int .i64 y) rfl (by kernel_rfl) (by kernel_rfl) (by kernel_rfl) (fun _ _ _ h => h) (Or.inl ⟨by kernel_rfl, fun w' hw' => by obtain ⟨q0, q1, q2, q3, q4, q5, q6⟩ := hw'; go_simp⟩) hS ?_
                  simp only [Act.put, List.setIfInBounds_toArray]
                  refine wpAnyH_ready (rs := [9]) (by kernel_rfl) (by simp) ?_
                  refine AllReadyH.cons rfl (fun K' hK' => ?_) AllReadyH.nil
                  clear hS
                  go_simp
                  obtain ⟨xa', xk', hxe, xat, xln, -⟩ := IU.out.at
                  cases hxe
                  obtain ⟨la', lc', hle', lat, -⟩ := HW.out.oa.at
                  cases hle'
                  refine (refStep_own ⟨st, (ev : Int), starts, LA, ends⟩ ⟨a1, c1, la, lc, a3, c3⟩ xa xk xo y Y lat HLL.out xat xln).mono ?_
                  rintro e' Y2 ⟨z, rfl, oz, hb⟩
                  obtain ⟨o2, HO2⟩ : ∃ o2, Hid (o2 = stepL LA xo y) := ⟨_, rfl⟩
                  replace oz : Own Y2 Y.heap.size z o2 := by rw [HO2.out]; exact oz
                  obtain ⟨na, nc, hz', hnl, hnm, -⟩ := own_form2 oz
                  subst hz'
                  have IN2 : Hid (InnW w.heap.size Y2 (.slice na o2.length nc) o2) := InnW.of_own oz
                  have hol : Hid (o2.length ≤ maxLen) := Nat.le_trans hnl hnm
                  have hn := HW.out.bel.size
                  replace AQ2 := Hid.of (AQ2.out.below hb hn)
                  replace IU := Hid.of (IU.out.below hb hn)
                  replace HW := Hid.of (HW.out.below hb)
                  replace CO := Hid.of ((hb.cell (p := ⟨go, k, none⟩) HGO.out).trans CO.out)
                  replace HGO := Hid.of (Nat.lt_of_lt_of_le HGO.out hb.size)
                  refine hK'.out _ _ (SA.out _ HW.out.kl HW.out.os CO.out) (fun hS => ?_)
                  clear hK' K' hb oz SA hn xat xln lat hnl hnm
                  refine wpAnyH_take (i := 10) (v := .slice na o2.length nc) rfl (by kernel_rfl) (by kernel_rfl) (by kernel_rfl) (fun _ _ _ h => h) (Or.inl ⟨by kernel_rfl, fun w' hw' => by obtain ⟨q0, q1, q2, q3, q4, q5, q6⟩ := hw'; go_simp⟩) hS ?_
                  refine wpAnyH_done (by kernel_rfl) ?_ _
                  clear hS IU CO HGO
                  obtain ⟨to, HT⟩ : ∃ to, Hid (to = canG (allQ ⟨st, (ev : Int), starts, ars, ends⟩ ⟨1, (ev : Int), [], [], []⟩) q2) := ⟨_, rfl⟩
                  have HTO : Hid (tD ⟨st, (ev : Int), starts, ars, ends⟩ high (xc, xo) e = (to, o2)) := by
                    show _ = _
                    unfold tD
                    dsimp only
                    rw [← HSH.out, HTO1.out, HY.out, Option.getD_some, HO2.out, HT.out, HLA.out]
                  have HST : Hid (bfStep (tD ⟨st, (ev : Int), starts, ars, ends⟩ high) ((xc, xo), xu) l1 e = if knownB l1 (to, o2) = true then l1 else l1 ++ [((to, o2), xu ++ [(e : Int)])]) := by
                    show _ = _
                    unfold bfStep
                    dsimp only
                    rw [HTO.out]
                  go_wp2_with fail
                  go_loopw [20, 21] (fun v20 i wr2 => ∃ (kn : Bool) (j : Nat), v20 = .bool kn ∧ i = .int .i64 j ∧ j ≤ l1.length ∧ Hid (TS w wr2 ⟨st, (ev : Int), starts, ars, ends⟩ ⟨a1, c1, a2, c2, a3, c3⟩ LA pl p1 la lc (.slice (some ⟨sb, so, none⟩) seen.length sc) seen (.slice (some ⟨g, 0, none⟩) l1.length qqc) (.slice (some ⟨go, 0, none⟩) l1.length ooc) (.slice wwa l1.length wwc) QL1 (olT l1) (wlT seen l1)) ∧ Hid (AtQ w.heap.size wr2 va q2) ∧ Hid (InnW w.heap.size wr2 (.slice na o2.length nc) o2) ∧ Hid (anyT l1 (to, o2) j = kn)) (fun _ i _ => l1.length - (intOf i).toNat)
                  case atStart => exact ⟨false, 0, rfl, rfl, Nat.zero_le _, HW, AQ2, IN2, rfl⟩
                  case round =>
                    clear HW AQ2 IN2
                    obtain ⟨kn, j, rfl, rfl, hj, HW, AQ2, IN2, HA⟩ := hrel
                    by_cases hjl : j < l1.length
                    · have hjD : decide ((j : Int) < (l1.length : Int)) = true := by simp; omega
                      cases kn with
                      | false =>
                        obtain ⟨⟨⟨jc0, jo⟩, ju⟩, HXJ⟩ : ∃ xj, Hid (l1[j]? = some xj) := ⟨_, List.getElem?_eq_getElem hjl⟩
                        obtain ⟨qj, hqj, hqji, hqjx⟩ := HR.out.at (qlT_at HXJ.out)
                        dsimp only at hqjx
                        obtain ⟨g', cap', ja, jc, hve, hg, cj, aj⟩ := HW.out.oq.get hqj
                        rw [HLN1.out] at hve
                        cases hve
                        obtain ⟨go', capo', oja, ojc, hvo, hgo, coj, ioj⟩ := HW.out.oo.get (olT_at HXJ.out)
                        dsimp only at coj ioj
                        rw [olT_len] at hvo
                        cases hvo
                        have hj96 : qj.length ≤ 96 := HSM.out qj hqji
                        have HSE1 : Hid (sameQ qj q2 = decide (jc0 = to)) := by
                          show _ = _
                          rw [same_can hqji HQ2I.out, hqjx, HT.out]
                        have KEY := Hid.of (rqsame_any w.heap.size ja va jc vc qj q2 wr (Hid.of aj) AQ2 (by omega) (by omega) HW.out.bel.size)
                        rw [HSE1.out] at KEY
                        have HA2 := Hid.of (anyT_succ HXJ.out HA.out)
                        have HG2 := Hid.of hgo
                        have COJ := Hid.of coj
                        have IOJ := Hid.of ioj
                        clear hqj hqji hqjx aj hg hgo coj ioj
                        go_wp2_with fail
                        refine KEY.out.mono ?_
                        rintro r W9 ⟨rfl, hb⟩
                        have hn := HW.out.bel.size
                        have AQ3 := Hid.of (AQ2.out.below hb hn)
                        have IN3 := Hid.of (IN2.out.below hb hn)
                        have IOJ3 := Hid.of (IOJ.out.below hb hn)
                        have HW3 := Hid.of (HW.out.below hb)
                        have coj3 := (hb.cell (p := ⟨go, j, none⟩) HG2.out).trans COJ.out
                        clear hb KEY cj HW AQ2 IN2 IOJ COJ HG2 hn
                        cases hc1 : decide (jc0 = to) with
                        | false =>
                          have HA3 : Hid (anyT l1 (to, o2) (j + 1) = false) := by
                            show _ = _
                            rw [HA2.out]
                            have := of_decide_eq_false hc1
                            exact decide_eq_false (fun e => this (congrArg Prod.fst e))
                          clear hc1
                          go_wp2_with fail
                          go_roundw
                          case rel => exact ⟨false, j + 1, rfl, by go_num, by omega, HW3, AQ3, IN3, HA3⟩
                          case measure => simp [intOf]; omega
                        | true =>
                          have HA3 : Hid (anyT l1 (to, o2) (j + 1) = sameB jo o2) := by
                            show _ = _
                            rw [HA2.out, ← pair_same jc0 to jo o2 (jc0, jo) rfl, hc1, Bool.true_and]
                          clear hc1
                          obtain ⟨bq, HBQ⟩ : ∃ bq, Hid (bq = sameB jo o2) := ⟨_, rfl⟩
                          obtain ⟨oja', ojc', hoe, ojat, ojl, -⟩ := IOJ3.out.at
                          cases hoe
                          obtain ⟨na', nc', hne', nat', nnl, -⟩ := IN3.out.at
                          cases hne'
                          have KEY2 := Hid.of (same_any oja na ojc nc jo o2 W9 ojat nat' ojl nnl)
                          rw [← HBQ.out] at KEY2 HA3
                          clear ojat nat' ojl nnl
                          go_wp2_with fail
                          refine KEY2.out.mono ?_
                          rintro r W10 ⟨rfl, qd, hqd⟩
                          have hb : Below W9.heap.size W9 W10 := by rw [hqd]; exact below_drewN (Below.refl _ _) qd
                          have hn := HW3.out.bel.size
                          have AQ4 := Hid.of (AQ3.out.below hb hn)
                          have IN4 := Hid.of (IN3.out.below hb hn)
                          have HW4 := Hid.of (HW3.out.below hb)
                          clear hb hqd KEY2 coj3 HW3 AQ3 IN3 IOJ3 hn
                          go_wp2_with fail
                          go_roundw
                          case rel => exact ⟨bq, j + 1, rfl, by go_num, by omega, HW4, AQ4, IN4, HA3⟩
                          case measure => simp [intOf]; omega
                      | true =>
                        have HNX : Hid (bfRow (tD ⟨st, (ev : Int), starts, ars, ends⟩ high) ((xc, xo), xu) l (e + 1) = l1) := by show _ = _; rw [HSuc.out, HST.out, if_pos (anyT_hit HA.out)]
                        go_wp2_with fail
                        go_roundw
                        case rel => exact ⟨e + 1, QL1, by go_num, by omega, by rw [HNX.out]; exact HW, by rw [HNX.out]; exact HR⟩
                        case measure => simp [intOf]; omega
                    · have hjD : decide ((j : Int) < (l1.length : Int)) = false := by simp; omega
                      have HKN : Hid (knownB l1 (to, o2) = kn) := by show _ = _; rw [← HA.out, anyT_all l1 (to, o2) (by omega)]
                      cases kn with
                      | true =>
                        have HNX : Hid (bfRow (tD ⟨st, (ev : Int), starts, ars, ends⟩ high) ((xc, xo), xu) l (e + 1) = l1) := by show _ = _; rw [HSuc.out, HST.out, if_pos HKN.out]
                        go_wp2_with fail
                        go_roundw
                        case rel => exact ⟨e + 1, QL1, by go_num, by omega, by rw [HNX.out]; exact HW, by rw [HNX.out]; exact HR⟩
                        case measure => simp [intOf]; omega
                      | false =>
                        have HNX : Hid (bfRow (tD ⟨st, (ev : Int), starts, ars, ends⟩ high) ((xc, xo), xu) l (e + 1) = l1 ++ [((to, o2), xu ++ [(e : Int)])]) := by show _ = _; rw [HSuc.out, HST.out, if_neg (by rw [HKN.out]; simp)]
                        have HWN : Hid (wordS seen (xu ++ [(e : Int)]) = wordS seen xu ++ [y]) := by show _ = _; rw [wordS_snoc, HY.out, Option.getD_some]
                        obtain ⟨gw, capw, za, zc, hvw, hgw, cz, iz⟩ := HW.out.ow.get (wlT_at HX1.out)
                        dsimp only at cz iz
                        rw [wlT_len] at hvw
                        cases hvw
                        obtain ⟨za', zc', hze, -, -, hzn⟩ := iz.at
                        cases hze
                        have IZ1 := Hid.of iz
                        have HZN := Hid.of hzn
                        have HGW := Hid.of hgw
                        have hWl := HWLN
                        clear iz hzn hgw
                        revert HWN IZ1 cz hWl
                        generalize wordS seen xu = word
                        intro HWN cz IZ1 hWl
                        go_wp2_with fail
                        have CZ1 := Hid.of cz
                        clear cz
                        have HTS := HW
                        clear HW
                        revert AQ2 IN2 HTS HGW IZ1 CZ1
                        generalize wr = wF
                        intro AQ2 IN2 HGW IZ1 CZ1 HW
                        have SA : Hid (∀ W, Below wF.heap.size wF W → W.cell? ⟨gw, k, none⟩ = some (.slice za word.length zc) ∧ W.cell? ⟨sb, so + e, none⟩ = some (.int .i64 y)) := fun W hb => ⟨(hb.cell (p := ⟨gw, k, none⟩) HGW.out).trans CZ1.out, os_cell (HW.out.below hb).os HY.out⟩
                        refine wp_region_held_drew (S := fun w' => w'.cell? ⟨gw, k, none⟩ = some (.slice za word.length zc) ∧ w'.cell? ⟨sb, so + e, none⟩ = some (.int .i64 y)) (by kernel_rfl) (SA.out _ (Below.refl _ _).drew) (fun hS => ?_)
                        have BF : Hid (Below wF.heap.size wF wF.drew) := (Below.refl _ _).drew
                        revert hS BF
                        generalize wF.drew = Y0
                        intro hS BF
                        refine wpAnyH_take (i := 1) (v := .slice (some ⟨gw, 0, none⟩) l1.length wwc) rfl (by kernel_rfl) (by kernel_rfl) (by kernel_rfl) (fun _ _ _ h => h) (Or.inl ⟨by kernel_rfl, fun w' hw' => by obtain ⟨q0, q1⟩ := hw'; go_simp⟩) hS ?_
                        refine wpAnyH_take (i := 2) (v := .int .i64 k) rfl (by kernel_rfl) (by kernel_rfl) (by kernel_rfl) (fun _ _ _ h => h) (Or.inl ⟨by kernel_rfl, fun w' hw' => by obtain ⟨q0, q1⟩ := hw'; go_simp⟩) hS ?_
                        refine wpAnyH_take (i := 3) (v := .pointer (some ⟨gw, k, none⟩)) rfl (by kernel_rfl) (by kernel_rfl) (by kernel_rfl) (fun _ _ _ h => h) (Or.inl ⟨by kernel_rfl, fun w' hw' => by obtain ⟨q0, q1⟩ := hw'; go_simp⟩) hS ?_
                        refine wpAnyH_take (i := 4) (v := .slice za word.length zc) rfl (by kernel_rfl) (by kernel_rfl) (by kernel_rfl) (fun _ _ _ h => h) (Or.inl ⟨by kernel_rfl, fun w' hw' => by obtain ⟨q0, q1⟩ := hw'; go_simp⟩) hS ?_
                        refine wpAnyH_take (i := 6) (v := .slice (some ⟨sb, so, none⟩) seen.length sc) rfl (by kernel_rfl) (by kernel_rfl) (by kernel_rfl) (fun _ _ _ h => h) (Or.inl ⟨by kernel_rfl, fun w' hw' => by obtain ⟨q0, q1⟩ := hw'; go_simp⟩) hS ?_
                        refine wpAnyH_take (i := 7) (v := .int .i64 e) rfl (by kernel_rfl) (by kernel_rfl) (by kernel_rfl) (fun _ _ _ h => h) (Or.inl ⟨by kernel_rfl, fun w' hw' => by obtain ⟨q0, q1⟩ := hw'; go_simp⟩) hS ?_
                        refine wpAnyH_take (i := 8) (v := .pointer (some ⟨sb, so + e, none⟩)) rfl (by kernel_rfl) (by kernel_rfl) (by kernel_rfl) (fun _ _ _ h => h) (Or.inl ⟨by kernel_rfl, fun w' hw' => by obtain ⟨q0, q1⟩ := hw'; go_simp⟩) hS ?_
                        refine wpAnyH_take (i := 9) (v := .int .i64 y) rfl (by kernel_rfl) (by kernel_rfl) (by kernel_rfl) (fun _ _ _ h => h) (Or.inl ⟨by kernel_rfl, fun w' hw' => by obtain ⟨q0, q1⟩ := hw'; go_simp⟩) hS ?_
                        simp only [Act.put, List.setIfInBounds_toArray]
                        refine wpAnyH_ready (rs := [0, 10]) (by kernel_rfl) (by simp) ?_
                        refine AllReadyH.cons rfl (fun K' hK' => ?_) (AllReadyH.cons rfl (fun K' hK' => ?_) AllReadyH.nil)
                        · clear hS
                          go_simp
                          have hb : Below Y0.heap.size Y0 (Y0.alloc (.cells #[] 3)) := (Below.refl _ _).alloc (Nat.le_refl _) _
                          have P52 : Hid (wF.heap.size ≤ Y0.heap.size) := BF.out.size
                          replace BF := Hid.of (BF.out.trans (hb.mono BF.out.size))
                          have K52 := Hid.of (Blk.new Y0 3 #[])
                          refine hK'.out _ _ (SA.out _ BF.out) (fun hS => ?_)
                          clear hK' K' hb
                          revert P52 BF K52 hS
                          generalize Y0.alloc (.cells #[] 3) = Y11
                          generalize Y0.heap.size = p52
                          intro P52 BF K52 hS
                          refine wpAnyH_ready (rs := [5, 10]) (by kernel_rfl) (by simp) ?_
                          refine AllReadyH.cons rfl (fun K' hK' => ?_) (AllReadyH.cons rfl (fun K' hK' => ?_) AllReadyH.nil)
                          · clear hS
                            have o0 : Own Y11 p52 (.slice (some ⟨p52, 0, none⟩) 0 0) [] := own_empty_blk K52.out
                            obtain ⟨za', zc', hze, hza, -, -⟩ := (IZ1.out.below BF.out HW.out.bel.size).at
                            cases hze
                            have hw64 := hWl.out
                            refine step_append_ints rfl (.tmp 139) (.tmp 143) 22 rfl p52 k0 Tryd.underlying22 ki kz0 kz1 kz2 _ [] rfl o0 za zc word rfl hza HZN.out (by simp only [List.length_nil]; omega) (Nat.le_of_lt K52.out.lt) ?_
                            intro v58 Y12 o1 gr
                            replace o1 : Own Y12 p52 v58 word := o1
                            have hb : Below wF.heap.size Y11 Y12 := (Below.refl _ _).grown gr BF.out.size (fun j hj => by cases hj; exact P52.out)
                            replace BF := Hid.of (BF.out.trans hb)
                            have S58 : Hid (p52 ≤ Y12.heap.size) := Nat.le_trans (Nat.le_of_lt K52.out.lt) gr.size
                            obtain ⟨ua, uc, hva, -, -, -⟩ := own_form2 o1
                            subst hva
                            have O58 := Hid.of o1
                            refine hK'.out _ _ (SA.out _ BF.out) (fun hS => ?_)
                            clear hK' K' hb o0 o1 gr hza hw64 K52
                            refine wpAnyH_ready (rs := [10]) (by kernel_rfl) (by simp) ?_
                            refine AllReadyH.cons rfl (fun K' hK' => ?_) AllReadyH.nil
                            clear hS
                            go_simp
                            have hb : Below Y12.heap.size Y12 (Y12.alloc (.cells #[.int .i64 y] 3)) := (Below.refl _ _).alloc (Nat.le_refl _) _
                            have P64 : Hid (wF.heap.size ≤ Y12.heap.size) := BF.out.size
                            replace BF := Hid.of (BF.out.trans (hb.mono BF.out.size))
                            replace O58 := Hid.of (own_same O58.out (fun j hj => hb.block j (World.ownsRow.lt O58.out j hj).2))
                            replace S58 := Hid.of (Nat.le_trans S58.out hb.size)
                            have K64 := Hid.of (Blk.new Y12 3 #[.int .i64 y])
                            refine hK'.out _ _ (SA.out _ BF.out) (fun hS => ?_)
                            clear hK' K' hb
                            revert P64 BF O58 S58 K64 hS
                            generalize Y12.alloc (.cells #[.int .i64 y] 3) = Y13
                            generalize Y12.heap.size = p64
                            intro P64 BF O58 S58 K64 hS
                            refine wpAnyH_ready (rs := [11]) (by kernel_rfl) (by simp) ?_
                            refine AllReadyH.cons rfl (fun K' hK' => ?_) AllReadyH.nil
                            clear hS
                            have hw64 := hWl.out
                            have hax : At Y13 (some ⟨p64, 0, none⟩) [y] := at_one_blk K64.out
                            refine step_append_ints rfl (.tmp 144) (.tmp 149) 22 rfl p52 k0 Tryd.underlying22 ki kz0 kz1 kz2 _ word rfl O58.out (some ⟨p64, 0, none⟩) 1 [y] rfl hax (fun h => by cases h) (by simp only [List.length_cons, List.length_nil]; omega) S58.out ?_
                            intro v65 Y14 o2 gr
                            have hb : Below wF.heap.size Y13 Y14 := (Below.refl _ _).grown gr BF.out.size (fun j hj => Nat.le_trans P52.out (World.ownsRow.lt O58.out j hj).1)
                            replace BF := Hid.of (BF.out.trans hb)
                            obtain ⟨va2, vc2, hv2, -, -, -⟩ := own_form2 o2
                            have hl2 : (word ++ [y]).length = word.length + 1 := by simp
                            rw [hl2] at hv2
                            subst hv2
                            have I2 : Hid (InnW w.heap.size Y14 (.slice va2 (word.length + 1) vc2) (word ++ [y])) := InnW.of_own o2
                            refine hK'.out _ _ (SA.out _ BF.out) (fun hS => ?_)
                            clear hK' K' hb o2 gr hl2 hw64 hax O58 K64 S58
                            refine wpAnyH_take (i := 12) (v := .slice va2 (word.length + 1) vc2) rfl (by kernel_rfl) (by kernel_rfl) (by kernel_rfl) (fun _ _ _ h => h) (Or.inl ⟨by kernel_rfl, fun w' hw' => by obtain ⟨q0, q1⟩ := hw'; go_simp⟩) hS ?_
                            refine wpAnyH_done (by kernel_rfl) ?_ _
                            clear hS
                            have HW2 := Hid.of (HW.out.below BF.out)
                            have AQ4 := Hid.of (AQ2.out.below BF.out HW.out.bel.size)
                            have IN4 := Hid.of (IN2.out.below BF.out HW.out.bel.size)
                            clear BF SA
                            have bV : Below Y14.heap.size Y14 (Y14.alloc (.cells #[.slice va q2.length vc] 60)) := (Below.refl _ _).alloc (Nat.le_refl _) _
                            have HW3 := Hid.of (HW2.out.below bV)
                            have AQ5 := Hid.of (AQ4.out.below bV HW2.out.bel.size)
                            have IN5 := Hid.of (IN4.out.below bV HW2.out.bel.size)
                            have I3 := Hid.of (I2.out.below bV HW2.out.bel.size)
                            obtain ⟨vs, ho, hin⟩ := HW3.out.oq
                            have HO := Hid.of ho
                            have HIN := Hid.of hin
                            rw [HLN1.out] at ho
                            have HO1 := Hid.of ho
                            clear ho hin bV
                            have hB3 := HW3.out.bel.size
                            go_wp2_with (at_builtin; refine wpList_append_block _ rfl (.tmp 151) (.tmp 153) 135 rfl w.heap.size 60 i0 (.slice none 0 0) 1 24 Tryd.underlying135 hi hz0 hz1 hz2 rfl (by decide) _ _ _ rfl HO1.out ⟨Y14.heap.size, 0, none⟩ 1 1 [.slice va q2.length vc] rfl rfl (cells_oneQ Y14 _ rfl _ _) (by intro u hu; rw [List.mem_singleton.1 hu]; rfl) (by decide) (by unfold maxLen; omega) (by omega) hB3 ?_)
                            intro v7 w7 o7 g7 n7
                            rw [← HLN1.out] at o7
                            have HW4 := Hid.of (TS.pushQ HW3.out HO.out HIN.out AQ5.out o7 g7)
                            have hk7 := kepT_grown (n := w.heap.size) HO.out g7 (Nat.le_refl _) HW3.out.bel.size
                            have IN6 := Hid.of (IN5.out.kep hk7 (by decide))
                            have I4 := Hid.of (I3.out.kep hk7 (by decide))
                            clear o7 g7 n7 HO HO1 HIN HW3 AQ5 I3 hB3 HW2 AQ4 I2 IN4 IN5 hk7
                            obtain ⟨fa7, fc7, hf7⟩ := HW4.out.oq.form
                            rw [List.length_append, HLN1.out, List.length_cons, List.length_nil, Nat.zero_add] at hf7
                            subst hf7
                            have bV : Below w7.heap.size w7 (w7.alloc (.cells #[.slice na o2.length nc] 22)) := (Below.refl _ _).alloc (Nat.le_refl _) _
                            have HW5 := Hid.of (HW4.out.below bV)
                            have IN7 := Hid.of (IN6.out.below bV HW4.out.bel.size)
                            have I5 := Hid.of (I4.out.below bV HW4.out.bel.size)
                            obtain ⟨vs2, ho2, hin2⟩ := HW5.out.oo
                            have HP2 := Hid.of ho2
                            have HIN2 := Hid.of hin2
                            rw [olT_len] at ho2
                            have HP3 := Hid.of ho2
                            clear ho2 hin2 bV
                            have hB5 := HW5.out.bel.size
                            go_wp2_with (at_builtin; refine wpList_append_block _ rfl (.tmp 155) (.tmp 157) 136 rfl w.heap.size 22 r0 (.slice none 0 0) 1 24 Tryd.underlying136 ri rz0 rz1 rz2 rfl (by decide) _ _ _ rfl HP3.out ⟨w7.heap.size, 0, none⟩ 1 1 [.slice na o2.length nc] rfl rfl (cells_oneQ w7 _ rfl _ _) (by intro u hu; rw [List.mem_singleton.1 hu]; rfl) (by decide) (by unfold maxLen; omega) (by omega) hB5 ?_)
                            intro v8 w8 o8 g8 n8
                            rw [← olT_len] at o8
                            have HW6 := Hid.of (TS.pushO HW5.out HP2.out HIN2.out IN7.out o8 g8 (by rw [World.size_alloc]; exact n8))
                            have hk8 := kepT_grown (n := w.heap.size) HP2.out g8 (Nat.le_refl _) HW5.out.bel.size
                            have I6 := Hid.of (I5.out.kep hk8 (by decide))
                            clear o8 g8 n8 HP2 HP3 HIN2 HW5 IN7 I5 hB5 HW4 I4 IN6 hk8
                            obtain ⟨fa8, fc8, hf8⟩ := HW6.out.oo.form
                            rw [List.length_append, olT_len, List.length_cons, List.length_nil, Nat.zero_add] at hf8
                            subst hf8
                            have bV : Below w8.heap.size w8 (w8.alloc (.cells #[.slice va2 (word.length + 1) vc2] 22)) := (Below.refl _ _).alloc (Nat.le_refl _) _
                            have HW7 := Hid.of (HW6.out.below bV)
                            have I7 := Hid.of (I6.out.below bV HW6.out.bel.size)
                            obtain ⟨vs3, ho3, hin3⟩ := HW7.out.ow
                            have HQ3 := Hid.of ho3
                            have HIN3 := Hid.of hin3
                            rw [wlT_len] at ho3
                            have HQ4 := Hid.of ho3
                            clear ho3 hin3 bV
                            have hB7 := HW7.out.bel.size
                            go_wp2_with (at_builtin; refine wpList_append_block _ rfl (.tmp 159) (.tmp 161) 136 rfl w.heap.size 22 r0 (.slice none 0 0) 1 24 Tryd.underlying136 ri rz0 rz1 rz2 rfl (by decide) _ _ _ rfl HQ4.out ⟨w8.heap.size, 0, none⟩ 1 1 [.slice va2 (word.length + 1) vc2] rfl rfl (cells_oneQ w8 _ rfl _ _) (by intro u hu; rw [List.mem_singleton.1 hu]; rfl) (by decide) (by unfold maxLen; omega) (by omega) hB7 ?_)
                            intro v9 w9 o9 g9 n9
                            rw [← wlT_len seen] at o9
                            have HW8 := Hid.of (TS.pushW HW7.out HQ3.out HIN3.out I7.out o9 g9 (by rw [World.size_alloc]; exact n9))
                            have HWE : Hid (wlT seen (l1 ++ [((to, o2), xu ++ [(e : Int)])]) = wlT seen l1 ++ [word ++ [y]]) := by show _ = _; rw [wlT_snoc, HWN.out]
                            have HOE : Hid (olT (l1 ++ [((to, o2), xu ++ [(e : Int)])]) = olT l1 ++ [o2]) := olT_snoc _ _
                            have HR6 : Hid (RepQ ⟨st, (ev : Int), starts, ars, ends⟩ ⟨1, (ev : Int), [], [], []⟩ (QL1 ++ [q2]) (qlT (l1 ++ [((to, o2), xu ++ [(e : Int)])]))) := by show RepQ _ _ _ _; rw [qlT_snoc]; exact HR.out.snoc HQ2I.out HT.out
                            clear o9 g9 n9 HQ3 HQ4 HIN3 HW7 I7 hB7 HW6 I6
                            go_wp2_with fail
                            go_roundw
                            case rel => exact ⟨e + 1, QL1 ++ [q2], by go_num, by omega, by rw [HNX.out, HWE.out, HOE.out]; exact HW8, by rw [HNX.out]; exact HR6⟩
                            case measure => simp [intOf]; omega
                          · clear hS
                            go_simp
                            have hb : Below Y11.heap.size Y11 (Y11.alloc (.cells #[.int .i64 y] 3)) := (Below.refl _ _).alloc (Nat.le_refl _) _
                            have P64 : Hid (wF.heap.size ≤ Y11.heap.size) := BF.out.size
                            have NE := Hid.of (Nat.ne_of_lt K52.out.lt)
                            replace BF := Hid.of (BF.out.trans (hb.mono BF.out.size))
                            replace K52 := Hid.of (K52.out.below hb K52.out.lt)
                            have K64 := Hid.of (Blk.new Y11 3 #[.int .i64 y])
                            refine hK'.out _ _ (SA.out _ BF.out) (fun hS => ?_)
                            clear hK' K' hb
                            revert P64 NE BF K52 K64 hS
                            generalize Y11.alloc (.cells #[.int .i64 y] 3) = Y15
                            generalize Y11.heap.size = p64
                            intro P64 NE BF K52 K64 hS
                            refine wpAnyH_ready (rs := [5]) (by kernel_rfl) (by simp) ?_
                            refine AllReadyH.cons rfl (fun K' hK' => ?_) AllReadyH.nil
                            clear hS
                            have o0 : Own Y15 p52 (.slice (some ⟨p52, 0, none⟩) 0 0) [] := own_empty_blk K52.out
                            obtain ⟨za', zc', hze, hza, -, -⟩ := (IZ1.out.below BF.out HW.out.bel.size).at
                            cases hze
                            have hw64 := hWl.out
                            refine step_append_ints rfl (.tmp 139) (.tmp 143) 22 rfl p52 k0 Tryd.underlying22 ki kz0 kz1 kz2 _ [] rfl o0 za zc word rfl hza HZN.out (by simp only [List.length_nil]; omega) (Nat.le_of_lt K52.out.lt) ?_
                            intro v58 Y16 o1 gr
                            replace o1 : Own Y16 p52 v58 word := o1
                            have hb : Below wF.heap.size Y15 Y16 := (Below.refl _ _).grown gr BF.out.size (fun j hj => by cases hj; exact P52.out)
                            replace BF := Hid.of (BF.out.trans hb)
                            replace K64 : Hid (Blk Y16 p64 3 #[.int .i64 y]) := (gr.block p64 K64.out.lt (fun e => by cases e; exact NE.out rfl)).trans K64.out
                            have S58 : Hid (p52 ≤ Y16.heap.size) := Nat.le_trans (Nat.le_of_lt K52.out.lt) gr.size
                            obtain ⟨ua, uc, hva, -, -, -⟩ := own_form2 o1
                            subst hva
                            have O58 := Hid.of o1
                            refine hK'.out _ _ (SA.out _ BF.out) (fun hS => ?_)
                            clear hK' K' hb o0 o1 gr hza hw64 K52
                            refine wpAnyH_ready (rs := [11]) (by kernel_rfl) (by simp) ?_
                            refine AllReadyH.cons rfl (fun K' hK' => ?_) AllReadyH.nil
                            clear hS
                            have hw64 := hWl.out
                            have hax : At Y16 (some ⟨p64, 0, none⟩) [y] := at_one_blk K64.out
                            refine step_append_ints rfl (.tmp 144) (.tmp 149) 22 rfl p52 k0 Tryd.underlying22 ki kz0 kz1 kz2 _ word rfl O58.out (some ⟨p64, 0, none⟩) 1 [y] rfl hax (fun h => by cases h) (by simp only [List.length_cons, List.length_nil]; omega) S58.out ?_
                            intro v65 Y17 o2 gr
                            have hb : Below wF.heap.size Y16 Y17 := (Below.refl _ _).grown gr BF.out.size (fun j hj => Nat.le_trans P52.out (World.ownsRow.lt O58.out j hj).1)
                            replace BF := Hid.of (BF.out.trans hb)
                            obtain ⟨va2, vc2, hv2, -, -, -⟩ := own_form2 o2
                            have hl2 : (word ++ [y]).length = word.length + 1 := by simp
                            rw [hl2] at hv2
                            subst hv2
                            have I2 : Hid (InnW w.heap.size Y17 (.slice va2 (word.length + 1) vc2) (word ++ [y])) := InnW.of_own o2
                            refine hK'.out _ _ (SA.out _ BF.out) (fun hS => ?_)
                            clear hK' K' hb o2 gr hl2 hw64 hax O58 K64 S58
                            refine wpAnyH_take (i := 12) (v := .slice va2 (word.length + 1) vc2) rfl (by kernel_rfl) (by kernel_rfl) (by kernel_rfl) (fun _ _ _ h => h) (Or.inl ⟨by kernel_rfl, fun w' hw' => by obtain ⟨q0, q1⟩ := hw'; go_simp⟩) hS ?_
                            refine wpAnyH_done (by kernel_rfl) ?_ _
                            clear hS
                            have HW2 := Hid.of (HW.out.below BF.out)
                            have AQ4 := Hid.of (AQ2.out.below BF.out HW.out.bel.size)
                            have IN4 := Hid.of (IN2.out.below BF.out HW.out.bel.size)
                            clear BF SA
                            have bV : Below Y17.heap.size Y17 (Y17.alloc (.cells #[.slice va q2.length vc] 60)) := (Below.refl _ _).alloc (Nat.le_refl _) _
                            have HW3 := Hid.of (HW2.out.below bV)
                            have AQ5 := Hid.of (AQ4.out.below bV HW2.out.bel.size)
                            have IN5 := Hid.of (IN4.out.below bV HW2.out.bel.size)
                            have I3 := Hid.of (I2.out.below bV HW2.out.bel.size)
                            obtain ⟨vs, ho, hin⟩ := HW3.out.oq
                            have HO := Hid.of ho
                            have HIN := Hid.of hin
                            rw [HLN1.out] at ho
                            have HO1 := Hid.of ho
                            clear ho hin bV
                            have hB3 := HW3.out.bel.size
                            go_wp2_with (at_builtin; refine wpList_append_block _ rfl (.tmp 151) (.tmp 153) 135 rfl w.heap.size 60 i0 (.slice none 0 0) 1 24 Tryd.underlying135 hi hz0 hz1 hz2 rfl (by decide) _ _ _ rfl HO1.out ⟨Y17.heap.size, 0, none⟩ 1 1 [.slice va q2.length vc] rfl rfl (cells_oneQ Y17 _ rfl _ _) (by intro u hu; rw [List.mem_singleton.1 hu]; rfl) (by decide) (by unfold maxLen; omega) (by omega) hB3 ?_)
                            intro v7 w7 o7 g7 n7
                            rw [← HLN1.out] at o7
                            have HW4 := Hid.of (TS.pushQ HW3.out HO.out HIN.out AQ5.out o7 g7)
                            have hk7 := kepT_grown (n := w.heap.size) HO.out g7 (Nat.le_refl _) HW3.out.bel.size
                            have IN6 := Hid.of (IN5.out.kep hk7 (by decide))
                            have I4 := Hid.of (I3.out.kep hk7 (by decide))
                            clear o7 g7 n7 HO HO1 HIN HW3 AQ5 I3 hB3 HW2 AQ4 I2 IN4 IN5 hk7
                            obtain ⟨fa7, fc7, hf7⟩ := HW4.out.oq.form
                            rw [List.length_append, HLN1.out, List.length_cons, List.length_nil, Nat.zero_add] at hf7
                            subst hf7
                            have bV : Below w7.heap.size w7 (w7.alloc (.cells #[.slice na o2.length nc] 22)) := (Below.refl _ _).alloc (Nat.le_refl _) _
                            have HW5 := Hid.of (HW4.out.below bV)
                            have IN7 := Hid.of (IN6.out.below bV HW4.out.bel.size)
                            have I5 := Hid.of (I4.out.below bV HW4.out.bel.size)
                            obtain ⟨vs2, ho2, hin2⟩ := HW5.out.oo
                            have HP2 := Hid.of ho2
                            have HIN2 := Hid.of hin2
                            rw [olT_len] at ho2
                            have HP3 := Hid.of ho2
                            clear ho2 hin2 bV
                            have hB5 := HW5.out.bel.size
                            go_wp2_with (at_builtin; refine wpList_append_block _ rfl (.tmp 155) (.tmp 157) 136 rfl w.heap.size 22 r0 (.slice none 0 0) 1 24 Tryd.underlying136 ri rz0 rz1 rz2 rfl (by decide) _ _ _ rfl HP3.out ⟨w7.heap.size, 0, none⟩ 1 1 [.slice na o2.length nc] rfl rfl (cells_oneQ w7 _ rfl _ _) (by intro u hu; rw [List.mem_singleton.1 hu]; rfl) (by decide) (by unfold maxLen; omega) (by omega) hB5 ?_)
                            intro v8 w8 o8 g8 n8
                            rw [← olT_len] at o8
                            have HW6 := Hid.of (TS.pushO HW5.out HP2.out HIN2.out IN7.out o8 g8 (by rw [World.size_alloc]; exact n8))
                            have hk8 := kepT_grown (n := w.heap.size) HP2.out g8 (Nat.le_refl _) HW5.out.bel.size
                            have I6 := Hid.of (I5.out.kep hk8 (by decide))
                            clear o8 g8 n8 HP2 HP3 HIN2 HW5 IN7 I5 hB5 HW4 I4 IN6 hk8
                            obtain ⟨fa8, fc8, hf8⟩ := HW6.out.oo.form
                            rw [List.length_append, olT_len, List.length_cons, List.length_nil, Nat.zero_add] at hf8
                            subst hf8
                            have bV : Below w8.heap.size w8 (w8.alloc (.cells #[.slice va2 (word.length + 1) vc2] 22)) := (Below.refl _ _).alloc (Nat.le_refl _) _
                            have HW7 := Hid.of (HW6.out.below bV)
                            have I7 := Hid.of (I6.out.below bV HW6.out.bel.size)
                            obtain ⟨vs3, ho3, hin3⟩ := HW7.out.ow
                            have HQ3 := Hid.of ho3
                            have HIN3 := Hid.of hin3
                            rw [wlT_len] at ho3
                            have HQ4 := Hid.of ho3
                            clear ho3 hin3 bV
                            have hB7 := HW7.out.bel.size
                            go_wp2_with (at_builtin; refine wpList_append_block _ rfl (.tmp 159) (.tmp 161) 136 rfl w.heap.size 22 r0 (.slice none 0 0) 1 24 Tryd.underlying136 ri rz0 rz1 rz2 rfl (by decide) _ _ _ rfl HQ4.out ⟨w8.heap.size, 0, none⟩ 1 1 [.slice va2 (word.length + 1) vc2] rfl rfl (cells_oneQ w8 _ rfl _ _) (by intro u hu; rw [List.mem_singleton.1 hu]; rfl) (by decide) (by unfold maxLen; omega) (by omega) hB7 ?_)
                            intro v9 w9 o9 g9 n9
                            rw [← wlT_len seen] at o9
                            have HW8 := Hid.of (TS.pushW HW7.out HQ3.out HIN3.out I7.out o9 g9 (by rw [World.size_alloc]; exact n9))
                            have HWE : Hid (wlT seen (l1 ++ [((to, o2), xu ++ [(e : Int)])]) = wlT seen l1 ++ [word ++ [y]]) := by show _ = _; rw [wlT_snoc, HWN.out]
                            have HOE : Hid (olT (l1 ++ [((to, o2), xu ++ [(e : Int)])]) = olT l1 ++ [o2]) := olT_snoc _ _
                            have HR6 : Hid (RepQ ⟨st, (ev : Int), starts, ars, ends⟩ ⟨1, (ev : Int), [], [], []⟩ (QL1 ++ [q2]) (qlT (l1 ++ [((to, o2), xu ++ [(e : Int)])]))) := by show RepQ _ _ _ _; rw [qlT_snoc]; exact HR.out.snoc HQ2I.out HT.out
                            clear o9 g9 n9 HQ3 HQ4 HIN3 HW7 I7 hB7 HW6 I6
                            go_wp2_with fail
                            go_roundw
                            case rel => exact ⟨e + 1, QL1 ++ [q2], by go_num, by omega, by rw [HNX.out, HWE.out, HOE.out]; exact HW8, by rw [HNX.out]; exact HR6⟩
                            case measure => simp [intOf]; omega
                        · clear hS
                          go_simp
                          have hb : Below Y0.heap.size Y0 (Y0.alloc (.cells #[.int .i64 y] 3)) := (Below.refl _ _).alloc (Nat.le_refl _) _
                          have P64 : Hid (wF.heap.size ≤ Y0.heap.size) := BF.out.size
                          replace BF := Hid.of (BF.out.trans (hb.mono BF.out.size))
                          have K64 := Hid.of (Blk.new Y0 3 #[.int .i64 y])
                          refine hK'.out _ _ (SA.out _ BF.out) (fun hS => ?_)
                          clear hK' K' hb
                          revert P64 BF K64 hS
                          generalize Y0.alloc (.cells #[.int .i64 y] 3) = Y18
                          generalize Y0.heap.size = p64
                          intro P64 BF K64 hS
                          refine wpAnyH_ready (rs := [0]) (by kernel_rfl) (by simp) ?_
                          refine AllReadyH.cons rfl (fun K' hK' => ?_) AllReadyH.nil
                          clear hS
                          go_simp
                          have hb : Below Y18.heap.size Y18 (Y18.alloc (.cells #[] 3)) := (Below.refl _ _).alloc (Nat.le_refl _) _
                          have P52 : Hid (wF.heap.size ≤ Y18.heap.size) := BF.out.size
                          have NE := Hid.of (Nat.ne_of_gt K64.out.lt)
                          replace BF := Hid.of (BF.out.trans (hb.mono BF.out.size))
                          replace K64 := Hid.of (K64.out.below hb K64.out.lt)
                          have K52 := Hid.of (Blk.new Y18 3 #[])
                          refine hK'.out _ _ (SA.out _ BF.out) (fun hS => ?_)
                          clear hK' K' hb
                          revert P52 NE BF K64 K52 hS
                          generalize Y18.alloc (.cells #[] 3) = Y19
                          generalize Y18.heap.size = p52
                          intro P52 NE BF K64 K52 hS
                          refine wpAnyH_ready (rs := [5]) (by kernel_rfl) (by simp) ?_
                          refine AllReadyH.cons rfl (fun K' hK' => ?_) AllReadyH.nil
                          clear hS
                          have o0 : Own Y19 p52 (.slice (some ⟨p52, 0, none⟩) 0 0) [] := own_empty_blk K52.out
                          obtain ⟨za', zc', hze, hza, -, -⟩ := (IZ1.out.below BF.out HW.out.bel.size).at
                          cases hze
                          have hw64 := hWl.out
                          refine step_append_ints rfl (.tmp 139) (.tmp 143) 22 rfl p52 k0 Tryd.underlying22 ki kz0 kz1 kz2 _ [] rfl o0 za zc word rfl hza HZN.out (by simp only [List.length_nil]; omega) (Nat.le_of_lt K52.out.lt) ?_
                          intro v58 Y20 o1 gr
                          replace o1 : Own Y20 p52 v58 word := o1
                          have hb : Below wF.heap.size Y19 Y20 := (Below.refl _ _).grown gr BF.out.size (fun j hj => by cases hj; exact P52.out)
                          replace BF := Hid.of (BF.out.trans hb)
                          replace K64 : Hid (Blk Y20 p64 3 #[.int .i64 y]) := (gr.block p64 K64.out.lt (fun e => by cases e; exact NE.out rfl)).trans K64.out
                          have S58 : Hid (p52 ≤ Y20.heap.size) := Nat.le_trans (Nat.le_of_lt K52.out.lt) gr.size
                          obtain ⟨ua, uc, hva, -, -, -⟩ := own_form2 o1
                          subst hva
                          have O58 := Hid.of o1
                          refine hK'.out _ _ (SA.out _ BF.out) (fun hS => ?_)
                          clear hK' K' hb o0 o1 gr hza hw64 K52
                          refine wpAnyH_ready (rs := [11]) (by kernel_rfl) (by simp) ?_
                          refine AllReadyH.cons rfl (fun K' hK' => ?_) AllReadyH.nil
                          clear hS
                          have hw64 := hWl.out
                          have hax : At Y20 (some ⟨p64, 0, none⟩) [y] := at_one_blk K64.out
                          refine step_append_ints rfl (.tmp 144) (.tmp 149) 22 rfl p52 k0 Tryd.underlying22 ki kz0 kz1 kz2 _ word rfl O58.out (some ⟨p64, 0, none⟩) 1 [y] rfl hax (fun h => by cases h) (by simp only [List.length_cons, List.length_nil]; omega) S58.out ?_
                          intro v65 Y21 o2 gr
                          have hb : Below wF.heap.size Y20 Y21 := (Below.refl _ _).grown gr BF.out.size (fun j hj => Nat.le_trans P52.out (World.ownsRow.lt O58.out j hj).1)
                          replace BF := Hid.of (BF.out.trans hb)
                          obtain ⟨va2, vc2, hv2, -, -, -⟩ := own_form2 o2
                          have hl2 : (word ++ [y]).length = word.length + 1 := by simp
                          rw [hl2] at hv2
                          subst hv2
                          have I2 : Hid (InnW w.heap.size Y21 (.slice va2 (word.length + 1) vc2) (word ++ [y])) := InnW.of_own o2
                          refine hK'.out _ _ (SA.out _ BF.out) (fun hS => ?_)
                          clear hK' K' hb o2 gr hl2 hw64 hax O58 K64 S58
                          refine wpAnyH_take (i := 12) (v := .slice va2 (word.length + 1) vc2) rfl (by kernel_rfl) (by kernel_rfl) (by kernel_rfl) (fun _ _ _ h => h) (Or.inl ⟨by kernel_rfl, fun w' hw' => by obtain ⟨q0, q1⟩ := hw'; go_simp⟩) hS ?_
                          refine wpAnyH_done (by kernel_rfl) ?_ _
                          clear hS
                          have HW2 := Hid.of (HW.out.below BF.out)
                          have AQ4 := Hid.of (AQ2.out.below BF.out HW.out.bel.size)
                          have IN4 := Hid.of (IN2.out.below BF.out HW.out.bel.size)
                          clear BF SA
                          have bV : Below Y21.heap.size Y21 (Y21.alloc (.cells #[.slice va q2.length vc] 60)) := (Below.refl _ _).alloc (Nat.le_refl _) _
                          have HW3 := Hid.of (HW2.out.below bV)
                          have AQ5 := Hid.of (AQ4.out.below bV HW2.out.bel.size)
                          have IN5 := Hid.of (IN4.out.below bV HW2.out.bel.size)
                          have I3 := Hid.of (I2.out.below bV HW2.out.bel.size)
                          obtain ⟨vs, ho, hin⟩ := HW3.out.oq
                          have HO := Hid.of ho
                          have HIN := Hid.of hin
                          rw [HLN1.out] at ho
                          have HO1 := Hid.of ho
                          clear ho hin bV
                          have hB3 := HW3.out.bel.size
                          go_wp2_with (at_builtin; refine wpList_append_block _ rfl (.tmp 151) (.tmp 153) 135 rfl w.heap.size 60 i0 (.slice none 0 0) 1 24 Tryd.underlying135 hi hz0 hz1 hz2 rfl (by decide) _ _ _ rfl HO1.out ⟨Y21.heap.size, 0, none⟩ 1 1 [.slice va q2.length vc] rfl rfl (cells_oneQ Y21 _ rfl _ _) (by intro u hu; rw [List.mem_singleton.1 hu]; rfl) (by decide) (by unfold maxLen; omega) (by omega) hB3 ?_)
                          intro v7 w7 o7 g7 n7
                          rw [← HLN1.out] at o7
                          have HW4 := Hid.of (TS.pushQ HW3.out HO.out HIN.out AQ5.out o7 g7)
                          have hk7 := kepT_grown (n := w.heap.size) HO.out g7 (Nat.le_refl _) HW3.out.bel.size
                          have IN6 := Hid.of (IN5.out.kep hk7 (by decide))
                          have I4 := Hid.of (I3.out.kep hk7 (by decide))
                          clear o7 g7 n7 HO HO1 HIN HW3 AQ5 I3 hB3 HW2 AQ4 I2 IN4 IN5 hk7
                          obtain ⟨fa7, fc7, hf7⟩ := HW4.out.oq.form
                          rw [List.length_append, HLN1.out, List.length_cons, List.length_nil, Nat.zero_add] at hf7
                          subst hf7
                          have bV : Below w7.heap.size w7 (w7.alloc (.cells #[.slice na o2.length nc] 22)) := (Below.refl _ _).alloc (Nat.le_refl _) _
                          have HW5 := Hid.of (HW4.out.below bV)
                          have IN7 := Hid.of (IN6.out.below bV HW4.out.bel.size)
                          have I5 := Hid.of (I4.out.below bV HW4.out.bel.size)
                          obtain ⟨vs2, ho2, hin2⟩ := HW5.out.oo
                          have HP2 := Hid.of ho2
                          have HIN2 := Hid.of hin2
                          rw [olT_len] at ho2
                          have HP3 := Hid.of ho2
                          clear ho2 hin2 bV
                          have hB5 := HW5.out.bel.size
                          go_wp2_with (at_builtin; refine wpList_append_block _ rfl (.tmp 155) (.tmp 157) 136 rfl w.heap.size 22 r0 (.slice none 0 0) 1 24 Tryd.underlying136 ri rz0 rz1 rz2 rfl (by decide) _ _ _ rfl HP3.out ⟨w7.heap.size, 0, none⟩ 1 1 [.slice na o2.length nc] rfl rfl (cells_oneQ w7 _ rfl _ _) (by intro u hu; rw [List.mem_singleton.1 hu]; rfl) (by decide) (by unfold maxLen; omega) (by omega) hB5 ?_)
                          intro v8 w8 o8 g8 n8
                          rw [← olT_len] at o8
                          have HW6 := Hid.of (TS.pushO HW5.out HP2.out HIN2.out IN7.out o8 g8 (by rw [World.size_alloc]; exact n8))
                          have hk8 := kepT_grown (n := w.heap.size) HP2.out g8 (Nat.le_refl _) HW5.out.bel.size
                          have I6 := Hid.of (I5.out.kep hk8 (by decide))
                          clear o8 g8 n8 HP2 HP3 HIN2 HW5 IN7 I5 hB5 HW4 I4 IN6 hk8
                          obtain ⟨fa8, fc8, hf8⟩ := HW6.out.oo.form
                          rw [List.length_append, olT_len, List.length_cons, List.length_nil, Nat.zero_add] at hf8
                          subst hf8
                          have bV : Below w8.heap.size w8 (w8.alloc (.cells #[.slice va2 (word.length + 1) vc2] 22)) := (Below.refl _ _).alloc (Nat.le_refl _) _
                          have HW7 := Hid.of (HW6.out.below bV)
                          have I7 := Hid.of (I6.out.below bV HW6.out.bel.size)
                          obtain ⟨vs3, ho3, hin3⟩ := HW7.out.ow
                          have HQ3 := Hid.of ho3
                          have HIN3 := Hid.of hin3
                          rw [wlT_len] at ho3
                          have HQ4 := Hid.of ho3
                          clear ho3 hin3 bV
                          have hB7 := HW7.out.bel.size
                          go_wp2_with (at_builtin; refine wpList_append_block _ rfl (.tmp 159) (.tmp 161) 136 rfl w.heap.size 22 r0 (.slice none 0 0) 1 24 Tryd.underlying136 ri rz0 rz1 rz2 rfl (by decide) _ _ _ rfl HQ4.out ⟨w8.heap.size, 0, none⟩ 1 1 [.slice va2 (word.length + 1) vc2] rfl rfl (cells_oneQ w8 _ rfl _ _) (by intro u hu; rw [List.mem_singleton.1 hu]; rfl) (by decide) (by unfold maxLen; omega) (by omega) hB7 ?_)
                          intro v9 w9 o9 g9 n9
                          rw [← wlT_len seen] at o9
                          have HW8 := Hid.of (TS.pushW HW7.out HQ3.out HIN3.out I7.out o9 g9 (by rw [World.size_alloc]; exact n9))
                          have HWE : Hid (wlT seen (l1 ++ [((to, o2), xu ++ [(e : Int)])]) = wlT seen l1 ++ [word ++ [y]]) := by show _ = _; rw [wlT_snoc, HWN.out]
                          have HOE : Hid (olT (l1 ++ [((to, o2), xu ++ [(e : Int)])]) = olT l1 ++ [o2]) := olT_snoc _ _
                          have HR6 : Hid (RepQ ⟨st, (ev : Int), starts, ars, ends⟩ ⟨1, (ev : Int), [], [], []⟩ (QL1 ++ [q2]) (qlT (l1 ++ [((to, o2), xu ++ [(e : Int)])]))) := by show RepQ _ _ _ _; rw [qlT_snoc]; exact HR.out.snoc HQ2I.out HT.out
                          clear o9 g9 n9 HQ3 HQ4 HIN3 HW7 I7 hB7 HW6 I6
                          go_wp2_with fail
                          go_roundw
                          case rel => exact ⟨e + 1, QL1 ++ [q2], by go_num, by omega, by rw [HNX.out, HWE.out, HOE.out]; exact HW8, by rw [HNX.out]; exact HR6⟩
                          case measure => simp [intOf]; omega
                · have hleD : decide ((e : Int) < (seen.length : Int)) = false := by simp; omega
                  have he2 : e = seen.length := by omega
                  have HLN2 : Hid (LTq ⟨st, (ev : Int), starts, ars, ends⟩ high (k + 1) l1) := by
                    have := HL.out.next HX.out HNO.out (by omega)
                    rw [← HSH.out] at this
                    rw [HS1.out, he2]; exact this
                  clear he2
                  go_wp2_with fail
                  go_roundw
                  case rel => exact ⟨k + 1, l1, QL1, by go_num, by omega, hl1, HW, HR, HLN2⟩
                  case measure => simp [intOf]; omega
        · have hltD : decide ((k : Int) < (l.length : Int)) = false := by simp; omega
          have HO : Hid (outT ⟨st, (ev : Int), starts, ars, ends⟩ high = none) := HL.out.not (by omega)
          go_wp2_with fail
          refine bodyPost_ret (v := .tuple #[.bool false, .slice none 0 0]) (by simp [results, go_sem]) rfl ?_
          rw [HO.out]
          exact ⟨none, 0, rfl, .inl rfl, Nat.zero_le _, HW.out.bel⟩

theorem rqtold_any (m : Mach) (l : ML) (ha : Option Addr) (hc : Nat) (high : List Int) (w : World) (hma : MAt w m l) (hh : At w ha high) (hhl : high.length ≤ maxLen) (mm : mayB m = true) (zm : m.st ≤ 6) :
    Calls Tryd.prog 48 #[mval m l, .slice ha high.length hc] w fun e w' => TolPost w (outT m high) e w' := by
  have hz := mayB_size mm
  unfold sizeOk at hz
  obtain ⟨st, ev, starts, ars, ends⟩ := m
  obtain ⟨a1, c1, a2, c2, a3, c3⟩ := l
  dsimp only at hz
  obtain ⟨ev', rfl⟩ : ∃ n : Nat, ev = (n : Int) := ⟨ev.toNat, by omega⟩
  exact rqtold_go st ev' starts ars ends a1 c1 a2 c2 a3 c3 ha hc high w (Hid.of hma) (Hid.of hh) (Hid.of hhl) (Hid.of mm) (Hid.of zm)

end Go.Proofs.YtgebfkmfhpcdhaaDoor
