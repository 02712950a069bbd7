/-
  The walk of jalousieref16.Parse: a name in a row of events.
-/
import Derived.Deep.RegionHeld3
import Derived.Test.YtbgiliophmofgaaDR16CB
namespace Go.Proofs.Ytbgiliophmofgaa
open Go.RowKit
set_option linter.unusedVariables false

set_option maxRecDepth 1000000 in
set_option maxHeartbeats 16000000 in
theorem cs_seen (s : Str) (w : World) (tl : List Tok) (gl lc pb : Nat) (ol : List Int) (go oc : Nat) (c u : Nat → Value) (K : Act → World → Prop) (wr : World)
    (i : Nat) (vs ve va tv : Value) (rv : Nat → Value) (q : Ps) (t : Tok) (kn : Nat)
    (hTl : tl.length ≤ 4000) (HRE : Hid (ol.length = tl.length)) (HPR : Hid (parseL s = match psGo ps0 (ol.zip tl) with | .error e => (proj0, e) | .ok q => (psEnd q, 0, 0)))
    (hil : i ≤ tl.length) (htv : tv = rv 9) (hq1 : q.states.length ≤ 6) (hq2 : q.events.length ≤ 8) (hq3 : q.three.length ≤ 2) (hq4 : q.arrows.length ≤ i)
    (HR5 : Hid (∀ j, (q.rows j).length ≤ i)) (HRT : Hid (rv 10 = .slice (some ⟨go, 0, none⟩) ol.length oc)) (PP : Hid (PK w wr (.slice (some ⟨gl, 0, none⟩) tl.length lc) tl pb (pb + 1) vs ve va rv q.states q.events (lsP q ol) q.arrows)) (HG : Hid (psGo ps0 (ol.zip tl) = psGo q ((ol.zip tl).drop i)))
    (hlt : i < tl.length) (HTI : Hid (tl[i]? = some t)) (hlo : i < ol.length) (HKI : Hid (ol[i]? = some (kn : Int))) (HX : Hid ((ol.zip tl)[i]? = some ((kn : Int), t)))
    (c1 : wr.cell? ⟨gl, i * 3 + 1, none⟩ = some (strV t.text)) (c2 : wr.cell? ⟨gl, i * 3 + 2, none⟩ = some (.int .i64 (t.pos : Int)))
    (ck : wr.cell? ⟨go, i, none⟩ = some (.int .i64 (kn : Int)) ∧ wr.frozen? ⟨go, i, none⟩ = false ∧ w.heap.size ≤ go) (hiI : (i : Int) < (tl.length : Int)) (hoI : (i : Int) < (ol.length : Int)) (hk : 2 ≤ (kn : Int) ∧ (kn : Int) < 5) :
    Code.wp Try.prog (bodyF Try.f8.body) (Exit.then (fun a' w'' => WF s w tl (some ⟨gl, 0, none⟩) lc pb ol (some ⟨go, 0, none⟩) oc c (RI s w tl (some ⟨gl, 0, none⟩) lc pb ol (some ⟨go, 0, none⟩) oc) a' w'' ∧ Wmu tl a' < Wmu tl ⟨#[c 0, c 1, .pointer (some ⟨w.heap.size, 0, none⟩), .pointer (some ⟨w.heap.size + 1, 0, none⟩), .pointer (some ⟨w.heap.size + 1 + 1, 0, none⟩), .slice (some ⟨gl, 0, none⟩) tl.length lc, c 6, .slice (some ⟨go, 0, none⟩) ol.length oc, c 8, c 9, .pointer (some ⟨pb, 0, none⟩), .slice (some ⟨pb + 1, 0, none⟩) 9 9, tv, .int .i64 (q.first : Int), .int .i64 i, u 15, u 16, u 17, u 18, u 19, u 20, u 21, u 22, c 23, c 24, c 25, c 26, c 27, c 28, c 29, c 30, c 31, c 32, c 33, c 34, c 35, c 36, c 37, c 38, c 39, c 40, c 41, c 42, c 43, c 44, c 45, c 46, c 47, c 48, c 49, c 50, c 51, c 52, c 53, c 54, c 55, c 56, c 57, c 58, c 59, c 60, c 61, c 62, c 63, u 64, u 65, u 66, u 67, u 68, u 69, u 70, u 71, u 72, u 73, u 74, u 75, u 76, u 77, u 78, u 79, u 80, u 81, u 82, u 83, u 84, u 85, u 86, u 87, u 88, u 89, u 90, u 91, u 92, u 93, u 94, u 95, u 96, u 97, u 98, u 99, u 100, u 101, u 102, u 103, u 104, u 105, u 106, u 107, u 108, u 109, u 110, u 111, u 112, u 113, u 114, u 115, u 116, u 117, u 118, u 119, u 120, u 121, u 122, u 123, u 124, u 125, u 126, u 127, u 128, u 129, u 130, u 131, u 132, u 133, u 134, u 135, u 136, u 137, u 138, u 139, u 140, u 141, u 142, u 143, u 144, u 145, u 146, u 147, u 148, u 149, u 150, u 151, u 152, u 153, u 154, u 155, u 156, u 157, u 158, u 159, u 160, u 161, u 162, u 163, u 164, u 165, u 166, u 167, u 168, u 169, u 170, u 171, u 172, u 173, u 174, u 175, u 176, u 177, u 178, u 179, u 180, u 181, u 182, u 183, u 184, u 185, u 186, u 187, u 188, u 189, u 190, u 191, u 192, u 193, u 194, u 195, u 196, u 197, u 198, u 199, u 200, u 201, u 202, u 203, u 204, u 205, u 206, u 207, u 208, u 209, u 210, u 211, u 212, u 213, u 214, c 215, c 216, c 217, c 218, c 219, c 220, c 221, c 222, c 223, c 224, c 225, c 226, c 227, c 228, c 229, c 230, c 231, c 232, c 233, c 234, c 235, c 236, c 237, c 238, c 239, c 240, c 241, c 242, c 243, c 244, c 245, c 246, c 247, c 248, c 249, c 250, c 251, c 252, c 253, c 254, c 255, c 256, c 257, c 258, c 259, c 260, c 261, c 262, c 263, c 264], []⟩) (Exit.inBlock 0 (Exit.then K (bodyPost Try.prog Try.f8 fun e w' => ParPost w s e w')))) ⟨#[c 0, c 1, .pointer (some ⟨w.heap.size, 0, none⟩), .pointer (some ⟨w.heap.size + 1, 0, none⟩), .pointer (some ⟨w.heap.size + 1 + 1, 0, none⟩), .slice (some ⟨gl, 0, none⟩) tl.length lc, c 6, .slice (some ⟨go, 0, none⟩) ol.length oc, c 8, c 9, .pointer (some ⟨pb, 0, none⟩), .slice (some ⟨pb + 1, 0, none⟩) 9 9, tv, .int .i64 (q.first : Int), .int .i64 i, u 15, u 16, u 17, u 18, u 19, u 20, u 21, u 22, c 23, c 24, c 25, c 26, c 27, c 28, c 29, c 30, c 31, c 32, c 33, c 34, c 35, c 36, c 37, c 38, c 39, c 40, c 41, c 42, c 43, c 44, c 45, c 46, c 47, c 48, c 49, c 50, c 51, c 52, c 53, c 54, c 55, c 56, c 57, c 58, c 59, c 60, c 61, c 62, c 63, u 64, u 65, u 66, u 67, u 68, u 69, u 70, u 71, u 72, u 73, u 74, u 75, u 76, u 77, u 78, u 79, u 80, u 81, u 82, u 83, u 84, u 85, u 86, u 87, u 88, u 89, u 90, u 91, u 92, u 93, u 94, u 95, u 96, u 97, u 98, u 99, u 100, u 101, u 102, u 103, u 104, u 105, u 106, u 107, u 108, u 109, u 110, u 111, u 112, u 113, u 114, u 115, u 116, u 117, u 118, u 119, u 120, u 121, u 122, u 123, u 124, u 125, u 126, u 127, u 128, u 129, u 130, u 131, u 132, u 133, u 134, u 135, u 136, u 137, u 138, u 139, u 140, u 141, u 142, u 143, u 144, u 145, u 146, u 147, u 148, u 149, u 150, u 151, u 152, u 153, u 154, u 155, u 156, u 157, u 158, u 159, u 160, u 161, u 162, u 163, u 164, u 165, u 166, u 167, u 168, u 169, u 170, u 171, u 172, u 173, u 174, u 175, u 176, u 177, u 178, u 179, u 180, u 181, u 182, u 183, u 184, u 185, u 186, u 187, u 188, u 189, u 190, u 191, u 192, u 193, u 194, u 195, u 196, u 197, u 198, u 199, u 200, u 201, u 202, u 203, u 204, u 205, u 206, u 207, u 208, u 209, u 210, u 211, u 212, u 213, u 214, c 215, c 216, c 217, c 218, c 219, c 220, c 221, c 222, c 223, c 224, c 225, c 226, c 227, c 228, c 229, c 230, c 231, c 232, c 233, c 234, c 235, c 236, c 237, c 238, c 239, c 240, c 241, c 242, c 243, c 244, c 245, c 246, c 247, c 248, c 249, c 250, c 251, c 252, c 253, c 254, c 255, c 256, c 257, c 258, c 259, c 260, c 261, c 262, c 263, c 264], []⟩ wr := by
  conv => arg 2; whnf
  obtain ⟨i0, hi, hz0, hz1, hz2⟩ := info_parts Try.infoStr
  have hk0 : ¬ (kn : Int) < 0 := by omega
  have dk0 : decide ((kn : Int) < 0) = false := decide_eq_false hk0
  have hk2 : ¬ (kn : Int) < 2 := by omega
  have dk2 : decide ((kn : Int) < 2) = false := decide_eq_false hk2
  have hk8 : (kn : Int) < 8 := by omega
  have dk8 : decide ((kn : Int) < 8) = true := decide_eq_true hk8
  have hk9 : (kn : Int) < 9 := by omega
  have hk5 : (kn : Int) < 5 := by omega
  have dk5 : decide ((kn : Int) < 5) = true := decide_eq_true hk5
  have HCD : Hid ((if (kn : Int) < 5 ∨ ((kn : Int) = 8 ∧ q.three.length = 1) then q.events else q.states) = q.events) := if_pos (Or.inl (by omega))
  obtain ⟨na, nc, hna, hnat, -, -, -⟩ := OwnSr.at PP.out.os
  subst hna
  obtain ⟨ma, mc, hma, hmat, -, -, -⟩ := OwnSr.at PP.out.oe
  subst hma
  have y0 := PP.out.kp.cell 0 rfl
  have y1 := PP.out.kp.cell 1 rfl
  have hlm : q.states.length ≤ maxLen := by unfold maxLen; omega
  have hlm2 : q.events.length ≤ maxLen := by unfold maxLen; omega
  go_wp2_with fail
  refine (place16_any na nc q.states t.text wr hnat hlm).mono ?_
  rintro e w1 ⟨rfl, rfl⟩
  go_wp2_with fail
  refine (place16_any ma mc q.events t.text w1 hmat hlm2).mono ?_
  rintro e w2 ⟨rfl, rfl⟩
  by_cases hm : 0 ≤ plcI q.events t.text
  · obtain ⟨hps, hpl⟩ := plcI_some hm
    obtain ⟨n, hn⟩ : ∃ n : Nat, plcI q.events t.text = (n : Int) := ⟨_, (Int.toNat_of_nonneg hm).symm⟩
    rw [hn, Int.toNat_natCast] at hps
    have HPS : Hid (plcS (if (kn : Int) < 5 ∨ ((kn : Int) = 8 ∧ q.three.length = 1) then q.events else q.states) t.text = some n) := by
      show _ = _
      rw [HCD.out]; exact hps
    have dm : decide ((n : Int) < 0) = false := by simp
    rw [hn]
    have ho := PP.out.rr kn (by omega)
    rw [lsP_row q ol (by omega)] at ho
    obtain ⟨ra, rc, hrv, hat, hrl⟩ := Own.at ho
    have HRV := Hid.of hrv
    rw [hrv] at ho
    have HOW := Hid.of ho
    have yk := PP.out.kr.cell kn (rows9 rv (by omega))
    rw [hrv] at yk
    clear hrv ho hps hpl hn hm
    have hR5 := HR5.out kn
    go_wp2_with fail
    refine (refHas_any ra rc (q.rows kn) n w2 hat hrl).mono ?_
    rintro e w3 ⟨rfl, rfl⟩
    cases hh : hasB (q.rows kn) (n : Int) with
    | true =>
      have HMM : Hid ((n : Int) ∈ q.rows kn) := List.contains_iff_mem.1 hh
      clear hh y0 y1 yk
      have HP : Hid (parseL s = (proj0, 5, t.pos)) := by
        show _ = _
        rw [HPR.out, HG.out, ps_next q HX.out, (show psStep q kn t = .error (5, t.pos) from ps_row_twice (by omega) (by omega) HPS.out HMM.out)]
      have B := Hid.of PP.out.bel
      have K2 := Hid.of PP.out.k2
      have K3 := Hid.of PP.out.k3
      have K4 := Hid.of PP.out.k4
      clear HG PP
      obtain ⟨a0, a1, a2, a3, a4, a5, a6, a7, a8, a9, a10⟩ := pj11 K4.out
      obtain ⟨b0, b1, b2, b3, b4, b5, b6, b7, b8, b9, b10⟩ := pj11 K2.out
      have f0 := K3.out.cell 0 rfl
      have f1 := K3.out.cell 1 rfl
      have z2 := K2.out.frozen
      have z3 := K3.out.frozen
      have E2 := Hid.of (setPJ_two (.slice none 0 0) (.slice none 0 0) (.int .i64 0) (.int .i64 0) (.slice none 0 0) (.slice none 0 0) (.slice none 0 0) (.slice none 0 0) (.slice none 0 0) (.slice none 0 0) (.slice none 0 0) (.int .i64 5) (.int .i64 (t.pos : Int)) K2.out (r3 := w.heap.size + 1) (by omega))
      have E3 := Hid.of (setPJ_three (r2 := w.heap.size) (.slice none 0 0) (.slice none 0 0) (.int .i64 0) (.int .i64 0) (.slice none 0 0) (.slice none 0 0) (.slice none 0 0) (.slice none 0 0) (.slice none 0 0) (.slice none 0 0) (.slice none 0 0) (.int .i64 5) (.int .i64 (t.pos : Int)) K3.out (by omega))
      have EB := Hid.of (setPJ_below (r2 := w.heap.size) (r3 := w.heap.size + 1) (.slice none 0 0) (.slice none 0 0) (.int .i64 0) (.int .i64 0) (.slice none 0 0) (.slice none 0 0) (.slice none 0 0) (.slice none 0 0) (.slice none 0 0) (.slice none 0 0) (.slice none 0 0) (.int .i64 5) (.int .i64 (t.pos : Int)) B.out (Nat.le_refl _) (by omega))
      go_wp2_with fail
      exact bodyPost_ret (results_pj (p := 2) (u := 3) rfl _ _ (w.heap.size) (w.heap.size + 1) _ _ _ _ _ _ _ _ _ _ _ _ _ _ _ _ _ _ _ _ _ _ _ _ _ _ _ _ _ _ _ rfl rfl E2.out E3.out) rfl (par_err HP.out EB.out)
    | false =>
      have HMM : Hid (¬ (n : Int) ∈ q.rows kn) := fun h => by
        rw [show hasB (q.rows kn) (n : Int) = true from List.contains_iff_mem.2 h] at hh; cases hh
      clear hh
      have bZ : Below w3.heap.size w3 (w3.alloc (.cells #[.int .i64 (n : Int)] 3)) := (Below.refl _ _).alloc (Nat.le_refl _) _
      have hZB := PP.out.bel.size
      obtain ⟨j0, ji, jz0, jz1, jz2⟩ := info_parts Try.infoInt
      go_wp2_with (at_builtin; refine wpList_append_block _ rfl (.tmp 162) (.tmp 164) 23 rfl w.heap.size 3 j0 (.int .i64 0) 1 8 Try.underlying23 ji jz0 jz1 jz2 rfl (by decide) _ _ _ rfl (World.ownsRow.alloc HOW.out _) ⟨w3.heap.size, 0, none⟩ 1 1 [.int .i64 (n : Int)] rfl rfl (cell_one_new _ _ _) (by intro u hu; simp at hu; subst hu; rfl) (by decide) (by unfold maxLen; omega) (by omega) (by simp; omega) ?_)
      intro v7 w7 o7 g7 n7
      have O7 : Own w7 w.heap.size v7 (lsP q ol kn ++ [(n : Int)]) := by
        show World.ownsRow _ _ _ _ _ _ _
        rw [lsP_row q ol (by omega), List.length_append, List.map_append]; exact o7
      obtain ⟨e1, e2⟩ := PK.row (k := kn) (by omega) PP.out bZ O7 (by rw [HRV.out]; exact g7) (by rw [HRV.out, World.size_alloc]; exact n7)
      rw [lsP_push q ol (by omega : kn < 9) (n : Int)] at e2
      obtain ⟨RV, HN⟩ : ∃ RV, Hid (RV = upd rv kn v7) := ⟨_, rfl⟩
      rw [← HN.out] at e2
      have H9 : Hid (rv 9 = RV 9) := by show _ = _; rw [HN.out, upd_ne _ _ (by omega)]
      have H10 : Hid (RV 10 = rv 10) := by show _ = _; rw [HN.out, upd_ne _ _ (by omega)]
      clear HN
      obtain ⟨qa, qc, hv7, -, -, -⟩ := own_form2 o7
      subst hv7
      have E2 := Hid.of e2
      have yk := e1.cell kn (rows9 rv (by omega))
      have yf := e1.frozen
      clear e1 e2 o7 g7 n7 O7 bZ hZB y0 y1
      obtain ⟨QN, HQN⟩ : ∃ QN : Ps, Hid (QN = { q with rows := fun j => if j = kn then q.rows kn ++ [(n : Int)] else q.rows j }) := ⟨_, rfl⟩
      have hstep : psStep q kn t = .ok QN := by rw [HQN.out]; exact ps_row_ok (by omega) (by omega) HPS.out HMM.out
      have HG2 : Hid (psGo ps0 (ol.zip tl) = psGo QN ((ol.zip tl).drop (i + 1))) := by
        show _ = _
        rw [HG.out, ps_next q HX.out, hstep]
      clear hstep
      go_wp2_with fail
      refine ⟨wf_mk ?rel, ?measure⟩
      case rel => exact ⟨i + 1, _, _, _, RV, QN, by go_num, by omega, (by first | exact H9.out | exact htv.trans H9.out), (by rw [HQN.out]), (by rw [HQN.out]; exact hq1), (by rw [HQN.out]; exact hq2), (by rw [HQN.out]; exact hq3), (by rw [HQN.out]; show q.arrows.length ≤ i + 1; omega), (fun j => by
        rw [HQN.out]
        show (if j = kn then q.rows kn ++ [(n : Int)] else q.rows j).length ≤ i + 1
        have := HR5.out j
        split
        · rw [List.length_append, List.length_singleton]; omega
        · omega), Hid.of (H10.out.trans HRT.out), (by show PK _ _ _ _ _ _ _ _ _ _ _ _ _ _; rw [HQN.out]; exact E2.out), HG2⟩
      case measure => simp [Wmu, intOf]; omega
  · have HMM := Hid.of (plcI_none hm)
    have dm : decide (plcI q.events t.text < 0) = true := by simpa using hm
    have dmI : plcI q.events t.text < 0 := by omega
    clear hm y0 y1
    have HP : Hid (parseL s = (proj0, 4, t.pos)) := by
      show _ = _
      rw [HPR.out, HG.out, ps_next q HX.out, (show psStep q kn t = .error (4, t.pos) from ps_none (by omega) (by rw [HCD.out]; exact HMM.out))]
    have B := Hid.of PP.out.bel
    have K2 := Hid.of PP.out.k2
    have K3 := Hid.of PP.out.k3
    have K4 := Hid.of PP.out.k4
    clear HG PP
    obtain ⟨a0, a1, a2, a3, a4, a5, a6, a7, a8, a9, a10⟩ := pj11 K4.out
    obtain ⟨b0, b1, b2, b3, b4, b5, b6, b7, b8, b9, b10⟩ := pj11 K2.out
    have f0 := K3.out.cell 0 rfl
    have f1 := K3.out.cell 1 rfl
    have z2 := K2.out.frozen
    have z3 := K3.out.frozen
    have E2 := Hid.of (setPJ_two (.slice none 0 0) (.slice none 0 0) (.int .i64 0) (.int .i64 0) (.slice none 0 0) (.slice none 0 0) (.slice none 0 0) (.slice none 0 0) (.slice none 0 0) (.slice none 0 0) (.slice none 0 0) (.int .i64 4) (.int .i64 (t.pos : Int)) K2.out (r3 := w.heap.size + 1) (by omega))
    have E3 := Hid.of (setPJ_three (r2 := w.heap.size) (.slice none 0 0) (.slice none 0 0) (.int .i64 0) (.int .i64 0) (.slice none 0 0) (.slice none 0 0) (.slice none 0 0) (.slice none 0 0) (.slice none 0 0) (.slice none 0 0) (.slice none 0 0) (.int .i64 4) (.int .i64 (t.pos : Int)) K3.out (by omega))
    have EB := Hid.of (setPJ_below (r2 := w.heap.size) (r3 := w.heap.size + 1) (.slice none 0 0) (.slice none 0 0) (.int .i64 0) (.int .i64 0) (.slice none 0 0) (.slice none 0 0) (.slice none 0 0) (.slice none 0 0) (.slice none 0 0) (.slice none 0 0) (.slice none 0 0) (.int .i64 4) (.int .i64 (t.pos : Int)) B.out (Nat.le_refl _) (by omega))
    go_wp2_with fail
    exact bodyPost_ret (results_pj (p := 2) (u := 3) rfl _ _ (w.heap.size) (w.heap.size + 1) _ _ _ _ _ _ _ _ _ _ _ _ _ _ _ _ _ _ _ _ _ _ _ _ _ _ _ _ _ _ _ rfl rfl E2.out E3.out) rfl (par_err HP.out EB.out)

end Go.Proofs.Ytbgiliophmofgaa
