/-
  The walk of jalousieref16.Parse: an event's name.
-/
import Derived.Deep.RegionHeld3
import Derived.Test.YtbgiliophmofgaaDR16CB
namespace Go.Proofs.Ytbgiliophmofgaa
open Go.RowKit
set_option linter.unusedVariables false

set_option maxRecDepth 1000000 in
set_option maxHeartbeats 16000000 in
theorem cs_event (s : Str) (w : World) (tl : List Tok) (gl lc pb : Nat) (ol : List Int) (go oc : Nat) (c u : Nat → Value) (K : Act → World → Prop) (wr : World)
    (i : Nat) (vs ve va tv : Value) (rv : Nat → Value) (q : Ps) (t : Tok)
    (hTl : tl.length ≤ 4000) (HRE : Hid (ol.length = tl.length)) (HPR : Hid (parseL s = match psGo ps0 (ol.zip tl) with | .error e => (proj0, e) | .ok q => (psEnd q, 0, 0)))
    (hil : i ≤ tl.length) (htv : tv = rv 9) (hq1 : q.states.length ≤ 6) (hq2 : q.events.length ≤ 8) (hq3 : q.three.length ≤ 2) (hq4 : q.arrows.length ≤ i)
    (HR5 : Hid (∀ j, (q.rows j).length ≤ i)) (HRT : Hid (rv 10 = .slice (some ⟨go, 0, none⟩) ol.length oc)) (PP : Hid (PK w wr (.slice (some ⟨gl, 0, none⟩) tl.length lc) tl pb (pb + 1) vs ve va rv q.states q.events (lsP q ol) q.arrows)) (HG : Hid (psGo ps0 (ol.zip tl) = psGo q ((ol.zip tl).drop i)))
    (hlt : i < tl.length) (HTI : Hid (tl[i]? = some t)) (hlo : i < ol.length) (HKI : Hid (ol[i]? = some 1)) (HX : Hid ((ol.zip tl)[i]? = some (1, t)))
    (c1 : wr.cell? ⟨gl, i * 3 + 1, none⟩ = some (strV t.text)) (c2 : wr.cell? ⟨gl, i * 3 + 2, none⟩ = some (.int .i64 (t.pos : Int)))
    (ck : wr.cell? ⟨go, i, none⟩ = some (.int .i64 1) ∧ wr.frozen? ⟨go, i, none⟩ = false ∧ w.heap.size ≤ go) (hiI : (i : Int) < (tl.length : Int)) (hoI : (i : Int) < (ol.length : Int)) :
    Code.wp Try.prog (bodyF Try.f8.body) (Exit.then (fun a' w'' => WF s w tl (some ⟨gl, 0, none⟩) lc pb ol (some ⟨go, 0, none⟩) oc c (RI s w tl (some ⟨gl, 0, none⟩) lc pb ol (some ⟨go, 0, none⟩) oc) a' w'' ∧ Wmu tl a' < Wmu tl ⟨#[c 0, c 1, .pointer (some ⟨w.heap.size, 0, none⟩), .pointer (some ⟨w.heap.size + 1, 0, none⟩), .pointer (some ⟨w.heap.size + 1 + 1, 0, none⟩), .slice (some ⟨gl, 0, none⟩) tl.length lc, c 6, .slice (some ⟨go, 0, none⟩) ol.length oc, c 8, c 9, .pointer (some ⟨pb, 0, none⟩), .slice (some ⟨pb + 1, 0, none⟩) 9 9, tv, .int .i64 (q.first : Int), .int .i64 i, u 15, u 16, u 17, u 18, u 19, u 20, u 21, u 22, c 23, c 24, c 25, c 26, c 27, c 28, c 29, c 30, c 31, c 32, c 33, c 34, c 35, c 36, c 37, c 38, c 39, c 40, c 41, c 42, c 43, c 44, c 45, c 46, c 47, c 48, c 49, c 50, c 51, c 52, c 53, c 54, c 55, c 56, c 57, c 58, c 59, c 60, c 61, c 62, c 63, u 64, u 65, u 66, u 67, u 68, u 69, u 70, u 71, u 72, u 73, u 74, u 75, u 76, u 77, u 78, u 79, u 80, u 81, u 82, u 83, u 84, u 85, u 86, u 87, u 88, u 89, u 90, u 91, u 92, u 93, u 94, u 95, u 96, u 97, u 98, u 99, u 100, u 101, u 102, u 103, u 104, u 105, u 106, u 107, u 108, u 109, u 110, u 111, u 112, u 113, u 114, u 115, u 116, u 117, u 118, u 119, u 120, u 121, u 122, u 123, u 124, u 125, u 126, u 127, u 128, u 129, u 130, u 131, u 132, u 133, u 134, u 135, u 136, u 137, u 138, u 139, u 140, u 141, u 142, u 143, u 144, u 145, u 146, u 147, u 148, u 149, u 150, u 151, u 152, u 153, u 154, u 155, u 156, u 157, u 158, u 159, u 160, u 161, u 162, u 163, u 164, u 165, u 166, u 167, u 168, u 169, u 170, u 171, u 172, u 173, u 174, u 175, u 176, u 177, u 178, u 179, u 180, u 181, u 182, u 183, u 184, u 185, u 186, u 187, u 188, u 189, u 190, u 191, u 192, u 193, u 194, u 195, u 196, u 197, u 198, u 199, u 200, u 201, u 202, u 203, u 204, u 205, u 206, u 207, u 208, u 209, u 210, u 211, u 212, u 213, u 214, c 215, c 216, c 217, c 218, c 219, c 220, c 221, c 222, c 223, c 224, c 225, c 226, c 227, c 228, c 229, c 230, c 231, c 232, c 233, c 234, c 235, c 236, c 237, c 238, c 239, c 240, c 241, c 242, c 243, c 244, c 245, c 246, c 247, c 248, c 249, c 250, c 251, c 252, c 253, c 254, c 255, c 256, c 257, c 258, c 259, c 260, c 261, c 262, c 263, c 264], []⟩) (Exit.inBlock 0 (Exit.then K (bodyPost Try.prog Try.f8 fun e w' => ParPost w s e w')))) ⟨#[c 0, c 1, .pointer (some ⟨w.heap.size, 0, none⟩), .pointer (some ⟨w.heap.size + 1, 0, none⟩), .pointer (some ⟨w.heap.size + 1 + 1, 0, none⟩), .slice (some ⟨gl, 0, none⟩) tl.length lc, c 6, .slice (some ⟨go, 0, none⟩) ol.length oc, c 8, c 9, .pointer (some ⟨pb, 0, none⟩), .slice (some ⟨pb + 1, 0, none⟩) 9 9, tv, .int .i64 (q.first : Int), .int .i64 i, u 15, u 16, u 17, u 18, u 19, u 20, u 21, u 22, c 23, c 24, c 25, c 26, c 27, c 28, c 29, c 30, c 31, c 32, c 33, c 34, c 35, c 36, c 37, c 38, c 39, c 40, c 41, c 42, c 43, c 44, c 45, c 46, c 47, c 48, c 49, c 50, c 51, c 52, c 53, c 54, c 55, c 56, c 57, c 58, c 59, c 60, c 61, c 62, c 63, u 64, u 65, u 66, u 67, u 68, u 69, u 70, u 71, u 72, u 73, u 74, u 75, u 76, u 77, u 78, u 79, u 80, u 81, u 82, u 83, u 84, u 85, u 86, u 87, u 88, u 89, u 90, u 91, u 92, u 93, u 94, u 95, u 96, u 97, u 98, u 99, u 100, u 101, u 102, u 103, u 104, u 105, u 106, u 107, u 108, u 109, u 110, u 111, u 112, u 113, u 114, u 115, u 116, u 117, u 118, u 119, u 120, u 121, u 122, u 123, u 124, u 125, u 126, u 127, u 128, u 129, u 130, u 131, u 132, u 133, u 134, u 135, u 136, u 137, u 138, u 139, u 140, u 141, u 142, u 143, u 144, u 145, u 146, u 147, u 148, u 149, u 150, u 151, u 152, u 153, u 154, u 155, u 156, u 157, u 158, u 159, u 160, u 161, u 162, u 163, u 164, u 165, u 166, u 167, u 168, u 169, u 170, u 171, u 172, u 173, u 174, u 175, u 176, u 177, u 178, u 179, u 180, u 181, u 182, u 183, u 184, u 185, u 186, u 187, u 188, u 189, u 190, u 191, u 192, u 193, u 194, u 195, u 196, u 197, u 198, u 199, u 200, u 201, u 202, u 203, u 204, u 205, u 206, u 207, u 208, u 209, u 210, u 211, u 212, u 213, u 214, c 215, c 216, c 217, c 218, c 219, c 220, c 221, c 222, c 223, c 224, c 225, c 226, c 227, c 228, c 229, c 230, c 231, c 232, c 233, c 234, c 235, c 236, c 237, c 238, c 239, c 240, c 241, c 242, c 243, c 244, c 245, c 246, c 247, c 248, c 249, c 250, c 251, c 252, c 253, c 254, c 255, c 256, c 257, c 258, c 259, c 260, c 261, c 262, c 263, c 264], []⟩ wr := by
  conv => arg 2; whnf
  obtain ⟨i0, hi, hz0, hz1, hz2⟩ := info_parts Try.infoStr
  obtain ⟨na, nc, hna, hnat, -, -, -⟩ := OwnSr.at PP.out.oe
  subst hna
  have y0 := PP.out.kp.cell 0 rfl
  have y1 := PP.out.kp.cell 1 rfl
  have hlm : q.events.length ≤ maxLen := by unfold maxLen; omega
  go_wp2_with fail
  refine (place16_any na nc q.events t.text wr hnat hlm).mono ?_
  rintro e w1 ⟨rfl, rfl⟩
  by_cases hm : 0 ≤ plcI q.events t.text
  · have HMM := Hid.of (plcI_mem.2 hm)
    have dm : decide (0 ≤ plcI q.events t.text) = true := by simpa using hm
    have HP : Hid (parseL s = (proj0, 5, t.pos)) := by
      show _ = _
      rw [HPR.out, HG.out, ps_next q HX.out, ps_event_twice HMM.out]
    have B := Hid.of PP.out.bel
    have K2 := Hid.of PP.out.k2
    have K3 := Hid.of PP.out.k3
    have K4 := Hid.of PP.out.k4
    clear HG PP
    obtain ⟨a0, a1, a2, a3, a4, a5, a6, a7, a8, a9, a10⟩ := pj11 K4.out
    obtain ⟨b0, b1, b2, b3, b4, b5, b6, b7, b8, b9, b10⟩ := pj11 K2.out
    have f0 := K3.out.cell 0 rfl
    have f1 := K3.out.cell 1 rfl
    have z2 := K2.out.frozen
    have z3 := K3.out.frozen
    have E2 := Hid.of (setPJ_two (.slice none 0 0) (.slice none 0 0) (.int .i64 0) (.int .i64 0) (.slice none 0 0) (.slice none 0 0) (.slice none 0 0) (.slice none 0 0) (.slice none 0 0) (.slice none 0 0) (.slice none 0 0) (.int .i64 5) (.int .i64 (t.pos : Int)) K2.out (r3 := w.heap.size + 1) (by omega))
    have E3 := Hid.of (setPJ_three (r2 := w.heap.size) (.slice none 0 0) (.slice none 0 0) (.int .i64 0) (.int .i64 0) (.slice none 0 0) (.slice none 0 0) (.slice none 0 0) (.slice none 0 0) (.slice none 0 0) (.slice none 0 0) (.slice none 0 0) (.int .i64 5) (.int .i64 (t.pos : Int)) K3.out (by omega))
    have EB := Hid.of (setPJ_below (r2 := w.heap.size) (r3 := w.heap.size + 1) (.slice none 0 0) (.slice none 0 0) (.int .i64 0) (.int .i64 0) (.slice none 0 0) (.slice none 0 0) (.slice none 0 0) (.slice none 0 0) (.slice none 0 0) (.slice none 0 0) (.slice none 0 0) (.int .i64 5) (.int .i64 (t.pos : Int)) B.out (Nat.le_refl _) (by omega))
    go_wp2_with fail
    exact bodyPost_ret (results_pj (p := 2) (u := 3) rfl _ _ (w.heap.size) (w.heap.size + 1) _ _ _ _ _ _ _ _ _ _ _ _ _ _ _ _ _ _ _ _ _ _ _ _ _ _ _ _ _ _ _ rfl rfl E2.out E3.out) rfl (par_err HP.out EB.out)
  · have HMM : Hid (t.text ∉ q.events) := fun h => hm (plcI_mem.1 h)
    have dm : decide (0 ≤ plcI q.events t.text) = false := by simpa using hm
    by_cases hf : 8 ≤ q.events.length
    · have HFF := Hid.of hf
      have df : decide ((8 : Int) ≤ (q.events.length : Int)) = true := by simp; omega
      have dfI : (8 : Int) ≤ (q.events.length : Int) := by omega
      clear hm
      have HP : Hid (parseL s = (proj0, 1, t.pos)) := by
        show _ = _
        rw [HPR.out, HG.out, ps_next q HX.out, ps_event_many HMM.out HFF.out]
      have B := Hid.of PP.out.bel
      have K2 := Hid.of PP.out.k2
      have K3 := Hid.of PP.out.k3
      have K4 := Hid.of PP.out.k4
      clear HG PP
      obtain ⟨a0, a1, a2, a3, a4, a5, a6, a7, a8, a9, a10⟩ := pj11 K4.out
      obtain ⟨b0, b1, b2, b3, b4, b5, b6, b7, b8, b9, b10⟩ := pj11 K2.out
      have f0 := K3.out.cell 0 rfl
      have f1 := K3.out.cell 1 rfl
      have z2 := K2.out.frozen
      have z3 := K3.out.frozen
      have E2 := Hid.of (setPJ_two (.slice none 0 0) (.slice none 0 0) (.int .i64 0) (.int .i64 0) (.slice none 0 0) (.slice none 0 0) (.slice none 0 0) (.slice none 0 0) (.slice none 0 0) (.slice none 0 0) (.slice none 0 0) (.int .i64 1) (.int .i64 (t.pos : Int)) K2.out (r3 := w.heap.size + 1) (by omega))
      have E3 := Hid.of (setPJ_three (r2 := w.heap.size) (.slice none 0 0) (.slice none 0 0) (.int .i64 0) (.int .i64 0) (.slice none 0 0) (.slice none 0 0) (.slice none 0 0) (.slice none 0 0) (.slice none 0 0) (.slice none 0 0) (.slice none 0 0) (.int .i64 1) (.int .i64 (t.pos : Int)) K3.out (by omega))
      have EB := Hid.of (setPJ_below (r2 := w.heap.size) (r3 := w.heap.size + 1) (.slice none 0 0) (.slice none 0 0) (.int .i64 0) (.int .i64 0) (.slice none 0 0) (.slice none 0 0) (.slice none 0 0) (.slice none 0 0) (.slice none 0 0) (.slice none 0 0) (.slice none 0 0) (.int .i64 1) (.int .i64 (t.pos : Int)) B.out (Nat.le_refl _) (by omega))
      go_wp2_with fail
      exact bodyPost_ret (results_pj (p := 2) (u := 3) rfl _ _ (w.heap.size) (w.heap.size + 1) _ _ _ _ _ _ _ _ _ _ _ _ _ _ _ _ _ _ _ _ _ _ _ _ _ _ _ _ _ _ _ rfl rfl E2.out E3.out) rfl (par_err HP.out EB.out)
    · have HFF := Hid.of hf
      have df : decide ((8 : Int) ≤ (q.events.length : Int)) = false := by simp; omega
      have dfI : (q.events.length : Int) < 8 := by omega
      have dfN : q.events.length < 8 := by omega
      clear hm hf
      have bZ : Below w1.heap.size w1 (w1.alloc (.cells #[strV t.text] 9)) := (Below.refl _ _).alloc (Nat.le_refl _) _
      have hZB := PP.out.bel.size
      go_wp2_with (at_builtin; refine wpList_append_block _ rfl (.tmp 117) (.tmp 119) 22 rfl w.heap.size 9 i0 (.string ⟨#[]⟩) 1 16 Try.underlying22 hi hz0 hz1 hz2 rfl (by decide) _ _ _ rfl (World.ownsRow.alloc PP.out.oe _) ⟨w1.heap.size, 0, none⟩ 1 1 [strV t.text] rfl rfl (cell_one_new _ _ _) (by intro u hu; simp at hu; subst hu; rfl) (by decide) (by unfold maxLen; omega) (by omega) (by simp; omega) ?_)
      intro v7 w7 o7 g7 n7
      have O7 : OwnSr w7 w.heap.size v7 (q.events ++ [t.text]) := by
        show World.ownsRow _ _ _ _ _ _ _
        rw [List.length_append, List.map_append]; exact o7
      obtain ⟨e1, e2⟩ := PK.event PP.out bZ O7 g7 (by rw [World.size_alloc]; exact n7)
      obtain ⟨qa, qc, hv7, -, -, -⟩ := own_form2 o7
      subst hv7
      have E2 := Hid.of e2
      have y0 := e1.cell 1 rfl
      have yf := e1.frozen
      clear e1 e2 o7 g7 n7 O7 bZ hZB
      obtain ⟨QN, HQN⟩ : ∃ QN : Ps, Hid (QN = { q with events := q.events ++ [t.text] }) := ⟨_, rfl⟩
      have HG2 : Hid (psGo ps0 (ol.zip tl) = psGo QN ((ol.zip tl).drop (i + 1))) := by
        show _ = _
        rw [HG.out, ps_next q HX.out, ps_event_ok HMM.out HFF.out, HQN.out]
      go_wp2_with fail
      refine ⟨wf_mk ?rel, ?measure⟩
      case rel => exact ⟨i + 1, _, _, _, rv, QN, by go_num, by omega, (by first | rfl | exact htv), (by rw [HQN.out]), (by rw [HQN.out]; first | exact hq1 | (simp; omega)), (by rw [HQN.out]; first | exact hq2 | (simp; omega)), (by rw [HQN.out]; exact hq3), (by rw [HQN.out]; show q.arrows.length ≤ i + 1; omega), (fun j => by rw [HQN.out]; exact Nat.le_trans (HR5.out j) (by omega)), HRT, (by show PK _ _ _ _ _ _ _ _ _ _ _ _ _ _; rw [HQN.out]; exact E2.out), HG2⟩
      case measure => simp [Wmu, intOf]; omega

end Go.Proofs.Ytbgiliophmofgaa
