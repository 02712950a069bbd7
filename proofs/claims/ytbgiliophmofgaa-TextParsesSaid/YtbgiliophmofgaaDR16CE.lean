/-
  The walk of jalousieref16.Parse: behind the loop.
-/
import Derived.Deep.RegionHeld3
import Derived.Test.YtbgiliophmofgaaDR16CB
namespace Go.Proofs.Ytbgiliophmofgaa
open Go.RowKit
set_option linter.unusedVariables false

set_option maxRecDepth 1000000 in
set_option maxHeartbeats 16000000 in
theorem cs_end (s : Str) (w : World) (tl : List Tok) (la : Option Addr) (lc pb : Nat) (ol : List Int) (oa : Option Addr) (oc : Nat) (c u : Nat → Value) (wr : World) (tv fv iv vs ve va : Value) (rv : Nat → Value) (q : Ps)
    (HP : Hid (parseL s = (psEnd q, 0, 0))) (hq1 : q.states.length ≤ 6) (hq2 : q.events.length ≤ 8) (hq4 : q.arrows.length ≤ 4000)
    (HR5 : Hid (∀ j, (q.rows j).length ≤ 4000)) (PP : Hid (PK w wr (.slice la tl.length lc) tl pb (pb + 1) vs ve va rv q.states q.events (lsP q ol) q.arrows)) :
    Code.wp Try.prog (endF Try.f8.body) (bodyPost Try.prog Try.f8 fun e w' => ParPost w s e w') ⟨#[c 0, c 1, .pointer (some ⟨w.heap.size, 0, none⟩), .pointer (some ⟨w.heap.size + 1, 0, none⟩), .pointer (some ⟨w.heap.size + 1 + 1, 0, none⟩), .slice la tl.length lc, c 6, .slice oa ol.length oc, c 8, c 9, .pointer (some ⟨pb, 0, none⟩), .slice (some ⟨pb + 1, 0, none⟩) 9 9, tv, fv, iv, u 15, u 16, u 17, u 18, u 19, u 20, u 21, u 22, c 23, c 24, c 25, c 26, c 27, c 28, c 29, c 30, c 31, c 32, c 33, c 34, c 35, c 36, c 37, c 38, c 39, c 40, c 41, c 42, c 43, c 44, c 45, c 46, c 47, c 48, c 49, c 50, c 51, c 52, c 53, c 54, c 55, c 56, c 57, c 58, c 59, c 60, c 61, c 62, c 63, u 64, u 65, u 66, u 67, u 68, u 69, u 70, u 71, u 72, u 73, u 74, u 75, u 76, u 77, u 78, u 79, u 80, u 81, u 82, u 83, u 84, u 85, u 86, u 87, u 88, u 89, u 90, u 91, u 92, u 93, u 94, u 95, u 96, u 97, u 98, u 99, u 100, u 101, u 102, u 103, u 104, u 105, u 106, u 107, u 108, u 109, u 110, u 111, u 112, u 113, u 114, u 115, u 116, u 117, u 118, u 119, u 120, u 121, u 122, u 123, u 124, u 125, u 126, u 127, u 128, u 129, u 130, u 131, u 132, u 133, u 134, u 135, u 136, u 137, u 138, u 139, u 140, u 141, u 142, u 143, u 144, u 145, u 146, u 147, u 148, u 149, u 150, u 151, u 152, u 153, u 154, u 155, u 156, u 157, u 158, u 159, u 160, u 161, u 162, u 163, u 164, u 165, u 166, u 167, u 168, u 169, u 170, u 171, u 172, u 173, u 174, u 175, u 176, u 177, u 178, u 179, u 180, u 181, u 182, u 183, u 184, u 185, u 186, u 187, u 188, u 189, u 190, u 191, u 192, u 193, u 194, u 195, u 196, u 197, u 198, u 199, u 200, u 201, u 202, u 203, u 204, u 205, u 206, u 207, u 208, u 209, u 210, u 211, u 212, u 213, u 214, c 215, c 216, c 217, c 218, c 219, c 220, c 221, c 222, c 223, c 224, c 225, c 226, c 227, c 228, c 229, c 230, c 231, c 232, c 233, c 234, c 235, c 236, c 237, c 238, c 239, c 240, c 241, c 242, c 243, c 244, c 245, c 246, c 247, c 248, c 249, c 250, c 251, c 252, c 253, c 254, c 255, c 256, c 257, c 258, c 259, c 260, c 261, c 262, c 263, c 264], []⟩ wr := by
  conv => arg 2; whnf
  obtain ⟨na, nc, hna, -, -, -, -⟩ := OwnSr.at PP.out.os
  subst hna
  obtain ⟨ma, mc, hma, -, -, -, -⟩ := OwnSr.at PP.out.oe
  subst hma
  obtain ⟨aa, ac, hva, -, -, -, -⟩ := OwnA.at PP.out.oa
  subst hva
  have kk := PP.out.kr
  have o2 := PP.out.rr 2 (by omega)
  rw [lsP_row q ol (by omega)] at o2
  obtain ⟨r2a, r2c, hr2, -, l2⟩ := Own.at2 o2
  rw [hr2] at kk o2
  clear l2
  have l2 : (q.rows 2).length ≤ 4000 := HR5.out 2
  have o3 := PP.out.rr 3 (by omega)
  rw [lsP_row q ol (by omega)] at o3
  obtain ⟨r3a, r3c, hr3, -, l3⟩ := Own.at2 o3
  rw [hr3] at kk o3
  clear l3
  have l3 : (q.rows 3).length ≤ 4000 := HR5.out 3
  have o4 := PP.out.rr 4 (by omega)
  rw [lsP_row q ol (by omega)] at o4
  obtain ⟨r4a, r4c, hr4, -, l4⟩ := Own.at2 o4
  rw [hr4] at kk o4
  clear l4
  have l4 : (q.rows 4).length ≤ 4000 := HR5.out 4
  have o5 := PP.out.rr 5 (by omega)
  rw [lsP_row q ol (by omega)] at o5
  obtain ⟨r5a, r5c, hr5, -, l5⟩ := Own.at2 o5
  rw [hr5] at kk o5
  clear l5
  have l5 : (q.rows 5).length ≤ 4000 := HR5.out 5
  have o6 := PP.out.rr 6 (by omega)
  rw [lsP_row q ol (by omega)] at o6
  obtain ⟨r6a, r6c, hr6, -, l6⟩ := Own.at2 o6
  rw [hr6] at kk o6
  clear l6
  have l6 : (q.rows 6).length ≤ 4000 := HR5.out 6
  have o7 := PP.out.rr 7 (by omega)
  rw [lsP_row q ol (by omega)] at o7
  obtain ⟨r7a, r7c, hr7, -, l7⟩ := Own.at2 o7
  rw [hr7] at kk o7
  clear l7
  have l7 : (q.rows 7).length ≤ 4000 := HR5.out 7
  have G0 : Hid (FK w wr pb #[.slice na q.states.length nc, .slice ma q.events.length mc, .int .i64 0, .int .i64 0, .slice none 0 0, .slice aa q.arrows.length ac, .slice none 0 0, .slice none 0 0, .slice none 0 0, .slice none 0 0, .slice none 0 0] #[rv 0, rv 1, .slice r2a (q.rows 2).length r2c, .slice r3a (q.rows 3).length r3c, .slice r4a (q.rows 4).length r4c, .slice r5a (q.rows 5).length r5c, .slice r6a (q.rows 6).length r6c, .slice r7a (q.rows 7).length r7c, rv 8] [⟨9, 1, .slice na q.states.length nc, q.states.length, q.states.map strV⟩, ⟨9, 1, .slice ma q.events.length mc, q.events.length, q.events.map strV⟩, ⟨60, 3, .slice aa q.arrows.length ac, q.arrows.length, aflat q.arrows⟩, ⟨3, 1, .slice r2a (q.rows 2).length r2c, (q.rows 2).length, (q.rows 2).map (Value.int .i64)⟩, ⟨3, 1, .slice r3a (q.rows 3).length r3c, (q.rows 3).length, (q.rows 3).map (Value.int .i64)⟩, ⟨3, 1, .slice r4a (q.rows 4).length r4c, (q.rows 4).length, (q.rows 4).map (Value.int .i64)⟩, ⟨3, 1, .slice r5a (q.rows 5).length r5c, (q.rows 5).length, (q.rows 5).map (Value.int .i64)⟩, ⟨3, 1, .slice r6a (q.rows 6).length r6c, (q.rows 6).length, (q.rows 6).map (Value.int .i64)⟩, ⟨3, 1, .slice r7a (q.rows 7).length r7c, (q.rows 7).length, (q.rows 7).map (Value.int .i64)⟩]) := ⟨PP.out.bel, PP.out.k2, PP.out.k3, PP.out.lp, PP.out.kp, kk, List.forall_mem_cons.2 ⟨⟨PP.out.os, by show (_ : TypeId) ≠ _; dsimp only; decide, by show (_ : TypeId) ≠ _; dsimp only; decide⟩, List.forall_mem_cons.2 ⟨⟨PP.out.oe, by show (_ : TypeId) ≠ _; dsimp only; decide, by show (_ : TypeId) ≠ _; dsimp only; decide⟩, List.forall_mem_cons.2 ⟨⟨PP.out.oa, by show (_ : TypeId) ≠ _; dsimp only; decide, by show (_ : TypeId) ≠ _; dsimp only; decide⟩, List.forall_mem_cons.2 ⟨⟨o2, by show (_ : TypeId) ≠ _; dsimp only; decide, by show (_ : TypeId) ≠ _; dsimp only; decide⟩, List.forall_mem_cons.2 ⟨⟨o3, by show (_ : TypeId) ≠ _; dsimp only; decide, by show (_ : TypeId) ≠ _; dsimp only; decide⟩, List.forall_mem_cons.2 ⟨⟨o4, by show (_ : TypeId) ≠ _; dsimp only; decide, by show (_ : TypeId) ≠ _; dsimp only; decide⟩, List.forall_mem_cons.2 ⟨⟨o5, by show (_ : TypeId) ≠ _; dsimp only; decide, by show (_ : TypeId) ≠ _; dsimp only; decide⟩, List.forall_mem_cons.2 ⟨⟨o6, by show (_ : TypeId) ≠ _; dsimp only; decide, by show (_ : TypeId) ≠ _; dsimp only; decide⟩, List.forall_mem_cons.2 ⟨⟨o7, by show (_ : TypeId) ≠ _; dsimp only; decide, by show (_ : TypeId) ≠ _; dsimp only; decide⟩, List.forall_mem_nil _⟩⟩⟩⟩⟩⟩⟩⟩⟩⟩
  clear PP kk o2 hr2 o3 hr3 o4 hr4 o5 hr5 o6 hr6 o7 hr7
  obtain ⟨y0, y1, y2, y3, y4, y5, y6, y7, y8, y9, y10⟩ := pj11 G0.out.kp
  have yf := G0.out.kp.frozen
  have G1 : Hid (FK w ((wr.setCell ⟨pb, 2, none⟩ (.int .i64 (q.states.length : Int))).setCell ⟨pb, 3, none⟩ (.int .i64 (q.events.length : Int))) pb #[.slice na q.states.length nc, .slice ma q.events.length mc, .int .i64 (q.states.length : Int), .int .i64 (q.events.length : Int), .slice none 0 0, .slice aa q.arrows.length ac, .slice none 0 0, .slice none 0 0, .slice none 0 0, .slice none 0 0, .slice none 0 0] #[rv 0, rv 1, .slice r2a (q.rows 2).length r2c, .slice r3a (q.rows 3).length r3c, .slice r4a (q.rows 4).length r4c, .slice r5a (q.rows 5).length r5c, .slice r6a (q.rows 6).length r6c, .slice r7a (q.rows 7).length r7c, rv 8] [⟨9, 1, .slice na q.states.length nc, q.states.length, q.states.map strV⟩, ⟨9, 1, .slice ma q.events.length mc, q.events.length, q.events.map strV⟩, ⟨60, 3, .slice aa q.arrows.length ac, q.arrows.length, aflat q.arrows⟩, ⟨3, 1, .slice r2a (q.rows 2).length r2c, (q.rows 2).length, (q.rows 2).map (Value.int .i64)⟩, ⟨3, 1, .slice r3a (q.rows 3).length r3c, (q.rows 3).length, (q.rows 3).map (Value.int .i64)⟩, ⟨3, 1, .slice r4a (q.rows 4).length r4c, (q.rows 4).length, (q.rows 4).map (Value.int .i64)⟩, ⟨3, 1, .slice r5a (q.rows 5).length r5c, (q.rows 5).length, (q.rows 5).map (Value.int .i64)⟩, ⟨3, 1, .slice r6a (q.rows 6).length r6c, (q.rows 6).length, (q.rows 6).map (Value.int .i64)⟩, ⟨3, 1, .slice r7a (q.rows 7).length r7c, (q.rows 7).length, (q.rows 7).map (Value.int .i64)⟩]) := (G0.out.put 2 _).put 3 _
  clear G0
  have zz := G1.out.kr.cell 2 rfl
  go_wp2_with fail
  clear zz
  clear y0 y1 y2 y3 y4 y5 y6 y7 y8 y9 y10 yf
  revert G1
  generalize ((wr.setCell ⟨pb, 2, none⟩ (.int .i64 (q.states.length : Int))).setCell ⟨pb, 3, none⟩ (.int .i64 (q.events.length : Int))) = V10
  intro G1
  refine (sorted_own r2a r2c (q.rows 2) V10 (sl_of (G1.out.o _ (List.mem_of_getElem? (i := 3) rfl)).1).at_ (by omega)).mono ?_
  rintro e U1 ⟨v, rfl, ho, hb⟩
  obtain ⟨s2a, s2c, hv, -, -⟩ := Own.at ho
  subst hv
  have GB := Hid.of (G1.out.below hb)
  have G2 : Hid (FK w (U1.setCell ⟨pb, 7, none⟩ (.slice s2a (srt (q.rows 2)).length s2c)) pb #[.slice na q.states.length nc, .slice ma q.events.length mc, .int .i64 (q.states.length : Int), .int .i64 (q.events.length : Int), .slice none 0 0, .slice aa q.arrows.length ac, .slice none 0 0, .slice s2a (srt (q.rows 2)).length s2c, .slice none 0 0, .slice none 0 0, .slice none 0 0] #[rv 0, rv 1, .slice r2a (q.rows 2).length r2c, .slice r3a (q.rows 3).length r3c, .slice r4a (q.rows 4).length r4c, .slice r5a (q.rows 5).length r5c, .slice r6a (q.rows 6).length r6c, .slice r7a (q.rows 7).length r7c, rv 8] [⟨9, 1, .slice na q.states.length nc, q.states.length, q.states.map strV⟩, ⟨9, 1, .slice ma q.events.length mc, q.events.length, q.events.map strV⟩, ⟨60, 3, .slice aa q.arrows.length ac, q.arrows.length, aflat q.arrows⟩, ⟨3, 1, .slice r2a (q.rows 2).length r2c, (q.rows 2).length, (q.rows 2).map (Value.int .i64)⟩, ⟨3, 1, .slice r3a (q.rows 3).length r3c, (q.rows 3).length, (q.rows 3).map (Value.int .i64)⟩, ⟨3, 1, .slice r4a (q.rows 4).length r4c, (q.rows 4).length, (q.rows 4).map (Value.int .i64)⟩, ⟨3, 1, .slice r5a (q.rows 5).length r5c, (q.rows 5).length, (q.rows 5).map (Value.int .i64)⟩, ⟨3, 1, .slice r6a (q.rows 6).length r6c, (q.rows 6).length, (q.rows 6).map (Value.int .i64)⟩, ⟨3, 1, .slice r7a (q.rows 7).length r7c, (q.rows 7).length, (q.rows 7).map (Value.int .i64)⟩, ⟨3, 1, .slice s2a (srt (q.rows 2)).length s2c, (srt (q.rows 2)).length, (srt (q.rows 2)).map (Value.int .i64)⟩]) := FK.step G1.out hb (⟨3, 1, .slice s2a (srt (q.rows 2)).length s2c, (srt (q.rows 2)).length, (srt (q.rows 2)).map (Value.int .i64)⟩) ho ⟨by show (_ : TypeId) ≠ _; dsimp only; decide, by show (_ : TypeId) ≠ _; dsimp only; decide⟩ 7
  obtain ⟨y0, y1, y2, y3, y4, y5, y6, y7, y8, y9, y10⟩ := pj11 GB.out.kp
  have yf := GB.out.kp.frozen
  have zz := G2.out.kr.cell 3 rfl
  clear G1 GB ho hb
  go_wp2_with fail
  clear zz
  clear y0 y1 y2 y3 y4 y5 y6 y7 y8 y9 y10 yf
  revert G2
  generalize U1.setCell ⟨pb, 7, none⟩ (.slice s2a (srt (q.rows 2)).length s2c) = V11
  intro G2
  refine (sorted_own r3a r3c (q.rows 3) V11 (sl_of (G2.out.o _ (List.mem_of_getElem? (i := 4) rfl)).1).at_ (by omega)).mono ?_
  rintro e U2 ⟨v, rfl, ho, hb⟩
  obtain ⟨s3a, s3c, hv, -, -⟩ := Own.at ho
  subst hv
  have GB := Hid.of (G2.out.below hb)
  have G3 : Hid (FK w (U2.setCell ⟨pb, 8, none⟩ (.slice s3a (srt (q.rows 3)).length s3c)) pb #[.slice na q.states.length nc, .slice ma q.events.length mc, .int .i64 (q.states.length : Int), .int .i64 (q.events.length : Int), .slice none 0 0, .slice aa q.arrows.length ac, .slice none 0 0, .slice s2a (srt (q.rows 2)).length s2c, .slice s3a (srt (q.rows 3)).length s3c, .slice none 0 0, .slice none 0 0] #[rv 0, rv 1, .slice r2a (q.rows 2).length r2c, .slice r3a (q.rows 3).length r3c, .slice r4a (q.rows 4).length r4c, .slice r5a (q.rows 5).length r5c, .slice r6a (q.rows 6).length r6c, .slice r7a (q.rows 7).length r7c, rv 8] [⟨9, 1, .slice na q.states.length nc, q.states.length, q.states.map strV⟩, ⟨9, 1, .slice ma q.events.length mc, q.events.length, q.events.map strV⟩, ⟨60, 3, .slice aa q.arrows.length ac, q.arrows.length, aflat q.arrows⟩, ⟨3, 1, .slice r2a (q.rows 2).length r2c, (q.rows 2).length, (q.rows 2).map (Value.int .i64)⟩, ⟨3, 1, .slice r3a (q.rows 3).length r3c, (q.rows 3).length, (q.rows 3).map (Value.int .i64)⟩, ⟨3, 1, .slice r4a (q.rows 4).length r4c, (q.rows 4).length, (q.rows 4).map (Value.int .i64)⟩, ⟨3, 1, .slice r5a (q.rows 5).length r5c, (q.rows 5).length, (q.rows 5).map (Value.int .i64)⟩, ⟨3, 1, .slice r6a (q.rows 6).length r6c, (q.rows 6).length, (q.rows 6).map (Value.int .i64)⟩, ⟨3, 1, .slice r7a (q.rows 7).length r7c, (q.rows 7).length, (q.rows 7).map (Value.int .i64)⟩, ⟨3, 1, .slice s2a (srt (q.rows 2)).length s2c, (srt (q.rows 2)).length, (srt (q.rows 2)).map (Value.int .i64)⟩, ⟨3, 1, .slice s3a (srt (q.rows 3)).length s3c, (srt (q.rows 3)).length, (srt (q.rows 3)).map (Value.int .i64)⟩]) := FK.step G2.out hb (⟨3, 1, .slice s3a (srt (q.rows 3)).length s3c, (srt (q.rows 3)).length, (srt (q.rows 3)).map (Value.int .i64)⟩) ho ⟨by show (_ : TypeId) ≠ _; dsimp only; decide, by show (_ : TypeId) ≠ _; dsimp only; decide⟩ 8
  obtain ⟨y0, y1, y2, y3, y4, y5, y6, y7, y8, y9, y10⟩ := pj11 GB.out.kp
  have yf := GB.out.kp.frozen
  have zz := G3.out.kr.cell 4 rfl
  clear G2 GB ho hb
  go_wp2_with fail
  clear zz
  clear y0 y1 y2 y3 y4 y5 y6 y7 y8 y9 y10 yf
  revert G3
  generalize U2.setCell ⟨pb, 8, none⟩ (.slice s3a (srt (q.rows 3)).length s3c) = V12
  intro G3
  refine (sorted_own r4a r4c (q.rows 4) V12 (sl_of (G3.out.o _ (List.mem_of_getElem? (i := 5) rfl)).1).at_ (by omega)).mono ?_
  rintro e U3 ⟨v, rfl, ho, hb⟩
  obtain ⟨s4a, s4c, hv, -, -⟩ := Own.at ho
  subst hv
  have GB := Hid.of (G3.out.below hb)
  have G4 : Hid (FK w (U3.setCell ⟨pb, 9, none⟩ (.slice s4a (srt (q.rows 4)).length s4c)) pb #[.slice na q.states.length nc, .slice ma q.events.length mc, .int .i64 (q.states.length : Int), .int .i64 (q.events.length : Int), .slice none 0 0, .slice aa q.arrows.length ac, .slice none 0 0, .slice s2a (srt (q.rows 2)).length s2c, .slice s3a (srt (q.rows 3)).length s3c, .slice s4a (srt (q.rows 4)).length s4c, .slice none 0 0] #[rv 0, rv 1, .slice r2a (q.rows 2).length r2c, .slice r3a (q.rows 3).length r3c, .slice r4a (q.rows 4).length r4c, .slice r5a (q.rows 5).length r5c, .slice r6a (q.rows 6).length r6c, .slice r7a (q.rows 7).length r7c, rv 8] [⟨9, 1, .slice na q.states.length nc, q.states.length, q.states.map strV⟩, ⟨9, 1, .slice ma q.events.length mc, q.events.length, q.events.map strV⟩, ⟨60, 3, .slice aa q.arrows.length ac, q.arrows.length, aflat q.arrows⟩, ⟨3, 1, .slice r2a (q.rows 2).length r2c, (q.rows 2).length, (q.rows 2).map (Value.int .i64)⟩, ⟨3, 1, .slice r3a (q.rows 3).length r3c, (q.rows 3).length, (q.rows 3).map (Value.int .i64)⟩, ⟨3, 1, .slice r4a (q.rows 4).length r4c, (q.rows 4).length, (q.rows 4).map (Value.int .i64)⟩, ⟨3, 1, .slice r5a (q.rows 5).length r5c, (q.rows 5).length, (q.rows 5).map (Value.int .i64)⟩, ⟨3, 1, .slice r6a (q.rows 6).length r6c, (q.rows 6).length, (q.rows 6).map (Value.int .i64)⟩, ⟨3, 1, .slice r7a (q.rows 7).length r7c, (q.rows 7).length, (q.rows 7).map (Value.int .i64)⟩, ⟨3, 1, .slice s2a (srt (q.rows 2)).length s2c, (srt (q.rows 2)).length, (srt (q.rows 2)).map (Value.int .i64)⟩, ⟨3, 1, .slice s3a (srt (q.rows 3)).length s3c, (srt (q.rows 3)).length, (srt (q.rows 3)).map (Value.int .i64)⟩, ⟨3, 1, .slice s4a (srt (q.rows 4)).length s4c, (srt (q.rows 4)).length, (srt (q.rows 4)).map (Value.int .i64)⟩]) := FK.step G3.out hb (⟨3, 1, .slice s4a (srt (q.rows 4)).length s4c, (srt (q.rows 4)).length, (srt (q.rows 4)).map (Value.int .i64)⟩) ho ⟨by show (_ : TypeId) ≠ _; dsimp only; decide, by show (_ : TypeId) ≠ _; dsimp only; decide⟩ 9
  obtain ⟨y0, y1, y2, y3, y4, y5, y6, y7, y8, y9, y10⟩ := pj11 GB.out.kp
  have yf := GB.out.kp.frozen
  have zz := G4.out.kr.cell 5 rfl
  clear G3 GB ho hb
  go_wp2_with fail
  clear zz
  clear y0 y1 y2 y3 y4 y5 y6 y7 y8 y9 y10 yf
  revert G4
  generalize U3.setCell ⟨pb, 9, none⟩ (.slice s4a (srt (q.rows 4)).length s4c) = V13
  intro G4
  refine (sorted_own r5a r5c (q.rows 5) V13 (sl_of (G4.out.o _ (List.mem_of_getElem? (i := 6) rfl)).1).at_ (by omega)).mono ?_
  rintro e U4 ⟨v, rfl, ho, hb⟩
  obtain ⟨s5a, s5c, hv, -, -⟩ := Own.at ho
  subst hv
  have GB := Hid.of (G4.out.below hb)
  have G5 : Hid (FK w (U4.setCell ⟨pb, 10, none⟩ (.slice s5a (srt (q.rows 5)).length s5c)) pb #[.slice na q.states.length nc, .slice ma q.events.length mc, .int .i64 (q.states.length : Int), .int .i64 (q.events.length : Int), .slice none 0 0, .slice aa q.arrows.length ac, .slice none 0 0, .slice s2a (srt (q.rows 2)).length s2c, .slice s3a (srt (q.rows 3)).length s3c, .slice s4a (srt (q.rows 4)).length s4c, .slice s5a (srt (q.rows 5)).length s5c] #[rv 0, rv 1, .slice r2a (q.rows 2).length r2c, .slice r3a (q.rows 3).length r3c, .slice r4a (q.rows 4).length r4c, .slice r5a (q.rows 5).length r5c, .slice r6a (q.rows 6).length r6c, .slice r7a (q.rows 7).length r7c, rv 8] [⟨9, 1, .slice na q.states.length nc, q.states.length, q.states.map strV⟩, ⟨9, 1, .slice ma q.events.length mc, q.events.length, q.events.map strV⟩, ⟨60, 3, .slice aa q.arrows.length ac, q.arrows.length, aflat q.arrows⟩, ⟨3, 1, .slice r2a (q.rows 2).length r2c, (q.rows 2).length, (q.rows 2).map (Value.int .i64)⟩, ⟨3, 1, .slice r3a (q.rows 3).length r3c, (q.rows 3).length, (q.rows 3).map (Value.int .i64)⟩, ⟨3, 1, .slice r4a (q.rows 4).length r4c, (q.rows 4).length, (q.rows 4).map (Value.int .i64)⟩, ⟨3, 1, .slice r5a (q.rows 5).length r5c, (q.rows 5).length, (q.rows 5).map (Value.int .i64)⟩, ⟨3, 1, .slice r6a (q.rows 6).length r6c, (q.rows 6).length, (q.rows 6).map (Value.int .i64)⟩, ⟨3, 1, .slice r7a (q.rows 7).length r7c, (q.rows 7).length, (q.rows 7).map (Value.int .i64)⟩, ⟨3, 1, .slice s2a (srt (q.rows 2)).length s2c, (srt (q.rows 2)).length, (srt (q.rows 2)).map (Value.int .i64)⟩, ⟨3, 1, .slice s3a (srt (q.rows 3)).length s3c, (srt (q.rows 3)).length, (srt (q.rows 3)).map (Value.int .i64)⟩, ⟨3, 1, .slice s4a (srt (q.rows 4)).length s4c, (srt (q.rows 4)).length, (srt (q.rows 4)).map (Value.int .i64)⟩, ⟨3, 1, .slice s5a (srt (q.rows 5)).length s5c, (srt (q.rows 5)).length, (srt (q.rows 5)).map (Value.int .i64)⟩]) := FK.step G4.out hb (⟨3, 1, .slice s5a (srt (q.rows 5)).length s5c, (srt (q.rows 5)).length, (srt (q.rows 5)).map (Value.int .i64)⟩) ho ⟨by show (_ : TypeId) ≠ _; dsimp only; decide, by show (_ : TypeId) ≠ _; dsimp only; decide⟩ 10
  obtain ⟨y0, y1, y2, y3, y4, y5, y6, y7, y8, y9, y10⟩ := pj11 GB.out.kp
  have yf := GB.out.kp.frozen
  have zz := G5.out.kr.cell 6 rfl
  clear G4 GB ho hb
  go_wp2_with fail
  clear zz
  clear y0 y1 y2 y3 y4 y5 y6 y7 y8 y9 y10 yf
  revert G5
  generalize U4.setCell ⟨pb, 10, none⟩ (.slice s5a (srt (q.rows 5)).length s5c) = V14
  intro G5
  refine (sorted_own r6a r6c (q.rows 6) V14 (sl_of (G5.out.o _ (List.mem_of_getElem? (i := 7) rfl)).1).at_ (by omega)).mono ?_
  rintro e U5 ⟨v, rfl, ho, hb⟩
  obtain ⟨s6a, s6c, hv, -, -⟩ := Own.at ho
  subst hv
  have GB := Hid.of (G5.out.below hb)
  have G6 : Hid (FK w (U5.setCell ⟨pb, 4, none⟩ (.slice s6a (srt (q.rows 6)).length s6c)) pb #[.slice na q.states.length nc, .slice ma q.events.length mc, .int .i64 (q.states.length : Int), .int .i64 (q.events.length : Int), .slice s6a (srt (q.rows 6)).length s6c, .slice aa q.arrows.length ac, .slice none 0 0, .slice s2a (srt (q.rows 2)).length s2c, .slice s3a (srt (q.rows 3)).length s3c, .slice s4a (srt (q.rows 4)).length s4c, .slice s5a (srt (q.rows 5)).length s5c] #[rv 0, rv 1, .slice r2a (q.rows 2).length r2c, .slice r3a (q.rows 3).length r3c, .slice r4a (q.rows 4).length r4c, .slice r5a (q.rows 5).length r5c, .slice r6a (q.rows 6).length r6c, .slice r7a (q.rows 7).length r7c, rv 8] [⟨9, 1, .slice na q.states.length nc, q.states.length, q.states.map strV⟩, ⟨9, 1, .slice ma q.events.length mc, q.events.length, q.events.map strV⟩, ⟨60, 3, .slice aa q.arrows.length ac, q.arrows.length, aflat q.arrows⟩, ⟨3, 1, .slice r2a (q.rows 2).length r2c, (q.rows 2).length, (q.rows 2).map (Value.int .i64)⟩, ⟨3, 1, .slice r3a (q.rows 3).length r3c, (q.rows 3).length, (q.rows 3).map (Value.int .i64)⟩, ⟨3, 1, .slice r4a (q.rows 4).length r4c, (q.rows 4).length, (q.rows 4).map (Value.int .i64)⟩, ⟨3, 1, .slice r5a (q.rows 5).length r5c, (q.rows 5).length, (q.rows 5).map (Value.int .i64)⟩, ⟨3, 1, .slice r6a (q.rows 6).length r6c, (q.rows 6).length, (q.rows 6).map (Value.int .i64)⟩, ⟨3, 1, .slice r7a (q.rows 7).length r7c, (q.rows 7).length, (q.rows 7).map (Value.int .i64)⟩, ⟨3, 1, .slice s2a (srt (q.rows 2)).length s2c, (srt (q.rows 2)).length, (srt (q.rows 2)).map (Value.int .i64)⟩, ⟨3, 1, .slice s3a (srt (q.rows 3)).length s3c, (srt (q.rows 3)).length, (srt (q.rows 3)).map (Value.int .i64)⟩, ⟨3, 1, .slice s4a (srt (q.rows 4)).length s4c, (srt (q.rows 4)).length, (srt (q.rows 4)).map (Value.int .i64)⟩, ⟨3, 1, .slice s5a (srt (q.rows 5)).length s5c, (srt (q.rows 5)).length, (srt (q.rows 5)).map (Value.int .i64)⟩, ⟨3, 1, .slice s6a (srt (q.rows 6)).length s6c, (srt (q.rows 6)).length, (srt (q.rows 6)).map (Value.int .i64)⟩]) := FK.step G5.out hb (⟨3, 1, .slice s6a (srt (q.rows 6)).length s6c, (srt (q.rows 6)).length, (srt (q.rows 6)).map (Value.int .i64)⟩) ho ⟨by show (_ : TypeId) ≠ _; dsimp only; decide, by show (_ : TypeId) ≠ _; dsimp only; decide⟩ 4
  obtain ⟨y0, y1, y2, y3, y4, y5, y6, y7, y8, y9, y10⟩ := pj11 GB.out.kp
  have yf := GB.out.kp.frozen
  have zz := G6.out.kr.cell 7 rfl
  clear G5 GB ho hb
  go_wp2_with fail
  clear zz
  clear y0 y1 y2 y3 y4 y5 y6 y7 y8 y9 y10 yf
  revert G6
  generalize U5.setCell ⟨pb, 4, none⟩ (.slice s6a (srt (q.rows 6)).length s6c) = V15
  intro G6
  refine (sorted_own r7a r7c (q.rows 7) V15 (sl_of (G6.out.o _ (List.mem_of_getElem? (i := 8) rfl)).1).at_ (by omega)).mono ?_
  rintro e U6 ⟨v, rfl, ho, hb⟩
  obtain ⟨s7a, s7c, hv, -, -⟩ := Own.at ho
  subst hv
  have GB := Hid.of (G6.out.below hb)
  have G7 : Hid (FK w (U6.setCell ⟨pb, 6, none⟩ (.slice s7a (srt (q.rows 7)).length s7c)) pb #[.slice na q.states.length nc, .slice ma q.events.length mc, .int .i64 (q.states.length : Int), .int .i64 (q.events.length : Int), .slice s6a (srt (q.rows 6)).length s6c, .slice aa q.arrows.length ac, .slice s7a (srt (q.rows 7)).length s7c, .slice s2a (srt (q.rows 2)).length s2c, .slice s3a (srt (q.rows 3)).length s3c, .slice s4a (srt (q.rows 4)).length s4c, .slice s5a (srt (q.rows 5)).length s5c] #[rv 0, rv 1, .slice r2a (q.rows 2).length r2c, .slice r3a (q.rows 3).length r3c, .slice r4a (q.rows 4).length r4c, .slice r5a (q.rows 5).length r5c, .slice r6a (q.rows 6).length r6c, .slice r7a (q.rows 7).length r7c, rv 8] [⟨9, 1, .slice na q.states.length nc, q.states.length, q.states.map strV⟩, ⟨9, 1, .slice ma q.events.length mc, q.events.length, q.events.map strV⟩, ⟨60, 3, .slice aa q.arrows.length ac, q.arrows.length, aflat q.arrows⟩, ⟨3, 1, .slice r2a (q.rows 2).length r2c, (q.rows 2).length, (q.rows 2).map (Value.int .i64)⟩, ⟨3, 1, .slice r3a (q.rows 3).length r3c, (q.rows 3).length, (q.rows 3).map (Value.int .i64)⟩, ⟨3, 1, .slice r4a (q.rows 4).length r4c, (q.rows 4).length, (q.rows 4).map (Value.int .i64)⟩, ⟨3, 1, .slice r5a (q.rows 5).length r5c, (q.rows 5).length, (q.rows 5).map (Value.int .i64)⟩, ⟨3, 1, .slice r6a (q.rows 6).length r6c, (q.rows 6).length, (q.rows 6).map (Value.int .i64)⟩, ⟨3, 1, .slice r7a (q.rows 7).length r7c, (q.rows 7).length, (q.rows 7).map (Value.int .i64)⟩, ⟨3, 1, .slice s2a (srt (q.rows 2)).length s2c, (srt (q.rows 2)).length, (srt (q.rows 2)).map (Value.int .i64)⟩, ⟨3, 1, .slice s3a (srt (q.rows 3)).length s3c, (srt (q.rows 3)).length, (srt (q.rows 3)).map (Value.int .i64)⟩, ⟨3, 1, .slice s4a (srt (q.rows 4)).length s4c, (srt (q.rows 4)).length, (srt (q.rows 4)).map (Value.int .i64)⟩, ⟨3, 1, .slice s5a (srt (q.rows 5)).length s5c, (srt (q.rows 5)).length, (srt (q.rows 5)).map (Value.int .i64)⟩, ⟨3, 1, .slice s6a (srt (q.rows 6)).length s6c, (srt (q.rows 6)).length, (srt (q.rows 6)).map (Value.int .i64)⟩, ⟨3, 1, .slice s7a (srt (q.rows 7)).length s7c, (srt (q.rows 7)).length, (srt (q.rows 7)).map (Value.int .i64)⟩]) := FK.step G6.out hb (⟨3, 1, .slice s7a (srt (q.rows 7)).length s7c, (srt (q.rows 7)).length, (srt (q.rows 7)).map (Value.int .i64)⟩) ho ⟨by show (_ : TypeId) ≠ _; dsimp only; decide, by show (_ : TypeId) ≠ _; dsimp only; decide⟩ 6
  obtain ⟨y0, y1, y2, y3, y4, y5, y6, y7, y8, y9, y10⟩ := pj11 GB.out.kp
  have yf := GB.out.kp.frozen
  have zz := G7.out.kp.cell 5 rfl
  clear G6 GB ho hb
  go_wp2_with fail
  clear zz
  clear y0 y1 y2 y3 y4 y5 y6 y7 y8 y9 y10 yf
  revert G7
  generalize U6.setCell ⟨pb, 6, none⟩ (.slice s7a (srt (q.rows 7)).length s7c) = V16
  intro G7
  have ha := ownA_at3 (G7.out.o _ (List.mem_of_getElem? (i := 2) rfl)).1
  refine (refSort_own aa ac q.arrows V16 ha (by omega)).mono ?_
  clear ha
  rintro e U7 ⟨v, rfl, ho, hb⟩
  obtain ⟨ba, bc, hv, -, -, -, -⟩ := OwnA.at ho
  subst hv
  have GB := Hid.of (G7.out.below hb)
  have G8 : Hid (FK w (U7.setCell ⟨pb, 5, none⟩ (.slice ba (srtA q.arrows).length bc)) pb #[.slice na q.states.length nc, .slice ma q.events.length mc, .int .i64 (q.states.length : Int), .int .i64 (q.events.length : Int), .slice s6a (srt (q.rows 6)).length s6c, .slice ba (srtA q.arrows).length bc, .slice s7a (srt (q.rows 7)).length s7c, .slice s2a (srt (q.rows 2)).length s2c, .slice s3a (srt (q.rows 3)).length s3c, .slice s4a (srt (q.rows 4)).length s4c, .slice s5a (srt (q.rows 5)).length s5c] #[rv 0, rv 1, .slice r2a (q.rows 2).length r2c, .slice r3a (q.rows 3).length r3c, .slice r4a (q.rows 4).length r4c, .slice r5a (q.rows 5).length r5c, .slice r6a (q.rows 6).length r6c, .slice r7a (q.rows 7).length r7c, rv 8] [⟨9, 1, .slice na q.states.length nc, q.states.length, q.states.map strV⟩, ⟨9, 1, .slice ma q.events.length mc, q.events.length, q.events.map strV⟩, ⟨60, 3, .slice aa q.arrows.length ac, q.arrows.length, aflat q.arrows⟩, ⟨3, 1, .slice r2a (q.rows 2).length r2c, (q.rows 2).length, (q.rows 2).map (Value.int .i64)⟩, ⟨3, 1, .slice r3a (q.rows 3).length r3c, (q.rows 3).length, (q.rows 3).map (Value.int .i64)⟩, ⟨3, 1, .slice r4a (q.rows 4).length r4c, (q.rows 4).length, (q.rows 4).map (Value.int .i64)⟩, ⟨3, 1, .slice r5a (q.rows 5).length r5c, (q.rows 5).length, (q.rows 5).map (Value.int .i64)⟩, ⟨3, 1, .slice r6a (q.rows 6).length r6c, (q.rows 6).length, (q.rows 6).map (Value.int .i64)⟩, ⟨3, 1, .slice r7a (q.rows 7).length r7c, (q.rows 7).length, (q.rows 7).map (Value.int .i64)⟩, ⟨3, 1, .slice s2a (srt (q.rows 2)).length s2c, (srt (q.rows 2)).length, (srt (q.rows 2)).map (Value.int .i64)⟩, ⟨3, 1, .slice s3a (srt (q.rows 3)).length s3c, (srt (q.rows 3)).length, (srt (q.rows 3)).map (Value.int .i64)⟩, ⟨3, 1, .slice s4a (srt (q.rows 4)).length s4c, (srt (q.rows 4)).length, (srt (q.rows 4)).map (Value.int .i64)⟩, ⟨3, 1, .slice s5a (srt (q.rows 5)).length s5c, (srt (q.rows 5)).length, (srt (q.rows 5)).map (Value.int .i64)⟩, ⟨3, 1, .slice s6a (srt (q.rows 6)).length s6c, (srt (q.rows 6)).length, (srt (q.rows 6)).map (Value.int .i64)⟩, ⟨3, 1, .slice s7a (srt (q.rows 7)).length s7c, (srt (q.rows 7)).length, (srt (q.rows 7)).map (Value.int .i64)⟩, ⟨60, 3, .slice ba (srtA q.arrows).length bc, (srtA q.arrows).length, aflat (srtA q.arrows)⟩]) := FK.step G7.out hb (⟨60, 3, .slice ba (srtA q.arrows).length bc, (srtA q.arrows).length, aflat (srtA q.arrows)⟩) ho ⟨by show (_ : TypeId) ≠ _; dsimp only; decide, by show (_ : TypeId) ≠ _; dsimp only; decide⟩ 5
  obtain ⟨y0, y1, y2, y3, y4, y5, y6, y7, y8, y9, y10⟩ := pj11 GB.out.kp
  have yf := GB.out.kp.frozen
  obtain ⟨z0, z1, z2, z3, z4, z5, z6, z7, z8, z9, z10⟩ := pj11 G8.out.kp
  have zf := G8.out.kp.frozen
  obtain ⟨e0, e1, e2, e3, e4, e5, e6, e7, e8, e9, e10⟩ := pj11 G8.out.k2
  have ef := G8.out.k2.frozen
  have f0 := G8.out.k3.cell 0 rfl
  have f1 := G8.out.k3.cell 1 rfl
  have ff := G8.out.k3.frozen
  have GK2 : Hid (Blk (setPJ (U7.setCell ⟨pb, 5, none⟩ (.slice ba (srtA q.arrows).length bc)) w.heap.size (w.heap.size + 1) (.slice na q.states.length nc) (.slice ma q.events.length mc) (.int .i64 (q.states.length : Int)) (.int .i64 (q.events.length : Int)) (.slice s6a (srt (q.rows 6)).length s6c) (.slice ba (srtA q.arrows).length bc) (.slice s7a (srt (q.rows 7)).length s7c) (.slice s2a (srt (q.rows 2)).length s2c) (.slice s3a (srt (q.rows 3)).length s3c) (.slice s4a (srt (q.rows 4)).length s4c) (.slice s5a (srt (q.rows 5)).length s5c) (.int .i64 0) (.int .i64 0)) w.heap.size 28 #[.slice na q.states.length nc, .slice ma q.events.length mc, .int .i64 (q.states.length : Int), .int .i64 (q.events.length : Int), .slice s6a (srt (q.rows 6)).length s6c, .slice ba (srtA q.arrows).length bc, .slice s7a (srt (q.rows 7)).length s7c, .slice s2a (srt (q.rows 2)).length s2c, .slice s3a (srt (q.rows 3)).length s3c, .slice s4a (srt (q.rows 4)).length s4c, .slice s5a (srt (q.rows 5)).length s5c]) := setPJ_two _ _ _ _ _ _ _ _ _ _ _ _ _ G8.out.k2 (by omega)
  have GK3 : Hid (Blk (setPJ (U7.setCell ⟨pb, 5, none⟩ (.slice ba (srtA q.arrows).length bc)) w.heap.size (w.heap.size + 1) (.slice na q.states.length nc) (.slice ma q.events.length mc) (.int .i64 (q.states.length : Int)) (.int .i64 (q.events.length : Int)) (.slice s6a (srt (q.rows 6)).length s6c) (.slice ba (srtA q.arrows).length bc) (.slice s7a (srt (q.rows 7)).length s7c) (.slice s2a (srt (q.rows 2)).length s2c) (.slice s3a (srt (q.rows 3)).length s3c) (.slice s4a (srt (q.rows 4)).length s4c) (.slice s5a (srt (q.rows 5)).length s5c) (.int .i64 0) (.int .i64 0)) (w.heap.size + 1) 31 #[.int .i64 0, .int .i64 0]) := setPJ_three _ _ _ _ _ _ _ _ _ _ _ _ _ G8.out.k3 (by omega)
  have GBL : Hid (Below w.heap.size w (setPJ (U7.setCell ⟨pb, 5, none⟩ (.slice ba (srtA q.arrows).length bc)) w.heap.size (w.heap.size + 1) (.slice na q.states.length nc) (.slice ma q.events.length mc) (.int .i64 (q.states.length : Int)) (.int .i64 (q.events.length : Int)) (.slice s6a (srt (q.rows 6)).length s6c) (.slice ba (srtA q.arrows).length bc) (.slice s7a (srt (q.rows 7)).length s7c) (.slice s2a (srt (q.rows 2)).length s2c) (.slice s3a (srt (q.rows 3)).length s3c) (.slice s4a (srt (q.rows 4)).length s4c) (.slice s5a (srt (q.rows 5)).length s5c) (.int .i64 0) (.int .i64 0))) := setPJ_below _ _ _ _ _ _ _ _ _ _ _ _ _ G8.out.bel (Nat.le_refl _) (by omega)
  have GP : Hid (PjAt (setPJ (U7.setCell ⟨pb, 5, none⟩ (.slice ba (srtA q.arrows).length bc)) w.heap.size (w.heap.size + 1) (.slice na q.states.length nc) (.slice ma q.events.length mc) (.int .i64 (q.states.length : Int)) (.int .i64 (q.events.length : Int)) (.slice s6a (srt (q.rows 6)).length s6c) (.slice ba (srtA q.arrows).length bc) (.slice s7a (srt (q.rows 7)).length s7c) (.slice s2a (srt (q.rows 2)).length s2c) (.slice s3a (srt (q.rows 3)).length s3c) (.slice s4a (srt (q.rows 4)).length s4c) (.slice s5a (srt (q.rows 5)).length s5c) (.int .i64 0) (.int .i64 0)) (psEnd q) ⟨na, nc, ma, mc, ⟨s6a, s6c, ba, bc, s7a, s7c⟩, s2a, s2c, s3a, s3c, s4a, s4c, s5a, s5c⟩) := ⟨sls_of (G8.out.fin (.slice na q.states.length nc) (.slice ma q.events.length mc) (.int .i64 (q.states.length : Int)) (.int .i64 (q.events.length : Int)) (.slice s6a (srt (q.rows 6)).length s6c) (.slice ba (srtA q.arrows).length bc) (.slice s7a (srt (q.rows 7)).length s7c) (.slice s2a (srt (q.rows 2)).length s2c) (.slice s3a (srt (q.rows 3)).length s3c) (.slice s4a (srt (q.rows 4)).length s4c) (.slice s5a (srt (q.rows 5)).length s5c) (.int .i64 0) (.int .i64 0) _ (List.mem_of_getElem? (i := 0) rfl)), sls_of (G8.out.fin (.slice na q.states.length nc) (.slice ma q.events.length mc) (.int .i64 (q.states.length : Int)) (.int .i64 (q.events.length : Int)) (.slice s6a (srt (q.rows 6)).length s6c) (.slice ba (srtA q.arrows).length bc) (.slice s7a (srt (q.rows 7)).length s7c) (.slice s2a (srt (q.rows 2)).length s2c) (.slice s3a (srt (q.rows 3)).length s3c) (.slice s4a (srt (q.rows 4)).length s4c) (.slice s5a (srt (q.rows 5)).length s5c) (.int .i64 0) (.int .i64 0) _ (List.mem_of_getElem? (i := 1) rfl)), mat_of ( (G8.out.fin (.slice na q.states.length nc) (.slice ma q.events.length mc) (.int .i64 (q.states.length : Int)) (.int .i64 (q.events.length : Int)) (.slice s6a (srt (q.rows 6)).length s6c) (.slice ba (srtA q.arrows).length bc) (.slice s7a (srt (q.rows 7)).length s7c) (.slice s2a (srt (q.rows 2)).length s2c) (.slice s3a (srt (q.rows 3)).length s3c) (.slice s4a (srt (q.rows 4)).length s4c) (.slice s5a (srt (q.rows 5)).length s5c) (.int .i64 0) (.int .i64 0) _ (List.mem_of_getElem? (i := 13) rfl))) ( (G8.out.fin (.slice na q.states.length nc) (.slice ma q.events.length mc) (.int .i64 (q.states.length : Int)) (.int .i64 (q.events.length : Int)) (.slice s6a (srt (q.rows 6)).length s6c) (.slice ba (srtA q.arrows).length bc) (.slice s7a (srt (q.rows 7)).length s7c) (.slice s2a (srt (q.rows 2)).length s2c) (.slice s3a (srt (q.rows 3)).length s3c) (.slice s4a (srt (q.rows 4)).length s4c) (.slice s5a (srt (q.rows 5)).length s5c) (.int .i64 0) (.int .i64 0) _ (List.mem_of_getElem? (i := 15) rfl))) ( (G8.out.fin (.slice na q.states.length nc) (.slice ma q.events.length mc) (.int .i64 (q.states.length : Int)) (.int .i64 (q.events.length : Int)) (.slice s6a (srt (q.rows 6)).length s6c) (.slice ba (srtA q.arrows).length bc) (.slice s7a (srt (q.rows 7)).length s7c) (.slice s2a (srt (q.rows 2)).length s2c) (.slice s3a (srt (q.rows 3)).length s3c) (.slice s4a (srt (q.rows 4)).length s4c) (.slice s5a (srt (q.rows 5)).length s5c) (.int .i64 0) (.int .i64 0) _ (List.mem_of_getElem? (i := 14) rfl))), sl_of (G8.out.fin (.slice na q.states.length nc) (.slice ma q.events.length mc) (.int .i64 (q.states.length : Int)) (.int .i64 (q.events.length : Int)) (.slice s6a (srt (q.rows 6)).length s6c) (.slice ba (srtA q.arrows).length bc) (.slice s7a (srt (q.rows 7)).length s7c) (.slice s2a (srt (q.rows 2)).length s2c) (.slice s3a (srt (q.rows 3)).length s3c) (.slice s4a (srt (q.rows 4)).length s4c) (.slice s5a (srt (q.rows 5)).length s5c) (.int .i64 0) (.int .i64 0) _ (List.mem_of_getElem? (i := 9) rfl)), sl_of (G8.out.fin (.slice na q.states.length nc) (.slice ma q.events.length mc) (.int .i64 (q.states.length : Int)) (.int .i64 (q.events.length : Int)) (.slice s6a (srt (q.rows 6)).length s6c) (.slice ba (srtA q.arrows).length bc) (.slice s7a (srt (q.rows 7)).length s7c) (.slice s2a (srt (q.rows 2)).length s2c) (.slice s3a (srt (q.rows 3)).length s3c) (.slice s4a (srt (q.rows 4)).length s4c) (.slice s5a (srt (q.rows 5)).length s5c) (.int .i64 0) (.int .i64 0) _ (List.mem_of_getElem? (i := 10) rfl)), sl_of (G8.out.fin (.slice na q.states.length nc) (.slice ma q.events.length mc) (.int .i64 (q.states.length : Int)) (.int .i64 (q.events.length : Int)) (.slice s6a (srt (q.rows 6)).length s6c) (.slice ba (srtA q.arrows).length bc) (.slice s7a (srt (q.rows 7)).length s7c) (.slice s2a (srt (q.rows 2)).length s2c) (.slice s3a (srt (q.rows 3)).length s3c) (.slice s4a (srt (q.rows 4)).length s4c) (.slice s5a (srt (q.rows 5)).length s5c) (.int .i64 0) (.int .i64 0) _ (List.mem_of_getElem? (i := 11) rfl)), sl_of (G8.out.fin (.slice na q.states.length nc) (.slice ma q.events.length mc) (.int .i64 (q.states.length : Int)) (.int .i64 (q.events.length : Int)) (.slice s6a (srt (q.rows 6)).length s6c) (.slice ba (srtA q.arrows).length bc) (.slice s7a (srt (q.rows 7)).length s7c) (.slice s2a (srt (q.rows 2)).length s2c) (.slice s3a (srt (q.rows 3)).length s3c) (.slice s4a (srt (q.rows 4)).length s4c) (.slice s5a (srt (q.rows 5)).length s5c) (.int .i64 0) (.int .i64 0) _ (List.mem_of_getElem? (i := 12) rfl))⟩
  clear G7 G8 GB ho hb
  go_wp2_with fail
  exact bodyPost_ret (results_pj (p := 2) (u := 3) rfl _ _ (w.heap.size) (w.heap.size + 1) _ _ _ _ _ _ _ _ _ _ _ _ _ _ _ _ _ _ _ _ _ _ _ _ _ _ _ _ _ _ _ rfl rfl GK2.out GK3.out) rfl ⟨⟨na, nc, ma, mc, ⟨s6a, s6c, ba, bc, s7a, s7c⟩, s2a, s2c, s3a, s3c, s4a, s4c, s5a, s5c⟩, by rw [HP.out]; rfl, by rw [HP.out]; exact GP.out, GBL.out⟩

end Go.Proofs.Ytbgiliophmofgaa
